/-
  Parts of the proof: Prs11, Clo7, Clo13a, Clo18, Long, Put3, Prs12.
-/
import Derived.Test.YtglohanbpjaieaaGreatBrt21
import Derived.Test.YtglohanbpjaieaaGreatBrt24
import Derived.Test.YtglohanbpjaieaaGreatBrt20
import Derived.Test.YtglohanbpjaieaaGreatBrt22
import Derived.Test.YtglohanbpjaieaaGreatBrt9
import Derived.Test.YtglohanbpjaieaaGreatBrt2
import Derived.Test.YtglohanbpjaieaaGreatBrt3
namespace Go.Proofs.YtglohanbpjaieaaGreat
open Go.Proofs Go.RowKit Go.Shelf Go.Maps
namespace Sn
theorem pigeon:∀ (n:Nat) (l:List Int),l.Nodup→(∀ x∈l,-(n:Int)≤x∧x < 0)→l.length≤n:=by
 intro n
 induction n with
 | zero =>
  intro l _ h
  cases l with
  | nil=>simp
  | cons x l=>have:=h x (by simp);omega
 | succ n ih =>
  intro l hn h
  by_cases hm:-((n:Int)+1)∈l
  ·have h1:=ih (l.erase (-((n:Int)+1))) (hn.erase _) (fun x hx=>by
    have h2:=(hn.mem_erase_iff).1 hx
    have h3:=h x h2.2
    have h4:=h2.1
    omega)
   rw [List.length_erase_of_mem hm] at h1
   omega
  ·have h1:=ih l hn (fun x hx=>by
    have h3:=h x hx
    refine ⟨?_,h3.2⟩
    by_cases e:x = -((n:Int)+1)
    ·subst e;exact absurd hx hm
    ·omega)
   omega
theorem see_cases (seen:List Int) (s:Int):(0≤s∧Tm.see seen s = seen)∨(s < 0∧seen.contains s = true∧Tm.see seen s = seen)∨(s < 0∧seen.contains s = false∧Tm.see seen s = seen++[s]):=by
 unfold Tm.see
 by_cases hs:s < 0
 ·rw [if_pos hs]
  cases hc:seen.contains s with
  | true=>exact .inr (.inl ⟨hs,rfl,by rw [if_pos rfl]⟩)
  | false=>exact .inr (.inr ⟨hs,rfl,by rw [if_neg (by simp)]⟩)
 ·rw [if_neg hs];exact .inl ⟨by omega,rfl⟩
theorem see_pre (seen:List Int) (s:Int):∃ r,Tm.see seen s = seen++r:=by
 rcases see_cases seen s with ⟨_,h⟩ | ⟨_,_,h⟩ | ⟨_,_,h⟩
 ·exact ⟨[],by rw [h,List.append_nil]⟩
 ·exact ⟨[],by rw [h,List.append_nil]⟩
 ·exact ⟨[s],h⟩
theorem seen_cons (seen:List Int) (s:Int) (l:List Int):Tm.seenFrom seen (s :: l) = Tm.seenFrom (Tm.see seen s) l:=rfl
theorem seen_app (seen l r:List Int):Tm.seenFrom seen (l++r) = Tm.seenFrom (Tm.seenFrom seen l) r:=by simp [Tm.seenFrom,List.foldl_append]
theorem seen_pre:∀ (t seen:List Int),∃ r,Tm.seenFrom seen t = seen++r:=by
 intro t
 induction t with
 | nil=>intro seen;exact ⟨[],by rw [List.append_nil];rfl⟩
 | cons s l ih =>
  intro seen
  obtain ⟨r1,h1⟩:=see_pre seen s
  obtain ⟨r2,h2⟩:=ih (Tm.see seen s)
  exact ⟨r1++r2,by rw [seen_cons,h2,h1,List.append_assoc]⟩
theorem see_mem (seen:List Int) {s:Int} (hs:s < 0):(Tm.see seen s).contains s = true:=by
 rcases see_cases seen s with ⟨h,_⟩ | ⟨_,h,e⟩ | ⟨_,_,e⟩
 ·omega
 ·rw [e];exact h
 ·rw [e];simp
theorem see_nodup {seen:List Int} (h:seen.Nodup) (s:Int):(Tm.see seen s).Nodup:=by
 rcases see_cases seen s with ⟨_,e⟩ | ⟨_,_,e⟩ | ⟨_,hc,e⟩
 ·rw [e];exact h
 ·rw [e];exact h
 ·rw [e]
  have hn:¬ s∈seen:=by simpa using hc
  rw [List.nodup_append]
  exact ⟨h,by simp,fun a ha b hb=>by simp at hb;subst hb;rintro rfl;exact hn ha⟩
theorem seen_nodup:∀ (t seen:List Int),seen.Nodup→(Tm.seenFrom seen t).Nodup:=by
 intro t
 induction t with
 | nil=>intro seen h;exact h
 | cons s l ih=>intro seen h;exact ih _ (see_nodup h s)
theorem see_neg {seen:List Int} (h:∀ x∈seen,-8≤x∧x < 0) {s:Int} (h8:-8≤s):∀ x∈Tm.see seen s,-8≤x∧x < 0:=by
 rcases see_cases seen s with ⟨_,e⟩ | ⟨_,_,e⟩ | ⟨hs,_,e⟩
 ·rw [e];exact h
 ·rw [e];exact h
 ·rw [e]
  intro x hx
  rw [List.mem_append] at hx
  rcases hx with hx | hx
  ·exact h x hx
  ·simp at hx;subst hx;exact ⟨h8,hs⟩
theorem seen_neg:∀ (t seen:List Int),t.all Tm.known = true→(∀ x∈seen,-8≤x∧x < 0)→∀ x∈Tm.seenFrom seen t,-8≤x∧x < 0:=by
 intro t
 induction t with
 | nil=>intro seen _ h;exact h
 | cons s l ih =>
  intro seen hk h
  rw [List.all_cons,Bool.and_eq_true] at hk
  exact ih _ hk.2 (see_neg h (Tm.known_ge hk.1))
theorem idx_lt {seen:List Int} {s:Int} (h:seen.contains s = true):Tm.idx seen s < seen.length:=by
 unfold Tm.idx
 rw [List.findIdx_lt_length]
 exact ⟨s,by simpa using h,by simp⟩
theorem idx_last {seen:List Int} {s:Int} (h:seen.contains s = false):Tm.idx (seen++[s]) s = seen.length:=by
 unfold Tm.idx
 rw [List.findIdx_append,if_neg]
 ·simp
 ·rw [List.findIdx_lt_length]
  rintro ⟨y,hy,e⟩
  have e':y = s:=by simpa using e
  subst e'
  have:¬ y∈seen:=by simpa using h
  exact this hy
def ren (S:List Int) (s:Int):Int:=if s < 0 then -1 - (Tm.idx S s:Int) else s
theorem name_ren (seen r:List Int) (s:Int):Tm.name seen s = ren (Tm.see seen s++r) s:=by
 unfold Tm.name ren
 by_cases hs:s < 0
 ·rw [if_pos hs,if_pos hs,Tm.idx_app (see_mem seen hs)]
  rcases see_cases seen s with ⟨h,_⟩ | ⟨_,_,e⟩ | ⟨_,hc,e⟩
  ·omega
  ·rw [e]
  ·rw [e,idx_last hc,Tm.idx_new hc]
 ·rw [if_neg hs,if_neg hs]
theorem plain_map (t seen r:List Int):Tm.plainTo seen t t.length = t.map (ren (Tm.seenFrom seen t++r)):=by
 refine List.ext_getElem (by simp [Tm.plainTo_length]) fun i h1 h2=>?_
 rw [Tm.plainTo_length] at h1
 have hl:(Tm.plainTo seen t t.length)[i]'(by rw [Tm.plainTo_length];exact h1) = Tm.name (Tm.seenFrom seen (t.take i)) t[i]:=by simp [Tm.plainTo,h1]
 rw [List.getElem_map,hl]
 have hd:t = t.take i++(t[i] :: t.drop (i+1)):=by rw [← List.drop_eq_getElem_cons h1,List.take_append_drop]
 obtain ⟨r',hr'⟩:=seen_pre (t.drop (i+1)) (Tm.see (Tm.seenFrom seen (t.take i)) t[i])
 have hS:Tm.seenFrom seen t++r = Tm.see (Tm.seenFrom seen (t.take i)) t[i]++(r'++r):=by
  conv=>lhs;rw [hd]
  rw [seen_app,seen_cons,hr',List.append_assoc]
 have hf:=name_ren (Tm.seenFrom seen (t.take i)) (r'++r) t[i]
 rw [← hS] at hf
 exact hf
def renL (S:List Int):List (List Int):=(List.range 8).map fun i:Nat=>if S.contains (-1 - (i:Int)) = true then [-1 - (Tm.idx S (-1 - (i:Int)):Int)] else [-1]
theorem renL_at (S:List Int) {i:Nat} (h:i < 8):(renL S)[i]?.getD [] = if S.contains (-1 - (i:Int)) = true then [-1 - (Tm.idx S (-1 - (i:Int)):Int)] else [-1]:=by
 unfold renL
 rw [List.getElem?_map,List.getElem?_range h]
 rfl
theorem err_var {v:Int} (h1:-8≤v) (h2:v < 0):Tm.err [v] = 0:=by
 refine Tm.err_ok (by simp) (by simp only [List.all_cons,List.all_nil,Bool.and_true];exact Tm.known_of h1 (by omega)) ?_
 rw [show (1:Nat) = 0+1 from rfl,Tm.run_cons,Wb.room_var h2,Tm.run_zero]
 rfl
theorem renL_err {S:List Int} (h8:S.length≤8):Tm.subErr (renL S) = 0:=by
 unfold Tm.subErr
 rw [if_pos (by simp [renL])]
 refine Tm.firstErr_of fun i hi=>?_
 have hi8:i < 8:=by simpa [renL] using hi
 rw [renL_at S hi8]
 by_cases hc:S.contains (-1 - (i:Int)) = true
 ·rw [if_pos hc]
  have:=idx_lt hc
  exact err_var (by omega) (by omega)
 ·rw [if_neg hc];exact err_var (by omega) (by omega)
theorem applied_ren {S:List Int}:∀ (t:List Int),t.all Tm.known = true→(∀ s∈t,s < 0→S.contains s = true)→Tm.applied (renL S) t = t.map (ren S):=by
 intro t
 induction t with
 | nil=>intro _ _;rfl
 | cons s l ih =>
  intro hk hm
  rw [List.all_cons,Bool.and_eq_true] at hk
  rw [Tm.applied_cons,ih hk.2 (fun x hx=>hm x (by simp [hx])),List.map_cons]
  have h8:=Tm.known_ge hk.1
  have:Tm.piece (renL S) s = [ren S s]:=by
   unfold Tm.piece ren
   by_cases hs:s < 0
   ·rw [if_pos hs,if_pos hs,renL_at S (by omega),show -1 - (((-1 - s).toNat:Nat):Int) = s from by omega,if_pos (hm s (by simp) hs)]
   ·rw [if_neg hs,if_neg hs]
  rw [this]
  rfl
theorem seen_has:∀ (t seen:List Int) (s:Int),s < 0→(s∈t∨seen.contains s = true)→(Tm.seenFrom seen t).contains s = true:=by
 intro t
 induction t with
 | nil =>
  intro seen s _ h
  rcases h with h | h
  ·simp at h
  ·exact h
 | cons x l ih =>
  intro seen s hs h
  rw [seen_cons]
  refine ih _ s hs ?_
  rcases h with h | h
  ·rcases List.mem_cons.1 h with rfl | h
   ·exact .inr (see_mem seen hs)
   ·exact .inl h
  ·obtain ⟨r,e⟩:=see_pre seen x
   rw [e]
   right
   simp at h ⊢
   exact .inl h
end Sn
theorem Tm.plain_ren {X Y:List Int} (eX:Tm.err X = 0) (eY:Tm.err Y = 0):∃ ss,Tm.subErr ss = 0∧Tm.plain X = Tm.applied ss X∧Tm.plain2 X Y = Tm.applied ss Y∧Tm.err (Tm.plain X) = 0∧Tm.err (Tm.plain2 X Y) = 0:=by
 have kX:=Tm.err_all eX
 have kY:=Tm.err_all eY
 have hneg:∀ x∈Tm.seenFrom (Tm.seenFrom [] X) Y,-8≤x∧x < 0:=Sn.seen_neg Y _ kY (Sn.seen_neg X [] kX (fun x hx=>by simp at hx))
 have hnd:(Tm.seenFrom (Tm.seenFrom [] X) Y).Nodup:=Sn.seen_nodup Y _ (Sn.seen_nodup X [] List.nodup_nil)
 have h8:=Sn.pigeon 8 _ hnd hneg
 have hss:=Sn.renL_err h8
 obtain ⟨r,hr⟩:=Sn.seen_pre Y (Tm.seenFrom [] X)
 have pX:Tm.plain X = Tm.applied (Sn.renL (Tm.seenFrom (Tm.seenFrom [] X) Y)) X:=by
  rw [Sn.applied_ren X kX (fun s hs h=>Sn.seen_has Y _ s h (.inr (Sn.seen_has X [] s h (.inl hs))))]
  have:=Sn.plain_map X [] r
  rw [← hr] at this
  exact this
 have pY:Tm.plain2 X Y = Tm.applied (Sn.renL (Tm.seenFrom (Tm.seenFrom [] X) Y)) Y:=by
  rw [Sn.applied_ren Y kY (fun s hs h=>Sn.seen_has Y _ s h (.inl hs))]
  have:=Sn.plain_map Y (Tm.seenFrom [] X) []
  rw [List.append_nil] at this
  exact this
 refine ⟨_,hss,pX,pY,?_,?_⟩
 ·rw [pX]
  refine Tm.err_applied (Terms.of hss) eX ?_
  rw [← pX]
  show (Tm.plainTo [] X X.length).length≤30
  rw [Tm.plainTo_length]
  exact Tm.err_len eX
 ·rw [pY]
  refine Tm.err_applied (Terms.of hss) eY ?_
  rw [← pY]
  show (Tm.plainTo (Tm.seenFrom [] X) Y Y.length).length≤30
  rw [Tm.plainTo_length]
  exact Tm.err_len eY
end Go.Proofs.YtglohanbpjaieaaGreat
namespace Go.Proofs.YtglohanbpjaieaaGreat
open Go.Proofs Go.RowKit Go.Shelf Go.Maps
theorem Tm.form_right {rs:RuleL} {t:List Int} (h:(Tm.form rs t).2.2 = 0):Tm.err (Tm.form rs t).1 = 0:=by
 obtain ⟨n,_,hr,_⟩:=Tm.form_runs h
 exact (Tm.stepErr_term (Tm.runs_end hr).1).2.1
theorem Tm.joinErr_two {rs:RuleL} {P Q:List Int} (h:Tm.joinErr rs P Q = 0):(Tm.form rs P).2.2 = 0∧(Tm.form rs Q).2.2 = 0:=by
 unfold Tm.joinErr at h
 by_cases h1:(Tm.form rs P).2.2 = 0
 ·rw [if_pos h1] at h;exact ⟨h1,h⟩
 ·rw [if_neg h1] at h;exact absurd h h1
def Tm.TurnSays (rk:List Int) (rs:RuleL) (ps:PairL) (er:Int) (rs':RuleL) (ps':PairL):Prop :=
 (Tm.turnErr rk rs ps≠0∧er = Tm.turnErr rk rs ps∧rs' = []∧ps' = []) ∨
 (Tm.turnErr rk rs ps = 0∧∃ p l,ps = p :: l ∧
   ((Tm.joinErr rs p.1 p.2≠0∧er = Tm.joinErr rs p.1 p.2∧rs' = []∧ps' = []) ∨
    (Tm.joinErr rs p.1 p.2 = 0∧(Tm.form rs p.1).1 = (Tm.form rs p.2).1∧er = 0∧rs' = rs∧ps' = l) ∨
    (Tm.joinErr rs p.1 p.2 = 0∧(Tm.form rs p.1).1≠(Tm.form rs p.2).1∧(Tm.dir rk (Tm.form rs p.1).1 (Tm.form rs p.2).1).1≠0∧er = (Tm.dir rk (Tm.form rs p.1).1 (Tm.form rs p.2).1).1∧rs' = []∧ps' = []) ∨
    (Tm.joinErr rs p.1 p.2 = 0∧(Tm.form rs p.1).1≠(Tm.form rs p.2).1∧(Tm.dir rk (Tm.form rs p.1).1 (Tm.form rs p.2).1).1 = 0∧Tm.WithSays rs l (Tm.dir rk (Tm.form rs p.1).1 (Tm.form rs p.2).1).2.1 (Tm.dir rk (Tm.form rs p.1).1 (Tm.form rs p.2).1).2.2 er rs' ps')))
theorem Tm.turnErr_zero {rk:List Int} {rs:RuleL} {ps:PairL} (h:Tm.turnErr rk rs ps = 0):Tm.rankErr rk = 0∧ps.length≤40∧Tm.firstPair ps = 0∧Tm.rulesErr rs = 0∧Tm.fallsErr rk rs = 0∧Tm.fallsVal rk rs = true∧0 < ps.length:=by
 unfold Tm.turnErr at h
 by_cases h1:Tm.bothErr rk ps = 0
 ·rw [if_pos h1] at h
  by_cases h2:Tm.fallsErr rk rs = 0
  ·rw [if_pos h2] at h
   by_cases h3:Tm.fallsVal rk rs = true
   ·rw [if_pos h3] at h
    by_cases h4:ps.length = 0
    ·rw [if_pos h4] at h;cases h
    ·unfold Tm.bothErr at h1
     by_cases h5:Tm.rankErr rk = 0
     ·rw [if_pos h5] at h1
      unfold Tm.eqsErr at h1
      by_cases h6:40 < ps.length
      ·rw [if_pos h6] at h1;cases h1
      ·rw [if_neg h6] at h1
       have h7:=h2
       unfold Tm.fallsErr at h7
       rw [if_pos h5] at h7
       exact ⟨h5,by omega,h1,h7,h2,h3,by omega⟩
     ·rw [if_neg h5] at h1;exact absurd h1 h5
   ·rw [if_neg h3] at h;cases h
  ·rw [if_neg h2] at h;exact absurd h h2
 ·rw [if_neg h1] at h;exact absurd h h1
theorem Tm.dir_right {rk P Q:List Int} (eP:Tm.err P = 0) (eQ:Tm.err Q = 0) (h:(Tm.dir rk P Q).1 = 0):Tm.err (Tm.dir rk P Q).2.1 = 0∧Tm.err (Tm.dir rk P Q).2.2 = 0:=by
 have key:∀ {A B:List Int},Tm.err A = 0→Tm.err B = 0→Tm.plErr A = 0→Tm.err (Tm.plVal A B).1 = 0∧Tm.err (Tm.plVal A B).2 = 0:=fun {A B} hA hB h0=>by
  obtain ⟨_,_,_,_,h1,h2⟩:=Tm.plain_ren hA hB
  unfold Tm.plVal
  rw [if_pos h0]
  exact ⟨h1,h2⟩
 unfold Tm.dir at h ⊢
 by_cases h1:Tm.aboveVal rk P Q = true
 ·rw [if_pos h1] at h ⊢;exact key eP eQ h
 ·rw [if_neg h1] at h ⊢
  by_cases h2:Tm.aboveVal rk Q P = true
  ·rw [if_pos h2] at h ⊢;exact key eQ eP h
  ·rw [if_neg h2] at h;cases h
theorem RulesAt.tail {n:Nat} {W:World} {b off:Nat} {p:List Int × List Int} {l:PairL} (h:RulesAt n W (some ⟨b,off,none⟩) (p :: l)):RulesAt n W (some ⟨b,off+2,none⟩) l:=fun k hk=>by
 obtain ⟨b',off',e,hb,aL,cL,aR,cR,h1,h2,r⟩:=h (k+1) (by simpa using hk)
 cases e
 rw [List.getElem?_cons_succ] at h1 h2 r
 exact ⟨b,off+2,rfl,hb,aL,cL,aR,cR,by rw [show off+2+k * 2 = off+(k+1) * 2 by omega];exact h1,by rw [show off+2+k * 2+1 = off+(k+1) * 2+1 by omega];exact h2,r⟩
set_option maxRecDepth 100000 in
set_option maxHeartbeats 4000000 in
theorem Turn_any (rk : List Int) (rs : RuleL) (ps : PairL) (ar al a : Option Addr) (cr cl cap : Nat) (w : World) (hR : Ints w.heap.size w ar rk) (hL : RulesAt w.heap.size w al rs) (hP : RulesAt w.heap.size w a ps) (hc1 : ps.length ≤ cap) (hc2 : cap ≤ maxLen) :
    Calls Tryz.prog 6 #[.slice ar rk.length cr, .slice al rs.length cl, .slice a ps.length cap] w fun e w' => ∃ er rs' ps' v u, Tm.TurnSays rk rs ps er rs' ps' ∧ e = .returned (.tuple #[v, u, .int .i64 er]) ∧ NewX false 54 w.heap.size w.heap.size w' v rs' ∧ NewX false 40 w.heap.size w.heap.size w' u ps' ∧ Below w.heap.size w w' := by
  have hC := hid (checkTurn_any rk rs ps ar al a cr cl cap w hR hL hP (by omega))
  by_cases ht : Tm.turnErr rk rs ps = 0
  · obtain ⟨k1, k2, k3, k4, k5, k6, k7⟩ := Tm.turnErr_zero ht
    cases ps with
    | nil => simp at k7
    | cons p l =>
      have hS : Hid (∀ er rs' ps', ((Tm.joinErr rs p.1 p.2 ≠ 0 ∧ er = Tm.joinErr rs p.1 p.2 ∧ rs' = [] ∧ ps' = []) ∨
     (Tm.joinErr rs p.1 p.2 = 0 ∧ (Tm.form rs p.1).1 = (Tm.form rs p.2).1 ∧ er = 0 ∧ rs' = rs ∧ ps' = l) ∨
     (Tm.joinErr rs p.1 p.2 = 0 ∧ (Tm.form rs p.1).1 ≠ (Tm.form rs p.2).1 ∧ (Tm.dir rk (Tm.form rs p.1).1 (Tm.form rs p.2).1).1 ≠ 0 ∧ er = (Tm.dir rk (Tm.form rs p.1).1 (Tm.form rs p.2).1).1 ∧ rs' = [] ∧ ps' = []) ∨
     (Tm.joinErr rs p.1 p.2 = 0 ∧ (Tm.form rs p.1).1 ≠ (Tm.form rs p.2).1 ∧ (Tm.dir rk (Tm.form rs p.1).1 (Tm.form rs p.2).1).1 = 0 ∧ Tm.WithSays rs l (Tm.dir rk (Tm.form rs p.1).1 (Tm.form rs p.2).1).2.1 (Tm.dir rk (Tm.form rs p.1).1 (Tm.form rs p.2).1).2.2 er rs' ps')) → Tm.TurnSays rk rs (p :: l) er rs' ps') := fun er rs' ps' h => .inr ⟨ht, p, l, rfl, h⟩
      rw [ht] at hC
      have hep := Tm.firstP_zero k3
      obtain ⟨h8, hall⟩ := Tm.rulesErr_ok k4
      have hel := hid (fun k (hk : k < l.length) => (show Tm.err (l[k]?.getD ([], [])).1 = 0 ∧ Tm.err (l[k]?.getD ([], [])).2 = 0 by have := hep (k + 1) (by simpa using hk); rwa [List.getElem?_cons_succ] at this))
      have her := hid (fun k (hk : k < rs.length) => (show Tm.err (rs[k]?.getD ([], [])).1 = 0 ∧ Tm.err (rs[k]?.getD ([], [])).2 = 0 from ⟨(Tm.ruleErr_ok (hall k hk)).1, (Tm.ruleErr_ok (hall k hk)).2.1⟩))
      have hl39 : l.length ≤ 39 := by simp at k2; omega
      obtain ⟨b, off, rfl, hb, aP, cP, aQ, cQ, g1, g2, g3, g4, g5, g6, g7, g8⟩ := hP 0 (by simp)
      rw [Nat.zero_mul, Nat.add_zero] at g1 g2
      simp only [List.getElem?_cons_zero, Option.getD_some] at g1 g2 g3 g4 g5 g7
      have hF := hid (fun W (hW : Below w.heap.size w W) => forms_any rs p.1 p.2 al aP aQ cl cP cQ W ((hL.below hW).mono hW.size) ((g3.below hW).mono hW.size) ((g4.below hW).mono hW.size) g5 g6 g7 g8)
      have hOr := hid (fun W (hW : Below w.heap.size w W) => ownRules_any (fl := false) w.heap.size rs al cl W hW.size ((hL.below hW).mono hW.size) (by omega) her.out)
      have hTl := hid hP.tail
      have hOp := hid (fun W (hW : Below w.heap.size w W) c => ownPairs_any (fl := false) w.heap.size l (some ⟨b, off + 2, none⟩) c W hW.size ((hTl.out.below hW).mono hW.size) (by omega) hel.out)
      have HR := hid (fun W (hW : Below w.heap.size w W) => (hR.below hW).mono hW.size)
      have hcell := hid (fun W (hW : Below w.heap.size w W) => (show W.cell? ⟨b, off, none⟩ = some (.slice aP p.1.length cP) ∧ W.cell? ⟨b, off + 1, none⟩ = some (.slice aQ p.2.length cQ) from ⟨(hW.cell (p := ⟨b, off, none⟩) hb).trans g1, (hW.cell (p := ⟨b, off + 1, none⟩) hb).trans g2⟩))
      have Hk1 := hid k1
      clear hR hL hP hTl g1 g2 g3 g4 ht k2 k3 k4 k5 k6 k7 hep hall
      obtain ⟨P, Q⟩ := p
      dsimp only at hS hF hcell g5 g7
      have hlen : ((P, Q) :: l).length = l.length + 1 := rfl
      have hl39' : (l.length : Int) ≤ 39 := by omega
      have hc1' : l.length + 1 ≤ cap := hc1
      have hc2' : (cap : Int) ≤ 9223372036854775807 := by unfold maxLen at hc2; omega
      have hc3' : (l.length : Int) + 1 ≤ (cap : Int) := by omega
      by_cases hj : Tm.joinErr rs P Q = 0
      · obtain ⟨f1, f2⟩ := Tm.joinErr_two hj
        have eF := Tm.form_right f1
        have eG := Tm.form_right f2
        have hfv : Tm.formsVal rs P Q = ((Tm.form rs P).1, (Tm.form rs Q).1) := by unfold Tm.formsVal; rw [if_pos hj]
        rw [hj, hfv] at hF
        rw [hj] at hS
        dsimp only at hF
        clear hfv f1 f2 hj
        generalize (Tm.form rs P).1 = F at *
        generalize (Tm.form rs Q).1 = G at *
        have lF := Tm.err_len eF
        have hEq := hid (fun W a1 a2 c1 c2 h1 h2 => equal_any F G a1 a2 c1 c2 W h1 h2 (by unfold maxLen; omega))
        have hD := hid (fun W (hW : Below w.heap.size w W) aF aG cF cG h1 h2 p1 p2 q1 q2 => directed_any rk F G ar aF aG cr cF cG W Hk1.out eF eG (HR.out W hW) h1 h2 p1 p2 q1 q2)
        rw [hlen]
        rw [hlen] at hC
        by_cases hFG : F = G
        · subst hFG
          rw [show sameB F F = true by simp [sameB]] at hEq
          clear hD
          go_enter Tryz.func6, Tryz.ntmps6
          go_wp2_with fail
          refine hC.out.mono ?_
          rintro e w1 ⟨rfl, b1⟩
          obtain ⟨x0, x1⟩ := hcell.out w1 b1
          clear hC
          go_wp2_with fail
          refine (hF.out w1 b1).mono ?_
          rintro e w2 ⟨v, u, rfl, n1, n2, b2⟩
          have B2 := b1.trans (b2.mono b1.size)
          obtain ⟨aF, cF, rfl, iF, pF, pF'⟩ := New.ints n1
          obtain ⟨aG, cG, rfl, iG, pG, pG'⟩ := New.ints n2
          clear hF n1 n2 x0 x1
          have hBd : Below w2.heap.size w2 w2.drew := below_drewN (Below.refl _ w2) 1
          have Bd := B2.trans (hBd.mono B2.size)
          by_cases hcap : cap = 1
          · subst hcap
            obtain rfl : l = [] := List.eq_nil_of_length_eq_zero (by omega)
            simp only [List.length_nil, Nat.zero_add]
            go_wp2
            go_region_held3 (fun _ => True) (first | trivial) (first
              | (go_at_call 29; refine (hOr.out w2.drew Bd).mono ?_; rintro e w3 ⟨v3, rfl, hN3, b3⟩; have B3 := Bd.trans (b3.mono Bd.size))
              | (go_at_call 30; refine (ownPairs_any (fl := false) w.heap.size [] (some ⟨b, off, none⟩) 0 w3 B3.size (fun k hk => by simp at hk) (by simp) (fun k hk => by simp at hk)).mono ?_; rintro e w4 ⟨v4, rfl, hN4, b4⟩; have B4 := B3.trans (b4.mono B3.size)))
            have N3 := hid ((hN3.below b4).mono (show w.heap.size ≤ w2.drew.heap.size from Bd.size))
            have N4 := hid (hN4.mono B3.size)
            have IF4 := hid (((iF.below hBd).mono hBd.size |>.below b3).mono b3.size |>.below b4 |>.mono b4.size)
            have IG4 := hid (((iG.below hBd).mono hBd.size |>.below b3).mono b3.size |>.below b4 |>.mono b4.size)
            obtain ⟨a3, c3, e3⟩ := hN3.slice
            obtain ⟨a4, c4, e4⟩ := hN4.slice
            rw [e3] at N3
            rw [e4] at N4
            clear hN3 hN4 b3 hOr
            go_wp2_with fail
            refine (hEq.out w4 aF aG cF cG IF4.out IG4.out).mono ?_
            rintro e w5 ⟨rfl, b5⟩
            have B5 := B4.trans (b5.mono B4.size)
            subst e3 e4
            go_wp2
            go_ret3
            exact ⟨0, rs, [], _, _, hS.out _ _ _ (.inr (.inl ⟨(by first | rfl | trivial), (by first | rfl | trivial), rfl, rfl, rfl⟩)), rfl, N3.out.below b5, N4.out.below b5, B5⟩
          · have r1 : (1 : Int) ≤ (l.length : Int) + 1 := by omega
            have r3 : ¬ cap - 1 = 0 := by omega
            have r4 : (1 : Int) ≤ (cap : Int) := by omega
            go_wp2
            go_region_held3 (fun _ => True) (first | trivial) (first
              | (go_at_call 29; refine (hOr.out w2.drew Bd).mono ?_; rintro e w3 ⟨v3, rfl, hN3, b3⟩; have B3 := Bd.trans (b3.mono Bd.size))
              | (go_at_call 30; refine (hOp.out w3 B3 (cap - 1)).mono ?_; rintro e w4 ⟨v4, rfl, hN4, b4⟩; have B4 := B3.trans (b4.mono B3.size)))
            have N3 := hid ((hN3.below b4).mono (show w.heap.size ≤ w2.drew.heap.size from Bd.size))
            have N4 := hid (hN4.mono B3.size)
            have IF4 := hid (((iF.below hBd).mono hBd.size |>.below b3).mono b3.size |>.below b4 |>.mono b4.size)
            have IG4 := hid (((iG.below hBd).mono hBd.size |>.below b3).mono b3.size |>.below b4 |>.mono b4.size)
            obtain ⟨a3, c3, e3⟩ := hN3.slice
            obtain ⟨a4, c4, e4⟩ := hN4.slice
            rw [e3] at N3
            rw [e4] at N4
            clear hN3 hN4 b3 hOr
            go_wp2_with fail
            refine (hEq.out w4 aF aG cF cG IF4.out IG4.out).mono ?_
            rintro e w5 ⟨rfl, b5⟩
            have B5 := B4.trans (b5.mono B4.size)
            subst e3 e4
            go_wp2
            go_ret3
            exact ⟨0, rs, l, _, _, hS.out _ _ _ (.inr (.inl ⟨(by first | rfl | trivial), (by first | rfl | trivial), rfl, rfl, rfl⟩)), rfl, N3.out.below b5, N4.out.below b5, B5⟩
        · have hsb : sameB F G = false := by unfold sameB; exact decide_eq_false hFG
          rw [hsb] at hEq
          go_enter Tryz.func6, Tryz.ntmps6
          go_wp2_with fail
          refine hC.out.mono ?_
          rintro e w1 ⟨rfl, b1⟩
          obtain ⟨x0, x1⟩ := hcell.out w1 b1
          clear hC
          go_wp2_with fail
          refine (hF.out w1 b1).mono ?_
          rintro e w2 ⟨v, u, rfl, n1, n2, b2⟩
          have B2 := b1.trans (b2.mono b1.size)
          obtain ⟨aF, cF, rfl, iF, pF, pF'⟩ := New.ints n1
          obtain ⟨aG, cG, rfl, iG, pG, pG'⟩ := New.ints n2
          clear hF n1 n2 x0 x1
          have hBd : Below w2.heap.size w2 w2.drew := below_drewN (Below.refl _ w2) 1
          have Bd := B2.trans (hBd.mono B2.size)
          by_cases hcap : cap = 1
          · subst hcap
            obtain rfl : l = [] := List.eq_nil_of_length_eq_zero (by omega)
            simp only [List.length_nil, Nat.zero_add]
            go_wp2
            go_region_held3 (fun _ => True) (first | trivial) (first
              | (go_at_call 29; refine (hOr.out w2.drew Bd).mono ?_; rintro e w3 ⟨v3, rfl, hN3, b3⟩; have B3 := Bd.trans (b3.mono Bd.size))
              | (go_at_call 30; refine (ownPairs_any (fl := false) w.heap.size [] (some ⟨b, off, none⟩) 0 w3 B3.size (fun k hk => by simp at hk) (by simp) (fun k hk => by simp at hk)).mono ?_; rintro e w4 ⟨v4, rfl, hN4, b4⟩; have B4 := B3.trans (b4.mono B3.size)))
            have N3 := hid ((hN3.below b4).mono (show w.heap.size ≤ w2.drew.heap.size from Bd.size))
            have N4 := hid (hN4.mono B3.size)
            have IF4 := hid (((iF.below hBd).mono hBd.size |>.below b3).mono b3.size |>.below b4 |>.mono b4.size)
            have IG4 := hid (((iG.below hBd).mono hBd.size |>.below b3).mono b3.size |>.below b4 |>.mono b4.size)
            obtain ⟨a3, c3, e3⟩ := hN3.slice
            obtain ⟨a4, c4, e4⟩ := hN4.slice
            rw [e3] at N3
            rw [e4] at N4
            clear hN3 hN4 b3 hOr
            go_wp2_with fail
            refine (hEq.out w4 aF aG cF cG IF4.out IG4.out).mono ?_
            rintro e w5 ⟨rfl, b5⟩
            have B5 := B4.trans (b5.mono B4.size)
            go_wp2_with fail
            refine (hD.out w5 B5 aF aG cF cG ((IF4.out.below b5).mono b5.size) ((IG4.out.below b5).mono b5.size) pF pF' pG pG').mono ?_
            rintro e w6 ⟨v6, u6, rfl, n6, m6, b6⟩
            have B6 := B5.trans (b6.mono B5.size)
            obtain ⟨a6, c6, rfl, i6, y6, y6'⟩ := IntR.new (fl := false) (base := w.heap.size) n6 (.inr B5.size)
            obtain ⟨a7, c7, rfl, i7, y7, y7'⟩ := IntR.new (fl := false) (base := w.heap.size) m6 (.inr B5.size)
            obtain ⟨W7, hW7⟩ : ∃ W7, w6.alloc (.cells #[.slice a6 (Tm.dir rk F G).2.1.length c6, .slice a7 (Tm.dir rk F G).2.2.length c7] 54) = W7 := ⟨_, rfl⟩
            have b7 : Below w6.heap.size w6 W7 := by rw [← hW7]; exact (Below.refl _ _).alloc (Nat.le_refl _) _
            have bx7 : Box2 W7 w6.heap.size 54 (.slice a6 (Tm.dir rk F G).2.1.length c6) (.slice a7 (Tm.dir rk F G).2.2.length c7) := by rw [← hW7]; exact Box2.new w6 _ _ _
            have z0 := bx7.cell0
            have z1 := bx7.cell1
            have B7 := B6.trans (b7.mono B6.size)
            have M3 := hid (((N3.out.below b5).below b6).below b7)
            have M4 := hid (((N4.out.below b5).below b6).below b7)
            have i6' := hid (i6.below b7)
            have i7' := hid (i7.below b7)
            have hdr := hid (fun h => Tm.dir_right (rk := rk) eF eG h)
            have HW7 := hid hW7
            clear hW7 n6 m6 i6 i7 bx7 hD N3 N4 IF4 IG4
            generalize Tm.dir rk F G = dv at *
            obtain ⟨de, dL, dR⟩ := dv
            dsimp only at *
            by_cases hde : de = 0
            · subst hde
              have hW := hid (with_any w.heap.size rs [] dL dR _ _ a6 a7 c6 c7 W7 B7.size M3.out M4.out i6'.out i7'.out (hdr.out rfl).1 y6 y6' y7 y7' (fun k hk => (her.out k hk).1) (by omega) (by first | omega | (simp; omega) | simp))
              subst e3 e4
              go_wp2_with fail
              rw [HW7.out]
              go_wp2_with fail
              refine hW.out.mono ?_
              rintro e w8 ⟨er, rs', ps', v8, u8, hs8, rfl, n8, m8, b8⟩
              have Hs := hid (hS.out er rs' ps' (.inr (.inr (.inr ⟨(by first | rfl | trivial), hFG, (by first | rfl | trivial), hs8⟩))))
              obtain ⟨a8, c8, rfl⟩ := n8.slice
              obtain ⟨a9, c9, rfl⟩ := m8.slice
              go_wp2
              go_ret3
              exact ⟨er, rs', ps', _, _, Hs.out, rfl, n8, m8, B7.trans b8⟩
            · have hne : (de != 0) = true := by simpa using hde
              have Hs := hid (hS.out de [] [] (.inr (.inr (.inl ⟨(by first | rfl | trivial), hFG, hde, rfl, rfl, rfl⟩))))
              clear hde
              subst e3 e4
              go_wp2_with fail
              go_ret3
              first | exact ⟨de, [], [], _, _, Hs.out, rfl, NewX.nil _ _ _ _, NewX.nil _ _ _ _, by rw [HW7.out]; exact B7⟩
          · have r1 : (1 : Int) ≤ (l.length : Int) + 1 := by omega
            have r3 : ¬ cap - 1 = 0 := by omega
            have r4 : (1 : Int) ≤ (cap : Int) := by omega
            go_wp2
            go_region_held3 (fun _ => True) (first | trivial) (first
              | (go_at_call 29; refine (hOr.out w2.drew Bd).mono ?_; rintro e w3 ⟨v3, rfl, hN3, b3⟩; have B3 := Bd.trans (b3.mono Bd.size))
              | (go_at_call 30; refine (hOp.out w3 B3 (cap - 1)).mono ?_; rintro e w4 ⟨v4, rfl, hN4, b4⟩; have B4 := B3.trans (b4.mono B3.size)))
            have N3 := hid ((hN3.below b4).mono (show w.heap.size ≤ w2.drew.heap.size from Bd.size))
            have N4 := hid (hN4.mono B3.size)
            have IF4 := hid (((iF.below hBd).mono hBd.size |>.below b3).mono b3.size |>.below b4 |>.mono b4.size)
            have IG4 := hid (((iG.below hBd).mono hBd.size |>.below b3).mono b3.size |>.below b4 |>.mono b4.size)
            obtain ⟨a3, c3, e3⟩ := hN3.slice
            obtain ⟨a4, c4, e4⟩ := hN4.slice
            rw [e3] at N3
            rw [e4] at N4
            clear hN3 hN4 b3 hOr
            go_wp2_with fail
            refine (hEq.out w4 aF aG cF cG IF4.out IG4.out).mono ?_
            rintro e w5 ⟨rfl, b5⟩
            have B5 := B4.trans (b5.mono B4.size)
            go_wp2_with fail
            refine (hD.out w5 B5 aF aG cF cG ((IF4.out.below b5).mono b5.size) ((IG4.out.below b5).mono b5.size) pF pF' pG pG').mono ?_
            rintro e w6 ⟨v6, u6, rfl, n6, m6, b6⟩
            have B6 := B5.trans (b6.mono B5.size)
            obtain ⟨a6, c6, rfl, i6, y6, y6'⟩ := IntR.new (fl := false) (base := w.heap.size) n6 (.inr B5.size)
            obtain ⟨a7, c7, rfl, i7, y7, y7'⟩ := IntR.new (fl := false) (base := w.heap.size) m6 (.inr B5.size)
            obtain ⟨W7, hW7⟩ : ∃ W7, w6.alloc (.cells #[.slice a6 (Tm.dir rk F G).2.1.length c6, .slice a7 (Tm.dir rk F G).2.2.length c7] 54) = W7 := ⟨_, rfl⟩
            have b7 : Below w6.heap.size w6 W7 := by rw [← hW7]; exact (Below.refl _ _).alloc (Nat.le_refl _) _
            have bx7 : Box2 W7 w6.heap.size 54 (.slice a6 (Tm.dir rk F G).2.1.length c6) (.slice a7 (Tm.dir rk F G).2.2.length c7) := by rw [← hW7]; exact Box2.new w6 _ _ _
            have z0 := bx7.cell0
            have z1 := bx7.cell1
            have B7 := B6.trans (b7.mono B6.size)
            have M3 := hid (((N3.out.below b5).below b6).below b7)
            have M4 := hid (((N4.out.below b5).below b6).below b7)
            have i6' := hid (i6.below b7)
            have i7' := hid (i7.below b7)
            have hdr := hid (fun h => Tm.dir_right (rk := rk) eF eG h)
            have HW7 := hid hW7
            clear hW7 n6 m6 i6 i7 bx7 hD N3 N4 IF4 IG4
            generalize Tm.dir rk F G = dv at *
            obtain ⟨de, dL, dR⟩ := dv
            dsimp only at *
            by_cases hde : de = 0
            · subst hde
              have hW := hid (with_any w.heap.size rs l dL dR _ _ a6 a7 c6 c7 W7 B7.size M3.out M4.out i6'.out i7'.out (hdr.out rfl).1 y6 y6' y7 y7' (fun k hk => (her.out k hk).1) (by omega) (by first | omega | (simp; omega) | simp))
              subst e3 e4
              go_wp2_with fail
              rw [HW7.out]
              go_wp2_with fail
              refine hW.out.mono ?_
              rintro e w8 ⟨er, rs', ps', v8, u8, hs8, rfl, n8, m8, b8⟩
              have Hs := hid (hS.out er rs' ps' (.inr (.inr (.inr ⟨(by first | rfl | trivial), hFG, (by first | rfl | trivial), hs8⟩))))
              obtain ⟨a8, c8, rfl⟩ := n8.slice
              obtain ⟨a9, c9, rfl⟩ := m8.slice
              go_wp2
              go_ret3
              exact ⟨er, rs', ps', _, _, Hs.out, rfl, n8, m8, B7.trans b8⟩
            · have hne : (de != 0) = true := by simpa using hde
              have Hs := hid (hS.out de [] [] (.inr (.inr (.inl ⟨(by first | rfl | trivial), hFG, hde, rfl, rfl, rfl⟩))))
              clear hde
              subst e3 e4
              go_wp2_with fail
              go_ret3
              first | exact ⟨de, [], [], _, _, Hs.out, rfl, NewX.nil _ _ _ _, NewX.nil _ _ _ _, by rw [HW7.out]; exact B7⟩
      · have hne : (Tm.joinErr rs P Q != 0) = true := by simpa using hj
        have Hs := hid (hS.out (Tm.joinErr rs P Q) [] [] (.inl ⟨hj, rfl, rfl, rfl⟩))
        rw [hlen]
        rw [hlen] at hC
        clear hj hS
        generalize Tm.joinErr rs P Q = q at *
        generalize Tm.formsVal rs P Q = fv at *
        go_enter Tryz.func6, Tryz.ntmps6
        go_wp2_with fail
        refine hC.out.mono ?_
        rintro e w1 ⟨rfl, b1⟩
        obtain ⟨x0, x1⟩ := hcell.out w1 b1
        clear hC
        go_wp2_with fail
        refine (hF.out w1 b1).mono ?_
        rintro e w2 ⟨v, u, rfl, n1, n2, b2⟩
        obtain ⟨aF, cF, rfl, _⟩ := New.ints n1
        obtain ⟨aG, cG, rfl, _⟩ := New.ints n2
        go_wp2
        go_ret3
        exact ⟨q, [], [], _, _, Hs.out, rfl, NewX.nil _ _ _ _, NewX.nil _ _ _ _, b1.trans (b2.mono b1.size)⟩
  · have Hs : Hid (Tm.TurnSays rk rs ps (Tm.turnErr rk rs ps) [] []) := .inl ⟨ht, rfl, rfl, rfl⟩
    have hne : (Tm.turnErr rk rs ps != 0) = true := by simpa using ht
    clear ht hR hL hP
    generalize Tm.turnErr rk rs ps = q at *
    go_enter Tryz.func6, Tryz.ntmps6
    go_wp2_with fail
    refine hC.out.mono ?_
    rintro e w1 ⟨rfl, b1⟩
    go_wp2
    go_ret3
    exact ⟨q, [], [], _, _, Hs.out, rfl, NewX.nil _ _ _ _, NewX.nil _ _ _ _, b1⟩
theorem Tm.kid_in {x:List Int} {m:Nat} {s:Int} (h:s∈Tm.kid x m):s∈x:=by
 unfold Tm.kid Tm.part at h
 exact List.mem_of_mem_drop (List.mem_of_mem_take h)
theorem Tm.in_kid {x:List Int} (h:Tm.err x = 0) {s:Int} (hs:s∈x):Tm.sym x = s∨∃ m,m < Tm.room (Tm.sym x)∧s∈Tm.kid x m:=by
 rw [Tm.view h] at hs
 rcases List.mem_cons.1 hs with e | hs
 ·exact .inl e.symm
 ·right
  rw [List.mem_flatten] at hs
  obtain ⟨l,hl,hs⟩:=hs
  obtain ⟨m,hm,rfl⟩:=List.getElem_of_mem hl
  rw [Tm.kids_len] at hm
  have e:=Tm.kids_at x hm
  rw [List.getElem?_eq_getElem (by rw [Tm.kids_len];exact hm)] at e
  rw [show (Tm.kids x (Tm.room (Tm.sym x)))[m] = Tm.kid x m from e] at hs
  exact ⟨m,hm,hs⟩
theorem Tm.Gt.vars {r:Int→Int} {a b:List Int} (h:Tm.Gt r a b):Tm.err a = 0→Tm.err b = 0→∀ s∈b,s < 0→s∈a:=by
 induction h with
 | eq a b m hm e=>intro _ _ s hs _;rw [← e] at hs;exact Tm.kid_in hs
 | sub a b m hm _ ih=>intro ha hb s hs h0;exact Tm.kid_in (ih (Tm.kid_err ha hm) hb s hs h0)
 | rk a b h1 h2 _ _ _ ih =>
  intro ha hb s hs h0
  rcases Tm.in_kid hb hs with e | ⟨m,hm,hs⟩
  ·omega
  ·exact ih m hm ha (Tm.kid_err hb hm) s hs h0
 | lex a b m h1 h2 _ _ _ _ ih _ =>
  intro ha hb s hs h0
  rcases Tm.in_kid hb hs with e | ⟨m,hm,hs⟩
  ·omega
  ·exact ih m hm ha (Tm.kid_err hb hm) s hs h0
theorem Tm.plain_rule {rk P Q:List Int} (hk:Tm.rankErr rk = 0) (eP:Tm.err P = 0) (eQ:Tm.err Q = 0) (ha:Tm.aboveVal rk P Q = true) (h0:Tm.plErr P = 0):Tm.ruleErr (Tm.plain P) (Tm.plain2 P Q) = 0∧Tm.aboveVal rk (Tm.plain P) (Tm.plain2 P Q) = true:=by
 have hg:=(Tm.aboveVal_iff (Tm.aboveErr_of hk eP eQ)).1 ha
 obtain ⟨ss,h1,h2,h3,h4,h5⟩:=Tm.plain_ren eP eQ
 have hg':=hg.stays (Terms.of h1) eP eQ
 rw [← h2,← h3] at hg'
 have hv:=hg'.vars h4 h5
 have hf:(Tm.plain P).any foreignB = false:=by
  unfold Tm.plErr at h0
  cases h:(Tm.plain P).any foreignB with
  | false=>rfl
  | true=>rw [if_pos h] at h0;exact absurd h0 (by decide)
 refine ⟨?_,(Tm.aboveVal_iff (Tm.aboveErr_of hk h4 h5)).2 hg'⟩
 have hf2:(Tm.plain2 P Q).any foreignB = false:=by
  rw [List.any_eq_false] at hf ⊢
  intro s hs hfs
  have h0:s < -4:=by simpa [foreignB] using hfs
  exact hf s (hv s hs (by omega)) hfs
 have hf3:(Tm.plain2 P Q).any (freeIn (Tm.plain P)) = false:=by
  rw [List.any_eq_false]
  intro s hs hfs
  unfold freeIn at hfs
  rw [Bool.and_eq_true] at hfs
  have h0:s < 0:=by simpa using hfs.1
  have:=hv s hs h0
  simp [Tm.hasB,this] at hfs
 have hp:(0:Int)≤(Tm.plain P)[0]?.getD 0:=hg'.pos
 unfold Tm.ruleErr
 rw [if_pos h4,if_pos h5,if_neg (by rw [hf];decide),if_neg (by rw [hf2];decide),if_neg (by omega),if_neg (by rw [hf3];decide)]
theorem Tm.firstRule_of {rs:RuleL} (h:∀ x∈rs,Tm.ruleErr x.1 x.2 = 0):Tm.firstRule rs = 0:=by
 induction rs with
 | nil=>rfl
 | cons r l ih =>
  rw [Tm.firstRule,if_pos (h r (by simp))]
  exact ih fun x hx=>h x (by simp [hx])
theorem Tm.own_both {rk P Q:List Int} (hk:Tm.rankErr rk = 0) (eP:Tm.err P = 0) (eQ:Tm.err Q = 0) (ha:Tm.aboveVal rk P Q = true):(Tm.plain P++Tm.plain2 P Q).any foreignB = (Tm.plain P).any foreignB:=by
 have hg:=(Tm.aboveVal_iff (Tm.aboveErr_of hk eP eQ)).1 ha
 obtain ⟨ss,h1,h2,h3,h4,h5⟩:=Tm.plain_ren eP eQ
 have hg':=hg.stays (Terms.of h1) eP eQ
 rw [← h2,← h3] at hg'
 have hv:=hg'.vars h4 h5
 rw [List.any_append]
 cases h:(Tm.plain P).any foreignB with
 | true=>rfl
 | false =>
  rw [Bool.false_or,List.any_eq_false]
  rw [List.any_eq_false] at h
  intro s hs hfs
  have h0:s < -4:=by simpa [foreignB] using hfs
  exact h s (hv s hs (by omega)) hfs
theorem Tm.own_plErr {rk P Q:List Int} (hk:Tm.rankErr rk = 0) (eP:Tm.err P = 0) (eQ:Tm.err Q = 0) (ha:Tm.aboveVal rk P Q = true):Tm.plErr P = if (Tm.plain P++Tm.plain2 P Q).any foreignB = true then 3 else 0:=by
 rw [Tm.own_both hk eP eQ ha]
 rfl
set_option maxRecDepth 100000 in
set_option maxHeartbeats 1000000 in
theorem applied_long (ss:List (List Int)) (hl:ss.length = 8) (hsh:Short ss) (a:Option Addr) (cap:Nat) (t:List Int) (at':Option Addr) (ct:Nat) (ht:t.length≤100) (h8:∀ k,k < t.length→-8≤t[k]?.getD 0) (w:World)
 (hS:Subs w.heap.size w a ss) (hT:Ints w.heap.size w at' t) :
 Calls Tryz.prog 114 #[.slice a 8 cap,.slice at' t.length ct] w fun e w'=>∃ v,e = .returned v∧New w.heap.size w' v (Tm.applied ss t)∧Below w.heap.size w w':=by
 have hlen:(t.length:Int)≤100:=by omega
 obtain ⟨bs,os,rfl,hbs,hcs⟩:=hS.at (by omega)
 have Hcs:=hid hcs
 have HT:=hid hT
 have H8:=hid h8
 have Hl:=hid hl
 clear hcs hS hT h8 hl
 go_enter Tryz.func114,Tryz.ntmps114
 go_wp2
 go_loopw [5,6] (fun v i wr=>∃ k:Nat,k≤t.length∧i = .int .i64 (k:Int)∧New w.heap.size wr v (Tm.applied ss (t.take k))∧Below w.heap.size w wr) (fun _ i _=>t.length - (intOf i).toNat)
 case atStart=>exact ⟨0,Nat.zero_le _,rfl,New.nil _ _,Below.refl _ _⟩
 case round =>
  obtain ⟨k,hk,rfl,hN,hBr⟩:=hrel
  by_cases hlt:k < t.length
  ·have hlt':(k:Int) < (t.length:Int):=by omega
   obtain ⟨b,off,rfl,hb,hc⟩:=HT.out.at (by omega)
   have hck:=(hBr.cell (p:=⟨b,off+k,none⟩) hb).trans (hc k hlt)
   have hsn:=hid (Tm.applied_snoc ss hlt)
   have hle:=Tm.applied_le hsh (t.take k)
   rw [List.length_take] at hle
   have hpl:=Tm.piece_le hsh (t[k]?.getD 0)
   have hs8:=H8.out k hlt
   clear hc
   obtain ⟨a0,c0,rfl,_⟩:=New.ints hN
   by_cases hneg:t[k]?.getD 0 < 0
   ·obtain ⟨j,hj⟩:∃ j:Nat,t[k]?.getD 0 = -1 - (j:Int):=⟨(-1 - (t[k]?.getD 0)).toNat,by omega⟩
    have hj8:(j:Int) < 8:=by omega
    obtain ⟨aj,cj,hcj0,hIj0,h1,h2,h3⟩:=Hcs.out j (by rw [Hl.out];omega)
    have hcj:=(hBr.cell (p:=⟨bs,os+j,none⟩) hbs).trans hcj0
    have hIj:=(hIj0.below hBr).mono hBr.size
    have hpc:Tm.piece ss (t[k]?.getD 0) = ss[j]?.getD []:=by
     rw [hj]
     unfold Tm.piece
     rw [if_pos (by omega)]
     congr 2
     omega
    rw [hpc] at hsn hpl
    rw [hj] at hck
    have H3:Hid (aj = none→(ss[j]?.getD []).length = 0∧cj = 0):=fun e=>⟨by have:=h3 e;omega,h3 e⟩
    clear hcj0 hIj0 hpc hj hneg hs8 h3 h1 h2
    generalize ss[j]?.getD [] = pc at *
    generalize Tm.applied ss (t.take k) = xs at *
    have hn1:(-1 - (j:Int)) < 0:=by omega
    have hn2:-(-1 - (j:Int)) - 1 = (j:Int):=by omega
    go_wp2_with (at_builtin;go_loud (refine wp_append_ints _ rfl _ _ rfl w.heap.size _ xs rfl hN aj pc cj rfl H3.out hIj (by omega) hBr.size ?_);intro v' w2 hN2 hB3;obtain ⟨a2,c2,rfl,_⟩:=New.ints hN2)
    go_roundw
    case rel=>exact ⟨k+1,by omega,by go_num,by rw [hsn.out];simpa using hN2,hBr.trans hB3⟩
    case measure=>simp [intOf];omega
   ·have hpc:Tm.piece ss (t[k]?.getD 0) = [t[k]?.getD 0]:=by unfold Tm.piece;rw [if_neg hneg]
    rw [hpc] at hsn
    clear hpc hpl hs8
    generalize t[k]?.getD 0 = s at *
    generalize Tm.applied ss (t.take k) = xs at *
    have h1:=ints_lit wr [s] _ rfl
    simp only [List.map_cons,List.map_nil] at h1
    have hA:Below wr.heap.size wr (wr.alloc (.cells #[.int .i64 s] 3)):=(Below.refl _ _).alloc (Nat.le_refl _) _
    have hNA:=New.below hN hA
    have hBA:=hBr.trans (hA.mono hBr.size)
    go_wp2_with (at_builtin;go_loud (refine wp_append_ints _ rfl _ _ rfl w.heap.size _ xs rfl hNA (some ⟨wr.heap.size,0,none⟩) [s] 1 rfl (fun e=>by cases e) (by simpa using h1) (by simp;omega) hBA.size ?_);intro v' w2 hN2 hB3;obtain ⟨a2,c2,rfl,_⟩:=New.ints hN2)
    go_roundw
    case rel=>exact ⟨k+1,by omega,by go_num,by rw [hsn.out];simpa using hN2,hBA.trans hB3⟩
    case measure=>simp [intOf];omega
  ·obtain rfl:k = t.length:=by omega
   rw [List.take_length] at hN
   obtain ⟨a2,c2,rfl,_⟩:=New.ints hN
   go_wp2
   go_ret
   exact ⟨_,rfl,hN,hBr⟩
set_option maxRecDepth 100000 in
set_option maxHeartbeats 2000000 in
theorem refplain_long (t:List Int) (at':Option Addr) (ct:Nat) (w:World) (ht:t.length≤100) (h0:0 < t.length) (h8:∀ k,k < t.length→-8≤t[k]?.getD 0) (hT:Ints w.heap.size w at' t) :
 Calls Tryz.prog 95 #[.slice at' t.length ct] w fun e w'=>∃ v,e = .returned v∧New w.heap.size w' v (Tm.plain t)∧Below w.heap.size w w':=by
 have hlen:(t.length:Int)≤100:=by omega
 obtain ⟨b,off,rfl,hb,hc⟩:=hT.at h0
 have hl:New w.heap.size (w.alloc (.cells #[] 3)) (.slice (some ⟨w.heap.size,0,none⟩) 0 0) []:=New.lit w.heap.size w [] (Nat.le_refl _) (by unfold maxLen;simp)
 have hB0:Below w.heap.size w (w.alloc (.cells #[] 3)):=(Below.refl _ _).alloc (Nat.le_refl _) _
 have HT:=hid hT
 have Hc:=hid hc
 have H8:=hid h8
 clear hT hc h8
 go_enter Tryz.func95,Tryz.ntmps95
 go_wp2_with (at_builtin;go_loud (refine wp_append_ints _ rfl (.tmp 8) (.tmp 9) rfl w.heap.size _ [] rfl hl _ t ct rfl (fun e=>by cases e) ((HT.out.below hB0).mono hB0.size) (by simp;omega) hB0.size ?_);intro v1 W1 hN1 hB1;obtain ⟨g,c,rfl,_⟩:=New.at0 hN1 (by simpa using h0))
 have hB2:=hB0.trans hB1
 clear hB0 hB1 hl
 simp only [List.nil_append] at *
 have hgl:=hN1.own_lt.2
 have hB2s:=hB2.size
 go_loopw [3,5] (fun vs i wr=>∃ k:Nat,k≤t.length∧i = .int .i64 (k:Int)∧Hid (PlainSt w W1 t g t.length c k vs wr)) (fun _ i _=>t.length - (intOf i).toNat)
 case atStart=>exact ⟨0,Nat.zero_le _,rfl,New.nil _ _,by rw [Tm.half_zero];exact hN1,hB2,Nat.le_refl _⟩
 case round =>
  clear hN1 hB2
  obtain ⟨k,hk,rfl,hP⟩:=hrel
  by_cases hlt:k < t.length
  ·have hlt':(k:Int) < (t.length:Int):=by omega
   have hck:=(hP.out.2.2.1.cell (p:=⟨b,off+k,none⟩) hb).trans (Hc.out k hlt)
   by_cases hneg:t[k]?.getD 0 < 0
   ·have hsl:=Tm.seen_len (t.take k) []
    rw [List.length_take] at hsl
    simp only [List.length_nil,Nat.zero_add] at hsl
    have hnd:=hid (Tm.seen_nodup (t.take k) [] List.nodup_nil)
    have hse:=hid (Tm.seen_succ [] hlt)
    have hnm:Hid (Tm.name (Tm.seenFrom [] (t.take k)) (t[k]?.getD 0) = -1 - (Tm.idx (Tm.seenFrom [] (t.take k)) (t[k]?.getD 0):Int)):=by
     show _ = _
     unfold Tm.name
     rw [if_pos hneg]
    have hst:Hid (∀ (vs':Value) (w':World) (x:Int),New W1.heap.size w' vs' (Tm.seenFrom [] (t.take (k+1)))→New w.heap.size w' (.slice (some ⟨g,0,none⟩) t.length c) (Tm.half t k)→Below w.heap.size w w'→W1.heap.size≤w'.heap.size →
     x = Tm.name (Tm.seenFrom [] (t.take k)) (t[k]?.getD 0)→PlainSt w W1 t g t.length c (k+1) vs' (w'.setCell ⟨g,k,none⟩ (.int .i64 x))) :=
     fun vs' w' x a1 a2 a3 a4 a5=>PlainSt.store hgl rfl hlt a1 a2 a3 a4 x a5
    obtain ⟨p1,p2,p3,p4⟩:=hP.out
    have Hhl:Hid ((Tm.half t k).length = t.length):=Tm.half_length hk
    clear hP
    generalize Tm.name (Tm.seenFrom [] (t.take k)) (t[k]?.getD 0) = nm at *
    generalize Tm.seenFrom [] (t.take (k+1)) = seen' at *
    generalize Tm.seenFrom [] (t.take k) = seen at *
    generalize Tm.half t k = hf at *
    generalize t[k]?.getD 0 = s at *
    obtain ⟨az,cs,rfl,hIs,hcs,_⟩:=New.ints p1
    have HIs:=hid hIs
    have hsl':(seen.length:Int)≤100:=by omega
    clear hIs hcs
    go_wp2
    go_loopw [6,7] (fun q i wq=>∃ (m d:Nat),m≤seen.length∧i = .int .i64 (m:Int)∧wq = wr.drewN d∧((q = .int .i64 (-1)∧Hid (∀ j,j < m→seen[j]?.getD 0≠s))∨∃ j:Nat,j < m∧q = .int .i64 (j:Int)∧Hid (seen[j]?.getD 0 = s))) (fun _ i _=>seen.length - (intOf i).toNat)
    case atStart=>exact ⟨0,0,Nat.zero_le _,rfl,rfl,.inl ⟨rfl,fun j hj=>by omega⟩⟩
    case round =>
     obtain ⟨m,d,hm,rfl,rfl,hq⟩:=hrel
     by_cases hml:m < seen.length
     ·have hml':(m:Int) < (seen.length:Int):=by omega
      obtain ⟨gs,os,rfl,hbs,hcs⟩:=HIs.out.at (by omega)
      have hcm:=hcs m hml
      have hnn:=hid (show seen[m]?.getD 0≠s→(∀ j,j < m→seen[j]?.getD 0≠s)→∀ j,j < m+1→seen[j]?.getD 0≠s from fun e1 e2 j hj=>by
       by_cases e:j = m
       ·subst e;exact e1
       ·exact e2 j (by omega))
      clear hcs
      obtain ⟨y,hy⟩:∃ y,seen[m]?.getD 0 = y:=⟨_,rfl⟩
      rw [hy] at hcm
      have Hy:=hid hy
      clear hy
      by_cases he:y = s
      ·have hn:(y == s) = true:=by simp [he]
       have hyy':Hid (seen[m]?.getD 0 = s):=Hy.out.trans he
       clear he hnn hq
       go_wp2
       go_quiet (fail)
       go_wp2
       go_roundw
       case rel=>exact ⟨m+1,_,by omega,by go_num,rfl,.inr ⟨m,by omega,rfl,hyy'⟩⟩
       case measure=>simp [intOf];omega
      ·have hn:(y == s) = false:=by simp [he]
       have hnn':Hid ((∀ j,j < m→seen[j]?.getD 0≠s)→∀ j,j < m+1→seen[j]?.getD 0≠s):=hnn.out (by rw [Hy.out];exact he)
       clear he hnn
       rcases hq with ⟨rfl,hno⟩ | ⟨j,hj,rfl,hyes⟩
       ·go_wp2
        go_quiet (fail)
        go_wp2
        go_roundw
        case rel=>exact ⟨m+1,_,by omega,by go_num,rfl,.inl ⟨rfl,hnn'.out hno.out⟩⟩
        case measure=>simp [intOf];omega
       ·go_wp2
        go_quiet (fail)
        go_wp2
        go_roundw
        case rel=>exact ⟨m+1,_,by omega,by go_num,rfl,.inr ⟨j,by omega,rfl,hyes⟩⟩
        case measure=>simp [intOf];omega
     ·obtain rfl:m = seen.length:=by omega
      have q1:=New.drewN p1 d
      have q2:=New.drewN p2 d
      have q3:=below_drewN p3 d
      have q4:W1.heap.size≤(wr.drewN d).heap.size:=p4
      obtain ⟨g',c',e',hcg,hfg⟩:=New.at0 q2 (by rw [Hhl.out];exact h0)
      have hgc:=hcg k (by rw [Hhl.out];exact hlt)
      have hfk:=hfg k
      have e'':g = g':=by simp only [Value.slice.injEq,Option.some.injEq,Addr.mk.injEq] at e';exact e'.1.1
      subst e''
      have hckd:(wr.drewN d).cell? ⟨b,off+k,none⟩ = some (.int .i64 s):=hck
      clear hcg hfg e' hck p1 p2 p3 p4
      generalize hx:hf[k]?.getD 0 = x0 at *
      clear hx
      generalize wr.drewN d = W2 at *
      rcases hq with ⟨rfl,hno⟩ | ⟨j,hj,rfl,hyes⟩
      ·have hnot:=Tm.has_not hno.out
       have hnew:=hid (Tm.see_new hneg hnot)
       have hnm':Hid (nm = -1 - (seen.length:Int)):=by
        show _ = _
        rw [hnm.out,Tm.idx_new hnot]
       have hse':=hid (hse.out.trans hnew.out)
       have hA:Below W2.heap.size W2 (W2.alloc (.cells #[.int .i64 s] 3)):=(Below.refl _ _).alloc (Nat.le_refl _) _
       have Hq1:=hid (q1.alloc (.cells #[.int .i64 s] 3))
       have hq2A:=q2.alloc (.cells #[.int .i64 s] 3)
       have hq3A:=q3.trans (hA.mono q3.size)
       have hq4A:W1.heap.size≤(W2.alloc (.cells #[.int .i64 s] 3)).heap.size:=by simp;omega
       have Hcn:=hid (cell_new W2 (.int .i64 s) 3 W2.heap.size rfl)
       clear hnot hnew hno hnd q1 q2 q3 hgc hfk
       go_wp2_with (at_builtin;go_loud (refine wp_append_int1 _ rfl _ _ rfl W1.heap.size _ seen rfl Hq1.out W2.heap.size s rfl Hcn.out (by omega) hq4A ?_);intro v' w5 hN5 hg5 hB5;have r2:New w.heap.size w5 (.slice (some ⟨g,0,none⟩) t.length c) hf:=World.ownsRow.kept hq2A hg5 (.inr (fun e=>by have:=(World.ownsRow.lt Hq1.out g e.symm).1;omega));obtain ⟨g',c',e',hcg,hfg⟩:=New.at0 r2 (by rw [Hhl.out];exact h0);have hgc:=hcg k (by rw [Hhl.out];exact hlt);have hfk:=hfg k;have e'':g = g':=(by simp only [Value.slice.injEq,Option.some.injEq,Addr.mk.injEq] at e';exact e'.1.1);subst e'';clear hcg hfg e';obtain ⟨a5,c5,rfl,_⟩:=New.ints hN5)
       go_roundw
       case rel=>exact ⟨k+1,by omega,by go_num,hst.out _ _ _ (by rw [hse'.out];simpa using hN5) r2 (hq3A.trans (hB5.mono (by have:=hB2s;omega))) (Nat.le_trans hq4A hB5.size) hnm'.out.symm⟩
       case measure=>simp [intOf];omega
      ·have hidx:=Tm.idx_at hnd.out hj hyes.out
       have hold:=hid (Tm.see_old (Tm.has_at hj hyes.out))
       have hnm':Hid (nm = -1 - (j:Int)):=by
        show _ = _
        rw [hnm.out,hidx]
       have hse':=hid (hse.out.trans hold.out)
       have hj30:(j:Int)≤100:=by omega
       have hjn:¬ (j:Int) < 0:=by omega
       clear hidx hold hyes hnd
       go_wp2
       go_roundw
       case rel=>exact ⟨k+1,by omega,by go_num,hst.out _ _ _ (by rw [hse'.out];exact q1) q2 q3 q4 hnm'.out.symm⟩
       case measure=>simp [intOf];omega
   ·have hP':=hid (hP.out.same hlt (by omega))
    clear hP
    generalize t[k]?.getD 0 = s at *
    go_wp2
    go_roundw
    case rel=>exact ⟨k+1,by omega,by go_num,hP'.out⟩
    case measure=>simp [intOf];omega
  ·obtain rfl:k = t.length:=by omega
   obtain ⟨_,p2,p3,_⟩:=hP.out
   rw [Tm.half_all] at p2
   clear hP
   go_wp2
   go_ret
   exact ⟨_,rfl,p2,p3⟩
end Go.Proofs.YtglohanbpjaieaaGreat
namespace Go.Proofs.YtglohanbpjaieaaGreat
open Go.Proofs Go.RowKit Go.Shelf
set_option maxRecDepth 100000 in
set_option maxHeartbeats 400000 in
theorem refput_long (zs us:List Int) (a au:Option Addr) (cap cu j:Nat) (w:World) (hI:Ints w.heap.size w a zs) (hU:Ints w.heap.size w au us) (hcap:zs.length≤cap) (hcap2:cap≤maxLen) (he:Tm.err zs = 0) (hu30:us.length≤1000) (hup:0 < us.length) (hj:j < zs.length) :
 Calls Tryz.prog 113 #[.slice a zs.length cap,.int .i64 (j:Int),.slice au us.length cu] w fun e w'=>∃ v,e = .returned v∧New w.heap.size w' v (Tm.put zs j us)∧Below w.heap.size w w':=by
 have h30:=Tm.err_len he
 have hei:=Tm.end_in he hj
 have heg:=Tm.endAt_gt zs j
 have hUs:=hid (hU.some hup)
 obtain ⟨b,off,rfl,hb,_⟩:=hI.at (by omega)
 have hB0:Below w.heap.size w (w.alloc (.cells #[] 3)):=(Below.refl _ _).alloc (Nat.le_refl _) _
 have hl:New w.heap.size (w.alloc (.cells #[] 3)) (.slice (some ⟨w.heap.size,0,none⟩) 0 0) []:=New.lit w.heap.size w [] (Nat.le_refl _) (by unfold maxLen;simp)
 have hE:∀ W,Below w.heap.size w W→Calls Tryz.prog 120 #[.slice (some ⟨b,off,none⟩) zs.length cap,.int .i64 (j:Int)] W fun e w'=>e = .returned (.int .i64 (Tm.endAt zs j:Int))∧Below W.heap.size W w' :=
  fun W hW=>endOf_any zs (some ⟨b,off,none⟩) cap j W ((hI.below hW).mono hW.size) hcap hcap2 he hj
 have HE:=hid (hE)
 have HU:=hid (hU)
 have HI:=hid (hI)
 have hput:Tm.put zs j us = []++zs.take j++us++zs.drop (Tm.endAt zs j):=by simp [Tm.put]
 rw [hput]
 have htl:(zs.take j).length = j:=by rw [List.length_take];omega
 have hdl:(zs.drop (Tm.endAt zs j)).length = zs.length - Tm.endAt zs j:=by rw [List.length_drop]
 have HT:=hid (hI.take j)
 have HD:Hid (∀ n X,Ints n X (some ⟨b,off,none⟩) zs→∀ c,Ints n X (if c = 0 then some ⟨b,off,none⟩ else some ⟨b,off+Tm.endAt zs j,none⟩) (zs.drop (Tm.endAt zs j))∨(c = 0∧zs.drop (Tm.endAt zs j)≠[])):=by
  intro n X hX c
  by_cases hc:c = 0
  ·by_cases hd:zs.drop (Tm.endAt zs j) = []
   ·left;rw [hd];exact Ints.nil _ _ _
   ·right;exact ⟨hc,hd⟩
  ·left;rw [if_neg hc];exact hX.drop _
 have Htl:=hid (htl)
 have Hdl:=hid (hdl)
 unfold maxLen at hcap2
 clear hE hU hI hput htl hdl he hup
 generalize Tm.endAt zs j = q at *
 generalize hxs:zs.take j = xs at *
 generalize hys:zs.drop q = ys at *
 clear hxs hys
 have h1:(j:Int)≤(cap:Int):=by omega
 have h2:(q:Int)≤(zs.length:Int):=by omega
 have h3:(zs.length:Int)≤(cap:Int):=by omega
 have h4:(zs.length:Int)≤30:=by omega
 by_cases hz:cap - q = 0
 ·have hys0:ys = []:=List.eq_nil_of_length_eq_zero (by rw [Hdl.out];omega)
  obtain ⟨rfl,rfl⟩:zs.length = cap∧q = zs.length:=by omega
  clear HD
  go_enter Tryz.func113,Tryz.ntmps113
  go_wp2_with (first
   | (at_builtin;refine wp_append_ints _ rfl (.tmp 7) (.tmp 10) rfl w.heap.size _ [] rfl hl (some ⟨b,off,none⟩) xs zs.length (by rw [Htl.out];rfl) (fun h=>by cases h) ((HT.out.below hB0).mono hB0.size) (by rw [Htl.out];simp;omega) hB0.size ?_;intro v1 w1 hN1 hB1;have hB01:=hB0.trans hB1;clear hB1)
   | (at_builtin;refine wp_append_ints _ rfl (.tmp 11) (.tmp 12) rfl w.heap.size _ _ rfl hN1 au us _ rfl (fun h=>absurd h hUs.out) ((HU.out.below hB01).mono hB01.size) (by rw [List.length_append,Htl.out];simp;omega) hB01.size ?_;intro v2 w2 hN2 hB2;have hB02:=hB01.trans hB2;clear hB2)
   | (go_at_call 120;refine (HE.out _ hB02).mono ?_;rintro e w3 ⟨rfl,hB3⟩;have hN3:=New.below hN2 hB3;have hB03:=hB02.trans (hB3.mono hB02.size);clear hB3)
   | (at_builtin;go_loud (refine wp_append_ints _ rfl (.tmp 13) (.tmp 18) rfl w.heap.size _ _ rfl hN3 (some ⟨b,off,none⟩) ys 0 (by rw [hys0];rfl) (fun h=>by cases h) (by rw [hys0];exact Ints.nil _ _ _) (by rw [List.length_append,List.length_append,Htl.out,Hdl.out];simp;omega) hB03.size ?_);intro v4 w4 hN4 hB4))
  obtain ⟨a4,c4,rfl,_⟩:=New.ints hN4
  go_ret
  exact ⟨_,rfl,hN4,hB03.trans hB4⟩
 ·have HY:Hid (∀ n X,Ints n X (some ⟨b,off,none⟩) zs→Ints n X (some ⟨b,off+q,none⟩) ys):=fun n X hX=>by
   rcases HD.out n X hX 1 with h | h
   ·simpa using h
   ·exact absurd h.1 (by decide)
  clear HD
  go_enter Tryz.func113,Tryz.ntmps113
  go_wp2_with (first
   | (at_builtin;refine wp_append_ints _ rfl (.tmp 7) (.tmp 10) rfl w.heap.size _ [] rfl hl (some ⟨b,off,none⟩) xs cap (by rw [Htl.out];rfl) (fun h=>by cases h) ((HT.out.below hB0).mono hB0.size) (by rw [Htl.out];simp;omega) hB0.size ?_;intro v1 w1 hN1 hB1;have hB01:=hB0.trans hB1;clear hB1)
   | (at_builtin;refine wp_append_ints _ rfl (.tmp 11) (.tmp 12) rfl w.heap.size _ _ rfl hN1 au us _ rfl (fun h=>absurd h hUs.out) ((HU.out.below hB01).mono hB01.size) (by rw [List.length_append,Htl.out];simp;omega) hB01.size ?_;intro v2 w2 hN2 hB2;have hB02:=hB01.trans hB2;clear hB2)
   | (go_at_call 120;refine (HE.out _ hB02).mono ?_;rintro e w3 ⟨rfl,hB3⟩;have hN3:=New.below hN2 hB3;have hB03:=hB02.trans (hB3.mono hB02.size);clear hB3)
   | (at_builtin;go_loud (refine wp_append_ints _ rfl (.tmp 13) (.tmp 18) rfl w.heap.size _ _ rfl hN3 (some ⟨b,off+q,none⟩) ys (cap - q) (by rw [Hdl.out];rfl) (fun h=>by cases h) (HY.out _ _ ((HI.out.below hB03).mono hB03.size)) (by rw [List.length_append,List.length_append,Htl.out,Hdl.out];simp;omega) hB03.size ?_);intro v4 w4 hN4 hB4))
  obtain ⟨a4,c4,rfl,_⟩:=New.ints hN4
  go_ret
  exact ⟨_,rfl,hN4,hB03.trans hB4⟩
end Go.Proofs.YtglohanbpjaieaaGreat
namespace Go.Proofs.YtglohanbpjaieaaGreat
open Go.Proofs Go.RowKit Go.Shelf Go.Maps
theorem Sn.both (X Y:List Int):Tm.plain X++Tm.plain2 X Y = Tm.plainTo [] (X++Y) (X++Y).length:=by
 obtain ⟨r,hr⟩:=Sn.seen_pre Y (Tm.seenFrom [] X)
 have h1:=Sn.plain_map X [] r
 have h2:=Sn.plain_map Y (Tm.seenFrom [] X) []
 have h3:=Sn.plain_map (X++Y) [] []
 rw [← hr] at h1
 rw [List.append_nil] at h2 h3
 rw [Sn.seen_app] at h3
 show Tm.plainTo [] X X.length++Tm.plainTo (Tm.seenFrom [] X) Y Y.length = _
 rw [h1,h2,h3,List.map_append]
end Go.Proofs.YtglohanbpjaieaaGreat
