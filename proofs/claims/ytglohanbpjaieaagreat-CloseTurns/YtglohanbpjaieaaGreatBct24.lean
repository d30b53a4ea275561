/-
  Parts of the proof: Prs11, Clo7, Clo8, Joi2, Clo9, Clo10.
-/
import Derived.Test.YtglohanbpjaieaaGreatBct20
import Derived.Test.YtglohanbpjaieaaGreatBct23
import Derived.Test.YtglohanbpjaieaaGreatBct21
import Derived.Test.YtglohanbpjaieaaGreatBct19
namespace Go.Proofs.YtglohanbpjaieaaGreat
open Go.Proofs Go.RowKit Go.Shelf Go.Maps
namespace Sn
theorem pigeon:∀ (n:Nat) (l:List Int),l.Nodup→(∀ x∈l,-(n:Int)≤x∧x < 0)→l.length≤n:=by
 intro n
 induction n with
 | zero =>
  intro l _ h
  cases l with
  | nil=>simp
  | cons x l=>have:=h x (by simp);omega
 | succ n ih =>
  intro l hn h
  by_cases hm:-((n:Int)+1)∈l
  ·have h1:=ih (l.erase (-((n:Int)+1))) (hn.erase _) (fun x hx=>by
    have h2:=(hn.mem_erase_iff).1 hx
    have h3:=h x h2.2
    have h4:=h2.1
    omega)
   rw [List.length_erase_of_mem hm] at h1
   omega
  ·have h1:=ih l hn (fun x hx=>by
    have h3:=h x hx
    refine ⟨?_,h3.2⟩
    by_cases e:x = -((n:Int)+1)
    ·subst e;exact absurd hx hm
    ·omega)
   omega
theorem see_cases (seen:List Int) (s:Int):(0≤s∧Tm.see seen s = seen)∨(s < 0∧seen.contains s = true∧Tm.see seen s = seen)∨(s < 0∧seen.contains s = false∧Tm.see seen s = seen++[s]):=by
 unfold Tm.see
 by_cases hs:s < 0
 ·rw [if_pos hs]
  cases hc:seen.contains s with
  | true=>exact .inr (.inl ⟨hs,rfl,by rw [if_pos rfl]⟩)
  | false=>exact .inr (.inr ⟨hs,rfl,by rw [if_neg (by simp)]⟩)
 ·rw [if_neg hs];exact .inl ⟨by omega,rfl⟩
theorem see_pre (seen:List Int) (s:Int):∃ r,Tm.see seen s = seen++r:=by
 rcases see_cases seen s with ⟨_,h⟩ | ⟨_,_,h⟩ | ⟨_,_,h⟩
 ·exact ⟨[],by rw [h,List.append_nil]⟩
 ·exact ⟨[],by rw [h,List.append_nil]⟩
 ·exact ⟨[s],h⟩
theorem seen_cons (seen:List Int) (s:Int) (l:List Int):Tm.seenFrom seen (s :: l) = Tm.seenFrom (Tm.see seen s) l:=rfl
theorem seen_app (seen l r:List Int):Tm.seenFrom seen (l++r) = Tm.seenFrom (Tm.seenFrom seen l) r:=by simp [Tm.seenFrom,List.foldl_append]
theorem seen_pre:∀ (t seen:List Int),∃ r,Tm.seenFrom seen t = seen++r:=by
 intro t
 induction t with
 | nil=>intro seen;exact ⟨[],by rw [List.append_nil];rfl⟩
 | cons s l ih =>
  intro seen
  obtain ⟨r1,h1⟩:=see_pre seen s
  obtain ⟨r2,h2⟩:=ih (Tm.see seen s)
  exact ⟨r1++r2,by rw [seen_cons,h2,h1,List.append_assoc]⟩
theorem see_mem (seen:List Int) {s:Int} (hs:s < 0):(Tm.see seen s).contains s = true:=by
 rcases see_cases seen s with ⟨h,_⟩ | ⟨_,h,e⟩ | ⟨_,_,e⟩
 ·omega
 ·rw [e];exact h
 ·rw [e];simp
theorem see_nodup {seen:List Int} (h:seen.Nodup) (s:Int):(Tm.see seen s).Nodup:=by
 rcases see_cases seen s with ⟨_,e⟩ | ⟨_,_,e⟩ | ⟨_,hc,e⟩
 ·rw [e];exact h
 ·rw [e];exact h
 ·rw [e]
  have hn:¬ s∈seen:=by simpa using hc
  rw [List.nodup_append]
  exact ⟨h,by simp,fun a ha b hb=>by simp at hb;subst hb;rintro rfl;exact hn ha⟩
theorem seen_nodup:∀ (t seen:List Int),seen.Nodup→(Tm.seenFrom seen t).Nodup:=by
 intro t
 induction t with
 | nil=>intro seen h;exact h
 | cons s l ih=>intro seen h;exact ih _ (see_nodup h s)
theorem see_neg {seen:List Int} (h:∀ x∈seen,-8≤x∧x < 0) {s:Int} (h8:-8≤s):∀ x∈Tm.see seen s,-8≤x∧x < 0:=by
 rcases see_cases seen s with ⟨_,e⟩ | ⟨_,_,e⟩ | ⟨hs,_,e⟩
 ·rw [e];exact h
 ·rw [e];exact h
 ·rw [e]
  intro x hx
  rw [List.mem_append] at hx
  rcases hx with hx | hx
  ·exact h x hx
  ·simp at hx;subst hx;exact ⟨h8,hs⟩
theorem seen_neg:∀ (t seen:List Int),t.all Tm.known = true→(∀ x∈seen,-8≤x∧x < 0)→∀ x∈Tm.seenFrom seen t,-8≤x∧x < 0:=by
 intro t
 induction t with
 | nil=>intro seen _ h;exact h
 | cons s l ih =>
  intro seen hk h
  rw [List.all_cons,Bool.and_eq_true] at hk
  exact ih _ hk.2 (see_neg h (Tm.known_ge hk.1))
theorem idx_lt {seen:List Int} {s:Int} (h:seen.contains s = true):Tm.idx seen s < seen.length:=by
 unfold Tm.idx
 rw [List.findIdx_lt_length]
 exact ⟨s,by simpa using h,by simp⟩
theorem idx_last {seen:List Int} {s:Int} (h:seen.contains s = false):Tm.idx (seen++[s]) s = seen.length:=by
 unfold Tm.idx
 rw [List.findIdx_append,if_neg]
 ·simp
 ·rw [List.findIdx_lt_length]
  rintro ⟨y,hy,e⟩
  have e':y = s:=by simpa using e
  subst e'
  have:¬ y∈seen:=by simpa using h
  exact this hy
def ren (S:List Int) (s:Int):Int:=if s < 0 then -1 - (Tm.idx S s:Int) else s
theorem name_ren (seen r:List Int) (s:Int):Tm.name seen s = ren (Tm.see seen s++r) s:=by
 unfold Tm.name ren
 by_cases hs:s < 0
 ·rw [if_pos hs,if_pos hs,Tm.idx_app (see_mem seen hs)]
  rcases see_cases seen s with ⟨h,_⟩ | ⟨_,_,e⟩ | ⟨_,hc,e⟩
  ·omega
  ·rw [e]
  ·rw [e,idx_last hc,Tm.idx_new hc]
 ·rw [if_neg hs,if_neg hs]
theorem plain_map (t seen r:List Int):Tm.plainTo seen t t.length = t.map (ren (Tm.seenFrom seen t++r)):=by
 refine List.ext_getElem (by simp [Tm.plainTo_length]) fun i h1 h2=>?_
 rw [Tm.plainTo_length] at h1
 have hl:(Tm.plainTo seen t t.length)[i]'(by rw [Tm.plainTo_length];exact h1) = Tm.name (Tm.seenFrom seen (t.take i)) t[i]:=by simp [Tm.plainTo,h1]
 rw [List.getElem_map,hl]
 have hd:t = t.take i++(t[i] :: t.drop (i+1)):=by rw [← List.drop_eq_getElem_cons h1,List.take_append_drop]
 obtain ⟨r',hr'⟩:=seen_pre (t.drop (i+1)) (Tm.see (Tm.seenFrom seen (t.take i)) t[i])
 have hS:Tm.seenFrom seen t++r = Tm.see (Tm.seenFrom seen (t.take i)) t[i]++(r'++r):=by
  conv=>lhs;rw [hd]
  rw [seen_app,seen_cons,hr',List.append_assoc]
 have hf:=name_ren (Tm.seenFrom seen (t.take i)) (r'++r) t[i]
 rw [← hS] at hf
 exact hf
def renL (S:List Int):List (List Int):=(List.range 8).map fun i:Nat=>if S.contains (-1 - (i:Int)) = true then [-1 - (Tm.idx S (-1 - (i:Int)):Int)] else [-1]
theorem renL_at (S:List Int) {i:Nat} (h:i < 8):(renL S)[i]?.getD [] = if S.contains (-1 - (i:Int)) = true then [-1 - (Tm.idx S (-1 - (i:Int)):Int)] else [-1]:=by
 unfold renL
 rw [List.getElem?_map,List.getElem?_range h]
 rfl
theorem err_var {v:Int} (h1:-8≤v) (h2:v < 0):Tm.err [v] = 0:=by
 refine Tm.err_ok (by simp) (by simp only [List.all_cons,List.all_nil,Bool.and_true];exact Tm.known_of h1 (by omega)) ?_
 rw [show (1:Nat) = 0+1 from rfl,Tm.run_cons,Wb.room_var h2,Tm.run_zero]
 rfl
theorem renL_err {S:List Int} (h8:S.length≤8):Tm.subErr (renL S) = 0:=by
 unfold Tm.subErr
 rw [if_pos (by simp [renL])]
 refine Tm.firstErr_of fun i hi=>?_
 have hi8:i < 8:=by simpa [renL] using hi
 rw [renL_at S hi8]
 by_cases hc:S.contains (-1 - (i:Int)) = true
 ·rw [if_pos hc]
  have:=idx_lt hc
  exact err_var (by omega) (by omega)
 ·rw [if_neg hc];exact err_var (by omega) (by omega)
theorem applied_ren {S:List Int}:∀ (t:List Int),t.all Tm.known = true→(∀ s∈t,s < 0→S.contains s = true)→Tm.applied (renL S) t = t.map (ren S):=by
 intro t
 induction t with
 | nil=>intro _ _;rfl
 | cons s l ih =>
  intro hk hm
  rw [List.all_cons,Bool.and_eq_true] at hk
  rw [Tm.applied_cons,ih hk.2 (fun x hx=>hm x (by simp [hx])),List.map_cons]
  have h8:=Tm.known_ge hk.1
  have:Tm.piece (renL S) s = [ren S s]:=by
   unfold Tm.piece ren
   by_cases hs:s < 0
   ·rw [if_pos hs,if_pos hs,renL_at S (by omega),show -1 - (((-1 - s).toNat:Nat):Int) = s from by omega,if_pos (hm s (by simp) hs)]
   ·rw [if_neg hs,if_neg hs]
  rw [this]
  rfl
theorem seen_has:∀ (t seen:List Int) (s:Int),s < 0→(s∈t∨seen.contains s = true)→(Tm.seenFrom seen t).contains s = true:=by
 intro t
 induction t with
 | nil =>
  intro seen s _ h
  rcases h with h | h
  ·simp at h
  ·exact h
 | cons x l ih =>
  intro seen s hs h
  rw [seen_cons]
  refine ih _ s hs ?_
  rcases h with h | h
  ·rcases List.mem_cons.1 h with rfl | h
   ·exact .inr (see_mem seen hs)
   ·exact .inl h
  ·obtain ⟨r,e⟩:=see_pre seen x
   rw [e]
   right
   simp at h ⊢
   exact .inl h
end Sn
theorem Tm.plain_ren {X Y:List Int} (eX:Tm.err X = 0) (eY:Tm.err Y = 0):∃ ss,Tm.subErr ss = 0∧Tm.plain X = Tm.applied ss X∧Tm.plain2 X Y = Tm.applied ss Y∧Tm.err (Tm.plain X) = 0∧Tm.err (Tm.plain2 X Y) = 0:=by
 have kX:=Tm.err_all eX
 have kY:=Tm.err_all eY
 have hneg:∀ x∈Tm.seenFrom (Tm.seenFrom [] X) Y,-8≤x∧x < 0:=Sn.seen_neg Y _ kY (Sn.seen_neg X [] kX (fun x hx=>by simp at hx))
 have hnd:(Tm.seenFrom (Tm.seenFrom [] X) Y).Nodup:=Sn.seen_nodup Y _ (Sn.seen_nodup X [] List.nodup_nil)
 have h8:=Sn.pigeon 8 _ hnd hneg
 have hss:=Sn.renL_err h8
 obtain ⟨r,hr⟩:=Sn.seen_pre Y (Tm.seenFrom [] X)
 have pX:Tm.plain X = Tm.applied (Sn.renL (Tm.seenFrom (Tm.seenFrom [] X) Y)) X:=by
  rw [Sn.applied_ren X kX (fun s hs h=>Sn.seen_has Y _ s h (.inr (Sn.seen_has X [] s h (.inl hs))))]
  have:=Sn.plain_map X [] r
  rw [← hr] at this
  exact this
 have pY:Tm.plain2 X Y = Tm.applied (Sn.renL (Tm.seenFrom (Tm.seenFrom [] X) Y)) Y:=by
  rw [Sn.applied_ren Y kY (fun s hs h=>Sn.seen_has Y _ s h (.inl hs))]
  have:=Sn.plain_map Y (Tm.seenFrom [] X) []
  rw [List.append_nil] at this
  exact this
 refine ⟨_,hss,pX,pY,?_,?_⟩
 ·rw [pX]
  refine Tm.err_applied (Terms.of hss) eX ?_
  rw [← pX]
  show (Tm.plainTo [] X X.length).length≤30
  rw [Tm.plainTo_length]
  exact Tm.err_len eX
 ·rw [pY]
  refine Tm.err_applied (Terms.of hss) eY ?_
  rw [← pY]
  show (Tm.plainTo (Tm.seenFrom [] X) Y Y.length).length≤30
  rw [Tm.plainTo_length]
  exact Tm.err_len eY
end Go.Proofs.YtglohanbpjaieaaGreat
namespace Go.Proofs.YtglohanbpjaieaaGreat
open Go.Proofs Go.RowKit Go.Shelf Go.Maps
theorem Tm.form_right {rs:RuleL} {t:List Int} (h:(Tm.form rs t).2.2 = 0):Tm.err (Tm.form rs t).1 = 0:=by
 obtain ⟨n,_,hr,_⟩:=Tm.form_runs h
 exact (Tm.stepErr_term (Tm.runs_end hr).1).2.1
theorem Tm.joinErr_two {rs:RuleL} {P Q:List Int} (h:Tm.joinErr rs P Q = 0):(Tm.form rs P).2.2 = 0∧(Tm.form rs Q).2.2 = 0:=by
 unfold Tm.joinErr at h
 by_cases h1:(Tm.form rs P).2.2 = 0
 ·rw [if_pos h1] at h;exact ⟨h1,h⟩
 ·rw [if_neg h1] at h;exact absurd h h1
def Tm.TurnSays (rk:List Int) (rs:RuleL) (ps:PairL) (er:Int) (rs':RuleL) (ps':PairL):Prop :=
 (Tm.turnErr rk rs ps≠0∧er = Tm.turnErr rk rs ps∧rs' = []∧ps' = []) ∨
 (Tm.turnErr rk rs ps = 0∧∃ p l,ps = p :: l ∧
   ((Tm.joinErr rs p.1 p.2≠0∧er = Tm.joinErr rs p.1 p.2∧rs' = []∧ps' = []) ∨
    (Tm.joinErr rs p.1 p.2 = 0∧(Tm.form rs p.1).1 = (Tm.form rs p.2).1∧er = 0∧rs' = rs∧ps' = l) ∨
    (Tm.joinErr rs p.1 p.2 = 0∧(Tm.form rs p.1).1≠(Tm.form rs p.2).1∧(Tm.dir rk (Tm.form rs p.1).1 (Tm.form rs p.2).1).1≠0∧er = (Tm.dir rk (Tm.form rs p.1).1 (Tm.form rs p.2).1).1∧rs' = []∧ps' = []) ∨
    (Tm.joinErr rs p.1 p.2 = 0∧(Tm.form rs p.1).1≠(Tm.form rs p.2).1∧(Tm.dir rk (Tm.form rs p.1).1 (Tm.form rs p.2).1).1 = 0∧Tm.WithSays rs l (Tm.dir rk (Tm.form rs p.1).1 (Tm.form rs p.2).1).2.1 (Tm.dir rk (Tm.form rs p.1).1 (Tm.form rs p.2).1).2.2 er rs' ps')))
theorem Tm.turnErr_zero {rk:List Int} {rs:RuleL} {ps:PairL} (h:Tm.turnErr rk rs ps = 0):Tm.rankErr rk = 0∧ps.length≤40∧Tm.firstPair ps = 0∧Tm.rulesErr rs = 0∧Tm.fallsErr rk rs = 0∧Tm.fallsVal rk rs = true∧0 < ps.length:=by
 unfold Tm.turnErr at h
 by_cases h1:Tm.bothErr rk ps = 0
 ·rw [if_pos h1] at h
  by_cases h2:Tm.fallsErr rk rs = 0
  ·rw [if_pos h2] at h
   by_cases h3:Tm.fallsVal rk rs = true
   ·rw [if_pos h3] at h
    by_cases h4:ps.length = 0
    ·rw [if_pos h4] at h;cases h
    ·unfold Tm.bothErr at h1
     by_cases h5:Tm.rankErr rk = 0
     ·rw [if_pos h5] at h1
      unfold Tm.eqsErr at h1
      by_cases h6:40 < ps.length
      ·rw [if_pos h6] at h1;cases h1
      ·rw [if_neg h6] at h1
       have h7:=h2
       unfold Tm.fallsErr at h7
       rw [if_pos h5] at h7
       exact ⟨h5,by omega,h1,h7,h2,h3,by omega⟩
     ·rw [if_neg h5] at h1;exact absurd h1 h5
   ·rw [if_neg h3] at h;cases h
  ·rw [if_neg h2] at h;exact absurd h h2
 ·rw [if_neg h1] at h;exact absurd h h1
theorem Tm.dir_right {rk P Q:List Int} (eP:Tm.err P = 0) (eQ:Tm.err Q = 0) (h:(Tm.dir rk P Q).1 = 0):Tm.err (Tm.dir rk P Q).2.1 = 0∧Tm.err (Tm.dir rk P Q).2.2 = 0:=by
 have key:∀ {A B:List Int},Tm.err A = 0→Tm.err B = 0→Tm.plErr A = 0→Tm.err (Tm.plVal A B).1 = 0∧Tm.err (Tm.plVal A B).2 = 0:=fun {A B} hA hB h0=>by
  obtain ⟨_,_,_,_,h1,h2⟩:=Tm.plain_ren hA hB
  unfold Tm.plVal
  rw [if_pos h0]
  exact ⟨h1,h2⟩
 unfold Tm.dir at h ⊢
 by_cases h1:Tm.aboveVal rk P Q = true
 ·rw [if_pos h1] at h ⊢;exact key eP eQ h
 ·rw [if_neg h1] at h ⊢
  by_cases h2:Tm.aboveVal rk Q P = true
  ·rw [if_pos h2] at h ⊢;exact key eQ eP h
  ·rw [if_neg h2] at h;cases h
theorem RulesAt.tail {n:Nat} {W:World} {b off:Nat} {p:List Int × List Int} {l:PairL} (h:RulesAt n W (some ⟨b,off,none⟩) (p :: l)):RulesAt n W (some ⟨b,off+2,none⟩) l:=fun k hk=>by
 obtain ⟨b',off',e,hb,aL,cL,aR,cR,h1,h2,r⟩:=h (k+1) (by simpa using hk)
 cases e
 rw [List.getElem?_cons_succ] at h1 h2 r
 exact ⟨b,off+2,rfl,hb,aL,cL,aR,cR,by rw [show off+2+k * 2 = off+(k+1) * 2 by omega];exact h1,by rw [show off+2+k * 2+1 = off+(k+1) * 2+1 by omega];exact h2,r⟩
set_option maxRecDepth 100000 in
set_option maxHeartbeats 4000000 in
theorem Turn_any (rk : List Int) (rs : RuleL) (ps : PairL) (ar al a : Option Addr) (cr cl cap : Nat) (w : World) (hR : Ints w.heap.size w ar rk) (hL : RulesAt w.heap.size w al rs) (hP : RulesAt w.heap.size w a ps) (hc1 : ps.length ≤ cap) (hc2 : cap ≤ maxLen) :
    Calls Tryz.prog 6 #[.slice ar rk.length cr, .slice al rs.length cl, .slice a ps.length cap] w fun e w' => ∃ er rs' ps' v u, Tm.TurnSays rk rs ps er rs' ps' ∧ e = .returned (.tuple #[v, u, .int .i64 er]) ∧ NewX false 54 w.heap.size w.heap.size w' v rs' ∧ NewX false 40 w.heap.size w.heap.size w' u ps' ∧ Below w.heap.size w w' := by
  have hC := hid (checkTurn_any rk rs ps ar al a cr cl cap w hR hL hP (by omega))
  by_cases ht : Tm.turnErr rk rs ps = 0
  · obtain ⟨k1, k2, k3, k4, k5, k6, k7⟩ := Tm.turnErr_zero ht
    cases ps with
    | nil => simp at k7
    | cons p l =>
      have hS : Hid (∀ er rs' ps', ((Tm.joinErr rs p.1 p.2 ≠ 0 ∧ er = Tm.joinErr rs p.1 p.2 ∧ rs' = [] ∧ ps' = []) ∨
     (Tm.joinErr rs p.1 p.2 = 0 ∧ (Tm.form rs p.1).1 = (Tm.form rs p.2).1 ∧ er = 0 ∧ rs' = rs ∧ ps' = l) ∨
     (Tm.joinErr rs p.1 p.2 = 0 ∧ (Tm.form rs p.1).1 ≠ (Tm.form rs p.2).1 ∧ (Tm.dir rk (Tm.form rs p.1).1 (Tm.form rs p.2).1).1 ≠ 0 ∧ er = (Tm.dir rk (Tm.form rs p.1).1 (Tm.form rs p.2).1).1 ∧ rs' = [] ∧ ps' = []) ∨
     (Tm.joinErr rs p.1 p.2 = 0 ∧ (Tm.form rs p.1).1 ≠ (Tm.form rs p.2).1 ∧ (Tm.dir rk (Tm.form rs p.1).1 (Tm.form rs p.2).1).1 = 0 ∧ Tm.WithSays rs l (Tm.dir rk (Tm.form rs p.1).1 (Tm.form rs p.2).1).2.1 (Tm.dir rk (Tm.form rs p.1).1 (Tm.form rs p.2).1).2.2 er rs' ps')) → Tm.TurnSays rk rs (p :: l) er rs' ps') := fun er rs' ps' h => .inr ⟨ht, p, l, rfl, h⟩
      rw [ht] at hC
      have hep := Tm.firstP_zero k3
      obtain ⟨h8, hall⟩ := Tm.rulesErr_ok k4
      have hel := hid (fun k (hk : k < l.length) => (show Tm.err (l[k]?.getD ([], [])).1 = 0 ∧ Tm.err (l[k]?.getD ([], [])).2 = 0 by have := hep (k + 1) (by simpa using hk); rwa [List.getElem?_cons_succ] at this))
      have her := hid (fun k (hk : k < rs.length) => (show Tm.err (rs[k]?.getD ([], [])).1 = 0 ∧ Tm.err (rs[k]?.getD ([], [])).2 = 0 from ⟨(Tm.ruleErr_ok (hall k hk)).1, (Tm.ruleErr_ok (hall k hk)).2.1⟩))
      have hl39 : l.length ≤ 39 := by simp at k2; omega
      obtain ⟨b, off, rfl, hb, aP, cP, aQ, cQ, g1, g2, g3, g4, g5, g6, g7, g8⟩ := hP 0 (by simp)
      rw [Nat.zero_mul, Nat.add_zero] at g1 g2
      simp only [List.getElem?_cons_zero, Option.getD_some] at g1 g2 g3 g4 g5 g7
      have hF := hid (fun W (hW : Below w.heap.size w W) => forms_any rs p.1 p.2 al aP aQ cl cP cQ W ((hL.below hW).mono hW.size) ((g3.below hW).mono hW.size) ((g4.below hW).mono hW.size) g5 g6 g7 g8)
      have hOr := hid (fun W (hW : Below w.heap.size w W) => ownRules_any (fl := false) w.heap.size rs al cl W hW.size ((hL.below hW).mono hW.size) (by omega) her.out)
      have hTl := hid hP.tail
      have hOp := hid (fun W (hW : Below w.heap.size w W) c => ownPairs_any (fl := false) w.heap.size l (some ⟨b, off + 2, none⟩) c W hW.size ((hTl.out.below hW).mono hW.size) (by omega) hel.out)
      have HR := hid (fun W (hW : Below w.heap.size w W) => (hR.below hW).mono hW.size)
      have hcell := hid (fun W (hW : Below w.heap.size w W) => (show W.cell? ⟨b, off, none⟩ = some (.slice aP p.1.length cP) ∧ W.cell? ⟨b, off + 1, none⟩ = some (.slice aQ p.2.length cQ) from ⟨(hW.cell (p := ⟨b, off, none⟩) hb).trans g1, (hW.cell (p := ⟨b, off + 1, none⟩) hb).trans g2⟩))
      have Hk1 := hid k1
      clear hR hL hP hTl g1 g2 g3 g4 ht k2 k3 k4 k5 k6 k7 hep hall
      obtain ⟨P, Q⟩ := p
      dsimp only at hS hF hcell g5 g7
      have hlen : ((P, Q) :: l).length = l.length + 1 := rfl
      have hl39' : (l.length : Int) ≤ 39 := by omega
      have hc1' : l.length + 1 ≤ cap := hc1
      have hc2' : (cap : Int) ≤ 9223372036854775807 := by unfold maxLen at hc2; omega
      have hc3' : (l.length : Int) + 1 ≤ (cap : Int) := by omega
      by_cases hj : Tm.joinErr rs P Q = 0
      · obtain ⟨f1, f2⟩ := Tm.joinErr_two hj
        have eF := Tm.form_right f1
        have eG := Tm.form_right f2
        have hfv : Tm.formsVal rs P Q = ((Tm.form rs P).1, (Tm.form rs Q).1) := by unfold Tm.formsVal; rw [if_pos hj]
        rw [hj, hfv] at hF
        rw [hj] at hS
        dsimp only at hF
        clear hfv f1 f2 hj
        generalize (Tm.form rs P).1 = F at *
        generalize (Tm.form rs Q).1 = G at *
        have lF := Tm.err_len eF
        have hEq := hid (fun W a1 a2 c1 c2 h1 h2 => equal_any F G a1 a2 c1 c2 W h1 h2 (by unfold maxLen; omega))
        have hD := hid (fun W (hW : Below w.heap.size w W) aF aG cF cG h1 h2 p1 p2 q1 q2 => directed_any rk F G ar aF aG cr cF cG W Hk1.out eF eG (HR.out W hW) h1 h2 p1 p2 q1 q2)
        rw [hlen]
        rw [hlen] at hC
        by_cases hFG : F = G
        · subst hFG
          rw [show sameB F F = true by simp [sameB]] at hEq
          clear hD
          go_enter Tryz.func6, Tryz.ntmps6
          go_wp2_with fail
          refine hC.out.mono ?_
          rintro e w1 ⟨rfl, b1⟩
          obtain ⟨x0, x1⟩ := hcell.out w1 b1
          clear hC
          go_wp2_with fail
          refine (hF.out w1 b1).mono ?_
          rintro e w2 ⟨v, u, rfl, n1, n2, b2⟩
          have B2 := b1.trans (b2.mono b1.size)
          obtain ⟨aF, cF, rfl, iF, pF, pF'⟩ := New.ints n1
          obtain ⟨aG, cG, rfl, iG, pG, pG'⟩ := New.ints n2
          clear hF n1 n2 x0 x1
          have hBd : Below w2.heap.size w2 w2.drew := below_drewN (Below.refl _ w2) 1
          have Bd := B2.trans (hBd.mono B2.size)
          by_cases hcap : cap = 1
          · subst hcap
            obtain rfl : l = [] := List.eq_nil_of_length_eq_zero (by omega)
            simp only [List.length_nil, Nat.zero_add]
            go_wp2
            go_region_held3 (fun _ => True) (first | trivial) (first
              | (go_at_call 29; refine (hOr.out w2.drew Bd).mono ?_; rintro e w3 ⟨v3, rfl, hN3, b3⟩; have B3 := Bd.trans (b3.mono Bd.size))
              | (go_at_call 30; refine (ownPairs_any (fl := false) w.heap.size [] (some ⟨b, off, none⟩) 0 w3 B3.size (fun k hk => by simp at hk) (by simp) (fun k hk => by simp at hk)).mono ?_; rintro e w4 ⟨v4, rfl, hN4, b4⟩; have B4 := B3.trans (b4.mono B3.size)))
            have N3 := hid ((hN3.below b4).mono (show w.heap.size ≤ w2.drew.heap.size from Bd.size))
            have N4 := hid (hN4.mono B3.size)
            have IF4 := hid (((iF.below hBd).mono hBd.size |>.below b3).mono b3.size |>.below b4 |>.mono b4.size)
            have IG4 := hid (((iG.below hBd).mono hBd.size |>.below b3).mono b3.size |>.below b4 |>.mono b4.size)
            obtain ⟨a3, c3, e3⟩ := hN3.slice
            obtain ⟨a4, c4, e4⟩ := hN4.slice
            rw [e3] at N3
            rw [e4] at N4
            clear hN3 hN4 b3 hOr
            go_wp2_with fail
            refine (hEq.out w4 aF aG cF cG IF4.out IG4.out).mono ?_
            rintro e w5 ⟨rfl, b5⟩
            have B5 := B4.trans (b5.mono B4.size)
            subst e3 e4
            go_wp2
            go_ret3
            exact ⟨0, rs, [], _, _, hS.out _ _ _ (.inr (.inl ⟨(by first | rfl | trivial), (by first | rfl | trivial), rfl, rfl, rfl⟩)), rfl, N3.out.below b5, N4.out.below b5, B5⟩
          · have r1 : (1 : Int) ≤ (l.length : Int) + 1 := by omega
            have r3 : ¬ cap - 1 = 0 := by omega
            have r4 : (1 : Int) ≤ (cap : Int) := by omega
            go_wp2
            go_region_held3 (fun _ => True) (first | trivial) (first
              | (go_at_call 29; refine (hOr.out w2.drew Bd).mono ?_; rintro e w3 ⟨v3, rfl, hN3, b3⟩; have B3 := Bd.trans (b3.mono Bd.size))
              | (go_at_call 30; refine (hOp.out w3 B3 (cap - 1)).mono ?_; rintro e w4 ⟨v4, rfl, hN4, b4⟩; have B4 := B3.trans (b4.mono B3.size)))
            have N3 := hid ((hN3.below b4).mono (show w.heap.size ≤ w2.drew.heap.size from Bd.size))
            have N4 := hid (hN4.mono B3.size)
            have IF4 := hid (((iF.below hBd).mono hBd.size |>.below b3).mono b3.size |>.below b4 |>.mono b4.size)
            have IG4 := hid (((iG.below hBd).mono hBd.size |>.below b3).mono b3.size |>.below b4 |>.mono b4.size)
            obtain ⟨a3, c3, e3⟩ := hN3.slice
            obtain ⟨a4, c4, e4⟩ := hN4.slice
            rw [e3] at N3
            rw [e4] at N4
            clear hN3 hN4 b3 hOr
            go_wp2_with fail
            refine (hEq.out w4 aF aG cF cG IF4.out IG4.out).mono ?_
            rintro e w5 ⟨rfl, b5⟩
            have B5 := B4.trans (b5.mono B4.size)
            subst e3 e4
            go_wp2
            go_ret3
            exact ⟨0, rs, l, _, _, hS.out _ _ _ (.inr (.inl ⟨(by first | rfl | trivial), (by first | rfl | trivial), rfl, rfl, rfl⟩)), rfl, N3.out.below b5, N4.out.below b5, B5⟩
        · have hsb : sameB F G = false := by unfold sameB; exact decide_eq_false hFG
          rw [hsb] at hEq
          go_enter Tryz.func6, Tryz.ntmps6
          go_wp2_with fail
          refine hC.out.mono ?_
          rintro e w1 ⟨rfl, b1⟩
          obtain ⟨x0, x1⟩ := hcell.out w1 b1
          clear hC
          go_wp2_with fail
          refine (hF.out w1 b1).mono ?_
          rintro e w2 ⟨v, u, rfl, n1, n2, b2⟩
          have B2 := b1.trans (b2.mono b1.size)
          obtain ⟨aF, cF, rfl, iF, pF, pF'⟩ := New.ints n1
          obtain ⟨aG, cG, rfl, iG, pG, pG'⟩ := New.ints n2
          clear hF n1 n2 x0 x1
          have hBd : Below w2.heap.size w2 w2.drew := below_drewN (Below.refl _ w2) 1
          have Bd := B2.trans (hBd.mono B2.size)
          by_cases hcap : cap = 1
          · subst hcap
            obtain rfl : l = [] := List.eq_nil_of_length_eq_zero (by omega)
            simp only [List.length_nil, Nat.zero_add]
            go_wp2
            go_region_held3 (fun _ => True) (first | trivial) (first
              | (go_at_call 29; refine (hOr.out w2.drew Bd).mono ?_; rintro e w3 ⟨v3, rfl, hN3, b3⟩; have B3 := Bd.trans (b3.mono Bd.size))
              | (go_at_call 30; refine (ownPairs_any (fl := false) w.heap.size [] (some ⟨b, off, none⟩) 0 w3 B3.size (fun k hk => by simp at hk) (by simp) (fun k hk => by simp at hk)).mono ?_; rintro e w4 ⟨v4, rfl, hN4, b4⟩; have B4 := B3.trans (b4.mono B3.size)))
            have N3 := hid ((hN3.below b4).mono (show w.heap.size ≤ w2.drew.heap.size from Bd.size))
            have N4 := hid (hN4.mono B3.size)
            have IF4 := hid (((iF.below hBd).mono hBd.size |>.below b3).mono b3.size |>.below b4 |>.mono b4.size)
            have IG4 := hid (((iG.below hBd).mono hBd.size |>.below b3).mono b3.size |>.below b4 |>.mono b4.size)
            obtain ⟨a3, c3, e3⟩ := hN3.slice
            obtain ⟨a4, c4, e4⟩ := hN4.slice
            rw [e3] at N3
            rw [e4] at N4
            clear hN3 hN4 b3 hOr
            go_wp2_with fail
            refine (hEq.out w4 aF aG cF cG IF4.out IG4.out).mono ?_
            rintro e w5 ⟨rfl, b5⟩
            have B5 := B4.trans (b5.mono B4.size)
            go_wp2_with fail
            refine (hD.out w5 B5 aF aG cF cG ((IF4.out.below b5).mono b5.size) ((IG4.out.below b5).mono b5.size) pF pF' pG pG').mono ?_
            rintro e w6 ⟨v6, u6, rfl, n6, m6, b6⟩
            have B6 := B5.trans (b6.mono B5.size)
            obtain ⟨a6, c6, rfl, i6, y6, y6'⟩ := IntR.new (fl := false) (base := w.heap.size) n6 (.inr B5.size)
            obtain ⟨a7, c7, rfl, i7, y7, y7'⟩ := IntR.new (fl := false) (base := w.heap.size) m6 (.inr B5.size)
            obtain ⟨W7, hW7⟩ : ∃ W7, w6.alloc (.cells #[.slice a6 (Tm.dir rk F G).2.1.length c6, .slice a7 (Tm.dir rk F G).2.2.length c7] 54) = W7 := ⟨_, rfl⟩
            have b7 : Below w6.heap.size w6 W7 := by rw [← hW7]; exact (Below.refl _ _).alloc (Nat.le_refl _) _
            have bx7 : Box2 W7 w6.heap.size 54 (.slice a6 (Tm.dir rk F G).2.1.length c6) (.slice a7 (Tm.dir rk F G).2.2.length c7) := by rw [← hW7]; exact Box2.new w6 _ _ _
            have z0 := bx7.cell0
            have z1 := bx7.cell1
            have B7 := B6.trans (b7.mono B6.size)
            have M3 := hid (((N3.out.below b5).below b6).below b7)
            have M4 := hid (((N4.out.below b5).below b6).below b7)
            have i6' := hid (i6.below b7)
            have i7' := hid (i7.below b7)
            have hdr := hid (fun h => Tm.dir_right (rk := rk) eF eG h)
            have HW7 := hid hW7
            clear hW7 n6 m6 i6 i7 bx7 hD N3 N4 IF4 IG4
            generalize Tm.dir rk F G = dv at *
            obtain ⟨de, dL, dR⟩ := dv
            dsimp only at *
            by_cases hde : de = 0
            · subst hde
              have hW := hid (with_any w.heap.size rs [] dL dR _ _ a6 a7 c6 c7 W7 B7.size M3.out M4.out i6'.out i7'.out (hdr.out rfl).1 y6 y6' y7 y7' (fun k hk => (her.out k hk).1) (by omega) (by first | omega | (simp; omega) | simp))
              subst e3 e4
              go_wp2_with fail
              rw [HW7.out]
              go_wp2_with fail
              refine hW.out.mono ?_
              rintro e w8 ⟨er, rs', ps', v8, u8, hs8, rfl, n8, m8, b8⟩
              have Hs := hid (hS.out er rs' ps' (.inr (.inr (.inr ⟨(by first | rfl | trivial), hFG, (by first | rfl | trivial), hs8⟩))))
              obtain ⟨a8, c8, rfl⟩ := n8.slice
              obtain ⟨a9, c9, rfl⟩ := m8.slice
              go_wp2
              go_ret3
              exact ⟨er, rs', ps', _, _, Hs.out, rfl, n8, m8, B7.trans b8⟩
            · have hne : (de != 0) = true := by simpa using hde
              have Hs := hid (hS.out de [] [] (.inr (.inr (.inl ⟨(by first | rfl | trivial), hFG, hde, rfl, rfl, rfl⟩))))
              clear hde
              subst e3 e4
              go_wp2_with fail
              go_ret3
              first | exact ⟨de, [], [], _, _, Hs.out, rfl, NewX.nil _ _ _ _, NewX.nil _ _ _ _, by rw [HW7.out]; exact B7⟩
          · have r1 : (1 : Int) ≤ (l.length : Int) + 1 := by omega
            have r3 : ¬ cap - 1 = 0 := by omega
            have r4 : (1 : Int) ≤ (cap : Int) := by omega
            go_wp2
            go_region_held3 (fun _ => True) (first | trivial) (first
              | (go_at_call 29; refine (hOr.out w2.drew Bd).mono ?_; rintro e w3 ⟨v3, rfl, hN3, b3⟩; have B3 := Bd.trans (b3.mono Bd.size))
              | (go_at_call 30; refine (hOp.out w3 B3 (cap - 1)).mono ?_; rintro e w4 ⟨v4, rfl, hN4, b4⟩; have B4 := B3.trans (b4.mono B3.size)))
            have N3 := hid ((hN3.below b4).mono (show w.heap.size ≤ w2.drew.heap.size from Bd.size))
            have N4 := hid (hN4.mono B3.size)
            have IF4 := hid (((iF.below hBd).mono hBd.size |>.below b3).mono b3.size |>.below b4 |>.mono b4.size)
            have IG4 := hid (((iG.below hBd).mono hBd.size |>.below b3).mono b3.size |>.below b4 |>.mono b4.size)
            obtain ⟨a3, c3, e3⟩ := hN3.slice
            obtain ⟨a4, c4, e4⟩ := hN4.slice
            rw [e3] at N3
            rw [e4] at N4
            clear hN3 hN4 b3 hOr
            go_wp2_with fail
            refine (hEq.out w4 aF aG cF cG IF4.out IG4.out).mono ?_
            rintro e w5 ⟨rfl, b5⟩
            have B5 := B4.trans (b5.mono B4.size)
            go_wp2_with fail
            refine (hD.out w5 B5 aF aG cF cG ((IF4.out.below b5).mono b5.size) ((IG4.out.below b5).mono b5.size) pF pF' pG pG').mono ?_
            rintro e w6 ⟨v6, u6, rfl, n6, m6, b6⟩
            have B6 := B5.trans (b6.mono B5.size)
            obtain ⟨a6, c6, rfl, i6, y6, y6'⟩ := IntR.new (fl := false) (base := w.heap.size) n6 (.inr B5.size)
            obtain ⟨a7, c7, rfl, i7, y7, y7'⟩ := IntR.new (fl := false) (base := w.heap.size) m6 (.inr B5.size)
            obtain ⟨W7, hW7⟩ : ∃ W7, w6.alloc (.cells #[.slice a6 (Tm.dir rk F G).2.1.length c6, .slice a7 (Tm.dir rk F G).2.2.length c7] 54) = W7 := ⟨_, rfl⟩
            have b7 : Below w6.heap.size w6 W7 := by rw [← hW7]; exact (Below.refl _ _).alloc (Nat.le_refl _) _
            have bx7 : Box2 W7 w6.heap.size 54 (.slice a6 (Tm.dir rk F G).2.1.length c6) (.slice a7 (Tm.dir rk F G).2.2.length c7) := by rw [← hW7]; exact Box2.new w6 _ _ _
            have z0 := bx7.cell0
            have z1 := bx7.cell1
            have B7 := B6.trans (b7.mono B6.size)
            have M3 := hid (((N3.out.below b5).below b6).below b7)
            have M4 := hid (((N4.out.below b5).below b6).below b7)
            have i6' := hid (i6.below b7)
            have i7' := hid (i7.below b7)
            have hdr := hid (fun h => Tm.dir_right (rk := rk) eF eG h)
            have HW7 := hid hW7
            clear hW7 n6 m6 i6 i7 bx7 hD N3 N4 IF4 IG4
            generalize Tm.dir rk F G = dv at *
            obtain ⟨de, dL, dR⟩ := dv
            dsimp only at *
            by_cases hde : de = 0
            · subst hde
              have hW := hid (with_any w.heap.size rs l dL dR _ _ a6 a7 c6 c7 W7 B7.size M3.out M4.out i6'.out i7'.out (hdr.out rfl).1 y6 y6' y7 y7' (fun k hk => (her.out k hk).1) (by omega) (by first | omega | (simp; omega) | simp))
              subst e3 e4
              go_wp2_with fail
              rw [HW7.out]
              go_wp2_with fail
              refine hW.out.mono ?_
              rintro e w8 ⟨er, rs', ps', v8, u8, hs8, rfl, n8, m8, b8⟩
              have Hs := hid (hS.out er rs' ps' (.inr (.inr (.inr ⟨(by first | rfl | trivial), hFG, (by first | rfl | trivial), hs8⟩))))
              obtain ⟨a8, c8, rfl⟩ := n8.slice
              obtain ⟨a9, c9, rfl⟩ := m8.slice
              go_wp2
              go_ret3
              exact ⟨er, rs', ps', _, _, Hs.out, rfl, n8, m8, B7.trans b8⟩
            · have hne : (de != 0) = true := by simpa using hde
              have Hs := hid (hS.out de [] [] (.inr (.inr (.inl ⟨(by first | rfl | trivial), hFG, hde, rfl, rfl, rfl⟩))))
              clear hde
              subst e3 e4
              go_wp2_with fail
              go_ret3
              first | exact ⟨de, [], [], _, _, Hs.out, rfl, NewX.nil _ _ _ _, NewX.nil _ _ _ _, by rw [HW7.out]; exact B7⟩
      · have hne : (Tm.joinErr rs P Q != 0) = true := by simpa using hj
        have Hs := hid (hS.out (Tm.joinErr rs P Q) [] [] (.inl ⟨hj, rfl, rfl, rfl⟩))
        rw [hlen]
        rw [hlen] at hC
        clear hj hS
        generalize Tm.joinErr rs P Q = q at *
        generalize Tm.formsVal rs P Q = fv at *
        go_enter Tryz.func6, Tryz.ntmps6
        go_wp2_with fail
        refine hC.out.mono ?_
        rintro e w1 ⟨rfl, b1⟩
        obtain ⟨x0, x1⟩ := hcell.out w1 b1
        clear hC
        go_wp2_with fail
        refine (hF.out w1 b1).mono ?_
        rintro e w2 ⟨v, u, rfl, n1, n2, b2⟩
        obtain ⟨aF, cF, rfl, _⟩ := New.ints n1
        obtain ⟨aG, cG, rfl, _⟩ := New.ints n2
        go_wp2
        go_ret3
        exact ⟨q, [], [], _, _, Hs.out, rfl, NewX.nil _ _ _ _, NewX.nil _ _ _ _, b1.trans (b2.mono b1.size)⟩
  · have Hs : Hid (Tm.TurnSays rk rs ps (Tm.turnErr rk rs ps) [] []) := .inl ⟨ht, rfl, rfl, rfl⟩
    have hne : (Tm.turnErr rk rs ps != 0) = true := by simpa using ht
    clear ht hR hL hP
    generalize Tm.turnErr rk rs ps = q at *
    go_enter Tryz.func6, Tryz.ntmps6
    go_wp2_with fail
    refine hC.out.mono ?_
    rintro e w1 ⟨rfl, b1⟩
    go_wp2
    go_ret3
    exact ⟨q, [], [], _, _, Hs.out, rfl, NewX.nil _ _ _ _, NewX.nil _ _ _ _, b1⟩
def Tm.RunTo (rk:List Int) (ps:PairL):Nat→RuleL→PairL→Prop
 | 0,rs,qs=>rs = []∧qs = ps
 | k+1,rs,qs=>∃ rs0 qs0,Tm.RunTo rk ps k rs0 qs0∧0 < qs0.length∧Tm.TurnSays rk rs0 qs0 0 rs qs
def Tm.RunSays (rk:List Int) (ps:PairL) (er:Int) (rs:RuleL) (n:Nat):Prop :=
 (Tm.bothErr rk ps≠0∧er = Tm.bothErr rk ps∧rs = []∧n = 0) ∨
 (Tm.bothErr rk ps = 0∧∃ k rs0 qs,k≤30∧Tm.RunTo rk ps k rs0 qs ∧
   ((qs = []∧er = 0∧rs = rs0∧n = k)∨(0 < qs.length∧k = 30∧er = 2∧rs = []∧n = 0)∨(0 < qs.length∧k < 30∧er≠0∧(∃ rs' qs',Tm.TurnSays rk rs0 qs er rs' qs')∧rs = []∧n = 0)))
set_option maxRecDepth 100000 in
set_option maxHeartbeats 4000000 in
theorem Run_any (rk:List Int) (ps:PairL) (ar a:Option Addr) (cr cap:Nat) (w:World) (hR:Ints w.heap.size w ar rk) (hP:RulesAt w.heap.size w a ps) (hc1:ps.length≤cap) (hc2:cap≤maxLen) :
 Calls Tryz.prog 11 #[.slice ar rk.length cr,.slice a ps.length cap] w fun e w'=>∃ er rs n al cl,Tm.RunSays rk ps er rs n∧e = .returned (.tuple #[.slice al rs.length cl,.int .i64 (n:Int),.int .i64 er])∧RulesAt w'.heap.size w' al rs∧rs.length≤cl∧cl≤maxLen∧Below w.heap.size w w':=by
 have hC:=hid (checkBoth_any rk ps ar a cr cap w hR hP (by omega))
 have HR:=hid (fun W (hW:Below w.heap.size w W)=>(hR.below hW).mono hW.size)
 have HP:=hid (fun W (hW:Below w.heap.size w W)=>(hP.below hW).mono hW.size)
 clear hR hP
 by_cases hb:Tm.bothErr rk ps = 0
 ·have hS:Hid (∀ er rs n,(∃ k rs0 qs,k≤30∧Tm.RunTo rk ps k rs0 qs ∧
  ((qs = []∧er = 0∧rs = rs0∧n = k)∨(0 < qs.length∧k = 30∧er = 2∧rs = []∧n = 0)∨(0 < qs.length∧k < 30∧er≠0∧(∃ rs' qs',Tm.TurnSays rk rs0 qs er rs' qs')∧rs = []∧n = 0)))→Tm.RunSays rk ps er rs n):=fun er rs n h=>.inr ⟨hb,h⟩
  rw [hb] at hC
  clear hb
  go_enter Tryz.func11,Tryz.ntmps11
  go_wp2_with fail
  refine hC.out.mono ?_
  rintro e w1 ⟨rfl,b1⟩
  clear hC
  go_wp2
  go_loopw [1,8,9] (fun ev lv v wr=>∃ (k:Nat) (rs qs:PairL) (ae al:Option Addr) (ce cl:Nat),k≤30∧v = .int .i64 (k:Int)∧ev = .slice ae qs.length ce∧lv = .slice al rs.length cl∧Hid (RulesAt wr.heap.size wr ae qs)∧Hid (RulesAt wr.heap.size wr al rs)∧Hid (qs.length≤ce∧ce≤maxLen∧rs.length≤cl∧cl≤maxLen)∧Hid (Tm.RunTo rk ps k rs qs)∧Below w1.heap.size w1 wr) (fun _ _ v _=>31 - (intOf v).toNat)
  case atStart=>exact ⟨0,[],ps,a,none,cap,0,by omega,rfl,rfl,rfl,hid (HP.out w1 b1),fun k hk=>by simp at hk,hid ⟨hc1,hc2,by simp,by simp⟩,hid ⟨rfl,rfl⟩,Below.refl _ _⟩
  case round =>
   obtain ⟨k,rs,qs,ae,al,ce,cl,hk,rfl,rfl,rfl,hQ,hL,hcc,hto,hB⟩:=hrel
   have BW:=b1.trans (hB.mono b1.size)
   obtain ⟨m1,m2,m3,m4⟩:=hcc.out
   have m5:(qs.length:Int)≤9223372036854775807:=by unfold maxLen at m2;omega
   by_cases hq:0 < qs.length
   ·have hq':(0:Int) < (qs.length:Int):=by omega
    by_cases h30:k = 30
    ·subst h30
     have Hs:=hid (hS.out 2 [] 0 ⟨30,rs,qs,Nat.le_refl _,hto.out,.inr (.inl ⟨hq,rfl,rfl,rfl,rfl⟩)⟩)
     clear hS hto hq
     go_wp2
     go_ret3
     exact ⟨2,[],0,none,0,Hs.out,rfl,(fun k hk=>by simp at hk),by simp,by simp,BW⟩
    ·have h30':((k:Int) == 30) = false:=by rw [beq_eq_false_iff_ne];omega
     have hkk:(k:Int)≤29:=by omega
     have hT:=hid (Turn_any rk rs qs ar al ae cr cl ce wr (HR.out wr BW) hL.out hQ.out m1 m2)
     clear hQ hL hcc m1 m2 m3 m4
     go_wp2_with fail
     refine hT.out.mono ?_
     rintro e w2 ⟨er,rs',qs',v,u,hs,rfl,n1,n2,b2⟩
     obtain ⟨a3,c3,rfl,r3,l3,l3'⟩:=n1.at
     obtain ⟨a4,c4,rfl,r4,l4,l4'⟩:=n2.at
     have B2:=hB.trans (b2.mono hB.size)
     clear hT n1 n2
     by_cases he:er = 0
     ·subst he
      have Hto:Hid (Tm.RunTo rk ps (k+1) rs' qs'):=⟨rs,qs,hto.out,hq,hs⟩
      clear hs hto hS hq
      go_wp2
      go_roundw
      case rel=>exact ⟨k+1,rs',qs',a4,a3,c4,c3,by omega,by go_num,rfl,rfl,hid r4,hid r3,hid ⟨l4,l4',l3,l3'⟩,Hto,B2⟩
      case measure=>simp [intOf];omega
     ·have hne:(er != 0) = true:=by simpa using he
      have Hs:=hid (hS.out er [] 0 ⟨k,rs,qs,hk,hto.out,.inr (.inr ⟨hq,by omega,he,⟨rs',qs',hs⟩,rfl,rfl⟩)⟩)
      clear hs hto hS hq he
      go_wp2
      go_ret3
      exact ⟨er,[],0,none,0,Hs.out,rfl,(fun k hk=>by simp at hk),by simp,by simp,b1.trans (B2.mono b1.size)⟩
   ·have hq0:qs = []:=List.eq_nil_of_length_eq_zero (by omega)
    subst hq0
    have Hs:=hid (hS.out 0 rs k ⟨k,rs,[],hk,hto.out,.inl ⟨rfl,rfl,rfl,rfl⟩⟩)
    clear hS hto hq
    go_wp2
    go_ret3
    exact ⟨0,rs,k,al,cl,Hs.out,rfl,hL.out,m3,m4,BW⟩
 ·have Hs:Hid (Tm.RunSays rk ps (Tm.bothErr rk ps) [] 0):=.inl ⟨hb,rfl,rfl,rfl⟩
  have hne:(Tm.bothErr rk ps != 0) = true:=by simpa using hb
  clear hb
  generalize Tm.bothErr rk ps = q at *
  go_enter Tryz.func11,Tryz.ntmps11
  go_wp2_with fail
  refine hC.out.mono ?_
  rintro e w1 ⟨rfl,b1⟩
  go_wp2
  go_ret3
  exact ⟨q,[],0,none,0,Hs.out,rfl,(fun k hk=>by simp at hk),by simp,by simp,b1⟩
def grp1:RuleL:=[([4,0,-1],[-1])]
theorem Tm.grp1_of {e:Int} {ps:PairL} (h:Tm.OfSays grp1 0 0 e ps):e = 0∧ps = []:=by
 refine Tm.OfSays.right (rs:=grp1) (a:=0) (b:=0) (by decide +kernel) (by decide) (by decide) ?_ h
 have:=Tm.Laps.run (.zero:Tm.Laps [4,0,-1] [-1] (Tm.others [4,0,-1]) (Tm.others [-1]) (Tm.passB [4,0,-1] 0 0) 0 []) 3 (by decide +kernel)
 exact this
theorem Tm.last_is {rs:RuleL} {ws:List (Nat × Nat)} {er:Int} {ps:PairL} (g:Nat→PairL) (hg:∀ j,j < ws.length→∀ e qs,Tm.OfSays rs ((ws[j]?.getD (0,0)).1:Int) ((ws[j]?.getD (0,0)).2:Int) e qs→e = 0∧qs = g j) (h:Tm.LastSays rs ws er ps):er = 0∧ps = ((List.range ws.length).map g).flatten:=by
 rcases h with ⟨rfl,f,h1,rfl⟩ | ⟨he,_,k,qs,hk,_,hs⟩
 ·refine ⟨rfl,?_⟩
  congr 1
  refine List.map_congr_left fun j hj=>?_
  rw [List.mem_range] at hj
  exact (hg j hj _ _ (h1 j hj)).2
 ·exact absurd (hg k hk _ _ hs).1 he
theorem Tm.lap_no {rs:RuleL} {a b:Nat} {e:Int} {ps:PairL} (hr:Tm.rulesErr rs = 0) (ha:a < rs.length) (hb:b < rs.length) (h:Tm.allClash (rs[a]?.getD ([],[])).1 (Tm.others (rs[b]?.getD ([],[])).1) (Tm.passB (rs[a]?.getD ([],[])).1 (a:Int) (b:Int)) 0 (rs[a]?.getD ([],[])).1.length = true) (h':Tm.OfSays rs (a:Int) (b:Int) e ps):e = 0∧ps = []:=by
 refine h'.right hr ha hb ?_
 have:=Tm.Laps.run (.zero:Tm.Laps (rs[a]?.getD ([],[])).1 (rs[a]?.getD ([],[])).2 (Tm.others (rs[b]?.getD ([],[])).1) (Tm.others (rs[b]?.getD ([],[])).2) (Tm.passB (rs[a]?.getD ([],[])).1 (a:Int) (b:Int)) 0 []) (rs[a]?.getD ([],[])).1.length (by rw [Nat.zero_add];exact h)
 rwa [Nat.zero_add] at this
theorem Tm.lap_gg {rs:RuleL} {b:Nat} {e:Int} {ps:PairL} (vs:List (List Int)) (x:List Int × List Int) (hr:Tm.rulesErr rs = 0) (ha:0 < rs.length) (hb:b < rs.length) (h0:rs[0]?.getD ([],[]) = ([2,2,-1],[-1])) (hs:Tm.MeetSays [([2,-1],Tm.others (rs[b]?.getD ([],[])).1)] 0 true vs)
 (h1:Tm.allClash [2,2,-1] (Tm.others (rs[b]?.getD ([],[])).1) (Tm.passB [2,2,-1] 0 (b:Int)) 0 1 = true) (h2:Tm.allClash [2,2,-1] (Tm.others (rs[b]?.getD ([],[])).1) (Tm.passB [2,2,-1] 0 (b:Int)) 2 3 = true)
 (h3:Tm.passB [2,2,-1] 0 (b:Int) 1 = false) (h4:Tm.prtErr vs [2,2,-1] [-1] 1 (Tm.others (rs[b]?.getD ([],[])).2) = 0) (h5:Tm.prtVal vs [2,2,-1] [-1] 1 (Tm.others (rs[b]?.getD ([],[])).2) = x) (h':Tm.OfSays rs ((0:Nat):Int) (b:Int) e ps):e = 0∧ps = [x]:=by
 refine h'.right hr ha hb ?_
 rw [h0]
 have q1:Tm.Laps [2,2,-1] [-1] (Tm.others (rs[b]?.getD ([],[])).1) (Tm.others (rs[b]?.getD ([],[])).2) (Tm.passB [2,2,-1] 0 (b:Int)) 1 []:=Tm.Laps.run .zero 1 h1
 have q2:=Tm.Laps.yes (val:=vs) q1 h3 (by rw [show Tm.part [2,2,-1] 1 = [2,-1] from by decide +kernel];exact hs) h4
 have q3:=Tm.Laps.run q2 1 h2
 rw [show Tm.prtVal vs [2,2,-1] [-1] ((1:Nat):Int) (Tm.others (rs[b]?.getD ([],[])).2) = x from h5] at q3
 exact q3
theorem Tm.meet_g {t:List Int} (vs:List (List Int)) (hv:vs = [t,[-2],[-3],[-4],[-5],[-6],[-7],[-8]]) (h0:Tm.firstPair [([2,-1],2 :: t)] = 0) (h1:Tm.subErr vs = 0) (hs:Wb.App (Tm.ofL vs) [2,-1] = Wb.App (Tm.ofL vs) (2 :: t)) (hl:Tm.leastB vs = true):Tm.MeetSays [([2,-1],2 :: t)] 0 true vs:=by
 refine Tm.yes_of h0 h1 (Tm.mguOf h1 (fun j hj=>?_) hl fun θ hθ H i hi=>?_)
 ·obtain rfl:j = 0:=by simp at hj;omega
  exact hs
 ·have e:Wb.App θ [2,-1] = Wb.App θ (2 :: t):=H 0 (by simp)
  rw [Wb.App_cons θ 2 [-1],Wb.App_cons θ 2 t,if_neg (by omega)] at e
  have e1:=(List.cons.inj e).2
  rw [Wb.App1 θ (by omega)] at e1
  subst hv
  match i,hi with
  | 0,_=>exact e1
  | 1,_=>exact (Wb.App1 θ (by omega)).symm
  | 2,_=>exact (Wb.App1 θ (by omega)).symm
  | 3,_=>exact (Wb.App1 θ (by omega)).symm
  | 4,_=>exact (Wb.App1 θ (by omega)).symm
  | 5,_=>exact (Wb.App1 θ (by omega)).symm
  | 6,_=>exact (Wb.App1 θ (by omega)).symm
  | 7,_=>exact (Wb.App1 θ (by omega)).symm
def gR1:RuleL:=[([2,2,-1],[-1])]
def gR2:RuleL:=[([2,2,-1],[-1]),([2,0],[1])]
def gR3:RuleL:=[([2,2,-1],[-1]),([2,0],[1]),([2,1],[0])]
theorem Tm.gl1 {er:Int} {ps:PairL} (h:Tm.LastSays gR1 (Tm.ways 0) er ps):er = 0∧ps = [([2,-1],[2,-1])]:=by
 refine Tm.last_is (fun _=>[([2,-1],[2,-1])]) (fun j hj e qs hs=>?_) h
 obtain rfl:j = 0:=by rw [Tm.ways_len] at hj;omega
 exact Tm.lap_gg (rs:=gR1) (b:=0) [[2,-5],[-2],[-3],[-4],[-5],[-6],[-7],[-8]] ([2,-1],[2,-1]) (by decide +kernel) (by decide) (by decide) rfl (show Tm.MeetSays [([2,-1],Tm.others (gR1[0]?.getD ([],[])).1)] 0 true [[2,-5],[-2],[-3],[-4],[-5],[-6],[-7],[-8]] from by rw [show Tm.others (gR1[0]?.getD ([],[])).1 = 2 :: [2,-5] from by decide +kernel];exact Tm.meet_g (t:=[2,-5]) [[2,-5],[-2],[-3],[-4],[-5],[-6],[-7],[-8]] rfl (by decide +kernel) (by decide +kernel) (by decide +kernel) (by decide +kernel)) (by decide +kernel) (by decide +kernel) (by decide +kernel) (by decide +kernel) (by decide +kernel) hs
theorem Tm.gl2 {er:Int} {ps:PairL} (h:Tm.LastSays gR2 (Tm.ways 1) er ps):er = 0∧ps = [([2,1],[0])]:=by
 refine Tm.last_is (fun j=>if j = 0 then [([2,1],[0])] else []) (fun j hj e qs hs=>?_) h
 rw [Tm.ways_len] at hj
 match j,hj with
 | 0,_=>exact Tm.lap_gg (rs:=gR2) (b:=1) [[0],[-2],[-3],[-4],[-5],[-6],[-7],[-8]] ([2,1],[0]) (by decide +kernel) (by decide) (by decide) rfl (show Tm.MeetSays [([2,-1],Tm.others (gR2[1]?.getD ([],[])).1)] 0 true [[0],[-2],[-3],[-4],[-5],[-6],[-7],[-8]] from by rw [show Tm.others (gR2[1]?.getD ([],[])).1 = 2 :: [0] from by decide +kernel];exact Tm.meet_g (t:=[0]) [[0],[-2],[-3],[-4],[-5],[-6],[-7],[-8]] rfl (by decide +kernel) (by decide +kernel) (by decide +kernel) (by decide +kernel)) (by decide +kernel) (by decide +kernel) (by decide +kernel) (by decide +kernel) (by decide +kernel) hs
 | 1,_=>exact Tm.lap_no (rs:=gR2) (a:=1) (b:=0) (by decide +kernel) (by decide) (by decide) (by decide +kernel) hs
 | 2,_=>exact Tm.lap_no (rs:=gR2) (a:=1) (b:=1) (by decide +kernel) (by decide) (by decide) (by decide +kernel) hs
theorem Tm.gl3 {er:Int} {ps:PairL} (h:Tm.LastSays gR3 (Tm.ways 2) er ps):er = 0∧ps = [([2,0],[1])]:=by
 refine Tm.last_is (fun j=>if j = 0 then [([2,0],[1])] else []) (fun j hj e qs hs=>?_) h
 rw [Tm.ways_len] at hj
 match j,hj with
 | 0,_=>exact Tm.lap_gg (rs:=gR3) (b:=2) [[1],[-2],[-3],[-4],[-5],[-6],[-7],[-8]] ([2,0],[1]) (by decide +kernel) (by decide) (by decide) rfl (show Tm.MeetSays [([2,-1],Tm.others (gR3[2]?.getD ([],[])).1)] 0 true [[1],[-2],[-3],[-4],[-5],[-6],[-7],[-8]] from by rw [show Tm.others (gR3[2]?.getD ([],[])).1 = 2 :: [1] from by decide +kernel];exact Tm.meet_g (t:=[1]) [[1],[-2],[-3],[-4],[-5],[-6],[-7],[-8]] rfl (by decide +kernel) (by decide +kernel) (by decide +kernel) (by decide +kernel)) (by decide +kernel) (by decide +kernel) (by decide +kernel) (by decide +kernel) (by decide +kernel) hs
 | 1,_=>exact Tm.lap_no (rs:=gR3) (a:=2) (b:=0) (by decide +kernel) (by decide) (by decide) (by decide +kernel) hs
 | 2,_=>exact Tm.lap_no (rs:=gR3) (a:=1) (b:=2) (by decide +kernel) (by decide) (by decide) (by decide +kernel) hs
 | 3,_=>exact Tm.lap_no (rs:=gR3) (a:=2) (b:=1) (by decide +kernel) (by decide) (by decide) (by decide +kernel) hs
 | 4,_=>exact Tm.lap_no (rs:=gR3) (a:=2) (b:=2) (by decide +kernel) (by decide) (by decide) (by decide +kernel) hs
theorem Tm.gl0 {er:Int} {ps:PairL} (h:Tm.LastSays grp1 (Tm.ways 0) er ps):er = 0∧ps = []:=by
 refine Tm.last_is (fun _=>[]) (fun j hj e qs hs=>?_) h
 obtain rfl:j = 0:=by rw [Tm.ways_len] at hj;omega
 exact Tm.grp1_of hs
theorem Tm.turn_same {rk:List Int} {rs:RuleL} {p:List Int × List Int} {l:PairL} {er:Int} {rs':RuleL} {ps':PairL} (h0:Tm.turnErr rk rs (p :: l) = 0) (h1:Tm.joinErr rs p.1 p.2 = 0) (h2:(Tm.form rs p.1).1 = (Tm.form rs p.2).1) (h:Tm.TurnSays rk rs (p :: l) er rs' ps'):er = 0∧rs' = rs∧ps' = l:=by
 rcases h with ⟨h,_⟩ | ⟨_,p',l',e,h⟩
 ·exact absurd h0 h
 ·cases e
  rcases h with ⟨h,_⟩ | ⟨_,_,h⟩ | ⟨_,h,_⟩ | ⟨_,h,_⟩
  ·exact absurd h1 h
  ·exact h
  ·exact absurd h2 h
  ·exact absurd h2 h
theorem Tm.turn_new {rk:List Int} {rs:RuleL} {p:List Int × List Int} {l:PairL} {L R:List Int} {er:Int} {rs':RuleL} {ps' q:PairL} (h0:Tm.turnErr rk rs (p :: l) = 0) (h1:Tm.joinErr rs p.1 p.2 = 0) (h2:(Tm.form rs p.1).1≠(Tm.form rs p.2).1) (h3:Tm.dir rk (Tm.form rs p.1).1 (Tm.form rs p.2).1 = (0,L,R))
 (h4:Tm.stays L rs = rs) (h5:Tm.taken L rs = []) (h6:rs.length≤7) (h7:∀ e q',Tm.LastSays (rs++[(L,R)]) (Tm.ways rs.length) e q'→e = 0∧q' = q) (h8:(l++q).length≤40) (h:Tm.TurnSays rk rs (p :: l) er rs' ps'):er = 0∧rs' = rs++[(L,R)]∧ps' = l++q:=by
 rcases h with ⟨h,_⟩ | ⟨_,p',l',e,h⟩
 ·exact absurd h0 h
 ·cases e
  rcases h with ⟨h,_⟩ | ⟨_,h,_⟩ | ⟨_,_,h,_⟩ | ⟨_,_,_,h⟩
  ·exact absurd h1 h
  ·exact absurd h h2
  ·rw [h3] at h;exact absurd rfl h
  ·rw [h3] at h
   unfold Tm.WithSays at h
   dsimp only at h
   rw [h4,h5,List.append_nil] at h
   rcases h with ⟨h,_⟩ | ⟨_,e,q',hs,h⟩
   ·omega
   ·obtain ⟨rfl,rfl⟩:=h7 _ _ hs
    rcases h with ⟨h,_⟩ | ⟨_,h,_⟩ | ⟨_,_,h⟩
    ·exact absurd rfl h
    ·omega
    ·exact h
def gE:PairL:=[([2,2,-1],[-1]),([2,0],[1])]
theorem Tm.gt1 {er:Int} {rs':RuleL} {ps':PairL} (h:Tm.TurnSays rk6 [] gE er rs' ps'):er = 0∧rs' = gR1∧ps' = [([2,0],[1]),([2,-1],[2,-1])] :=
 Tm.turn_new (rs:=[]) (p:=([2,2,-1],[-1])) (L:=[2,2,-1]) (R:=[-1]) (q:=[([2,-1],[2,-1])]) (by decide +kernel) (by decide +kernel) (by decide +kernel) (by decide +kernel) rfl rfl (by decide) (fun e q' hs=>Tm.gl1 hs) (by decide) h
theorem Tm.gt2 {er:Int} {rs':RuleL} {ps':PairL} (h:Tm.TurnSays rk6 gR1 [([2,0],[1]),([2,-1],[2,-1])] er rs' ps'):er = 0∧rs' = gR2∧ps' = [([2,-1],[2,-1]),([2,1],[0])] :=
 Tm.turn_new (rs:=gR1) (p:=([2,0],[1])) (L:=[2,0]) (R:=[1]) (q:=[([2,1],[0])]) (by decide +kernel) (by decide +kernel) (by decide +kernel) (by decide +kernel) (by decide +kernel) (by decide +kernel) (by decide) (fun e q' hs=>Tm.gl2 hs) (by decide) h
theorem Tm.gt3 {er:Int} {rs':RuleL} {ps':PairL} (h:Tm.TurnSays rk6 gR2 [([2,-1],[2,-1]),([2,1],[0])] er rs' ps'):er = 0∧rs' = gR2∧ps' = [([2,1],[0])] :=
 Tm.turn_same (by decide +kernel) (by decide +kernel) (by decide +kernel) h
theorem Tm.gt4 {er:Int} {rs':RuleL} {ps':PairL} (h:Tm.TurnSays rk6 gR2 [([2,1],[0])] er rs' ps'):er = 0∧rs' = gR3∧ps' = [([2,0],[1])] :=
 Tm.turn_new (rs:=gR2) (p:=([2,1],[0])) (L:=[2,1]) (R:=[0]) (q:=[([2,0],[1])]) (by decide +kernel) (by decide +kernel) (by decide +kernel) (by decide +kernel) (by decide +kernel) (by decide +kernel) (by decide) (fun e q' hs=>Tm.gl3 hs) (by decide) h
theorem Tm.gt5 {er:Int} {rs':RuleL} {ps':PairL} (h:Tm.TurnSays rk6 gR3 [([2,0],[1])] er rs' ps'):er = 0∧rs' = gR3∧ps' = [] :=
 Tm.turn_same (by decide +kernel) (by decide +kernel) (by decide +kernel) h
theorem Tm.lawsTurn {er:Int} {rs':RuleL} {ps':PairL} (h:Tm.TurnSays rk6 [] groupL er rs' ps'):er = 0∧rs' = grp1∧ps' = [([4,2,-1,-1],[0]),([4,4,-1,-2,-3],[4,-1,4,-2,-3])] :=
 Tm.turn_new (rs:=[]) (p:=([4,0,-1],[-1])) (L:=[4,0,-1]) (R:=[-1]) (q:=[]) (by decide +kernel) (by decide +kernel) (by decide +kernel) (by decide +kernel) rfl rfl (by decide) (fun e q' hs=>Tm.gl0 hs) (by decide) h
theorem Tm.badTurn {rk:List Int} {rs:RuleL} {ps:PairL} {er:Int} {rs':RuleL} {ps':PairL} (h0:Tm.turnErr rk rs ps≠0) (h:Tm.TurnSays rk rs ps er rs' ps'):er = Tm.turnErr rk rs ps∧rs' = []∧ps' = []:=by
 rcases h with ⟨_,h⟩ | ⟨h,_⟩
 ·exact h
 ·exact absurd h h0
def gF:PairL:=[([4,-1,-2],[4,-2,-1])]
theorem Tm.gf {er:Int} {rs':RuleL} {ps':PairL} (h:Tm.TurnSays rk6 [] gF er rs' ps'):er = 6:=by
 rcases h with ⟨h,_⟩ | ⟨_,p',l',e,h⟩
 ·exact absurd (by decide +kernel) h
 ·cases e
  rcases h with ⟨h,_⟩ | ⟨_,h,_⟩ | ⟨_,_,_,h,_⟩ | ⟨_,_,h,_⟩
  ·exact absurd (by decide +kernel) h
  ·exact absurd h (by decide +kernel)
  ·exact h.trans (by decide +kernel)
  ·exact absurd h (by decide +kernel)
theorem Tm.gRunTo {k:Nat} {rs:RuleL} {qs:PairL} (h:Tm.RunTo rk6 gE k rs qs):(k = 0∧rs = []∧qs = gE)∨(k = 1∧rs = gR1∧qs = [([2,0],[1]),([2,-1],[2,-1])])∨(k = 2∧rs = gR2∧qs = [([2,-1],[2,-1]),([2,1],[0])])∨(k = 3∧rs = gR2∧qs = [([2,1],[0])])∨(k = 4∧rs = gR3∧qs = [([2,0],[1])])∨(k = 5∧rs = gR3∧qs = []):=by
 induction k generalizing rs qs with
 | zero=>exact .inl ⟨rfl,h.1,h.2⟩
 | succ k ih =>
  obtain ⟨rs0,qs0,h1,h2,h3⟩:=h
  rcases ih h1 with ⟨rfl,rfl,rfl⟩ | ⟨rfl,rfl,rfl⟩ | ⟨rfl,rfl,rfl⟩ | ⟨rfl,rfl,rfl⟩ | ⟨rfl,rfl,rfl⟩ | ⟨rfl,rfl,rfl⟩
  ·obtain ⟨_,rfl,rfl⟩:=Tm.gt1 h3;exact .inr (.inl ⟨rfl,rfl,rfl⟩)
  ·obtain ⟨_,rfl,rfl⟩:=Tm.gt2 h3;exact .inr (.inr (.inl ⟨rfl,rfl,rfl⟩))
  ·obtain ⟨_,rfl,rfl⟩:=Tm.gt3 h3;exact .inr (.inr (.inr (.inl ⟨rfl,rfl,rfl⟩)))
  ·obtain ⟨_,rfl,rfl⟩:=Tm.gt4 h3;exact .inr (.inr (.inr (.inr (.inl ⟨rfl,rfl,rfl⟩))))
  ·obtain ⟨_,rfl,rfl⟩:=Tm.gt5 h3;exact .inr (.inr (.inr (.inr (.inr ⟨rfl,rfl,rfl⟩))))
  ·simp at h2
theorem Tm.gRun {er:Int} {rs:RuleL} {n:Nat} (h:Tm.RunSays rk6 gE er rs n):er = 0∧rs = gR3∧n = 5:=by
 rcases h with ⟨h,_⟩ | ⟨_,k,rs0,qs,hk,hto,h⟩
 ·exact absurd (by decide +kernel) h
 ·rcases Tm.gRunTo hto with ⟨rfl,rfl,rfl⟩ | ⟨rfl,rfl,rfl⟩ | ⟨rfl,rfl,rfl⟩ | ⟨rfl,rfl,rfl⟩ | ⟨rfl,rfl,rfl⟩ | ⟨rfl,rfl,rfl⟩ <;> rcases h with ⟨h1,h2,h3,h4⟩ | ⟨_,h1,_⟩ | ⟨h0,_,h1,⟨rs',qs',hs⟩,_⟩
  ·cases h1
  ·omega
  ·exact absurd (Tm.gt1 hs).1 h1
  ·cases h1
  ·omega
  ·exact absurd (Tm.gt2 hs).1 h1
  ·cases h1
  ·omega
  ·exact absurd (Tm.gt3 hs).1 h1
  ·cases h1
  ·omega
  ·exact absurd (Tm.gt4 hs).1 h1
  ·cases h1
  ·omega
  ·exact absurd (Tm.gt5 hs).1 h1
  ·exact ⟨h2,h3,h4⟩
  ·omega
  ·simp at h0
theorem Tm.fRun {er:Int} {rs:RuleL} {n:Nat} (h:Tm.RunSays rk6 gF er rs n):er = 6∧rs = []∧n = 0:=by
 rcases h with ⟨h,_⟩ | ⟨_,k,rs0,qs,hk,hto,h⟩
 ·exact absurd (by decide +kernel) h
 ·have h0:∀ k rs qs,Tm.RunTo rk6 gF k rs qs→k = 0∧rs = []∧qs = gF:=by
   intro k
   induction k with
   | zero=>intro rs qs h;exact ⟨rfl,h.1,h.2⟩
   | succ k ih =>
    rintro rs qs ⟨rs0,qs0,h1,h2,h3⟩
    obtain ⟨_,rfl,rfl⟩:=ih _ _ h1
    have:=Tm.gf h3
    omega
  obtain ⟨rfl,rfl,rfl⟩:=h0 _ _ _ hto
  rcases h with ⟨h1,_⟩ | ⟨_,h1,_⟩ | ⟨_,_,_,⟨rs',qs',hs⟩,h4,h5⟩
  ·cases h1
  ·omega
  ·exact ⟨Tm.gf hs,h4,h5⟩
theorem laws_lit (w:World):RulesAt ((allocs w [[4,0,-1],[-1],[4,2,-1,-1],[0],[4,4,-1,-2,-3],[4,-1,4,-2,-3]]).alloc (.cells #[.slice (some ⟨w.heap.size,0,none⟩) 3 3,.slice (some ⟨w.heap.size+1,0,none⟩) 1 1,.slice (some ⟨w.heap.size+1+1,0,none⟩) 4 4,.slice (some ⟨w.heap.size+1+1+1,0,none⟩) 1 1,.slice (some ⟨w.heap.size+1+1+1+1,0,none⟩) 5 5,.slice (some ⟨w.heap.size+1+1+1+1+1,0,none⟩) 5 5] 40)).heap.size ((allocs w [[4,0,-1],[-1],[4,2,-1,-1],[0],[4,4,-1,-2,-3],[4,-1,4,-2,-3]]).alloc (.cells #[.slice (some ⟨w.heap.size,0,none⟩) 3 3,.slice (some ⟨w.heap.size+1,0,none⟩) 1 1,.slice (some ⟨w.heap.size+1+1,0,none⟩) 4 4,.slice (some ⟨w.heap.size+1+1+1,0,none⟩) 1 1,.slice (some ⟨w.heap.size+1+1+1+1,0,none⟩) 5 5,.slice (some ⟨w.heap.size+1+1+1+1+1,0,none⟩) 5 5] 40)) (some ⟨w.heap.size+1+1+1+1+1+1,0,none⟩) groupL∧Below w.heap.size w ((allocs w [[4,0,-1],[-1],[4,2,-1,-1],[0],[4,4,-1,-2,-3],[4,-1,4,-2,-3]]).alloc (.cells #[.slice (some ⟨w.heap.size,0,none⟩) 3 3,.slice (some ⟨w.heap.size+1,0,none⟩) 1 1,.slice (some ⟨w.heap.size+1+1,0,none⟩) 4 4,.slice (some ⟨w.heap.size+1+1+1,0,none⟩) 1 1,.slice (some ⟨w.heap.size+1+1+1+1,0,none⟩) 5 5,.slice (some ⟨w.heap.size+1+1+1+1+1,0,none⟩) 5 5] 40)):=by
 have hs:=allocs_size [[4,0,-1],[-1],[4,2,-1,-1],[0],[4,4,-1,-2,-3],[4,-1,4,-2,-3]] w
 have hb:=allocs_below [[4,0,-1],[-1],[4,2,-1,-1],[0],[4,4,-1,-2,-3],[4,-1,4,-2,-3]] w
 have hi:=allocs_ints [[4,0,-1],[-1],[4,2,-1,-1],[0],[4,4,-1,-2,-3],[4,-1,4,-2,-3]] w
 rw [show ([[4,0,-1],[-1],[4,2,-1,-1],[0],[4,4,-1,-2,-3],[4,-1,4,-2,-3]]:List (List Int)).length = 6 from rfl] at hs hi
 obtain ⟨W6,hW⟩:∃ W6,allocs w [[4,0,-1],[-1],[4,2,-1,-1],[0],[4,4,-1,-2,-3],[4,-1,4,-2,-3]] = W6:=⟨_,rfl⟩
 rw [hW] at hs hb hi ⊢
 obtain ⟨C,hC⟩:∃ C:Array Value,#[.slice (some ⟨w.heap.size,0,none⟩) 3 3,.slice (some ⟨w.heap.size+1,0,none⟩) 1 1,.slice (some ⟨w.heap.size+1+1,0,none⟩) 4 4,.slice (some ⟨w.heap.size+1+1+1,0,none⟩) 1 1,.slice (some ⟨w.heap.size+1+1+1+1,0,none⟩) 5 5,.slice (some ⟨w.heap.size+1+1+1+1+1,0,none⟩) 5 5] = C:=⟨_,rfl⟩
 rw [hC]
 have blk:=World.alloc_heap_new W6 (.cells C 40)
 have hb6:Below W6.heap.size W6 (W6.alloc (.cells C 40)):=(Below.refl _ W6).alloc (Nat.le_refl _) _
 rw [hs] at blk hb6
 rw [World.size_alloc,hs]
 refine ⟨rulesAt_of blk (by omega) fun k hk=>?_,hb.trans (hb6.mono (by omega))⟩
 have hk':k < 3:=hk
 have hx:=fun i hi6=>((hi i hi6).below hb6).mono (show w.heap.size+6≤w.heap.size+6+1 by omega)
 subst hC
 match k,hk' with
 | 0,_=>exact ⟨_,_,rfl,rfl,hx 0 (by simp),hx 1 (by simp),by decide,by decide⟩
 | 1,_=>exact ⟨_,_,rfl,rfl,hx 2 (by simp),hx 3 (by simp),by decide,by decide⟩
 | 2,_=>exact ⟨_,_,rfl,rfl,hx 4 (by simp),hx 5 (by simp),by decide,by decide⟩
theorem gE_lit (w:World):RulesAt ((allocs w [[2,2,-1],[-1],[2,0],[1]]).alloc (.cells #[.slice (some ⟨w.heap.size,0,none⟩) 3 3,.slice (some ⟨w.heap.size+1,0,none⟩) 1 1,.slice (some ⟨w.heap.size+1+1,0,none⟩) 2 2,.slice (some ⟨w.heap.size+1+1+1,0,none⟩) 1 1] 40)).heap.size ((allocs w [[2,2,-1],[-1],[2,0],[1]]).alloc (.cells #[.slice (some ⟨w.heap.size,0,none⟩) 3 3,.slice (some ⟨w.heap.size+1,0,none⟩) 1 1,.slice (some ⟨w.heap.size+1+1,0,none⟩) 2 2,.slice (some ⟨w.heap.size+1+1+1,0,none⟩) 1 1] 40)) (some ⟨w.heap.size+1+1+1+1,0,none⟩) gE∧Below w.heap.size w ((allocs w [[2,2,-1],[-1],[2,0],[1]]).alloc (.cells #[.slice (some ⟨w.heap.size,0,none⟩) 3 3,.slice (some ⟨w.heap.size+1,0,none⟩) 1 1,.slice (some ⟨w.heap.size+1+1,0,none⟩) 2 2,.slice (some ⟨w.heap.size+1+1+1,0,none⟩) 1 1] 40)):=by
 have hs:=allocs_size [[2,2,-1],[-1],[2,0],[1]] w
 have hb:=allocs_below [[2,2,-1],[-1],[2,0],[1]] w
 have hi:=allocs_ints [[2,2,-1],[-1],[2,0],[1]] w
 rw [show ([[2,2,-1],[-1],[2,0],[1]]:List (List Int)).length = 4 from rfl] at hs hi
 obtain ⟨W6,hW⟩:∃ W6,allocs w [[2,2,-1],[-1],[2,0],[1]] = W6:=⟨_,rfl⟩
 rw [hW] at hs hb hi ⊢
 obtain ⟨C,hC⟩:∃ C:Array Value,#[.slice (some ⟨w.heap.size,0,none⟩) 3 3,.slice (some ⟨w.heap.size+1,0,none⟩) 1 1,.slice (some ⟨w.heap.size+1+1,0,none⟩) 2 2,.slice (some ⟨w.heap.size+1+1+1,0,none⟩) 1 1] = C:=⟨_,rfl⟩
 rw [hC]
 have blk:=World.alloc_heap_new W6 (.cells C 40)
 have hb6:Below W6.heap.size W6 (W6.alloc (.cells C 40)):=(Below.refl _ W6).alloc (Nat.le_refl _) _
 rw [hs] at blk hb6
 rw [World.size_alloc,hs]
 refine ⟨rulesAt_of blk (by omega) fun k hk=>?_,hb.trans (hb6.mono (by omega))⟩
 have hk':k < 2:=hk
 have hx:=fun i hi6=>((hi i hi6).below hb6).mono (show w.heap.size+4≤w.heap.size+4+1 by omega)
 subst hC
 match k,hk' with
 | 0,_=>exact ⟨_,_,rfl,rfl,hx 0 (by simp),hx 1 (by simp),by decide,by decide⟩
 | 1,_=>exact ⟨_,_,rfl,rfl,hx 2 (by simp),hx 3 (by simp),by decide,by decide⟩
theorem gF_lit (w:World):RulesAt ((allocs w [[4,-1,-2],[4,-2,-1]]).alloc (.cells #[.slice (some ⟨w.heap.size,0,none⟩) 3 3,.slice (some ⟨w.heap.size+1,0,none⟩) 3 3] 40)).heap.size ((allocs w [[4,-1,-2],[4,-2,-1]]).alloc (.cells #[.slice (some ⟨w.heap.size,0,none⟩) 3 3,.slice (some ⟨w.heap.size+1,0,none⟩) 3 3] 40)) (some ⟨w.heap.size+1+1,0,none⟩) gF∧Below w.heap.size w ((allocs w [[4,-1,-2],[4,-2,-1]]).alloc (.cells #[.slice (some ⟨w.heap.size,0,none⟩) 3 3,.slice (some ⟨w.heap.size+1,0,none⟩) 3 3] 40)):=by
 have hs:=allocs_size [[4,-1,-2],[4,-2,-1]] w
 have hb:=allocs_below [[4,-1,-2],[4,-2,-1]] w
 have hi:=allocs_ints [[4,-1,-2],[4,-2,-1]] w
 rw [show ([[4,-1,-2],[4,-2,-1]]:List (List Int)).length = 2 from rfl] at hs hi
 obtain ⟨W6,hW⟩:∃ W6,allocs w [[4,-1,-2],[4,-2,-1]] = W6:=⟨_,rfl⟩
 rw [hW] at hs hb hi ⊢
 obtain ⟨C,hC⟩:∃ C:Array Value,#[.slice (some ⟨w.heap.size,0,none⟩) 3 3,.slice (some ⟨w.heap.size+1,0,none⟩) 3 3] = C:=⟨_,rfl⟩
 rw [hC]
 have blk:=World.alloc_heap_new W6 (.cells C 40)
 have hb6:Below W6.heap.size W6 (W6.alloc (.cells C 40)):=(Below.refl _ W6).alloc (Nat.le_refl _) _
 rw [hs] at blk hb6
 rw [World.size_alloc,hs]
 refine ⟨rulesAt_of blk (by omega) fun k hk=>?_,hb.trans (hb6.mono (by omega))⟩
 have hk':k < 1:=hk
 have hx:=fun i hi6=>((hi i hi6).below hb6).mono (show w.heap.size+2≤w.heap.size+2+1 by omega)
 subst hC
 match k,hk' with
 | 0,_=>exact ⟨_,_,rfl,rfl,hx 0 (by simp),hx 1 (by simp),by decide,by decide⟩
set_option maxRecDepth 100000 in
set_option maxHeartbeats 1000000 in
theorem laws_any (w:World):Calls Tryz.prog 37 #[] w fun e w'=>∃ a,e = .returned (.slice a 3 3)∧RulesAt w'.heap.size w' a groupL∧Below w.heap.size w w':=by
 have h:=hid (laws_lit w)
 go_enter Tryz.func37,Tryz.ntmps37
 go_wp2
 go_ret
 exact ⟨_,rfl,h.out.1,h.out.2⟩
theorem g_turn1 (ar a:Option Addr) (w:World) (hR:Ints w.heap.size w ar rk6) (hP:RulesAt w.heap.size w a groupL):Calls Tryz.prog 6 #[.slice ar 6 6,.slice none 0 0,.slice a 3 3] w fun e w'=>∃ b off c a' c' aL cL,e = .returned (.tuple #[.slice (some ⟨b,off,none⟩) 1 c,.slice a' 2 c',.int .i64 0])∧w'.cell? ⟨b,off,none⟩ = some (.slice aL 3 cL)∧Ints w'.heap.size w' aL [4,0,-1]∧b < w'.heap.size∧Below w.heap.size w w':=by
 refine (Turn_any rk6 [] groupL ar none a 6 0 3 w hR (fun k hk=>by simp at hk) hP (by decide) (by unfold maxLen;omega)).mono ?_
 rintro e w' ⟨er,rs',ps',v,u,hs,rfl,n1,n2,b2⟩
 obtain ⟨rfl,rfl,rfl⟩:=Tm.lawsTurn hs
 obtain ⟨a1,c1,rfl,r1,_,_⟩:=n1.at
 obtain ⟨a2,c2,rfl,r2,_,_⟩:=n2.at
 obtain ⟨b,off,rfl,hb,aL,cL,aR,cR,k1,_,i1,_⟩:=r1 0 (by decide)
 exact ⟨b,off,c1,a2,c2,aL,cL,rfl,k1,i1,hb,b2⟩
theorem g_turn2 (ar:Option Addr) (w:World) (hR:Ints w.heap.size w ar rk6):Calls Tryz.prog 6 #[.slice ar 6 6,.slice none 0 0,.slice none 0 0] w fun e w'=>∃ v u,e = .returned (.tuple #[v,u,.int .i64 5])∧Below w.heap.size w w':=by
 refine (Turn_any rk6 [] [] ar none none 6 0 0 w hR (fun k hk=>by simp at hk) (fun k hk=>by simp at hk) (by decide) (by unfold maxLen;omega)).mono ?_
 rintro e w' ⟨er,rs',ps',v,u,hs,rfl,n1,n2,b2⟩
 obtain ⟨rfl,_,_⟩:=Tm.badTurn (by decide +kernel) hs
 exact ⟨v,u,by rw [show Tm.turnErr rk6 [] [] = 5 from by decide +kernel],b2⟩
theorem g_turn3 (a:Option Addr) (w:World) (hP:RulesAt w.heap.size w a groupL):Calls Tryz.prog 6 #[.slice none 0 0,.slice none 0 0,.slice a 3 3] w fun e w'=>∃ v u,e = .returned (.tuple #[v,u,.int .i64 1])∧Below w.heap.size w w':=by
 refine (Turn_any [] [] groupL none none a 0 0 3 w (Ints.nil _ _ _) (fun k hk=>by simp at hk) hP (by decide) (by unfold maxLen;omega)).mono ?_
 rintro e w' ⟨er,rs',ps',v,u,hs,rfl,n1,n2,b2⟩
 obtain ⟨rfl,_,_⟩:=Tm.badTurn (by decide +kernel) hs
 exact ⟨v,u,by rw [show Tm.turnErr [] [] groupL = 1 from by decide +kernel],b2⟩
def Three (W:World) (b off:Nat):Prop:=∃ x0 c0 x1 c1 x2 c2 x3 c3 x4 c4,W.cell? ⟨b,off,none⟩ = some (.slice x0 3 c0)∧W.cell? ⟨b,off+2,none⟩ = some (.slice x1 2 c1)∧W.cell? ⟨b,off+3,none⟩ = some (.slice x2 1 c2)∧W.cell? ⟨b,off+4,none⟩ = some (.slice x3 2 c3)∧W.cell? ⟨b,off+5,none⟩ = some (.slice x4 1 c4) ∧
 Ints W.heap.size W x0 [2,2,-1]∧Ints W.heap.size W x1 [2,0]∧Ints W.heap.size W x2 [1]∧Ints W.heap.size W x3 [2,1]∧Ints W.heap.size W x4 [0]
theorem three_of {W:World} {a:Option Addr} (h:RulesAt W.heap.size W a gR3):∃ b off,a = some ⟨b,off,none⟩∧b < W.heap.size∧Three W b off:=by
 obtain ⟨b,off,rfl,hb,x0,c0,_,_,k0,_,i0,_⟩:=h 0 (by decide)
 obtain ⟨b',off',e1,_,x1,c1,x2,c2,k1,k2,i1,i2,_⟩:=h 1 (by decide)
 obtain ⟨b'',off'',e2,_,x3,c3,x4,c4,k3,k4,i3,i4,_⟩:=h 2 (by decide)
 cases e1
 cases e2
 exact ⟨b,off,rfl,hb,x0,c0,x1,c1,x2,c2,x3,c3,x4,c4,k0,k1,k2,k3,k4,i0,i1,i2,i3,i4⟩
theorem Three.below {W W':World} {b off:Nat} (h:Three W b off) (hb:b < W.heap.size) (hB:Below W.heap.size W W'):Three W' b off:=by
 obtain ⟨x0,c0,x1,c1,x2,c2,x3,c3,x4,c4,k0,k1,k2,k3,k4,i0,i1,i2,i3,i4⟩:=h
 exact ⟨x0,c0,x1,c1,x2,c2,x3,c3,x4,c4,(hB.cell (p:=⟨b,off,none⟩) hb).trans k0,(hB.cell (p:=⟨b,off+2,none⟩) hb).trans k1,(hB.cell (p:=⟨b,off+3,none⟩) hb).trans k2,(hB.cell (p:=⟨b,off+4,none⟩) hb).trans k3,(hB.cell (p:=⟨b,off+5,none⟩) hb).trans k4,(i0.below hB).mono hB.size,(i1.below hB).mono hB.size,(i2.below hB).mono hB.size,(i3.below hB).mono hB.size,(i4.below hB).mono hB.size⟩
theorem g_run1 (ar a:Option Addr) (w:World) (hR:Ints w.heap.size w ar rk6) (hP:RulesAt w.heap.size w a gE):Calls Tryz.prog 11 #[.slice ar 6 6,.slice a 2 2] w fun e w'=>∃ b off c,e = .returned (.tuple #[.slice (some ⟨b,off,none⟩) 3 c,.int .i64 5,.int .i64 0])∧b < w'.heap.size∧Three w' b off∧Below w.heap.size w w':=by
 refine (Run_any rk6 gE ar a 6 2 w hR hP (by decide) (by unfold maxLen;omega)).mono ?_
 rintro e w' ⟨er,rs,n,al,cl,hs,rfl,r1,_,_,b2⟩
 obtain ⟨rfl,rfl,rfl⟩:=Tm.gRun hs
 obtain ⟨b,off,rfl,hb,h3⟩:=three_of r1
 exact ⟨b,off,cl,rfl,hb,h3,b2⟩
theorem g_run2 (ar a:Option Addr) (w:World) (hR:Ints w.heap.size w ar rk6) (hP:RulesAt w.heap.size w a gF):Calls Tryz.prog 11 #[.slice ar 6 6,.slice a 1 1] w fun e w'=>∃ v,e = .returned (.tuple #[v,.int .i64 0,.int .i64 6])∧Below w.heap.size w w':=by
 refine (Run_any rk6 gF ar a 6 1 w hR hP (by decide) (by unfold maxLen;omega)).mono ?_
 rintro e w' ⟨er,rs,n,al,cl,hs,rfl,r1,_,_,b2⟩
 obtain ⟨rfl,rfl,rfl⟩:=Tm.fRun hs
 exact ⟨_,rfl,b2⟩
set_option maxRecDepth 100000 in
set_option maxHeartbeats 4000000 in
theorem closeBegun_any (w:World):Calls Tryz.prog 8 #[] w fun e w'=>e = .returned (.bool true)∧Below w.heap.size w w':=by
 have l1:=hid gE_lit
 have l2:=hid gF_lit
 have s0:=hid (fun w a c hI=>g_same [4,0,-1] [4,0,-1] 3 3 c a w rfl rfl (by simp) hI (by simp [sameB]))
 have s1:=hid (fun w a c hI=>g_same [2,2,-1] [2,2,-1] 3 3 c a w rfl rfl (by simp) hI (by simp [sameB]))
 have s2:=hid (fun w a c hI=>g_same [2,0] [2,0] 2 2 c a w rfl rfl (by simp) hI (by simp [sameB]))
 have s3:=hid (fun w a c hI=>g_same [1] [1] 1 1 c a w rfl rfl (by simp) hI (by simp [sameB]))
 have s4:=hid (fun w a c hI=>g_same [2,1] [2,1] 2 2 c a w rfl rfl (by simp) hI (by simp [sameB]))
 have s5:=hid (fun w a c hI=>g_same [0] [0] 1 1 c a w rfl rfl (by simp) hI (by simp [sameB]))
 simp only [List.map_cons,List.map_nil,allocs] at s0 s1 s2 s3 s4 s5 l1 l2
 go_enter Tryz.func8,Tryz.ntmps8
 go_wp2_with fail
 refine (rank_any _).mono ?_
 rintro e w1 ⟨a1,rfl,hr1,b1⟩
 go_wp2_with fail
 refine (laws_any _).mono ?_
 rintro e w2 ⟨a2,rfl,hg2,b2⟩
 go_wp2_with fail
 refine (g_turn1 a1 a2 w2 ((hr1.below b2).mono b2.size) hg2).mono ?_
 rintro e w3 ⟨b,off,c,a',c',aL,cL,rfl,k3,i3,hb3,b3⟩
 have B2:=b1.trans (b2.mono b1.size)
 have B3:=B2.trans (b3.mono B2.size)
 clear hr1 hg2 b1 b2 b3 B2
 go_wp2_with fail
 refine (rank_any _).mono ?_
 rintro e w4 ⟨a4,rfl,hr4,b4⟩
 have L1:=hid (l1.out w4)
 have Q4:=hid (b4.trans (L1.out.2.mono b4.size))
 clear l1
 go_wp2_with fail
 refine (g_run1 a4 _ _ ((hr4.below L1.out.2).mono L1.out.2.size) L1.out.1).mono ?_
 rintro e w5 ⟨d,od,cd,rfl,hd5,h5,b5⟩
 have Q5:=hid (Q4.out.trans (b5.mono Q4.out.size))
 have B5:=B3.trans (Q5.out.mono B3.size)
 have K5:w5.cell? ⟨b,off,none⟩ = some (.slice aL 3 cL):=(Q5.out.cell (p:=⟨b,off,none⟩) hb3).trans k3
 have I5:=(i3.below Q5.out).mono Q5.out.size
 have hb5:=Nat.lt_of_lt_of_le hb3 Q5.out.size
 clear hr4 L1 b4 b5 Q4 Q5 k3 i3 hb3 B3
 go_wp2_with fail
 refine (rank_any _).mono ?_
 rintro e w6 ⟨a6,rfl,hr6,b6⟩
 go_wp2_with fail
 refine (g_turn2 a6 w6 hr6).mono ?_
 rintro e w7 ⟨v7,u7,rfl,b7⟩
 have Q7:=hid (b6.trans (b7.mono b6.size))
 have B7:=B5.trans (Q7.out.mono B5.size)
 have K7:w7.cell? ⟨b,off,none⟩ = some (.slice aL 3 cL):=(Q7.out.cell (p:=⟨b,off,none⟩) hb5).trans K5
 have I7:=(I5.below Q7.out).mono Q7.out.size
 have h7:=h5.below hd5 Q7.out
 have hb7:=Nat.lt_of_lt_of_le hb5 Q7.out.size
 have hd7:=Nat.lt_of_lt_of_le hd5 Q7.out.size
 clear hr6 b6 b7 Q7 K5 I5 h5 hb5 hd5 B5
 go_wp2_with fail
 refine (rank_any _).mono ?_
 rintro e w8 ⟨a8,rfl,hr8,b8⟩
 have L2:=hid (l2.out w8)
 have Q8:=hid (b8.trans (L2.out.2.mono b8.size))
 clear l2
 go_wp2_with fail
 refine (g_run2 a8 _ _ ((hr8.below L2.out.2).mono L2.out.2.size) L2.out.1).mono ?_
 rintro e w9 ⟨v9,rfl,b9⟩
 have Q9:=hid (Q8.out.trans (b9.mono Q8.out.size))
 have B9:=B7.trans (Q9.out.mono B7.size)
 have K9:w9.cell? ⟨b,off,none⟩ = some (.slice aL 3 cL):=(Q9.out.cell (p:=⟨b,off,none⟩) hb7).trans K7
 have I9:=(I7.below Q9.out).mono Q9.out.size
 have h9:=h7.below hd7 Q9.out
 have hb9:=Nat.lt_of_lt_of_le hb7 Q9.out.size
 have hd9:=Nat.lt_of_lt_of_le hd7 Q9.out.size
 clear hr8 b8 b9 Q8 Q9 L2 K7 I7 h7 hb7 hd7 B7
 go_wp2_with fail
 refine (laws_any _).mono ?_
 rintro e wa ⟨aa,rfl,hga,ba⟩
 go_wp2_with fail
 refine (g_turn3 aa wa hga).mono ?_
 rintro e wb ⟨vb,ub,rfl,bb⟩
 have Qb:=hid (ba.trans (bb.mono ba.size))
 have Bb:=B9.trans (Qb.out.mono B9.size)
 have Kb:wb.cell? ⟨b,off,none⟩ = some (.slice aL 3 cL):=(Qb.out.cell (p:=⟨b,off,none⟩) hb9).trans K9
 have Ib:=(I9.below Qb.out).mono Qb.out.size
 have hb:=h9.below hd9 Qb.out
 have hdb:=Nat.lt_of_lt_of_le hd9 Qb.out.size
 clear hga ba bb Qb K9 I9 h9 hb9 hd9 B9
 go_wp2_with fail
 refine (s0.out wb aL cL Ib).mono ?_
 rintro e wc ⟨rfl,bc⟩
 have Bc:=Bb.trans (bc.mono Bb.size)
 have hc:=hb.below hdb bc
 clear Kb Ib hb hdb bc Bb s0
 obtain ⟨x0,c0,x1,c1,x2,c2,x3,c3,x4,c4,k0,k1,k2,k3,k4,i0,i1,i2,i3,i4⟩:=hc
 have hdc:d < wc.heap.size:=by
  by_cases h:d < wc.heap.size
  ·exact h
  ·exact absurd k0 (by simp [World.cell?,Array.getElem?_eq_none (Nat.not_lt.mp h)])
 go_wp2_with fail
 refine (s1.out wc x0 c0 i0).mono ?_
 rintro e wd0 ⟨rfl,bq⟩
 have Bwd0:=Bc.trans (bq.mono Bc.size)
 replace k1:wd0.cell? ⟨d,od+2,none⟩ = some (.slice x1 2 c1):=(bq.cell (p:=⟨d,od+2,none⟩) hdc).trans k1
 replace i1:=(i1.below bq).mono bq.size
 replace k2:wd0.cell? ⟨d,od+3,none⟩ = some (.slice x2 1 c2):=(bq.cell (p:=⟨d,od+3,none⟩) hdc).trans k2
 replace i2:=(i2.below bq).mono bq.size
 replace k3:wd0.cell? ⟨d,od+4,none⟩ = some (.slice x3 2 c3):=(bq.cell (p:=⟨d,od+4,none⟩) hdc).trans k3
 replace i3:=(i3.below bq).mono bq.size
 replace k4:wd0.cell? ⟨d,od+5,none⟩ = some (.slice x4 1 c4):=(bq.cell (p:=⟨d,od+5,none⟩) hdc).trans k4
 replace i4:=(i4.below bq).mono bq.size
 replace hdc:d < wd0.heap.size:=Nat.lt_of_lt_of_le hdc bq.size
 clear bq k0 i0 s1 Bc
 go_wp2_with fail
 refine (s2.out wd0 x1 c1 i1).mono ?_
 rintro e wd1 ⟨rfl,bq⟩
 have Bwd1:=Bwd0.trans (bq.mono Bwd0.size)
 replace k2:wd1.cell? ⟨d,od+3,none⟩ = some (.slice x2 1 c2):=(bq.cell (p:=⟨d,od+3,none⟩) hdc).trans k2
 replace i2:=(i2.below bq).mono bq.size
 replace k3:wd1.cell? ⟨d,od+4,none⟩ = some (.slice x3 2 c3):=(bq.cell (p:=⟨d,od+4,none⟩) hdc).trans k3
 replace i3:=(i3.below bq).mono bq.size
 replace k4:wd1.cell? ⟨d,od+5,none⟩ = some (.slice x4 1 c4):=(bq.cell (p:=⟨d,od+5,none⟩) hdc).trans k4
 replace i4:=(i4.below bq).mono bq.size
 replace hdc:d < wd1.heap.size:=Nat.lt_of_lt_of_le hdc bq.size
 clear bq k1 i1 s2 Bwd0
 go_wp2_with fail
 refine (s3.out wd1 x2 c2 i2).mono ?_
 rintro e wd2 ⟨rfl,bq⟩
 have Bwd2:=Bwd1.trans (bq.mono Bwd1.size)
 replace k3:wd2.cell? ⟨d,od+4,none⟩ = some (.slice x3 2 c3):=(bq.cell (p:=⟨d,od+4,none⟩) hdc).trans k3
 replace i3:=(i3.below bq).mono bq.size
 replace k4:wd2.cell? ⟨d,od+5,none⟩ = some (.slice x4 1 c4):=(bq.cell (p:=⟨d,od+5,none⟩) hdc).trans k4
 replace i4:=(i4.below bq).mono bq.size
 replace hdc:d < wd2.heap.size:=Nat.lt_of_lt_of_le hdc bq.size
 clear bq k2 i2 s3 Bwd1
 go_wp2_with fail
 refine (s4.out wd2 x3 c3 i3).mono ?_
 rintro e wd3 ⟨rfl,bq⟩
 have Bwd3:=Bwd2.trans (bq.mono Bwd2.size)
 replace k4:wd3.cell? ⟨d,od+5,none⟩ = some (.slice x4 1 c4):=(bq.cell (p:=⟨d,od+5,none⟩) hdc).trans k4
 replace i4:=(i4.below bq).mono bq.size
 replace hdc:d < wd3.heap.size:=Nat.lt_of_lt_of_le hdc bq.size
 clear bq k3 i3 s4 Bwd2
 go_wp2_with fail
 refine (s5.out wd3 x4 c4 i4).mono ?_
 rintro e wd4 ⟨rfl,bq⟩
 have Bwd4:=Bwd3.trans (bq.mono Bwd3.size)
 clear bq k4 i4 s5 Bwd3
 go_wp2
 go_ret
 exact ⟨rfl,Bwd4⟩
end Go.Proofs.YtglohanbpjaieaaGreat
