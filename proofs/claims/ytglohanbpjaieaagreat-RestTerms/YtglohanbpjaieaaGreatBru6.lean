/-
  Parts of the proof: Over3, SubM, MTrue1, Ord2, Rng1, Rng2, Rng3, Rng4, Rng5, Ord3, Ord4a, Ord4.
-/
import Derived.Test.YtglohanbpjaieaaGreatBru5
import Derived.DeepKeys4
import Derived.Deep.DrawnRows
set_option maxHeartbeats 2000000
set_option maxRecDepth 100000
namespace Go.Proofs.YtglohanbpjaieaaGreat
open Go.Proofs Go.RowKit Go.Shelf Go.Maps
theorem ML (t p:List Int) (at' ap:Option Addr) (ct cp:Nat) (w:World) (hT:Ints w.heap.size w at' t) (hP:Ints w.heap.size w ap p) (h1:t.length≤ct∧ct≤maxLen) (h2:p.length≤cp∧cp≤maxLen) :
 Calls Tryz.prog 96 #[.slice at' t.length ct,.slice ap p.length cp] w fun e w'=>∃ v,e = .returned (.tuple #[v,.int .i64 (Tm.cK t p)])∧New w.heap.size w' v (Tm.kM t p)∧Below w.heap.size w w':=by
 have hC:=kK t p at' ap ct cp w hT hP;unfold Tm.kM;by_cases he:Tm.cK t p = 0
 ·obtain ⟨ht,hp⟩:=Tm.ou he
  have WR:=Tm.aI ht;have OU:(t.length:Int)≤30:=by omega
  rw [if_pos he,he];rw [he] at hC;have Pm:=hid (fun W (hW:Below w.heap.size w W) k (hk:k < t.length)=>mE t at' ct k W ((hT.below hW).mono hW.size) h1.1 h1.2 ht hk);have hfit:=hid (fun W (hW:Below w.heap.size w W) k (hk:k < t.length) a c (hI:Ints W.heap.size W a (Tm.part t k)) hc=>ET p (Tm.part t k) ap a cp c W hp (Tm.dC ht hk) ((hP.below hW).mono hW.size) hI h2 hc);clear hT hP h1 h2 he ht hp;go_enter Tryz.func96,Tryz.ntmps96;go_wp2_with (first
   | (go_at_call 39;refine hC.mono ?_;clear hC;rintro e w ⟨rfl,rfl⟩))
  go_loopw [7,8] (fun v i wr=>∃ k:Nat,k≤t.length∧i = .int .i64 (k:Int)∧New w.heap.size wr v (ig t p (placesTo t k))∧Below w.heap.size w wr) (fun _ i _=>t.length - (intOf i).toNat)
  case atStart=>exact ⟨0,Nat.zero_le _,rfl,New.nil _ _,Below.refl _ _⟩
  case round =>
   obtain ⟨k,hk,rfl,hN,hB⟩:=hrel;obtain ⟨a0,c0,rfl,_⟩:=New.ints hN;by_cases hlt:k < t.length
   ·have hlt':(k:Int) < (t.length:Int):=by omega
    have hp1:=Pm.out wr hB k hlt;have WS:=hid (KY (p:=p) (placesTo t k) ⟨k,hlt⟩);have WT:=hid (fun m=>GH (p:=p) (m:=m) (placesTo t k) ⟨k,hlt⟩);have hol:=KZ (p:=p) (placesTo t k);rw [p9 t k hk] at hol;have VT:=hid (fun W hW a c hI hc=>hfit.out W hW k hlt a c hI hc);have hsc:=hid (nK hlt);dsimp only at WS WT
    cases hres:Tm.fit p (Tm.part t k) with
    | none =>
     rw [hres] at VT;have hst:Hid (ig t p (placesTo t (k+1)) = ig t p (placesTo t k)):=by show _ = _;rw [hsc.out];exact WS.out hres
     clear WS WT hres;go_wp2_with (first
      | (go_at_call 94;refine hp1.mono ?_;clear hp1;rintro e w1 ⟨v1,rfl,hN1,hB1⟩;obtain ⟨a1,c1,rfl,hI1,hc1⟩:=New.ints hN1;have hB2:=hB.trans (hB1.mono hB.size))
      | (go_at_call 112;refine (VT.out _ hB2 _ _ hI1 hc1).mono ?_;rintro e w2 ⟨v2,rfl,_,hB3⟩;have hB4:=hB2.trans (hB3.mono hB2.size);simp only [Option.isSome_none]))
     go_roundw
     case rel=>exact ⟨k+1,by omega,by go_num,by rw [hst.out];exact (New.below hN hB1).below hB3,hB4⟩
     case measure=>simp [intOf];omega
    | some m =>
     rw [hres] at VT;have hst:Hid (ig t p (placesTo t (k+1)) = ig t p (placesTo t k)++[(k:Int)]):=by show _ = _;rw [hsc.out];exact WT.out m hres
     clear WS WT hres;go_wp2_with (first
      | (go_at_call 94;refine hp1.mono ?_;clear hp1;rintro e w1 ⟨v1,rfl,hN1,hB1⟩;obtain ⟨a1,c1,rfl,hI1,hc1⟩:=New.ints hN1;have hB2:=hB.trans (hB1.mono hB.size))
      | (go_at_call 112;refine (VT.out _ hB2 _ _ hI1 hc1).mono ?_;rintro e w2 ⟨v2,rfl,_,hB3⟩;have hB4:=hB2.trans (hB3.mono hB2.size);simp only [Option.isSome_some];have eH:=(New.below hN hB1).below hB3)
      | (at_builtin;go_loud (refine mP _ rfl _ _ rfl w.heap.size _ (ig t p (placesTo t k)) rfl (New.alloc eH _) w2.heap.size (k:Int) rfl (kP _ _ _ _ rfl) (by omega) (by have:=hB4.size;simp;omega) ?_);intro v' w3 iD hg3 gq;obtain ⟨a3,c3,rfl,_⟩:=New.ints iD))
     go_roundw
     case rel=>exact ⟨k+1,by omega,by go_num,by rw [hst.out];simpa using iD,(hB4.alloc hB4.size _).trans gq⟩
     case measure=>simp [intOf];omega
   ·obtain rfl:k = t.length:=by omega
    go_wp2;go_ret2
    exact ⟨_,rfl,hN,hB⟩
 ·rw [if_neg he]
  have hne:(Tm.cK t p != 0) = true:=by simp [he]
  clear hT hP he h1 h2;generalize Tm.cK t p = q at *;go_enter Tryz.func96,Tryz.ntmps96;go_wp2_with (first
   | (go_at_call 39;refine hC.mono ?_;clear hC;rintro e w ⟨rfl,rfl⟩))
  go_ret2
  exact ⟨_,rfl,New.nil _ _,Below.refl _ _⟩
end Go.Proofs.YtglohanbpjaieaaGreat
namespace Go.Proofs.YtglohanbpjaieaaGreat
open Go.Proofs Go.RowKit Go.Shelf
theorem Tm.fK (ss:List (List Int)) (s:Int) (l:List Int):Tm.applied ss (s :: l) = Tm.piece ss s++Tm.applied ss l:=by simp [Tm.applied]
theorem Tm.rA {ss:List (List Int)} {s:Int} (h:0≤s):Tm.piece ss s = [s]:=by unfold Tm.piece;rw [if_neg (by omega)]
def Terms (ss:List (List Int)):Prop:=∀ j,j < 8→Tm.err (ss[j]?.getD []) = 0
theorem Terms.of {ss:List (List Int)} (h:Tm.dO ss = 0):Terms ss:=fun j hj=>Tm.jS (Tm.kv h).2 j (by rw [(Tm.kv h).1];exact hj)
theorem Tm.sP {ss:List (List Int)} (h:Terms ss) {s:Int} (h8:-8≤s) (hs:s < 0):Tm.err (Tm.piece ss s) = 0:=by
 unfold Tm.piece;rw [if_pos hs];exact h _ (by omega)
theorem Tm.CB {ss:List (List Int)} (h:Terms ss):∀ (t:List Int) (n:Nat),t.all Tm.known = true→Tm.run t n = t.length→Tm.run (Tm.applied ss t) n = (Tm.applied ss t).length:=by
 intro t;induction t with
 | nil=>intro n _ hr;rw [Tm.jJ] at hr;subst hr;rw [List.length_nil,Tm.cZ];rfl
 | cons s l ih =>
  intro n hk hr;rw [List.all_cons,Bool.and_eq_true] at hk;cases n with
  | zero=>rw [Tm.cZ,List.length_cons] at hr;omega
  | succ n =>
   rw [Tm.bU,List.length_cons] at hr;rw [Tm.fK];by_cases hs:s < 0
   ·rw [Tm.zJ hs] at hr
    have hp:=Tm.eT (Tm.sP h (Tm.iK hk.1) hs);have hi:=ih n hk.2 (by rw [Nat.add_zero] at hr;omega);rw [show n+1 = 1+n from by omega,Tm.lV,Tm.kF _ _ 1 (by omega),hp,List.drop_left,hi,List.length_append]
   ·rw [Tm.rA (by omega),List.singleton_append,Tm.bU,List.length_cons,ih _ hk.2 (by omega)]
    omega
theorem Tm.K3 {ss:List (List Int)} (h:Terms ss):∀ (t:List Int),t.all Tm.known = true→(Tm.applied ss t).all Tm.known = true:=by
 intro t;induction t with
 | nil=>intro _;rfl
 | cons s l ih =>
  intro hk;rw [List.all_cons,Bool.and_eq_true] at hk;rw [Tm.fK,List.all_append,ih hk.2];by_cases hs:s < 0
  ·rw [Tm.dH (Tm.sP h (Tm.iK hk.1) hs)];rfl
  ·rw [Tm.rA (by omega)];simp [hk.1]
theorem Tm.kQ {ss:List (List Int)} (h:Terms ss) {t:List Int} (ht:Tm.err t = 0) (hl:(Tm.applied ss t).length≤30):Tm.err (Tm.applied ss t) = 0 :=
 Tm.oJ hl (Tm.K3 h t (Tm.dH ht)) (Tm.CB h t 1 (Tm.dH ht) (Tm.eT ht))
def Tm.found (m:nT) (s:Int):List Int:=if s < 0 then (m s).getD [s] else [s]
theorem Tm.Oe {m:nT} {s:Int} (h8:-8≤s):Tm.piece (Tm.gp m 8) s = Tm.found m s:=by
 unfold Tm.piece Tm.found;by_cases hs:s < 0
 ·rw [if_pos hs,if_pos hs]
  have hj:(-1 - s).toNat < 8:=by omega
  simp only [Tm.gp,List.getElem?_map];rw [List.getElem?_range hj];simp only [Option.map_some,Option.getD_some];rw [if_pos hj,show -1 - (((-1 - s).toNat:Nat):Int) = s from by omega]
 ·rw [if_neg hs,if_neg hs]
theorem Tm.Jg {m:nT}:∀ (p:List Int),p.all Tm.known = true→Tm.applied (Tm.gp m 8) p = p.flatMap (Tm.found m):=by
 intro p;induction p with
 | nil=>intro _;rfl
 | cons s l ih =>
  intro hk;rw [List.all_cons,Bool.and_eq_true] at hk;rw [Tm.fK,ih hk.2,Tm.Oe (Tm.iK hk.1),List.flatMap_cons]
theorem Tm.Q3 (t:List Int) (k:Nat):Tm.part t k++t.drop (Tm.ai t k) = t.drop k:=by
 have h:=Tm.dw t k;unfold Tm.part;rw [show t.drop (Tm.ai t k) = (t.drop k).drop (Tm.ai t k - k) from by rw [List.drop_drop];congr 1;omega,List.take_append_drop]
theorem Tm.Q4 (p t:List Int):∀ (n i k:Nat) (m m':nT),p.length - i = n→i≤p.length→fo p t i k→Tm.fitGo t (p.drop i) k m = some m' →
 (∀ x z,m x = some z→m' x = some z)∧(p.drop i).flatMap (Tm.found m') = t.drop k:=by
 intro n;induction n with
 | zero =>
  intro i k m m' hn hi ha h;obtain rfl:i = p.length:=by omega
  rw [List.drop_length,Tm.kC] at h;cases h;rw [List.drop_length,ha.fin,List.drop_length];exact ⟨fun _ _ h=>h,rfl⟩
 | succ n ih =>
  intro i k m m' hn hi ha h;have hlt:i < p.length:=by omega
  have hk:=ha.pos hlt;rw [List.drop_eq_getElem_cons hlt,Tm.fitGo] at h;rw [List.drop_eq_getElem_cons hlt,List.flatMap_cons];by_cases hs:p[i] < 0
  ·rw [if_pos hs] at h
   by_cases hc:(m p[i]).isSome = true∧m p[i]≠some (Tm.part t k)
   ·rw [if_pos hc] at h;cases h
   ·rw [if_neg hc] at h
    obtain ⟨h1,h2⟩:=ih (i+1) (Tm.ai t k) _ m' (by omega) (by omega) (ha.var hlt (by simpa [hlt] using hs)) h;have hp:=h1 p[i] (Tm.part t k) (upd_same _ _ _);refine ⟨fun x z hx=>?_,?_⟩
    ·by_cases e:x = p[i]
     ·subst e
      have:m p[i] = some (Tm.part t k):=by
       by_cases hq:m p[i] = some (Tm.part t k)
       ·exact hq
       ·exact absurd ⟨by rw [hx];rfl,hq⟩ hc
      rw [this] at hx;cases hx;exact hp
     ·exact h1 x z (by rw [gP _ _ e];exact hx)
    ·rw [h2,show Tm.found m' p[i] = Tm.part t k from by unfold Tm.found;rw [if_pos hs,hp];rfl,Tm.Q3]
  ·rw [if_neg hs] at h
   by_cases hu:t[k]?.getD 0 = p[i]
   ·rw [if_pos hu] at h
    obtain ⟨h1,h2⟩:=ih (i+1) (k+1) m m' (by omega) (by omega) (ha.sym hlt (by simpa [hlt] using hu)) h;refine ⟨h1,?_⟩;rw [h2,show Tm.found m' p[i] = [p[i]] from by unfold Tm.found;rw [if_neg hs],List.drop_eq_getElem_cons hk];simp [hk] at hu;rw [hu];rfl
   ·rw [if_neg hu] at h;cases h
theorem Tm.Qh {p t:List Int} {m:nT} (hp:Tm.err p = 0) (ht:Tm.err t = 0) (h:Tm.fit p t = some m):Tm.applied (Tm.gp m 8) p = t:=by
 rw [Tm.Jg p (Tm.dH hp)];have:=(Tm.Q4 p t _ 0 0 _ m rfl (by omega) (fo.start hp ht) (by simpa [Tm.fit] using h)).2
 simpa using this
theorem Tm.CE {pre x post:List Int} (hx:Tm.run x 1 = x.length):Tm.ai (pre++(x++post)) pre.length = pre.length+x.length:=by
 have h:=Tm.mq (pre:=pre) (t:=x) (post:=post) (k:=0) (by omega) (by rw [Tm.iq];omega);rw [Nat.add_zero,Tm.iq,hx] at h;exact h
theorem Tm.Og {pre x post:List Int} (hx:Tm.run x 1 = x.length):Tm.part (pre++(x++post)) pre.length = x:=by
 unfold Tm.part;rw [Tm.CE hx,List.drop_left,show pre.length+x.length - pre.length = x.length from by omega,List.take_left]
theorem Tm.UK {s:Int} {df:List (List Int)} (hz:∀ j,j < df.length→Tm.run (df[j]?.getD []) 1 = (df[j]?.getD []).length):∀ m,m≤df.length→Tm.pos (s :: df.flatten) 0 m = (s :: (df.take m).flatten).length:=by
 intro m;induction m with
 | zero=>intro _;simp [Tm.dB]
 | succ m ih =>
  intro hm;rw [Tm.ed,ih (by omega)];have e:s :: df.flatten = (s :: (df.take m).flatten)++(df[m]?.getD []++(df.drop (m+1)).flatten):=by rw [List.cons_append,← nJ (by omega)]
  rw [e,Tm.CE (hz m (by omega)),List.length_cons,List.length_cons,jW (by omega),List.length_append];omega
theorem Tm.UL {s:Int} {df:List (List Int)} (hz:∀ j,j < df.length→Tm.run (df[j]?.getD []) 1 = (df[j]?.getD []).length) {m:Nat} (hm:m < df.length):Tm.kid (s :: df.flatten) m = df[m]?.getD []:=by
 unfold Tm.kid;rw [Tm.UK hz m (by omega)];have e:s :: df.flatten = (s :: (df.take m).flatten)++(df[m]?.getD []++(df.drop (m+1)).flatten):=by rw [List.cons_append,← nJ (by omega)]
 rw [e,Tm.Og (hz m hm)]
def Tm.kids (x:List Int) (n:Nat):List (List Int):=(List.range n).map (Tm.kid x)
theorem Tm.zx (x:List Int) (n:Nat):(Tm.kids x n).length = n:=by simp [Tm.kids]
theorem Tm.VS (x:List Int) {n m:Nat} (h:m < n):(Tm.kids x n)[m]?.getD [] = Tm.kid x m:=by simp [Tm.kids,h]
theorem Tm.Q5 (x:List Int) (n:Nat):Tm.kids x (n+1) = Tm.kids x n++[Tm.kid x n]:=by simp [Tm.kids,List.range_succ]
theorem Tm.UM (x:List Int) (k:Nat):x.take (Tm.ai x k) = x.take k++Tm.part x k:=by
 have:=Tm.dw x k
 unfold Tm.part;rw [show Tm.ai x k = k+(Tm.ai x k - k) from by omega,List.take_add,show k+(Tm.ai x k - k) - k = Tm.ai x k - k from by omega]
theorem Tm.UN {x:List Int} (h:0 < x.length):∀ n,x.take (Tm.pos x 0 n) = Tm.sym x :: (Tm.kids x n).flatten:=by
 intro n;induction n with
 | zero =>
  obtain ⟨s,l,rfl⟩:∃ s l,x = s :: l:=by cases x with | nil=>simp at h | cons s l=>exact ⟨s,l,rfl⟩
  simp [Tm.dB,Tm.sym,Tm.kids]
 | succ n ih =>
  rw [Tm.ed,Tm.UM,ih,Tm.Q5,List.flatten_append,List.cons_append];simp [Tm.kid]
theorem Tm.K4 {x:List Int} (h:Tm.err x = 0):Tm.pos x 0 (Tm.room (Tm.sym x)) = x.length:=by
 have h1:=Tm.nN x 0 (Tm.bM h);rw [Tm.iq,Tm.eT h] at h1;exact h1.symm
theorem Tm.view {x:List Int} (h:Tm.err x = 0):x = Tm.sym x :: (Tm.kids x (Tm.room (Tm.sym x))).flatten:=by
 rw [← Tm.UN (Tm.bM h),Tm.K4 h,List.take_length]
theorem Tm.UO (x:List Int) (k m:Nat):Tm.pos x k m < Tm.pos x k (m+1):=by rw [Tm.ed];exact Tm.dw _ _
theorem Tm.pq {x:List Int} (h:Tm.err x = 0) {m:Nat} (hm:m < Tm.room (Tm.sym x)):Tm.pos x 0 m < x.length:=by
 have h1:=Tm.UO x 0 m;have h2:=Tm.mD x 0 (m+1) (Tm.room (Tm.sym x)) (by omega);rw [Tm.K4 h] at h2;omega
theorem Tm.mh {x:List Int} (h:Tm.err x = 0) {m:Nat} (hm:m < Tm.room (Tm.sym x)):Tm.err (Tm.kid x m) = 0:=Tm.dC h (Tm.pq h hm)
theorem Tm.jl {zs:List Int} (he:Tm.err zs = 0) {i:Nat} (hi:i < zs.length):Tm.sym (Tm.part zs i) = zs[i]?.getD 0:=by
 have hl:=Tm.dF he hi;have hg:=Tm.dw zs i;unfold Tm.sym Tm.part;rw [List.getElem?_take_of_lt (by omega),List.getElem?_drop];simp
theorem Tm.mO {zs:List Int} (he:Tm.err zs = 0) {i:Nat} (hi:i < zs.length):∀ m,m≤Tm.room (zs[i]?.getD 0)→Tm.pos zs i m = i+Tm.pos (Tm.part zs i) 0 m:=by
 have hp:=Tm.dC he hi;have hs:=Tm.jl he hi;have hsp:=Tm.split zs i;have hti:(zs.take i).length = i:=by simp;omega
 intro m;induction m with
 | zero=>intro _;simp [Tm.dB]
 | succ m ih =>
  intro hm;have hin:=Tm.pq hp (m:=m) (by rw [hs];omega);rw [Tm.ed,Tm.ed,ih (by omega)];have h:=Tm.mq (pre:=zs.take i) (t:=Tm.part zs i) (post:=zs.drop (Tm.ai zs i)) (k:=Tm.pos (Tm.part zs i) 0 m) (by omega) (Tm.fV hp hin);rw [← hsp,hti] at h;exact h
theorem Tm.K5 {zs:List Int} (he:Tm.err zs = 0) {i:Nat} (hi:i < zs.length) {m:Nat} (hm:m < Tm.room (zs[i]?.getD 0)):Tm.kid (Tm.part zs i) m = Tm.part zs (Tm.pos zs i m):=by
 have hp:=Tm.dC he hi;have hs:=Tm.jl he hi;have hsp:=Tm.split zs i;have hti:(zs.take i).length = i:=by simp;omega
 have hin:=Tm.pq hp (m:=m) (by rw [hs];omega);have h:=Tm.y8 (pre:=zs.take i) (t:=Tm.part zs i) (post:=zs.drop (Tm.ai zs i)) (k:=Tm.pos (Tm.part zs i) 0 m) (by omega) (Tm.fV hp hin);rw [← hsp,hti] at h;rw [Tm.mO he hi m (by omega),h];rfl
theorem Tm.C9 (ss:List (List Int)) (df:List (List Int)):Tm.applied ss df.flatten = (df.map (Tm.applied ss)).flatten:=by
 induction df with
 | nil=>simp [Tm.applied]
 | cons z l ih=>rw [List.flatten_cons,List.map_cons,List.flatten_cons,← ih];simp [Tm.applied]
theorem Tm.jc {ss:List (List Int)} (hss:Terms ss) {a:List Int} (ha:Tm.err a = 0) (h0:0≤Tm.sym a):Tm.sym (Tm.applied ss a) = Tm.sym a∧∀ m,m < Tm.room (Tm.sym a)→Tm.kid (Tm.applied ss a) m = Tm.applied ss (Tm.kid a m):=by
 have e:Tm.applied ss a = Tm.sym a :: ((Tm.kids a (Tm.room (Tm.sym a))).map (Tm.applied ss)).flatten:=by
  conv=>lhs;rw [Tm.view ha]
  rw [Tm.fK,Tm.rA h0,Tm.C9];rfl
 have hr:∀ j,j < ((Tm.kids a (Tm.room (Tm.sym a))).map (Tm.applied ss)).length→Tm.run (((Tm.kids a (Tm.room (Tm.sym a))).map (Tm.applied ss))[j]?.getD []) 1 = (((Tm.kids a (Tm.room (Tm.sym a))).map (Tm.applied ss))[j]?.getD []).length:=by
  intro j hj;rw [List.length_map,Tm.zx] at hj;have ek:((Tm.kids a (Tm.room (Tm.sym a))).map (Tm.applied ss))[j]?.getD [] = Tm.applied ss (Tm.kid a j):=by simp [Tm.kids,hj]
  rw [ek];have hk:=Tm.mh ha hj;exact Tm.CB hss _ 1 (Tm.dH hk) (Tm.eT hk)
 constructor
 ·rw [e];simp [Tm.sym]
 ·intro m hm
  rw [e,Tm.UL hr (by rw [List.length_map,Tm.zx];exact hm)];simp [Tm.kids,hm]
theorem Tm.Gt.stays {r:Int→Int} {ss:List (List Int)} (hss:Terms ss) {a b:List Int} (h:Tm.Gt r a b):Tm.err a = 0→Tm.err b = 0→Tm.Gt r (Tm.applied ss a) (Tm.applied ss b):=by
 induction h with
 | eq a b m hm e =>
  intro ha hb;obtain ⟨h1,h2⟩:=Tm.jc hss ha (Tm.Gt.pos (r:=r) (.eq a b m hm e));exact .eq _ _ m (by rw [h1];exact hm) (by rw [h2 m hm,e])
 | sub a b m hm h ih =>
  intro ha hb;obtain ⟨h1,h2⟩:=Tm.jc hss ha (Tm.Gt.pos (.sub a b m hm h));exact .sub _ _ m (by rw [h1];exact hm) (by rw [h2 m hm];exact ih (Tm.mh ha hm) hb)
 | rk a b ha0 hb0 hall hne hr ih =>
  intro ha hb;obtain ⟨h1,h2⟩:=Tm.jc hss ha ha0;obtain ⟨k1,k2⟩:=Tm.jc hss hb hb0;exact .rk _ _ (by rw [h1];exact ha0) (by rw [k1];exact hb0) (fun m hm=>by rw [k1] at hm;rw [k2 m hm];exact ih m hm ha (Tm.mh hb hm)) (by rw [h1,k1];exact hne) (by rw [h1,k1];exact hr)
 | lex a b m ha0 hs hall hm hl hk ih ihk =>
  intro ha hb;obtain ⟨h1,h2⟩:=Tm.jc hss ha ha0;obtain ⟨k1,k2⟩:=Tm.jc hss hb (by omega);exact .lex _ _ m (by rw [h1];exact ha0) (by rw [h1,k1];exact hs) (fun m hm=>by rw [k1] at hm;rw [k2 m hm];exact ih m hm ha (Tm.mh hb hm)) (by rw [h1];exact hm)
   (fun l hlm=>by rw [h2 l (by omega),k2 l (by rw [← hs];omega),hl l hlm]) (by rw [h2 m hm,k2 m (by rw [← hs];exact hm)];exact ihk (Tm.mh ha hm) (Tm.mh hb (by rw [← hs];exact hm)))
def Oh (P:Program) (l:Nat) (R:Ending→World→Prop):Exit→Act→World→Prop
 | .panic chain,a,w=>a.defers = []∧R (.panicked chain) w
 | e,a,w=>roundPost P l R e a w
theorem Fb {F:Fence} {n:Nat} {P:Program} {l:Nat} {f:FuncId} {tmps:Array Value} {assign body:Code} {w:World} {R:Ending→World→Prop} (hF:F.fn f) (hf:(∀ ch W,¬ R (.panicked ch) W)∨∃ fn,P.funcs[f]? = some fn)
 (h:assign.wpIn (F.inRound l) n P (Exit.then (fun a₁ w₁=>∃ w₂,(Instr.beginRound l).run P w₁ = .ok () w₂∧body.wpIn (F.inRound l) n P (Oh P l R) a₁ w₂) (fun _ _ _=>False)) { tmps:=tmps,defers:=[] } w) :
 RoundIn F n P l f tmps assign body w R:=by
 refine ⟨hF,fun c cs hr=>?_⟩;obtain ⟨b,hb⟩:∃ b:Frame,b = { (default:Frame) with fn:=f,kind:=.normal,roundOf:=some l }:=⟨_,rfl⟩;have hb0:Frame.round l f tmps assign body .normal = b.atR { tmps:=tmps,defers:=[] } [.code assign,.beginRound,.code body]:=by rw [hb];simp [Frame.round,Frame.atR]
 have hbr:b.roundOf = some l:=by rw [hb]
 have hbk:b.kind = .normal:=by rw [hb]
 have hbf:b.fn = f:=by rw [hb]
 have hr':(F.inRound l).room ((c :: cs).length+1+n):=hr;have hF':(F.inRound l).fn b.fn:=by rw [hbf];exact hF
 obtain ⟨e,a₁,w₁,hq,harr⟩:=h b [.beginRound,.code body] (c :: cs) (by rw [hbr];rfl) hF' hr';rw [← hb0] at harr;cases e with
 | normal =>
  obtain ⟨w₂,ahy,hbody⟩:=hq;have s1:StepsIn (Machine.fenced P (F.inRound l)) P (lone (b.atR a₁ [.beginRound,.code body]) (c :: cs) w₁) (lone (b.atR a₁ [.code body]) (c :: cs) w₂) :=
   .one (fenced_calm (fr:=b.atR a₁ [.beginRound,.code body]) hF' hr' rfl) (stepR_beginRound hbr ahy)
  obtain ⟨e₂,a₂,w₃,hq₂,harr₂⟩:=hbody b [] (c :: cs) (by rw [hbr];rfl) hF' hr';have s2:=StepsIn.trans harr s1;cases e₂ with
  | normal =>
   obtain ⟨v,w₄,hend,hR⟩:=hq₂;exact ⟨.returned v,w₄,hR,s2.trans (StepsIn.trans harr₂ (.one (fenced_calm (fr:=b.atR a₂ []) hF' hr' rfl) (stepR_round_end hbr hbk hend)))⟩
  | ret =>
   obtain ⟨v,w₄,hend,hR⟩:=hq₂;obtain ⟨k₁,hs⟩:=harr₂.2 (by rw [hbr];rfl);exact ⟨.returned v,w₄,hR,s2.trans (StepsIn.trans hs (.one (fenced_calm (fr:=b.atR a₂ (.code .ret :: k₁)) hF' hr' rfl) (stepR_round_ret hbr hbk hend)))⟩
  | exit id =>
   obtain ⟨v,w₄,hend,hR⟩:=hq₂;obtain ⟨k₁,hk,hs⟩:=harr₂.2 (by rw [hbr];rfl) rfl;exact ⟨.returned v,w₄,hR,s2.trans (StepsIn.trans hs (.one (fenced_calm (fr:=b.atR a₂ (.code (.exit id) :: k₁)) hF' hr' rfl) (stepR_round_exit hbr hbk hk hend)))⟩
  | goto t =>
   obtain ⟨v,w₄,hend,hR⟩:=hq₂;obtain ⟨k₁,hk,hs⟩:=harr₂.2 (by rw [hbr];rfl) rfl;exact ⟨.returned v,w₄,hR,s2.trans (StepsIn.trans hs (.one (fenced_calm (fr:=b.atR a₂ (.code (.goto t) :: k₁)) hF' hr' rfl) (stepR_round_goto hbr hbk hk hend)))⟩
  | panic chain =>
   obtain ⟨hd,hR⟩:=hq₂;obtain ⟨todo,hs⟩:=harr₂;have hf':=hf.resolve_left (fun h=>h _ _ hR);have hl:({ b.atR a₂ todo with mode:=.panicking chain }:Frame).leaving P w₃ (.panicked chain):=⟨rfl,hd,by rw [← hbf] at hf';exact hf'⟩;exact ⟨.panicked chain,w₃,hR,s2.trans (StepsIn.trans hs (.one (fenced_leaving (F:=F.inRound l) hF' hr' hl) (step_leave_panicked hl)))⟩
  | outgrown=>exact hq₂.elim
 | exit id=>exact hq.elim
 | goto t=>exact hq.elim
 | ret=>exact hq.elim
 | panic chain=>exact hq.elim
 | outgrown=>exact hq.elim
def Ej (F:Fence) (n:Nat) (P:Program) (g:Nat) (lb:Array Value) (encs:Nat→Array Value) (r:Nat) (rd:World→Prop):Prop :=
 ∀ (l:Nat) (J:Nat→World→Prop) (Jx:World→Prop) (Jp:List PanicEntry→World→Prop) (W:World),AbidesFrom W.heap.size J→(∀ i W,J i W→rd W) →
  (∀ i W1,J i W1→i < r→YieldAt F (n - 1) P l (encs i) W1 fun e W'=>(e = .returned (.bool true)∧J (i+1) W')∨(e = .returned (.bool false)∧Jx W')∨∃ ch,e = .panicked ch∧Jp ch W') →
  J 0 W→CallsIn F n P g (#[.func (.yield l) #[] #[]]++lb) W fun e W'=>((∃ v,e = .returned v)∧(J r W'∨Jx W'))∨∃ ch,e = .panicked ch∧Jp ch W'
def UQ (B:Nat) (I:Nat→World→Prop) (Ix:Code→World→Prop) (Ip:List PanicEntry→World→Prop) (i:Nat) (W:World):Exit→Act→World→Prop
 | .normal,_,W'=>KeepsFrom B W W'∧I i W'
 | .ret,_,W'=>KeepsFrom B W W'∧Ix .ret W'
 | .exit id,_,W'=>KeepsFrom B W W'∧Ix (.exit id) W'
 | .goto t,_,W'=>KeepsFrom B W W'∧Ix (.goto t) W'
 | .panic ch,a,W'=>a.defers = []∧KeepsFrom B W W'∧Ip ch W'
 | .outgrown,_,_=>False
theorem dU {F:Fence} {n:Nat} {P:Program} {g:Operand} {ps:Array Tmp} {assign body:Code} {Q:Exit→Act→World→Prop} {a:Act} {w:World}
 (hro:F.round = none) (h1:1≤n) {gf:Nat} {lb:Array Value} (hg:a.eval g = .func (.func gf) #[] lb) (hFg:F.fn gf) (eg:∀ args w,(callFunc gf args).run P w = .ok (.enter gf args) w)     {encs:Nat→Array Value} {r:Nat} {rd:World→Prop} (hseq:Ej F (n - 1) P gf lb encs r rd) (hps:∀ i,(encs i).size = ps.size)
 (I:Nat→World→Prop) (Ix:Code→World→Prop) (Ip:List PanicEntry→World→Prop) (hfs:(∀ ch W,¬ Ip ch W)∨∀ fn,F.fn fn→∃ f,P.funcs[fn]? = some f) (hI:OwnFrom w.heap.size I) (hIx:OwnFrom w.heap.size Ix) (hrd:∀ i W,I i W→rd W) (h0:I 0 w) (a₁:Nat→Act)
 (hassign:∀ (l i:Nat) (W:World) (K:Act→World→Prop),K (a₁ i) W →
   assign.wpIn (F.inRound l) (n - 1 - 1) P (Exit.then K (fun _ _ _=>False)) { tmps:=(ps.zip (encs i)).foldl (fun t (p,v)=>t.setIfInBounds p v) a.tmps,defers:=[] } W)
 (hbody:∀ (l i:Nat) (W:World),I i W→i < r→body.wpIn (F.inRound l) (n - 1 - 1) P (UQ w.heap.size I Ix Ip (i+1) W) (a₁ i) W)
 (hdone:∀ (D:Nat) (W:World),w.heap.size≤D→I r W→W.heap[D]? = some (.deferred (some []))→Q .normal { a with defers:={ target:=.collected D,args:=#[] } :: a.defers } W)
 (hstop:∀ (D:Nat) (c:Code) (W:World),w.heap.size≤D→Ix c W→W.heap[D]? = some (.deferred (some []))→c.wpIn F n P Q { a with defers:={ target:=.collected D,args:=#[] } :: a.defers } W)
 (aaH:∀ (D:Nat) (ch:List PanicEntry) (W:World),w.heap.size≤D→Ip ch W→W.heap[D]? = some (.deferred (some []))→Q (.panic ch) { a with defers:={ target:=.collected D,args:=#[] } :: a.defers } W) :
 (Code.rangeFunc g ps assign body).wpIn F n P Q a w:=by
 refine wpIn_rangeFunc fun fn hfn=>?_
 rw [hro];obtain ⟨rec,hrec⟩:∃ rec:LoopState→Option Code→Loop,rec = fun st pe=>{ state:=st,pending:=pe,fn,tmps:=a.tmps,params:=ps,assign,body,defers:=w.heap.size }:=⟨_,rfl⟩
 obtain ⟨W1,hW1⟩:∃ W1,(w.alloc (.deferred (some []))).alloc (.loop (rec .ready none)) = W1:=⟨_,rfl⟩;have hL1:W1.heap[w.heap.size+1]? = some (.loop (rec .ready none)):=by
  have:=World.alloc_heap_new (w.alloc (.deferred (some []))) (.loop (rec .ready none))
  rw [World.size_alloc,hW1] at this;exact this
 have hD1:W1.heap[w.heap.size]? = some (.deferred (some [])):=by rw [← hW1];exact (Below.heap_alloc _ _ _ (by simp)).trans (World.alloc_heap_new w _)
 have hS1:w.heap.size≤W1.heap.size:=by rw [← hW1];simp;omega
 have hI1:I 0 W1:=by rw [← hW1];exact hI.alloc _ (hI.alloc _ h0)
 refine ⟨w.heap.size+1,[{ target:=.collected w.heap.size,args:=#[] }],W1,{ target:=.fn (.func gf) lb,args:=#[.func (.yield (w.heap.size+1)) #[] #[]] },W1,gf,#[.func (.yield (w.heap.size+1)) #[] #[]]++lb,W1,
  by rw [← hW1,hrec];exact run_enterLoop_outer _ _ _ _ _,by simp only [resolve,hg];simp [go_sem],fun f' hf'=>by simp [Target.leads] at hf';subst hf';exact hFg,by simp [invoke,go_sem,eg],fun _=>h1,?_⟩
 have hcells:∀ {A:World} {row:Option Nat},(∀ r,row = some r→W1.heap.size≤r∧∃ o:Obj,A.heap[r]? = some o∧o.isWalk = true)→∀ r,row = some r→w.heap.size≤r∧∃ o:Obj,A.heap[r]? = some o∧o.isCells = false:=fun hr q e=>by
  obtain ⟨hB,o,ho,hw⟩:=hr q e;exact ⟨by omega,o,ho,Obj.not_cells_of_walk hw⟩
 refine (hseq (w.heap.size+1) (fun i W=>I i W∧W.heap[w.heap.size+1]? = some (.loop (rec .ready none))∧W.heap[w.heap.size]? = some (.deferred (some [])))
  (fun W=>∃ c,Ix c W∧W.heap[w.heap.size+1]? = some (.loop (rec .done (some c)))∧W.heap[w.heap.size]? = some (.deferred (some [])))
  (fun ch W=>Ip ch W∧W.heap[w.heap.size]? = some (.deferred (some []))) W1
  (fun i A B row hs hgr hr=>⟨hI i A B row hs.1 hgr (hcells hr),(grownBy_keeps hgr (fun q e=>(hr q e).2) hs.2.1 rfl).trans hs.2.1,(grownBy_keeps hgr (fun q e=>(hr q e).2) hs.2.2 rfl).trans hs.2.2⟩)
  (fun i W h=>hrd i W h.1) ?_ ⟨hI1,hL1,hD1⟩).mono ?_
 ·rintro i W ⟨hi,hl,hk⟩ hlen
  have hlt:w.heap.size+1 < W.heap.size:=(Array.getElem?_eq_some_iff.1 hl).1;have hy:=run_yield (P:=P) (args:=encs i) hl (by rw [hrec];exact hps i);rw [hrec] at hy;refine ⟨fn,_,assign,body,hy,Fb hfn (hfs.elim (fun h=>.inl fun ch W hr=>by rcases hr with ⟨e,_⟩ | ⟨e,_⟩ | ⟨c,_,hp,_⟩ <;> first | cases e | exact h _ _ hp) (fun h=>.inr (h fn hfn))) (hassign _ i W _ ⟨_,run_beginRound hl (by rw [hrec]),?_⟩)⟩;obtain ⟨W2,hW2⟩:∃ W2,W.putObj (w.heap.size+1) (.loop { rec .ready none with state:=.busy }) = W2:=⟨_,rfl⟩;have hl2:W2.heap[w.heap.size+1]? = some (.loop { rec .ready none with state:=.busy }):=by rw [← hW2];exact World.putObj_heap_same hlt
  have hk2:W2.heap[w.heap.size]? = some (.deferred (some [])):=by rw [← hW2];exact (World.putObj_heap_other (by omega)).trans hk
  have hi2:I i W2:=by rw [← hW2];exact hI.putObj _ hi (by omega) hl rfl
  have hgo:(W.putObj (w.heap.size+1) (.loop { rec .ready none with state:=.busy })) = W2:=hW2;rw [hgo];refine wpIn_mono (hbody _ i W2 hi2 hlen) ?_;have fin:∀ (jump:Option Code) (W3:World),KeepsFrom w.heap.size W2 W3 →
   (Instr.endRound (w.heap.size+1) jump).run P W3 = .ok (.bool jump.isNone) (W3.putObj (w.heap.size+1) (.loop (rec (if jump.isNone then .ready else .done) jump))) ∧
   W3.heap[w.heap.size+1]? = some (.loop { rec .ready none with state:=.busy }) ∧
   (W3.putObj (w.heap.size+1) (.loop (rec (if jump.isNone then .ready else .done) jump))).heap[w.heap.size+1]? = some (.loop (rec (if jump.isNone then .ready else .done) jump)) ∧
   (W3.putObj (w.heap.size+1) (.loop (rec (if jump.isNone then .ready else .done) jump))).heap[w.heap.size]? = some (.deferred (some [])):=fun jump W3 hk3=>by
   have hl3:=hk3.same _ _ (by omega) hl2 rfl;have hend:=run_endRound (P:=P) jump hl3;have hk4:=(World.putObj_heap_other (w:=W3) (o:=.loop (rec (if jump.isNone then .ready else .done) jump)) (show w.heap.size≠w.heap.size+1 by omega)).trans (hk3.same _ _ (Nat.le_refl _) hk2 rfl);refine ⟨?_,hl3,World.putObj_heap_same (Array.getElem?_eq_some_iff.1 hl3).1,hk4⟩;rw [hrec] at hend ⊢;exact hend
  intro e a3 W3 hp;cases e with
  | normal =>
   obtain ⟨hr,hl3,hl4,hk4⟩:=fin none W3 hp.1;exact ⟨_,_,hr,.inl ⟨rfl,hI.putObj _ hp.2 (by omega) hl3 rfl,hl4,hk4⟩⟩
  | ret =>
   obtain ⟨hr,hl3,hl4,hk4⟩:=fin (some .ret) W3 hp.1;exact ⟨_,_,hr,.inr (.inl ⟨rfl,_,hIx.putObj _ hp.2 (by omega) hl3 rfl,hl4,hk4⟩)⟩
  | exit id =>
   obtain ⟨hr,hl3,hl4,hk4⟩:=fin (some (.exit id)) W3 hp.1;exact ⟨_,_,hr,.inr (.inl ⟨rfl,_,hIx.putObj _ hp.2 (by omega) hl3 rfl,hl4,hk4⟩)⟩
  | goto t =>
   obtain ⟨hr,hl3,hl4,hk4⟩:=fin (some (.goto t)) W3 hp.1;exact ⟨_,_,hr,.inr (.inl ⟨rfl,_,hIx.putObj _ hp.2 (by omega) hl3 rfl,hl4,hk4⟩)⟩
  | panic ch=>exact ⟨hp.1,.inr (.inr ⟨ch,rfl,hp.2.2,hp.2.1.same _ _ (Nat.le_refl _) hk2 rfl⟩)⟩
  | outgrown=>exact hp.elim
 ·rintro e W2 (⟨⟨v,rfl⟩,(⟨hi,hl,hk⟩ | ⟨c,hi,hl,hk⟩)⟩ | ⟨ch,rfl,hi,hk⟩)
  ·refine ⟨none,_,by have:=run_endLoop (P:=P) hl (by rw [hrec];simp);rw [hrec] at this;exact this,hdone _ _ (Nat.le_refl _) (hI.putObj _ hi (by omega) hl rfl) ((World.putObj_heap_other (by omega)).trans hk)⟩
  ·refine ⟨some c,_,by have:=run_endLoop (P:=P) hl (by rw [hrec];simp);rw [hrec] at this;exact this,hstop _ c _ (Nat.le_refl _) (hIx.putObj _ hi (by omega) hl rfl) ((World.putObj_heap_other (by omega)).trans hk)⟩
  ·exact aaH _ ch _ (Nat.le_refl _) hi hk
section
attribute [local go_sem] Oper.semAt_some
def Fx:Fence:={ fn:=fun f=>∃ fn,Tryz.prog.funcs[f]? = some fn,depth:=none,alive:=false }
def Pl (F:Fence):Prop:=F.round = none∧(∀ f fn,Tryz.prog.funcs[f]? = some fn→F.fn f)∧F.depth = none
theorem Xp:Pl Fx:=⟨rfl,fun _ fn h=>⟨fn,h⟩,rfl⟩
theorem iZ:Pl Fence.wide:=⟨rfl,fun _ _ _=>trivial,rfl⟩
theorem Ye:∀ fn,Fx.fn fn→∃ f,Tryz.prog.funcs[fn]? = some f:=fun _ h=>h
theorem jf {F:Fence} (hF:Pl F):F.round = none∧(∀ f fn,Tryz.prog.funcs[f]? = some fn→F.fn f)∧∀ k:Nat,(F.depth.isSome = true→1≤k):=by
 obtain ⟨h1,h2,h3⟩:=hF;exact ⟨h1,h2,fun k h=>by rw [h3] at h;simp at h⟩
theorem Sl {n:Nat} {f:FuncId} {args:Array Value} {w:World} {R:Ending→World→Prop} (h:CallsIn Fx n Tryz.prog f args w R):Calls Tryz.prog f args w R:=h.calls (fun k d hd=>by simp [Fx] at hd)
theorem WU (F:Fence) (hF:Pl F) (n:Nat) (s:Int) (w:World):CallsIn F n Tryz.prog 124 #[.int .i64 s] w fun e w'=>e = .returned (.int .i64 (Tm.room s:Int))∧w' = w:=by
 obtain ⟨hro,hfn,hdd⟩:=jf hF;have hf:=hfn _ _ Tryz.func124;clear hF hfn;by_cases h2:s = 2
 ·subst h2;refine callsIn_of_wp Tryz.func124 rfl hf ?_ hro;simp only [Tryz.ntmps124,List.size_toArray,List.length_cons,List.length_nil,Nat.reduceAdd,Nat.reduceSub,Array.replicate_succ,Array.replicate_zero,List.push_toArray,List.append_toArray,List.nil_append,List.cons_append];gi_wp2;go_ret;exact ⟨rfl,rfl⟩
 by_cases h3:s = 3
 ·subst h3;refine callsIn_of_wp Tryz.func124 rfl hf ?_ hro;simp only [Tryz.ntmps124,List.size_toArray,List.length_cons,List.length_nil,Nat.reduceAdd,Nat.reduceSub,Array.replicate_succ,Array.replicate_zero,List.push_toArray,List.append_toArray,List.nil_append,List.cons_append];gi_wp2;go_ret;exact ⟨rfl,rfl⟩
 by_cases h4:s = 4
 ·subst h4;refine callsIn_of_wp Tryz.func124 rfl hf ?_ hro;simp only [Tryz.ntmps124,List.size_toArray,List.length_cons,List.length_nil,Nat.reduceAdd,Nat.reduceSub,Array.replicate_succ,Array.replicate_zero,List.push_toArray,List.append_toArray,List.nil_append,List.cons_append];gi_wp2;go_ret;exact ⟨rfl,rfl⟩
 by_cases h5:s = 5
 ·subst h5;refine callsIn_of_wp Tryz.func124 rfl hf ?_ hro;simp only [Tryz.ntmps124,List.size_toArray,List.length_cons,List.length_nil,Nat.reduceAdd,Nat.reduceSub,Array.replicate_succ,Array.replicate_zero,List.push_toArray,List.append_toArray,List.nil_append,List.cons_append];gi_wp2;go_ret;exact ⟨rfl,rfl⟩
 have e:Tm.room s = 0:=by simp [Tm.room,h2,h3,h4,h5]
 have b2:(s == 2) = false:=by simp [h2]
 have b3:(s == 3) = false:=by simp [h3]
 have b4:(s == 4) = false:=by simp [h4]
 have b5:(s == 5) = false:=by simp [h5]
 clear h2 h3 h4 h5;rw [e];clear e;refine callsIn_of_wp Tryz.func124 rfl hf ?_ hro;simp only [Tryz.ntmps124,List.size_toArray,List.length_cons,List.length_nil,Nat.reduceAdd,Nat.reduceSub,Array.replicate_succ,Array.replicate_zero,List.push_toArray,List.append_toArray,List.nil_append,List.cons_append];gi_wp2
 go_ret;exact ⟨rfl,rfl⟩
theorem j6 (F:Fence) (hF:Pl F) (n:Nat) (a:Option Addr) (len cap:Nat) (k:Int) (w:World) :
 CallsIn F n Tryz.prog 101 #[.slice a len cap,.int .i64 k] w fun e w'=>e = .returned (.func (.func 123) #[] #[.pointer (some ⟨w.heap.size+1,0,none⟩),.pointer (some ⟨w.heap.size,0,none⟩)]) ∧
  w' = (w.alloc (.cells #[.slice a len cap] 35)).alloc (.cells #[.int .i64 k] 3):=by
 obtain ⟨hro,hfn,hdd⟩:=jf hF;have hf:=hfn _ _ Tryz.func101;clear hF hfn;refine callsIn_of_wp Tryz.func101 rfl hf ?_ hro;simp only [Tryz.ntmps101,List.size_toArray,List.length_cons,List.length_nil,Nat.reduceAdd,Nat.reduceSub,Array.replicate_succ,Array.replicate_zero,List.push_toArray,List.append_toArray,List.nil_append,List.cons_append];gi_wp2
 go_ret;exact ⟨rfl,rfl⟩
def ni (zs:List Int) (k i:Nat):Array Value:=#[.int .i64 (Tm.pos zs k i:Int),.int .i64 (Tm.pos zs k (i+1):Int)]
def PD (Bk Bt k cap:Nat) (a:Option Addr) (zs:List Int) (W:World):Prop:=W.cell? ⟨Bk,0,none⟩ = some (.int .i64 (k:Int))∧W.cell? ⟨Bt,0,none⟩ = some (.slice a zs.length cap)∧Ints W.heap.size W a zs
def yz (F:Fence) (a:Option Addr) (cap:Nat) (zs:List Int) (k:Nat):Prop :=
 ∀ (n p:Nat) (W:World),k < p→p≤20000→Ints W.heap.size W a zs→CallsIn F n Tryz.prog 69 #[.slice a zs.length cap,.int .i64 (p:Int)] W fun e W'=>e = .returned (.int .i64 (Tm.ai zs p:Int))∧Below W.heap.size W W'
theorem iM (F:Fence) (hF:Pl F) (n Bk Bt k cap:Nat) (a:Option Addr) (zs:List Int) (hlen:zs.length≤5000) (hk:k < zs.length) (hE:yz F a cap zs k) :
 Ej F n Tryz.prog 123 #[.pointer (some ⟨Bk,0,none⟩),.pointer (some ⟨Bt,0,none⟩)] (ni zs k) (Tm.room (zs[k]?.getD 0)) (PD Bk Bt k cap a zs):=by
 intro l J Jx Jp W hJ hR hY h0;obtain ⟨hro,hfn,hdd⟩:=jf hF;have hroom:∀ n W,CallsIn F n Tryz.prog 124 #[.int .i64 (zs[k]?.getD 0)] W fun e w'=>e = .returned (.int .i64 (Tm.room (zs[k]?.getD 0):Int))∧w' = W:=fun n W=>WU F hF n _ W
 clear hF;have Dt:=hfn _ _ Tryz.func123;have aey:=hfn _ _ Tryz.func124;have Li:=hfn _ _ Tryz.func69;have hr2:=Tm.room_le (zs[k]?.getD 0);obtain ⟨hbk,hbt,hI⟩:=hR 0 W h0;obtain ⟨b,off,rfl,hb,hc⟩:=hI.at (by omega);have hck:=hc k hk;have hkl:(k:Int) < (zs.length:Int):=by omega
 have hl5:(zs.length:Int)≤5000:=by omega
 generalize RA:Tm.room (zs[k]?.getD 0) = r at *;clear RA;generalize zs[k]?.getD 0 = s at *;have HY:=hid hY;have HE:=hid hE;have HRm:=hid hroom;have HR:=hid hR;clear hY hE hc hI hroom hR;refine callsIn_of_wp Tryz.func123 rfl Dt ?_ hro;simp only [Tryz.ntmps123,List.size_toArray,List.length_cons,List.length_nil,Nat.reduceAdd,Nat.reduceSub,Array.replicate_succ,Array.replicate_zero,List.push_toArray,List.append_toArray,List.nil_append,List.cons_append];gi_wp2_with ((try refine ⟨hdd _,?_⟩);gi_at_call 124;refine (HRm.out _ _).mono ?_;rintro e W ⟨rfl,rfl⟩)
 gi_loopw [4,13] (fun p i wr=>∃ m:Nat,m≤r∧i = .int .i64 (m:Int)∧p = .int .i64 (Tm.pos zs k m:Int)∧J m wr)
  (fun _ i _=>r - (intOf i).toNat)
 case atStart=>exact ⟨0,Nat.zero_le _,rfl,by rw [Tm.dB];rfl,h0⟩
 case round =>
  obtain ⟨m,hm,rfl,rfl,hJs⟩:=hrel;obtain ⟨_,ae7,hI'⟩:=HR.out m wr hJs;by_cases hlt:m < r
  ·have hlt':(m:Int) < (r:Int):=by omega
   have h1':=(HE.out (n - 1) (Tm.pos zs k m) wr (Tm.jr _ _ _) (by have:=Tm.Rw zs k m;omega) hI').mono (R':=fun e W1=>e = .returned (.int .i64 (Tm.pos zs k (m+1):Int))∧YieldAt F (n - 1) Tryz.prog l #[.int .i64 (Tm.pos zs k m:Int),.int .i64 (Tm.pos zs k (m+1):Int)] W1 fun e W' =>
    (e = .returned (.bool true)∧J (m+1) W')∨(e = .returned (.bool false)∧Jx W')∨∃ ch,e = .panicked ch∧Jp ch W')
    (fun e W1 ⟨he,hB⟩=>⟨by rw [Tm.ed];exact he,by
      have XW:=hJ _ _ _ none hJs (dx hB) (fun r e=>by cases e);refine YieldAt.mono (HY.out m W1 XW hlt) fun e W2 h=>?_
      exact h⟩)
   gi_wp2_with (first
    | ((try refine ⟨hdd _,?_⟩);gi_at_call 69;refine h1'.mono ?_;clear h1';rintro e W1 ⟨rfl,fn,tmps,assign,body,hy,hR⟩)
    | ((try refine ⟨hdd _,?_⟩);refine hR.mono ?_;clear hR;rintro e W2 (⟨rfl,hJ2⟩ | ⟨rfl,hx2⟩ | ⟨ch,rfl,hp2⟩)))
   ·exact ⟨⟨m+1,by omega,by go_num,rfl,hJ2⟩,by simp [intOf];omega⟩
   ·refine bodyPost_ret (results_none rfl _ _ _) rfl ?_
    exact .inl ⟨⟨_,rfl⟩,.inr hx2⟩
   ·exact ⟨rfl,.inr ⟨ch,rfl,hp2⟩⟩
  ·obtain rfl:m = r:=by omega
   have hlt':¬ (m:Int) < (m:Int):=by omega
   gi_wp2
   go_end0
   exact .inl ⟨⟨_,rfl⟩,.inl hJs⟩
end
section
attribute [local go_sem] Oper.semAt_some
theorem K6 (F:Fence) (hF:Pl F) (n:Nat) (a:Option Addr) (len cap k:Nat) (w:World) (hk:len≤k) (hk2:k≤20000) :
 CallsIn F n Tryz.prog 69 #[.slice a len cap,.int .i64 (k:Int)] w fun e w'=>e = .returned (.int .i64 ((k:Int)+1))∧Below w.heap.size w w':=by
 have h1:(len:Int)≤(k:Int):=by omega
 have h2:(k:Int)≤20000:=by omega
 have h3:(0:Int)≤(k:Int):=by omega
 obtain ⟨hro,hfn,hdd⟩:=jf hF;have hf:=hfn _ _ Tryz.func69;clear hF hfn;refine callsIn_of_wp Tryz.func69 rfl hf ?_ hro;simp only [Tryz.ntmps69,List.size_toArray,List.length_cons,List.length_nil,Nat.reduceAdd,Nat.reduceSub,Array.replicate_succ,Array.replicate_zero,List.push_toArray,List.append_toArray,List.nil_append,List.cons_append];gi_wp2
 go_ret;exact ⟨rfl,(Below.refl _ _).alloc (Nat.le_refl _) _⟩
theorem Oi {Bk Bt k cap:Nat} {a:Option Addr} {zs:List Int} {w W:World} (hk:Boxed W Bk 3 (.int .i64 (k:Int))) (ht:Boxed W Bt 35 (.slice a zs.length cap)) (hI:Ints w.heap.size w a zs) (hB:Below w.heap.size w W):PD Bk Bt k cap a zs W :=
 ⟨hk.cell,ht.cell,(hI.below hB).mono hB.size⟩
theorem Q6 (F:Fence) (hF:Pl F) (n:Nat) (a:Option Addr) (cap k:Nat) (zs:List Int) (w:World) (hn:3≤n) (hlen:zs.length≤5000) (hk:k < zs.length) (hI:Ints w.heap.size w a zs) (hE:yz F a cap zs k) :
 CallsIn F n Tryz.prog 69 #[.slice a zs.length cap,.int .i64 (k:Int)] w fun e w'=>e = .returned (.int .i64 (Tm.ai zs k:Int))∧Below w.heap.size w w':=by
 obtain ⟨hro,hfn,hdd⟩:=jf hF;have HF:Hid (Pl F):=hF;have HE:=hid hE;clear hF hE;have Li:=hfn _ _ Tryz.func69;have aeA:=hfn _ _ Tryz.func101;have Dt:=hfn _ _ Tryz.func123;clear hfn;have hlt:(k:Int) < (zs.length:Int):=by omega
 have jD:(zs.length:Int)≤5000:=by omega
 have hk0:(0:Int)≤(k:Int):=by omega
 rw [Tm.nN zs k hk];refine callsIn_of_wp_marks Tryz.func69 rfl Li ?_ hro;simp only [Tryz.ntmps69,List.size_toArray,List.length_cons,List.length_nil,Nat.reduceAdd,Nat.reduceSub,Array.replicate_succ,Array.replicate_zero,List.push_toArray,List.append_toArray,List.nil_append,List.cons_append];gi_wp2_with ((try refine ⟨hdd _,?_⟩);gi_at_call 101;refine (j6 F HF.out _ _ _ _ _ _).mono ?_;rintro e w' ⟨rfl,rfl⟩)
 have bE:=((Boxed.new w 3 (.int .i64 ((k:Int)+1))).alloc (.cells #[.slice a zs.length cap] 35)).alloc (.cells #[.int .i64 (k:Int)] 3);have bT:=(Boxed.new (w.alloc (.cells #[.int .i64 ((k:Int)+1)] 3)) 35 (.slice a zs.length cap)).alloc (.cells #[.int .i64 (k:Int)] 3);have bK:=Boxed.new ((w.alloc (.cells #[.int .i64 ((k:Int)+1)] 3)).alloc (.cells #[.slice a zs.length cap] 35)) 3 (.int .i64 (k:Int));rw [World.size_alloc] at bT;rw [World.size_alloc,World.size_alloc] at bK;have hB0:Below w.heap.size w (((w.alloc (.cells #[.int .i64 ((k:Int)+1)] 3)).alloc (.cells #[.slice a zs.length cap] 35)).alloc (.cells #[.int .i64 (k:Int)] 3)):=(((Below.refl _ w).alloc (Nat.le_refl _) _).alloc (by simp) _).alloc (by simp;omega) _;refine dU hro (by omega) (gf:=123) (lb:=#[.pointer (some ⟨w.heap.size+1+1,0,none⟩),.pointer (some ⟨w.heap.size+1,0,none⟩)]) rfl Dt (enters_of Tryz.func123 (by kernel_rfl) rfl)
  (iM F HF.out _ (w.heap.size+1+1) (w.heap.size+1) k cap a zs hlen hk HE.out) (fun _=>rfl)
  (fun i W=>Boxed W w.heap.size 3 (.int .i64 (Tm.pos zs k i:Int))∧Boxed W (w.heap.size+1+1) 3 (.int .i64 (k:Int))∧Boxed W (w.heap.size+1) 35 (.slice a zs.length cap)∧Below w.heap.size w W)
  (fun _ _=>False) (fun _ _=>False) (.inl fun _ _ h=>h)
  (OwnFrom.and ((boxed_own w.heap.size 3 (fun i=>.int .i64 (Tm.pos zs k i:Int))).from _) (OwnFrom.and ((boxed_own (w.heap.size+1+1) 3 (fun _=>.int .i64 (k:Int))).from _) (OwnFrom.and ((boxed_own (w.heap.size+1) 35 (fun _=>.slice a zs.length cap)).from _) (ownFrom_below (Nat.le_refl _) (by simp;omega)))))
  (fun _ _ _ _ h _ _=>h)
  (fun i W h=>Oi h.2.1 h.2.2.1 hI h.2.2.2)
  ⟨by rw [Tm.dB];exact bE,bK,bT,hB0⟩
  (fun i=>{ tmps:=#[.slice a zs.length cap,.int .i64 (k:Int),undef,undef,.int .i64 0,.pointer (some ⟨w.heap.size,0,none⟩),undef,.int .i64 (Tm.pos zs k (i+1):Int),.int .i64 (k:Int),.int .i64 ((k:Int)+1),.int .i64 (k:Int),.slice a zs.length cap,
    .int .i64 (zs.length:Int),.bool false,undef,.slice a zs.length cap,.int .i64 (k:Int),.func (.func 123) #[] #[.pointer (some ⟨w.heap.size+1+1,0,none⟩),.pointer (some ⟨w.heap.size+1,0,none⟩)],.int .i64 (Tm.pos zs k i:Int),.int .i64 (Tm.pos zs k (i+1):Int),undef,undef],defers:=[] }) ?assign ?body ?done ?stop ?panic
 case assign =>
  intro l i W K hK;simp only [ni];gi_wp2
  exact hK
 case body =>
  rintro l i W ⟨hE,hK,hT,hB⟩ _;have hc:=hE.cell;have hf:=hE.frozen;gi_wp2
  exact ⟨(KeepsOthers.setCell _ _ _).from _,hE.set _,hK.other (by omega) _,hT.other (by omega) _,hB.setCell (p:=⟨w.heap.size,0,none⟩) (Nat.le_refl _) _⟩
 case done =>
  rintro D W hD ⟨hE,_,_,hB⟩ hK;have hc:=hE.cell;gi_wp2
  refine ⟨by simp,.inl ⟨_,_,rfl,run_takeDeferred hK,?_⟩⟩;exact ⟨_,results_tmp rfl _ _ _,by simp [hk],hB.trans (belowK_b (w:=w) (Nat.le_refl _) W D _ _ (by simp at hD;omega) hK rfl rfl)⟩
 case stop=>exact fun _ _ _ _ h=>h.elim
 case panic=>exact fun _ _ _ _ h=>h.elim
end
theorem LM {F:Fence} (hF:Pl F) {n m:Nat} {P:Program} {f:FuncId} {args:Array Value} {w:World} {R:Ending→World→Prop} (h:CallsIn F n P f args w R):CallsIn F m P f args w R :=
 ⟨h.1,fun cs _=>h.2 cs (fun d hd=>by rw [hF.2.2] at hd;cases hd)⟩
theorem yX (F:Fence) (hF:Pl F) (zs:List Int) (hlen:zs.length≤5000) (a:Option Addr) (cap:Nat):∀ (m k n:Nat),zs.length - k≤m→k≤20000→∀ w:World,Ints w.heap.size w a zs →
 CallsIn F n Tryz.prog 69 #[.slice a zs.length cap,.int .i64 (k:Int)] w fun e w'=>e = .returned (.int .i64 (Tm.ai zs k:Int))∧Below w.heap.size w w':=by
 intro m;induction m with
 | zero =>
  intro k n hm hk w hI;rw [Tm.nM zs k (by omega)];exact K6 F hF n a zs.length cap k w (by omega) hk
 | succ m ih =>
  intro k n hm hk w hI;by_cases hlt:k < zs.length
  ·exact LM hF (Q6 F hF 3 a cap k zs w (by omega) hlen hlt hI (fun n p W h1 h2 h3=>ih p n (by omega) h2 W h3))
  ·rw [Tm.nM zs k (by omega)]
   exact K6 F hF n a zs.length cap k w (by omega) hk
theorem jF (F:Fence) (hF:Pl F) (zs:List Int) (hlen:zs.length≤5000) (a:Option Addr) (cap k:Nat):yz F a cap zs k :=
 fun n p W _ h2 h3=>yX F hF zs hlen a cap _ p n (Nat.le_refl _) h2 W h3
end Go.Proofs.YtglohanbpjaieaaGreat
namespace Go.Proofs.YtglohanbpjaieaaGreat
open Go.Proofs Go.RowKit Go.Shelf Go.Maps
section
def Tm.gtB (r:Int→Int):Nat→List Int→List Int→Bool
 | 0,_,_=>false
 | n+1,a,b=>((List.range (Tm.room (Tm.sym a))).any fun m=>decide (Tm.kid a m = b) || Tm.gtB r n (Tm.kid a m) b) ||
  (decide (0≤Tm.sym a) && (decide (0≤Tm.sym b) && (((List.range (Tm.room (Tm.sym b))).all fun m=>Tm.gtB r n a (Tm.kid b m)) && ((decide (Tm.sym a≠Tm.sym b) && decide (r (Tm.sym b) < r (Tm.sym a))) ||
    (decide (Tm.sym a = Tm.sym b) && (List.range (Tm.room (Tm.sym a))).any fun m=>((List.range m).all fun l=>decide (Tm.kid a l = Tm.kid b l)) && Tm.gtB r n (Tm.kid a m) (Tm.kid b m))))))
theorem Tm.WV {r:Int→Int}:∀ (n:Nat) (a b:List Int),a.length+b.length < n→(Tm.gtB r n a b = true ↔ Tm.Gt r a b):=by
 intro n;induction n with
 | zero=>intro a b h;omega
 | succ n ih =>
  intro a b hn;have i1:∀ m,m < Tm.room (Tm.sym a)→(Tm.gtB r n (Tm.kid a m) b = true ↔ Tm.Gt r (Tm.kid a m) b):=fun m hm=>ih _ _ (by have:=Tm.fB hm;omega)
  have i2:∀ m,m < Tm.room (Tm.sym b)→(Tm.gtB r n a (Tm.kid b m) = true ↔ Tm.Gt r a (Tm.kid b m)):=fun m hm=>ih _ _ (by have:=Tm.fB hm;omega)
  have i3:Tm.sym a = Tm.sym b→∀ m,m < Tm.room (Tm.sym a)→(Tm.gtB r n (Tm.kid a m) (Tm.kid b m) = true ↔ Tm.Gt r (Tm.kid a m) (Tm.kid b m)):=fun e m hm=>ih _ _ (by have:=Tm.fB hm;have:=Tm.fB (x:=b) (m:=m) (by rw [← e];exact hm);omega)
  rw [Tm.Gt.iff];simp only [Tm.gtB,Bool.or_eq_true,Bool.and_eq_true,List.any_eq_true,List.all_eq_true,List.mem_range,decide_eq_true_eq];refine or_congr (exists_congr fun m=>and_congr_right fun hm=>or_congr Iff.rfl (i1 m hm)) (and_congr_right fun _=>and_congr_right fun _=>and_congr (forall_congr' fun m=>forall_congr' fun hm=>i2 m hm) (or_congr Iff.rfl (and_congr_right fun e=>exists_congr fun m=>and_congr_right fun hm=>and_congr_right fun _=>i3 e m hm)))
def Tm.above (r:Int→Int) (a b:List Int):Bool:=Tm.gtB r (a.length+b.length+1) a b
theorem Tm.Ci {r:Int→Int} {a b:List Int}:Tm.above r a b = true ↔ Tm.Gt r a b:=Tm.WV _ a b (Nat.lt_succ_self _)
def Tm.lu (rk:List Int) (s:Int):Int:=rk[s.toNat]?.getD 0
def Tm.ab (rk za zb:List Int) (i j:Nat):Bool:=Tm.above (Tm.lu rk) (Tm.part za i) (Tm.part zb j)
def Tm.sm (za zb:List Int) (i j:Nat):Bool:=decide (Tm.part za i = Tm.part zb j)
def Tm.bp (rk za zb:List Int) (i j n:Nat):Bool:=(List.range n).any fun m=>Tm.sm za zb (Tm.pos za i m) j || Tm.ab rk za zb (Tm.pos za i m) j
def Tm.ov (rk za zb:List Int) (i j n:Nat):Bool:=(List.range n).all fun m=>Tm.ab rk za zb i (Tm.pos zb j m)
def Tm.PR (za zb:List Int) (i j n:Nat):Bool:=(List.range n).all fun m=>Tm.sm za zb (Tm.pos za i m) (Tm.pos zb j m)
def Tm.fd (rk za zb:List Int) (i j n:Nat):Bool:=(List.range n).any fun m=>Tm.PR za zb i j m && Tm.ab rk za zb (Tm.pos za i m) (Tm.pos zb j m)
def Tm.sy (rk za zb:List Int) (i j:Nat):Bool :=
 decide (0≤za[i]?.getD 0) && (decide (0≤zb[j]?.getD 0) && (Tm.ov rk za zb i j (Tm.room (zb[j]?.getD 0)) && (if za[i]?.getD 0 = zb[j]?.getD 0 then Tm.fd rk za zb i j (Tm.room (za[i]?.getD 0)) else decide (Tm.lu rk (zb[j]?.getD 0) < Tm.lu rk (za[i]?.getD 0)))))
theorem Tm.Ov (rk za zb:List Int) (i j n:Nat):Tm.bp rk za zb i j (n+1) = (Tm.bp rk za zb i j n || (Tm.sm za zb (Tm.pos za i n) j || Tm.ab rk za zb (Tm.pos za i n) j)):=by simp [Tm.bp,List.range_succ]
theorem Tm.Ox (rk za zb:List Int) (i j n:Nat):Tm.ov rk za zb i j (n+1) = (Tm.ov rk za zb i j n && Tm.ab rk za zb i (Tm.pos zb j n)):=by simp [Tm.ov,List.range_succ]
theorem Tm.yK (za zb:List Int) (i j n:Nat):Tm.PR za zb i j (n+1) = (Tm.PR za zb i j n && Tm.sm za zb (Tm.pos za i n) (Tm.pos zb j n)):=by simp [Tm.PR,List.range_succ]
theorem Tm.PG {rk za zb:List Int} {i j:Nat} (h:Tm.sm za zb i j = true):Tm.ab rk za zb i j = false:=by
 simp only [Tm.sm,decide_eq_true_eq] at h;unfold Tm.ab;rw [h];rw [Bool.eq_false_iff];exact fun e=>Tm.Gt.self _ (Tm.Ci.1 e)
theorem Tm.K7 {za zb:List Int} {i j n m:Nat} (h:m≤n) (hn:Tm.PR za zb i j n = true):Tm.PR za zb i j m = true:=by
 simp only [Tm.PR,List.all_eq_true,List.mem_range] at *;exact fun l hl=>hn l (by omega)
theorem Tm.Oy {rk za zb:List Int} {i j n:Nat} (h:Tm.PR za zb i j n = true):Tm.fd rk za zb i j n = false:=by
 rw [Bool.eq_false_iff];intro e;simp only [Tm.fd,List.any_eq_true,List.mem_range,Bool.and_eq_true] at e;obtain ⟨m,hm,_,ha⟩:=e;have:Tm.sm za zb (Tm.pos za i m) (Tm.pos zb j m) = true:=by
  simp only [Tm.PR,List.all_eq_true,List.mem_range] at h;exact h m hm
 rw [Tm.PG this] at ha;cases ha
theorem Tm.Xh {rk za zb:List Int} {i j n m:Nat} (hm:m < n) (h:Tm.PR za zb i j m = true) (hd:Tm.sm za zb (Tm.pos za i m) (Tm.pos zb j m) = false):Tm.fd rk za zb i j n = Tm.ab rk za zb (Tm.pos za i m) (Tm.pos zb j m):=by
 rw [Bool.eq_iff_iff];constructor
 ·intro e
  simp only [Tm.fd,List.any_eq_true,List.mem_range,Bool.and_eq_true] at e;obtain ⟨l,hl,hs,ha⟩:=e;rcases Nat.lt_trichotomy l m with h1 | h1 | h1
  ·have h2:=Tm.K7 (m:=l+1) (by omega) h
   rw [Tm.yK,Bool.and_eq_true] at h2;rw [Tm.PG h2.2] at ha;cases ha
  ·rw [h1] at ha;exact ha
  ·have h2:=Tm.K7 (m:=m+1) (by omega) hs
   rw [Tm.yK,Bool.and_eq_true,hd] at h2;cases h2.2
 ·intro e
  simp only [Tm.fd,List.any_eq_true,List.mem_range,Bool.and_eq_true];exact ⟨m,hm,h,e⟩
theorem Tm.Xf {rk za zb:List Int} (ha:Tm.err za = 0) (hb:Tm.err zb = 0) {i j:Nat} (hi:i < za.length) (hj:j < zb.length):Tm.ab rk za zb i j = (Tm.bp rk za zb i j (Tm.room (za[i]?.getD 0)) || Tm.sy rk za zb i j):=by
 rw [Bool.eq_iff_iff];have s1:=Tm.jl ha hi;have s2:=Tm.jl hb hj;have k1:=fun m (hm:m < Tm.room (za[i]?.getD 0))=>Tm.K5 ha hi hm
 have k2:=fun m (hm:m < Tm.room (zb[j]?.getD 0))=>Tm.K5 hb hj hm
 have e1:∀ p q,Tm.ab rk za zb p q = true ↔ Tm.Gt (Tm.lu rk) (Tm.part za p) (Tm.part zb q):=fun p q=>Tm.Ci
 rw [e1,Tm.Gt.iff,s1,s2,Bool.or_eq_true];refine or_congr ?_ ?_
 ·simp only [Tm.bp,List.any_eq_true,List.mem_range,Bool.or_eq_true,e1,Tm.sm,decide_eq_true_eq]
  exact exists_congr fun m=>and_congr_right fun hm=>by rw [k1 m hm]
 ·simp only [Tm.sy,Bool.and_eq_true,decide_eq_true_eq]
  refine and_congr_right fun _=>and_congr_right fun _=>and_congr ?_ ?_
  ·simp only [Tm.ov,List.all_eq_true,List.mem_range,e1]
   exact forall_congr' fun m=>forall_congr' fun hm=>by rw [k2 m hm]
  ·by_cases e:za[i]?.getD 0 = zb[j]?.getD 0
   ·rw [if_pos e]
    simp only [Tm.fd,List.any_eq_true,List.mem_range,Bool.and_eq_true,Tm.PR,List.all_eq_true,e1,Tm.sm,decide_eq_true_eq];constructor
    ·rintro (⟨h,_⟩ | ⟨_,m,hm,hl,hk⟩)
     ·exact absurd e h
     ·exact ⟨m,hm,fun l hlm=>by rw [← k1 l (by omega),← k2 l (by rw [← e];omega)];exact hl l hlm,by rw [← k1 m hm,← k2 m (by rw [← e];exact hm)];exact hk⟩
    ·rintro ⟨m,hm,hl,hk⟩
     exact .inr ⟨e,m,hm,fun l hlm=>by rw [k1 l (by omega),k2 l (by rw [← e];omega)];exact hl l hlm,by rw [k1 m hm,k2 m (by rw [← e];exact hm)];exact hk⟩
   ·rw [if_neg e,decide_eq_true_eq]
    constructor
    ·rintro (⟨_,h⟩ | ⟨h,_⟩)
     ·exact h
     ·exact absurd h e
    ·exact fun h=>.inl ⟨e,h⟩
def KMap (K:TypeId) (W:World) (b n:Nat) (M:Value→Option Value):Prop :=
 ∃ D:DataW Value,W.ownsMap Tryz.prog K gD b n D∧∀ (v:Value) (l:Lit),keyOf Tryz.prog K v = some l→Maps.has D l = (M v).isSome∧∀ u,M v = some u→∀ z,D.atKey l z = .held u
theorem KMap.made (K:TypeId) (w:World):KMap K (w.alloc (.map #[] 0)) w.heap.size 0 (fun _=>none) :=
 ⟨_,World.ownsMap_made w _ _ _,fun _ _ _=>⟨rfl,fun _ h=>by cases h⟩⟩
theorem KMap.lt {K:TypeId} {W:World} {b n:Nat} {m:Value→Option Value} (h:KMap K W b n m):b < W.heap.size:=by
 obtain ⟨D,hD,_⟩:=h;exact hD.lt
theorem KMap.keep {K:TypeId} {W W':World} {b n:Nat} {m:Value→Option Value} (h:KMap K W b n m) (hb:W'.heap[b]? = W.heap[b]?):KMap K W' b n m:=by
 obtain ⟨D,⟨es,clock,hes,r⟩,r2⟩:=h;exact ⟨D,⟨es,clock,hb.trans hes,r⟩,r2⟩
theorem KMap.map {K:TypeId} {W:World} {b n:Nat} {m:Value→Option Value} (h:KMap K W b n m):∃ es clock,W.heap[b]? = some (.map es clock):=by
 obtain ⟨D,⟨es,clock,hes,r⟩,r2⟩:=h;exact ⟨es,clock,hes⟩
theorem KMap.look {K:TypeId} (law:Keyed Tryz.prog K) {w:World} {b n:Nat} {M:Value→Option Value} (h:KMap K w b n M) {t e:TypeId} (ht:Tryz.prog.underlying t = some (.map K e)) {z:Value} (hz:(zeroValue e).run Tryz.prog w = .ok z w) {key:Value} {l:Lit} (hkey:keyOf Tryz.prog K key = some l) :
 (Instr.lookup t (.map (some b)) key true).run Tryz.prog w = .ok (.tuple #[(M key).getD z,.bool (M key).isSome]) w:=by
 obtain ⟨D,hD,hh⟩:=h;obtain ⟨h1,h2⟩:=hh key l hkey;have hv:∀ v,gD v = some (D.atKey l (.held z),[])→v = (M key).getD z:=fun v hv=>by
  unfold gD at hv;simp only [Option.some.injEq,Prod.mk.injEq,and_true] at hv;cases hm:M key with
  | none =>
   rw [atKey_none (hD.tidy law).isMap (by rw [h1,hm];rfl)] at hv;simpa using hv
  | some u =>
   rw [h2 u hm] at hv;simpa using hv
 obtain ⟨v,ps,hrun,hR⟩:=hD.look_ok law ht hz (R:=gD) (zd:=.held z) (zp:=[]) rfl hkey;have:ps = []:=by unfold gD at hR;simp at hR;exact hR.2
 subst this;rw [hrun,hv v hR,h1]
theorem KMap.set {K:TypeId} (law:Keyed Tryz.prog K) {w:World} {b n:Nat} {M:Value→Option Value} (h:KMap K w b n M) {t e:TypeId} (ht:Tryz.prog.underlying t = some (.map K e)) (hn:n < maxLen) {key:Value} {l:Lit} (hkey:keyOf Tryz.prog K key = some l) (v:Value) :
 ∃ w' M',(Instr.mapUpdate t (.map (some b)) key v).run Tryz.prog w = .ok () w'∧KMap K w' b (n+1) M'∧M' key = some v∧(∀ x,x≠key→M' x = M x)∧w.grownBy w' (some b):=by
 classical
 obtain ⟨D,hD,hh⟩:=h;obtain ⟨w',hrun,h1,h2⟩:=hD.update (R:=gD) law ht hn hkey (val:=v) (d:=.held v) (ps:=[]) rfl;have hk:WideAt.IsKeyLit l:=law.key hkey;refine ⟨w',fun x=>if x = key then some v else M x,hrun,⟨_,h1,fun x lx hx=>?_⟩,by simp,fun x hx=>by simp [hx],h2⟩;by_cases e:x = key
 ·subst e
  rw [hkey] at hx;cases hx;simp only [if_true];exact ⟨has_put_same (hD.tidy law).isMap hk _,fun u hu z=>by cases hu;exact atKey_put_same (hD.tidy law).isMap hk _ _⟩
 ·have hne:lx≠l:=fun el=>e (law.inj (by rw [el] at hx;exact hx) hkey)
  simp only [e,if_false];exact ⟨by rw [has_put_other hne];exact (hh x lx hx).1,fun u hu z=>by rw [atKey_put_other hne];exact (hh x lx hx).2 u hu z⟩
section
variable (w:World) {ops:Array Oper} {rest:List Oper} {o:Oper} {a:Act} {Q:Exit→Act→World→Prop}
end
theorem K8 {p q:Nat→Bool} {x:Nat} (hp:p x = false) (hq:q x = true) (ho:∀ y,y≠x→q y = p y):∀ N,x < N→(List.range N).countP q = (List.range N).countP p+1:=by
 have key:∀ N,N≤x→(List.range N).countP q = (List.range N).countP p:=by
  intro N hN;refine List.countP_congr fun y hy=>?_
  rw [ho y (by have:=List.mem_range.1 hy;omega)]
 intro N;induction N with
 | zero=>intro h;omega
 | succ N ih =>
  intro h;rw [List.range_succ,List.countP_append,List.countP_append];by_cases e:N = x
  ·subst e;rw [key N (Nat.le_refl _)];simp [hp,hq]
  ·rw [ih (by omega)];simp [ho N e];omega
def pk (i j:Nat):Value:=.agg #[.int .i64 (i:Int),.int .i64 (j:Int)]
theorem Oj {i j k l:Nat} (h:pk i j = pk k l):i = k∧j = l:=by simp [pk] at h;omega
theorem Ol:laidOutB Tryz.prog = true:=by kernel_rfl
theorem GI:(129:TypeId) < Tryz.prog.types.size:=of_decide_eq_true (by kernel_rfl)
theorem Q7:Tryz.prog.keyTypeAt 3 129 = true:=by kernel_rfl
theorem jH:Keyed Tryz.prog 129:=Keyed.of_law (deep_law_laid Ol (m:=3) (by omega) GI Q7 (by rw [Tryz.underlying129]))
theorem Om:Tryz.prog.keyType 129 = true:=by kernel_rfl
theorem K9:Tryz.prog.cellsOf 129 = 2:=by kernel_rfl
theorem Oo:∃ d,Tryz.prog.types.size+1 = d+2:=⟨Tryz.prog.types.size - 1,by have h:0 < Tryz.prog.types.size:=Nat.lt_of_le_of_lt (Nat.zero_le _) GI;omega⟩
theorem intCells:Tryz.prog.cellsOf 3 = 1:=by kernel_rfl
theorem La {n:Nat} (h:n≤100000):(Lit.int .i64 (n:Int)).wf = true:=by
 simp [Lit.wf,IntKind.min,IntKind.max,IntKind.signed,IntKind.bits];omega
theorem aaI {i j:Nat} (hi:i≤100000) (hj:j≤100000):∃ l,keyOf Tryz.prog 129 (pk i j) = some l:=by
 obtain ⟨d,hd⟩:=Oo;have h1:=La hi;have h2:=La hj;unfold keyOf pk;rw [Tryz.underlying129,hd];simp [Om,Value.formed,Tryz.underlying129,K9,Program.keyLits,Value.cells,intCells,Tryz.underlying3,h1,h2]
end
structure Sd where
 (S M br fr cr ba fa ca bb fb cb:Nat)
 (rk za zb:List Int)
def Found (C:Sd) (W:World) (fF:Value→Option Value):Prop:=∃ (n:Nat),KMap 129 W C.M n fF∧(∀ i j v,fF (pk i j) = some v→v = .agg #[.bool (Tm.ab C.rk C.za C.zb i j)])∧n≤(List.range 900).countP fun x=>(fF (pk (x / 30) (x % 30))).isSome
structure fT (C:Sd) (W:World) (fF:Value→Option Value):Prop where
 blk:W.heap[C.S]? = some (.cells #[.slice (some ⟨C.br,C.fr,none⟩) C.rk.length C.cr,.slice (some ⟨C.ba,C.fa,none⟩) C.za.length C.ca,.slice (some ⟨C.bb,C.fb,none⟩) C.zb.length C.cb,.map (some C.M)] 126 (0,0))
 ir:Ints W.heap.size W (some ⟨C.br,C.fr,none⟩) C.rk
 ia:Ints W.heap.size W (some ⟨C.ba,C.fa,none⟩) C.za
 ib:Ints W.heap.size W (some ⟨C.bb,C.fb,none⟩) C.zb
 Lb:Found C W fF
structure Q8 (C:Sd):Prop where
 ea:Tm.err C.za = 0
 eb:Tm.err C.zb = 0
 er:C.rk.length = 6
 ca:C.za.length≤C.ca
 cb:C.zb.length≤C.cb
 ca':C.ca≤maxLen
 cb':C.cb≤maxLen
theorem fT.c0 {C:Sd} {W:World} {fF:Value→Option Value} (h:fT C W fF):W.cell? ⟨C.S,0,none⟩ = some (.slice (some ⟨C.br,C.fr,none⟩) C.rk.length C.cr):=by simp [World.cell?,h.blk]
theorem fT.c1 {C:Sd} {W:World} {fF:Value→Option Value} (h:fT C W fF):W.cell? ⟨C.S,1,none⟩ = some (.slice (some ⟨C.ba,C.fa,none⟩) C.za.length C.ca):=by simp [World.cell?,h.blk]
theorem fT.c2 {C:Sd} {W:World} {fF:Value→Option Value} (h:fT C W fF):W.cell? ⟨C.S,2,none⟩ = some (.slice (some ⟨C.bb,C.fb,none⟩) C.zb.length C.cb):=by simp [World.cell?,h.blk]
theorem fT.c3 {C:Sd} {W:World} {fF:Value→Option Value} (h:fT C W fF):W.cell? ⟨C.S,3,none⟩ = some (.map (some C.M)):=by simp [World.cell?,h.blk]
theorem fT.lt {C:Sd} {W:World} {fF:Value→Option Value} (h:fT C W fF):C.S < W.heap.size:=(Array.getElem?_eq_some_iff.1 h.blk).1
theorem fT.ltM {C:Sd} {W:World} {fF:Value→Option Value} (h:fT C W fF):C.M < W.heap.size:=by
 obtain ⟨n,hK,_⟩:=h.Lb;exact hK.lt
theorem Found.keep {C:Sd} {W W':World} {fF:Value→Option Value} (h:Found C W fF) (hb:W'.heap[C.M]? = W.heap[C.M]?):Found C W' fF:=by
 obtain ⟨n,hK,r⟩:=h;exact ⟨n,hK.keep hb,r⟩
theorem fT.below {C:Sd} {W W':World} {fF:Value→Option Value} (h:fT C W fF) (hB:Below W.heap.size W W'):fT C W' fF :=
 ⟨(hB.block _ h.lt).trans h.blk,(h.ir.below hB).mono hB.size,(h.ia.below hB).mono hB.size,(h.ib.below hB).mono hB.size,h.Lb.keep (hB.block _ h.ltM)⟩
theorem fT.neM {C:Sd} {W:World} {fF:Value→Option Value} (h:fT C W fF):C.S≠C.M:=by
 obtain ⟨n,hK,_⟩:=h.Lb;obtain ⟨es,cl,hm⟩:=hK.map;exact lC h.c0 hm
theorem yA {n m:Nat} {W W':World} {a:Option Addr} {zs:List Int} (h:Ints n W a zs) (hK:aW n m W W') {es:Array MapEntry} {cl:Nat} (hm:W.heap[m]? = some (Obj.map es cl)):Ints n W' a zs:=fun j hj=>by
 obtain ⟨b,off,e,hb,hc⟩:=h j hj;exact ⟨b,off,e,hb,(hK.cell (p:=⟨b,off+j,none⟩) hb (lC hc hm)).trans hc⟩
theorem fT.keep {C:Sd} {W W':World} {fF gY:Value→Option Value} (h:fT C W fF) (hK:aW W.heap.size C.M W W') (hf:Found C W' gY):fT C W' gY:=by
 obtain ⟨n,WW,_⟩:=h.Lb;obtain ⟨es,cl,hm⟩:=WW.map;exact ⟨(hK.block _ h.lt h.neM).trans h.blk,(yA h.ir hK hm).mono hK.size,(yA h.ia hK hm).mono hK.size,(yA h.ib hK hm).mono hK.size,hf⟩
theorem Found.note {C:Sd} {W':World} {fF gY:Value→Option Value} {n i j:Nat} (hi:i < 30) (hj:j < 30) (htb:∀ i j v,fF (pk i j) = some v→v = .agg #[.bool (Tm.ab C.rk C.za C.zb i j)]) (hn:n≤(List.range 900).countP fun x=>(fF (pk (x / 30) (x % 30))).isSome) (h0:fF (pk i j) = none)
 (hK:KMap 129 W' C.M (n+1) gY) (h1:gY (pk i j) = some (.agg #[.bool (Tm.ab C.rk C.za C.zb i j)])) (h2:∀ x,x≠pk i j→gY x = fF x):Found C W' gY:=by
 refine ⟨n+1,hK,fun k l v hv=>?_,?_⟩
 ·by_cases e:pk k l = pk i j
  ·obtain ⟨rfl,rfl⟩:=Oj e
   rw [h1] at hv;cases hv;rfl
  ·rw [h2 _ e] at hv;exact htb k l v hv
 ·rw [K8 (p:=fun x=>(fF (pk (x / 30) (x % 30))).isSome) (q:=fun x=>(gY (pk (x / 30) (x % 30))).isSome) (x:=i * 30+j) ?_ ?_ ?_ 900 (by omega)]
  ·omega
  ·rw [show (i * 30+j) / 30 = i from by omega,show (i * 30+j) % 30 = j from by omega,h0];rfl
  ·rw [show (i * 30+j) / 30 = i from by omega,show (i * 30+j) % 30 = j from by omega,h1];rfl
  ·intro y hy
   have:pk (y / 30) (y % 30)≠pk i j:=fun e=>by
    obtain ⟨e1,e2⟩:=Oj e;exact hy (by omega)
   simp only [h2 _ this]
theorem Found.small {n:Nat} {fF:Value→Option Value} (hn:n≤(List.range 900).countP fun x=>(fF (pk (x / 30) (x % 30))).isSome):n≤900:=by
 have:=List.countP_le_length (p:=fun x=>(fF (pk (x / 30) (x % 30))).isSome) (l:=List.range 900)
 rw [List.length_range] at this;omega
def Fe (C:Sd) (q:Bool) (dom:Nat→Nat→Prop) (fF:Value→Option Value) (w:World) (e:Ending) (w':World):Prop :=
 e = .returned (.bool q)∧aW w.heap.size C.M w w'∧∃ gY,fT C w' gY∧∀ i j,dom i j→gY (pk i j) = fF (pk i j)
def jZ (C:Sd) (f:Nat) (i j:Nat) (q:Bool) (dom:Nat→Nat→Prop):Prop :=
 ∀ (W:World) (fF:Value→Option Value),fT C W fF→Calls Tryz.prog f #[.pointer (some ⟨C.S,0,none⟩),.agg #[.int .i64 (i:Int),.int .i64 (j:Int)]] W (Fe C q dom fF W)
section
attribute [local go_sem ↓] Go.wp_at_zero Go.wp_at_succ
theorem rZ (C:Sd) (O:Q8 C) (i j:Nat) (hi:i < C.za.length) (hj:j < C.zb.length) (w:World) (fF:Value→Option Value) (H:fT C w fF) :
 Calls Tryz.prog 130 #[.pointer (some ⟨C.S,0,none⟩),pk i j] w fun e w'=>e = .returned (.bool (Tm.sm C.za C.zb i j))∧Below w.heap.size w w':=by
 have hB0:Below w.heap.size w (w.alloc (.cells #[.int .i64 (i:Int),.int .i64 (j:Int)] 129)):=(Below.refl _ w).alloc (Nat.le_refl _) _;have H1:=H.below hB0;obtain ⟨w1,hw1⟩:∃ w1,w.alloc (.cells #[.int .i64 (i:Int),.int .i64 (j:Int)] 129) = w1:=⟨_,rfl⟩;have hblk:w1.heap[w.heap.size]? = some (.cells #[.int .i64 (i:Int),.int .i64 (j:Int)] 129 (0,0)):=by rw [← hw1];exact World.alloc_heap_new w _
 have HW:=hid hw1;rw [hw1] at hB0 H1;clear hw1;have d0:w1.cell? ⟨w.heap.size,0,none⟩ = some (.int .i64 (i:Int)):=by simp [World.cell?,hblk]
 have d1:w1.cell? ⟨w.heap.size,1,none⟩ = some (.int .i64 (j:Int)):=by simp [World.cell?,hblk]
 have hlt:w.heap.size < w1.heap.size:=(Array.getElem?_eq_some_iff.1 hblk).1;have c1:=H1.c1;have c2:=H1.c2;have hS:=hid (fun w' (hB:Below w1.heap.size w1 w')=>(show w'.cell? ⟨C.S,1,none⟩ = some (.slice (some ⟨C.ba,C.fa,none⟩) C.za.length C.ca)∧w'.cell? ⟨C.S,2,none⟩ = some (.slice (some ⟨C.bb,C.fb,none⟩) C.zb.length C.cb)∧w'.cell? ⟨w.heap.size,0,none⟩ = some (.int .i64 (i:Int))∧w'.cell? ⟨w.heap.size,1,none⟩ = some (.int .i64 (j:Int)) from
  ⟨(hB.cell H1.lt).trans c1,(hB.cell H1.lt).trans c2,(hB.cell hlt).trans d0,(hB.cell hlt).trans d1⟩))
 have la:=Tm.aI O.ea;have lb:=Tm.aI O.eb;have ea:=Tm.fV O.ea hi;have eb:=Tm.fV O.eb hj;have ga:=Tm.dw C.za i;have gb:=Tm.dw C.zb j;have Ea:=hid (fun w' (hB:Below w1.heap.size w1 w')=>qV C.za la (some ⟨C.ba,C.fa,none⟩) C.ca i (by omega) w' (H1.below hB).ia);have Eb:=hid (fun w' (hB:Below w1.heap.size w1 w')=>qV C.zb lb (some ⟨C.bb,C.fb,none⟩) C.cb j (by omega) w' (H1.below hB).ib);have pla:=Tm.dF O.ea hi;have plb:=Tm.dF O.eb hj;have Eq:=hid (fun w' (hB:Below w1.heap.size w1 w')=>BZ (Tm.part C.za i) (Tm.part C.zb j) (some ⟨C.ba,C.fa+i,none⟩) (some ⟨C.bb,C.fb+j,none⟩) (C.ca - i) (C.cb - j) w' ((H1.below hB).ia.sub i _) ((H1.below hB).ib.sub j _) (by unfold maxLen;omega));rw [pla,plb] at Eq;have Db:=O.ca;have hcb:=O.cb;have DD:=O.ca';have DF:=O.cb';unfold maxLen at DD DF;have q1:(Tm.ai C.za i:Int)≤(C.ca:Int):=by omega
 have q2:(Tm.ai C.zb j:Int)≤(C.cb:Int):=by omega
 have q3:(i:Int)≤(Tm.ai C.za i:Int):=by omega
 have q4:(j:Int)≤(Tm.ai C.zb j:Int):=by omega
 have na:C.ca≠i:=by omega
 have nb:C.cb≠j:=by omega
 have Hq:Hid (dK (Tm.part C.za i) (Tm.part C.zb j) = Tm.sm C.za C.zb i j):=rfl;rw [Hq.out] at Eq;generalize Tm.sm C.za C.zb i j = q at *;generalize Tm.ai C.za i = p1 at *;generalize Tm.ai C.zb j = p2 at *;have HB0:=hid hB0;clear H H1 O c1 c2 d0 d1 pla plb hblk hB0 Hq;unfold pk;go_enter Tryz.func130,Tryz.ntmps130;go_wp2_with fail;rw [HW.out];have hS0:=hS.out _ (Below.refl _ w1);go_region_held3 (fun w'=>w'.cell? ⟨C.S,1,none⟩ = some (.slice (some ⟨C.ba,C.fa,none⟩) C.za.length C.ca)∧w'.cell? ⟨C.S,2,none⟩ = some (.slice (some ⟨C.bb,C.fb,none⟩) C.zb.length C.cb)∧w'.cell? ⟨w.heap.size,0,none⟩ = some (.int .i64 (i:Int))∧w'.cell? ⟨w.heap.size,1,none⟩ = some (.int .i64 (j:Int))) (first | assumption | exact hS0) (first
  | (go_at_call_of 69 (Value.slice (some ⟨C.ba,C.fa,none⟩) C.za.length C.ca);refine (Ea.out _ (below_drewN (Below.refl _ w1) 1)).mono ?_;rintro e w2 ⟨rfl,hB1⟩;have hB2:Below w1.heap.size w1 w2:=(below_drewN (Below.refl _ w1) 1).trans (hB1.mono (by exact Nat.le_refl _));have hS1:=hS.out _ hB2)
  | (go_at_call_of 69 (Value.slice (some ⟨C.bb,C.fb,none⟩) C.zb.length C.cb);refine (Eb.out _ hB2).mono ?_;rintro e w3 ⟨rfl,hB3⟩;have hB4:Below w1.heap.size w1 w3:=hB2.trans (hB3.mono hB2.size);have hS2:=hS.out _ hB4)
  | (go_at_call 31;refine (Eq.out _ hB4).mono ?_;rintro e w4 ⟨rfl,gq⟩;have Jo:Below w1.heap.size w1 w4:=hB4.trans (gq.mono hB4.size);have Dc:=hS.out _ Jo))
 all_goals (
  go_wp2;go_ret;exact ⟨rfl,HB0.out.trans (Jo.mono HB0.out.size)⟩)
end
end Go.Proofs.YtglohanbpjaieaaGreat
