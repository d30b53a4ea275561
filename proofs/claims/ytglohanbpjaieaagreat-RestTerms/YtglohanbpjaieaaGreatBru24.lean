/-
  Parts of the proof: Prs11, Clo7, Clo13a, Clo18, Long, Put3, Prs12, Met1.
-/
import Derived.Test.YtglohanbpjaieaaGreatBru23
set_option maxHeartbeats 4000000
set_option maxRecDepth 100000
namespace Go.Proofs.YtglohanbpjaieaaGreat
open Go.Proofs Go.RowKit Go.Shelf Go.Maps
namespace Sn
theorem YM:∀ (n:Nat) (l:List Int),l.Nodup→(∀ x∈l,-(n:Int)≤x∧x < 0)→l.length≤n:=by
 intro n;induction n with
 | zero =>
  intro l _ h;cases l with
  | nil=>simp
  | cons x l=>have:=h x (by simp);omega
 | succ n ih =>
  intro l hn h;by_cases hm:-((n:Int)+1)∈l
  ·have h1:=ih (l.erase (-((n:Int)+1))) (hn.erase _) (fun x hx=>by
    have h2:=(hn.mem_erase_iff).1 hx;have h3:=h x h2.2;have h4:=h2.1;omega)
   rw [List.length_erase_of_mem hm] at h1;omega
  ·have h1:=ih l hn (fun x hx=>by
    have h3:=h x hx;refine ⟨?_,h3.2⟩;by_cases e:x = -((n:Int)+1)
    ·subst e;exact absurd hx hm
    ·omega)
   omega
theorem oz (seen:List Int) (s:Int):(0≤s∧Tm.see seen s = seen)∨(s < 0∧seen.contains s = true∧Tm.see seen s = seen)∨(s < 0∧seen.contains s = false∧Tm.see seen s = seen++[s]):=by
 unfold Tm.see;by_cases hs:s < 0
 ·rw [if_pos hs]
  cases hc:seen.contains s with
  | true=>exact .inr (.inl ⟨hs,rfl,by rw [if_pos rfl]⟩)
  | false=>exact .inr (.inr ⟨hs,rfl,by rw [if_neg (by simp)]⟩)
 ·rw [if_neg hs];exact .inl ⟨by omega,rfl⟩
theorem O1 (seen:List Int) (s:Int):∃ r,Tm.see seen s = seen++r:=by
 rcases oz seen s with ⟨_,h⟩ | ⟨_,_,h⟩ | ⟨_,_,h⟩
 ·exact ⟨[],by rw [h,List.append_nil]⟩
 ·exact ⟨[],by rw [h,List.append_nil]⟩
 ·exact ⟨[s],h⟩
theorem BR (seen:List Int) (s:Int) (l:List Int):Tm.aT seen (s :: l) = Tm.aT (Tm.see seen s) l:=rfl
theorem seen_app (seen l r:List Int):Tm.aT seen (l++r) = Tm.aT (Tm.aT seen l) r:=by simp [Tm.aT,List.foldl_append]
theorem EA:∀ (t seen:List Int),∃ r,Tm.aT seen t = seen++r:=by
 intro t;induction t with
 | nil=>intro seen;exact ⟨[],by rw [List.append_nil];rfl⟩
 | cons s l ih =>
  intro seen;obtain ⟨r1,h1⟩:=O1 seen s;obtain ⟨r2,h2⟩:=ih (Tm.see seen s);exact ⟨r1++r2,by rw [BR,h2,h1,List.append_assoc]⟩
theorem O3 (seen:List Int) {s:Int} (hs:s < 0):(Tm.see seen s).contains s = true:=by
 rcases oz seen s with ⟨h,_⟩ | ⟨_,h,e⟩ | ⟨_,_,e⟩
 ·omega
 ·rw [e];exact h
 ·rw [e];simp
theorem BS {seen:List Int} (h:seen.Nodup) (s:Int):(Tm.see seen s).Nodup:=by
 rcases oz seen s with ⟨_,e⟩ | ⟨_,_,e⟩ | ⟨_,hc,e⟩
 ·rw [e];exact h
 ·rw [e];exact h
 ·rw [e]
  have hn:¬ s∈seen:=by simpa using hc
  rw [List.nodup_append];exact ⟨h,by simp,fun a ha b hb=>by simp at hb;subst hb;rintro rfl;exact hn ha⟩
theorem pz:∀ (t seen:List Int),seen.Nodup→(Tm.aT seen t).Nodup:=by
 intro t;induction t with
 | nil=>intro seen h;exact h
 | cons s l ih=>intro seen h;exact ih _ (BS h s)
theorem VR {seen:List Int} (h:∀ x∈seen,-8≤x∧x < 0) {s:Int} (h8:-8≤s):∀ x∈Tm.see seen s,-8≤x∧x < 0:=by
 rcases oz seen s with ⟨_,e⟩ | ⟨_,_,e⟩ | ⟨hs,_,e⟩
 ·rw [e];exact h
 ·rw [e];exact h
 ·rw [e]
  intro x hx;rw [List.mem_append] at hx;rcases hx with hx | hx
  ·exact h x hx
  ·simp at hx;subst hx;exact ⟨h8,hs⟩
theorem Km:∀ (t seen:List Int),t.all Tm.known = true→(∀ x∈seen,-8≤x∧x < 0)→∀ x∈Tm.aT seen t,-8≤x∧x < 0:=by
 intro t;induction t with
 | nil=>intro seen _ h;exact h
 | cons s l ih =>
  intro seen hk h;rw [List.all_cons,Bool.and_eq_true] at hk;exact ih _ hk.2 (VR h (Tm.iK hk.1))
theorem YN {seen:List Int} {s:Int} (h:seen.contains s = true):Tm.idx seen s < seen.length:=by
 unfold Tm.idx;rw [List.findIdx_lt_length];exact ⟨s,by simpa using h,by simp⟩
theorem TC {seen:List Int} {s:Int} (h:seen.contains s = false):Tm.idx (seen++[s]) s = seen.length:=by
 unfold Tm.idx;rw [List.findIdx_append,if_neg]
 ·simp
 ·rw [List.findIdx_lt_length]
  rintro ⟨y,hy,e⟩;have e':y = s:=by simpa using e
  subst e';have:¬ y∈seen:=by simpa using h
  exact this hy
def ren (S:List Int) (s:Int):Int:=if s < 0 then -1 - (Tm.idx S s:Int) else s
theorem TD (seen r:List Int) (s:Int):Tm.name seen s = ren (Tm.see seen s++r) s:=by
 unfold Tm.name ren;by_cases hs:s < 0
 ·rw [if_pos hs,if_pos hs,Tm.O0 (O3 seen hs)]
  rcases oz seen s with ⟨h,_⟩ | ⟨_,_,e⟩ | ⟨_,hc,e⟩
  ·omega
  ·rw [e]
  ·rw [e,TC hc,Tm.II hc]
 ·rw [if_neg hs,if_neg hs]
theorem oC (t seen r:List Int):Tm.eU seen t t.length = t.map (ren (Tm.aT seen t++r)):=by
 refine List.ext_getElem (by simp [Tm.bH]) fun i h1 h2=>?_
 rw [Tm.bH] at h1;have hl:(Tm.eU seen t t.length)[i]'(by rw [Tm.bH];exact h1) = Tm.name (Tm.aT seen (t.take i)) t[i]:=by simp [Tm.eU,h1]
 rw [List.getElem_map,hl];have hd:t = t.take i++(t[i] :: t.drop (i+1)):=by rw [← List.drop_eq_getElem_cons h1,List.take_append_drop]
 obtain ⟨r',hr'⟩:=EA (t.drop (i+1)) (Tm.see (Tm.aT seen (t.take i)) t[i]);have hS:Tm.aT seen t++r = Tm.see (Tm.aT seen (t.take i)) t[i]++(r'++r):=by
  conv=>lhs;rw [hd]
  rw [seen_app,BR,hr',List.append_assoc]
 have hf:=TD (Tm.aT seen (t.take i)) (r'++r) t[i];rw [← hS] at hf;exact hf
def IP (S:List Int):List (List Int):=(List.range 8).map fun i:Nat=>if S.contains (-1 - (i:Int)) = true then [-1 - (Tm.idx S (-1 - (i:Int)):Int)] else [-1]
theorem O4 (S:List Int) {i:Nat} (h:i < 8):(IP S)[i]?.getD [] = if S.contains (-1 - (i:Int)) = true then [-1 - (Tm.idx S (-1 - (i:Int)):Int)] else [-1]:=by
 unfold IP;rw [List.getElem?_map,List.getElem?_range h];rfl
theorem Dj {v:Int} (h1:-8≤v) (h2:v < 0):Tm.err [v] = 0:=by
 refine Tm.oJ (by simp) (by simp only [List.all_cons,List.all_nil,Bool.and_true];exact Tm.zf h1 (by omega)) ?_;rw [show (1:Nat) = 0+1 from rfl,Tm.bU,Wb.gM h2,Tm.cZ];rfl
theorem TE {S:List Int} (h8:S.length≤8):Tm.dO (IP S) = 0:=by
 unfold Tm.dO;rw [if_pos (by simp [IP])];refine Tm.Co fun i hi=>?_
 have hi8:i < 8:=by simpa [IP] using hi
 rw [O4 S hi8];by_cases hc:S.contains (-1 - (i:Int)) = true
 ·rw [if_pos hc]
  have:=YN hc
  exact Dj (by omega) (by omega)
 ·rw [if_neg hc];exact Dj (by omega) (by omega)
theorem Cs {S:List Int}:∀ (t:List Int),t.all Tm.known = true→(∀ s∈t,s < 0→S.contains s = true)→Tm.applied (IP S) t = t.map (ren S):=by
 intro t;induction t with
 | nil=>intro _ _;rfl
 | cons s l ih =>
  intro hk hm;rw [List.all_cons,Bool.and_eq_true] at hk;rw [Tm.fK,ih hk.2 (fun x hx=>hm x (by simp [hx])),List.map_cons];have h8:=Tm.iK hk.1;have:Tm.piece (IP S) s = [ren S s]:=by
   unfold Tm.piece ren;by_cases hs:s < 0
   ·rw [if_pos hs,if_pos hs,O4 S (by omega),show -1 - (((-1 - s).toNat:Nat):Int) = s from by omega,if_pos (hm s (by simp) hs)]
   ·rw [if_neg hs,if_neg hs]
  rw [this];rfl
theorem EB:∀ (t seen:List Int) (s:Int),s < 0→(s∈t∨seen.contains s = true)→(Tm.aT seen t).contains s = true:=by
 intro t;induction t with
 | nil =>
  intro seen s _ h;rcases h with h | h
  ·simp at h
  ·exact h
 | cons x l ih =>
  intro seen s hs h;rw [BR];refine ih _ s hs ?_;rcases h with h | h
  ·rcases List.mem_cons.1 h with rfl | h
   ·exact .inr (O3 seen hs)
   ·exact .inl h
  ·obtain ⟨r,e⟩:=O1 seen x
   rw [e];right;simp at h ⊢;exact .inl h
end Sn
theorem Tm.BU {X Y:List Int} (eX:Tm.err X = 0) (eY:Tm.err Y = 0):∃ ss,Tm.dO ss = 0∧Tm.plain X = Tm.applied ss X∧Tm.fu X Y = Tm.applied ss Y∧Tm.err (Tm.plain X) = 0∧Tm.err (Tm.fu X Y) = 0:=by
 have kX:=Tm.dH eX;have kY:=Tm.dH eY;have hneg:∀ x∈Tm.aT (Tm.aT [] X) Y,-8≤x∧x < 0:=Sn.Km Y _ kY (Sn.Km X [] kX (fun x hx=>by simp at hx));have hnd:(Tm.aT (Tm.aT [] X) Y).Nodup:=Sn.pz Y _ (Sn.pz X [] List.nodup_nil);have h8:=Sn.YM 8 _ hnd hneg;have hss:=Sn.TE h8;obtain ⟨r,hr⟩:=Sn.EA Y (Tm.aT [] X);have pX:Tm.plain X = Tm.applied (Sn.IP (Tm.aT (Tm.aT [] X) Y)) X:=by
  rw [Sn.Cs X kX (fun s hs h=>Sn.EB Y _ s h (.inr (Sn.EB X [] s h (.inl hs))))];have:=Sn.oC X [] r
  rw [← hr] at this;exact this
 have pY:Tm.fu X Y = Tm.applied (Sn.IP (Tm.aT (Tm.aT [] X) Y)) Y:=by
  rw [Sn.Cs Y kY (fun s hs h=>Sn.EB Y _ s h (.inl hs))];have:=Sn.oC Y (Tm.aT [] X) []
  rw [List.append_nil] at this;exact this
 refine ⟨_,hss,pX,pY,?_,?_⟩
 ·rw [pX]
  refine Tm.kQ (Terms.of hss) eX ?_;rw [← pX];show (Tm.eU [] X X.length).length≤30;rw [Tm.bH];exact Tm.aI eX
 ·rw [pY]
  refine Tm.kQ (Terms.of hss) eY ?_;rw [← pY];show (Tm.eU (Tm.aT [] X) Y Y.length).length≤30;rw [Tm.bH];exact Tm.aI eY
theorem Tm.ky {rs:aH} {t:List Int} (h:(Tm.form rs t).2.2 = 0):Tm.err (Tm.form rs t).1 = 0:=by
 obtain ⟨n,_,hr,_⟩:=Tm.Qt h;exact (Tm.jQ (Tm.TA hr).1).2.1
theorem Tm.Ct {rs:aH} {P Q:List Int} (h:Tm.dM rs P Q = 0):(Tm.form rs P).2.2 = 0∧(Tm.form rs Q).2.2 = 0:=by
 unfold Tm.dM at h;by_cases h1:(Tm.form rs P).2.2 = 0
 ·rw [if_pos h1] at h;exact ⟨h1,h⟩
 ·rw [if_neg h1] at h;exact absurd h h1
def Tm.fw (rk:List Int) (rs:aH) (ps:ah) (er:Int) (rs':aH) (ps':ah):Prop :=
 (Tm.iB rk rs ps≠0∧er = Tm.iB rk rs ps∧rs' = []∧ps' = []) ∨
 (Tm.iB rk rs ps = 0∧∃ p l,ps = p :: l ∧
   ((Tm.dM rs p.1 p.2≠0∧er = Tm.dM rs p.1 p.2∧rs' = []∧ps' = []) ∨
    (Tm.dM rs p.1 p.2 = 0∧(Tm.form rs p.1).1 = (Tm.form rs p.2).1∧er = 0∧rs' = rs∧ps' = l) ∨
    (Tm.dM rs p.1 p.2 = 0∧(Tm.form rs p.1).1≠(Tm.form rs p.2).1∧(Tm.dir rk (Tm.form rs p.1).1 (Tm.form rs p.2).1).1≠0∧er = (Tm.dir rk (Tm.form rs p.1).1 (Tm.form rs p.2).1).1∧rs' = []∧ps' = []) ∨
    (Tm.dM rs p.1 p.2 = 0∧(Tm.form rs p.1).1≠(Tm.form rs p.2).1∧(Tm.dir rk (Tm.form rs p.1).1 (Tm.form rs p.2).1).1 = 0∧Tm.gW rs l (Tm.dir rk (Tm.form rs p.1).1 (Tm.form rs p.2).1).2.1 (Tm.dir rk (Tm.form rs p.1).1 (Tm.form rs p.2).1).2.2 er rs' ps')))
theorem Tm.pE {rk:List Int} {rs:aH} {ps:ah} (h:Tm.iB rk rs ps = 0):Tm.aZ rk = 0∧ps.length≤40∧Tm.firstPair ps = 0∧Tm.aO rs = 0∧Tm.dD rk rs = 0∧Tm.dJ rk rs = true∧0 < ps.length:=by
 unfold Tm.iB at h;by_cases h1:Tm.jo rk ps = 0
 ·rw [if_pos h1] at h
  by_cases h2:Tm.dD rk rs = 0
  ·rw [if_pos h2] at h
   by_cases h3:Tm.dJ rk rs = true
   ·rw [if_pos h3] at h
    by_cases h4:ps.length = 0
    ·rw [if_pos h4] at h;cases h
    ·unfold Tm.jo at h1
     by_cases h5:Tm.aZ rk = 0
     ·rw [if_pos h5] at h1
      unfold Tm.gU at h1;by_cases h6:40 < ps.length
      ·rw [if_pos h6] at h1;cases h1
      ·rw [if_neg h6] at h1
       have h7:=h2;unfold Tm.dD at h7;rw [if_pos h5] at h7;exact ⟨h5,by omega,h1,h7,h2,h3,by omega⟩
     ·rw [if_neg h5] at h1;exact absurd h1 h5
   ·rw [if_neg h3] at h;cases h
  ·rw [if_neg h2] at h;exact absurd h h2
 ·rw [if_neg h1] at h;exact absurd h h1
theorem Tm.BV {rk P Q:List Int} (eP:Tm.err P = 0) (eQ:Tm.err Q = 0) (h:(Tm.dir rk P Q).1 = 0):Tm.err (Tm.dir rk P Q).2.1 = 0∧Tm.err (Tm.dir rk P Q).2.2 = 0:=by
 have key:∀ {A B:List Int},Tm.err A = 0→Tm.err B = 0→Tm.jG A = 0→Tm.err (Tm.lU A B).1 = 0∧Tm.err (Tm.lU A B).2 = 0:=fun {A B} hA hB h0=>by
  obtain ⟨_,_,_,_,h1,h2⟩:=Tm.BU hA hB;unfold Tm.lU;rw [if_pos h0];exact ⟨h1,h2⟩
 unfold Tm.dir at h ⊢;by_cases h1:Tm.bg rk P Q = true
 ·rw [if_pos h1] at h ⊢;exact key eP eQ h
 ·rw [if_neg h1] at h ⊢
  by_cases h2:Tm.bg rk Q P = true
  ·rw [if_pos h2] at h ⊢;exact key eQ eP h
  ·rw [if_neg h2] at h;cases h
theorem aJ.tail {n:Nat} {W:World} {b off:Nat} {p:List Int × List Int} {l:ah} (h:aJ n W (some ⟨b,off,none⟩) (p :: l)):aJ n W (some ⟨b,off+2,none⟩) l:=fun k hk=>by
 obtain ⟨b',off',e,hb,aL,cL,aR,cR,h1,h2,r⟩:=h (k+1) (by simpa using hk);cases e;rw [List.getElem?_cons_succ] at h1 h2 r;exact ⟨b,off+2,rfl,hb,aL,cL,aR,cR,by rw [show off+2+k * 2 = off+(k+1) * 2 by omega];exact h1,by rw [show off+2+k * 2+1 = off+(k+1) * 2+1 by omega];exact h2,r⟩
theorem Ko (rk:List Int) (rs:aH) (ps:ah) (ar al a:Option Addr) (cr cl cap:Nat) (w:World) (hR:Ints w.heap.size w ar rk) (hL:aJ w.heap.size w al rs) (hP:aJ w.heap.size w a ps) (hc1:ps.length≤cap) (hc2:cap≤maxLen) :
  Calls Tryz.prog 6 #[.slice ar rk.length cr,.slice al rs.length cl,.slice a ps.length cap] w fun e w'=>∃ er rs' ps' v u,Tm.fw rk rs ps er rs' ps'∧e = .returned (.tuple #[v,u,.int .i64 er])∧aU false 54 w.heap.size w.heap.size w' v rs'∧aU false 40 w.heap.size w.heap.size w' u ps'∧Below w.heap.size w w':=by
 have hC:=hid (FH rk rs ps ar al a cr cl cap w hR hL hP (by omega));by_cases ht:Tm.iB rk rs ps = 0
 ·obtain ⟨k1,k2,k3,k4,k5,k6,k7⟩:=Tm.pE ht
  cases ps with
  | nil=>simp at k7
  | cons p l =>
   have hS:Hid (∀ er rs' ps',((Tm.dM rs p.1 p.2≠0∧er = Tm.dM rs p.1 p.2∧rs' = []∧ps' = []) ∨
   (Tm.dM rs p.1 p.2 = 0∧(Tm.form rs p.1).1 = (Tm.form rs p.2).1∧er = 0∧rs' = rs∧ps' = l) ∨
   (Tm.dM rs p.1 p.2 = 0∧(Tm.form rs p.1).1≠(Tm.form rs p.2).1∧(Tm.dir rk (Tm.form rs p.1).1 (Tm.form rs p.2).1).1≠0∧er = (Tm.dir rk (Tm.form rs p.1).1 (Tm.form rs p.2).1).1∧rs' = []∧ps' = []) ∨
   (Tm.dM rs p.1 p.2 = 0∧(Tm.form rs p.1).1≠(Tm.form rs p.2).1∧(Tm.dir rk (Tm.form rs p.1).1 (Tm.form rs p.2).1).1 = 0∧Tm.gW rs l (Tm.dir rk (Tm.form rs p.1).1 (Tm.form rs p.2).1).2.1 (Tm.dir rk (Tm.form rs p.1).1 (Tm.form rs p.2).1).2.2 er rs' ps'))→Tm.fw rk rs (p :: l) er rs' ps'):=fun er rs' ps' h=>.inr ⟨ht,p,l,rfl,h⟩
   rw [ht] at hC;have YO:=Tm.nC k3;obtain ⟨h8,hall⟩:=Tm.di k4;have hel:=hid (fun k (hk:k < l.length)=>(show Tm.err (l[k]?.getD ([],[])).1 = 0∧Tm.err (l[k]?.getD ([],[])).2 = 0 by have:=YO (k+1) (by simpa using hk);rwa [List.getElem?_cons_succ] at this));have her:=hid (fun k (hk:k < rs.length)=>(show Tm.err (rs[k]?.getD ([],[])).1 = 0∧Tm.err (rs[k]?.getD ([],[])).2 = 0 from ⟨(Tm.bI (hall k hk)).1,(Tm.bI (hall k hk)).2.1⟩));have afA:l.length≤39:=by simp at k2;omega
   obtain ⟨b,off,rfl,hb,aP,cP,aQ,cQ,g1,g2,g3,g4,g5,g6,g7,g8⟩:=hP 0 (by simp);rw [Nat.zero_mul,Nat.add_zero] at g1 g2;simp only [List.getElem?_cons_zero,Option.getD_some] at g1 g2 g3 g4 g5 g7;have hF:=hid (fun W (hW:Below w.heap.size w W)=>Qi rs p.1 p.2 al aP aQ cl cP cQ W ((hL.below hW).mono hW.size) ((g3.below hW).mono hW.size) ((g4.below hW).mono hW.size) g5 g6 g7 g8);have hOr:=hid (fun W (hW:Below w.heap.size w W)=>IJ (fl:=false) w.heap.size rs al cl W hW.size ((hL.below hW).mono hW.size) (by omega) her.out);have hTl:=hid hP.tail;have hOp:=hid (fun W (hW:Below w.heap.size w W) c=>pg (fl:=false) w.heap.size l (some ⟨b,off+2,none⟩) c W hW.size ((hTl.out.below hW).mono hW.size) (by omega) hel.out);have HR:=hid (fun W (hW:Below w.heap.size w W)=>(hR.below hW).mono hW.size);have hcell:=hid (fun W (hW:Below w.heap.size w W)=>(show W.cell? ⟨b,off,none⟩ = some (.slice aP p.1.length cP)∧W.cell? ⟨b,off+1,none⟩ = some (.slice aQ p.2.length cQ) from ⟨(hW.cell (p:=⟨b,off,none⟩) hb).trans g1,(hW.cell (p:=⟨b,off+1,none⟩) hb).trans g2⟩));have Ve:=hid k1;clear hR hL hP hTl g1 g2 g3 g4 ht k2 k3 k4 k5 k6 k7 YO hall;obtain ⟨P,Q⟩:=p;dsimp only at hS hF hcell g5 g7
   have hlen:((P,Q) :: l).length = l.length+1:=rfl;have acj:(l.length:Int)≤39:=by omega
   have hc1':l.length+1≤cap:=hc1;have hc2':(cap:Int)≤9223372036854775807:=by unfold maxLen at hc2;omega
   have afB:(l.length:Int)+1≤(cap:Int):=by omega
   by_cases hj:Tm.dM rs P Q = 0
   ·obtain ⟨f1,f2⟩:=Tm.Ct hj
    have eF:=Tm.ky f1;have eG:=Tm.ky f2;have hfv:Tm.oo rs P Q = ((Tm.form rs P).1,(Tm.form rs Q).1):=by unfold Tm.oo;rw [if_pos hj]
    rw [hj,hfv] at hF;rw [hj] at hS;dsimp only at hF
    clear hfv f1 f2 hj;generalize (Tm.form rs P).1 = F at *;generalize (Tm.form rs Q).1 = G at *;have lF:=Tm.aI eF;have hEq:=hid (fun W a1 a2 c1 c2 h1 h2=>BZ F G a1 a2 c1 c2 W h1 h2 (by unfold maxLen;omega));have hD:=hid (fun W (hW:Below w.heap.size w W) aF aG cF cG h1 h2 p1 p2 q1 q2=>IL rk F G ar aF aG cr cF cG W Ve.out eF eG (HR.out W hW) h1 h2 p1 p2 q1 q2);rw [hlen];rw [hlen] at hC;by_cases O5:F = G
    ·subst O5
     rw [show dK F F = true by simp [dK]] at hEq;clear hD;go_enter Tryz.func6,Tryz.ntmps6;go_wp2_with fail;refine hC.out.mono ?_;rintro e w1 ⟨rfl,b1⟩;obtain ⟨x0,x1⟩:=hcell.out w1 b1;clear hC;go_wp2_with fail;refine (hF.out w1 b1).mono ?_;rintro e w2 ⟨v,u,rfl,n1,n2,b2⟩;have B2:=b1.trans (b2.mono b1.size);obtain ⟨aF,cF,rfl,iF,pF,IQ⟩:=New.ints n1;obtain ⟨aG,cG,rfl,iG,pG,Jn⟩:=New.ints n2;clear hF n1 n2 x0 x1;have hBd:Below w2.heap.size w2 w2.drew:=below_drewN (Below.refl _ w2) 1;have Bd:=B2.trans (hBd.mono B2.size);by_cases hcap:cap = 1
     ·subst hcap
      obtain rfl:l = []:=List.eq_nil_of_length_eq_zero (by omega);simp only [List.length_nil,Nat.zero_add];go_wp2;go_region_held3 (fun _=>True) (first | trivial) (first
       | (go_at_call 29;refine (hOr.out w2.drew Bd).mono ?_;rintro e w3 ⟨v3,rfl,iD,b3⟩;have B3:=Bd.trans (b3.mono Bd.size))
       | (go_at_call 30;refine (pg (fl:=false) w.heap.size [] (some ⟨b,off,none⟩) 0 w3 B3.size (fun k hk=>by simp at hk) (by simp) (fun k hk=>by simp at hk)).mono ?_;rintro e w4 ⟨v4,rfl,gI,b4⟩;have B4:=B3.trans (b4.mono B3.size)))
      have N3:=hid ((iD.below b4).mono (show w.heap.size≤w2.drew.heap.size from Bd.size));have N4:=hid (gI.mono B3.size);have TF:=hid (((iF.below hBd).mono hBd.size |>.below b3).mono b3.size |>.below b4 |>.mono b4.size);have TG:=hid (((iG.below hBd).mono hBd.size |>.below b3).mono b3.size |>.below b4 |>.mono b4.size);obtain ⟨a3,c3,e3⟩:=iD.slice;obtain ⟨a4,c4,e4⟩:=gI.slice;rw [e3] at N3;rw [e4] at N4;clear iD gI b3 hOr;go_wp2_with fail;refine (hEq.out w4 aF aG cF cG TF.out TG.out).mono ?_;rintro e w5 ⟨rfl,b5⟩;have B5:=B4.trans (b5.mono B4.size);subst e3 e4;go_wp2;go_ret3
      exact ⟨0,rs,[],_,_,hS.out _ _ _ (.inr (.inl ⟨(by first | rfl | trivial),(by first | rfl | trivial),rfl,rfl,rfl⟩)),rfl,N3.out.below b5,N4.out.below b5,B5⟩
     ·have r1:(1:Int)≤(l.length:Int)+1:=by omega
      have r3:¬ cap - 1 = 0:=by omega
      have r4:(1:Int)≤(cap:Int):=by omega
      go_wp2;go_region_held3 (fun _=>True) (first | trivial) (first
       | (go_at_call 29;refine (hOr.out w2.drew Bd).mono ?_;rintro e w3 ⟨v3,rfl,iD,b3⟩;have B3:=Bd.trans (b3.mono Bd.size))
       | (go_at_call 30;refine (hOp.out w3 B3 (cap - 1)).mono ?_;rintro e w4 ⟨v4,rfl,gI,b4⟩;have B4:=B3.trans (b4.mono B3.size)))
      have N3:=hid ((iD.below b4).mono (show w.heap.size≤w2.drew.heap.size from Bd.size));have N4:=hid (gI.mono B3.size);have TF:=hid (((iF.below hBd).mono hBd.size |>.below b3).mono b3.size |>.below b4 |>.mono b4.size);have TG:=hid (((iG.below hBd).mono hBd.size |>.below b3).mono b3.size |>.below b4 |>.mono b4.size);obtain ⟨a3,c3,e3⟩:=iD.slice;obtain ⟨a4,c4,e4⟩:=gI.slice;rw [e3] at N3;rw [e4] at N4;clear iD gI b3 hOr;go_wp2_with fail;refine (hEq.out w4 aF aG cF cG TF.out TG.out).mono ?_;rintro e w5 ⟨rfl,b5⟩;have B5:=B4.trans (b5.mono B4.size);subst e3 e4;go_wp2;go_ret3
      exact ⟨0,rs,l,_,_,hS.out _ _ _ (.inr (.inl ⟨(by first | rfl | trivial),(by first | rfl | trivial),rfl,rfl,rfl⟩)),rfl,N3.out.below b5,N4.out.below b5,B5⟩
    ·have hsb:dK F G = false:=by unfold dK;exact decide_eq_false O5
     rw [hsb] at hEq;go_enter Tryz.func6,Tryz.ntmps6;go_wp2_with fail;refine hC.out.mono ?_;rintro e w1 ⟨rfl,b1⟩;obtain ⟨x0,x1⟩:=hcell.out w1 b1;clear hC;go_wp2_with fail;refine (hF.out w1 b1).mono ?_;rintro e w2 ⟨v,u,rfl,n1,n2,b2⟩;have B2:=b1.trans (b2.mono b1.size);obtain ⟨aF,cF,rfl,iF,pF,IQ⟩:=New.ints n1;obtain ⟨aG,cG,rfl,iG,pG,Jn⟩:=New.ints n2;clear hF n1 n2 x0 x1;have hBd:Below w2.heap.size w2 w2.drew:=below_drewN (Below.refl _ w2) 1;have Bd:=B2.trans (hBd.mono B2.size);by_cases hcap:cap = 1
     ·subst hcap
      obtain rfl:l = []:=List.eq_nil_of_length_eq_zero (by omega);simp only [List.length_nil,Nat.zero_add];go_wp2;go_region_held3 (fun _=>True) (first | trivial) (first
       | (go_at_call 29;refine (hOr.out w2.drew Bd).mono ?_;rintro e w3 ⟨v3,rfl,iD,b3⟩;have B3:=Bd.trans (b3.mono Bd.size))
       | (go_at_call 30;refine (pg (fl:=false) w.heap.size [] (some ⟨b,off,none⟩) 0 w3 B3.size (fun k hk=>by simp at hk) (by simp) (fun k hk=>by simp at hk)).mono ?_;rintro e w4 ⟨v4,rfl,gI,b4⟩;have B4:=B3.trans (b4.mono B3.size)))
      have N3:=hid ((iD.below b4).mono (show w.heap.size≤w2.drew.heap.size from Bd.size));have N4:=hid (gI.mono B3.size);have TF:=hid (((iF.below hBd).mono hBd.size |>.below b3).mono b3.size |>.below b4 |>.mono b4.size);have TG:=hid (((iG.below hBd).mono hBd.size |>.below b3).mono b3.size |>.below b4 |>.mono b4.size);obtain ⟨a3,c3,e3⟩:=iD.slice;obtain ⟨a4,c4,e4⟩:=gI.slice;rw [e3] at N3;rw [e4] at N4;clear iD gI b3 hOr;go_wp2_with fail;refine (hEq.out w4 aF aG cF cG TF.out TG.out).mono ?_;rintro e w5 ⟨rfl,b5⟩;have B5:=B4.trans (b5.mono B4.size);go_wp2_with fail;refine (hD.out w5 B5 aF aG cF cG ((TF.out.below b5).mono b5.size) ((TG.out.below b5).mono b5.size) pF IQ pG Jn).mono ?_;rintro e w6 ⟨v6,u6,rfl,n6,m6,b6⟩;have B6:=B5.trans (b6.mono B5.size);obtain ⟨a6,c6,rfl,i6,y6,y6'⟩:=bX.new (fl:=false) (base:=w.heap.size) n6 (.inr B5.size);obtain ⟨a7,c7,rfl,i7,y7,y7'⟩:=bX.new (fl:=false) (base:=w.heap.size) m6 (.inr B5.size);obtain ⟨W7,OT⟩:∃ W7,w6.alloc (.cells #[.slice a6 (Tm.dir rk F G).2.1.length c6,.slice a7 (Tm.dir rk F G).2.2.length c7] 54) = W7:=⟨_,rfl⟩;have b7:Below w6.heap.size w6 W7:=by rw [← OT];exact (Below.refl _ _).alloc (Nat.le_refl _) _
      have YP:bZ W7 w6.heap.size 54 (.slice a6 (Tm.dir rk F G).2.1.length c6) (.slice a7 (Tm.dir rk F G).2.2.length c7):=by rw [← OT];exact bZ.new w6 _ _ _
      have z0:=YP.cell0;have z1:=YP.cell1;have B7:=B6.trans (b7.mono B6.size);have M3:=hid (((N3.out.below b5).below b6).below b7);have M4:=hid (((N4.out.below b5).below b6).below b7);have i6':=hid (i6.below b7);have YQ:=hid (i7.below b7);have hdr:=hid (fun h=>Tm.BV (rk:=rk) eF eG h);have HW7:=hid OT;clear OT n6 m6 i6 i7 YP hD N3 N4 TF TG;generalize Tm.dir rk F G = dv at *;obtain ⟨de,dL,dR⟩:=dv;dsimp only at *
      by_cases hde:de = 0
      ·subst hde
       have hW:=hid (Kl w.heap.size rs [] dL dR _ _ a6 a7 c6 c7 W7 B7.size M3.out M4.out i6'.out YQ.out (hdr.out rfl).1 y6 y6' y7 y7' (fun k hk=>(her.out k hk).1) (by omega) (by first | omega | (simp;omega) | simp));subst e3 e4;go_wp2_with fail;rw [HW7.out];go_wp2_with fail;refine hW.out.mono ?_;rintro e w8 ⟨er,rs',ps',v8,u8,Rt,rfl,n8,m8,b8⟩;have Hs:=hid (hS.out er rs' ps' (.inr (.inr (.inr ⟨(by first | rfl | trivial),O5,(by first | rfl | trivial),Rt⟩))));obtain ⟨a8,c8,rfl⟩:=n8.slice;obtain ⟨a9,c9,rfl⟩:=m8.slice;go_wp2;go_ret3
       exact ⟨er,rs',ps',_,_,Hs.out,rfl,n8,m8,B7.trans b8⟩
      ·have hne:(de != 0) = true:=by simpa using hde
       have Hs:=hid (hS.out de [] [] (.inr (.inr (.inl ⟨(by first | rfl | trivial),O5,hde,rfl,rfl,rfl⟩))));clear hde;subst e3 e4;go_wp2_with fail;go_ret3
       first | exact ⟨de,[],[],_,_,Hs.out,rfl,aU.nil _ _ _ _,aU.nil _ _ _ _,by rw [HW7.out];exact B7⟩
     ·have r1:(1:Int)≤(l.length:Int)+1:=by omega
      have r3:¬ cap - 1 = 0:=by omega
      have r4:(1:Int)≤(cap:Int):=by omega
      go_wp2;go_region_held3 (fun _=>True) (first | trivial) (first
       | (go_at_call 29;refine (hOr.out w2.drew Bd).mono ?_;rintro e w3 ⟨v3,rfl,iD,b3⟩;have B3:=Bd.trans (b3.mono Bd.size))
       | (go_at_call 30;refine (hOp.out w3 B3 (cap - 1)).mono ?_;rintro e w4 ⟨v4,rfl,gI,b4⟩;have B4:=B3.trans (b4.mono B3.size)))
      have N3:=hid ((iD.below b4).mono (show w.heap.size≤w2.drew.heap.size from Bd.size));have N4:=hid (gI.mono B3.size);have TF:=hid (((iF.below hBd).mono hBd.size |>.below b3).mono b3.size |>.below b4 |>.mono b4.size);have TG:=hid (((iG.below hBd).mono hBd.size |>.below b3).mono b3.size |>.below b4 |>.mono b4.size);obtain ⟨a3,c3,e3⟩:=iD.slice;obtain ⟨a4,c4,e4⟩:=gI.slice;rw [e3] at N3;rw [e4] at N4;clear iD gI b3 hOr;go_wp2_with fail;refine (hEq.out w4 aF aG cF cG TF.out TG.out).mono ?_;rintro e w5 ⟨rfl,b5⟩;have B5:=B4.trans (b5.mono B4.size);go_wp2_with fail;refine (hD.out w5 B5 aF aG cF cG ((TF.out.below b5).mono b5.size) ((TG.out.below b5).mono b5.size) pF IQ pG Jn).mono ?_;rintro e w6 ⟨v6,u6,rfl,n6,m6,b6⟩;have B6:=B5.trans (b6.mono B5.size);obtain ⟨a6,c6,rfl,i6,y6,y6'⟩:=bX.new (fl:=false) (base:=w.heap.size) n6 (.inr B5.size);obtain ⟨a7,c7,rfl,i7,y7,y7'⟩:=bX.new (fl:=false) (base:=w.heap.size) m6 (.inr B5.size);obtain ⟨W7,OT⟩:∃ W7,w6.alloc (.cells #[.slice a6 (Tm.dir rk F G).2.1.length c6,.slice a7 (Tm.dir rk F G).2.2.length c7] 54) = W7:=⟨_,rfl⟩;have b7:Below w6.heap.size w6 W7:=by rw [← OT];exact (Below.refl _ _).alloc (Nat.le_refl _) _
      have YP:bZ W7 w6.heap.size 54 (.slice a6 (Tm.dir rk F G).2.1.length c6) (.slice a7 (Tm.dir rk F G).2.2.length c7):=by rw [← OT];exact bZ.new w6 _ _ _
      have z0:=YP.cell0;have z1:=YP.cell1;have B7:=B6.trans (b7.mono B6.size);have M3:=hid (((N3.out.below b5).below b6).below b7);have M4:=hid (((N4.out.below b5).below b6).below b7);have i6':=hid (i6.below b7);have YQ:=hid (i7.below b7);have hdr:=hid (fun h=>Tm.BV (rk:=rk) eF eG h);have HW7:=hid OT;clear OT n6 m6 i6 i7 YP hD N3 N4 TF TG;generalize Tm.dir rk F G = dv at *;obtain ⟨de,dL,dR⟩:=dv;dsimp only at *
      by_cases hde:de = 0
      ·subst hde
       have hW:=hid (Kl w.heap.size rs l dL dR _ _ a6 a7 c6 c7 W7 B7.size M3.out M4.out i6'.out YQ.out (hdr.out rfl).1 y6 y6' y7 y7' (fun k hk=>(her.out k hk).1) (by omega) (by first | omega | (simp;omega) | simp));subst e3 e4;go_wp2_with fail;rw [HW7.out];go_wp2_with fail;refine hW.out.mono ?_;rintro e w8 ⟨er,rs',ps',v8,u8,Rt,rfl,n8,m8,b8⟩;have Hs:=hid (hS.out er rs' ps' (.inr (.inr (.inr ⟨(by first | rfl | trivial),O5,(by first | rfl | trivial),Rt⟩))));obtain ⟨a8,c8,rfl⟩:=n8.slice;obtain ⟨a9,c9,rfl⟩:=m8.slice;go_wp2;go_ret3
       exact ⟨er,rs',ps',_,_,Hs.out,rfl,n8,m8,B7.trans b8⟩
      ·have hne:(de != 0) = true:=by simpa using hde
       have Hs:=hid (hS.out de [] [] (.inr (.inr (.inl ⟨(by first | rfl | trivial),O5,hde,rfl,rfl,rfl⟩))));clear hde;subst e3 e4;go_wp2_with fail;go_ret3
       first | exact ⟨de,[],[],_,_,Hs.out,rfl,aU.nil _ _ _ _,aU.nil _ _ _ _,by rw [HW7.out];exact B7⟩
   ·have hne:(Tm.dM rs P Q != 0) = true:=by simpa using hj
    have Hs:=hid (hS.out (Tm.dM rs P Q) [] [] (.inl ⟨hj,rfl,rfl,rfl⟩));rw [hlen];rw [hlen] at hC;clear hj hS;generalize Tm.dM rs P Q = q at *;generalize Tm.oo rs P Q = fv at *;go_enter Tryz.func6,Tryz.ntmps6;go_wp2_with fail;refine hC.out.mono ?_;rintro e w1 ⟨rfl,b1⟩;obtain ⟨x0,x1⟩:=hcell.out w1 b1;clear hC;go_wp2_with fail;refine (hF.out w1 b1).mono ?_;rintro e w2 ⟨v,u,rfl,n1,n2,b2⟩;obtain ⟨aF,cF,rfl,_⟩:=New.ints n1;obtain ⟨aG,cG,rfl,_⟩:=New.ints n2;go_wp2;go_ret3
    exact ⟨q,[],[],_,_,Hs.out,rfl,aU.nil _ _ _ _,aU.nil _ _ _ _,b1.trans (b2.mono b1.size)⟩
 ·have Hs:Hid (Tm.fw rk rs ps (Tm.iB rk rs ps) [] []):=.inl ⟨ht,rfl,rfl,rfl⟩
  have hne:(Tm.iB rk rs ps != 0) = true:=by simpa using ht
  clear ht hR hL hP;generalize Tm.iB rk rs ps = q at *;go_enter Tryz.func6,Tryz.ntmps6;go_wp2_with fail;refine hC.out.mono ?_;rintro e w1 ⟨rfl,b1⟩;go_wp2;go_ret3
  exact ⟨q,[],[],_,_,Hs.out,rfl,aU.nil _ _ _ _,aU.nil _ _ _ _,b1⟩
theorem Tm.TH {x:List Int} {m:Nat} {s:Int} (h:s∈Tm.kid x m):s∈x:=by
 unfold Tm.kid Tm.part at h;exact List.mem_of_mem_drop (List.mem_of_mem_take h)
theorem Tm.TI {x:List Int} (h:Tm.err x = 0) {s:Int} (hs:s∈x):Tm.sym x = s∨∃ m,m < Tm.room (Tm.sym x)∧s∈Tm.kid x m:=by
 rw [Tm.view h] at hs;rcases List.mem_cons.1 hs with e | hs
 ·exact .inl e.symm
 ·right
  rw [List.mem_flatten] at hs;obtain ⟨l,hl,hs⟩:=hs;obtain ⟨m,hm,rfl⟩:=List.getElem_of_mem hl;rw [Tm.zx] at hm;have e:=Tm.VS x hm;rw [List.getElem?_eq_getElem (by rw [Tm.zx];exact hm)] at e;rw [show (Tm.kids x (Tm.room (Tm.sym x)))[m] = Tm.kid x m from e] at hs;exact ⟨m,hm,hs⟩
theorem Tm.Gt.vars {r:Int→Int} {a b:List Int} (h:Tm.Gt r a b):Tm.err a = 0→Tm.err b = 0→∀ s∈b,s < 0→s∈a:=by
 induction h with
 | eq a b m hm e=>intro _ _ s hs _;rw [← e] at hs;exact Tm.TH hs
 | sub a b m hm _ ih=>intro ha hb s hs h0;exact Tm.TH (ih (Tm.mh ha hm) hb s hs h0)
 | rk a b h1 h2 _ _ _ ih =>
  intro ha hb s hs h0;rcases Tm.TI hb hs with e | ⟨m,hm,hs⟩
  ·omega
  ·exact ih m hm ha (Tm.mh hb hm) s hs h0
 | lex a b m h1 h2 _ _ _ _ ih _ =>
  intro ha hb s hs h0;rcases Tm.TI hb hs with e | ⟨m,hm,hs⟩
  ·omega
  ·exact ih m hm ha (Tm.mh hb hm) s hs h0
theorem Tm.Ms {rk P Q:List Int} (hk:Tm.aZ rk = 0) (eP:Tm.err P = 0) (eQ:Tm.err Q = 0) (ha:Tm.bg rk P Q = true) (h0:Tm.jG P = 0):Tm.dI (Tm.plain P) (Tm.fu P Q) = 0∧Tm.bg rk (Tm.plain P) (Tm.fu P Q) = true:=by
 have hg:=(Tm.pI (Tm.gz hk eP eQ)).1 ha;obtain ⟨ss,h1,h2,h3,h4,h5⟩:=Tm.BU eP eQ;have hg':=hg.stays (Terms.of h1) eP eQ;rw [← h2,← h3] at hg';have hv:=hg'.vars h4 h5;have hf:(Tm.plain P).any aV = false:=by
  unfold Tm.jG at h0;cases h:(Tm.plain P).any aV with
  | false=>rfl
  | true=>rw [if_pos h] at h0;exact absurd h0 (by decide)
 refine ⟨?_,(Tm.pI (Tm.gz hk h4 h5)).2 hg'⟩;have hf2:(Tm.fu P Q).any aV = false:=by
  rw [List.any_eq_false] at hf ⊢;intro s hs hfs;have h0:s < -4:=by simpa [aV] using hfs
  exact hf s (hv s hs (by omega)) hfs
 have hf3:(Tm.fu P Q).any (eu (Tm.plain P)) = false:=by
  rw [List.any_eq_false];intro s hs hfs;unfold eu at hfs;rw [Bool.and_eq_true] at hfs;have h0:s < 0:=by simpa using hfs.1
  have:=hv s hs h0
  simp [Tm.hasB,this] at hfs
 have hp:(0:Int)≤(Tm.plain P)[0]?.getD 0:=hg'.pos;unfold Tm.dI;rw [if_pos h4,if_pos h5,if_neg (by rw [hf];decide),if_neg (by rw [hf2];decide),if_neg (by omega),if_neg (by rw [hf3];decide)]
theorem Tm.IU {rs:aH} (h:∀ x∈rs,Tm.dI x.1 x.2 = 0):Tm.firstRule rs = 0:=by
 induction rs with
 | nil=>rfl
 | cons r l ih =>
  rw [Tm.firstRule,if_pos (h r (by simp))];exact ih fun x hx=>h x (by simp [hx])
theorem Tm.TJ {rk P Q:List Int} (hk:Tm.aZ rk = 0) (eP:Tm.err P = 0) (eQ:Tm.err Q = 0) (ha:Tm.bg rk P Q = true):(Tm.plain P++Tm.fu P Q).any aV = (Tm.plain P).any aV:=by
 have hg:=(Tm.pI (Tm.gz hk eP eQ)).1 ha;obtain ⟨ss,h1,h2,h3,h4,h5⟩:=Tm.BU eP eQ;have hg':=hg.stays (Terms.of h1) eP eQ;rw [← h2,← h3] at hg';have hv:=hg'.vars h4 h5;rw [List.any_append];cases h:(Tm.plain P).any aV with
 | true=>rfl
 | false =>
  rw [Bool.false_or,List.any_eq_false];rw [List.any_eq_false] at h;intro s hs hfs;have h0:s < -4:=by simpa [aV] using hfs
  exact h s (hv s hs (by omega)) hfs
theorem Tm.Qu {rk P Q:List Int} (hk:Tm.aZ rk = 0) (eP:Tm.err P = 0) (eQ:Tm.err Q = 0) (ha:Tm.bg rk P Q = true):Tm.jG P = if (Tm.plain P++Tm.fu P Q).any aV = true then 3 else 0:=by
 rw [Tm.TJ hk eP eQ ha];rfl
theorem zy (ss:List (List Int)) (hl:ss.length = 8) (hsh:ow ss) (a:Option Addr) (cap:Nat) (t:List Int) (at':Option Addr) (ct:Nat) (ht:t.length≤100) (h8:∀ k,k < t.length→-8≤t[k]?.getD 0) (w:World)
 (hS:gu w.heap.size w a ss) (hT:Ints w.heap.size w at' t) :
 Calls Tryz.prog 114 #[.slice a 8 cap,.slice at' t.length ct] w fun e w'=>∃ v,e = .returned v∧New w.heap.size w' v (Tm.applied ss t)∧Below w.heap.size w w':=by
 have hlen:(t.length:Int)≤100:=by omega
 obtain ⟨bs,os,rfl,hbs,hcs⟩:=hS.at (by omega);have Hcs:=hid hcs;have HT:=hid hT;have H8:=hid h8;have Hl:=hid hl;clear hcs hS hT h8 hl;go_enter Tryz.func114,Tryz.ntmps114;go_wp2;go_loopw [5,6] (fun v i wr=>∃ k:Nat,k≤t.length∧i = .int .i64 (k:Int)∧New w.heap.size wr v (Tm.applied ss (t.take k))∧Below w.heap.size w wr) (fun _ i _=>t.length - (intOf i).toNat)
 case atStart=>exact ⟨0,Nat.zero_le _,rfl,New.nil _ _,Below.refl _ _⟩
 case round =>
  obtain ⟨k,hk,rfl,hN,hBr⟩:=hrel;by_cases hlt:k < t.length
  ·have hlt':(k:Int) < (t.length:Int):=by omega
   obtain ⟨b,off,rfl,hb,hc⟩:=HT.out.at (by omega);have hck:=(hBr.cell (p:=⟨b,off+k,none⟩) hb).trans (hc k hlt);have hsn:=hid (Tm.oZ ss hlt);have hle:=Tm.jy hsh (t.take k);rw [List.length_take] at hle;have hpl:=Tm.zt hsh (t[k]?.getD 0);have Rt:=H8.out k hlt;clear hc;obtain ⟨a0,c0,rfl,_⟩:=New.ints hN;by_cases hneg:t[k]?.getD 0 < 0
   ·obtain ⟨j,hj⟩:∃ j:Nat,t[k]?.getD 0 = -1 - (j:Int):=⟨(-1 - (t[k]?.getD 0)).toNat,by omega⟩
    have Vt:(j:Int) < 8:=by omega
    obtain ⟨aj,cj,Tu,Tv,h1,h2,h3⟩:=Hcs.out j (by rw [Hl.out];omega);have hcj:=(hBr.cell (p:=⟨bs,os+j,none⟩) hbs).trans Tu;have hIj:=(Tv.below hBr).mono hBr.size;have hpc:Tm.piece ss (t[k]?.getD 0) = ss[j]?.getD []:=by
     rw [hj];unfold Tm.piece;rw [if_pos (by omega)];congr 2;omega
    rw [hpc] at hsn hpl;rw [hj] at hck;have H3:Hid (aj = none→(ss[j]?.getD []).length = 0∧cj = 0):=fun e=>⟨by have:=h3 e;omega,h3 e⟩
    clear Tu Tv hpc hj hneg Rt h3 h1 h2;generalize ss[j]?.getD [] = pc at *;generalize Tm.applied ss (t.take k) = xs at *;have hn1:(-1 - (j:Int)) < 0:=by omega
    have hn2:-(-1 - (j:Int)) - 1 = (j:Int):=by omega
    go_wp2_with (at_builtin;go_loud (refine aK _ rfl _ _ rfl w.heap.size _ xs rfl hN aj pc cj rfl H3.out hIj (by omega) hBr.size ?_);intro v' w2 eH hB3;obtain ⟨a2,c2,rfl,_⟩:=New.ints eH)
    go_roundw
    case rel=>exact ⟨k+1,by omega,by go_num,by rw [hsn.out];simpa using eH,hBr.trans hB3⟩
    case measure=>simp [intOf];omega
   ·have hpc:Tm.piece ss (t[k]?.getD 0) = [t[k]?.getD 0]:=by unfold Tm.piece;rw [if_neg hneg]
    rw [hpc] at hsn;clear hpc hpl Rt;generalize t[k]?.getD 0 = s at *;generalize Tm.applied ss (t.take k) = xs at *;have h1:=fH wr [s] _ rfl;simp only [List.map_cons,List.map_nil] at h1;have hA:Below wr.heap.size wr (wr.alloc (.cells #[.int .i64 s] 3)):=(Below.refl _ _).alloc (Nat.le_refl _) _;have hNA:=New.below hN hA;have hBA:=hBr.trans (hA.mono hBr.size);go_wp2_with (at_builtin;go_loud (refine aK _ rfl _ _ rfl w.heap.size _ xs rfl hNA (some ⟨wr.heap.size,0,none⟩) [s] 1 rfl (fun e=>by cases e) (by simpa using h1) (by simp;omega) hBA.size ?_);intro v' w2 eH hB3;obtain ⟨a2,c2,rfl,_⟩:=New.ints eH)
    go_roundw
    case rel=>exact ⟨k+1,by omega,by go_num,by rw [hsn.out];simpa using eH,hBA.trans hB3⟩
    case measure=>simp [intOf];omega
  ·obtain rfl:k = t.length:=by omega
   rw [List.take_length] at hN;obtain ⟨a2,c2,rfl,_⟩:=New.ints hN;go_wp2;go_ret;exact ⟨_,rfl,hN,hBr⟩
theorem rU (t:List Int) (at':Option Addr) (ct:Nat) (w:World) (ht:t.length≤100) (h0:0 < t.length) (h8:∀ k,k < t.length→-8≤t[k]?.getD 0) (hT:Ints w.heap.size w at' t) :
 Calls Tryz.prog 95 #[.slice at' t.length ct] w fun e w'=>∃ v,e = .returned v∧New w.heap.size w' v (Tm.plain t)∧Below w.heap.size w w':=by
 have hlen:(t.length:Int)≤100:=by omega
 obtain ⟨b,off,rfl,hb,hc⟩:=hT.at h0;have hl:New w.heap.size (w.alloc (.cells #[] 3)) (.slice (some ⟨w.heap.size,0,none⟩) 0 0) []:=New.lit w.heap.size w [] (Nat.le_refl _) (by unfold maxLen;simp);have hB0:Below w.heap.size w (w.alloc (.cells #[] 3)):=(Below.refl _ _).alloc (Nat.le_refl _) _;have HT:=hid hT;have Hc:=hid hc;have H8:=hid h8;clear hT hc h8;go_enter Tryz.func95,Tryz.ntmps95;go_wp2_with (at_builtin;go_loud (refine aK _ rfl (.tmp 8) (.tmp 9) rfl w.heap.size _ [] rfl hl _ t ct rfl (fun e=>by cases e) ((HT.out.below hB0).mono hB0.size) (by simp;omega) hB0.size ?_);intro v1 W1 hN1 hB1;obtain ⟨g,c,rfl,_⟩:=New.XB hN1 (by simpa using h0))
 have hB2:=hB0.trans hB1;clear hB0 hB1 hl;simp only [List.nil_append] at *;have hgl:=hN1.Mv.2;have afF:=hB2.size;go_loopw [3,5] (fun vs i wr=>∃ k:Nat,k≤t.length∧i = .int .i64 (k:Int)∧Hid (nE w W1 t g t.length c k vs wr)) (fun _ i _=>t.length - (intOf i).toNat)
 case atStart=>exact ⟨0,Nat.zero_le _,rfl,New.nil _ _,by rw [Tm.Qv];exact hN1,hB2,Nat.le_refl _⟩
 case round =>
  clear hN1 hB2;obtain ⟨k,hk,rfl,hP⟩:=hrel;by_cases hlt:k < t.length
  ·have hlt':(k:Int) < (t.length:Int):=by omega
   have hck:=(hP.out.2.2.1.cell (p:=⟨b,off+k,none⟩) hb).trans (Hc.out k hlt);by_cases hneg:t[k]?.getD 0 < 0
   ·have hsl:=Tm.D8 (t.take k) []
    rw [List.length_take] at hsl;simp only [List.length_nil,Nat.zero_add] at hsl;have hnd:=hid (Tm.pz (t.take k) [] List.nodup_nil);have hse:=hid (Tm.BP [] hlt);have hnm:Hid (Tm.name (Tm.aT [] (t.take k)) (t[k]?.getD 0) = -1 - (Tm.idx (Tm.aT [] (t.take k)) (t[k]?.getD 0):Int)):=by
     show _ = _;unfold Tm.name;rw [if_pos hneg]
    have hst:Hid (∀ (vs':Value) (w':World) (x:Int),New W1.heap.size w' vs' (Tm.aT [] (t.take (k+1)))→New w.heap.size w' (.slice (some ⟨g,0,none⟩) t.length c) (Tm.half t k)→Below w.heap.size w w'→W1.heap.size≤w'.heap.size →
     x = Tm.name (Tm.aT [] (t.take k)) (t[k]?.getD 0)→nE w W1 t g t.length c (k+1) vs' (w'.setCell ⟨g,k,none⟩ (.int .i64 x))) :=
     fun vs' w' x a1 a2 a3 a4 a5=>nE.store hgl rfl hlt a1 a2 a3 a4 x a5
    obtain ⟨p1,p2,p3,p4⟩:=hP.out;have Hhl:Hid ((Tm.half t k).length = t.length):=Tm.Cu hk;clear hP;generalize Tm.name (Tm.aT [] (t.take k)) (t[k]?.getD 0) = nm at *;generalize Tm.aT [] (t.take (k+1)) = seen' at *;generalize Tm.aT [] (t.take k) = seen at *;generalize Tm.half t k = hf at *;generalize t[k]?.getD 0 = s at *;obtain ⟨az,cs,rfl,hIs,hcs,_⟩:=New.ints p1;have HIs:=hid hIs;have ak6:(seen.length:Int)≤100:=by omega
    clear hIs hcs;go_wp2;go_loopw [6,7] (fun q i wq=>∃ (m d:Nat),m≤seen.length∧i = .int .i64 (m:Int)∧wq = wr.drewN d∧((q = .int .i64 (-1)∧Hid (∀ j,j < m→seen[j]?.getD 0≠s))∨∃ j:Nat,j < m∧q = .int .i64 (j:Int)∧Hid (seen[j]?.getD 0 = s))) (fun _ i _=>seen.length - (intOf i).toNat)
    case atStart=>exact ⟨0,0,Nat.zero_le _,rfl,rfl,.inl ⟨rfl,fun j hj=>by omega⟩⟩
    case round =>
     obtain ⟨m,d,hm,rfl,rfl,hq⟩:=hrel;by_cases hml:m < seen.length
     ·have ak7:(m:Int) < (seen.length:Int):=by omega
      obtain ⟨gs,os,rfl,hbs,hcs⟩:=HIs.out.at (by omega);have hcm:=hcs m hml;have hnn:=hid (show seen[m]?.getD 0≠s→(∀ j,j < m→seen[j]?.getD 0≠s)→∀ j,j < m+1→seen[j]?.getD 0≠s from fun e1 e2 j hj=>by
       by_cases e:j = m
       ·subst e;exact e1
       ·exact e2 j (by omega))
      clear hcs;obtain ⟨y,hy⟩:∃ y,seen[m]?.getD 0 = y:=⟨_,rfl⟩;rw [hy] at hcm;have Hy:=hid hy;clear hy;by_cases he:y = s
      ·have hn:(y == s) = true:=by simp [he]
       have afG:Hid (seen[m]?.getD 0 = s):=Hy.out.trans he;clear he hnn hq;go_wp2;go_quiet (fail)
       go_wp2;go_roundw
       case rel=>exact ⟨m+1,_,by omega,by go_num,rfl,.inr ⟨m,by omega,rfl,afG⟩⟩
       case measure=>simp [intOf];omega
      ·have hn:(y == s) = false:=by simp [he]
       have afH:Hid ((∀ j,j < m→seen[j]?.getD 0≠s)→∀ j,j < m+1→seen[j]?.getD 0≠s):=hnn.out (by rw [Hy.out];exact he);clear he hnn;rcases hq with ⟨rfl,hno⟩ | ⟨j,hj,rfl,BM⟩
       ·go_wp2
        go_quiet (fail)
        go_wp2;go_roundw
        case rel=>exact ⟨m+1,_,by omega,by go_num,rfl,.inl ⟨rfl,afH.out hno.out⟩⟩
        case measure=>simp [intOf];omega
       ·go_wp2
        go_quiet (fail)
        go_wp2;go_roundw
        case rel=>exact ⟨m+1,_,by omega,by go_num,rfl,.inr ⟨j,by omega,rfl,BM⟩⟩
        case measure=>simp [intOf];omega
     ·obtain rfl:m = seen.length:=by omega
      have q1:=New.drewN p1 d;have q2:=New.drewN p2 d;have q3:=below_drewN p3 d;have q4:W1.heap.size≤(wr.drewN d).heap.size:=p4;obtain ⟨g',c',e',hcg,hfg⟩:=New.XB q2 (by rw [Hhl.out];exact h0);have hgc:=hcg k (by rw [Hhl.out];exact hlt);have VT:=hfg k;have e'':g = g':=by simp only [Value.slice.injEq,Option.some.injEq,Addr.mk.injEq] at e';exact e'.1.1
      subst e'';have ak8:(wr.drewN d).cell? ⟨b,off+k,none⟩ = some (.int .i64 s):=hck;clear hcg hfg e' hck p1 p2 p3 p4;generalize hx:hf[k]?.getD 0 = x0 at *;clear hx;generalize wr.drewN d = W2 at *;rcases hq with ⟨rfl,hno⟩ | ⟨j,hj,rfl,BM⟩
      ·have hnot:=Tm.VU hno.out
       have hnew:=hid (Tm.VV hneg hnot);have hnm':Hid (nm = -1 - (seen.length:Int)):=by
        show _ = _;rw [hnm.out,Tm.II hnot]
       have YR:=hid (hse.out.trans hnew.out);have hA:Below W2.heap.size W2 (W2.alloc (.cells #[.int .i64 s] 3)):=(Below.refl _ _).alloc (Nat.le_refl _) _;have Hq1:=hid (q1.alloc (.cells #[.int .i64 s] 3));have afJ:=q2.alloc (.cells #[.int .i64 s] 3);have afK:=q3.trans (hA.mono q3.size);have acm:W1.heap.size≤(W2.alloc (.cells #[.int .i64 s] 3)).heap.size:=by simp;omega
       have Sr:=hid (kP W2 (.int .i64 s) 3 W2.heap.size rfl);clear hnot hnew hno hnd q1 q2 q3 hgc VT;go_wp2_with (at_builtin;go_loud (refine mP _ rfl _ _ rfl W1.heap.size _ seen rfl Hq1.out W2.heap.size s rfl Sr.out (by omega) acm ?_);intro v' w5 mV hg5 gq;have r2:New w.heap.size w5 (.slice (some ⟨g,0,none⟩) t.length c) hf:=World.ownsRow.kept afJ hg5 (.inr (fun e=>by have:=(World.ownsRow.lt Hq1.out g e.symm).1;omega));obtain ⟨g',c',e',hcg,hfg⟩:=New.XB r2 (by rw [Hhl.out];exact h0);have hgc:=hcg k (by rw [Hhl.out];exact hlt);have VT:=hfg k;have e'':g = g':=(by simp only [Value.slice.injEq,Option.some.injEq,Addr.mk.injEq] at e';exact e'.1.1);subst e'';clear hcg hfg e';obtain ⟨a5,c5,rfl,_⟩:=New.ints mV)
       go_roundw
       case rel=>exact ⟨k+1,by omega,by go_num,hst.out _ _ _ (by rw [YR.out];simpa using mV) r2 (afK.trans (gq.mono (by have:=afF;omega))) (Nat.le_trans acm gq.size) hnm'.out.symm⟩
       case measure=>simp [intOf];omega
      ·have hidx:=Tm.YS hnd.out hj BM.out
       have hold:=hid (Tm.VW (Tm.YT hj BM.out));have hnm':Hid (nm = -1 - (j:Int)):=by
        show _ = _;rw [hnm.out,hidx]
       have YR:=hid (hse.out.trans hold.out);have aeE:(j:Int)≤100:=by omega
       have hjn:¬ (j:Int) < 0:=by omega
       clear hidx hold BM hnd;go_wp2;go_roundw
       case rel=>exact ⟨k+1,by omega,by go_num,hst.out _ _ _ (by rw [YR.out];exact q1) q2 q3 q4 hnm'.out.symm⟩
       case measure=>simp [intOf];omega
   ·have hP':=hid (hP.out.same hlt (by omega))
    clear hP;generalize t[k]?.getD 0 = s at *;go_wp2;go_roundw
    case rel=>exact ⟨k+1,by omega,by go_num,hP'.out⟩
    case measure=>simp [intOf];omega
  ·obtain rfl:k = t.length:=by omega
   obtain ⟨_,p2,p3,_⟩:=hP.out;rw [Tm.TK] at p2;clear hP;go_wp2;go_ret;exact ⟨_,rfl,p2,p3⟩
end Go.Proofs.YtglohanbpjaieaaGreat
namespace Go.Proofs.YtglohanbpjaieaaGreat
open Go.Proofs Go.RowKit Go.Shelf
theorem Kq (zs us:List Int) (a au:Option Addr) (cap cu j:Nat) (w:World) (hI:Ints w.heap.size w a zs) (hU:Ints w.heap.size w au us) (hcap:zs.length≤cap) (hcap2:cap≤maxLen) (he:Tm.err zs = 0) (ab6:us.length≤1000) (hup:0 < us.length) (hj:j < zs.length) :
 Calls Tryz.prog 113 #[.slice a zs.length cap,.int .i64 (j:Int),.slice au us.length cu] w fun e w'=>∃ v,e = .returned v∧New w.heap.size w' v (Tm.put zs j us)∧Below w.heap.size w w':=by
 have jD:=Tm.aI he;have hei:=Tm.fV he hj;have heg:=Tm.dw zs j;have hUs:=hid (hU.some hup);obtain ⟨b,off,rfl,hb,_⟩:=hI.at (by omega);have hB0:Below w.heap.size w (w.alloc (.cells #[] 3)):=(Below.refl _ _).alloc (Nat.le_refl _) _;have hl:New w.heap.size (w.alloc (.cells #[] 3)) (.slice (some ⟨w.heap.size,0,none⟩) 0 0) []:=New.lit w.heap.size w [] (Nat.le_refl _) (by unfold maxLen;simp);have hE:∀ W,Below w.heap.size w W→Calls Tryz.prog 120 #[.slice (some ⟨b,off,none⟩) zs.length cap,.int .i64 (j:Int)] W fun e w'=>e = .returned (.int .i64 (Tm.ai zs j:Int))∧Below W.heap.size W w' :=
  fun W hW=>qW zs (some ⟨b,off,none⟩) cap j W ((hI.below hW).mono hW.size) hcap hcap2 he hj
 have HE:=hid (hE);have HU:=hid (hU);have HI:=hid (hI);have hput:Tm.put zs j us = []++zs.take j++us++zs.drop (Tm.ai zs j):=by simp [Tm.put]
 rw [hput];have htl:(zs.take j).length = j:=by rw [List.length_take];omega
 have hdl:(zs.drop (Tm.ai zs j)).length = zs.length - Tm.ai zs j:=by rw [List.length_drop]
 have HT:=hid (hI.take j);have HD:Hid (∀ n X,Ints n X (some ⟨b,off,none⟩) zs→∀ c,Ints n X (if c = 0 then some ⟨b,off,none⟩ else some ⟨b,off+Tm.ai zs j,none⟩) (zs.drop (Tm.ai zs j))∨(c = 0∧zs.drop (Tm.ai zs j)≠[])):=by
  intro n X hX c;by_cases hc:c = 0
  ·by_cases hd:zs.drop (Tm.ai zs j) = []
   ·left;rw [hd];exact Ints.nil _ _ _
   ·right;exact ⟨hc,hd⟩
  ·left;rw [if_neg hc];exact hX.drop _
 have Kb:=hid (htl);have VK:=hid (hdl);unfold maxLen at hcap2;clear hE hU hI hput htl hdl he hup;generalize Tm.ai zs j = q at *;generalize hxs:zs.take j = xs at *;generalize hys:zs.drop q = ys at *;clear hxs hys;have h1:(j:Int)≤(cap:Int):=by omega
 have h2:(q:Int)≤(zs.length:Int):=by omega
 have h3:(zs.length:Int)≤(cap:Int):=by omega
 have h4:(zs.length:Int)≤30:=by omega
 by_cases hz:cap - q = 0
 ·have Tq:ys = []:=List.eq_nil_of_length_eq_zero (by rw [VK.out];omega)
  obtain ⟨rfl,rfl⟩:zs.length = cap∧q = zs.length:=by omega
  clear HD;go_enter Tryz.func113,Tryz.ntmps113;go_wp2_with (first
   | (at_builtin;refine aK _ rfl (.tmp 7) (.tmp 10) rfl w.heap.size _ [] rfl hl (some ⟨b,off,none⟩) xs zs.length (by rw [Kb.out];rfl) (fun h=>by cases h) ((HT.out.below hB0).mono hB0.size) (by rw [Kb.out];simp;omega) hB0.size ?_;intro v1 w1 hN1 hB1;have oW:=hB0.trans hB1;clear hB1)
   | (at_builtin;refine aK _ rfl (.tmp 11) (.tmp 12) rfl w.heap.size _ _ rfl hN1 au us _ rfl (fun h=>absurd h hUs.out) ((HU.out.below oW).mono oW.size) (by rw [List.length_append,Kb.out];simp;omega) oW.size ?_;intro v2 w2 eH hB2;have sF:=oW.trans hB2;clear hB2)
   | (go_at_call 120;refine (HE.out _ sF).mono ?_;rintro e w3 ⟨rfl,hB3⟩;have iD:=New.below eH hB3;have sG:=sF.trans (hB3.mono sF.size);clear hB3)
   | (at_builtin;go_loud (refine aK _ rfl (.tmp 13) (.tmp 18) rfl w.heap.size _ _ rfl iD (some ⟨b,off,none⟩) ys 0 (by rw [Tq];rfl) (fun h=>by cases h) (by rw [Tq];exact Ints.nil _ _ _) (by rw [List.length_append,List.length_append,Kb.out,VK.out];simp;omega) sG.size ?_);intro v4 w4 gI hB4))
  obtain ⟨a4,c4,rfl,_⟩:=New.ints gI;go_ret;exact ⟨_,rfl,gI,sG.trans hB4⟩
 ·have HY:Hid (∀ n X,Ints n X (some ⟨b,off,none⟩) zs→Ints n X (some ⟨b,off+q,none⟩) ys):=fun n X hX=>by
   rcases HD.out n X hX 1 with h | h
   ·simpa using h
   ·exact absurd h.1 (by decide)
  clear HD;go_enter Tryz.func113,Tryz.ntmps113;go_wp2_with (first
   | (at_builtin;refine aK _ rfl (.tmp 7) (.tmp 10) rfl w.heap.size _ [] rfl hl (some ⟨b,off,none⟩) xs cap (by rw [Kb.out];rfl) (fun h=>by cases h) ((HT.out.below hB0).mono hB0.size) (by rw [Kb.out];simp;omega) hB0.size ?_;intro v1 w1 hN1 hB1;have oW:=hB0.trans hB1;clear hB1)
   | (at_builtin;refine aK _ rfl (.tmp 11) (.tmp 12) rfl w.heap.size _ _ rfl hN1 au us _ rfl (fun h=>absurd h hUs.out) ((HU.out.below oW).mono oW.size) (by rw [List.length_append,Kb.out];simp;omega) oW.size ?_;intro v2 w2 eH hB2;have sF:=oW.trans hB2;clear hB2)
   | (go_at_call 120;refine (HE.out _ sF).mono ?_;rintro e w3 ⟨rfl,hB3⟩;have iD:=New.below eH hB3;have sG:=sF.trans (hB3.mono sF.size);clear hB3)
   | (at_builtin;go_loud (refine aK _ rfl (.tmp 13) (.tmp 18) rfl w.heap.size _ _ rfl iD (some ⟨b,off+q,none⟩) ys (cap - q) (by rw [VK.out];rfl) (fun h=>by cases h) (HY.out _ _ ((HI.out.below sG).mono sG.size)) (by rw [List.length_append,List.length_append,Kb.out,VK.out];simp;omega) sG.size ?_);intro v4 w4 gI hB4))
  obtain ⟨a4,c4,rfl,_⟩:=New.ints gI;go_ret;exact ⟨_,rfl,gI,sG.trans hB4⟩
end Go.Proofs.YtglohanbpjaieaaGreat
namespace Go.Proofs.YtglohanbpjaieaaGreat
open Go.Proofs Go.RowKit Go.Shelf Go.Maps
theorem Sn.both (X Y:List Int):Tm.plain X++Tm.fu X Y = Tm.eU [] (X++Y) (X++Y).length:=by
 obtain ⟨r,hr⟩:=Sn.EA Y (Tm.aT [] X);have h1:=Sn.oC X [] r;have h2:=Sn.oC Y (Tm.aT [] X) [];have h3:=Sn.oC (X++Y) [] [];rw [← hr] at h1;rw [List.append_nil] at h2 h3;rw [Sn.seen_app] at h3;show Tm.eU [] X X.length++Tm.eU (Tm.aT [] X) Y Y.length = _;rw [h1,h2,h3,List.map_append]
section
namespace Mt
open Wb (App TermSb Same Sb App_cons App_flatten)
structure Dk (n:Nat) (S:Nat→Int) (K:Nat→List Nat) (Z:Nat→List Int):Prop where
 known:∀ k,k < n→-8≤S k∧S k < 6
 room:∀ k,k < n→(K k).length = Tm.room (S k)
 kids:∀ k,k < n→∀ i∈K k,i < n
 sign:∀ k,k < n→Z k = S k :: ((K k).map Z).flatten
 vars:∀ i j,i < n→j < n→S i < 0→S i = S j→i = j
theorem O6 {l:List (List Int)} {x:List Int} (h:x∈l):x.length≤l.flatten.length:=by
 induction l with
 | nil=>simp at h
 | cons y l ih =>
  rw [List.flatten_cons,List.length_append];rcases List.mem_cons.1 h with e | h
  ·subst e;omega
  ·have:=ih h;omega
theorem Dk.O7 {n:Nat} {S:Nat→Int} {K:Nat→List Nat} {Z:Nat→List Int} (G:Dk n S K Z) {k i:Nat} (hk:k < n) (hi:i∈K k):(Z i).length < (Z k).length:=by
 rw [G.sign k hk,List.length_cons];have:=O6 (List.mem_map_of_mem (f:=Z) hi)
 omega
theorem Kr {l:List (List Int)} (h:∀ x∈l,Tm.run x 1 = x.length):Tm.run l.flatten l.length = l.flatten.length :=
 Tm.qD l fun j hj=>by
  rw [List.getElem?_eq_getElem hj];exact h _ (List.getElem_mem hj)
theorem Dk.run {n:Nat} {S:Nat→Int} {K:Nat→List Nat} {Z:Nat→List Int} (G:Dk n S K Z):∀ (m k:Nat),(Z k).length≤m→k < n→Tm.run (Z k) 1 = (Z k).length:=by
 intro m;induction m with
 | zero=>intro k h hk;rw [G.sign k hk,List.length_cons] at h;omega
 | succ m ih =>
  intro k h hk;have e:=G.sign k hk;have hr:Tm.run ((K k).map Z).flatten ((K k).map Z).length = ((K k).map Z).flatten.length:=Kr fun x hx=>by
   obtain ⟨i,hi,rfl⟩:=List.mem_map.1 hx;exact ih i (by have:=G.O7 hk hi;omega) (G.kids k hk i hi)
  rw [List.length_map,G.room k hk] at hr;rw [e,show (1:Nat) = 0+1 from rfl,Tm.bU,Nat.zero_add,hr,List.length_cons];omega
theorem Dk.app {n:Nat} {S:Nat→Int} {K:Nat→List Nat} {Z:Nat→List Int} (G:Dk n S K Z) (θ:Sb) {k:Nat} (hk:k < n) (hs:0≤S k):App θ (Z k) = S k :: ((K k).map fun i=>App θ (Z i)).flatten:=by
 rw [G.sign k hk,App_cons,if_neg (by omega),App_flatten,List.map_map];rfl
theorem Dk.var {n:Nat} {S:Nat→Int} {K:Nat→List Nat} {Z:Nat→List Int} (G:Dk n S K Z) {k:Nat} (hk:k < n) (hs:S k < 0):K k = []∧Z k = [S k]:=by
 have h:=G.room k hk;rw [Wb.gM hs] at h;have e:=List.eq_nil_of_length_eq_zero h;exact ⟨e,by rw [G.sign k hk,e];rfl⟩
theorem Dk.eq {n:Nat} {S:Nat→Int} {K:Nat→List Nat} {Z:Nat→List Int} (G:Dk n S K Z) {θ:Sb} (hθ:TermSb θ) {p q:Nat} (hp:p < n) (hq:q < n) (sp:0≤S p) (sq:0≤S q) (h:App θ (Z p) = App θ (Z q)) :
 S p = S q∧∀ i,i < Tm.room (S p)→App θ (Z ((K p)[i]?.getD 0)) = App θ (Z ((K q)[i]?.getD 0)):=by
 rw [G.app θ hp sp,G.app θ hq sq] at h;obtain ⟨e,h2⟩:=List.cons.inj h;have hrun:∀ r,r < n→∀ x∈(K r).map (fun k=>App θ (Z k)),Tm.run x 1 = x.length:=fun r hr x hx=>by
  obtain ⟨i,hi,rfl⟩:=List.mem_map.1 hx;exact Wb.OB hθ _ 1 (G.run _ i (Nat.le_refl _) (G.kids r hr i hi))
 have h3:=Wb.Cm _ _ (hrun p hp) (hrun q hq) (by rw [List.length_map,List.length_map,G.room p hp,G.room q hq,e]) h2;refine ⟨e,fun i hi=>?_⟩;have h4:=congrArg (fun l:List (List Int)=>l[i]?.getD []) h3;simp only [List.getElem?_map] at h4;have l1:i < (K p).length:=by rw [G.room p hp];exact hi
 have l2:i < (K q).length:=by rw [G.room q hq,← e];exact hi
 rw [List.getElem?_eq_getElem l1,List.getElem?_eq_getElem l2] at h4 ⊢;exact h4
def iY (n:Nat) (Z:Nat→List Int) (C:Nat→Nat) (θ:Sb):Prop:=∀ i j,i < n→j < n→C i = C j→App θ (Z i) = App θ (Z j)
def tied (C:Nat→Nat) (a b:Nat):Nat→Nat:=fun k=>if C k = C a then C b else C k
theorem Qw (C:Nat→Nat) (a b:Nat):tied C a b a = tied C a b b:=by
 unfold tied;rw [if_pos rfl];by_cases e:C b = C a
 ·rw [if_pos e]
 ·rw [if_neg e]
theorem Ca {C:Nat→Nat} {i j:Nat} (a b:Nat) (h:C i = C j):tied C a b i = tied C a b j:=by unfold tied;rw [h]
theorem iY.tie {n:Nat} {Z:Nat→List Int} {C:Nat→Nat} {θ:Sb} (R:iY n Z C θ) {a b:Nat} (ha:a < n) (hb:b < n) (h:App θ (Z a) = App θ (Z b)):iY n Z (tied C a b) θ:=fun i j hi hj e=>by
 unfold tied at e;by_cases h1:C i = C a
 ·rw [if_pos h1] at e
  by_cases h2:C j = C a
  ·rw [R i a hi ha h1,R j a hj ha h2]
  ·rw [if_neg h2] at e
   rw [R i a hi ha h1,h,R b j hb hj e]
 ·rw [if_neg h1] at e
  by_cases h2:C j = C a
  ·rw [if_pos h2] at e
   rw [R i b hi hb e,← h,R j a hj ha h2]
  ·rw [if_neg h2] at e
   exact R i j hi hj e
def cls (n:Nat) (C:Nat→Nat):Nat:=((List.range n).filter fun c=>(List.range n).any fun k=>C k == c).length
theorem kV {n:Nat} {C:Nat→Nat} {c:Nat}:((List.range n).any fun k=>C k == c) = true ↔ ∃ k,k < n∧C k = c:=by simp
theorem VX {n:Nat} {C:Nat→Nat} {a b:Nat} (hC:∀ k,k < n→C k < n) (ha:a < n) (hb:b < n) (hne:C a≠C b):cls n (tied C a b) < cls n C:=by
 refine Wb.filter_lt _ _ _ (fun c _ h=>?_) (C a) (List.mem_range.2 (hC a ha)) ?_ (kV.2 ⟨a,ha,rfl⟩)
 ·obtain ⟨k,hk,e⟩:=kV.1 h
  unfold tied at e;by_cases h1:C k = C a
  ·rw [if_pos h1] at e;exact kV.2 ⟨b,hb,e⟩
  ·rw [if_neg h1] at e;exact kV.2 ⟨k,hk,e⟩
 ·rw [Bool.eq_false_iff]
  intro h;obtain ⟨k,hk,e⟩:=kV.1 h;unfold tied at e;by_cases h1:C k = C a
  ·rw [if_pos h1] at e;exact hne e.symm
  ·rw [if_neg h1] at e;exact h1 e
theorem O8 {n:Nat} {C:Nat→Nat} {a b:Nat} (hC:∀ k,k < n→C k < n) (hb:b < n):∀ k,k < n→tied C a b k < n:=fun k hk=>by
 unfold tied;split
 ·exact hC b hb
 ·exact hC k hk
def Shut (S:Nat→Int) (K:Nat→List Nat) (C:Nat→Nat) (a b:Nat):Prop:=C a = C b→0≤S a→0≤S b→S a = S b∧∀ i,i < Tm.room (S a)→C ((K a)[i]?.getD 0) = C ((K b)[i]?.getD 0)
def sym (n:Nat) (S:Nat→Int) (C:Nat→Nat) (c:Nat):Option Nat:=(List.range n).find? fun k=>decide (C k = c) && decide (0≤S k)
theorem kZ {n:Nat} {S:Nat→Int} {C:Nat→Nat} {c k:Nat} (h:sym n S C c = some k):k < n∧C k = c∧0≤S k:=by
 have h1:=List.find?_some h;have h2:=List.mem_of_find?_eq_some h;simp only [Bool.and_eq_true,decide_eq_true_eq] at h1;exact ⟨List.mem_range.1 h2,h1.1,h1.2⟩
theorem EC {n:Nat} {S:Nat→Int} {C:Nat→Nat} {c:Nat} (h:sym n S C c = none):∀ k,k < n→C k = c→S k < 0:=fun k hk e=>by
 have h1:=List.find?_eq_none.1 h k (List.mem_range.2 hk);simp only [Bool.and_eq_true,decide_eq_true_eq,not_and] at h1;have:=h1 e
 omega
def rnd (n:Nat) (S:Nat→Int) (K:Nat→List Nat) (C:Nat→Nat):Nat→Nat→Bool
 | 0,_=>true
 | f+1,c=>match sym n S C c with
  | none=>false
  | some k=>(K k).any fun i=>rnd n S K C f (C i)
theorem Kt {n:Nat} {S:Nat→Int} {K:Nat→List Nat} {C:Nat→Nat} {f c:Nat} (h:sym n S C c = none):rnd n S K C (f+1) c = false:=by rw [rnd,h]
theorem ED {n:Nat} {S:Nat→Int} {K:Nat→List Nat} {C:Nat→Nat} {f c k:Nat} (h:sym n S C c = some k):rnd n S K C (f+1) c = (K k).any fun i=>rnd n S K C f (C i):=by rw [rnd,h]
def bst (S:Nat→Int) (C:Nat→Nat) (c:Nat):Nat→Int
 | 0=>-9
 | m+1=>if C m = c∧bst S C c m < S m then S m else bst S C c m
theorem TL {S:Nat→Int} {C:Nat→Nat} {c:Nat}:∀ (m k:Nat),k < m→C k = c→S k≤bst S C c m:=by
 intro m;induction m with
 | zero=>intro k h;omega
 | succ m ih =>
  intro k hk e;rw [bst];by_cases h:C m = c∧bst S C c m < S m
  ·rw [if_pos h]
   by_cases e2:k = m
   ·subst e2;exact Int.le_refl _
   ·have:=ih k (by omega) e;omega
  ·rw [if_neg h]
   by_cases e2:k = m
   ·subst e2
    have:¬ bst S C c k < S k:=fun h2=>h ⟨e,h2⟩
    omega
   ·exact ih k (by omega) e
theorem YU {S:Nat→Int} {C:Nat→Nat} {c:Nat}:∀ (m:Nat),bst S C c m = -9∨∃ k,k < m∧C k = c∧bst S C c m = S k:=by
 intro m;induction m with
 | zero=>exact .inl rfl
 | succ m ih =>
  rw [bst];by_cases h:C m = c∧bst S C c m < S m
  ·rw [if_pos h];exact .inr ⟨m,by omega,h.1,rfl⟩
  ·rw [if_neg h]
   rcases ih with e | ⟨k,hk,h1,h2⟩
   ·exact .inl e
   ·exact .inr ⟨k,by omega,h1,h2⟩
theorem Dk.YV {n:Nat} {S:Nat→Int} {K:Nat→List Nat} {Z:Nat→List Int} (G:Dk n S K Z) {C:Nat→Nat} {k:Nat} (hk:k < n):∃ j,j < n∧C j = C k∧bst S C (C k) n = S j:=by
 rcases YU (S:=S) (C:=C) (c:=C k) n with e | h
 ·have:=TL (S:=S) (C:=C) n k hk rfl
  have:=(G.known k hk).1
  omega
 ·exact h
def oI (n:Nat) (S:Nat→Int) (K:Nat→List Nat) (C:Nat→Nat):Nat→Nat→List Int
 | 0,_=>[]
 | f+1,c=>match sym n S C c with
  | none=>[bst S C c n]
  | some k=>S k :: ((K k).map fun i=>oI n S K C f (C i)).flatten
theorem lg {n:Nat} {S:Nat→Int} {K:Nat→List Nat} {C:Nat→Nat} {f c:Nat} (h:sym n S C c = none):oI n S K C (f+1) c = [bst S C c n]:=by rw [oI,h]
theorem jU {n:Nat} {S:Nat→Int} {K:Nat→List Nat} {C:Nat→Nat} {f c k:Nat} (h:sym n S C c = some k):oI n S K C (f+1) c = S k :: ((K k).map fun i=>oI n S K C f (C i)).flatten:=by rw [oI,h]
theorem rz {n:Nat} {S:Nat→Int} {K:Nat→List Nat} {C:Nat→Nat} {f c k:Nat} (h:sym n S C c = some k) (hr:rnd n S K C (f+1) c = false):∀ i∈K k,rnd n S K C f (C i) = false:=fun i hi=>by
 rw [ED h] at hr;have:=List.any_eq_false.1 hr i hi
 simpa using this
theorem TM {n:Nat} {S:Nat→Int} {K:Nat→List Nat} {C:Nat→Nat}:∀ (f c:Nat),rnd n S K C f c = false→oI n S K C (f+1) c = oI n S K C f c:=by
 intro f;induction f with
 | zero=>intro c h;simp [rnd] at h
 | succ f ih =>
  intro c h;cases hs:sym n S C c with
  | none=>rw [lg hs,lg hs]
  | some k =>
   rw [jU hs,jU hs];congr 2;refine List.map_congr_left fun i hi=>?_
   exact ih _ (rz hs h i hi)
theorem VY {n:Nat} {S:Nat→Int} {K:Nat→List Nat} {Z:Nat→List Int} (G:Dk n S K Z) {C:Nat→Nat}:∀ (f k:Nat),k < n→rnd n S K C f (C k) = false→Tm.run (oI n S K C f (C k)) 1 = (oI n S K C f (C k)).length:=by
 intro f;induction f with
 | zero=>intro k _ h;simp [rnd] at h
 | succ f ih =>
  intro k hk h;cases hs:sym n S C (C k) with
  | none =>
   rw [lg hs];obtain ⟨j,hj,e1,e2⟩:=G.YV (C:=C) hk;have:=EC hs j hj e1
   rw [show (1:Nat) = 0+1 from rfl,Tm.bU,Wb.gM (by omega),Tm.cZ];rfl
  | some q =>
   obtain ⟨hq,e1,e2⟩:=kZ hs;rw [jU hs];have hr:=Kr (l:=(K q).map fun i=>oI n S K C f (C i)) fun x hx=>by
    obtain ⟨i,hi,rfl⟩:=List.mem_map.1 hx;exact ih i (G.kids q hq i hi) (rz hs h i hi)
   rw [List.length_map,G.room q hq] at hr;rw [show (1:Nat) = 0+1 from rfl,Tm.bU,Nat.zero_add,hr,List.length_cons];omega
theorem TN {n:Nat} {S:Nat→Int} {K:Nat→List Nat} {Z:Nat→List Int} (G:Dk n S K Z) {C:Nat→Nat}:∀ (f k:Nat),k < n→∀ s∈oI n S K C f (C k),-8≤s∧s < 6:=by
 intro f;induction f with
 | zero=>intro k _ s h;simp [oI] at h
 | succ f ih =>
  intro k hk s h;cases hs:sym n S C (C k) with
  | none =>
   rw [lg hs] at h;obtain ⟨j,hj,e1,e2⟩:=G.YV (C:=C) hk;simp only [List.mem_cons,List.not_mem_nil,or_false] at h;rw [h,e2];exact G.known j hj
  | some q =>
   obtain ⟨hq,e1,e2⟩:=kZ hs;rw [jU hs] at h;rcases List.mem_cons.1 h with e | h
   ·rw [e];exact G.known q hq
   ·obtain ⟨l,hl,hsl⟩:=List.mem_flatten.1 h
    obtain ⟨i,hi,rfl⟩:=List.mem_map.1 hl;exact ih i (G.kids q hq i hi) s hsl
theorem TP {n:Nat} {S:Nat→Int} {K:Nat→List Nat} {Z:Nat→List Int} (G:Dk n S K Z) {C:Nat→Nat} {θ:Sb} (R:iY n Z C θ):∀ (f k:Nat),k < n→rnd n S K C f (C k) = false→App θ (Z k) = App θ (oI n S K C f (C k)):=by
 intro f;induction f with
 | zero=>intro k _ h;simp [rnd] at h
 | succ f ih =>
  intro k hk h;cases hs:sym n S C (C k) with
  | none =>
   obtain ⟨j,hj,e1,e2⟩:=G.YV (C:=C) hk;have:=EC hs j hj e1
   rw [lg hs,e2,R k j hk hj e1.symm,(G.var hj this).2]
  | some q =>
   obtain ⟨hq,e1,e2⟩:=kZ hs;rw [jU hs,R k q hk hq e1.symm,G.app θ hq e2,App_cons,if_neg (by omega),App_flatten,List.map_map];show S q :: _ = S q :: _;congr 2;refine List.map_congr_left fun i hi=>?_
   exact ih i (G.kids q hq i hi) (rz hs h i hi)
theorem YW {n:Nat} {S:Nat→Int} {K:Nat→List Nat} {Z:Nat→List Int} (G:Dk n S K Z) {C:Nat→Nat} (hC:∀ k,k < n→C k < n) {θ:Sb} (R:iY n Z C θ) {k:Nat} (hk:k < n):rnd n S K C (n+1) (C k) = false:=by
 let ln:Nat→Nat:=fun c=>match (List.range n).find? fun j=>decide (C j = c) with
  | some j=>(App θ (Z j)).length
  | none=>0
 have hln:∀ j,j < n→ln (C j) = (App θ (Z j)).length:=fun j hj=>by
  show (match (List.range n).find? fun i=>decide (C i = C j) with
   | some j=>(App θ (Z j)).length
   | none=>0) = _
  cases hf:(List.range n).find? fun i=>decide (C i = C j) with
  | none=>exact absurd (List.find?_eq_none.1 hf j (List.mem_range.2 hj)) (by simp)
  | some i =>
   have h1:=List.find?_some hf;have h2:=List.mem_range.1 (List.mem_of_find?_eq_some hf);simp only [decide_eq_true_eq] at h1;show (App θ (Z i)).length = _;rw [R i j h2 hj h1]
 let g:Nat→Nat:=fun c=>((List.range n).filter fun d=>((List.range n).any fun k=>C k == d) && decide (ln d < ln c)).length
 have hle:∀ f k,k < n→rnd n S K C f (C k) = true→f≤g (C k):=by
  intro f;induction f with
  | zero=>intro k _ _;omega
  | succ f ih =>
   intro k hk h;cases hs:sym n S C (C k) with
   | none=>rw [Kt hs] at h;cases h
   | some q =>
    obtain ⟨hq,e1,e2⟩:=kZ hs;rw [ED hs] at h;obtain ⟨i,hi,h⟩:=List.any_eq_true.1 h;have hin:=G.kids q hq i hi;have h1:=ih i hin h;have hlt:ln (C i) < ln (C k):=by
     rw [hln i hin,hln k hk,R k q hk hq e1.symm,G.app θ hq e2,List.length_cons];have:=O6 (List.mem_map_of_mem (f:=fun i=>App θ (Z i)) hi)
     omega
    have h2:g (C i) < g (C k):=by
     refine Wb.filter_lt _ _ _ (fun d _ h=>?_) (C i) (List.mem_range.2 (hC i hin)) ?_ ?_
     ·simp only [Bool.and_eq_true,decide_eq_true_eq] at h ⊢
      exact ⟨h.1,by omega⟩
     ·simp
     ·simp only [Bool.and_eq_true,decide_eq_true_eq]
      exact ⟨kV.2 ⟨i,hin,rfl⟩,hlt⟩
    omega
 rw [Bool.eq_false_iff];intro h;have h1:=hle _ k hk h;have h2:g (C k)≤n:=by
  refine Nat.le_trans (List.length_filter_le _ _) ?_;simp
 omega
def sig (n:Nat) (S:Nat→Int) (K:Nat→List Nat) (C:Nat→Nat):Sb:=fun v=>match (List.range n).find? fun k=>decide (S k = v) with
 | some k=>oI n S K C (n+1) (C k)
 | none=>[v]
theorem Mw {n:Nat} {S:Nat→Int} {K:Nat→List Nat} {Z:Nat→List Int} (G:Dk n S K Z) (C:Nat→Nat) {k:Nat} (hk:k < n) (hs:S k < 0):sig n S K C (S k) = oI n S K C (n+1) (C k):=by
 unfold sig;cases hf:(List.range n).find? fun i=>decide (S i = S k) with
 | none=>exact absurd (List.find?_eq_none.1 hf k (List.mem_range.2 hk)) (by simp)
 | some i =>
  have h1:=List.find?_some hf;have h2:=List.mem_range.1 (List.mem_of_find?_eq_some hf);simp only [decide_eq_true_eq] at h1;have:=G.vars i k h2 hk (by omega) h1
  subst this;rfl
theorem YX {n:Nat} {S:Nat→Int} {K:Nat→List Nat} {C:Nat→Nat} {v:Int} (h:∀ k,k < n→S k≠v):sig n S K C v = [v]:=by
 unfold sig;rw [List.find?_eq_none.2 fun k hk=>by simpa using h k (List.mem_range.1 hk)]
theorem EE {n:Nat} {S:Nat→Int} {K:Nat→List Nat} {Z:Nat→List Int} (G:Dk n S K Z) (C:Nat→Nat) (v:Int) (hv:v < 0):(∃ k,k < n∧S k = v∧sig n S K C v = oI n S K C (n+1) (C k))∨((∀ k,k < n→S k≠v)∧sig n S K C v = [v]):=by
 by_cases h:∃ k,k < n∧S k = v
 ·obtain ⟨k,hk,rfl⟩:=h
  exact .inl ⟨k,hk,rfl,Mw G C hk hv⟩
 ·have h':∀ k,k < n→S k≠v:=fun k hk e=>h ⟨k,hk,e⟩
  exact .inr ⟨h',YX h'⟩
theorem O9 {n:Nat} {S:Nat→Int} {K:Nat→List Nat} {Z:Nat→List Int} (G:Dk n S K Z) {C:Nat→Nat} (hS:∀ a b,a < n→b < n→Shut S K C a b) (hr:∀ k,k < n→rnd n S K C (n+1) (C k) = false):∀ (m k:Nat),(Z k).length≤m→k < n→App (sig n S K C) (Z k) = oI n S K C (n+1) (C k):=by
 intro m;induction m with
 | zero=>intro k h hk;rw [G.sign k hk,List.length_cons] at h;omega
 | succ m ih =>
  intro k h hk;by_cases hs:S k < 0
  ·rw [(G.var hk hs).2,App_cons,if_pos hs,Mw G C hk hs,Wb.oO,List.append_nil]
  ·cases hy:sym n S C (C k) with
   | none=>exact absurd (EC hy k hk rfl) hs
   | some q =>
    obtain ⟨hq,e1,e2⟩:=kZ hy;obtain ⟨e3,e4⟩:=hS k q hk hq e1.symm (by omega) e2;rw [jU hy,G.app _ hk (by omega),e3];congr 2;refine List.ext_getElem (by rw [List.length_map,List.length_map,G.room k hk,G.room q hq,e3]) fun i h1 h2=>?_
    rw [List.length_map] at h1 h2;rw [List.getElem_map,List.getElem_map];have hi1:=List.getElem_mem h1;have hi2:=List.getElem_mem h2;rw [ih _ (by have:=G.O7 hk hi1;omega) (G.kids k hk _ hi1)];have e5:=e4 i (by rw [← G.room k hk];exact h1);rw [List.getElem?_eq_getElem h1,List.getElem?_eq_getElem h2] at e5;simp only [Option.getD_some] at e5;rw [e5];exact TM n _ (rz hy (hr k hk) _ hi2)
theorem VZ {n:Nat} {S:Nat→Int} {K:Nat→List Nat} {Z:Nat→List Int} (G:Dk n S K Z) {C:Nat→Nat} (hS:∀ a b,a < n→b < n→Shut S K C a b) (hr:∀ k,k < n→rnd n S K C (n+1) (C k) = false) {ps:ah}
 (IV:∀ θ,TermSb θ→Same ps ps.length θ→iY n Z C θ) (htied:∀ j,j < ps.length→∃ a b,a < n∧b < n∧Z a = (ps[j]?.getD ([],[])).1∧Z b = (ps[j]?.getD ([],[])).2∧C a = C b):Wb.Su ps (sig n S K C):=by
 refine ⟨fun s hs=>?_,fun v h1 h2 s hs=>?_,fun j hj=>?_,fun θ hθ H v h1 h2=>?_,fun v u h1 h2 e hu=>?_⟩
 ·rcases EE (K:=K) G C s hs with ⟨k,hk,rfl,e⟩ | ⟨_,e⟩
  ·rw [e];exact VY G _ k hk (hr k hk)
  ·rw [e,show (1:Nat) = 0+1 from rfl,Tm.bU,Wb.gM hs,Tm.cZ];rfl
 ·rcases EE (K:=K) G C v h2 with ⟨k,hk,rfl,e⟩ | ⟨_,e⟩
  ·rw [e] at hs;exact TN G _ k hk s hs
  ·rw [e] at hs
   simp only [List.mem_cons,List.not_mem_nil,or_false] at hs;omega
 ·obtain ⟨a,b,ha,hb,e1,e2,e3⟩:=htied j hj
  rw [← e1,← e2,O9 G hS hr _ a (Nat.le_refl _) ha,O9 G hS hr _ b (Nat.le_refl _) hb,e3]
 ·rcases EE (K:=K) G C v h2 with ⟨k,hk,rfl,e⟩ | ⟨_,e⟩
  ·rw [e,← TP G (IV θ hθ H) _ k hk (hr k hk),(G.var hk h2).2,App_cons,if_pos h2,Wb.oO,List.append_nil]
  ·rw [e,App_cons,if_pos h2,Wb.oO,List.append_nil]
 ·rcases EE (K:=K) G C v h2 with ⟨k,hk,rfl,e2⟩ | ⟨_,e2⟩
  ·rw [e2] at e
   cases hy:sym n S C (C k) with
   | none =>
    rw [lg hy] at e;have:=TL (S:=S) (C:=C) n k hk rfl
    simp only [List.cons.injEq,and_true] at e;omega
   | some q =>
    obtain ⟨hq,e1,e3⟩:=kZ hy;rw [jU hy] at e;have:=(List.cons.inj e).1
    omega
  ·rw [e2] at e
   simp only [List.cons.injEq,and_true] at e;omega
end Mt
end
end Go.Proofs.YtglohanbpjaieaaGreat
