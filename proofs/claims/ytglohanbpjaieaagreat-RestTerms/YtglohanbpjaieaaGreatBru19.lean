/-
  Parts of the proof: Rul10, Rul11, RTrue1, RTrue2, Nor1, Joi1, Clo2, RRef1, RRef2, Clo12, Rst1, Rst2.
-/
import Derived.Test.YtglohanbpjaieaaGreatBru18
import Derived.Test.YtglohanbpjaieaaGreatBru17
set_option maxHeartbeats 2000000
set_option maxRecDepth 100000
namespace Go.Proofs.YtglohanbpjaieaaGreat
open Go.Proofs Go.RowKit Go.Shelf Go.Maps
theorem J8 {fn:Func} {tmps:Array Value} {W:World} {a b B:Nat} {q:Int} (h:fn.results = #[.cell a 43,.cell b 25]) (ha:tmps.getD a undef = .pointer (some ⟨B,0,none⟩)) (hb:tmps.getD b undef = .pointer (some ⟨B+1,0,none⟩)) (b0:Boxed W B 43 (.slice none 0 0)) (b1:Boxed W (B+1) 25 (.int .i64 0)) :
 (results fn tmps).run Tryz.prog ((W.setCell ⟨B,0,none⟩ (.slice none 0 0)).setCell ⟨B+1,0,none⟩ (.int .i64 q)) = .ok (.tuple #[.slice none 0 0,.int .i64 q]) ((W.setCell ⟨B,0,none⟩ (.slice none 0 0)).setCell ⟨B+1,0,none⟩ (.int .i64 q)):=by
 have b1':Boxed (W.setCell ⟨B,0,none⟩ (.slice none 0 0)) (B+1) 25 (.int .i64 0):=(Below.heap_setCell W ⟨B,0,none⟩ _ (B+1) (by show B+1≠B;omega)).trans b1;have b0':Boxed ((W.setCell ⟨B,0,none⟩ (.slice none 0 0)).setCell ⟨B+1,0,none⟩ (.int .i64 q)) B 43 (.slice none 0 0):=(Below.heap_setCell _ ⟨B+1,0,none⟩ _ B (by show B≠B+1;omega)).trans (b0.set _);exact oV h ha hb b0'.cell (b1'.set _).cell
theorem BO (rs:aH) (t:List Int) (al at':Option Addr) (cl ct:Nat) (w:World) (hR:aJ w.heap.size w al rs) (hT:Ints w.heap.size w at' t) (h1:t.length≤ct) (h2:ct≤maxLen) :
 Calls Tryz.prog 18 #[.slice al rs.length cl,.slice at' t.length ct] w fun e w'=>fP rs t w e w':=by
 by_cases hr:Tm.aO rs = 0
 ·by_cases ht:Tm.err t = 0
  ·exact J7 rs t al at' cl ct w hr ht hR hT h1 h2
  ·have e1:Tm.bn rs t = Tm.err t:=by unfold Tm.bn;rw [if_pos hr,if_neg ht]
   have e2:Tm.bD rs t = []:=by unfold Tm.bD;rw [e1,if_neg ht]
   unfold fP;rw [e1,e2];clear e1 e2;obtain ⟨W4,qd⟩:∃ W4,(((w.alloc (.cells #[.slice al rs.length cl] 23)).alloc (.cells #[.slice at' t.length ct] 35)).alloc (.cells #[.slice none 0 0] 43)).alloc (.cells #[.int .i64 0] 25) = W4:=⟨_,rfl⟩;obtain ⟨hB4,bL,bT,b0,b1,hs4⟩:=qJ w W4 al at' rs.length cl t.length ct qd;have HW4:=hid qd;clear qd;have cL4:=bL.cell;have C1:=hid (gL rs al cl W4 ((hR.below hB4).mono hB4.size));rw [hr] at C1;have C2:=hid (fun W (hW:Below W4.heap.size W4 W)=>dZ t at' ct W ((hT.below (hB4.trans (hW.mono hB4.size))).mono (Nat.le_trans hB4.size hW.size)));have hne:(Tm.err t != 0) = true:=by simpa using ht
   clear hr ht hR hT;generalize Tm.err t = q at *;go_enter Tryz.func18,Tryz.ntmps18;go_wp2_with fail;rw [HW4.out];go_wp2_with (first
    | (go_at_call 48;refine C1.out.mono ?_;rintro e w1 ⟨rfl,hB1⟩;have cT1:=(hB1.cell (p:=⟨w.heap.size+1,0,none⟩) (by show w.heap.size+1 < _;omega)).trans bT.cell)
    | (go_at_call 49;refine (C2.out w1 hB1).mono ?_;rintro e w2 ⟨rfl,hB2⟩;have dN:=hB1.trans (hB2.mono hB1.size);have Td:Boxed w2 (w.heap.size+1+1) 43 (.slice none 0 0):=(dN.block _ b0.lt).trans b0;have b18:Boxed w2 (w.heap.size+1+1+1) 25 (.int .i64 0):=(dN.block _ b1.lt).trans b1;have k0:=Td.cell;have k1:=b18.cell;have f0:=Td.frozen;have f1:=b18.frozen;have Iy:Boxed (w2.setCell ⟨w.heap.size+1+1,0,none⟩ (.slice none 0 0)) (w.heap.size+1+1+1) 25 (.int .i64 0):=(Below.heap_setCell w2 ⟨w.heap.size+1+1,0,none⟩ _ (w.heap.size+1+1+1) (by show w.heap.size+1+1+1≠w.heap.size+1+1;omega)).trans b18;have k1':=Iy.cell;have Ro:=Iy.frozen))
   refine bodyPost_ret (J8 rfl rfl rfl Td b18) rfl ?_;have hb:=hB4.trans (dN.mono hB4.size);exact ⟨_,rfl,fI.nil _ _,(hb.setCell (p:=⟨w.heap.size+1+1,0,none⟩) (by show w.heap.size≤w.heap.size+1+1;omega) _).setCell (p:=⟨w.heap.size+1+1+1,0,none⟩) (by show w.heap.size≤w.heap.size+1+1+1;omega) _⟩
 ·have e1:Tm.bn rs t = Tm.aO rs:=by unfold Tm.bn;rw [if_neg hr]
  have e2:Tm.bD rs t = []:=by unfold Tm.bD;rw [e1,if_neg hr]
  unfold fP;rw [e1,e2];clear e1 e2;obtain ⟨W4,qd⟩:∃ W4,(((w.alloc (.cells #[.slice al rs.length cl] 23)).alloc (.cells #[.slice at' t.length ct] 35)).alloc (.cells #[.slice none 0 0] 43)).alloc (.cells #[.int .i64 0] 25) = W4:=⟨_,rfl⟩;obtain ⟨hB4,bL,bT,b0,b1,hs4⟩:=qJ w W4 al at' rs.length cl t.length ct qd;have HW4:=hid qd;clear qd;have cL4:=bL.cell;have C1:=hid (gL rs al cl W4 ((hR.below hB4).mono hB4.size));have hne:(Tm.aO rs != 0) = true:=by simpa using hr
  clear hr hR hT;generalize Tm.aO rs = q at *;go_enter Tryz.func18,Tryz.ntmps18;go_wp2_with fail;rw [HW4.out];go_wp2_with (first
   | (go_at_call 48;refine C1.out.mono ?_;rintro e w2 ⟨rfl,dN⟩;have Td:Boxed w2 (w.heap.size+1+1) 43 (.slice none 0 0):=(dN.block _ b0.lt).trans b0;have b18:Boxed w2 (w.heap.size+1+1+1) 25 (.int .i64 0):=(dN.block _ b1.lt).trans b1;have k0:=Td.cell;have k1:=b18.cell;have f0:=Td.frozen;have f1:=b18.frozen;have Iy:Boxed (w2.setCell ⟨w.heap.size+1+1,0,none⟩ (.slice none 0 0)) (w.heap.size+1+1+1) 25 (.int .i64 0):=(Below.heap_setCell w2 ⟨w.heap.size+1+1,0,none⟩ _ (w.heap.size+1+1+1) (by show w.heap.size+1+1+1≠w.heap.size+1+1;omega)).trans b18;have k1':=Iy.cell;have Ro:=Iy.frozen))
  refine bodyPost_ret (J8 rfl rfl rfl Td b18) rfl ?_;have hb:=hB4.trans (dN.mono hB4.size);exact ⟨_,rfl,fI.nil _ _,(hb.setCell (p:=⟨w.heap.size+1+1,0,none⟩) (by show w.heap.size≤w.heap.size+1+1;omega) _).setCell (p:=⟨w.heap.size+1+1+1,0,none⟩) (by show w.heap.size≤w.heap.size+1+1+1;omega) _⟩
theorem Gj (w:World) (L R:List Int) (nL nR:Nat) (hL:nL = L.length) (hR:nR = R.length) (kL:L.length≤1000) (kR:R.length≤1000) :
 aJ (w.heap.size+1+1+1) (((w.alloc (.cells (L.map (Value.int .i64)).toArray 3)).alloc (.cells (R.map (Value.int .i64)).toArray 3)).alloc (.cells #[.slice (some ⟨w.heap.size,0,none⟩) nL nL,.slice (some ⟨w.heap.size+1,0,none⟩) nR nR] 54)) (some ⟨w.heap.size+1+1,0,none⟩) [(L,R)] ∧
 Below w.heap.size w (((w.alloc (.cells (L.map (Value.int .i64)).toArray 3)).alloc (.cells (R.map (Value.int .i64)).toArray 3)).alloc (.cells #[.slice (some ⟨w.heap.size,0,none⟩) nL nL,.slice (some ⟨w.heap.size+1,0,none⟩) nR nR] 54)):=by
 subst hL hR;obtain ⟨i1,i2,hB⟩:=Yw w L R;obtain ⟨W2,hW2⟩:∃ W2,(w.alloc (.cells (L.map (Value.int .i64)).toArray 3)).alloc (.cells (R.map (Value.int .i64)).toArray 3) = W2:=⟨_,rfl⟩;have hs:W2.heap.size = w.heap.size+1+1:=by rw [← hW2];simp
 rw [hW2] at i1 i2 hB ⊢;clear hW2;have hb:Below W2.heap.size W2 (W2.alloc (.cells #[.slice (some ⟨w.heap.size,0,none⟩) L.length L.length,.slice (some ⟨w.heap.size+1,0,none⟩) R.length R.length] 54)):=(Below.refl _ W2).alloc (Nat.le_refl _) _;have blk:=World.alloc_heap_new W2 (.cells #[.slice (some ⟨w.heap.size,0,none⟩) L.length L.length,.slice (some ⟨w.heap.size+1,0,none⟩) R.length R.length] 54);rw [hs] at blk hb;refine ⟨Ee blk (by omega) fun k hk=>?_,hB.trans (hb.mono (by omega))⟩;obtain rfl:k = 0:=by simp at hk;omega
 exact ⟨_,_,rfl,rfl,(i1.below hb).mono (by omega),(i2.below hb).mono (by omega),kL,kR⟩
def lM:aH:=[([4,0,-1],[-1]),([4,2,-1,-1],[0]),([4,4,-1,-2,-3],[4,-1,4,-2,-3])]
def J9:List (List Int):=[[4,0,-1],[-1],[4,2,-1,-1],[0],[4,4,-1,-2,-3],[4,-1,4,-2,-3]]
theorem Qg (w:World):aJ ((allocs w J9).alloc (.cells #[.slice (some ⟨w.heap.size,0,none⟩) 3 3,.slice (some ⟨w.heap.size+1,0,none⟩) 1 1,.slice (some ⟨w.heap.size+1+1,0,none⟩) 4 4,.slice (some ⟨w.heap.size+1+1+1,0,none⟩) 1 1,.slice (some ⟨w.heap.size+1+1+1+1,0,none⟩) 5 5,.slice (some ⟨w.heap.size+1+1+1+1+1,0,none⟩) 5 5] 54)).heap.size ((allocs w J9).alloc (.cells #[.slice (some ⟨w.heap.size,0,none⟩) 3 3,.slice (some ⟨w.heap.size+1,0,none⟩) 1 1,.slice (some ⟨w.heap.size+1+1,0,none⟩) 4 4,.slice (some ⟨w.heap.size+1+1+1,0,none⟩) 1 1,.slice (some ⟨w.heap.size+1+1+1+1,0,none⟩) 5 5,.slice (some ⟨w.heap.size+1+1+1+1+1,0,none⟩) 5 5] 54)) (some ⟨w.heap.size+1+1+1+1+1+1,0,none⟩) lM ∧
 Below w.heap.size w ((allocs w J9).alloc (.cells #[.slice (some ⟨w.heap.size,0,none⟩) 3 3,.slice (some ⟨w.heap.size+1,0,none⟩) 1 1,.slice (some ⟨w.heap.size+1+1,0,none⟩) 4 4,.slice (some ⟨w.heap.size+1+1+1,0,none⟩) 1 1,.slice (some ⟨w.heap.size+1+1+1+1,0,none⟩) 5 5,.slice (some ⟨w.heap.size+1+1+1+1+1,0,none⟩) 5 5] 54)):=by
 have hs:=JX J9 w;have hb:=zh J9 w;have hi:=JY J9 w;have h6:J9.length = 6:=rfl;rw [h6] at hs hi;obtain ⟨W6,hW⟩:∃ W6,allocs w J9 = W6:=⟨_,rfl⟩;rw [hW] at hs hb hi ⊢;obtain ⟨C,hC⟩:∃ C:Array Value,#[.slice (some ⟨w.heap.size,0,none⟩) 3 3,.slice (some ⟨w.heap.size+1,0,none⟩) 1 1,.slice (some ⟨w.heap.size+1+1,0,none⟩) 4 4,.slice (some ⟨w.heap.size+1+1+1,0,none⟩) 1 1,.slice (some ⟨w.heap.size+1+1+1+1,0,none⟩) 5 5,.slice (some ⟨w.heap.size+1+1+1+1+1,0,none⟩) 5 5] = C:=⟨_,rfl⟩;rw [hC];have blk:=World.alloc_heap_new W6 (.cells C 54);have hb6:Below W6.heap.size W6 (W6.alloc (.cells C 54)):=(Below.refl _ W6).alloc (Nat.le_refl _) _;rw [hs] at blk hb6;rw [World.size_alloc,hs];refine ⟨Ee blk (by omega) fun k hk=>?_,hb.trans (hb6.mono (by omega))⟩;have hk':k < 3:=hk;have hx:=fun i hi6=>((hi i hi6).below hb6).mono (show w.heap.size+6≤w.heap.size+6+1 by omega)
 subst hC;match k,hk' with
 | 0,_=>exact ⟨_,_,rfl,rfl,hx 0 (by omega),hx 1 (by omega),by decide,by decide⟩
 | 1,_=>exact ⟨_,_,rfl,rfl,hx 2 (by omega),hx 3 (by omega),by decide,by decide⟩
 | 2,_=>exact ⟨_,_,rfl,rfl,hx 4 (by omega),hx 5 (by omega),by decide,by decide⟩
theorem Gl (w:World):Calls Tryz.prog 44 #[] w fun e w'=>∃ a,e = .returned (.slice a 3 3)∧aJ w'.heap.size w' a lM∧Below w.heap.size w w':=by
 have h:=hid (Qg w);go_enter Tryz.func44,Tryz.ntmps44;go_wp2;go_ret;exact ⟨_,rfl,h.out.1,h.out.2⟩
theorem fI.at {base:Nat} {W:World} {v:Value} {iN:jh} (h:fI base W v iN) (hp:0 < iN.length):∃ g cap,v = .slice (some ⟨g,0,none⟩) iN.length cap∧∀ j,j < iN.length→∃ ad c,W.cell? ⟨g,j * 3,none⟩ = some (.int .i64 ((iN[j]?.getD (0,0,[])).1:Int))∧W.cell? ⟨g,j * 3+1,none⟩ = some (.int .i64 ((iN[j]?.getD (0,0,[])).2.1:Int)) ∧
 W.cell? ⟨g,j * 3+2,none⟩ = some (.slice ad (iN[j]?.getD (0,0,[])).2.2.length c)∧Ints W.heap.size W ad (iN[j]?.getD (0,0,[])).2.2∧(iN[j]?.getD (0,0,[])).2.2.length≤c∧c≤maxLen:=by
 obtain ⟨us,h1,h2⟩:=h;have hl:us.length = iN.length * 3:=h1.1;rcases h1.2 with ⟨rfl,hn⟩ | ⟨g,cap,cur,rfl,r⟩
 ·omega
 ·refine ⟨g,cap,rfl,fun j hj=>?_⟩
  obtain ⟨u,q1,q2,q3,hN⟩:=h2 j hj;obtain ⟨ad,c,rfl,hI,c1,c2⟩:=New.ints hN;have cc:=fun k hk=>World.ownsRow.cellAt h1 k hk
  exact ⟨ad,c,by rw [cc _ (by omega),q1],by rw [cc _ (by omega),q2],by rw [cc _ (by omega),q3],hI,c1,c2⟩
theorem Tm.Te {rs:aH} {t:List Int} {a:Nat} {x:Nat × Nat × List Int}:∀ n,x∈Tm.lK rs t a n→x.1 < n∧x.2.1 = a∧Tm.rF rs t a x.1 = true∧x.2.2 = Tm.oU rs t a x.1:=by
 intro n;induction n with
 | zero=>intro h;simp [Tm.lK] at h
 | succ n ih =>
  intro h;rw [Tm.lK,List.mem_append] at h;rcases h with h | h
  ·obtain ⟨h1,h2⟩:=ih h
   exact ⟨by omega,h2⟩
  ·split at h
   ·simp only [List.mem_cons,List.not_mem_nil,or_false] at h
    subst h;exact ⟨by simp,rfl,by assumption,rfl⟩
   ·simp at h
theorem Tm.Tf {rs:aH} {t:List Int} {x:Nat × Nat × List Int}:∀ m,x∈Tm.jO rs t m→x.2.1 < m∧x.1 < rs.length∧Tm.rF rs t x.2.1 x.1 = true∧x.2.2 = Tm.oU rs t x.2.1 x.1:=by
 intro m;induction m with
 | zero=>intro h;simp [Tm.jO] at h
 | succ m ih =>
  intro h;rw [Tm.jO,List.mem_append] at h;rcases h with h | h
  ·obtain ⟨h1,h2⟩:=ih h
   exact ⟨by omega,h2⟩
  ·obtain ⟨h1,h2,h3,h4⟩:=Tm.Te _ h
   rw [h2];exact ⟨by omega,h1,h3,h4⟩
theorem Tm.Tg {rs:aH} {t:List Int} {a:Nat}:∀ n,Tm.rowE rs t a n = 0→∀ k,k < n→Tm.rF rs t a k = true→Tm.je rs t a k = 0:=by
 intro n;induction n with
 | zero=>intro _ k hk;omega
 | succ n ih =>
  intro h k hk hb;rw [Tm.rowE] at h;by_cases h0:Tm.rowE rs t a n = 0
  ·rw [if_pos h0] at h
   by_cases e:k = n
   ·subst e;rw [if_pos hb] at h;exact h
   ·exact ih h0 k (by omega) hb
  ·rw [if_neg h0] at h;exact absurd h h0
theorem Tm.Ti {rs:aH} {t:List Int}:∀ m,Tm.mf rs t m = 0→∀ a,a < m→∀ k,k < rs.length→Tm.rF rs t a k = true→Tm.je rs t a k = 0:=by
 intro m;induction m with
 | zero=>intro _ a ha;omega
 | succ m ih =>
  intro h a ha;rw [Tm.mf] at h;by_cases h0:Tm.mf rs t m = 0
  ·rw [if_pos h0] at h
   by_cases e:a = m
   ·subst e;exact Tm.Tg _ h
   ·exact ih h0 a (by omega)
  ·rw [if_neg h0] at h;exact absurd h h0
structure Tm.Tj (L R t u:List Int) (a:Nat) (m:nT):Prop where
 fit:Tm.fit L (Tm.part t a) = some m
 goes:u = Tm.put t a (Tm.applied (Tm.gp m 8) R)
 small:u.length≤30
theorem Tm.Tk {rs:aH} {t:List Int} {a k:Nat} (hr:Tm.aO rs = 0) (ht:Tm.err t = 0) (ha:a < t.length) (hk:k < rs.length) (hb:Tm.rF rs t a k = true) (he:Tm.je rs t a k = 0) :
 ∃ m,Tm.Tj (rs[k]?.getD ([],[])).1 (rs[k]?.getD ([],[])).2 t (Tm.oU rs t a k) a m:=by
 obtain ⟨_,hall⟩:=Tm.di hr;obtain ⟨hL,hR,_⟩:=Tm.bI (hall k hk);rw [Tm.J4 hL ht ha,Option.isSome_iff_exists] at hb;obtain ⟨m,hm⟩:=hb;obtain ⟨e1,e2⟩:=Tm.OP hL hR ht ha hm;rw [he] at e1;by_cases jD:30 < (Tm.put t a (Tm.applied (Tm.gp m 8) (rs[k]?.getD ([],[])).2)).length
 ·rw [if_pos jD] at e1;omega
 ·rw [if_neg jD] at e2
  exact ⟨m,hm,e2,by rw [e2];omega⟩
theorem Tm.Tj.parts {L R t u:List Int} {a:Nat} {m:nT} (h:Tm.Tj L R t u a m) (hL:Tm.err L = 0) (hR:Tm.err R = 0) (ht:Tm.err t = 0) (ha:a < t.length) :
 Terms (Tm.gp m 8)∧Tm.applied (Tm.gp m 8) L = Tm.part t a∧Tm.err (Tm.applied (Tm.gp m 8) R) = 0∧Tm.err u = 0:=by
 have hs:=Terms.of (Tm.qH hL (Tm.dC ht ha) h.fit);have hl:=h.small;have hle:=Tm.qG (t:=t) (u:=Tm.applied (Tm.gp m 8) R) (a:=a);rw [← h.goes] at hle;have hu:=Tm.kQ hs hR (by omega);refine ⟨hs,Tm.Qh hL (Tm.dC ht ha) h.fit,hu,?_⟩;rw [h.goes];exact Tm.OY ht hu ha (by rw [← h.goes];exact hl)
theorem Tm.jQ {rs:aH} {t:List Int} (h:Tm.bn rs t = 0):Tm.aO rs = 0∧Tm.err t = 0∧Tm.mf rs t t.length = 0:=by
 unfold Tm.bn at h;by_cases h1:Tm.aO rs = 0
 ·rw [if_pos h1] at h
  by_cases h2:Tm.err t = 0
  ·rw [if_pos h2] at h;exact ⟨h1,h2,h⟩
  ·rw [if_neg h2] at h;exact absurd h h2
 ·rw [if_neg h1] at h;exact absurd h h1
theorem Eo {n:Nat} (h:n≠0):((n:Int) == 0) = false:=by rw [beq_eq_false_iff_ne];omega
theorem OZ {n:Nat} (h:n = 0):((n:Int) == 0) = true:=by rw [beq_iff_eq];omega
def Tm.fm (rs:aH):Nat→List Int→Nat→List Int × Nat × Int
 | 0,_,_=>([],0,2)
 | f+1,t,k=>if Tm.bn rs t = 0 then (match Tm.bD rs t with | []=>(t,k,0) | s :: _=>Tm.fm rs f s.2.2 (k+1)) else ([],0,Tm.bn rs t)
def Tm.form (rs:aH) (t:List Int):List Int × Nat × Int:=Tm.fm rs 61 t 0
theorem Tm.Iz {rs:aH} {t:List Int} {f k:Nat} (h:Tm.bn rs t≠0):Tm.fm rs (f+1) t k = ([],0,Tm.bn rs t):=by rw [Tm.fm,if_neg h]
theorem Tm.Me {rs:aH} {t:List Int} {f k:Nat} (h:Tm.bn rs t = 0) (hn:(Tm.bD rs t).length = 0):Tm.fm rs (f+1) t k = (t,k,0):=by
 rw [Tm.fm,if_pos h,List.eq_nil_of_length_eq_zero hn]
theorem Tm.Tn {rs:aH} {t:List Int} {f k:Nat} (h:Tm.bn rs t = 0) (hn:0 < (Tm.bD rs t).length):Tm.fm rs (f+1) t k = Tm.fm rs f ((Tm.bD rs t)[0]?.getD (0,0,[])).2.2 (k+1):=by
 rw [Tm.fm,if_pos h];cases hs:Tm.bD rs t with
 | nil=>rw [hs] at hn;simp at hn
 | cons s l=>rfl
theorem kT (zs:List Int) (a:Option Addr) (cap:Nat) (w:World) (he:Tm.err zs = 0) (hI:Ints w.heap.size w a zs) :
 Calls Tryz.prog 47 #[.slice a zs.length cap] w fun e w'=>∃ v,e = .returned v∧New w.heap.size w' v zs∧Below w.heap.size w w':=by
 obtain ⟨b,off,rfl,_,_⟩:=hI.at (Tm.bM he);exact FV zs b off cap w (Tm.aI he) hI
theorem om (rs:aH) (t:List Int) (al at':Option Addr) (cl ct:Nat) (w:World) (hR:aJ w.heap.size w al rs) (hT:Ints w.heap.size w at' t) (h1:t.length≤ct) (h2:ct≤maxLen) :
 Calls Tryz.prog 17 #[.slice al rs.length cl,.slice at' t.length ct] w fun e w'=>∃ v,e = .returned (.tuple #[v,.int .i64 ((Tm.form rs t).2.1:Int),.int .i64 (Tm.form rs t).2.2])∧New w.heap.size w' v (Tm.form rs t).1∧Below w.heap.size w w':=by
 unfold Tm.form;generalize hg:Tm.fm rs 61 t 0 = res;have HR:=hid hR;clear hR;go_enter Tryz.func17,Tryz.ntmps17;go_wp2;go_loopw [1,10] (fun tv v wr=>∃ (k:Nat) (u:List Int) (a:Option Addr) (c:Nat),k≤61∧v = .int .i64 (k:Int)∧tv = .slice a u.length c∧Hid (Ints wr.heap.size wr a u)∧u.length≤c∧c≤maxLen∧Hid (Tm.fm rs (61 - k) u k = res)∧Below w.heap.size w wr) (fun _ v _=>61 - (intOf v).toNat)
 case atStart=>exact ⟨0,t,at',ct,by omega,rfl,rfl,hid hT,h1,h2,hid hg,Below.refl _ _⟩
 case round =>
  obtain ⟨k,u,a,c,hk,rfl,rfl,hI,hc1,hc2,hst,hB⟩:=hrel;by_cases hlt:k < 61
  ·have hlt':(k:Int) < 61:=by omega
   have hC:=hid (BO rs u al a cl c wr ((HR.out.below hB).mono hB.size) hI.out hc1 hc2);obtain ⟨f,hf⟩:∃ f,61 - k = f+1:=⟨60 - k,by omega⟩;rw [hf] at hst;by_cases he:Tm.bn rs u = 0
   ·obtain ⟨_,hu,_⟩:=Tm.jQ he
    by_cases hn:(Tm.bD rs u).length = 0
    ·have hr:=hid ((Tm.Me (f:=f) (k:=k) he hn).symm.trans hst.out)
     have hCl:=hid (fun W (hW:Below wr.heap.size wr W)=>kT u a c W hu ((hI.out.below hW).mono hW.size));unfold fP at hC;rw [he,List.eq_nil_of_length_eq_zero hn] at hC;clear he hn hu hst hI;go_wp2_with (first
      | (go_at_call 18;refine hC.out.mono ?_;clear hC;rintro e w1 ⟨v1,rfl,hN1,b1⟩;obtain ⟨va,vc,rfl⟩:=hN1.slice;have HN:=hid hN1;clear hN1)
      | (go_at_call 47;refine (hCl.out w1 b1).mono ?_;clear hCl;rintro e w2 ⟨v2,rfl,eH,b2⟩;obtain ⟨xa,xc,rfl,_⟩:=New.ints eH))
     go_ret3
     have B1:=hB.trans (b1.mono hB.size);rw [← hr.out];exact ⟨_,rfl,eH.mono B1.size,B1.trans (b2.mono B1.size)⟩
    ·have hp:0 < (Tm.bD rs u).length:=by omega
     have hr:=hid ((Tm.Tn (f:=f) (k:=k) he hp).symm.trans hst.out);have hle:=hid (show (Tm.bD rs u).length≤1000 by
      obtain ⟨k1,k2,k3⟩:=Tm.jQ he;have h3:=Tm.Im rs u u.length;have h4:=Tm.aI k2;have h5:=(Tm.di k1).1;have h6:u.length * rs.length≤30 * 8:=Nat.mul_le_mul h4 h5;unfold Tm.bD;rw [if_pos he];omega)
     unfold fP at hC;rw [he] at hC;have hff:f = 61 - (k+1):=by omega
     rw [hff] at hr;clear he hn hu hst hI hf hff;generalize Tm.bD rs u = iN at *;have hpi:(0:Int) < (iN.length:Int):=by omega
     have hne:((iN.length:Int) == 0) = false:=Eo (by omega);go_wp2_with (first
      | (go_at_call 18;refine hC.out.mono ?_;clear hC;rintro e w1 ⟨v1,rfl,hN1,b1⟩;obtain ⟨g,cg,rfl,hat⟩:=hN1.at hp;obtain ⟨x0,y0,_,_,c02,i0,q0,q1⟩:=hat 0 hp;clear hat;simp only [Nat.zero_mul,Nat.zero_add] at c02;have HN:=hid hN1;clear hN1;generalize (iN[0]?.getD (0,0,[])).2.2 = u1 at *))
     go_roundw
     case rel=>exact ⟨k+1,u1,x0,y0,by omega,by go_num,rfl,hid i0,q0,q1,hid hr.out,hB.trans (b1.mono hB.size)⟩
     case measure=>simp [intOf];omega
   ·have hr:=hid ((Tm.Iz (f:=f) (k:=k) he).symm.trans hst.out)
    have hne:(Tm.bn rs u != 0) = true:=by simpa using he
    unfold fP at hC;clear he hst hI;generalize Tm.bn rs u = q at *;go_wp2_with (first
     | (go_at_call 18;refine hC.out.mono ?_;clear hC;rintro e w1 ⟨v1,rfl,hN1,b1⟩;obtain ⟨va,vc,rfl⟩:=hN1.slice;clear hN1))
    go_ret3
    rw [← hr.out];exact ⟨_,rfl,New.nil _ _,hB.trans (b1.mono hB.size)⟩
  ·obtain rfl:k = 61:=by omega
   have hr:=hst.out;rw [Nat.sub_self,Tm.fm] at hr;have Hr:=hid hr;clear hr hst hI;go_wp2;go_ret3
   rw [← Hr.out];exact ⟨_,rfl,New.nil _ _,hB⟩
def Tm.IA (rs:aH) (t:List Int):Bool:=decide (Tm.bn rs t = 0) && decide ((Tm.bD rs t).length = 0)
theorem Mf (rs:aH) (t:List Int) (al at':Option Addr) (cl ct:Nat) (w:World) (hR:aJ w.heap.size w al rs) (hT:Ints w.heap.size w at' t) (h1:t.length≤ct) (h2:ct≤maxLen) :
 Calls Tryz.prog 45 #[.slice al rs.length cl,.slice at' t.length ct] w fun e w'=>e = .returned (.tuple #[.bool (Tm.IA rs t),.int .i64 (Tm.bn rs t)])∧Below w.heap.size w w':=by
 have hC:=hid (BO rs t al at' cl ct w hR hT h1 h2);unfold fP at hC;unfold Tm.IA;clear hR hT h1 h2;by_cases he:Tm.bn rs t = 0
 ·rw [he] at hC ⊢
  clear he;generalize Tm.bD rs t = iN at *;by_cases hn:iN.length = 0
  ·obtain rfl:=List.eq_nil_of_length_eq_zero hn
   clear hn;go_enter Tryz.func45,Tryz.ntmps45;go_wp2_with (first
    | (go_at_call 18;refine hC.out.mono ?_;clear hC;rintro e w1 ⟨v1,rfl,hN1,b1⟩;obtain ⟨va,vc,rfl⟩:=hN1.slice;clear hN1))
   go_ret2
   exact ⟨rfl,b1⟩
  ·have hne:((iN.length:Int) == 0) = false:=Eo hn
   rw [decide_eq_false hn];clear hn;go_enter Tryz.func45,Tryz.ntmps45;go_wp2_with (first
    | (go_at_call 18;refine hC.out.mono ?_;clear hC;rintro e w1 ⟨v1,rfl,hN1,b1⟩;obtain ⟨va,vc,rfl⟩:=hN1.slice;clear hN1))
   go_ret2
   exact ⟨rfl,b1⟩
 ·have hne:(Tm.bn rs t == 0) = false:=by simpa using he
  rw [decide_eq_false he,Bool.false_and];clear he;generalize Tm.bn rs t = q at *;go_enter Tryz.func45,Tryz.ntmps45;go_wp2_with (first
   | (go_at_call 18;refine hC.out.mono ?_;clear hC;rintro e w1 ⟨v1,rfl,hN1,b1⟩;obtain ⟨va,vc,rfl⟩:=hN1.slice;clear hN1))
  go_ret2
  exact ⟨rfl,b1⟩
def Tm.dM (rs:aH) (P Q:List Int):Int:=if (Tm.form rs P).2.2 = 0 then (Tm.form rs Q).2.2 else (Tm.form rs P).2.2
theorem Tm.Ep {ps:ah}:∀ k,k < ps.length→(∀ j,j < k→Tm.bV (ps[j]?.getD ([],[])).1 (ps[j]?.getD ([],[])).2 = 0)→Tm.bV (ps[k]?.getD ([],[])).1 (ps[k]?.getD ([],[])).2≠0→Tm.firstPair ps = Tm.bV (ps[k]?.getD ([],[])).1 (ps[k]?.getD ([],[])).2:=by
 induction ps with
 | nil=>intro k hk;simp at hk
 | cons p l ih =>
  intro k hk h1 h2;cases k with
  | zero=>simp only [List.getElem?_cons_zero,Option.getD_some] at h2 ⊢;rw [Tm.firstPair,if_neg h2]
  | succ k =>
   have h0:=h1 0 (by omega);simp only [List.getElem?_cons_zero,Option.getD_some] at h0;simp only [List.getElem?_cons_succ] at h2 ⊢;rw [Tm.firstPair,if_pos h0];exact ih k (by simpa using hk) (fun j hj=>by simpa using h1 (j+1) (by omega)) h2
theorem Tm.Er {ps:ah} (h:∀ k,k < ps.length→Tm.bV (ps[k]?.getD ([],[])).1 (ps[k]?.getD ([],[])).2 = 0):Tm.firstPair ps = 0:=by
 induction ps with
 | nil=>rfl
 | cons p l ih =>
  rw [Tm.firstPair,if_pos (by simpa using h 0 (by simp))];exact ih fun k hk=>by simpa using h (k+1) (by simpa using hk)
theorem Tm.nC {ps:ah} (h:Tm.firstPair ps = 0):∀ k,k < ps.length→Tm.err (ps[k]?.getD ([],[])).1 = 0∧Tm.err (ps[k]?.getD ([],[])).2 = 0:=by
 induction ps with
 | nil=>intro k hk;simp at hk
 | cons p l ih =>
  intro k hk;by_cases h0:Tm.bV p.1 p.2 = 0
  ·rw [Tm.firstPair,if_pos h0] at h
   cases k with
   | zero=>simpa using Tm.jN.1 h0
   | succ k=>simpa using ih h k (by simpa using hk)
  ·rw [Tm.firstPair,if_neg h0] at h
   exact absurd h h0
def Tm.gU (ps:ah):Int:=if 40 < ps.length then 2 else Tm.firstPair ps
def Tm.jo (rk:List Int) (ps:ah):Int:=if Tm.aZ rk = 0 then Tm.gU ps else Tm.aZ rk
theorem FE (rk:List Int) (ps:ah) (ar a:Option Addr) (cr cap:Nat) (w:World) (hR:Ints w.heap.size w ar rk) (hP:aJ w.heap.size w a ps) (hl:ps.length≤maxLen) :
 Calls Tryz.prog 38 #[.slice ar rk.length cr,.slice a ps.length cap] w fun e w'=>e = .returned (.int .i64 (Tm.jo rk ps))∧Below w.heap.size w w':=by
 have hl':(ps.length:Int)≤9223372036854775807:=by unfold maxLen at hl;omega
 have hi0:∀ x y W,(Instr.index 88 (.agg #[x,y]) (.int .i64 0)).run Tryz.prog W = .ok x W:=fun _ _ _=>by kernel_rfl
 have hi1:∀ x y W,(Instr.index 88 (.agg #[x,y]) (.int .i64 1)).run Tryz.prog W = .ok y W:=fun _ _ _=>by kernel_rfl
 have hC:=hid (mI rk ar cr w hR);have HP:=hid hP;have hB:Hid (Tm.jo rk ps = if Tm.aZ rk = 0 then Tm.gU ps else Tm.aZ rk):=rfl;clear hR hP;by_cases hk:Tm.aZ rk = 0
 ·rw [if_pos hk] at hB
  rw [hk] at hC;rw [hB.out];clear hk hB;by_cases Di:40 < ps.length
  ·have LW:(40:Int) < (ps.length:Int):=by omega
   have hE:Hid (Tm.gU ps = 2):=by unfold Tm.gU;rw [if_pos Di];exact hid rfl
   rw [hE.out];clear Di hE;go_enter Tryz.func38,Tryz.ntmps38;go_wp2_with (go_at_call 66;refine hC.out.mono ?_;rintro e w ⟨rfl,rfl⟩)
   go_ret;exact ⟨rfl,Below.refl _ _⟩
  ·have LW:¬ (40:Int) < (ps.length:Int):=by omega
   have aic:(ps.length:Int)≤40:=by omega
   have hE:Hid (Tm.gU ps = Tm.firstPair ps):=by unfold Tm.gU;rw [if_neg Di];exact hid rfl
   rw [hE.out];clear Di hE;have FC:=hid (fun k h1 h2 h3=>Tm.Ep (ps:=ps) k h1 h2 h3);have nH:=hid (fun h=>Tm.Er (ps:=ps) h);go_enter Tryz.func38,Tryz.ntmps38;go_wp2_with (go_at_call 66;refine hC.out.mono ?_;rintro e w ⟨rfl,rfl⟩)
   go_loopw [21] (fun v wr=>∃ k:Nat,k≤ps.length∧v = .int .i64 (k:Int)∧Hid (∀ j,j < k→Tm.bV (ps[j]?.getD ([],[])).1 (ps[j]?.getD ([],[])).2 = 0)∧Below w.heap.size w wr) (fun v _=>ps.length - (intOf v).toNat)
   case atStart=>exact ⟨0,Nat.zero_le _,rfl,fun j hj=>by omega,Below.refl _ _⟩
   case round =>
    obtain ⟨k,hk,rfl,hst,hB⟩:=hrel;by_cases hlt:k < ps.length
    ·have hlt':(k:Int) < (ps.length:Int):=by omega
     obtain ⟨b,off,rfl,hb,aL,cL,aR,cR,g1,g2,g3,g4,g5,g6,g7,g8⟩:=(HP.out.below hB) k hlt;have hbad:=hid (FC.out k hlt hst.out);have hnext:Hid (Tm.bV (ps[k]?.getD ([],[])).1 (ps[k]?.getD ([],[])).2 = 0→∀ j,j < k+1→Tm.bV (ps[j]?.getD ([],[])).1 (ps[j]?.getD ([],[])).2 = 0):=fun h j hj=>if e:j = k then e ▸ h else hst.out j (by omega)
     have hpe:Hid (Tm.bV (ps[k]?.getD ([],[])).1 (ps[k]?.getD ([],[])).2 = if Tm.err (ps[k]?.getD ([],[])).1 = 0 then Tm.err (ps[k]?.getD ([],[])).2 else Tm.err (ps[k]?.getD ([],[])).1):=rfl;generalize (ps[k]?.getD ([],[])).1 = P at *;generalize (ps[k]?.getD ([],[])).2 = Q at *;have hBa:Below wr.heap.size wr (wr.alloc (.cells #[.slice aL P.length cL,.slice aR Q.length cR] 40)):=(Below.refl _ _).alloc (Nat.le_refl _) _;have bx:=bZ.new wr 40 (.slice aL P.length cL) (.slice aR Q.length cR);have y0:=bx.cell0;have y1:=bx.cell1;have VH:=hB.trans (hBa.mono hB.size);obtain ⟨W1,hW1⟩:∃ W1,wr.alloc (.cells #[.slice aL P.length cL,.slice aR Q.length cR] 40) = W1:=⟨_,rfl⟩;rw [hW1] at hBa y0 y1 VH;have HW1:=hid hW1;have jw:=hid (dZ P aL cL W1 (((g3.mono hB.size).below hBa).mono hBa.size));have hC2:=hid (fun W (hW:Below W1.heap.size W1 W)=>dZ Q aR cR W ((((g4.mono hB.size).below (hBa.trans (hW.mono hBa.size)))).mono (Nat.le_trans hBa.size hW.size)));clear g3 g4 bx hW1;by_cases e1:Tm.err P = 0
     ·rw [e1] at jw
      rw [if_pos e1] at hpe;by_cases e2:Tm.err Q = 0
      ·rw [e2] at hC2 hpe
       have hn:=hid (hnext.out hpe.out);clear e1 e2 hbad hnext hpe FC nH;go_wp2_with fail;rw [HW1.out];refine wp_loop_rounds 3 ?_;rw [rounds_succ];go_wp2_with (go_at_call 49;refine jw.out.mono ?_;rintro e w2 ⟨rfl,b2⟩)
       rw [rounds_succ];go_wp2_with (go_at_call 49;refine (hC2.out w2 b2).mono ?_;rintro e w3 ⟨rfl,b3⟩)
       rw [rounds_succ];go_wp2;go_roundw
       case rel=>exact ⟨k+1,by omega,by go_num,hn,(VH.trans (b2.mono VH.size)).trans (b3.mono (Nat.le_trans VH.size b2.size))⟩
       case measure=>simp [intOf];omega
      ·have hne:(Tm.err Q != 0) = true:=by simpa using e2
       have hA:=hid ((hbad.out (by rw [hpe.out];exact e2)).trans hpe.out);clear e1 e2 hbad hnext hpe FC nH;generalize Tm.err Q = q at *;go_wp2_with fail;rw [HW1.out];refine wp_loop_rounds 3 ?_;rw [rounds_succ];go_wp2_with (go_at_call 49;refine jw.out.mono ?_;rintro e w2 ⟨rfl,b2⟩)
       rw [rounds_succ];go_wp2_with (go_at_call 49;refine (hC2.out w2 b2).mono ?_;rintro e w3 ⟨rfl,b3⟩)
       go_ret;exact ⟨by rw [hA.out];rfl,(VH.trans (b2.mono VH.size)).trans (b3.mono (Nat.le_trans VH.size b2.size))⟩
     ·have hne:(Tm.err P != 0) = true:=by simpa using e1
      rw [if_neg e1] at hpe;have hA:=hid ((hbad.out (by rw [hpe.out];exact e1)).trans hpe.out);clear e1 hbad hnext hpe FC nH hC2;generalize Tm.err P = q at *;go_wp2_with fail;rw [HW1.out];refine wp_loop_rounds 3 ?_;rw [rounds_succ];go_wp2_with (go_at_call 49;refine jw.out.mono ?_;rintro e w2 ⟨rfl,b2⟩)
      go_ret;exact ⟨by rw [hA.out];rfl,VH.trans (b2.mono VH.size)⟩
    ·obtain rfl:k = ps.length:=by omega
     have hA:=hid (nH.out hst.out);clear FC nH;go_wp2;go_ret;exact ⟨by rw [hA.out];rfl,hB⟩
 ·rw [if_neg hk] at hB
  have hne:(Tm.aZ rk != 0) = true:=by simpa using hk
  rw [hB.out];clear hk hB;generalize Tm.aZ rk = q at *;go_enter Tryz.func38,Tryz.ntmps38;go_wp2_with (go_at_call 66;refine hC.out.mono ?_;rintro e w ⟨rfl,rfl⟩)
  go_ret;exact ⟨rfl,Below.refl _ _⟩
def Tm.iB (rk:List Int) (rs:aH) (ps:ah):Int :=
 if Tm.jo rk ps = 0 then (if Tm.dD rk rs = 0 then (if Tm.dJ rk rs = true then (if ps.length = 0 then 5 else 0) else 6) else Tm.dD rk rs) else Tm.jo rk ps
theorem FH (rk:List Int) (rs:aH) (ps:ah) (ar al a:Option Addr) (cr cl cap:Nat) (w:World) (hR:Ints w.heap.size w ar rk) (hL:aJ w.heap.size w al rs) (hP:aJ w.heap.size w a ps) (hl:ps.length≤maxLen) :
 Calls Tryz.prog 27 #[.slice ar rk.length cr,.slice al rs.length cl,.slice a ps.length cap] w fun e w'=>e = .returned (.int .i64 (Tm.iB rk rs ps))∧Below w.heap.size w w':=by
 have hl':(ps.length:Int)≤9223372036854775807:=by unfold maxLen at hl;omega
 have hC:=hid (FE rk ps ar a cr cap w hR hP hl);have hF:=hid (fun W (hW:Below w.heap.size w W)=>Eg rk rs ar al cr cl W ((hR.below hW).mono hW.size) ((hL.below hW).mono hW.size));have hE:Hid (Tm.iB rk rs ps = if Tm.jo rk ps = 0 then (if Tm.dD rk rs = 0 then (if Tm.dJ rk rs = true then (if ps.length = 0 then 5 else 0) else 6) else Tm.dD rk rs) else Tm.jo rk ps):=rfl;rw [hE.out];clear hR hL hP hE;generalize Tm.jo rk ps = qb at *;generalize Tm.dD rk rs = qe at *;generalize Tm.dJ rk rs = qf at *;by_cases h1:qb = 0
 ·subst h1
  rw [if_pos rfl];by_cases h2:qe = 0
  ·subst h2
   rw [if_pos rfl];cases qf with
   | true =>
    rw [if_pos rfl];by_cases h3:ps.length = 0
    ·have h3':((ps.length:Int) == 0) = true:=OZ h3
     rw [if_pos h3];clear h3;go_enter Tryz.func27,Tryz.ntmps27;go_wp2_with fail;refine hC.out.mono ?_;rintro e w1 ⟨rfl,b1⟩;go_wp2_with fail;refine (hF.out w1 b1).mono ?_;rintro e w2 ⟨rfl,b2⟩;go_wp2;go_ret;exact ⟨rfl,b1.trans (b2.mono b1.size)⟩
    ·have h3':((ps.length:Int) == 0) = false:=Eo h3
     rw [if_neg h3];clear h3;go_enter Tryz.func27,Tryz.ntmps27;go_wp2_with fail;refine hC.out.mono ?_;rintro e w1 ⟨rfl,b1⟩;go_wp2_with fail;refine (hF.out w1 b1).mono ?_;rintro e w2 ⟨rfl,b2⟩;go_wp2;go_ret;exact ⟨rfl,b1.trans (b2.mono b1.size)⟩
   | false =>
    rw [if_neg (by simp)];go_enter Tryz.func27,Tryz.ntmps27;go_wp2_with fail;refine hC.out.mono ?_;rintro e w1 ⟨rfl,b1⟩;go_wp2_with fail;refine (hF.out w1 b1).mono ?_;rintro e w2 ⟨rfl,b2⟩;go_wp2;go_ret;exact ⟨rfl,b1.trans (b2.mono b1.size)⟩
  ·have hne:(qe != 0) = true:=by simpa using h2
   rw [if_neg h2];clear h2;go_enter Tryz.func27,Tryz.ntmps27;go_wp2_with fail;refine hC.out.mono ?_;rintro e w1 ⟨rfl,b1⟩;go_wp2_with fail;refine (hF.out w1 b1).mono ?_;rintro e w2 ⟨rfl,b2⟩;go_wp2;go_ret;exact ⟨rfl,b1.trans (b2.mono b1.size)⟩
 ·have hne:(qb != 0) = true:=by simpa using h1
  rw [if_neg h1];clear h1;go_enter Tryz.func27,Tryz.ntmps27;go_wp2_with fail;refine hC.out.mono ?_;rintro e w1 ⟨rfl,b1⟩;go_wp2;go_ret;exact ⟨rfl,b1⟩
def Tm.oo (rs:aH) (P Q:List Int):List Int × List Int:=if Tm.dM rs P Q = 0 then ((Tm.form rs P).1,(Tm.form rs Q).1) else ([],[])
theorem Qi (rs:aH) (P Q:List Int) (al aP aQ:Option Addr) (cl cP cQ:Nat) (w:World) (hR:aJ w.heap.size w al rs) (hP:Ints w.heap.size w aP P) (hQ:Ints w.heap.size w aQ Q) (p1:P.length≤cP) (p2:cP≤maxLen) (q1:Q.length≤cQ) (q2:cQ≤maxLen) :
 Calls Tryz.prog 28 #[.slice al rs.length cl,.agg #[.slice aP P.length cP,.slice aQ Q.length cQ]] w fun e w'=>∃ v u,e = .returned (.tuple #[v,u,.int .i64 (Tm.dM rs P Q)])∧New w.heap.size w' v (Tm.oo rs P Q).1∧New w.heap.size w' u (Tm.oo rs P Q).2∧Below w.heap.size w w':=by
 obtain ⟨W1,hW1⟩:∃ W1,w.alloc (.cells #[.slice aP P.length cP,.slice aQ Q.length cQ] 40) = W1:=⟨_,rfl⟩;have hB1:Below w.heap.size w W1:=by rw [← hW1];exact (Below.refl _ _).alloc (Nat.le_refl _) _
 have bx:bZ W1 w.heap.size 40 (.slice aP P.length cP) (.slice aQ Q.length cQ):=by rw [← hW1];exact bZ.new w _ _ _
 have c0:=bx.cell0;have C1:=hid (om rs P al aP cl cP W1 ((hR.below hB1).mono hB1.size) ((hP.below hB1).mono hB1.size) p1 p2);have C2:=hid (fun W (hW:Below W1.heap.size W1 W)=>om rs Q al aQ cl cQ W (by have h:=hB1.trans (hW.mono hB1.size);exact (hR.below h).mono h.size) (by have h:=hB1.trans (hW.mono hB1.size);exact (hQ.below h).mono h.size) q1 q2);have hE:Hid (Tm.dM rs P Q = if (Tm.form rs P).2.2 = 0 then (Tm.form rs Q).2.2 else (Tm.form rs P).2.2):=rfl;have hV:Hid (Tm.oo rs P Q = if Tm.dM rs P Q = 0 then ((Tm.form rs P).1,(Tm.form rs Q).1) else ([],[])):=rfl;have HW1:=hid hW1;clear hW1 hR hP hQ p1 p2 q1 q2;generalize Tm.form rs P = f at *;generalize Tm.form rs Q = g at *;obtain ⟨x,n,er⟩:=f;obtain ⟨y,m,er2⟩:=g;dsimp only at C1 C2 hE hV
 by_cases he:er = 0
 ·subst he
  rw [if_pos rfl] at hE;by_cases he2:er2 = 0
  ·subst he2
   rw [hE.out,if_pos rfl] at hV;rw [hE.out,hV.out];clear hV hE;go_enter Tryz.func28,Tryz.ntmps28;go_wp2_with fail;rw [HW1.out];go_wp2_with fail;refine C1.out.mono ?_;rintro e w1 ⟨v1,rfl,n1,b1⟩;obtain ⟨x1,c1,rfl,_⟩:=New.ints n1;have c1':=(bx.below b1 bx.lt).cell1;have N1:=hid n1;clear C1 n1;go_wp2_with fail;refine (C2.out w1 b1).mono ?_;rintro e w2 ⟨v2,rfl,n2,b2⟩;obtain ⟨x2,c2,rfl,_⟩:=New.ints n2;have B2:=b1.trans (b2.mono b1.size);have N2:=hid n2;clear C2 n2 c1';go_wp2;go_ret3
   exact ⟨_,_,rfl,(N1.out.below b2).mono hB1.size,N2.out.mono (Nat.le_trans hB1.size b1.size),hB1.trans (B2.mono hB1.size)⟩
  ·have hne:(er2 != 0) = true:=by simpa using he2
   rw [hE.out,if_neg he2] at hV;rw [hE.out,hV.out];clear hV hE he2;go_enter Tryz.func28,Tryz.ntmps28;go_wp2_with fail;rw [HW1.out];go_wp2_with fail;refine C1.out.mono ?_;rintro e w1 ⟨v1,rfl,n1,b1⟩;obtain ⟨x1,c1,rfl,_⟩:=New.ints n1;have c1':=(bx.below b1 bx.lt).cell1;clear C1 n1;go_wp2_with fail;refine (C2.out w1 b1).mono ?_;rintro e w2 ⟨v2,rfl,n2,b2⟩;obtain ⟨x2,c2,rfl,_⟩:=New.ints n2;have B2:=b1.trans (b2.mono b1.size);clear C2 n2 c1';go_wp2;go_ret3
   exact ⟨_,_,rfl,New.nil _ _,New.nil _ _,hB1.trans (B2.mono hB1.size)⟩
 ·rw [if_neg he] at hE
  rw [hE.out,if_neg he] at hV;have hne:(er != 0) = true:=by simpa using he
  rw [hE.out,hV.out];clear hV hE he;go_enter Tryz.func28,Tryz.ntmps28;go_wp2_with fail;rw [HW1.out];go_wp2_with fail;refine C1.out.mono ?_;rintro e w1 ⟨v1,rfl,n1,b1⟩;obtain ⟨x1,c1,rfl,_⟩:=New.ints n1;clear C1 n1;go_wp2;go_ret3
  exact ⟨_,_,rfl,New.nil _ _,New.nil _ _,hB1.trans (b1.mono hB1.size)⟩
theorem sj (zs:List Int) (a:Option Addr) (cap:Nat) (w:World) (hI:Ints w.heap.size w a zs) (hm:zs.length≤maxLen) :
 Calls Tryz.prog 40 #[.slice a zs.length cap] w fun e w'=>e = .returned (.bool (!zs.any aV))∧w' = w:=by
 unfold maxLen at hm;go_enter Tryz.func40,Tryz.ntmps40;go_wp2;go_loop [3] (fun i=>∃ k:Nat,k≤zs.length∧i = .int .i64 (k:Int)∧(zs.take k).any aV = false) (fun i=>zs.length - (intOf i).toNat)
 case atStart=>exact ⟨0,Nat.zero_le _,rfl,by simp⟩
 case round =>
  obtain ⟨k,hk,rfl,hno⟩:=hrel;by_cases hlt:k < zs.length
  ·have hlt':(k:Int) < (zs.length:Int):=by omega
   obtain ⟨b,off,rfl,hb,hc⟩:=hI.at (by omega);have hck:=hc k hlt;have hsn:=hid (qj (p:=aV) hlt hno);have hye:=hid (yL (p:=aV) hlt);clear hc hI hno;generalize zs[k]?.getD 0 = s at *;by_cases hq:s < -4
   ·have Hy:=hid (hye.out (decide_eq_true hq))
    clear hsn;go_wp2;go_ret;exact ⟨by rw [Hy.out];rfl,rfl⟩
   ·have hq':decide (s < -4) = false:=by simpa using hq
    have Hn:=hid (hsn.out hq');clear hye hq;go_wp2;go_round
    case rel=>exact ⟨k+1,by omega,by go_num,Hn.out⟩
    case measure=>simp [intOf];omega
  ·obtain rfl:k = zs.length:=by omega
   rw [List.take_length] at hno;have hn:=hid hno;clear hno;go_wp2;go_ret;exact ⟨by rw [hn.out];rfl,rfl⟩
theorem FI (zs:List Int) (x:Int) (a:Option Addr) (cap:Nat) (w:World) (hI:Ints w.heap.size w a zs) (hm:zs.length≤maxLen) :
 Calls Tryz.prog 41 #[.slice a zs.length cap,.int .i64 x] w fun e w'=>e = .returned (.bool (Tm.hasB zs x))∧w' = w:=by
 unfold maxLen at hm;go_enter Tryz.func41,Tryz.ntmps41;go_wp2;go_loop [5] (fun i=>∃ k:Nat,k≤zs.length∧i = .int .i64 (k:Int)∧∀ j,j < k→zs[j]?.getD 0≠x) (fun i=>zs.length - (intOf i).toNat)
 case atStart=>exact ⟨0,Nat.zero_le _,rfl,fun j hj=>by omega⟩
 case round =>
  obtain ⟨k,hk,rfl,hno⟩:=hrel;by_cases hlt:k < zs.length
  ·have hlt':(k:Int) < (zs.length:Int):=by omega
   obtain ⟨b,off,rfl,hb,hc⟩:=hI.at (by omega);have hck:=hc k hlt;have hsn:=hid (Lt hno);have hye:=hid (@GV zs x k hlt);clear hc hI hno;generalize zs[k]?.getD 0 = s at *;by_cases he:s = x
   ·have hb1:(s == x) = true:=by simp [he]
    have He:=hid (hye.out he);clear he;go_wp2;go_ret;exact ⟨by rw [He.out];rfl,rfl⟩
   ·have hb1:(s == x) = false:=by simpa using he
    have He:=hid (hsn.out he);clear he;go_wp2;go_round
    case rel=>exact ⟨k+1,by omega,by go_num,He.out⟩
    case measure=>simp [intOf];omega
  ·obtain rfl:k = zs.length:=by omega
   have hn:=hid (DK hno);clear hno;go_wp2;go_ret;exact ⟨by rw [hn.out];rfl,rfl⟩
theorem Ka {L R:List Int} (h:Tm.cK L R≠0):Tm.dI L R = Tm.cK L R:=by
 unfold Tm.cK at h ⊢;unfold Tm.dI;simp only [Tm.firstErr] at h ⊢;by_cases h1:Tm.err L = 0
 ·rw [if_pos h1] at h ⊢
  rw [if_pos h1];by_cases h2:Tm.err R = 0
  ·rw [if_pos h2] at h;exact absurd rfl h
  ·rw [if_neg h2,if_neg h2]
 ·rw [if_neg h1,if_neg h1]
theorem IB {L R:List Int} (h:Tm.cK L R = 0):Tm.dI L R = (if L.any aV = true then 3 else if R.any aV = true then 3 else if L[0]?.getD 0 < 0 then 1 else if R.any (eu L) = true then 4 else 0):=by
 obtain ⟨h1,h2⟩:=Tm.ou h;unfold Tm.dI;rw [if_pos h1,if_pos h2]
theorem kU {n:Nat} {a b:World} (h:Below n a b) (d:Nat):Below n a (b.drewN d):=⟨h.os,h.tape,h.output,h.size,h.block⟩
theorem jR (rs:aH) (a:Option Addr) (cap:Nat) (w:World) (hI:aJ w.heap.size w a rs) :
 Calls Tryz.prog 13 #[.slice a rs.length cap] w fun e w'=>e = .returned (.int .i64 (Tm.aO rs))∧Below w.heap.size w w':=by
 by_cases h8:8 < rs.length
 ·have h8':(8:Int) < (rs.length:Int):=by omega
  have hv:Tm.aO rs = 2:=by unfold Tm.aO;rw [if_pos h8]
  rw [hv];clear h8 hv hI;go_enter Tryz.func13,Tryz.ntmps13;go_wp2;go_ret;exact ⟨rfl,Below.refl _ _⟩
 ·have h8':(rs.length:Int)≤8:=by omega
  have hv:Tm.aO rs = Tm.firstRule rs:=by unfold Tm.aO;rw [if_neg h8]
  rw [hv];clear hv h8;go_enter Tryz.func13,Tryz.ntmps13;go_wp2;go_loopw [3] (fun v wr=>∃ k:Nat,k≤rs.length∧v = .int .i64 (k:Int)∧Hid (Tm.firstRule rs = Tm.firstRule (rs.drop k))∧Below w.heap.size w wr) (fun v _=>rs.length - (intOf v).toNat)
  case atStart=>exact ⟨0,Nat.zero_le _,rfl,hid rfl,Below.refl _ _⟩
  case round =>
   obtain ⟨k,hk,rfl,hst,hB⟩:=hrel;obtain ⟨u0,rfl⟩:∃ u0,u0 = wr:=⟨wr,rfl⟩;by_cases hlt:k < rs.length
   ·have hlt':(k:Int) < (rs.length:Int):=by omega
    obtain ⟨b,off,rfl,hb,aL,cL,aR,cR,h1,h2,h3,h4,_⟩:=(hI.below hB) k hlt;have hs1:=hid (Tm.qm hlt);have hs2:=hid (Tm.yM hlt);obtain ⟨L,hL⟩:∃ L,(rs[k]?.getD ([],[])).1 = L:=⟨_,rfl⟩;obtain ⟨R,hR⟩:∃ R,(rs[k]?.getD ([],[])).2 = R:=⟨_,rfl⟩;rw [hL] at h1 h3 hs1 hs2;rw [hR] at h2 h4 hs1 hs2;have hBa:Below u0.heap.size u0 (u0.alloc (.cells #[.slice aL L.length cL,.slice aR R.length cR] 54)):=(Below.refl _ u0).alloc (Nat.le_refl _) _;have hblk:=World.alloc_heap_new u0 (.cells #[.slice aL L.length cL,.slice aR R.length cR] 54);have d0:(u0.alloc (.cells #[.slice aL L.length cL,.slice aR R.length cR] 54)).cell? ⟨u0.heap.size,0,none⟩ = some (.slice aL L.length cL):=by rw [aM hblk];rfl
    have d1:(u0.alloc (.cells #[.slice aL L.length cL,.slice aR R.length cR] 54)).cell? ⟨u0.heap.size,1,none⟩ = some (.slice aR R.length cR):=by rw [aM hblk];rfl
    have ab5:u0.heap.size < (u0.alloc (.cells #[.slice aL L.length cL,.slice aR R.length cR] 54)).heap.size:=by simp
    have iL:=((h3.mono hB.size).below hBa).mono hBa.size;have iR:=((h4.mono hB.size).below hBa).mono hBa.size;have hBw:=hB.trans (hBa.mono hB.size);have C1:=hid (kK L R aL aR cL cR (u0.alloc (.cells #[.slice aL L.length cL,.slice aR R.length cR] 54)) iL iR);clear hL hR h3 h4 hI hblk;by_cases hf:Tm.cK L R = 0
    ·obtain ⟨k1,k2⟩:=Tm.ou hf
     have lL:=Tm.aI k1;have lR:=Tm.aI k2;have pL:=Tm.bM k1;have pL':(0:Int) < (L.length:Int):=by omega
     have lR':(R.length:Int)≤30:=by omega
     have hre:=IB hf;rw [hf] at C1;have C3:=hid (sj L aL cL (u0.alloc (.cells #[.slice aL L.length cL,.slice aR R.length cR] 54)) iL (by unfold maxLen;omega));have C4:=hid (sj R aR cR (u0.alloc (.cells #[.slice aL L.length cL,.slice aR R.length cR] 54)) iR (by unfold maxLen;omega));obtain ⟨bl,ol,rfl,_,cl⟩:=iL.at pL;have c0:=cl 0 pL;simp only [Nat.add_zero] at c0;clear cl hf k1 k2;have HL:=hid (fun W (hW:Below (u0.alloc (.cells #[.slice (some ⟨bl,ol,none⟩) L.length cL,.slice aR R.length cR] 54)).heap.size (u0.alloc (.cells #[.slice (some ⟨bl,ol,none⟩) L.length cL,.slice aR R.length cR] 54)) W)=>(iL.below hW).mono hW.size);have HR:=hid (fun W (hW:Below (u0.alloc (.cells #[.slice (some ⟨bl,ol,none⟩) L.length cL,.slice aR R.length cR] 54)).heap.size (u0.alloc (.cells #[.slice (some ⟨bl,ol,none⟩) L.length cL,.slice aR R.length cR] 54)) W)=>(iR.below hW).mono hW.size);have D0:=hid (fun W (hW:Below (u0.alloc (.cells #[.slice (some ⟨bl,ol,none⟩) L.length cL,.slice aR R.length cR] 54)).heap.size (u0.alloc (.cells #[.slice (some ⟨bl,ol,none⟩) L.length cL,.slice aR R.length cR] 54)) W)=>(hW.cell (p:=⟨u0.heap.size,0,none⟩) ab5).trans d0);have D1:=hid (fun W (hW:Below (u0.alloc (.cells #[.slice (some ⟨bl,ol,none⟩) L.length cL,.slice aR R.length cR] 54)).heap.size (u0.alloc (.cells #[.slice (some ⟨bl,ol,none⟩) L.length cL,.slice aR R.length cR] 54)) W)=>(hW.cell (p:=⟨u0.heap.size,1,none⟩) ab5).trans d1);clear iL iR;cases q1:L.any aV with
     | true =>
      rw [q1,if_pos rfl] at hre;rw [q1] at C3;have Hs:=hid ((hs2.out (by rw [hre];decide)).trans hre);clear q1 hre hs1 hs2 C4;go_wp2_with (first
       | (go_at_call 39;refine C1.out.mono ?_;clear C1;rintro e w2 ⟨rfl,rfl⟩)
       | (go_at_call 40;refine C3.out.mono ?_;clear C3;rintro e w2 ⟨rfl,rfl⟩))
      go_ret;exact ⟨lW (hst.out.trans Hs.out).symm,hBw⟩
     | false =>
      rw [q1,if_neg (by decide)] at hre;rw [q1] at C3;cases q2:R.any aV with
      | true =>
       rw [q2,if_pos rfl] at hre;rw [q2] at C4;have Hs:=hid ((hs2.out (by rw [hre];decide)).trans hre);clear q1 q2 hre hs1 hs2;go_wp2_with (first
        | (go_at_call 39;refine C1.out.mono ?_;clear C1;rintro e w2 ⟨rfl,rfl⟩)
        | (go_at_call_of 40 (Value.slice (some ⟨bl,ol,none⟩) L.length cL);refine C3.out.mono ?_;clear C3;rintro e w2 ⟨rfl,rfl⟩)
        | (go_at_call_of 40 (Value.slice aR R.length cR);refine C4.out.mono ?_;clear C4;rintro e w2 ⟨rfl,rfl⟩))
       go_ret;exact ⟨lW (hst.out.trans Hs.out).symm,hBw⟩
      | false =>
       rw [q2,if_neg (by decide)] at hre;rw [q2] at C4;clear q1 q2;generalize L[0]?.getD 0 = s0 at *;by_cases hs:s0 < 0
       ·rw [if_pos hs] at hre
        have Hs:=hid ((hs2.out (by rw [hre];decide)).trans hre);clear hre hs1 hs2;go_wp2_with (first
         | (go_at_call 39;refine C1.out.mono ?_;clear C1;rintro e w2 ⟨rfl,rfl⟩)
         | (go_at_call_of 40 (Value.slice (some ⟨bl,ol,none⟩) L.length cL);refine C3.out.mono ?_;clear C3;rintro e w2 ⟨rfl,rfl⟩)
         | (go_at_call_of 40 (Value.slice aR R.length cR);refine C4.out.mono ?_;clear C4;rintro e w2 ⟨rfl,rfl⟩))
        go_ret;exact ⟨lW (hst.out.trans Hs.out).symm,hBw⟩
       ·rw [if_neg hs] at hre
        have hs':decide (s0 < 0) = false:=by simpa using hs
        have Hre:=hid hre;clear hre hs;go_wp2_with (first
         | (go_at_call 39;refine C1.out.mono ?_;clear C1;rintro e w2 ⟨rfl,rfl⟩)
         | (go_at_call_of 40 (Value.slice (some ⟨bl,ol,none⟩) L.length cL);refine C3.out.mono ?_;clear C3;rintro e w2 ⟨rfl,rfl⟩)
         | (go_at_call_of 40 (Value.slice aR R.length cR);refine C4.out.mono ?_;clear C4;rintro e w2 ⟨rfl,rfl⟩))
        go_loopw [6] (fun v W=>∃ m:Nat,m≤R.length∧v = .int .i64 (m:Int)∧Hid ((R.take m).any (eu L) = false)∧Below (u0.alloc (.cells #[.slice (some ⟨bl,ol,none⟩) L.length cL,.slice aR R.length cR] 54)).heap.size (u0.alloc (.cells #[.slice (some ⟨bl,ol,none⟩) L.length cL,.slice aR R.length cR] 54)) W) (fun v _=>R.length - (intOf v).toNat)
        case atStart=>exact ⟨0,Nat.zero_le _,rfl,hid (by simp),Below.refl _ _⟩
        case round =>
         obtain ⟨m,hm,rfl,hfr,hBm⟩:=hrel;have d0:=D0.out wr hBm;have d1:=D1.out wr hBm;by_cases hm2:m < R.length
         ·have abq:(m:Int) < (R.length:Int):=by omega
          obtain ⟨br,or',eR,_,cr⟩:=(HR.out wr hBm) m hm2;rw [eR] at d1;have hsn:=hid (qj (p:=eu L) hm2 hfr.out);have hye:=hid (yL (p:=eu L) hm2);have hSt:=hid (fun W (hW:Below (u0.alloc (.cells #[.slice (some ⟨bl,ol,none⟩) L.length cL,.slice aR R.length cR] 54)).heap.size (u0.alloc (.cells #[.slice (some ⟨bl,ol,none⟩) L.length cL,.slice aR R.length cR] 54)) W)=>FI L (R[m]?.getD 0) (some ⟨bl,ol,none⟩) cL W (HL.out W hW) (by unfold maxLen;omega));generalize R[m]?.getD 0 = x at *;by_cases hx:x < 0
          ·cases hq:Tm.hasB L x with
           | true =>
            rw [hq] at hSt;have hz:eu L x = false:=by unfold eu;rw [hq];simp
            have Hn:=hid (hsn.out hz);clear hz hq hsn hye;go_wp2_with fail;go_quiet ((go_at_call 41;exact Calls.quiet_of_same (hSt.out _ (kU hBm _))))
            go_wp2;go_roundw
            case rel=>exact ⟨m+1,by omega,by go_num,hid Hn.out,kU hBm _⟩
            case measure=>simp [intOf];omega
           | false =>
            rw [hq] at hSt;have hz:eu L x = true:=by unfold eu;rw [hq,decide_eq_true hx];rfl
            have hre:=Hre.out;rw [hye.out hz,if_pos rfl] at hre;have Hs:=hid ((hs2.out (by rw [hre];decide)).trans hre);clear hz hq hsn hye hre;go_wp2_with fail;go_quiet ((go_at_call 41;exact Calls.quiet_of_same (hSt.out _ (kU hBm _))))
            go_wp2;go_ret;exact ⟨lW (hst.out.trans Hs.out).symm,hBw.trans ((kU hBm _).mono hBw.size)⟩
          ·have hx':decide (x < 0) = false:=by simpa using hx
           have hz:eu L x = false:=by unfold eu;rw [hx'];rfl
           have Hn:=hid (hsn.out hz);clear hz hsn hye hx;go_wp2_with fail;go_quiet (fail)
           go_wp2;go_roundw
           case rel=>exact ⟨m+1,by omega,by go_num,hid Hn.out,kU hBm _⟩
           case measure=>simp [intOf];omega
         ·obtain rfl:m = R.length:=by omega
          rw [List.take_length] at hfr;have hre:=Hre.out;rw [hfr.out,if_neg (by decide)] at hre;have Hs:=hid (hs1.out hre);clear hre;go_wp2;go_roundw
          case rel=>exact ⟨k+1,by omega,by go_num,hid (hst.out.trans Hs.out),hBw.trans (hBm.mono hBw.size)⟩
          case measure=>simp [intOf];omega
    ·have hn:(Tm.cK L R != 0) = true:=by simpa using hf
     have hre:=Ka hf;have Hs:=hid ((hs2.out (by rw [hre];exact hf)).trans hre);clear hf hre hs1 hs2;generalize Tm.cK L R = q at *;go_wp2_with (first
      | (go_at_call 39;refine C1.out.mono ?_;clear C1;rintro e w2 ⟨rfl,rfl⟩))
     go_ret;exact ⟨lW (hst.out.trans Hs.out).symm,hBw⟩
   ·obtain rfl:k = rs.length:=by omega
    go_wp2;go_ret;exact ⟨by rw [hst.out,List.drop_length];rfl,hB⟩
theorem Tm.Yx (a b:List Int):Tm.cK a b = Tm.bV a b:=by
 unfold Tm.bV;by_cases h:Tm.err a = 0
 ·rw [if_pos h]
  simp only [Tm.cK,Tm.firstErr,h,if_true];by_cases h2:Tm.err b = 0 <;> simp [h2]
 ·rw [if_neg h]
  simp [Tm.cK,Tm.firstErr,h]
theorem zo (ps:ah) (a:Option Addr) (cap:Nat) (w:World) (hP:aJ w.heap.size w a ps) :
 Calls Tryz.prog 15 #[.slice a ps.length cap] w fun e w'=>e = .returned (.int .i64 (Tm.gU ps))∧Below w.heap.size w w':=by
 by_cases h:40 < ps.length
 ·have h':(40:Int) < (ps.length:Int):=by omega
  have hv:Tm.gU ps = 2:=by unfold Tm.gU;rw [if_pos h]
  rw [hv];clear hv hP h;go_enter Tryz.func15,Tryz.ntmps15;go_wp2;go_ret;exact ⟨rfl,Below.refl _ _⟩
 ·have hn:decide ((40:Int) < (ps.length:Int)) = false:=by simp;omega
  have abM:(ps.length:Int)≤40:=by omega
  have hv:Tm.gU ps = Tm.firstPair ps:=by unfold Tm.gU;rw [if_neg h]
  rw [hv];have HP:=hid hP;clear hP h hv;go_enter Tryz.func15,Tryz.ntmps15;go_wp2;go_loopw [3] (fun i wr=>∃ k:Nat,k≤ps.length∧i = .int .i64 (k:Int)∧Hid (∀ j,j < k→Tm.bV (ps[j]?.getD ([],[])).1 (ps[j]?.getD ([],[])).2 = 0)∧Hid (Below w.heap.size w wr)) (fun i _=>ps.length - (intOf i).toNat)
  case atStart=>exact ⟨0,Nat.zero_le _,rfl,(fun j hj=>by omega),Below.refl _ _⟩
  case round =>
   obtain ⟨k,hk,rfl,hes,hB⟩:=hrel;by_cases hlt:k < ps.length
   ·have hkl:(k:Int) < (ps.length:Int):=by omega
    obtain ⟨b,off,rfl,hb,aL,cL,aR,cR,hc1,hc2,hI1,hI2,q1,q2,q3,q4⟩:=(HP.out.below hB.out) k hlt;have hbad:=hid (Tm.Ep k hlt hes.out);have hgood:Hid (Tm.bV (ps[k]?.getD ([],[])).1 (ps[k]?.getD ([],[])).2 = 0→∀ j,j < k+1→Tm.bV (ps[j]?.getD ([],[])).1 (ps[j]?.getD ([],[])).2 = 0):=fun h j hj=>by
     by_cases e:j = k
     ·subst e;exact h
     ·exact hes.out j (by omega)
    have hE:=hid (fun n:Nat=>kK (ps[k]?.getD ([],[])).1 (ps[k]?.getD ([],[])).2 aL aR cL cR (wr.drewN n) (hI1.mono hB.out.size) (hI2.mono hB.out.size));rw [Tm.Yx] at hE;clear hI1 hI2 q1 q2 q3 q4;by_cases he:Tm.bV (ps[k]?.getD ([],[])).1 (ps[k]?.getD ([],[])).2 = 0
    ·have hg:=hid (hgood.out he)
     rw [he] at hE;clear he hgood hbad;generalize (ps[k]?.getD ([],[])).1.length = n1 at *;generalize (ps[k]?.getD ([],[])).2.length = n2 at *;go_wp2;go_quiet ((go_at_call 39;exact Calls.quiet_of_same (hE.out _)))
     go_wp2;go_roundw
     case rel=>exact ⟨k+1,by omega,by go_num,hg,below_drewN hB.out _⟩
     case measure=>simp [intOf];omega
    ·have hf:=hid (hbad.out he)
     have hne:(Tm.bV (ps[k]?.getD ([],[])).1 (ps[k]?.getD ([],[])).2 != 0) = true:=by simpa using he
     clear he hgood hbad;generalize (ps[k]?.getD ([],[])).1.length = n1 at *;generalize (ps[k]?.getD ([],[])).2.length = n2 at *;generalize Tm.bV (ps[k]?.getD ([],[])).1 (ps[k]?.getD ([],[])).2 = q at *;go_wp2;go_quiet ((go_at_call 39;exact Calls.quiet_of_same (hE.out _)))
     go_wp2;go_ret;exact ⟨lW hf.out.symm,below_drewN hB.out _⟩
   ·obtain rfl:k = ps.length:=by omega
    have hv:=hid (Tm.Er hes.out);go_wp2;go_ret;exact ⟨lW hv.out.symm,hB.out⟩
def Wr (n0 n1:Nat) (w:World) (b:Nat):Prop:=n0≤b∧b < n1∧∃ cs,w.heap[b]? = some (.cells cs 3 (0,0))
structure Mid (n0 n1:Nat) (w W:World):Prop where
 low:Below n0 w W
 out:∀ b,b < w.heap.size→¬ Wr n0 n1 w b→W.heap[b]? = w.heap[b]?
 typ:∀ b,Wr n0 n1 w b→∃ cs,W.heap[b]? = some (.cells cs 3 (0,0))
 int:∀ b i z,Wr n0 n1 w b→w.cell? ⟨b,i,none⟩ = some (.int .i64 z)→∃ z',W.cell? ⟨b,i,none⟩ = some (.int .i64 z')
theorem Mid.refl (n0 n1:Nat) (w:World):Mid n0 n1 w w:=⟨Below.refl _ _,fun _ _ _=>rfl,fun _ h=>h.2.2,fun _ _ z _ h=>⟨z,h⟩⟩
theorem Mid.below {n0 n1:Nat} {w W W':World} (h:Mid n0 n1 w W) (h0:n0≤w.heap.size) (hB:Below W.heap.size W W'):Mid n0 n1 w W':=by
 have hs:=h.low.size;have hlt:∀ {b:Nat},Wr n0 n1 w b→b < W.heap.size:=fun hb=>by
  obtain ⟨cs,e⟩:=h.typ _ hb;exact (Array.getElem?_eq_some_iff.1 e).1
 refine ⟨h.low.trans (hB.mono (by omega)),fun b hb hn=>(hB.block b (by omega)).trans (h.out b hb hn),fun b hb=>?_,fun b i z hb hz=>?_⟩
 ·obtain ⟨cs,e⟩:=h.typ b hb
  exact ⟨cs,(hB.block b (hlt hb)).trans e⟩
 ·obtain ⟨z',e⟩:=h.int b i z hb hz
  exact ⟨z',(hB.cell (p:=⟨b,i,none⟩) (hlt hb)).trans e⟩
theorem Mid.set {n0 n1:Nat} {w W:World} (h:Mid n0 n1 w W) {b:Nat} (hb:Wr n0 n1 w b) (i:Nat) (z:Int):Mid n0 n1 w (W.setCell ⟨b,i,none⟩ (.int .i64 z)):=by
 obtain ⟨cs,hc⟩:=h.typ b hb;have hlt:b < W.heap.size:=(Array.getElem?_eq_some_iff.1 hc).1;have hat:(W.setCell ⟨b,i,none⟩ (.int .i64 z)).heap[b]? = some (.cells (cs.setIfInBounds i (.int .i64 z)) 3 (0,0)):=by
  unfold World.setCell;simp only [Array.getElem?_modify,if_true,hc,Option.map_some];rfl
 refine ⟨h.low.setCell (p:=⟨b,i,none⟩) hb.1 _,fun q hq hn=>?_,fun q hq=>?_,fun q j y hq hy=>?_⟩
 ·refine (Below.heap_setCell W ⟨b,i,none⟩ _ q ?_).trans (h.out q hq hn)
  intro e;exact hn (show Wr n0 n1 w q by rw [show q = b from e];exact hb)
 ·by_cases e:q = b
  ·subst e;exact ⟨_,hat⟩
  ·obtain ⟨cs',hc'⟩:=h.typ q hq
   exact ⟨cs',(Below.heap_setCell W ⟨b,i,none⟩ _ q e).trans hc'⟩
 ·obtain ⟨y',hy'⟩:=h.int q j y hq hy
  by_cases e:q = b
  ·subst e
   have h1:cs[j]? = some (.int .i64 y'):=by
    have:W.cell? ⟨q,j,none⟩ = cs[j]?:=by unfold World.cell?;simp [hc]
    rw [← this];exact hy'
   have h2:(W.setCell ⟨q,i,none⟩ (.int .i64 z)).cell? ⟨q,j,none⟩ = (cs.setIfInBounds i (.int .i64 z))[j]?:=by unfold World.cell?;simp [hat]
   rw [h2,Array.getElem?_setIfInBounds];by_cases ij:i = j
   ·subst ij
    have hj:i < cs.size:=(Array.getElem?_eq_some_iff.1 h1).1;exact ⟨z,by simp [hj]⟩
   ·exact ⟨y',by rw [if_neg ij];exact h1⟩
  ·exact ⟨y',(World.cell?_of_block (a:=⟨q,j,none⟩) (Below.heap_setCell W ⟨b,i,none⟩ _ q e)).trans hy'⟩
def Gm (n0 n1:Nat) (w:World) (a:Option Addr) (n:Nat):Prop:=∀ j,j < n→∃ b off,a = some ⟨b,off,none⟩∧Wr n0 n1 w b∧∃ z,w.cell? ⟨b,off+j,none⟩ = some (.int .i64 z)
theorem Gm.at {n0 n1:Nat} {w W:World} {a:Option Addr} {n:Nat} (h:Gm n0 n1 w a n) (hM:Mid n0 n1 w W) {j:Nat} (hj:j < n) :
 ∃ b off,a = some ⟨b,off,none⟩∧Wr n0 n1 w b∧(∃ z,W.cell? ⟨b,off+j,none⟩ = some (.int .i64 z))∧W.frozen? ⟨b,off+j,none⟩ = false:=by
 obtain ⟨b,off,e,hb,z,hz⟩:=h j hj;obtain ⟨cs,hc⟩:=hM.typ b hb;exact ⟨b,off,e,hb,hM.int b _ z hb hz,by simp [World.frozen?,hc]⟩
theorem New.wr {n0 n1:Nat} {w w':World} {v:Value} {zs:List Int} (h:New n0 w v zs) (hn:w.heap.size≤n1) (hB:Below w.heap.size w w'):∃ a c,v = .slice a zs.length c∧Gm n0 n1 w' a zs.length:=by
 rcases h.2 with ⟨rfl,h0⟩ | ⟨g,cap,cur,rfl,hb,hg,h1,h2,h3,h4⟩
 ·exact ⟨none,0,by rw [h0],fun j hj=>by omega⟩
 ·have hlt:g < w.heap.size:=(Array.getElem?_eq_some_iff.1 hg).1
  refine ⟨_,cap,rfl,fun j hj=>⟨g,0,rfl,⟨hb,by omega,cur,(hB.block g hlt).trans hg⟩,zs[j]?.getD 0,?_⟩⟩;have h5:=World.ownsRow.cellAt (show w.ownsRow n0 3 1 (.slice (some ⟨g,0,none⟩) zs.length cap) zs.length (zs.map (Value.int .i64)) from h) j (by omega);rw [Nat.zero_add,hB.cell (p:=⟨g,j,none⟩) hlt,h5];simp [hj]
theorem bX.wr {n0 n1:Nat} {w:World} {a:Option Addr} {zs:List Int} (h:bX false n0 w a zs) (hn:w.heap.size≤n1):Gm n0 n1 w a zs.length:=fun j hj=>by
 obtain ⟨b,off,e,hor,hb,hc⟩:=h j hj;rcases hor with ⟨h1,_⟩ | ⟨h1 | ⟨h1,h2⟩,_⟩
 ·cases h1
 ·cases h1
 ·exact ⟨b,off,e,⟨h1,by omega,h2⟩,_,hc⟩
theorem Gm.below {n0 n1:Nat} {w w':World} {a:Option Addr} {n:Nat} (h:Gm n0 n1 w a n) (hB:Below w.heap.size w w'):Gm n0 n1 w' a n:=fun j hj=>by
 obtain ⟨b,off,e,⟨h1,h2,cs,h3⟩,z,hz⟩:=h j hj;have hlt:b < w.heap.size:=(Array.getElem?_eq_some_iff.1 h3).1;exact ⟨b,off,e,⟨h1,h2,cs,(hB.block b hlt).trans h3⟩,z,(hB.cell (p:=⟨b,off+j,none⟩) hlt).trans hz⟩
theorem Mid.cell {n0 n1:Nat} {w W:World} (h:Mid n0 n1 w W) {b i:Nat} {cs:Array Value} {t:TypeId} {p:Nat × Nat} (hb:w.heap[b]? = some (.cells cs t p)) (ht:t≠3):W.cell? ⟨b,i,none⟩ = w.cell? ⟨b,i,none⟩ :=
 World.cell?_of_block (a:=⟨b,i,none⟩) (h.out b (Array.getElem?_eq_some_iff.1 hb).1 fun ⟨_,_,cs',h'⟩=>by
  rw [hb] at h';simp only [Option.some.injEq,Obj.cells.injEq] at h';exact ht h'.2.1)
theorem fI.mid {n0 n1:Nat} {w w':World} {v:Value} {iN:jh} (h:fI n0 w v iN) (hn:w.heap.size≤n1) (hB:Below w.heap.size w w') :
 ∃ a c,v = .slice a iN.length c∧∀ W,Mid n0 n1 w' W→∀ j,j < iN.length→∃ g ad c',a = some ⟨g,0,none⟩∧W.cell? ⟨g,j * 3+2,none⟩ = some (.slice ad (iN[j]?.getD (0,0,[])).2.2.length c')∧Gm n0 n1 w' ad (iN[j]?.getD (0,0,[])).2.2.length:=by
 obtain ⟨us,h1,h2⟩:=h;have hl:us.length = iN.length * 3:=h1.1;rcases h1.2 with ⟨rfl,h0⟩ | ⟨g,cap,cur,rfl,hb,hgb,q1,q2,_⟩
 ·exact ⟨none,0,by rw [h0],fun W _ j hj=>by omega⟩
 ·have hlt:g < w.heap.size:=(Array.getElem?_eq_some_iff.1 hgb).1
  refine ⟨_,cap,rfl,fun W hM j hj=>?_⟩;obtain ⟨u,_,_,e3,hu⟩:=h2 j hj;obtain ⟨ad,c',rfl,hw⟩:=hu.wr hn hB;refine ⟨g,ad,c',rfl,?_,hw⟩;rw [hM.cell ((hB.block g hlt).trans hgb) (by decide),hB.cell (p:=⟨g,j * 3+2,none⟩) hlt,World.ownsRow.cellAt h1 _ (by omega),e3]
theorem Mid.high {n0 n1:Nat} {w W:World} (h:Mid n0 n1 w W) {b:Nat} (hb:n1≤b) (hw:b < w.heap.size):W.heap[b]? = w.heap[b]?:=h.out b hw fun hh=>by have:=hh.2.1;omega
theorem Mid.trans {n0 n1:Nat} {w V W:World} (h:Mid n0 n1 w V) (h':Mid n0 n1 V W):Mid n0 n1 w W:=by
 have hs:=h.low.size;have hwr:∀ {b:Nat},Wr n0 n1 w b→Wr n0 n1 V b:=fun hb=>⟨hb.1,hb.2.1,h.typ _ hb⟩
 refine ⟨h.low.trans h'.low,fun b hb hn=>?_,fun b hb=>h'.typ b (hwr hb),fun b i z hb hz=>?_⟩
 ·refine (h'.out b (by omega) ?_).trans (h.out b hb hn)
  rintro ⟨q1,q2,cs,q3⟩;rw [h.out b hb hn] at q3;exact hn ⟨q1,q2,cs,q3⟩
 ·obtain ⟨z',e⟩:=h.int b i z hb hz
  exact h'.int b i z' (hwr hb) e
end Go.Proofs.YtglohanbpjaieaaGreat
