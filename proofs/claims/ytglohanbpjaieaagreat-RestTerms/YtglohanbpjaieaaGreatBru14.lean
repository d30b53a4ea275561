/-
  Parts of the proof: Web19, Web20, Web13b, Web21, Web22, Prs2, Prs3, Web23, Web24.
-/
import Derived.Test.YtglohanbpjaieaaGreatBru13
set_option maxHeartbeats 4000000
set_option maxRecDepth 100000
namespace Go.Proofs.YtglohanbpjaieaaGreat
open Go.Proofs Go.RowKit Go.Shelf Go.Maps
theorem P8 (p q r:Addr) (w:World):CallsD Tryz.prog 140 #[.pointer (some p),.pointer (some q),.pointer (some r)] .returning w fun e u' w'=>e = .returned (.tuple #[])∧u' = .returning∧w' = w:=by
 refine callsD_of_wpS Tryz.func140 rfl fun c₀ cs hu=>?_
 apply wpS_seq;apply wpS_region;simp [wpOpsS,go_sem,recoverD,hu,Tryz.ntmps140,Exit.thenS];simp only [Array.replicate_succ,Array.replicate_zero,List.push_toArray,List.nil_append,List.cons_append,List.setIfInBounds_toArray,List.set_cons_succ,List.set_cons_zero,List.append_toArray];refine wpS_of_wp ?_;go_wp2;cases c₀;simp_all [bodyPostS,results,Tryz.results140]
theorem JQ (B:Nat) (w:World) (h0:Boxed w B 49 (.slice none 0 0)) (h1:Boxed w (B+1) 4 (.bool false)) (h2:Boxed w (B+1+1) 25 (.int .i64 0)) :
 CallsD Tryz.prog 140 #[.pointer (some ⟨B,0,none⟩),.pointer (some ⟨B+1,0,none⟩),.pointer (some ⟨B+1+1,0,none⟩)] (.panicking ko) w fun e u' w'=>e = .returned (.tuple #[])∧u' = .panicking [{ v:=.iface 25 (.int .i64 2),recovered:=true }] ∧
  Below B w w'∧Boxed w' B 49 (.slice none 0 0)∧Boxed w' (B+1) 4 (.bool false)∧Boxed w' (B+1+1) 25 (.int .i64 2):=by
 refine callsD_of_wpS Tryz.func140 rfl fun c₀ cs hu=>?_
 have c0:=h0.cell;have c1:=h1.cell;have c2:=h2.cell;have f0:=h0.frozen;have f1:=h1.frozen;have f2:=h2.frozen;unfold ko at hu;have hta:∀ (xT:TypeId) (w:World),(Instr.typeAssert (.iface 25 (.int .i64 2)) xT 25 false).run Tryz.prog w = .ok (.int .i64 2) w:=fun _ _=>by kernel_rfl
 apply wpS_seq;apply wpS_region;simp [wpOpsS,go_sem,recoverD,hu,Tryz.ntmps140,Exit.thenS];simp only [Array.replicate_succ,Array.replicate_zero,List.push_toArray,List.nil_append,List.cons_append,List.setIfInBounds_toArray,List.set_cons_succ,List.set_cons_zero,List.append_toArray];refine wpS_of_wp ?_;go_wp2;go_region
 all_goals (
  refine ⟨rfl,_,rfl,_,results_none rfl _ _ _,rfl,rfl,?_⟩;refine ⟨below_drewN (((Below.refl B w).setCell (p:=⟨B,0,none⟩) (Nat.le_refl _) _).setCell (p:=⟨B+1,0,none⟩) (by show B≤B+1;omega) _ |>.setCell (p:=⟨B+1+1,0,none⟩) (by show B≤B+1+1;omega) _) 1,?_,?_,?_⟩
  ·exact ((h0.set _).other (by omega) _).other (by omega) _
  ·exact ((h1.other (by omega) _).set _).other (by omega) _
  ·exact ((h2.other (by omega) _).other (by omega) _).set _)
theorem y9 {fn:Func} {tmps:Array Value} {w:World} {a b c A B C:Nat} {e:Bool} {s:Option Addr} {n m:Nat} {f:Int} (h:fn.results = #[.cell a 49,.cell b 4,.cell c 25])
 (ha:tmps.getD a undef = .pointer (some ⟨A,0,none⟩)) (hb:tmps.getD b undef = .pointer (some ⟨B,0,none⟩)) (hc:tmps.getD c undef = .pointer (some ⟨C,0,none⟩))
 (h1:w.cell? ⟨A,0,none⟩ = some (.slice s n m)) (h2:w.cell? ⟨B,0,none⟩ = some (.bool e)) (h3:w.cell? ⟨C,0,none⟩ = some (.int .i64 f)):(results fn tmps).run Tryz.prog w = .ok (.tuple #[.slice s n m,.bool e,.int .i64 f]) w:=by
 have ha':tmps[a]?.getD undef = .pointer (some ⟨A,0,none⟩):=by rw [← ha];simp
 have hb':tmps[b]?.getD undef = .pointer (some ⟨B,0,none⟩):=by rw [← hb];simp
 have hc':tmps[c]?.getD undef = .pointer (some ⟨C,0,none⟩):=by rw [← hc];simp
 simp only [results,h];simp [go_sem,ha',hb',hc',h1,h2,h3]
structure jm (w:World) (Bw Bm b off cap N:Nat) (zs:List Int) (T:Nat→Option Nat) (f:Nat→List Int) (k:Nat) (W:World):Prop where
 arr:∃ cs:Array Value,W.heap[w.heap.size+1+1+1]? = some (.cells cs 170 (0,0))∧cs.size = 8∧∀ j,j < k→∃ u,cs[j]? = some u∧New (w.heap.size+1+1+1+1) W u (f j)
 b0:Boxed W w.heap.size 49 (.slice none 0 0)
 b1:Boxed W (w.heap.size+1) 4 (.bool false)
 b2:Boxed W (w.heap.size+1+1) 25 (.int .i64 0)
 JF:dE W Bw Bm (some ⟨b,off,none⟩) cap zs N T
 bl:Below w.heap.size w W
theorem jm.below {w:World} {Bw Bm b off cap N:Nat} {zs:List Int} {T:Nat→Option Nat} {f:Nat→List Int} {k:Nat} {W W':World} (H:jm w Bw Bm b off cap N zs T f k W) (hB:Below W.heap.size W W'):jm w Bw Bm b off cap N zs T f k W':=by
 obtain ⟨⟨cs,hblk,h8,hc⟩,b0,b1,b2,qC,hbl⟩:=H;refine ⟨⟨cs,(hB.block _ (Array.getElem?_eq_some_iff.1 hblk).1).trans hblk,h8,fun j hj=>?_⟩,(hB.block _ b0.lt).trans b0,(hB.block _ b1.lt).trans b1,(hB.block _ b2.lt).trans b2,qC.below hB,hbl.trans (hB.mono hbl.size)⟩;obtain ⟨u,hu,hN⟩:=hc j hj;exact ⟨u,hu,hN.below hB⟩
theorem jm.abL {w:World} {Bw Bm b off cap N:Nat} {zs:List Int} {T:Nat→Option Nat} {f:Nat→List Int} {k:Nat} {W:World} (H:jm w Bw Bm b off cap N zs T f k W) {j:Nat} (hj:j < 8):∃ x,W.cell? ⟨w.heap.size+1+1+1,j,none⟩ = some x∧W.frozen? ⟨w.heap.size+1+1+1,j,none⟩ = false:=by
 obtain ⟨⟨cs,hblk,h8,hc⟩,b0,b1,b2,qC,hbl⟩:=H;refine ⟨cs[j]'(by omega),?_,?_⟩
 ·rw [aM hblk,Array.getElem?_eq_getElem]
 ·simp only [World.frozen?]
  rw [hblk];simp
theorem jm.set {w:World} {Bw Bm b off cap N:Nat} {zs:List Int} {T:Nat→Option Nat} {f:Nat→List Int} {k:Nat} {W:World} (H:jm w Bw Bm b off cap N zs T f k W) (hk:k < 8) (hwl:Bw < w.heap.size∧Bm < w.heap.size) (hb:b < w.heap.size) {v:Value} {base:Nat} (hN:New base W v (f k)) (hbase:w.heap.size+1+1+1+1≤base):jm w Bw Bm b off cap N zs T f (k+1) (W.setCell ⟨w.heap.size+1+1+1,k,none⟩ v):=by
 obtain ⟨⟨cs,hblk,h8,hc⟩,b0,b1,b2,qC,hbl⟩:=H;have hg:=dz W (w.heap.size+1+1+1) k v;have hbx:∀ {C:Nat} {t:TypeId} {x:Value},Boxed W C t x→C≠w.heap.size+1+1+1→Boxed (W.setCell ⟨w.heap.size+1+1+1,k,none⟩ v) C t x:=fun {C t x} hb hne=>(Below.heap_setCell W ⟨w.heap.size+1+1+1,k,none⟩ v C hne).trans hb
 have hkk:∀ q,q < w.heap.size→(W.setCell ⟨w.heap.size+1+1+1,k,none⟩ v).heap[q]? = W.heap[q]?:=fun q hq=>Below.heap_setCell W ⟨w.heap.size+1+1+1,k,none⟩ v q (show q≠w.heap.size+1+1+1 by omega)
 have hkeep:∀ (u:Value) (t:List Int),New (w.heap.size+1+1+1+1) W u t→New (w.heap.size+1+1+1+1) (W.setCell ⟨w.heap.size+1+1+1,k,none⟩ v) u t:=fun u t hu=>World.ownsRow.kept hu hg (by
  cases e:u.ownBlock with
  | none=>exact .inl rfl
  | some q=>exact .inr (by have:=(World.ownsRow.lt hu q e).1;simp;omega))
 refine ⟨⟨cs.setIfInBounds k v,?_,by simp [h8],fun j hj=>?_⟩,hbx b0 (by omega),hbx b1 (by omega),hbx b2 (by omega),qC.of (hkk Bw hwl.1) (hkk Bm hwl.2) (hkk b hb) (by have:=hg.size;have:=hbl.size;omega),hbl.setCell (p:=⟨w.heap.size+1+1+1,k,none⟩) (by show w.heap.size≤w.heap.size+1+1+1;omega) _⟩
 ·obtain ⟨hlt,hx⟩:=Array.getElem?_eq_some_iff.1 hblk
  show (W.heap.modify (w.heap.size+1+1+1) _)[w.heap.size+1+1+1]? = _;rw [Array.getElem?_eq_getElem (by rw [Array.size_modify];exact hlt),Array.getElem_modify_self,hx];rfl
 ·by_cases e:j = k
  ·subst e
   exact ⟨v,by simp [h8,hk],hkeep v _ (hN.mono hbase)⟩
  ·obtain ⟨u,hu,hN'⟩:=hc j (by omega)
   exact ⟨u,by simp [Ne.symm e,hu],hkeep u _ hN'⟩
theorem jm.subs {w:World} {Bw Bm b off cap N:Nat} {zs:List Int} {T:Nat→Option Nat} {f:Nat→List Int} {W W':World} (H:jm w Bw Bm b off cap N zs T f 8 W) (hk:∀ q,w.heap.size+1+1+1≤q→W'.heap[q]? = W.heap[q]?) (hs:W.heap.size≤W'.heap.size):gu W'.heap.size W' (some ⟨w.heap.size+1+1+1,0,none⟩) ((List.range 8).map f):=by
 obtain ⟨⟨cs,hblk,h8,hc⟩,b0,b1,b2,qC,hbl⟩:=H;intro j hj;have Vt:j < 8:=by simpa using hj
 have ej:((List.range 8).map f)[j]?.getD [] = f j:=by simp [Vt]
 obtain ⟨u,hu,hN⟩:=hc j Vt;have hlt:=(Array.getElem?_eq_some_iff.1 hblk).1;have hblk':=(hk _ (Nat.le_refl _)).trans hblk;have hN':New (w.heap.size+1+1+1+1) W' u (f j):=by
  refine ⟨hN.1,hN.2.elim .inl fun ⟨g,c,cur,h1,h2,h3,h4⟩=>.inr ⟨g,c,cur,h1,h2,(hk g (by omega)).trans h3,h4⟩⟩
 obtain ⟨a,c,rfl,hI,h1,h2⟩:=New.ints hN';refine ⟨w.heap.size+1+1+1,0,a,c,rfl,by omega,?_,?_,?_,h2,fun e=>?_⟩
 ·rw [ej,Nat.zero_add,aM hblk',hu]
 ·rw [ej];exact hI
 ·rw [ej];exact h1
 ·subst e
  rcases hN'.2 with ⟨h3,_⟩ | ⟨g,_,_,h3,_⟩
  ·simp at h3;exact h3.2
  ·simp at h3
theorem Sm (zs:List Int) (G:Wb.Good zs) (T:Nat→Option Nat) (h:Nat→Nat) (S:Wb.St zs T h) (Bw Bm b off cap N:Nat) (f:Nat→List Int) (hf:∀ i,i < 8→Wb.qY zs h i (f i)) (w:World) (hW:dE w Bw Bm (some ⟨b,off,none⟩) cap zs N T) :
 Calls Tryz.prog 136 #[.pointer (some ⟨Bw,0,none⟩)] w fun e w'=>Below w.heap.size w w'∧(((∀ i,i < 8→(f i).length≤30)∧∃ a,e = .returned (.tuple #[.slice a 8 8,.bool true,.int .i64 0])∧gu w'.heap.size w' a ((List.range 8).map f)) ∨
  ((∃ i,i < 8∧30 < (f i).length)∧e = .returned (.tuple #[.slice none 0 0,.bool false,.int .i64 2]))):=by
 have hmf:∀ (fn:Fn) (first cap:Array Value) (w:World),(Instr.makeFunc fn first cap).run Tryz.prog w = .ok (.func fn first cap) w:=fun _ _ _ _=>rfl
 have h8:=G.eight;obtain ⟨wl,ml⟩:=hW.lt;have hbl:b < w.heap.size:=by
  obtain ⟨b',off',e,hb,_⟩:=hW.ints.at (by omega);cases e;exact hb
 have hI0:Hid (jm w Bw Bm b off cap N zs T f 0 ((((w.alloc (.cells #[.slice none 0 0] 49)).alloc (.cells #[.bool false] 4)).alloc (.cells #[.int .i64 0] 25)).alloc (.cells #[.slice none 0 0,.slice none 0 0,.slice none 0 0,.slice none 0 0,.slice none 0 0,.slice none 0 0,.slice none 0 0,.slice none 0 0] 170))):=by
  have hB:Below w.heap.size w ((((w.alloc (.cells #[.slice none 0 0] 49)).alloc (.cells #[.bool false] 4)).alloc (.cells #[.int .i64 0] 25)).alloc (.cells #[.slice none 0 0,.slice none 0 0,.slice none 0 0,.slice none 0 0,.slice none 0 0,.slice none 0 0,.slice none 0 0,.slice none 0 0] 170)) :=
   ((((Below.refl _ w).alloc (Nat.le_refl _) _).alloc (by simp) _).alloc (by simp;omega) _).alloc (by simp;omega) _
  have a0:=(((Boxed.new w 49 (.slice none 0 0)).alloc (.cells #[.bool false] 4)).alloc (.cells #[.int .i64 0] 25)).alloc (.cells #[.slice none 0 0,.slice none 0 0,.slice none 0 0,.slice none 0 0,.slice none 0 0,.slice none 0 0,.slice none 0 0,.slice none 0 0] 170);have a1:=((Boxed.new (w.alloc (.cells #[.slice none 0 0] 49)) 4 (.bool false)).alloc (.cells #[.int .i64 0] 25)).alloc (.cells #[.slice none 0 0,.slice none 0 0,.slice none 0 0,.slice none 0 0,.slice none 0 0,.slice none 0 0,.slice none 0 0,.slice none 0 0] 170);have a2:=(Boxed.new ((w.alloc (.cells #[.slice none 0 0] 49)).alloc (.cells #[.bool false] 4)) 25 (.int .i64 0)).alloc (.cells #[.slice none 0 0,.slice none 0 0,.slice none 0 0,.slice none 0 0,.slice none 0 0,.slice none 0 0,.slice none 0 0,.slice none 0 0] 170);have a3:=World.alloc_heap_new (((w.alloc (.cells #[.slice none 0 0] 49)).alloc (.cells #[.bool false] 4)).alloc (.cells #[.int .i64 0] 25)) (.cells #[.slice none 0 0,.slice none 0 0,.slice none 0 0,.slice none 0 0,.slice none 0 0,.slice none 0 0,.slice none 0 0,.slice none 0 0] 170);simp only [World.size_alloc] at a1 a2 a3;exact ⟨⟨_,a3,rfl,fun j hj=>by omega⟩,a0,a1,a2,hW.below hB,hB⟩
 have HG:=hid G;have HS:=hid S;have Hf:=hid hf;clear G S hf hW;go_enter_defers Tryz.func136,Tryz.ntmps136
 go_wp2_with fail;go_loopw [8] (fun i wr=>∃ k:Nat,k≤8∧i = .int .i64 (k:Int)∧Hid (∀ j,j < k→(f j).length≤30)∧Hid (jm w Bw Bm b off cap N zs T f k wr)) (fun i _=>8 - (intOf i).toNat)
 case atStart=>exact ⟨0,by omega,rfl,fun j hj=>by omega,hI0⟩
 case round =>
  obtain ⟨k,hk,rfl,hle,hI⟩:=hrel;by_cases hlt:k < 8
  ·have hlt':(k:Int) < 8:=by omega
   have hC:=P7 zs HG.out T h HS.out Bw Bm b off cap N (Hf.out k hlt) (by omega) wr hI.out.JF;by_cases jD:(f k).length≤30
   ·have hC':=hid (hC.mono (R':=fun e w'=>Below wr.heap.size wr w'∧∃ v,e = .returned v∧New wr.heap.size w' v (f k)) (fun e w' hA=>⟨hA.1,hA.2.elim (fun h=>h.2) (fun h=>absurd h.1 (by omega))⟩))
    have abM:=hid (show ∀ j,j < k+1→(f j).length≤30 from fun j hj=>if e:j = k then e ▸ jD else hle.out j (by omega));have hsz:w.heap.size+1+1+1+1≤wr.heap.size:=by
     obtain ⟨cs,hblk,_⟩:=hI.out.arr;have:=(Array.getElem?_eq_some_iff.1 hblk).1
     omega
    clear hC jD hle;go_wp2_with (first
     | (go_at_call 141;refine hC'.out.mono ?_;clear hC';rintro e w1 ⟨hB1,v,rfl,hN1⟩;obtain ⟨av,nv,cv,rfl⟩:=hN1.slice3;have hI1:=hid (hI.out.below hB1);obtain ⟨x1,cA,fA⟩:=hI1.out.abL hlt))
    go_roundw
    case rel=>exact ⟨k+1,by omega,by go_num,abM,hid (hI1.out.set hlt ⟨wl,ml⟩ hbl hN1 hsz)⟩
    case measure=>simp [intOf];omega
   ·have hC':=hid (hC.mono (R':=fun e w'=>Below wr.heap.size wr w'∧e = .panicked ko) (fun e w' hA=>⟨hA.1,hA.2.elim (fun h=>absurd h.1 jD) (fun h=>h.2)⟩))
    clear hC;go_wp2_with (first
     | (go_at_call 141;refine hC'.out.mono ?_;clear hC';rintro e w1 ⟨hB1,rfl⟩))
    have hI1:=hI.out.below hB1;refine leaves_cons (f:=140) (args:=#[.pointer (some ⟨w.heap.size,0,none⟩),.pointer (some ⟨w.heap.size+1,0,none⟩),.pointer (some ⟨w.heap.size+1+1,0,none⟩)]) (by simp) (by simp [go_sem]) ?_;refine (JQ w.heap.size w1 hI1.b0 hI1.b1 hI1.b2).mono ?_;rintro e u' w2 ⟨rfl,rfl,hB2,d0,d1,d2⟩;exact ⟨_,y9 rfl rfl rfl rfl d0.cell d1.cell d2.cell,hI1.bl.trans hB2,.inr ⟨⟨k,hlt,by omega⟩,rfl⟩⟩
  ·obtain rfl:k = 8:=by omega
   have e0:=hI.out.b0.cell;have e1:=hI.out.b1.cell;have e2:=hI.out.b2.cell;have f0:=hI.out.b0.frozen;have f1:=hI.out.b1.frozen;have f2:=hI.out.b2.frozen;go_wp2;refine leaves_cons (f:=140) (args:=#[.pointer (some ⟨w.heap.size,0,none⟩),.pointer (some ⟨w.heap.size+1,0,none⟩),.pointer (some ⟨w.heap.size+1+1,0,none⟩)]) (by simp) (by simp [go_sem]) ?_;refine (P8 ⟨w.heap.size,0,none⟩ ⟨w.heap.size+1,0,none⟩ ⟨w.heap.size+1+1,0,none⟩ _).mono ?_;rintro e u' w2 ⟨rfl,rfl,rfl⟩;have hI1:=hI.out;have d0:=((hI1.b0.set (.slice (some ⟨w.heap.size+1+1+1,0,none⟩) 8 8)).other (B':=w.heap.size+1) (by omega) (.bool true)).other (B':=w.heap.size+1+1) (by omega) (.int .i64 0);have d1:=((hI1.b1.other (B':=w.heap.size) (by omega) (.slice (some ⟨w.heap.size+1+1+1,0,none⟩) 8 8)).set (.bool true)).other (B':=w.heap.size+1+1) (by omega) (.int .i64 0);have d2:=((hI1.b2.other (B':=w.heap.size) (by omega) (.slice (some ⟨w.heap.size+1+1+1,0,none⟩) 8 8)).other (B':=w.heap.size+1) (by omega) (.bool true)).set (.int .i64 0);refine ⟨_,y9 rfl rfl rfl rfl d0.cell d1.cell d2.cell,?_,.inl ⟨hle.out,_,rfl,?_⟩⟩
   ·exact ((hI1.bl.setCell (p:=⟨w.heap.size,0,none⟩) (Nat.le_refl _) _).setCell (p:=⟨w.heap.size+1,0,none⟩) (by show w.heap.size≤w.heap.size+1;omega) _).setCell (p:=⟨w.heap.size+1+1,0,none⟩) (by show w.heap.size≤w.heap.size+1+1;omega) _
   ·refine hI1.subs (fun q hq=>?_) ?_
    ·exact ((Below.heap_setCell _ ⟨w.heap.size+1+1,0,none⟩ _ q (show q≠w.heap.size+1+1 by omega)).trans (Below.heap_setCell _ ⟨w.heap.size+1,0,none⟩ _ q (show q≠w.heap.size+1 by omega))).trans (Below.heap_setCell _ ⟨w.heap.size,0,none⟩ _ q (show q≠w.heap.size by omega))
    ·exact Nat.le_trans (Nat.le_trans (KeepsWalks.setCell wr _ _).size (KeepsWalks.setCell _ _ _).size) (KeepsWalks.setCell _ _ _).size
theorem D5 (w:World) (ty:TypeId) (base:Nat) (v:Value) (xs:List Int) (hN:New base w v xs) (ad:Addr) (ys:List Int) (c:Nat) (hI:Ints w.heap.size w (some ad) ys) (hlen:xs.length+ys.length≤1000000) (hbase:base≤w.heap.size) :
 ∃ v' w',(Builtin.append_ #[35,35] ty #[v,.slice (some ad) ys.length c]).run Tryz.prog w = .ok v' w'∧New base w' v' (xs++ys)∧w.grownBy w' v.ownBlock∧(v'.ownBlock = v.ownBlock∨v'.ownBlock = some w.heap.size):=by
 obtain ⟨i0,hi,hz0,hz1,hz2⟩:=info_parts Tryz.info3;have hc:=hI.news;have h1:∀ u∈ys.map (Value.int .i64),u.oneCell' = true:=by intro u hu;simp at hu;obtain ⟨z,_,rfl⟩:=hu;rfl
 obtain ⟨v',w',hr,r1,r2,r3⟩:=run_append_own (P:=Tryz.prog) w base 35 ty 3 i0 (.int .i64 0) 1 8 Tryz.underlying35 hi hz0 hz1 hz2 rfl (by decide) v xs.length (xs.map (Value.int .i64)) hN ad ys.length c (ys.map (Value.int .i64)) (by simp) hc h1 (by unfold maxLen;omega) (by omega) hbase;refine ⟨v',w',hr,by simpa [New] using r1,r2,?_⟩;have hsz:i0.size = 1:=hz1;have hby:i0.bytes = 8:=hz2;rcases hN.2 with ⟨rfl,h0⟩ | ⟨g,cap,cur,rfl,hbg,hg,hnc,hcm,hcs,htake⟩
 ·by_cases hm:ys.length = 0
  ·rw [r3.2 ⟨rfl,hm⟩]
   exact .inl rfl
  ·have hr2:=run_append_nil (P:=Tryz.prog) w 35 ty 3 i0 (.int .i64 0) Tryz.underlying35 hi hz0 ad ys.length c (ys.map (Value.int .i64)) (by simp [hsz]) hc (by omega) (by omega) (by rw [hby];omega)
   rw [hr] at hr2;cases hr2;exact .inr rfl
 ·by_cases hroom:xs.length+ys.length≤cap
  ·have hfit:xs.length * i0.size+(ys.map (Value.int .i64)).length≤cur.size:=by rw [hcs,hsz];simp;omega
   have hr2:=run_append_room (P:=Tryz.prog) w 35 ty 3 i0 Tryz.underlying35 hi g xs.length cap cur hg ad ys.length c (ys.map (Value.int .i64)) (by simp [hsz]) hc h1 hroom hfit;rw [hr] at hr2;cases hr2;exact .inl rfl
  ·have hr2:=run_append_grow (P:=Tryz.prog) w 35 ty 3 i0 (.int .i64 0) Tryz.underlying35 hi hz0 ⟨g,0,none⟩ xs.length cap (xs.map (Value.int .i64)) (by simp [hsz]) (World.ownsRow.cells hN (g:=g) rfl) ad ys.length c (ys.map (Value.int .i64)) (by simp [hsz]) hc (by omega) (by omega) (growslice_fits (by omega) (by rw [hby];omega))
   rw [hr] at hr2;cases hr2;exact .inr rfl
theorem D6 {ops:Array Oper} {rest:List Oper} {o:Oper} {a:Act} {Q:Exit→Act→World→Prop} (w:World) (hgd:o.guard = none) (s x:Operand)
 (ho:o.op = .call { callee:=.builtin .append,args:=#[s,x],argTypes:=#[35,35] }) (base:Nat) (v:Value) (xs:List Int) (hs:a.eval s = v) (hN:New base w v xs)
 (ao:Option Addr) (ys:List Int) (c:Nat) (hx:a.eval x = .slice ao ys.length c) (hn:ao = none→ys.length = 0∧c = 0) (hI:Ints w.heap.size w ao ys) (hlen:xs.length+ys.length≤1000000) (hbase:base≤w.heap.size)
 (h:∀ v' w',New base w' v' (xs++ys)→w.grownBy w' v.ownBlock→(v'.ownBlock = v.ownBlock∨v'.ownBlock = some w.heap.size)→wpList Tryz.prog ops Q rest (a.put o.dst v') w'):wpList Tryz.prog ops Q (o :: rest) a w:=by
 cases ao with
 | none =>
  obtain ⟨i0,hi,hz0,hz1,hz2⟩:=info_parts Tryz.info3;obtain ⟨h0,rfl⟩:=hn rfl;obtain rfl:ys = []:=List.eq_nil_of_length_eq_zero h0;exact wpList_append_own_none hgd s x 35 ho base 3 i0 1 Tryz.underlying35 hi v xs.length (xs.map (Value.int .i64)) hs hN hx (h v w (by simpa using hN) ⟨rfl,rfl,rfl,Nat.le_refl _,fun _ _ _=>rfl⟩ (.inl rfl))
 | some ad =>
  refine wpList_plain hgd fun _ hK=>?_
  obtain ⟨v',w',hr,h2,h3,h4⟩:=D5 w o.type base v xs hN ad ys c hI hlen hbase;unfold Oper.wp execOp;simp only [ho,resolve,invoke,builtin,Sem.run_bind,Sem.run_pure,Result.andThen_ok,List.map_toArray,List.map_cons,List.map_nil,hs,hx,hr];exact hK _ _ (h v' w' h2 h3 h4)
theorem Vu (zs t:List Int) (Bw Bm:Nat) (v:Value) (at':Option Addr) (ct:Nat) (w:World) (hO:LH w Bw Bm v zs) (hT:Ints w.heap.size w at' t) (hct:at' = none→t.length = 0∧ct = 0) (hl:zs.length+t.length≤5000) :
 Calls Tryz.prog 134 #[.pointer (some ⟨Bw,0,none⟩),.slice at' t.length ct] w fun e w'=>e = .returned (.int .i64 (zs.length:Int))∧∃ v',LH w' Bw Bm v' (zs++t)∧w'.os = w.os∧w'.tape = w.tape∧w'.output = w.output∧w.heap.size≤w'.heap.size ∧
  (∀ k,v'.ownBlock = some k→v.ownBlock = some k∨w.heap.size≤k)∧∀ k,k < w.heap.size→k≠Bw→some k≠v.ownBlock→w'.heap[k]? = w.heap[k]?:=by
 obtain ⟨hw,hN⟩:=hO;have hlt:Bw < w.heap.size:=(Array.getElem?_eq_some_iff.1 hw).1;have hc0:w.cell? ⟨Bw,0,none⟩ = some v:=(aM hw 0).trans rfl;have hf0:w.frozen? ⟨Bw,0,none⟩ = false:=by simp only [World.frozen?];rw [hw];simp
 obtain ⟨a0,c0,rfl,_⟩:=New.ints hN;have hown:∀ k,(Value.slice a0 zs.length c0).ownBlock = some k→Bw+1≤k:=fun k e=>(World.ownsRow.lt hN k e).1
 have hz:(zs.length:Int)≤5000:=by omega
 go_enter Tryz.func134,Tryz.ntmps134;go_wp2_with (first
  | (at_builtin;go_loud (refine D6 _ rfl _ _ rfl (Bw+1) _ zs rfl hN at' t ct rfl hct hT (by omega) (by omega) ?_);intro v' w2 eH hg2 ho2;have hw2:w2.heap[Bw]? = some (.cells #[.slice a0 zs.length c0,.map (some Bm)] 168 (0,0)):=(hg2.block Bw hlt (fun e=>by have:=hown Bw e.symm;omega)).trans hw;have hc2:w2.cell? ⟨Bw,0,none⟩ = some (.slice a0 zs.length c0):=(aM hw2 0).trans rfl;have hf2:w2.frozen? ⟨Bw,0,none⟩ = false:=(by simp only [World.frozen?];rw [hw2];simp);obtain ⟨a2,c2,rfl,_⟩:=New.ints eH))
 go_ret;have hown2:∀ k,(Value.slice a2 (zs++t).length c2).ownBlock = some k→Bw+1≤k:=fun k e=>(World.ownsRow.lt eH k e).1
 refine ⟨rfl,.slice a2 (zs++t).length c2,⟨?_,?_⟩,hg2.os,hg2.tape,hg2.output,Nat.le_trans hg2.size (KeepsWalks.setCell w2 _ _).size,fun k e=>ho2.elim (fun h=>.inl (h ▸ e)) (fun h=>.inr (by rw [h] at e;cases e;exact Nat.le_refl _)),fun k hk hn ho=>(Below.heap_setCell w2 ⟨Bw,0,none⟩ _ k hn).trans (hg2.block k hk ho)⟩
 ·obtain ⟨hlt',hk⟩:=Array.getElem?_eq_some_iff.1 hw2
  rw [List.length_append];show (w2.heap.modify Bw _)[Bw]? = _;rw [Array.getElem?_eq_getElem (by rw [Array.size_modify];exact hlt'),Array.getElem_modify_self,hk];rfl
 ·refine World.ownsRow.kept eH (dz w2 Bw 0 _) ?_
  cases e:(Value.slice a2 (zs++t).length c2).ownBlock with
  | none=>exact .inl rfl
  | some k=>exact .inr (by have:=hown2 k e;simp;omega)
namespace Wb
theorem Yi (zs t:List Int) (h:Nat→Nat):rt (zs++t) h≤rt zs h+t.length:=by
 unfold rt;rw [List.length_append,List.range_add,List.filter_append,List.length_append];have h2:((List.map (fun x=>zs.length+x) (List.range t.length)).filter fun p=>decide (can (zs++t) p = p∧h p = p)).length≤t.length:=by
  refine Nat.le_trans (List.length_filter_le _ _) ?_;simp
 have h1:((List.range zs.length).filter fun p=>decide (can (zs++t) p = p∧h p = p)) = (List.range zs.length).filter fun p=>decide (can zs p = p∧h p = p):=by
  refine List.filter_congr fun p hp=>?_
  rw [Dh (List.mem_range.1 hp)]
 rw [h1];omega
end Wb
structure FW (W:World) (Bw Bm:Nat) (v:Value) (zs:List Int) (h:Nat→Nat):Prop where
 own:LH W Bw Bm v zs
 tied:∃ T N M,Wb.St zs T h∧dh W Bm N M∧(∀ p:Nat,M (p:Int) = (T p).map fun q=>.int .i64 (q:Int))∧N+Wb.rt zs h≤zs.length
theorem FW.st {W:World} {Bw Bm:Nat} {v:Value} {zs:List Int} {h:Nat→Nat} (H:FW W Bw Bm v zs h) (h0:0 < zs.length):∃ b cap,v = .slice (some ⟨b,0,none⟩) zs.length cap∧Fg W Bw Bm (some ⟨b,0,none⟩) cap zs h:=by
 obtain ⟨⟨hw,hN⟩,T,N,M,S,hM,hT,hn⟩:=H;obtain ⟨a,c',e,hI,_⟩:=New.ints hN;rcases hN.2 with ⟨rfl,h1⟩ | ⟨g,c,cur,rfl,_⟩
 ·omega
 ·cases e
  exact ⟨g,c',rfl,T,N,S,⟨hw,hI,M,hM,hT⟩,hn⟩
theorem FW.lt {W:World} {Bw Bm:Nat} {v:Value} {zs:List Int} {h:Nat→Nat} (H:FW W Bw Bm v zs h):Bw < W.heap.size∧Bm < W.heap.size:=by
 obtain ⟨⟨hw,hN⟩,T,N,M,S,hM,hT,hn⟩:=H;exact ⟨(Array.getElem?_eq_some_iff.1 hw).1,hM.lt⟩
theorem JR {base:Nat} {X:World} {v:Value} {xs:List Int} {k:Nat} (hN:New base X v xs) {es:Array (MapEntry)} {ck:Nat} (hm:X.heap[k]? = some (.map es ck)):some k≠v.ownBlock:=fun e=>by
 obtain ⟨o,ho,hc⟩:=BJ hN e.symm;rw [hm] at ho;cases ho;cases hc
def Sq (w w':World) (Bw Bm:Nat) (v:Value):Prop:=w'.os = w.os∧w'.tape = w.tape∧w'.output = w.output∧w.heap.size≤w'.heap.size∧∀ k,k < w.heap.size→k≠Bw→k≠Bm→some k≠v.ownBlock→w'.heap[k]? = w.heap[k]?
theorem LP (zs t:List Int) (h:Nat→Nat) (Bw Bm:Nat) (v:Value) (at':Option Addr) (ct:Nat) (w:World) (H:FW w Bw Bm v zs h) (hT:Ints w.heap.size w at' t) (hct:at' = none→t.length = 0∧ct = 0) (hl:zs.length+t.length≤5000) :
 Calls Tryz.prog 134 #[.pointer (some ⟨Bw,0,none⟩),.slice at' t.length ct] w fun e w'=>e = .returned (.int .i64 (zs.length:Int))∧∃ v',FW w' Bw Bm v' (zs++t) h∧Sq w w' Bw Bm v∧∀ k,v'.ownBlock = some k→v.ownBlock = some k∨w.heap.size≤k:=by
 obtain ⟨hO,T,N,M,S,hM,hMT,hn⟩:=H;refine (Vu zs t Bw Bm v at' ct w hO hT hct hl).mono ?_;rintro e w' ⟨rfl,v',hO',h1,h2,h3,h4,ho,hk⟩;obtain ⟨es,ck,hmap⟩:=hM.map;have hne:Bm≠Bw:=fun e=>by
  have:=hO.1
  rw [← e,hmap] at this;cases this
 refine ⟨rfl,v',⟨hO',T,N,M,S.ext,hM.keep (hk Bm hM.lt hne (JR hO.2 hmap)),hMT,?_⟩,⟨h1,h2,h3,h4,fun k hk' n1 _ n3=>hk k hk' n1 n3⟩,ho⟩;have:=Wb.Yi zs t h
 rw [List.length_append];omega
theorem Yj (zs:List Int) (G:Wb.Good zs) (h:Nat→Nat) (Bw Bm:Nat) (v:Value) (one other:Nat) (w:World) (h1:one < zs.length) (h2:other < zs.length) (H:FW w Bw Bm v zs h) :
 Calls Tryz.prog 133 #[.pointer (some ⟨Bw,0,none⟩),.int .i64 (one:Int),.int .i64 (other:Int)] w fun e w'=>∃ q,e = .returned (.bool q)∧aW w.heap.size Bm w w' ∧
  ((q = true∧∃ h',Wb.kN zs h h' [(one,other)]∧FW w' Bw Bm v zs h')∨(q = false∧Wb.No zs h [(one,other)])):=by
 obtain ⟨b,cap,rfl,hSt⟩:=H.st (by omega);obtain ⟨hO,T,N,M,S,hM,hMT,hn⟩:=H;obtain ⟨es,ck,hmap⟩:=hM.map;refine (Vq (Vr zs G Bw Bm b 0 cap _ h (Nat.le_refl _) one other w h1 h2 hSt)).mono ?_;rintro e w' ⟨q,rfl,hK,hq⟩;refine ⟨q,rfl,hK,?_⟩;rcases hq with ⟨rfl,h',hL,⟨T',N',S',hW',hn'⟩,_⟩ | ⟨rfl,yT⟩
 ·obtain ⟨M',hM',ae1⟩:=hW'.ties
  refine .inl ⟨rfl,h',hL,⟨⟨hW'.JF,?_⟩,T',N',M',S',hM',ae1,hn'⟩⟩;rcases hO.2.2 with ⟨e,_⟩ | ⟨g,c,cur,e,hb,hg,h4⟩
  ·cases e
  ·refine ⟨hO.2.1,.inr ⟨g,c,cur,e,hb,?_,h4⟩⟩
   exact (hK.block g (Array.getElem?_eq_some_iff.1 hg).1 (fun e=>by rw [e,hmap] at hg;cases hg)).trans hg
 ·exact .inr ⟨rfl,yT⟩
namespace Wb
def eight (k:Nat):List Int:=((Tm.gQ 8).take k).flatten
theorem LQ {k:Nat} (hk:k < 8):eight (k+1) = eight k++((Tm.gQ 8)[k]?.getD []):=qE _ k (by rw [Tm.gy];exact hk)
theorem jM:∀ k,k≤8→(eight k).length = k:=by decide +kernel
theorem JS:∀ k,k < 8→((Tm.gQ 8)[k]?.getD []).length = 1:=by decide +kernel
theorem Xq:Good (Wb.eight 8):=by
 refine ⟨by decide +kernel,by decide +kernel,?_,?_,?_⟩
 ·have:∀ p,p < 8→-8≤sg (Wb.eight 8) p∧sg (Wb.eight 8) p < 6:=by decide +kernel
  intro p hp;exact this p (by rw [jM 8 (by omega)] at hp;exact hp)
 ·decide +kernel
 ·have:∀ p,p < 8→Tm.ai (Wb.eight 8) p≤8:=by decide +kernel
  intro p hp;rw [jM 8 (by omega)] at hp ⊢;exact this p hp
end Wb
theorem FW.keep {W W':World} {Bw Bm:Nat} {v:Value} {zs:List Int} {h:Nat→Nat} (H:FW W Bw Bm v zs h) (hB:Below W.heap.size W W'):FW W' Bw Bm v zs h:=by
 obtain ⟨⟨hw,hN⟩,T,N,M,S,hM,hT,hn⟩:=H;exact ⟨⟨(hB.block _ (Array.getElem?_eq_some_iff.1 hw).1).trans hw,hN.below hB⟩,T,N,M,S,hM.keep (hB.block _ hM.lt),hT,hn⟩
theorem New.ze {base:Nat} {W W':World} {v:Value} {xs:List Int} (h:New base W v xs) (hk:∀ q,base≤q→q < W.heap.size→W'.heap[q]? = W.heap[q]?):New base W' v xs :=
 ⟨h.1,h.2.elim .inl fun ⟨g,c,cur,e,hb,hg,r⟩=>.inr ⟨g,c,cur,e,hb,(hk g hb (Array.getElem?_eq_some_iff.1 hg).1).trans hg,r⟩⟩
theorem dG.ze {base:Nat} {W W':World} {v:Value} {ss:List (List Int)} (h:dG base W v ss) (hk:∀ q,base≤q→q < W.heap.size→W'.heap[q]? = W.heap[q]?) (_hs:W.heap.size≤W'.heap.size):dG base W' v ss:=by
 obtain ⟨us,h1,h2⟩:=h;refine ⟨us,⟨h1.1,h1.2.elim .inl fun ⟨g,c,cur,e,hb,hg,r⟩=>.inr ⟨g,c,cur,e,hb,(hk g hb (Array.getElem?_eq_some_iff.1 hg).1).trans hg,r⟩⟩,fun j hj=>?_⟩;obtain ⟨u,hu,hN⟩:=h2 j hj;exact ⟨u,hu,hN.ze hk⟩
theorem LU (w:World):Calls Tryz.prog 132 #[] w fun e w'=>∃ v,e = .returned (.pointer (some ⟨w.heap.size+1,0,none⟩))∧FW w' (w.heap.size+1) w.heap.size v (Wb.eight 8) (fun p=>p)∧Below w.heap.size w w':=by
 have hmm:=@run_makeMap Tryz.prog;have hF0:Hid (FW ((w.alloc (.map #[] 0)).alloc (.cells #[.slice none 0 0,.map (some w.heap.size)] 168)) (w.heap.size+1) w.heap.size (.slice none 0 0) [] (fun p=>p)):=by
  have h1:=World.alloc_heap_new (w.alloc (.map #[] 0)) (.cells #[.slice none 0 0,.map (some w.heap.size)] 168);rw [World.size_alloc] at h1;refine ⟨⟨h1,New.nil _ _⟩,fun _=>none,0,fun _=>none,Wb.St.start [],(dh.made w).keep (Below.heap_alloc _ _ _ (by simp)),fun _=>rfl,by simp [Wb.rt]⟩
 have hB0:Below w.heap.size w ((w.alloc (.map #[] 0)).alloc (.cells #[.slice none 0 0,.map (some w.heap.size)] 168)):=((Below.refl _ w).alloc (Nat.le_refl _) _).alloc (by simp) _;have hs0:((w.alloc (.map #[] 0)).alloc (.cells #[.slice none 0 0,.map (some w.heap.size)] 168)).heap.size = w.heap.size+1+1:=by simp
 go_enter Tryz.func132,Tryz.ntmps132;go_wp2_with (first
  | (go_at_call 73;refine (JU _).mono ?_;rintro e w3 ⟨u,rfl,hN,hB3⟩;obtain ⟨a,c,rfl,hS,_⟩:=hN.subs;have hlen:(Tm.gQ 8).length = 8:=Tm.gy 8;rw [hlen]))
 have hs3:=hB3.size;rw [hs0] at hs3 hN;have kr:Hid (∀ W:World,(∀ q,w.heap.size+1+1≤q→q < w3.heap.size→W.heap[q]? = w3.heap[q]?)→w3.heap.size≤W.heap.size→gu W.heap.size W a (Tm.gQ 8)):=fun W h1 h2=>by
  obtain ⟨a',c',e,hS',_⟩:=(hN.ze h1 h2).subs;cases e;exact hS'
 have Vv:=hid (hF0.out.keep hB3);have hBw:=hid (hB0.trans (hB3.mono (by rw [hs0];omega)));clear hN hS hF0 hB0 hB3;go_loopw [9] (fun i wr=>∃ (k:Nat) (v:Value),k≤8∧i = .int .i64 (k:Int)∧Hid (FW wr (w.heap.size+1) w.heap.size v (Wb.eight k) (fun p=>p))∧Hid (∀ q,v.ownBlock = some q→w3.heap.size≤q)∧Hid (wr.os = w.os∧wr.tape = w.tape∧wr.output = w.output∧w3.heap.size≤wr.heap.size∧∀ q,q < w3.heap.size→q≠w.heap.size+1→q≠w.heap.size→wr.heap[q]? = w3.heap[q]?)) (fun i _=>8 - (intOf i).toNat)
 case atStart=>exact ⟨0,.slice none 0 0,by omega,rfl,Vv,fun q e=>by simp [Value.ownBlock] at e,hBw.out.os,hBw.out.tape,hBw.out.output,Nat.le_refl _,fun _ _ _ _=>rfl⟩
 case round =>
  obtain ⟨k,v,hk,rfl,hF,ho,hK⟩:=hrel;by_cases hlt:k < 8
  ·have hlt':(k:Int) < 8:=by omega
   have hS:=kr.out wr (fun q h1 h2=>hK.out.2.2.2.2 q h2 (by omega) (by omega)) hK.out.2.2.2.1;obtain ⟨b,off,rfl,hb,hc⟩:=hS.at (by rw [hlen];omega);obtain ⟨aj,cj,hcj,hIj,_⟩:=hc k (by rw [hlen];exact hlt);have hl1:=Wb.JS k hlt;have hl8:=Wb.jM k hk;have hC:=hid (LP (Wb.eight k) ((Tm.gQ 8)[k]?.getD []) (fun p=>p) (w.heap.size+1) w.heap.size v aj cj wr hF.out hIj (fun e=>by
    obtain ⟨b',off',e',_⟩:=hIj.at (by omega);rw [e] at e';cases e') (by omega))
   have hst:=hid (Wb.LQ hlt);rw [hl1] at hC hcj;rw [hl8] at hC;clear hS hc hIj hl1 hl8 hF;go_wp2_with (first
    | (go_at_call 134;refine hC.out.mono ?_;clear hC;rintro e w4 ⟨rfl,v4,hF4,hK4,ho4⟩))
   go_roundw
   case rel =>
    obtain ⟨g1,g2,g3,g4,g5⟩:=hK.out;obtain ⟨k1,k2,k3,k4,k5⟩:=hK4;refine ⟨k+1,v4,by omega,by go_num,by rw [hst.out];exact hF4,fun q e=>?_,k1.trans g1,k2.trans g2,k3.trans g3,by omega,fun q hq n1 n2=>(k5 q (by omega) n1 n2 (fun e=>by have:=ho.out q e.symm;omega)).trans (g5 q hq n1 n2)⟩;rcases ho4 q e with h1 | h1
    ·exact ho.out q h1
    ·omega
   case measure=>simp [intOf];omega
  ·obtain rfl:k = 8:=by omega
   go_wp2;go_ret;obtain ⟨g1,g2,g3,g4,g5⟩:=hK.out;exact ⟨v,rfl,hF.out,g1,g2,g3,by omega,fun q hq=>(g5 q (by omega) (by omega) (by omega)).trans (hBw.out.block q hq)⟩
def Tm.fu (t u:List Int):List Int:=Tm.eU (Tm.aT [] t) u u.length
theorem F8 (t u:List Int) (at' au:Option Addr) (ct cu B:Nat) (w:World) (ht:t.length≤100) (hu:u.length≤100) (h8:∀ k,k < t.length→-8≤t[k]?.getD 0) (h6:∀ k,k < t.length→t[k]?.getD 0 < 6) (g8:∀ k,k < u.length→-8≤u[k]?.getD 0) (g6:∀ k,k < u.length→u[k]?.getD 0 < 6)
 (hB:w.cell? ⟨B,0,none⟩ = some (.slice at' t.length ct)) (hB':w.cell? ⟨B,1,none⟩ = some (.slice au u.length cu)) (hT:Ints w.heap.size w at' t) (hU:Ints w.heap.size w au u) :
 Calls Tryz.prog 90 #[.slice (some ⟨B,0,none⟩) 2 2] w fun e w'=>∃ v,e = .returned v∧dG w.heap.size w' v [Tm.plain t,Tm.fu t u]∧Below w.heap.size w w':=by
 have hmf:∀ (fn:Fn) (first cap:Array Value) (w:World),(Instr.makeFunc fn first cap).run Tryz.prog w = .ok (.func fn first cap) w:=fun _ _ _ _=>rfl
 have hmm:=@run_makeMap Tryz.prog;have hBl:=lt_of_cell hB;have HT:=hid hT;have HU:=hid hU;have HB:=hid hB;have HB':=hid hB';have H8:=hid h8;have H6:=hid h6;have G8:=hid g8;have G6:=hid g6;clear hT hB hU hB' h8 h6 g8 g6;go_enter Tryz.func90,Tryz.ntmps90;go_wp2;have hB0:Below w.heap.size w ((w.alloc (.map #[] 0)).alloc (.cells #[.map (some w.heap.size)] 154)):=((Below.refl _ _).alloc (Nat.le_refl _) _).alloc (by simp) _;have hF0:iA ((w.alloc (.map #[] 0)).alloc (.cells #[.map (some w.heap.size)] 154)) (w.heap.size+1) w.heap.size [] :=
  ⟨kP (w.alloc (.map #[] 0)) (.map (some w.heap.size)) 154 (w.heap.size+1) (by simp),.map [],(World.ownsMap_made w Tryz.prog 3 (plainElem Tryz.prog 3)).alloc _,D7.empty⟩
 have hsz:((w.alloc (.map #[] 0)).alloc (.cells #[.map (some w.heap.size)] 154)).heap.size = w.heap.size+2:=by simp
 obtain ⟨W0,hW0⟩:∃ W0,(w.alloc (.map #[] 0)).alloc (.cells #[.map (some w.heap.size)] 154) = W0:=⟨_,rfl⟩;rw [hW0] at hB0 hF0 hsz ⊢;clear hW0;have Hsz:=hid hsz;clear hsz;go_loopw [5,12] (fun v i wr=>(i = .int .i64 0∧v = .slice none 0 0∧wr = W0)∨(i = .int .i64 1∧dG W0.heap.size wr v [Tm.plain t]∧iA wr (w.heap.size+1) w.heap.size (Tm.aT [] t)∧Below w.heap.size w wr∧W0.heap.size≤wr.heap.size)∨(i = .int .i64 2∧dG w.heap.size wr v [Tm.plain t,Tm.fu t u]∧Below w.heap.size w wr)) (fun _ i _=>2 - (intOf i).toNat)
 case atStart=>exact .inl ⟨rfl,rfl,rfl⟩
 case round =>
  rcases hrel with ⟨rfl,rfl,rfl⟩ | ⟨rfl,hN0,hF,hB,hW⟩ | ⟨rfl,hN,hB⟩
  ·have hcB:=(hB0.cell (p:=⟨B,0,none⟩) hBl).trans HB.out
   have hC:=rH [] t at' ct (w.heap.size+1) w.heap.size wr ht (by simp) H8.out H6.out hF0 ((HT.out.below hB0).mono hB0.size);have Hlen:=hid (Tm.bH [] t t.length);have hpd:Tm.eU [] t t.length = Tm.plain t:=rfl;rw [hpd] at hC Hlen;clear hpd;generalize Tm.plain t = pt at *;go_wp2_with fail;refine hC.mono ?_;rintro e w1 ⟨v,rfl,hN,hF1,hK⟩;clear hC;obtain ⟨a1,c1,rfl,_⟩:=New.ints hN;have hB1:Below w.heap.size w w1:=hB0.trans ((hK.mono hB0.size).below (Nat.le_refl _));have Hu:=hid (hN.alloc (.cells #[.slice a1 pt.length c1] 35));have Sr:=hid (kP w1 (.slice a1 pt.length c1) 35 w1.heap.size rfl);have hA:Below w.heap.size w (w1.alloc (.cells #[.slice a1 pt.length c1] 35)):=hB1.alloc hB1.size _;have hA1:Below w1.heap.size w1 (w1.alloc (.cells #[.slice a1 pt.length c1] 35)):=(Below.refl _ _).alloc (Nat.le_refl _) _;have HF1:=hid hF1;have hs1:=hK.size;clear hN hK hF1;go_wp2_with (at_builtin;go_loud (refine kG _ rfl _ _ rfl wr.heap.size _ [] rfl (dG.nil _ _) (.slice a1 pt.length c1) pt w1.heap.size rfl Sr.out Hu.out (by simp) (by have:=hA1.size;omega) ?_);intro v' w5 mV gq;obtain ⟨a5,c5,rfl,_⟩:=dG.subs mV)
   go_roundw
   case rel =>
    have hs:=Hsz.out;have hsl:=hA1.size;have hs5:=gq.size;refine .inr (.inl ⟨rfl,mV,HF1.out.keep ?_ ?_,hA.trans (gq.mono (by omega)),by omega⟩)
    ·exact (gq.block _ (by omega)).trans (hA1.block _ (by omega))
    ·exact (gq.block _ (by omega)).trans (hA1.block _ (by omega))
   case measure=>simp [intOf]
  ·have hcB:=(hB.cell (p:=⟨B,1,none⟩) hBl).trans HB'.out
   have hsn:=Tm.D8 t [];have hC:=rH (Tm.aT [] t) u au cu (w.heap.size+1) w.heap.size wr hu (by simp at hsn;omega) G8.out G6.out hF ((HU.out.below hB).mono hB.size);have Hlen:=hid (Tm.bH (Tm.aT [] t) u u.length);have hpd:Tm.eU (Tm.aT [] t) u u.length = Tm.fu t u:=rfl;rw [hpd] at hC Hlen;have HN0:=hid hN0;obtain ⟨a0,c0,rfl,_⟩:=dG.subs hN0;clear hpd hsn hN0;generalize Tm.fu t u = pu at *;generalize Tm.plain t = pt at *;go_wp2_with fail;refine hC.mono ?_;rintro e w1 ⟨v,rfl,hN,_,hK⟩;clear hC;obtain ⟨a1,c1,rfl,_⟩:=New.ints hN;have hB1:Below w.heap.size w w1:=hB.trans ((hK.mono hB.size).below (Nat.le_refl _));have hN1:=hid (HN0.out.ze (fun q h1 h2=>hK.block q h2 (by have:=Hsz.out;omega)) hK.size);have Hu:=hid ((hN.mono hW).alloc (.cells #[.slice a1 pu.length c1] 35));have Sr:=hid (kP w1 (.slice a1 pu.length c1) 35 w1.heap.size rfl);have hA:Below w.heap.size w (w1.alloc (.cells #[.slice a1 pu.length c1] 35)):=hB1.alloc hB1.size _;have hA1:Below w1.heap.size w1 (w1.alloc (.cells #[.slice a1 pu.length c1] 35)):=(Below.refl _ _).alloc (Nat.le_refl _) _;have hs1:=hK.size;clear hN hK HN0;go_wp2_with (at_builtin;go_loud (refine kG _ rfl _ _ rfl W0.heap.size _ [pt] rfl (hN1.out.alloc _) (.slice a1 pu.length c1) pu w1.heap.size rfl Sr.out Hu.out (by simp) (by have:=hA1.size;omega) ?_);intro v' w5 mV gq;obtain ⟨a5,c5,rfl,_⟩:=dG.subs mV)
   go_roundw
   case rel=>exact .inr (.inr ⟨rfl,mV.mono hB0.size,hA.trans (gq.mono hB0.size)⟩)
   case measure=>simp [intOf]
  ·obtain ⟨a5,c5,rfl,_⟩:=dG.subs hN
   go_wp2;go_ret;exact ⟨_,rfl,hN,hB⟩
def Tm.fD (ss:List (List Int)) (L1 R1:List Int) (k:Int) (R2:List Int):Int:=if Tm.fZ L1 k R2 = 0 then (if Tm.bf ss (Tm.dX L1 k R2) = 0 then Tm.bf ss R1 else Tm.bf ss (Tm.dX L1 k R2)) else Tm.fZ L1 k R2
def Tm.gm (ss:List (List Int)) (L1 R1:List Int) (k:Int) (R2:List Int):List Int × List Int:=if Tm.fD ss L1 R1 k R2 = 0 then (Tm.plain (Tm.bJ ss (Tm.dX L1 k R2)),Tm.fu (Tm.bJ ss (Tm.dX L1 k R2)) (Tm.bJ ss R1)) else ([],[])
theorem Tm.l6 {ss:List (List Int)} {t:List Int} (h:Tm.bf ss t = 0):Tm.err (Tm.bJ ss t) = 0:=by
 by_cases hs:Tm.dO ss = 0
 ·by_cases ht:Tm.err t = 0
  ·unfold Tm.bJ
   rw [if_pos h];unfold Tm.bf at h;rw [if_pos hs,if_pos ht] at h;by_cases h3:30 < (Tm.applied ss t).length
   ·rw [if_pos h3] at h;omega
   ·exact Tm.kQ (Terms.of hs) ht (by omega)
  ·unfold Tm.bf at h
   rw [if_pos hs,if_neg ht] at h;exact absurd h ht
 ·unfold Tm.bf at h
  rw [if_neg hs] at h;exact absurd h hs
theorem ma {fn:Func} {tmps:Array Value} {w:World} {a b B:Nat} {x y:Value} (h:fn.results = #[.cell a 40,.tmp b]) (ha:tmps.getD a undef = .pointer (some ⟨B,0,none⟩)) (hb:bZ w B 40 x y):(results fn tmps).run Tryz.prog w = .ok (.tuple #[.agg #[x,y],tmps.getD b undef]) w:=by
 have ha':tmps[a]?.getD undef = .pointer (some ⟨B,0,none⟩):=by rw [← ha];simp
 simp only [results,h];simp [go_sem,ha',hb.cell0,hb.cell1]
def PaR (n:Nat) (W:World) (e:Exit) (b:Act) (w4:World):Prop:=e = .normal∧b.tmps.getD 8 undef = .pointer (some ⟨n,0,none⟩)∧b.tmps.getD 9 undef = .int .i64 0∧b.defers = []∧w4 = W.drew
theorem PaR.panic {n:Nat} {b:Act} {W w4:World} {c:_} {G:Prop} (H:PaR n W (.panic c) b w4):G:=by
 cases H.1
theorem dG.two {base:Nat} {W:World} {v:Value} {p q:List Int} (h:dG base W v [p,q]):∃ g cap u0 u1,v = .slice (some ⟨g,0,none⟩) 2 cap∧base≤g∧W.cell? ⟨g,0,none⟩ = some u0∧W.cell? ⟨g,1,none⟩ = some u1∧New base W u0 p∧New base W u1 q:=by
 obtain ⟨us,h1,h2⟩:=h;obtain ⟨u0,e0,n0⟩:=h2 0 (by simp);obtain ⟨u1,e1,n1⟩:=h2 1 (by simp);rcases h1.2 with ⟨rfl,hn⟩ | ⟨g,cap,cur,rfl,hb,r⟩
 ·simp at hn
 ·have cc:=fun k hk=>World.ownsRow.cellAt h1 k hk
  exact ⟨g,cap,u0,u1,rfl,hb,by rw [cc 0 (by simp),e0],by rw [cc 1 (by simp),e1],n0,n1⟩
theorem LV (ss:List (List Int)) (L1 R1 R2:List Int) (k:Int) (a1 b1 a2 b2 aS:Option Addr) (c1 d1 n2 c2 d2 cs:Nat) (w:World) (hL1:Ints w.heap.size w a1 L1) (Rl:Ints w.heap.size w b1 R1) (hR2:Ints w.heap.size w b2 R2) (hS:gu w.heap.size w aS ss) (h1:L1.length≤c1) (h2:c1≤maxLen) :
 Calls Tryz.prog 107 #[.agg #[.slice a1 L1.length c1,.slice b1 R1.length d1],.agg #[.slice a2 n2 c2,.slice b2 R2.length d2],.int .i64 k,.slice aS ss.length cs] w fun e w'=>∃ v u,e = .returned (.tuple #[.agg #[v,u],.int .i64 (Tm.fD ss L1 R1 k R2)])∧New w.heap.size w' v (Tm.gm ss L1 R1 k R2).1∧New w.heap.size w' u (Tm.gm ss L1 R1 k R2).2∧Below w.heap.size w w':=by
 obtain ⟨W3,hW3⟩:∃ W3,((w.alloc (.cells #[.slice a1 L1.length c1,.slice b1 R1.length d1] 54)).alloc (.cells #[.slice a2 n2 c2,.slice b2 R2.length d2] 54)).alloc (.cells #[.slice none 0 0,.slice none 0 0] 40) = W3:=⟨_,rfl⟩;have hs3:W3.heap.size = w.heap.size+3:=by rw [← hW3];simp
 have hB3:Below w.heap.size w W3:=by rw [← hW3];exact (((Below.refl _ w).alloc (Nat.le_refl _) _).alloc (by simp) _).alloc (by simp;omega) _
 have bx:bZ W3 w.heap.size 54 (.slice a1 L1.length c1) (.slice b1 R1.length d1):=by rw [← hW3];exact ((bZ.new w 54 _ _).alloc _).alloc _
 have by':bZ W3 (w.heap.size+1) 54 (.slice a2 n2 c2) (.slice b2 R2.length d2):=by
  rw [← hW3];have h:=bZ.new (w.alloc (.cells #[.slice a1 L1.length c1,.slice b1 R1.length d1] 54)) 54 (.slice a2 n2 c2) (.slice b2 R2.length d2);rw [World.size_alloc] at h;exact h.alloc _
 have bz:bZ W3 (w.heap.size+1+1) 40 (.slice none 0 0) (.slice none 0 0):=by
  rw [← hW3];have h:=bZ.new ((w.alloc (.cells #[.slice a1 L1.length c1,.slice b1 R1.length d1] 54)).alloc (.cells #[.slice a2 n2 c2,.slice b2 R2.length d2] 54)) 40 (.slice none 0 0) (.slice none 0 0);simpa only [World.size_alloc] using h
 have hbx:Hid (∀ W,Below W3.heap.size W3 W→bZ W w.heap.size 54 (.slice a1 L1.length c1) (.slice b1 R1.length d1)∧bZ W (w.heap.size+1+1) 40 (.slice none 0 0) (.slice none 0 0)):=fun W hW=>⟨bx.below hW bx.lt,bz.below hW bz.lt⟩
 have k30:=bx.cell0;have k31:=bx.cell1;have k41:=by'.cell1
 have C1:=hid (Cn L1 R2 a1 b2 c1 d2 k W3 ((hL1.below hB3).mono hB3.size) ((hR2.below hB3).mono hB3.size) h1 h2);have C2:=hid (fun W (hW:Below W3.heap.size W3 W) (t:List Int) x c (hI:Ints W.heap.size W x t)=>BK ss t aS x cs c W (((((hS.below hB3).mono hB3.size).below hW).mono hW.size)) hI);have C3:=hid (fun W (hW:Below W3.heap.size W3 W)=>BK ss R1 aS b1 cs d1 W (((((hS.below hB3).mono hB3.size).below hW).mono hW.size)) ((((Rl.below hB3).mono hB3.size).below hW).mono hW.size));have mixed:Tryz.prog.follows .mixedOrders = true:=by kernel_rfl
 have HW3:=hid hW3;have HB3:=hid hB3;clear hW3 hL1 Rl hR2 hS h1 h2 bx by' bz hB3
 by_cases he1:Tm.fZ L1 k R2 = 0
 ·rw [he1] at C1
  by_cases he2:Tm.bf ss (Tm.dX L1 k R2) = 0
  ·by_cases Yk:Tm.bf ss R1 = 0
   ·have PE:Hid (Tm.fD ss L1 R1 k R2 = 0):=by show _ = _;unfold Tm.fD;rw [if_pos he1,if_pos he2,Yk]
    have PV:Hid (Tm.gm ss L1 R1 k R2 = (Tm.plain (Tm.bJ ss (Tm.dX L1 k R2)),Tm.fu (Tm.bJ ss (Tm.dX L1 k R2)) (Tm.bJ ss R1))):=by show _ = _;unfold Tm.gm;rw [if_pos PE.out]
    have eX:=hid (Tm.l6 he2);have eY:=hid (Tm.l6 Yk);have U9:=hid (fun W hW x c hI=>C2.out W hW (Tm.dX L1 k R2) x c hI);rw [he2] at U9;rw [Yk] at C3;clear he1 he2 Yk C2;generalize Tm.bJ ss (Tm.dX L1 k R2) = X at *;generalize Tm.bJ ss R1 = Y at *;generalize Tm.dX L1 k R2 = P at *;go_enter Tryz.func107,Tryz.ntmps107;go_wp2_with fail;rw [HW3.out];refine C1.out.mono ?_;rintro e w1 ⟨v1,rfl,hN1,b1⟩;obtain ⟨x1,e1,rfl,hI1,_⟩:=New.ints hN1;have q1:=hbx.out w1 b1;have k10:=q1.1.cell0;have k11:=q1.1.cell1;have k20:=q1.2.cell0;have k21:=q1.2.cell1;have f20:=q1.2.frozen 0;have f21:=q1.2.frozen 1;have Ia:=(q1.2.set0 (.slice none 0 0)).cell1;have Ib:=(q1.2.set0 (.slice none 0 0)).frozen 1;clear C1 hN1;go_wp2_with fail;refine (U9.out w1 b1 x1 e1 hI1).mono ?_;rintro e w2 ⟨v2,rfl,eH,b2⟩;obtain ⟨x2,e2,rfl,hI2,_⟩:=New.ints eH;have B2:=b1.trans (b2.mono b1.size);have q2:=hbx.out w2 B2;clear U9 hI1 eH b2 k10 k11 k20 k21 f20 f21 Ia Ib;have k21:=q2.1.cell1;go_wp2_with fail;refine (C3.out w2 B2).mono ?_;rintro e w3 ⟨v3,rfl,iD,b3⟩;obtain ⟨x3,e3,rfl,yC,_⟩:=New.ints iD;have B3:=B2.trans (b3.mono B2.size);have I2:=(hI2.below b3).mono b3.size;have hA:Below w3.heap.size w3 (w3.alloc (.cells #[.slice x2 X.length e2,.slice x3 Y.length e3] 35)):=(Below.refl _ _).alloc (Nat.le_refl _) _;have blk:=World.alloc_heap_new w3 (.cells #[.slice x2 X.length e2,.slice x3 Y.length e3] 35);have lX:=Tm.aI eX.out;have lY:=Tm.aI eY.out;have C4:=hid (F8 X Y x2 x3 e2 e3 w3.heap.size (w3.alloc (.cells #[.slice x2 X.length e2,.slice x3 Y.length e3] 35)) (by omega) (by omega) (Tm.lH eX.out) (Tm.Ic eX.out) (Tm.lH eY.out) (Tm.Ic eY.out) ((aM blk 0).trans rfl) ((aM blk 1).trans rfl) ((I2.below hA).mono hA.size) ((yC.below hA).mono hA.size));have BA:=B3.trans (hA.mono B3.size);have ae4:=hid B3;clear C3 hI2 iD b3 I2 yC blk B2 q2 k21 B3 hA;go_wp2_with fail;refine C4.out.mono ?_;rintro e w4 ⟨v4,rfl,gI,b4⟩;obtain ⟨g,cp,u0,u1,rfl,hg,z0,z1,n0,n1⟩:=dG.two gI;obtain ⟨x8,c8,rfl,_⟩:=New.ints n0;obtain ⟨x9,c9,rfl,_⟩:=New.ints n1;have B4:=BA.trans (b4.mono BA.size);have abP:w3.heap.size≤(w3.alloc (.cells #[.slice x2 X.length e2,.slice x3 Y.length e3] 35)).heap.size:=by simp
    have q4:=hbx.out w4 B4;have hne:w.heap.size+1+1 < w3.heap.size:=by have:=ae4.out.size;omega
    have k20:=q4.2.cell0;have k21:=q4.2.cell1;have f20:=q4.2.frozen 0;have f21:=q4.2.frozen 1;have Ia:=(q4.2.set0 (.slice x8 (Tm.plain X).length c8)).cell1;have Ib:=(q4.2.set0 (.slice x8 (Tm.plain X).length c8)).frozen 1;have N0:=hid n0;have N1:=hid n1;have HB4:=hid B4;clear C4 gI b4 BA n0 n1 B4;generalize Tm.plain X = pX at *;generalize Tm.fu X Y = pY at *;go_wp2_with fail;refine wp_mono (Q:=PaR (w.heap.size+1+1) ((w4.setCell ⟨w.heap.size+1+1,0,none⟩ (.slice x8 pX.length c8)).setCell ⟨w.heap.size+1+1,1,none⟩ (.slice x9 pY.length c9))) ?reg ?aft
    case reg =>
     refine wp_region_any mixed ?_;change wpAny _ _ _ _ _ _ _ (World.drew _);show wpAny _ _ _ _ 9 (Array.replicate 9 false) _ _;refine wpAny_take (i:=0) (v:=.slice (some ⟨g,0,none⟩) 2 cp) rfl (by kernel_rfl) (by kernel_rfl) (by kernel_rfl) (fun _ _ _ h=>h.panic) (Or.inl ⟨by rfl,fun w=>by go_simp⟩) ?_;refine wpAny_take (i:=3) (v:=.slice (some ⟨g,0,none⟩) 2 cp) rfl (by kernel_rfl) (by kernel_rfl) (by kernel_rfl) (fun _ _ _ h=>h.panic) (Or.inl ⟨by rfl,fun w=>by go_simp⟩) ?_;refine wpAny_take (i:=1) (v:=.pointer (some ⟨g,0,none⟩)) rfl (by kernel_rfl) (by kernel_rfl) (by kernel_rfl) (fun _ _ _ h=>h.panic) (Or.inl ⟨by rfl,fun w=>by go_simp⟩) ?_;refine wpAny_take (i:=4) (v:=.pointer (some ⟨g,1,none⟩)) rfl (by kernel_rfl) (by kernel_rfl) (by kernel_rfl) (fun _ _ _ h=>h.panic) (Or.inl ⟨by rfl,fun w=>by go_simp⟩) ?_;refine wpAny_ready (rs:=[2,5]) (by kernel_rfl) (by simp) ?_;refine AllReady.cons rfl (fun K hK=>?_) (AllReady.cons rfl (fun K hK=>?_) AllReady.nil)
     ·go_simp
      refine hK _ _ ?_;clear hK K;refine wpAny_ready (rs:=[5]) (by kernel_rfl) (by simp) ?_;refine AllReady.cons rfl (fun K hK=>?_) AllReady.nil;go_simp;refine hK _ _ ?_;clear hK K;refine wpAny_take (i:=6) (v:=.agg #[.slice x8 pX.length c8,.slice x9 pY.length c9]) rfl (by kernel_rfl) (by kernel_rfl) (by kernel_rfl) (fun _ _ _ h=>h.panic) (Or.inl ⟨by rfl,fun w=>by go_simp⟩) ?_;refine wpAny_ready (rs:=[7]) (by kernel_rfl) (by simp) ?_;refine AllReady.cons rfl (fun K hK=>?_) AllReady.nil;go_simp;refine hK _ _ ?_;clear hK K;refine wpAny_ready (rs:=[8]) (by kernel_rfl) (by simp) ?_;refine AllReady.cons rfl (fun K hK=>?_) AllReady.nil;go_simp;refine hK _ _ ?_;clear hK K;refine wpAny_done (by kernel_rfl) ?_ _;exact ⟨rfl,rfl,rfl,rfl,rfl⟩
     ·go_simp
      refine hK _ _ ?_;clear hK K;refine wpAny_ready (rs:=[2]) (by kernel_rfl) (by simp) ?_;refine AllReady.cons rfl (fun K hK=>?_) AllReady.nil;go_simp;refine hK _ _ ?_;clear hK K;refine wpAny_take (i:=6) (v:=.agg #[.slice x8 pX.length c8,.slice x9 pY.length c9]) rfl (by kernel_rfl) (by kernel_rfl) (by kernel_rfl) (fun _ _ _ h=>h.panic) (Or.inl ⟨by rfl,fun w=>by go_simp⟩) ?_;refine wpAny_ready (rs:=[7]) (by kernel_rfl) (by simp) ?_;refine AllReady.cons rfl (fun K hK=>?_) AllReady.nil;go_simp;refine hK _ _ ?_;clear hK K;refine wpAny_ready (rs:=[8]) (by kernel_rfl) (by simp) ?_;refine AllReady.cons rfl (fun K hK=>?_) AllReady.nil;go_simp;refine hK _ _ ?_;clear hK K;refine wpAny_done (by kernel_rfl) ?_ _;exact ⟨rfl,rfl,rfl,rfl,rfl⟩
    case aft =>
     rintro e b w5 ⟨rfl,t8,t9,hd,rfl⟩;go_wp2;(try simp only [Exit.inBlock,Exit.then])
     have hk:∀ q,w3.heap.size≤q→((w4.setCell ⟨w.heap.size+1+1,0,none⟩ (.slice x8 pX.length c8)).setCell ⟨w.heap.size+1+1,1,none⟩ (.slice x9 pY.length c9)).heap[q]? = w4.heap[q]?:=fun q hq=>(Below.heap_setCell _ _ _ q (show q≠w.heap.size+1+1 by omega)).trans (Below.heap_setCell _ _ _ q (show q≠w.heap.size+1+1 by omega))
     have hb2:bZ (World.drew ((w4.setCell ⟨w.heap.size+1+1,0,none⟩ (.slice x8 pX.length c8)).setCell ⟨w.heap.size+1+1,1,none⟩ (.slice x9 pY.length c9))) (w.heap.size+1+1) 40 (.slice x8 pX.length c8) (.slice x9 pY.length c9):=(q4.2.set0 _).set1 _;refine bodyPost_ret (ma rfl t8 hb2) hd ?_;refine ⟨_,_,by rw [PE.out,t9],by rw [PV.out];exact New.drewN ((N0.out.OA (fun q h1 _=>hk q (by omega))).mono (by have:=HB3.out.size;omega)) 1,by rw [PV.out];exact New.drewN ((N1.out.OA (fun q h1 _=>hk q (by omega))).mono (by have:=HB3.out.size;omega)) 1,?_⟩;exact below_drewN (((HB3.out.trans (HB4.out.mono HB3.out.size)).setCell (p:=⟨w.heap.size+1+1,0,none⟩) (by show w.heap.size≤w.heap.size+1+1;omega) _).setCell (p:=⟨w.heap.size+1+1,1,none⟩) (by show w.heap.size≤w.heap.size+1+1;omega) _) 1
   ·have PE:Hid (Tm.fD ss L1 R1 k R2 = Tm.bf ss R1):=by show _ = _;unfold Tm.fD;rw [if_pos he1,if_pos he2]
    have PV:Hid (Tm.gm ss L1 R1 k R2 = ([],[])):=by show _ = _;unfold Tm.gm;rw [if_neg (by rw [PE.out];exact Yk)]
    have hn:(Tm.bf ss R1 != 0) = true:=by simpa using Yk
    have U9:=hid (fun W hW x c hI=>C2.out W hW (Tm.dX L1 k R2) x c hI);rw [he2] at U9;clear he1 he2 Yk C2;generalize Tm.bf ss R1 = q at *;generalize Tm.bJ ss R1 = Y at *;generalize Tm.bJ ss (Tm.dX L1 k R2) = X at *;generalize Tm.dX L1 k R2 = P at *;go_enter Tryz.func107,Tryz.ntmps107;go_wp2_with fail;rw [HW3.out];refine C1.out.mono ?_;rintro e w1 ⟨v1,rfl,hN1,b1⟩;obtain ⟨x1,e1,rfl,hI1,_⟩:=New.ints hN1;have q1:=hbx.out w1 b1;have k10:=q1.1.cell0;have k11:=q1.1.cell1;have k20:=q1.2.cell0;have k21:=q1.2.cell1;have f20:=q1.2.frozen 0;have f21:=q1.2.frozen 1;have Ia:=(q1.2.set0 (.slice none 0 0)).cell1;have Ib:=(q1.2.set0 (.slice none 0 0)).frozen 1;clear C1 hN1;go_wp2_with fail;refine (U9.out w1 b1 x1 e1 hI1).mono ?_;rintro e w2 ⟨v2,rfl,eH,b2⟩;obtain ⟨x2,e2,rfl,hI2,_⟩:=New.ints eH;have B2:=b1.trans (b2.mono b1.size);have q2:=hbx.out w2 B2;clear U9 hI1 eH hI2 b2 k10 k11 k20 k21 f20 f21 Ia Ib;have k21:=q2.1.cell1;go_wp2_with fail;refine (C3.out w2 B2).mono ?_;rintro e w3 ⟨v3,rfl,iD,b3⟩;obtain ⟨x3,e3,rfl,yC,_⟩:=New.ints iD;have B3:=B2.trans (b3.mono B2.size);have q3:=hbx.out w3 B3;have k20:=q3.2.cell0;have k21:=q3.2.cell1;have f20:=q3.2.frozen 0;have f21:=q3.2.frozen 1;have Ia:=(q3.2.set0 (.slice none 0 0)).cell1;have Ib:=(q3.2.set0 (.slice none 0 0)).frozen 1;clear C3 iD yC b3;go_wp2;(try simp only [Exit.inBlock,Exit.then])
    refine bodyPost_ret (ma rfl rfl ((q3.2.set0 _).set1 _)) rfl ?_;exact ⟨_,_,by rw [PE.out];rfl,by rw [PV.out];exact New.nil _ _,by rw [PV.out];exact New.nil _ _,((HB3.out.trans (B3.mono HB3.out.size)).setCell (p:=⟨w.heap.size+1+1,0,none⟩) (by show w.heap.size≤w.heap.size+1+1;omega) _).setCell (p:=⟨w.heap.size+1+1,1,none⟩) (by show w.heap.size≤w.heap.size+1+1;omega) _⟩
  ·have PE:Hid (Tm.fD ss L1 R1 k R2 = Tm.bf ss (Tm.dX L1 k R2)):=by show _ = _;unfold Tm.fD;rw [if_pos he1,if_neg he2]
   have PV:Hid (Tm.gm ss L1 R1 k R2 = ([],[])):=by show _ = _;unfold Tm.gm;rw [if_neg (by rw [PE.out];exact he2)]
   have hn:(Tm.bf ss (Tm.dX L1 k R2) != 0) = true:=by simpa using he2
   have U9:=hid (fun W hW x c hI=>C2.out W hW (Tm.dX L1 k R2) x c hI);clear he1 he2 C2 C3;generalize Tm.bf ss (Tm.dX L1 k R2) = q at *;generalize Tm.bJ ss (Tm.dX L1 k R2) = X at *;generalize Tm.dX L1 k R2 = P at *;go_enter Tryz.func107,Tryz.ntmps107;go_wp2_with fail;rw [HW3.out];refine C1.out.mono ?_;rintro e w1 ⟨v1,rfl,hN1,b1⟩;obtain ⟨x1,e1,rfl,hI1,_⟩:=New.ints hN1;have q1:=hbx.out w1 b1;have k10:=q1.1.cell0;have k11:=q1.1.cell1;have k20:=q1.2.cell0;have k21:=q1.2.cell1;have f20:=q1.2.frozen 0;have f21:=q1.2.frozen 1;have Ia:=(q1.2.set0 (.slice none 0 0)).cell1;have Ib:=(q1.2.set0 (.slice none 0 0)).frozen 1;clear C1 hN1;go_wp2_with fail;refine (U9.out w1 b1 x1 e1 hI1).mono ?_;rintro e w2 ⟨v2,rfl,eH,b2⟩;obtain ⟨x2,e2,rfl,hI2,_⟩:=New.ints eH;have B2:=b1.trans (b2.mono b1.size);have q2:=hbx.out w2 B2;clear U9 hI1 eH hI2 b2 k10 k11 k20 k21 f20 f21 Ia Ib;have k20:=q2.2.cell0;have k21:=q2.2.cell1;have f20:=q2.2.frozen 0;have f21:=q2.2.frozen 1;have Ia:=(q2.2.set0 (.slice none 0 0)).cell1;have Ib:=(q2.2.set0 (.slice none 0 0)).frozen 1;go_wp2;(try simp only [Exit.inBlock,Exit.then])
   refine bodyPost_ret (ma rfl rfl ((q2.2.set0 _).set1 _)) rfl ?_;exact ⟨_,_,by rw [PE.out];rfl,by rw [PV.out];exact New.nil _ _,by rw [PV.out];exact New.nil _ _,((HB3.out.trans (B2.mono HB3.out.size)).setCell (p:=⟨w.heap.size+1+1,0,none⟩) (by show w.heap.size≤w.heap.size+1+1;omega) _).setCell (p:=⟨w.heap.size+1+1,1,none⟩) (by show w.heap.size≤w.heap.size+1+1;omega) _⟩
 ·have PE:Hid (Tm.fD ss L1 R1 k R2 = Tm.fZ L1 k R2):=by show _ = _;unfold Tm.fD;rw [if_neg he1]
  have PV:Hid (Tm.gm ss L1 R1 k R2 = ([],[])):=by show _ = _;unfold Tm.gm;rw [if_neg (by rw [PE.out];exact he1)]
  have hn:(Tm.fZ L1 k R2 != 0) = true:=by simpa using he1
  clear he1 C2 C3;generalize Tm.fZ L1 k R2 = q at *;generalize Tm.dX L1 k R2 = P at *;go_enter Tryz.func107,Tryz.ntmps107;go_wp2_with fail;rw [HW3.out];refine C1.out.mono ?_;rintro e w1 ⟨v1,rfl,hN1,b1⟩;obtain ⟨x1,e1,rfl,hI1,_⟩:=New.ints hN1;have q1:=hbx.out w1 b1;have k10:=q1.1.cell0;have k11:=q1.1.cell1;have k20:=q1.2.cell0;have k21:=q1.2.cell1;have f20:=q1.2.frozen 0;have f21:=q1.2.frozen 1;have Ia:=(q1.2.set0 (.slice none 0 0)).cell1;have Ib:=(q1.2.set0 (.slice none 0 0)).frozen 1;clear C1 hN1 hI1;go_wp2;(try simp only [Exit.inBlock,Exit.then])
  refine bodyPost_ret (ma rfl rfl ((q1.2.set0 _).set1 _)) rfl ?_;exact ⟨_,_,by rw [PE.out];rfl,by rw [PV.out];exact New.nil _ _,by rw [PV.out];exact New.nil _ _,((HB3.out.trans (b1.mono HB3.out.size)).setCell (p:=⟨w.heap.size+1+1,0,none⟩) (by show w.heap.size≤w.heap.size+1+1;omega) _).setCell (p:=⟨w.heap.size+1+1,1,none⟩) (by show w.heap.size≤w.heap.size+1+1;omega) _⟩
abbrev ah:=List (List Int × List Int)
namespace Wb
theorem F9 {pre t post:List Int} (ht:Tm.err t = 0):cont (pre++(t++post)) pre.length = t:=by
 have h:=Tm.y8 (pre:=pre) (t:=t) (post:=post) (k:=0) (by omega) (by rw [Tm.iq,Tm.eT ht];exact Nat.le_refl _);rw [Nat.add_zero] at h;unfold cont;rw [h];unfold Tm.part;rw [Tm.iq,Tm.eT ht];simp
def Same (ps:ah) (k:Nat) (θ:Sb):Prop:=∀ j,j < k→App θ (ps[j]?.getD ([],[])).1 = App θ (ps[j]?.getD ([],[])).2
structure MInv (ps:ah) (k:Nat) (zs:List Int) (h:Nat→Nat):Prop where
 good:Good zs
 st:∃ T,St zs T h
 closed:Closed zs h []
 len:zs.length≤8+60 * k
 sound:∀ θ,TermSb θ→Same ps k θ→iY zs h θ
 tied:∀ j,j < k→∃ p q,p < zs.length∧q < zs.length∧cont zs p = (ps[j]?.getD ([],[])).1∧cont zs q = (ps[j]?.getD ([],[])).2∧hd zs h p = hd zs h q
theorem MInv.start (ps:ah):MInv ps 0 (eight 8) (fun p=>p):=by
 refine ⟨Xq,⟨_,St.start _⟩,fun p q hp _ sp _ _=>?_,by rw [jM 8 (by omega)];omega,fun θ _ _ p _ _=>rfl,fun j hj=>by omega⟩;rw [jM 8 (by omega)] at hp;have:=Xq.vars p hp
 omega
theorem Closed.more {zs:List Int} {h:Nat→Nat} {P:List (Nat × Nat)} (C:Closed zs h []):Closed zs h P:=fun p q hp hq sp sq e=>by
 obtain ⟨e1,e2⟩:=C p q hp hq sp sq e;exact ⟨e1,fun i hi=>(e2 i hi).move (fun _ _ _ _ h=>h) (fun p q hm=>by simp at hm)⟩
theorem Same.succ {ps:ah} {k:Nat} {θ:Sb} (H:Same ps (k+1) θ):Same ps k θ∧App θ (ps[k]?.getD ([],[])).1 = App θ (ps[k]?.getD ([],[])).2:=⟨fun j hj=>H j (by omega),H k (by omega)⟩
theorem MInv.Xr {ps:ah} {k:Nat} {zs:List Int} {h:Nat→Nat} (M:MInv ps k zs h) {L R:List Int} (hL:Tm.err L = 0) (hR:Tm.err R = 0) (lL:L.length≤30) (lR:R.length≤30) (hk:k < 40):Good (zs++L++R):=by
 have:=M.len
 exact (M.good.ext hL (by omega)).ext hR (by rw [List.length_append];omega)
theorem MInv.at1 {zs L R:List Int} (hL:Tm.err L = 0):cont (zs++L++R) zs.length = L:=by rw [List.append_assoc];exact F9 hL
theorem MInv.at2 {zs L R:List Int} (hR:Tm.err R = 0):cont (zs++L++R) (zs++L).length = R:=by
 have:=F9 (pre:=zs++L) (post:=[]) hR
 rwa [List.append_nil] at this
theorem MInv.step {ps:ah} {k:Nat} {zs:List Int} {h:Nat→Nat} (M:MInv ps k zs h) {L R:List Int} (hL:Tm.err L = 0) (hR:Tm.err R = 0) (lL:L.length≤30) (lR:R.length≤30) (hk:k < 40) (eL:(ps[k]?.getD ([],[])).1 = L) (eR:(ps[k]?.getD ([],[])).2 = R) (h0:0 < L.length) (h1:0 < R.length) {h':Nat→Nat} (hL':kN (zs++L++R) h h' [(zs.length,(zs++L).length)]) (S':∃ T,St (zs++L++R) T h'):MInv ps (k+1) (zs++L++R) h':=by
 obtain ⟨T,S⟩:=M.st;have G1:=M.good.ext hL (by have:=M.len;omega);have G2:=M.Xr hL hR lL lR hk;have S1:St (zs++L) T h:=S.ext;have hlen:(zs++L++R).length = zs.length+L.length+R.length:=by rw [List.length_append,List.length_append]
 have c1:=MInv.at1 (zs:=zs) (R:=R) hL;have c2:=MInv.at2 (zs:=zs) (L:=L) hR;refine ⟨G2,S',hL'.close [] ((Closed.ext G1 S1 G2 (Closed.ext M.good S G1 M.closed)).more),by have:=M.len;omega,fun θ hθ H=>?_,fun j hj=>?_⟩
 ·obtain ⟨H1,H2⟩:=H.succ
  refine hL'.sound θ hθ ((M.sound θ hθ H1).ext M.good S |>.ext G1 S1) fun p q hm=>?_
  simp only [List.mem_cons,List.not_mem_nil,or_false,Prod.mk.injEq] at hm;obtain ⟨rfl,rfl⟩:=hm;rw [c1,c2,← eL,← eR];exact H2
 ·by_cases e:j = k
  ·subst e
   exact ⟨zs.length,(zs++L).length,by omega,by rw [hlen,List.length_append];omega,by rw [c1,eL],by rw [c2,eR],hL'.tied _ _ (by simp)⟩
  ·obtain ⟨p,q,hp,hq,e1,e2,e3⟩:=M.tied j (by omega)
   have hp1:p < (zs++L).length:=by rw [List.length_append];omega
   have hq1:q < (zs++L).length:=by rw [List.length_append];omega
   refine ⟨p,q,by omega,by omega,by rw [nS G1 hp1,nS M.good hp,e1],by rw [nS G1 hq1,nS M.good hq,e2],hL'.coarse p q (by omega) (by omega) ?_⟩;rw [BI hp1,BI hp,BI hq1,BI hq,e3]
theorem MInv.no {ps:ah} {k:Nat} {zs:List Int} {h:Nat→Nat} (M:MInv ps k zs h) {L R:List Int} (hL:Tm.err L = 0) (hR:Tm.err R = 0) (lL:L.length≤30) (hk:k < 40) (eL:(ps[k]?.getD ([],[])).1 = L) (eR:(ps[k]?.getD ([],[])).2 = R) (hN:No (zs++L++R) h [(zs.length,(zs++L).length)]):∀ θ,TermSb θ→¬ Same ps (k+1) θ:=fun θ hθ H=>by
 obtain ⟨T,S⟩:=M.st;have G1:=M.good.ext hL (by have:=M.len;omega);have S1:St (zs++L) T h:=S.ext;obtain ⟨H1,H2⟩:=H.succ;refine hN θ hθ ((M.sound θ hθ H1).ext M.good S |>.ext G1 S1) fun p q hm=>?_
 simp only [List.mem_cons,List.not_mem_nil,or_false,Prod.mk.injEq] at hm;obtain ⟨rfl,rfl⟩:=hm;rw [MInv.at1 (zs:=zs) (R:=R) hL,MInv.at2 (zs:=zs) (L:=L) hR,← eL,← eR];exact H2
structure Su (ps:ah) (σ:Sb):Prop where
 term:TermSb σ
 vars:∀ v,-8≤v→v < 0→∀ s∈σ v,-8≤s∧s < 6
 same:Same ps ps.length σ
 most:∀ θ,TermSb θ→Same ps ps.length θ→∀ v,-8≤v→v < 0→θ v = App θ (σ v)
 least:∀ v u,-8≤v→v < 0→σ v = [u]→u < 0→v≤u
theorem MInv.mgu {ps:ah} {zs:List Int} {h:Nat→Nat} (M:MInv ps ps.length zs h) (F:∀ i,i < 8→Fin zs h i):∃ σ,Su ps σ∧∀ i,i < 8→qY zs h i (σ (-1 - (i:Int))):=by
 obtain ⟨T,S⟩:=M.st;obtain ⟨σ,Sg⟩:=Sigma.of M.good S M.closed F;have hv:∀ v,-8≤v→v < 0→∀ s∈σ v,-8≤s∧s < 6:=fun v h1 h2=>by
  have hE:=Sg.exp (-1 - v).toNat (by omega);rw [show -1 - (((-1 - v).toNat:Nat):Int) = v from by omega] at hE;exact hE.vars M.good S (by have:=M.good.eight;omega)
 refine ⟨σ,⟨Sg.term,hv,fun j hj=>?_,fun θ hθ H=>Sg.most θ (M.sound θ hθ H),Sg.least⟩,Sg.exp⟩;obtain ⟨p,q,hp,hq,e1,e2,e3⟩:=M.tied j hj;have a:=qY.yY M.good S M.closed Sg.exp _ p (Nat.le_refl _) hp;have b:=qY.yY M.good S M.closed Sg.exp _ q (Nat.le_refl _) hq;have:=(a.move e3).one _ b
 rw [e1,e2] at this;exact this
theorem Su.one {ps:ah} {σ τ:Sb} (A:Su ps σ) (B:Su ps τ):∀ v,-8≤v→v < 0→σ v = τ v :=
 PW A.term B.term (fun v h1 h2 s hs _=>(A.vars v h1 h2 s hs).1) (fun v h1 h2 s hs _=>(B.vars v h1 h2 s hs).1) (B.most σ A.term A.same) (A.most τ B.term B.same) A.least B.least
end Wb
def Tm.bV (L R:List Int):Int:=if Tm.err L = 0 then Tm.err R else Tm.err L
def Tm.firstPair:ah→Int
 | []=>0
 | r :: l=>if Tm.bV r.1 r.2 = 0 then Tm.firstPair l else Tm.bV r.1 r.2
theorem Tm.D9 {rs:ah} {k:Nat} (hk:k < rs.length) (he:Tm.bV (rs[k]?.getD ([],[])).1 (rs[k]?.getD ([],[])).2 = 0):Tm.firstPair (rs.drop k) = Tm.firstPair (rs.drop (k+1)):=by
 rw [List.drop_eq_getElem_cons hk,Tm.firstPair];simp only [hk,List.getElem?_eq_getElem,Option.getD_some] at he;rw [if_pos he]
theorem Tm.Ie {rs:ah} {k:Nat} (hk:k < rs.length) (he:Tm.bV (rs[k]?.getD ([],[])).1 (rs[k]?.getD ([],[])).2≠0):Tm.firstPair (rs.drop k) = Tm.bV (rs[k]?.getD ([],[])).1 (rs[k]?.getD ([],[])).2:=by
 rw [List.drop_eq_getElem_cons hk,Tm.firstPair];simp only [hk,List.getElem?_eq_getElem,Option.getD_some] at he ⊢;rw [if_neg he]
theorem Tm.CG {rs:ah} (h:Tm.firstPair rs = 0):∀ k,k < rs.length→Tm.err (rs[k]?.getD ([],[])).1 = 0∧Tm.err (rs[k]?.getD ([],[])).2 = 0:=by
 induction rs with
 | nil=>intro k hk;simp at hk
 | cons r l ih =>
  rw [Tm.firstPair] at h;by_cases he:Tm.bV r.1 r.2 = 0
  ·rw [if_pos he] at h
   intro k hk;cases k with
   | zero =>
    simp only [List.getElem?_cons_zero,Option.getD_some];unfold Tm.bV at he;by_cases hl:Tm.err r.1 = 0
    ·rw [if_pos hl] at he;exact ⟨hl,he⟩
    ·rw [if_neg hl] at he;exact absurd he hl
   | succ k =>
    simp only [List.getElem?_cons_succ];exact ih h k (by simpa using hk)
  ·rw [if_neg he] at h
   exact absurd h he
def Yl (ps:ah) (W:World) (e:Ending):Prop :=
 ((∀ θ,Wb.TermSb θ→¬ Wb.Same ps ps.length θ)∧e = .returned (.tuple #[.slice none 0 0,.bool false,.int .i64 0])) ∨
 ∃ σ,Wb.Su ps σ∧(((∀ i:Nat,i < 8→(σ (-1 - (i:Int))).length≤30)∧∃ a,e = .returned (.tuple #[.slice a 8 8,.bool true,.int .i64 0])∧gu W.heap.size W a ((List.range 8).map fun i:Nat=>σ (-1 - (i:Int)))) ∨
  ((∃ i:Nat,i < 8∧30 < (σ (-1 - (i:Int))).length)∧e = .returned (.tuple #[.slice none 0 0,.bool false,.int .i64 2])))
def Ig (ps:ah) (W:World) (e:Ending):Prop :=
 (Tm.firstPair ps≠0∧e = .returned (.tuple #[.slice none 0 0,.bool false,.int .i64 (Tm.firstPair ps)]))∨(Tm.firstPair ps = 0∧Yl ps W e)
end Go.Proofs.YtglohanbpjaieaaGreat
