/-
  Parts of the proof: Ord5, Ord6, Ord7.
-/
import Derived.Test.YtglohanbpjaieaaGreatBru6
set_option maxHeartbeats 2000000
set_option maxRecDepth 100000
namespace Go.Proofs.YtglohanbpjaieaaGreat
open Go.Proofs Go.RowKit Go.Shelf Go.Maps
section
attribute [local go_sem ↓] Go.wp_at_zero Go.wp_at_succ
theorem Lc (w:World):(zeroValue 152).run Tryz.prog w = .ok (.agg #[.bool false]) w:=by kernel_rfl
theorem GJ {n m B:Nat} {w X:World} (h:aW n m w X) (hB:n≤B) (v:Value):aW n m w (X.setCell ⟨B,0,none⟩ v) :=
 ⟨h.os,h.tape,h.output,Nat.le_trans h.size (KeepsWalks.setCell X _ v).size,fun k hk hm=>(Below.heap_setCell X ⟨B,0,none⟩ v k (by show k≠B;omega)).trans (h.block k hk hm)⟩
theorem KMap.upd {K:TypeId} (law:Keyed Tryz.prog K) {w:World} {b n:Nat} {M:Value→Option Value} (h:KMap K w b n M) {t e:TypeId} (ht:Tryz.prog.underlying t = some (.map K e)) (hn:n < maxLen) {key:Value} {l:Lit} (hkey:keyOf Tryz.prog K key = some l) (v:Value) (Bq:TypeId→Value→Value→Value→World→World) (hU:∀ t m k v w,Bq t m k v w = match (Instr.mapUpdate t m k v).run Tryz.prog w with | .ok _ w'=>w' | _=>w) :
 (Instr.mapUpdate t (.map (some b)) key v).run Tryz.prog w = .ok () (Bq t (.map (some b)) key v w)∧∃ M',KMap K (Bq t (.map (some b)) key v w) b (n+1) M'∧M' key = some v∧(∀ x,x≠key→M' x = M x)∧w.grownBy (Bq t (.map (some b)) key v w) (some b):=by
 obtain ⟨w',M',hrun,r⟩:=h.set law ht hn hkey v;have e:Bq t (.map (some b)) key v w = w':=by rw [hU,hrun]
 rw [e];exact ⟨hrun,M',r⟩
theorem CF {w w1:World} {row:Option Nat} (h:w.drew.grownBy w1 row):w.grownBy w1 row:=⟨h.os,h.tape,h.output,h.size,h.block⟩
theorem dn {n:Nat} {a b:World} (h:Below n a b):Below n a b.drew:=⟨h.os,h.tape,h.output,h.size,h.block⟩
theorem Q9 (C:Sd) (i j:Nat) (hi:i < 30) (hj:j < 30) (w w1:World) (fF:Value→Option Value) (H:fT C w fF) (hq:fF (pk i j) = none) (w3:World) (Ld:Value→Option Value) (h1:w.heap.size≤w1.heap.size) (hK:aW w.heap.size C.M w w3) (H3:fT C w3 Ld) (ht:∀ k l,k < i∨l < j∨(k = i∧l = j)→Ld (pk k l) = fF (pk k l)) (v:Value) :
 ∃ n,KMap 129 (w3.setCell ⟨w1.heap.size,0,none⟩ v) C.M n Ld∧n < maxLen∧n+1 < maxLen∧∀ (w4:World) (yB:Value→Option Value),KMap 129 w4 C.M (n+1) yB→yB (pk i j) = some (.agg #[.bool (Tm.ab C.rk C.za C.zb i j)])→(∀ x,x≠pk i j→yB x = Ld x)→(w3.setCell ⟨w1.heap.size,0,none⟩ v).grownBy w4 (some C.M) →
  aW w.heap.size C.M w w4∧∃ gY,fT C w4 gY∧∀ k l,k < i∨l < j→gY (pk k l) = fF (pk k l):=by
 obtain ⟨n,WW,htb,hn⟩:=H3.Lb;have hM:=H.ltM;refine ⟨n,WW.keep (Below.heap_setCell w3 ⟨w1.heap.size,0,none⟩ v C.M (by show C.M≠w1.heap.size;omega)),by have:=Found.small hn;unfold maxLen;omega,by have:=Found.small hn;unfold maxLen;omega,fun w4 yB hK4 h4 ho hg=>?_⟩;have hk5:aW w.heap.size C.M w w4:=(GJ hK h1 v).trans (aW.jg hg (by have:=hK.size;have:=(KeepsWalks.setCell w3 ⟨w1.heap.size,0,none⟩ v).size;omega));refine ⟨hk5,yB,H.keep hk5 (Found.note hi hj htb hn ((ht i j (.inr (.inr ⟨rfl,rfl⟩))).trans hq) hK4 h4 ho),fun k l hkl=>?_⟩;rw [ho _ (fun e=>by obtain ⟨rfl,rfl⟩:=Oj e;omega)];exact ht k l (by omega)
theorem Oq (C:Sd) (O:Q8 C) (i j:Nat) (hi:i < C.za.length) (hj:j < C.zb.length)
 (hP:jZ C 116 i j (Tm.bp C.rk C.za C.zb i j (Tm.room (C.za[i]?.getD 0))) fun k l=>k≤i∨l < j)
 (hY:jZ C 117 i j (Tm.sy C.rk C.za C.zb i j) fun k l=>k < i∨l≤j) :
 jZ C 89 i j (Tm.ab C.rk C.za C.zb i j) fun k l=>k < i∨l < j:=by
 obtain ⟨Bq,hU⟩:∃ f:TypeId→Value→Value→Value→World→World,∀ t m k v w,f t m k v w = match (Instr.mapUpdate t m k v).run Tryz.prog w with | .ok _ w'=>w' | _=>w:=⟨fun t m k v w=>match (Instr.mapUpdate t m k v).run Tryz.prog w with | .ok _ w'=>w' | _=>w,fun _ _ _ _ _=>rfl⟩
 have HU:=hid hU;clear hU;intro w fF H;have hB0:Below w.heap.size w (w.alloc (.cells #[.int .i64 (i:Int),.int .i64 (j:Int)] 129)):=(Below.refl _ w).alloc (Nat.le_refl _) _;have H1:=H.below hB0;obtain ⟨w1,hw1⟩:∃ w1,w.alloc (.cells #[.int .i64 (i:Int),.int .i64 (j:Int)] 129) = w1:=⟨_,rfl⟩;have hblk:w1.heap[w.heap.size]? = some (.cells #[.int .i64 (i:Int),.int .i64 (j:Int)] 129 (0,0)):=by rw [← hw1];exact World.alloc_heap_new w _
 have HW:=hid hw1;rw [hw1] at hB0 H1;clear hw1;have d0:w1.cell? ⟨w.heap.size,0,none⟩ = some (.int .i64 (i:Int)):=by simp [World.cell?,hblk]
 have d1:w1.cell? ⟨w.heap.size,1,none⟩ = some (.int .i64 (j:Int)):=by simp [World.cell?,hblk]
 have hlt:w.heap.size < w1.heap.size:=(Array.getElem?_eq_some_iff.1 hblk).1;have c3:=H1.c3;have la:=Tm.aI O.ea;have lb:=Tm.aI O.eb;obtain ⟨l,hl⟩:=aaI (i:=i) (j:=j) (by omega) (by omega);obtain ⟨n,hK,htb,hn⟩:=H1.Lb;have HK:=hid hK;cases hq:fF (pk i j) with
 | some v =>
  have hv:=htb i j v hq;subst hv;have hS:=hid (fun w' (hB:Below w1.heap.size w1 w')=>(show w'.cell? ⟨C.S,3,none⟩ = some (.map (some C.M))∧w'.cell? ⟨w.heap.size,0,none⟩ = some (.int .i64 (i:Int))∧w'.cell? ⟨w.heap.size,1,none⟩ = some (.int .i64 (j:Int))∧(Instr.lookup 124 (.map (some C.M)) (.agg #[.int .i64 (i:Int),.int .i64 (j:Int)]) true).run Tryz.prog w' = .ok (.tuple #[.agg #[.bool (Tm.ab C.rk C.za C.zb i j)],.bool true]) w' from
   ⟨(hB.cell H1.lt).trans c3,(hB.cell hlt).trans d0,(hB.cell hlt).trans d1,by
     have:=(HK.out.keep (hB.block _ HK.out.lt)).look jH Tryz.underlying124 (Lc w') hl
     rw [hq] at this;exact this⟩))
  have HB0:=hid hB0;have HH1:=hid H1;generalize Tm.ab C.rk C.za C.zb i j = q at *;clear hP hY hK htb hn c3 d0 d1 hblk hB0 H1 H HK;go_enter Tryz.func89,Tryz.ntmps89;go_wp2_with fail;rw [HW.out];have hS0:=hS.out _ (Below.refl _ w1);go_region_held3 (fun w'=>w'.cell? ⟨C.S,3,none⟩ = some (.map (some C.M))∧w'.cell? ⟨w.heap.size,0,none⟩ = some (.int .i64 (i:Int))∧w'.cell? ⟨w.heap.size,1,none⟩ = some (.int .i64 (j:Int))∧(Instr.lookup 124 (.map (some C.M)) (.agg #[.int .i64 (i:Int),.int .i64 (j:Int)]) true).run Tryz.prog w' = .ok (.tuple #[.agg #[.bool q],.bool true]) w') (first | assumption | exact hS.out _ (Below.refl _ w1) | exact hS.out _ (below_drewN (Below.refl _ w1) _) | exact hS.out _ ((below_drewN (Below.refl _ w1) _).alloc (Nat.le_refl _) _)) (first | fail)
  all_goals (
   have hB2:Below w1.heap.size w1 (w1.alloc (.cells #[.bool q] 152)).drew:=dn ((Below.refl _ w1).alloc (Nat.le_refl _) _);clear hS hS0;go_wp2;go_ret;exact ⟨rfl,aW.of_below (HB0.out.trans (hB2.mono HB0.out.size)),fF,HH1.out.below hB2,fun _ _ _=>rfl⟩)
 | none =>
  have hS:=hid (fun w' (hB:Below w1.heap.size w1 w')=>(show w'.cell? ⟨C.S,3,none⟩ = some (.map (some C.M))∧w'.cell? ⟨w.heap.size,0,none⟩ = some (.int .i64 (i:Int))∧w'.cell? ⟨w.heap.size,1,none⟩ = some (.int .i64 (j:Int))∧(Instr.lookup 124 (.map (some C.M)) (.agg #[.int .i64 (i:Int),.int .i64 (j:Int)]) true).run Tryz.prog w' = .ok (.tuple #[.agg #[.bool false],.bool false]) w' from
   ⟨(hB.cell H1.lt).trans c3,(hB.cell hlt).trans d0,(hB.cell hlt).trans d1,by
     have:=(HK.out.keep (hB.block _ HK.out.lt)).look jH Tryz.underlying124 (Lc w') hl
     rw [hq] at this;exact this⟩))
  have hab:=hid (Tm.Xf (rk:=C.rk) O.ea O.eb hi hj);have HB0:=hid hB0;have HH1:=hid H1;have HH:=hid H;have hB2:Below w1.heap.size w1 (w1.alloc (.cells #[.bool false] 152)).drew:=dn ((Below.refl _ w1).alloc (Nat.le_refl _) _);have b2:Boxed (w1.alloc (.cells #[.bool false] 152)).drew w1.heap.size 152 (.bool false):=Boxed.new w1 152 (.bool false);obtain ⟨w2,hw2⟩:∃ w2,(w1.alloc (.cells #[.bool false] 152)).drew = w2:=⟨_,rfl⟩;have HW2:=hid hw2;rw [hw2] at hB2 b2;clear hw2;have H2:=H1.below hB2;have e0:=(hB2.cell (p:=⟨w.heap.size,0,none⟩) hlt).trans d0;have e1:=(hB2.cell (p:=⟨w.heap.size,1,none⟩) hlt).trans d1;have hlt2:w.heap.size < w2.heap.size:=Nat.lt_of_lt_of_le hlt hB2.size;have iH:=H.ltM;have aaJ:=H.lt;have adx:=H.neM;have JJ:aW w.heap.size C.M w w2:=aW.of_below (hB0.trans (hB2.mono hB0.size));have FP:w.heap.size≠C.M:=by omega
  have UR:w1.heap.size≠C.M:=by omega
  have hCP:=hid (hP w2 fF H2);have hCY:=hid hY;have Hq0:=hid hq;have Hl:=hid hl;generalize hbp:Tm.bp C.rk C.za C.zb i j (Tm.room (C.za[i]?.getD 0)) = bp at *;generalize hsy:Tm.sy C.rk C.za C.zb i j = sy at *;have fin:=hid (Q9 C i j (by omega) (by omega) w w1 fF HH.out hq);clear hP hY hK htb hn c3 d0 d1 hblk hB0 H1 H HK H2 hq hl hbp hsy;cases bp with
  | true =>
   have hq1:Tm.ab C.rk C.za C.zb i j = true:=hab.out;rw [hq1] at fin ⊢;clear hab hq1 hCY;go_enter Tryz.func89,Tryz.ntmps89;go_wp2_with fail;rw [HW.out];have hS0:=hS.out _ (Below.refl _ w1);go_region_held3 (fun w'=>w'.cell? ⟨C.S,3,none⟩ = some (.map (some C.M))∧w'.cell? ⟨w.heap.size,0,none⟩ = some (.int .i64 (i:Int))∧w'.cell? ⟨w.heap.size,1,none⟩ = some (.int .i64 (j:Int))∧(Instr.lookup 124 (.map (some C.M)) (.agg #[.int .i64 (i:Int),.int .i64 (j:Int)]) true).run Tryz.prog w' = .ok (.tuple #[.agg #[.bool false],.bool false]) w') (first | assumption | exact hS.out _ (Below.refl _ w1) | exact hS.out _ (below_drewN (Below.refl _ w1) _) | exact hS.out _ ((below_drewN (Below.refl _ w1) _).alloc (Nat.le_refl _) _)) (first | fail)
   all_goals (
    rw [HW2.out];clear hS hS0;go_wp2_with (first
     | (go_at_call 116;refine hCP.out.mono ?_;clear hCP;rintro e w3 ⟨rfl,hK3,Ld,H3,ht3⟩;have f0:=(hK3.cell (p:=⟨w.heap.size,0,none⟩) hlt2 FP).trans e0;have f1:=(hK3.cell (p:=⟨w.heap.size,1,none⟩) hlt2 FP).trans e1;have b3:Boxed w3 w1.heap.size 152 (.bool false):=(hK3.block _ b2.lt UR).trans b2;have g0:=b3.cell;have g1:=b3.frozen;have c3:=H3.c3))
    have WX:aW w.heap.size C.M w w3:=JJ.trans (hK3.mono JJ.size);obtain ⟨n,WW,hnm,aaK,hfin⟩:=fin.out w3 Ld (Nat.le_of_lt hlt) WX H3 (fun k l h=>ht3 k l (by omega)) (.bool true);have b5:=b3.set (.bool true);have m0:=(World.cell?_of_block (a:=⟨w.heap.size,0,none⟩) (Below.heap_setCell w3 ⟨w1.heap.size,0,none⟩ (.bool true) w.heap.size (by show w.heap.size≠w1.heap.size;omega))).trans f0;have m1:=(World.cell?_of_block (a:=⟨w.heap.size,1,none⟩) (Below.heap_setCell w3 ⟨w1.heap.size,0,none⟩ (.bool true) w.heap.size (by show w.heap.size≠w1.heap.size;omega))).trans f1;have m3:=(World.cell?_of_block (a:=⟨C.S,3,none⟩) (Below.heap_setCell w3 ⟨w1.heap.size,0,none⟩ (.bool true) C.S (by show C.S≠w1.heap.size;omega))).trans c3;have ahA:w1.heap.size < (w3.setCell ⟨w1.heap.size,0,none⟩ (.bool true)).heap.size:=b5.lt;generalize w3.setCell ⟨w1.heap.size,0,none⟩ (.bool true) = w5 at *;have m4:=b5.cell;clear f0 f1 c3 g0 g1 e0 e1;have aaL:=hid hfin;clear hfin;have XA:=(WW.upd jH Tryz.underlying124 hnm Hl.out (.agg #[.bool true]) Bq HU.out).1;obtain ⟨hrd,WY,WZ,h6,ho6,hgd⟩:=KMap.upd jH (w:=w5.drew) (WW.keep rfl) Tryz.underlying124 hnm Hl.out (.agg #[.bool true]) Bq HU.out;have hr6:=(WZ.upd jH Tryz.underlying124 aaK Hl.out (.agg #[.bool true]) Bq HU.out).1;have UT:=CF hgd;have n0:=(World.cell?_of_block (a:=⟨w.heap.size,0,none⟩) (UT.block w.heap.size (by omega) (by simpa using FP))).trans m0;have n1:=(World.cell?_of_block (a:=⟨w.heap.size,1,none⟩) (UT.block w.heap.size (by omega) (by simpa using FP))).trans m1;have n3:=(World.cell?_of_block (a:=⟨C.S,3,none⟩) (UT.block C.S (by omega) (by simpa using adx))).trans m3;have n4:=(World.cell?_of_block (a:=⟨w1.heap.size,0,none⟩) (UT.block w1.heap.size (by omega) (by simpa using UR))).trans m4;go_region_held3 (fun w'=>w'.cell? ⟨C.S,3,none⟩ = some (.map (some C.M))∧w'.cell? ⟨w.heap.size,0,none⟩ = some (.int .i64 (i:Int))∧w'.cell? ⟨w.heap.size,1,none⟩ = some (.int .i64 (j:Int))∧w'.cell? ⟨w1.heap.size,0,none⟩ = some (.bool true)∧(Instr.mapUpdate 124 (.map (some C.M)) (.agg #[.int .i64 (i:Int),.int .i64 (j:Int)]) (.agg #[.bool true])).run Tryz.prog w' = .ok () (Bq 124 (.map (some C.M)) (pk i j) (.agg #[.bool true]) w')) (first | assumption | exact ⟨m3,m0,m1,m4,XA⟩ | exact ⟨m3,m0,m1,m4,hrd⟩ | exact ⟨n3,n0,n1,n4,hr6⟩) (first | fail)
    all_goals (
     go_wp2;go_ret;exact ⟨rfl,aaL.out _ WY WZ h6 ho6 UT⟩))
  | false =>
   have hq1:Tm.ab C.rk C.za C.zb i j = sy:=by rw [hab.out];rfl
   rw [hq1] at fin ⊢;clear hab hq1;go_enter Tryz.func89,Tryz.ntmps89;go_wp2_with fail;rw [HW.out];have hS0:=hS.out _ (Below.refl _ w1);go_region_held3 (fun w'=>w'.cell? ⟨C.S,3,none⟩ = some (.map (some C.M))∧w'.cell? ⟨w.heap.size,0,none⟩ = some (.int .i64 (i:Int))∧w'.cell? ⟨w.heap.size,1,none⟩ = some (.int .i64 (j:Int))∧(Instr.lookup 124 (.map (some C.M)) (.agg #[.int .i64 (i:Int),.int .i64 (j:Int)]) true).run Tryz.prog w' = .ok (.tuple #[.agg #[.bool false],.bool false]) w') (first | assumption | exact hS.out _ (Below.refl _ w1) | exact hS.out _ (below_drewN (Below.refl _ w1) _) | exact hS.out _ ((below_drewN (Below.refl _ w1) _).alloc (Nat.le_refl _) _)) (first | fail)
   all_goals (
    rw [HW2.out];clear hS hS0;go_wp2_with (first
     | (go_at_call 116;refine hCP.out.mono ?_;clear hCP;rintro e w3 ⟨rfl,hK3,Ld,H3,ht3⟩;have f0:=(hK3.cell (p:=⟨w.heap.size,0,none⟩) hlt2 FP).trans e0;have f1:=(hK3.cell (p:=⟨w.heap.size,1,none⟩) hlt2 FP).trans e1;have b3:Boxed w3 w1.heap.size 152 (.bool false):=(hK3.block _ b2.lt UR).trans b2;have WX:aW w.heap.size C.M w w3:=JJ.trans (hK3.mono JJ.size);have hlt3:=Nat.lt_of_lt_of_le hlt2 hK3.size;have MG:=hid (hCY.out w3 Ld H3);clear hCY e0 e1)
     | (go_at_call 117;refine MG.out.mono ?_;clear MG;rintro e w4 ⟨rfl,hK4,yB,H4,UU⟩;have f0':=(hK4.cell (p:=⟨w.heap.size,0,none⟩) hlt3 FP).trans f0;have Ro:=(hK4.cell (p:=⟨w.heap.size,1,none⟩) hlt3 FP).trans f1;clear f0 f1;have b4:Boxed w4 w1.heap.size 152 (.bool false):=(hK4.block _ b3.lt UR).trans b3;have g0:=b4.cell;have g1:=b4.frozen;have c3:=H4.c3))
    have ahC:aW w.heap.size C.M w w4:=WX.trans (hK4.mono WX.size);obtain ⟨n,WW,hnm,aaK,hfin⟩:=fin.out w4 yB (Nat.le_of_lt hlt) ahC H4 (fun k l h=>(UU k l (by omega)).trans (ht3 k l (by omega))) (.bool sy);have b5:=b4.set (.bool sy);have m0:=(World.cell?_of_block (a:=⟨w.heap.size,0,none⟩) (Below.heap_setCell w4 ⟨w1.heap.size,0,none⟩ (.bool sy) w.heap.size (by show w.heap.size≠w1.heap.size;omega))).trans f0';have m1:=(World.cell?_of_block (a:=⟨w.heap.size,1,none⟩) (Below.heap_setCell w4 ⟨w1.heap.size,0,none⟩ (.bool sy) w.heap.size (by show w.heap.size≠w1.heap.size;omega))).trans Ro;have m3:=(World.cell?_of_block (a:=⟨C.S,3,none⟩) (Below.heap_setCell w4 ⟨w1.heap.size,0,none⟩ (.bool sy) C.S (by show C.S≠w1.heap.size;omega))).trans c3;have ahA:w1.heap.size < (w4.setCell ⟨w1.heap.size,0,none⟩ (.bool sy)).heap.size:=b5.lt;generalize w4.setCell ⟨w1.heap.size,0,none⟩ (.bool sy) = w5 at *;have m4:=b5.cell;clear f0' Ro c3 g0 g1;have aaL:=hid hfin;clear hfin;have XA:=(WW.upd jH Tryz.underlying124 hnm Hl.out (.agg #[.bool sy]) Bq HU.out).1;obtain ⟨hrd,WY,WZ,h6,ho6,hgd⟩:=KMap.upd jH (w:=w5.drew) (WW.keep rfl) Tryz.underlying124 hnm Hl.out (.agg #[.bool sy]) Bq HU.out;have hr6:=(WZ.upd jH Tryz.underlying124 aaK Hl.out (.agg #[.bool sy]) Bq HU.out).1;have UT:=CF hgd;have n0:=(World.cell?_of_block (a:=⟨w.heap.size,0,none⟩) (UT.block w.heap.size (by omega) (by simpa using FP))).trans m0;have n1:=(World.cell?_of_block (a:=⟨w.heap.size,1,none⟩) (UT.block w.heap.size (by omega) (by simpa using FP))).trans m1;have n3:=(World.cell?_of_block (a:=⟨C.S,3,none⟩) (UT.block C.S (by omega) (by simpa using adx))).trans m3;have n4:=(World.cell?_of_block (a:=⟨w1.heap.size,0,none⟩) (UT.block w1.heap.size (by omega) (by simpa using UR))).trans m4;go_region_held3 (fun w'=>w'.cell? ⟨C.S,3,none⟩ = some (.map (some C.M))∧w'.cell? ⟨w.heap.size,0,none⟩ = some (.int .i64 (i:Int))∧w'.cell? ⟨w.heap.size,1,none⟩ = some (.int .i64 (j:Int))∧w'.cell? ⟨w1.heap.size,0,none⟩ = some (.bool sy)∧(Instr.mapUpdate 124 (.map (some C.M)) (.agg #[.int .i64 (i:Int),.int .i64 (j:Int)]) (.agg #[.bool sy])).run Tryz.prog w' = .ok () (Bq 124 (.map (some C.M)) (pk i j) (.agg #[.bool sy]) w')) (first | assumption | exact ⟨m3,m0,m1,m4,XA⟩ | exact ⟨m3,m0,m1,m4,hrd⟩ | exact ⟨n3,n0,n1,n4,hr6⟩) (first | fail)
    all_goals (
     go_wp2;go_ret;exact ⟨rfl,aaL.out _ WY WZ h6 ho6 UT⟩))
end
section
attribute [local go_sem] Oper.semAt_some
attribute [local go_sem ↓] Go.wp_at_zero Go.wp_at_succ
theorem fM {fn:Func} {tmps:Array Value} {w:World} {a B:Nat} {v:Bool} (h:fn.results = #[.cell a 4]) (ht:tmps.getD a undef = .pointer (some ⟨B,0,none⟩)) (hc:w.cell? ⟨B,0,none⟩ = some (.bool v)):(results fn tmps).run Tryz.prog w = .ok (.bool v) w:=by
 have ht':tmps[a]?.getD undef = .pointer (some ⟨B,0,none⟩):=by rw [← ht];simp
 simp only [results,h];simp [go_sem,ht',hc]
theorem dm {X Y:World} {row:Option Nat} {B C:Nat} {cs:Array Value} {t:TypeId} {p:Nat × Nat} (h:X.heap[C]? = some (.cells cs t p)) (hg:X.grownBy Y row) (hr:∀ r,row = some r→B≤r∧∃ o:Obj,X.heap[r]? = some o∧o.isCells = false):Y.heap[C]? = some (.cells cs t p) :=
 (hg.block C (Array.getElem?_eq_some_iff.1 h).1 (fun e=>by
   obtain ⟨_,o,ho,hc⟩:=hr C e.symm;rw [h] at ho;cases ho;simp [Obj.isCells] at hc)).trans h
theorem Ra {n m B:Nat} {w X Y:World} {row:Option Nat} (hn:n≤w.heap.size) (hB:n≤B) (h:aW n m w X) (hg:X.grownBy Y row) (hr:∀ r,row = some r→B≤r∧∃ o:Obj,X.heap[r]? = some o∧o.isCells = false):aW n m w Y :=
 ⟨hg.os.trans h.os,hg.tape.trans h.tape,hg.output.trans h.output,Nat.le_trans h.size hg.size,fun k hk hm=>(hg.block k (by have:=h.size;omega) (fun e=>by have:=(hr k e.symm).1;omega)).trans (h.block k hk hm)⟩
structure iW (C:Sd) (w:World) (fF:Value→Option Value) (dom:Nat→Nat→Prop) (i j:Nat) (W:World):Prop where
 Lb:∃ gY,Found C W gY∧∀ k l,dom k l→gY (pk k l) = fF (pk k l)
 bS:Boxed W w.heap.size 123 (.pointer (some ⟨C.S,0,none⟩))
 bA:W.heap[w.heap.size+1]? = some (.cells #[.int .i64 (i:Int),.int .i64 (j:Int)] 129 (0,0))
 kp:aW w.heap.size C.M w W
theorem iW.own {C:Sd} {w X Y:World} {row:Option Nat} {fF:Value→Option Value} {dom:Nat→Nat→Prop} {i j B:Nat} (hM:C.M < w.heap.size) (hB:w.heap.size≤B) (h:iW C w fF dom i j X) (hg:X.grownBy Y row) (hr:∀ r,row = some r→B≤r∧∃ o:Obj,X.heap[r]? = some o∧o.isCells = false):iW C w fF dom i j Y:=by
 obtain ⟨⟨gY,hf,ht⟩,bS,bA,kp⟩:=h;exact ⟨⟨gY,hf.keep (hg.block _ (by have:=kp.size;omega) (fun e=>by have:=(hr _ e.symm).1;omega)),ht⟩,dm bS hg hr,dm bA hg hr,Ra (Nat.le_refl _) hB kp hg hr⟩
theorem iW.sides {C:Sd} {w W:World} {UW fF:Value→Option Value} {dom:Nat→Nat→Prop} {i j:Nat} (H:fT C w UW) (h:iW C w fF dom i j W):∃ gY,fT C W gY∧∀ k l,dom k l→gY (pk k l) = fF (pk k l):=by
 obtain ⟨⟨gY,hf,ht⟩,bS,bA,kp⟩:=h;exact ⟨gY,H.keep kp hf,ht⟩
theorem jC {W:World} {B i j:Nat} (h:W.heap[B]? = some (.cells #[.int .i64 (i:Int),.int .i64 (j:Int)] 129 (0,0))):W.cell? ⟨B,0,none⟩ = some (.int .i64 (i:Int)):=by simp [World.cell?,h]
theorem kD {W:World} {B i j:Nat} (h:W.heap[B]? = some (.cells #[.int .i64 (i:Int),.int .i64 (j:Int)] 129 (0,0))):W.cell? ⟨B,1,none⟩ = some (.int .i64 (j:Int)):=by simp [World.cell?,h]
theorem PH {rk za zb:List Int} {i j m n:Nat} (h:m < n) (hm:Tm.bp rk za zb i j (m+1) = true):Tm.bp rk za zb i j n = true:=by
 simp only [Tm.bp,List.any_eq_true,List.mem_range] at *;obtain ⟨x,hx,r⟩:=hm;exact ⟨x,by omega,r⟩
theorem mU {C:Sd} {w W:World} {fF:Value→Option Value} {dom:Nat→Nat→Prop} {i j B:Nat} (h:iW C w fF dom i j W) (hM:C.M < w.heap.size) (hB:w.heap.size+1 < B) (v:Value):iW C w fF dom i j (W.setCell ⟨B,0,none⟩ v):=by
 obtain ⟨⟨gY,hf,ht⟩,bS,bA,kp⟩:=h;have hh:∀ k,k≠B→(W.setCell ⟨B,0,none⟩ v).heap[k]? = W.heap[k]?:=fun k hk=>Below.heap_setCell W ⟨B,0,none⟩ v k (by show k≠B;exact hk)
 exact ⟨⟨gY,hf.keep (hh _ (by omega)),ht⟩,(hh _ (by omega)).trans bS,(hh _ (by omega)).trans bA,GJ kp (by omega) v⟩
theorem rD {C:Sd} {w W W2 W4:World} {fF yB:Value→Option Value} {dom:Nat→Nat→Prop} {i j:Nat} (h:iW C w fF dom i j W) (hB:Below W.heap.size W W2) (hK:aW W2.heap.size C.M W2 W4) (hM:C.M < w.heap.size) (hf:Found C W4 yB) (ht:∀ k l,dom k l→yB (pk k l) = fF (pk k l)):iW C w fF dom i j W4:=by
 obtain ⟨_,bS,bA,kp⟩:=h;have hS:=(Array.getElem?_eq_some_iff.1 bS).1;have hA:=(Array.getElem?_eq_some_iff.1 bA).1;have k2:aW w.heap.size C.M w W2:=kp.trans (aW.of_below (hB.mono kp.size));exact ⟨⟨yB,hf,ht⟩,(hK.block _ (Nat.lt_of_lt_of_le hS hB.size) (by omega)).trans ((hB.block _ hS).trans bS),(hK.block _ (Nat.lt_of_lt_of_le hA hB.size) (by omega)).trans ((hB.block _ hA).trans bA),k2.trans (hK.mono k2.size)⟩
theorem pU {C:Sd} {w W:World} {UW fF:Value→Option Value} {dom:Nat→Nat→Prop} {i j D:Nat} {q:Bool} {o:Obj} (H:fT C w UW) (hM:C.M < w.heap.size) (h:iW C w fF dom i j W) (hD:w.heap.size≤D):Fe C q dom fF w (.returned (.bool q)) (W.putObj D o):=by
 obtain ⟨⟨gY,hf,ht⟩,bS,bA,kp⟩:=h;have hh:∀ k,k < w.heap.size→(W.putObj D o).heap[k]? = W.heap[k]?:=fun k hk=>World.putObj_heap_other (by omega)
 have kp':aW w.heap.size C.M w (W.putObj D o):=⟨kp.os,kp.tape,kp.output,by have:=kp.size;simp;omega,fun k hk hm=>(hh k hk).trans (kp.block k hk hm)⟩;exact ⟨rfl,kp',gY,H.keep kp' (hf.keep (hh _ hM)),ht⟩
structure XQ (C:Sd) (w:World) (fF:Value→Option Value) (i j m:Nat) (W:World):Prop where
 no:Tm.bp C.rk C.za C.zb i j m = false
 sd:iW C w fF (fun k l=>k≤i∨l < j) i j W
 bR:Boxed W (w.heap.size+1+1) 4 (.bool false)
 bT:Boxed W (w.heap.size+1+1+1) 35 (.slice (some ⟨C.ba,C.fa,none⟩) C.za.length C.ca)
 bK:Boxed W (w.heap.size+1+1+1+1) 3 (.int .i64 (i:Int))
theorem Le (C:Sd) (O:Q8 C) (i j:Nat) (hi:i < C.za.length) (hj:j < C.zb.length)
 (hA:∀ k,i < k→k < C.za.length→jZ C 89 k j (Tm.ab C.rk C.za C.zb k j) fun k' l=>k' < k∨l < j) :
 jZ C 116 i j (Tm.bp C.rk C.za C.zb i j (Tm.room (C.za[i]?.getD 0))) fun k l=>k≤i∨l < j:=by
 intro w fF H;obtain ⟨F,hF⟩:∃ F,F = Fence.wide:=⟨_,rfl⟩;refine (callsIn_wide (n:=3)).1 ?_;rw [← hF];obtain ⟨hro,hfn,hdd,jv⟩:=fC hF;have qz:Hid (Pl F):=by rw [hF];exact iZ
 have HF:=hid hF;clear hF;have hf1:=hfn 116;have hf2:=hfn 89;have hf3:=hfn 101;have PU:=hfn 123;have RZ:=hfn 130;clear hfn;have la:=Tm.aI O.ea;have iH:=H.ltM;have aaJ:=H.lt;obtain ⟨W3,hW3⟩:∃ W3,((w.alloc (.cells #[.pointer (some ⟨C.S,0,none⟩)] 123)).alloc (.cells #[.int .i64 (i:Int),.int .i64 (j:Int)] 129)).alloc (.cells #[.bool false] 4) = W3:=⟨_,rfl⟩;have hB0:Below w.heap.size w W3:=by rw [← hW3];exact (((Below.refl _ w).alloc (Nat.le_refl _) _).alloc (by simp) _).alloc (by simp;omega) _
 have bS:Boxed W3 w.heap.size 123 (.pointer (some ⟨C.S,0,none⟩)):=by rw [← hW3];exact ((Boxed.new w 123 (.pointer (some ⟨C.S,0,none⟩))).alloc _).alloc _
 have bA:W3.heap[w.heap.size+1]? = some (.cells #[.int .i64 (i:Int),.int .i64 (j:Int)] 129 (0,0)):=by
  rw [← hW3];have h1:=World.alloc_heap_new (w.alloc (.cells #[.pointer (some ⟨C.S,0,none⟩)] 123)) (.cells #[.int .i64 (i:Int),.int .i64 (j:Int)] 129);rw [World.size_alloc] at h1;exact (Below.heap_alloc _ _ _ (by simp)).trans h1
 have bR:Boxed W3 (w.heap.size+1+1) 4 (.bool false):=by
  rw [← hW3];have h1:=Boxed.new ((w.alloc (.cells #[.pointer (some ⟨C.S,0,none⟩)] 123)).alloc (.cells #[.int .i64 (i:Int),.int .i64 (j:Int)] 129)) 4 (.bool false);simpa using h1
 have hs3:W3.heap.size = w.heap.size+1+1+1:=by rw [← hW3];simp
 have HW3:=hid hW3;clear hW3;have H3:=H.below hB0;have c1:=H3.c1;have cS:=bS.cell;have cA:=jC bA;have hS:=hid (fun w' (hB:Below W3.heap.size W3 w')=>(show w'.cell? ⟨C.S,1,none⟩ = some (.slice (some ⟨C.ba,C.fa,none⟩) C.za.length C.ca)∧w'.cell? ⟨w.heap.size,0,none⟩ = some (.pointer (some ⟨C.S,0,none⟩))∧w'.cell? ⟨w.heap.size+1,0,none⟩ = some (.int .i64 (i:Int)) from
  ⟨(hB.cell H3.lt).trans c1,(hB.cell bS.lt).trans cS,(hB.cell (p:=⟨w.heap.size+1,0,none⟩) (by show w.heap.size+1 < _;omega)).trans cA⟩))
 obtain ⟨W5,mG⟩:∃ W5,((W3.alloc (.cells #[.slice (some ⟨C.ba,C.fa,none⟩) C.za.length C.ca] 35)).alloc (.cells #[.int .i64 (i:Int)] 3)).drew = W5:=⟨_,rfl⟩;have Da:Below W3.heap.size W3 W5:=by rw [← mG];exact dn (((Below.refl _ W3).alloc (Nat.le_refl _) _).alloc (by simp) _)
 have R3:Boxed W5 (w.heap.size+1+1+1) 35 (.slice (some ⟨C.ba,C.fa,none⟩) C.za.length C.ca):=by
  rw [← mG,← hs3];exact (Boxed.new W3 35 (.slice (some ⟨C.ba,C.fa,none⟩) C.za.length C.ca)).alloc _
 have R4:Boxed W5 (w.heap.size+1+1+1+1) 3 (.int .i64 (i:Int)):=by
  have h1:=Boxed.new (W3.alloc (.cells #[.slice (some ⟨C.ba,C.fa,none⟩) C.za.length C.ca] 35)) 3 (.int .i64 (i:Int));rw [World.size_alloc,hs3] at h1;rw [← mG];exact h1
 have hs5:W5.heap.size = w.heap.size+1+1+1+1+1:=by rw [← mG];show ((W3.alloc _).alloc _).heap.size = _;simp [hs3]
 have Va:=hid mG;clear mG;have bS5:Boxed W5 w.heap.size 123 (.pointer (some ⟨C.S,0,none⟩)):=(Da.block _ bS.lt).trans bS;have X8:=(Da.block _ (by omega)).trans bA;have U7:Boxed W5 (w.heap.size+1+1) 4 (.bool false):=(Da.block _ bR.lt).trans bR;have gq:Below w.heap.size w W5:=hB0.trans (Da.mono hB0.size);have I0:XQ C w fF i j 0 W5:=⟨rfl,⟨⟨fF,H.Lb.keep (gq.block _ iH),fun _ _ _=>rfl⟩,bS5,X8,aW.of_below gq⟩,U7,R3,R4⟩;have hkp:∀ m,m < Tm.room (C.za[i]?.getD 0)→Tm.pos C.za i m < C.za.length:=fun m hm=>by
  have h1:=Tm.mO O.ea hi m (by omega);have h2:=Tm.pq (Tm.dC O.ea hi) (m:=m) (by rw [Tm.jl O.ea hi];exact hm);rw [Tm.dF O.ea hi] at h2;have h3:=Tm.fV O.ea hi;omega
 have HI0:=hid I0;have Rm:=hid hkp;have HH:=hid H;have HA:=hid hA;have HO:=hid O;have Hlb:=hid (Tm.aI O.eb);clear H3 c1 cS cA bS bA bR R3 R4 bS5 X8 U7 I0 hkp hA Da gq hB0 H O;refine callsIn_of_wp_marks Tryz.func116 rfl hf1 ?_ hro;simp only [Tryz.ntmps116,List.size_toArray,List.length_cons,List.length_nil,Nat.reduceAdd,Nat.reduceSub,Array.replicate_succ,Array.replicate_zero,List.push_toArray,List.append_toArray,List.nil_append,List.cons_append];gi_wp2_with fail
 rw [HW3.out];rw [HF.out];refine wpIn_wide.2 ?_;have hS0:=hS.out _ (Below.refl _ W3);go_region_held3 (fun w'=>w'.cell? ⟨C.S,1,none⟩ = some (.slice (some ⟨C.ba,C.fa,none⟩) C.za.length C.ca)∧w'.cell? ⟨w.heap.size,0,none⟩ = some (.pointer (some ⟨C.S,0,none⟩))∧w'.cell? ⟨w.heap.size+1,0,none⟩ = some (.int .i64 (i:Int))) (first | assumption | exact hS.out _ (Below.refl _ W3) | exact hS.out _ (below_drewN (Below.refl _ W3) 1)) (first
  | (go_at_call 101;refine (callsIn_wide.1 (j6 Fence.wide iZ 0 _ _ _ _ _)).mono ?_;rintro e w' ⟨rfl,rfl⟩;have hS1:=hS.out _ (((below_drewN (Below.refl _ W3) 1).alloc (Nat.le_refl _) (.cells #[.slice (some ⟨C.ba,C.fa,none⟩) C.za.length C.ca] 35)).alloc (by simp) (.cells #[.int .i64 (i:Int)] 3))))
 rw [Va.out];rename_i hHeld;clear hS hS0 hS1 hHeld;gi_wp2_with fail
 refine dU hro (by omega) (gf:=123) (lb:=#[.pointer (some ⟨w.heap.size+1+1+1+1,0,none⟩),.pointer (some ⟨w.heap.size+1+1+1,0,none⟩)]) rfl PU (enters_of Tryz.func123 (by kernel_rfl) rfl)
  (iM F qz.out _ (w.heap.size+1+1+1+1) (w.heap.size+1+1+1) i C.ca (some ⟨C.ba,C.fa,none⟩) C.za (by omega) hi (jF F qz.out C.za (by omega) _ C.ca i)) (fun _=>rfl)
  (XQ C w fF i j)
  (fun c W=>c = .ret∧Tm.bp C.rk C.za C.zb i j (Tm.room (C.za[i]?.getD 0)) = true∧iW C w fF (fun k l=>k≤i∨l < j) i j W∧Boxed W (w.heap.size+1+1) 4 (.bool true)) (fun _ _=>False) (.inl fun _ _ h=>h)
  (by
    rintro m X Y row ⟨no,sd,bR,bT,bK⟩ hg hr;exact ⟨no,sd.own iH (by omega) hg hr,dm bR hg hr,dm bT hg hr,dm bK hg hr⟩)
  (by
    rintro c X Y row ⟨e,hq,sd,bR⟩ hg hr;exact ⟨e,hq,sd.own iH (by omega) hg hr,dm bR hg hr⟩)
  (fun m W hI=>⟨hI.bK.cell,hI.bT.cell,by obtain ⟨gY,hS,_⟩:=hI.sd.sides HH.out;exact hS.ia⟩)
  HI0.out
  (fun m=>{ tmps:=#[.pointer (some ⟨C.S,0,none⟩),.agg #[.int .i64 (i:Int),.int .i64 (j:Int)],.pointer (some ⟨w.heap.size,0,none⟩),.pointer (some ⟨w.heap.size+1,0,none⟩),.pointer (some ⟨w.heap.size+1+1,0,none⟩),.int .i64 (Tm.pos C.za i m:Int),undef,
    .pointer (some ⟨C.S,0,none⟩),.pointer (some ⟨C.S,0,none⟩),.pointer (some ⟨C.S,1,none⟩),.slice (some ⟨C.ba,C.fa,none⟩) C.za.length C.ca,.pointer (some ⟨w.heap.size+1,0,none⟩),.int .i64 (i:Int),.func (.func 123) #[] #[.pointer (some ⟨w.heap.size+1+1+1+1,0,none⟩),.pointer (some ⟨w.heap.size+1+1+1,0,none⟩)],
    .int .i64 (Tm.pos C.za i m:Int),.int .i64 (Tm.pos C.za i (m+1):Int),undef,undef,undef,undef,undef,undef,undef,undef,undef,undef,undef,undef],defers:=[] }) ?assign ?body ?done ?stop ?panic
 case assign =>
  intro l m W K hK;simp only [ni];gi_wp2
  exact hK
 case body =>
  rintro l m W hI hm;obtain ⟨no,sd,bR,bT,bK⟩:=hI;have hm':m < Tm.room (C.za[i]?.getD 0):=hm;have hp:=Rm.out m hm';have hgt:=Tm.jr C.za i m;obtain ⟨gY,Rb,ht'⟩:=sd.sides HH.out;have hB1:Below W.heap.size W (W.alloc (.cells #[.int .i64 (Tm.pos C.za i m:Int),.int .i64 (j:Int)] 129)):=(Below.refl _ W).alloc (Nat.le_refl _) _;have UX:=World.alloc_heap_new W (.cells #[.int .i64 (Tm.pos C.za i m:Int),.int .i64 (j:Int)] 129);have S1:=Rb.below hB1;have LF:Boxed (W.alloc (.cells #[.int .i64 (Tm.pos C.za i m:Int),.int .i64 (j:Int)] 129)) w.heap.size 123 (.pointer (some ⟨C.S,0,none⟩)):=(hB1.block _ sd.bS.lt).trans sd.bS;have e1:=jC UX;have e2:=kD UX;have e3:=LF.cell;have e4:=kD sd.bA;have hltW:W.heap.size < (W.alloc (.cells #[.int .i64 (Tm.pos C.za i m:Int),.int .i64 (j:Int)] 129)).heap.size:=by simp
  have hCs:=hid (CallsIn.inRound l (jv (n:=0) (rZ C HO.out (Tm.pos C.za i m) j hp hj (W.alloc (.cells #[.int .i64 (Tm.pos C.za i m:Int),.int .i64 (j:Int)] 129)) gY S1)));unfold pk at hCs;have hbs:=hid (Tm.Ov C.rk C.za C.zb i j m);have hkw:=sd.kp;have Jh:=hid (fun W2 (hB2:Below (W.alloc (.cells #[.int .i64 (Tm.pos C.za i m:Int),.int .i64 (j:Int)] 129)).heap.size (W.alloc (.cells #[.int .i64 (Tm.pos C.za i m:Int),.int .i64 (j:Int)] 129)) W2)=>CallsIn.inRound l (jv (n:=0) (HA.out (Tm.pos C.za i m) hgt hp W2 gY (S1.below hB2))));have Vb:=hid S1;have Pg:=hid sd;have Hht:=hid ht';have Hno:=hid no;clear sd S1 Rb ht' no;have Dl:=fun (k:Nat) (o:Obj) (hk:W5.heap.size≤k) (ho:W.heap[k]? = some o)=>(show k < W.heap.size∧k≠C.M from ⟨(Array.getElem?_eq_some_iff.1 ho).1,by omega⟩)
  cases hq1:Tm.sm C.za C.zb (Tm.pos C.za i m) j with
  | true =>
   rw [hq1] at hCs hbs;clear Jh;gi_wp2_with (first
    | ((try refine ⟨hdd _,?_⟩);gi_at_call 130;refine hCs.out.mono ?_;clear hCs;rintro e W2 ⟨rfl,hB2⟩;have dN:Below W.heap.size W W2:=hB1.trans (hB2.mono hB1.size);have BH:Boxed W2 (w.heap.size+1+1) 4 (.bool false):=(dN.block _ bR.lt).trans bR;have cR:=BH.cell;have fR:=BH.frozen;have g1:=(hB2.cell (p:=⟨W.heap.size,0,none⟩) hltW).trans e1;have g2:=(hB2.cell (p:=⟨W.heap.size,1,none⟩) hltW).trans e2;have W9:Boxed W2 w.heap.size 123 (.pointer (some ⟨C.S,0,none⟩)):=(hB2.block _ LF.lt).trans LF;have g3:=W9.cell))
   have hq:Tm.bp C.rk C.za C.zb i j (Tm.room (C.za[i]?.getD 0)) = true:=PH hm' (by rw [hbs.out];simp);refine ⟨(⟨dN.size,fun k o hk ho _=>(dN.block k (Dl k o hk ho).1).trans ho⟩:KeepsFrom W5.heap.size W W2).trans ((KeepsOthers.setCell _ _ _).from _),rfl,hq,?_,BH.set _⟩;have JJ:aW w.heap.size C.M w W2:=hkw.trans (aW.of_below (dN.mono hkw.size));obtain ⟨tf,hf,htf⟩:=Pg.out.Lb;exact mU ⟨⟨tf,hf.keep (dN.block _ (by have:=hkw.size;omega)),htf⟩,(dN.block _ Pg.out.bS.lt).trans Pg.out.bS,(dN.block _ (by have:=bR.lt;omega)).trans Pg.out.bA,JJ⟩ iH (by omega) _
  | false =>
   rw [hq1] at hCs hbs;cases hq2:Tm.ab C.rk C.za C.zb (Tm.pos C.za i m) j with
   | true =>
    rw [hq2] at Jh hbs;gi_wp2_with (first
     | ((try refine ⟨hdd _,?_⟩);gi_at_call 130;refine hCs.out.mono ?_;clear hCs;rintro e W2 ⟨rfl,hB2⟩;have dN:Below W.heap.size W W2:=hB1.trans (hB2.mono hB1.size);have BH:Boxed W2 (w.heap.size+1+1) 4 (.bool false):=(dN.block _ bR.lt).trans bR;have cR:=BH.cell;have fR:=BH.frozen;have g1:=(hB2.cell (p:=⟨W.heap.size,0,none⟩) hltW).trans e1;have g2:=(hB2.cell (p:=⟨W.heap.size,1,none⟩) hltW).trans e2;have W9:Boxed W2 w.heap.size 123 (.pointer (some ⟨C.S,0,none⟩)):=(hB2.block _ LF.lt).trans LF;have g3:=W9.cell)
     | ((try refine ⟨hdd _,?_⟩);gi_at_call 89;refine (Jh.out W2 hB2).mono ?_;clear Jh;rintro e W4 ⟨rfl,hK4,yB,S4,UU⟩;have hne:∀ k,w.heap.size≤k→k≠C.M:=(fun k hk e=>by omega);have Ff:=dN.size;have Dg:Boxed W4 (w.heap.size+1+1) 4 (.bool false):=(hK4.block _ BH.lt (hne _ (by omega))).trans BH;have cR4:=Dg.cell;have fR4:=Dg.frozen))
    have hq:Tm.bp C.rk C.za C.zb i j (Tm.room (C.za[i]?.getD 0)) = true:=PH hm' (by rw [hbs.out];simp);refine ⟨(⟨Nat.le_trans dN.size hK4.size,fun k o hk ho _=>((hK4.block k (Nat.lt_of_lt_of_le (Dl k o hk ho).1 Ff) (Dl k o hk ho).2).trans (dN.block k (Dl k o hk ho).1)).trans ho⟩:KeepsFrom W5.heap.size W W4).trans ((KeepsOthers.setCell _ _ _).from _),rfl,hq,?_,Dg.set _⟩;exact mU (rD Pg.out dN hK4 iH S4.Lb (fun k l h=>(UU k l (by omega)).trans (Hht.out k l h))) iH (by omega) _
   | false =>
    rw [hq2] at Jh hbs;gi_wp2_with (first
     | ((try refine ⟨hdd _,?_⟩);gi_at_call 130;refine hCs.out.mono ?_;clear hCs;rintro e W2 ⟨rfl,hB2⟩;have dN:Below W.heap.size W W2:=hB1.trans (hB2.mono hB1.size);have BH:Boxed W2 (w.heap.size+1+1) 4 (.bool false):=(dN.block _ bR.lt).trans bR;have cR:=BH.cell;have fR:=BH.frozen;have g1:=(hB2.cell (p:=⟨W.heap.size,0,none⟩) hltW).trans e1;have g2:=(hB2.cell (p:=⟨W.heap.size,1,none⟩) hltW).trans e2;have W9:Boxed W2 w.heap.size 123 (.pointer (some ⟨C.S,0,none⟩)):=(hB2.block _ LF.lt).trans LF;have g3:=W9.cell)
     | ((try refine ⟨hdd _,?_⟩);gi_at_call 89;refine (Jh.out W2 hB2).mono ?_;clear Jh;rintro e W4 ⟨rfl,hK4,yB,S4,UU⟩;have hne:∀ k,w.heap.size≤k→k≠C.M:=(fun k hk e=>by omega);have Ff:=dN.size;have Dg:Boxed W4 (w.heap.size+1+1) 4 (.bool false):=(hK4.block _ BH.lt (hne _ (by omega))).trans BH;have cR4:=Dg.cell;have fR4:=Dg.frozen))
    refine ⟨⟨Nat.le_trans dN.size hK4.size,fun k o hk ho _=>((hK4.block k (Nat.lt_of_lt_of_le (Dl k o hk ho).1 Ff) (Dl k o hk ho).2).trans (dN.block k (Dl k o hk ho).1)).trans ho⟩,?_⟩;refine ⟨by rw [hbs.out,Hno.out];rfl,rD Pg.out dN hK4 iH S4.Lb (fun k l h=>(UU k l (by omega)).trans (Hht.out k l h)),Dg,?_,?_⟩
    ·exact (hK4.block _ (Nat.lt_of_lt_of_le bT.lt Ff) (hne _ (by omega))).trans ((dN.block _ bT.lt).trans bT)
    ·exact (hK4.block _ (Nat.lt_of_lt_of_le bK.lt Ff) (hne _ (by omega))).trans ((dN.block _ bK.lt).trans bK)
 case done =>
  rintro D W hD ⟨no,sd,bR,bT,bK⟩ qA;have c1:=bR.cell;have c2:=bR.frozen;rw [hs5] at hD;have no':Tm.bp C.rk C.za C.zb i j (Tm.room (C.za[i]?.getD 0)) = false:=no;gi_wp2
  have BH:=bR.set (.bool false);have qB:(W.setCell ⟨w.heap.size+1+1,0,none⟩ (.bool false)).heap[D]? = some (.deferred (some [])):=(Below.heap_setCell W ⟨w.heap.size+1+1,0,none⟩ _ D (show D≠w.heap.size+1+1 by omega)).trans qA;refine ⟨by simp,.inl ⟨_,_,rfl,run_takeDeferred qB,?_⟩⟩;refine ⟨_,fM rfl rfl ((World.cell?_of_block (a:=⟨w.heap.size+1+1,0,none⟩) (World.putObj_heap_other (show w.heap.size+1+1≠D by omega))).trans BH.cell),?_⟩;rw [no'];exact pU HH.out iH (mU sd iH (by omega) _) (by omega)
 case stop =>
  rintro D c W hD ⟨rfl,hq,sd,bR⟩ qA;have c1:=bR.cell;rw [hs5] at hD;gi_wp2
  refine ⟨by simp,.inl ⟨_,_,rfl,run_takeDeferred qA,?_⟩⟩;refine ⟨_,fM rfl rfl ((World.cell?_of_block (a:=⟨w.heap.size+1+1,0,none⟩) (World.putObj_heap_other (show w.heap.size+1+1≠D by omega))).trans c1),?_⟩;rw [hq];exact pU HH.out iH sd (by omega)
 case panic=>exact fun _ _ _ _ h=>h.elim
end
section
attribute [local go_sem] Oper.semAt_some
attribute [local go_sem ↓] Go.wp_at_zero Go.wp_at_succ
theorem Lf {C:Sd} {w W W2:World} {fF:Value→Option Value} {dom:Nat→Nat→Prop} {i j:Nat} (h:iW C w fF dom i j W) (hB:Below W.heap.size W W2) (hM:C.M < w.heap.size):iW C w fF dom i j W2:=by
 obtain ⟨⟨tf,hf,htf⟩,bS,bA,kp⟩:=h;exact ⟨⟨tf,hf.keep (hB.block _ (by have:=kp.size;omega)),htf⟩,(hB.block _ (Array.getElem?_eq_some_iff.1 bS).1).trans bS,(hB.block _ (Array.getElem?_eq_some_iff.1 bA).1).trans bA,kp.trans (aW.of_below (hB.mono kp.size))⟩
structure XR (C:Sd) (w:World) (fF:Value→Option Value) (i j m:Nat) (W:World):Prop where
 no:Tm.PR C.za C.zb i j m = true
 sd:iW C w fF (fun k l=>k≤i∨l≤j) i j W
 bR:Boxed W (w.heap.size+1+1) 4 (.bool false)
 bG:Boxed W (w.heap.size+1+1+1) 3 (.int .i64 (Tm.pos C.zb j m:Int))
 bT:Boxed W (w.heap.size+1+1+1+1) 35 (.slice (some ⟨C.ba,C.fa,none⟩) C.za.length C.ca)
 bK:Boxed W (w.heap.size+1+1+1+1+1) 3 (.int .i64 (i:Int))
theorem Ji (C:Sd) (O:Q8 C) (i j:Nat) (hi:i < C.za.length) (hj:j < C.zb.length) (hsy:C.za[i]?.getD 0 = C.zb[j]?.getD 0)
 (hA:∀ k l,i < k→k < C.za.length→j < l→l < C.zb.length→jZ C 89 k l (Tm.ab C.rk C.za C.zb k l) fun k' l'=>k' < k∨l' < l) :
 jZ C 131 i j (Tm.fd C.rk C.za C.zb i j (Tm.room (C.za[i]?.getD 0))) fun k l=>k≤i∨l≤j:=by
 intro w fF H;obtain ⟨F,hF⟩:∃ F,F = Fence.wide:=⟨_,rfl⟩;refine (callsIn_wide (n:=3)).1 ?_;rw [← hF];obtain ⟨hro,hfn,hdd,jv⟩:=fC hF;have qz:Hid (Pl F):=by rw [hF];exact iZ
 have HF:=hid hF;clear hF;have hf1:=hfn 131;have hf2:=hfn 89;have hf3:=hfn 101;have PU:=hfn 123;have RZ:=hfn 130;have hfn':=hfn;clear hfn;have hf6:=hfn' 69;have la:=Tm.aI O.ea;have lb:=Tm.aI O.eb;have iH:=H.ltM;have aaJ:=H.lt;obtain ⟨W3,hW3⟩:∃ W3,(((w.alloc (.cells #[.pointer (some ⟨C.S,0,none⟩)] 123)).alloc (.cells #[.int .i64 (i:Int),.int .i64 (j:Int)] 129)).alloc (.cells #[.bool false] 4)).alloc (.cells #[.int .i64 ((j:Int)+1)] 3) = W3:=⟨_,rfl⟩;have hB0:Below w.heap.size w W3:=by rw [← hW3];exact ((((Below.refl _ w).alloc (Nat.le_refl _) _).alloc (by simp) _).alloc (by simp;omega) _).alloc (by simp;omega) _
 have bS:Boxed W3 w.heap.size 123 (.pointer (some ⟨C.S,0,none⟩)):=by rw [← hW3];exact (((Boxed.new w 123 (.pointer (some ⟨C.S,0,none⟩))).alloc _).alloc _).alloc _
 have bA:W3.heap[w.heap.size+1]? = some (.cells #[.int .i64 (i:Int),.int .i64 (j:Int)] 129 (0,0)):=by
  rw [← hW3];have h1:=World.alloc_heap_new (w.alloc (.cells #[.pointer (some ⟨C.S,0,none⟩)] 123)) (.cells #[.int .i64 (i:Int),.int .i64 (j:Int)] 129);rw [World.size_alloc] at h1;exact (Below.heap_alloc _ _ _ (by simp)).trans ((Below.heap_alloc _ _ _ (by simp)).trans h1)
 have bR:Boxed W3 (w.heap.size+1+1) 4 (.bool false):=by
  rw [← hW3];have h1:=Boxed.new ((w.alloc (.cells #[.pointer (some ⟨C.S,0,none⟩)] 123)).alloc (.cells #[.int .i64 (i:Int),.int .i64 (j:Int)] 129)) 4 (.bool false);simp only [World.size_alloc] at h1;exact h1.alloc _
 have bG:Boxed W3 (w.heap.size+1+1+1) 3 (.int .i64 (Tm.pos C.zb j 0:Int)):=by
  rw [← hW3,Tm.dB];have h1:=Boxed.new (((w.alloc (.cells #[.pointer (some ⟨C.S,0,none⟩)] 123)).alloc (.cells #[.int .i64 (i:Int),.int .i64 (j:Int)] 129)).alloc (.cells #[.bool false] 4)) 3 (.int .i64 ((j:Int)+1));simp only [World.size_alloc] at h1;exact h1
 have hs3:W3.heap.size = w.heap.size+1+1+1+1:=by rw [← hW3];simp
 have HW3:=hid hW3;clear hW3;have H3:=H.below hB0;have c1:=H3.c1;have cS:=bS.cell;have cA:=jC bA;have hS:=hid (fun w' (hB:Below W3.heap.size W3 w')=>(show w'.cell? ⟨C.S,1,none⟩ = some (.slice (some ⟨C.ba,C.fa,none⟩) C.za.length C.ca)∧w'.cell? ⟨w.heap.size,0,none⟩ = some (.pointer (some ⟨C.S,0,none⟩))∧w'.cell? ⟨w.heap.size+1,0,none⟩ = some (.int .i64 (i:Int)) from
  ⟨(hB.cell H3.lt).trans c1,(hB.cell bS.lt).trans cS,(hB.cell (p:=⟨w.heap.size+1,0,none⟩) (by show w.heap.size+1 < _;omega)).trans cA⟩))
 obtain ⟨W5,mG⟩:∃ W5,((W3.alloc (.cells #[.slice (some ⟨C.ba,C.fa,none⟩) C.za.length C.ca] 35)).alloc (.cells #[.int .i64 (i:Int)] 3)).drew = W5:=⟨_,rfl⟩;have Da:Below W3.heap.size W3 W5:=by rw [← mG];exact dn (((Below.refl _ W3).alloc (Nat.le_refl _) _).alloc (by simp) _)
 have R3:Boxed W5 (w.heap.size+1+1+1+1) 35 (.slice (some ⟨C.ba,C.fa,none⟩) C.za.length C.ca):=by
  rw [← mG,← hs3];exact (Boxed.new W3 35 (.slice (some ⟨C.ba,C.fa,none⟩) C.za.length C.ca)).alloc _
 have R4:Boxed W5 (w.heap.size+1+1+1+1+1) 3 (.int .i64 (i:Int)):=by
  have h1:=Boxed.new (W3.alloc (.cells #[.slice (some ⟨C.ba,C.fa,none⟩) C.za.length C.ca] 35)) 3 (.int .i64 (i:Int));rw [World.size_alloc,hs3] at h1;rw [← mG];exact h1
 have hs5:W5.heap.size = w.heap.size+1+1+1+1+1+1:=by rw [← mG];show ((W3.alloc _).alloc _).heap.size = _;simp [hs3]
 have Va:=hid mG;clear mG;have bS5:Boxed W5 w.heap.size 123 (.pointer (some ⟨C.S,0,none⟩)):=(Da.block _ bS.lt).trans bS;have X8:=(Da.block _ (by omega)).trans bA;have U7:Boxed W5 (w.heap.size+1+1) 4 (.bool false):=(Da.block _ bR.lt).trans bR;have bG5:Boxed W5 (w.heap.size+1+1+1) 3 (.int .i64 (Tm.pos C.zb j 0:Int)):=(Da.block _ bG.lt).trans bG;have gq:Below w.heap.size w W5:=hB0.trans (Da.mono hB0.size);have I0:XR C w fF i j 0 W5:=⟨rfl,⟨⟨fF,H.Lb.keep (gq.block _ iH),fun _ _ _=>rfl⟩,bS5,X8,aW.of_below gq⟩,U7,bG5,R3,R4⟩;have hkp:∀ m,m < Tm.room (C.za[i]?.getD 0)→Tm.pos C.za i m < C.za.length:=fun m hm=>by
  have h1:=Tm.mO O.ea hi m (by omega);have h2:=Tm.pq (Tm.dC O.ea hi) (m:=m) (by rw [Tm.jl O.ea hi];exact hm);rw [Tm.dF O.ea hi] at h2;have h3:=Tm.fV O.ea hi;omega
 have adB:∀ m,m < Tm.room (C.za[i]?.getD 0)→Tm.pos C.zb j m < C.zb.length:=fun m hm=>by
  have h1:=Tm.mO O.eb hj m (by rw [← hsy];omega);have h2:=Tm.pq (Tm.dC O.eb hj) (m:=m) (by rw [Tm.jl O.eb hj,← hsy];exact hm);rw [Tm.dF O.eb hj] at h2;have h3:=Tm.fV O.eb hj;omega
 have ahD:=hid adB;have hjI:(j:Int) < 30:=by omega
 have HI0:=hid I0;have Rm:=hid hkp;have HH:=hid H;have HA:=hid hA;have HO:=hid O;clear H3 c1 cS cA bS bA bR bG R3 R4 bS5 X8 U7 bG5 I0 hkp adB hsy hA Da gq hB0 H O;refine callsIn_of_wp_marks Tryz.func131 rfl hf1 ?_ hro;simp only [Tryz.ntmps131,List.size_toArray,List.length_cons,List.length_nil,Nat.reduceAdd,Nat.reduceSub,Array.replicate_succ,Array.replicate_zero,List.push_toArray,List.append_toArray,List.nil_append,List.cons_append];gi_wp2_with fail
 rw [HW3.out];rw [HF.out];refine wpIn_wide.2 ?_;have hS0:=hS.out _ (Below.refl _ W3);go_region_held3 (fun w'=>w'.cell? ⟨C.S,1,none⟩ = some (.slice (some ⟨C.ba,C.fa,none⟩) C.za.length C.ca)∧w'.cell? ⟨w.heap.size,0,none⟩ = some (.pointer (some ⟨C.S,0,none⟩))∧w'.cell? ⟨w.heap.size+1,0,none⟩ = some (.int .i64 (i:Int))) (first | assumption | exact hS.out _ (Below.refl _ W3) | exact hS.out _ (below_drewN (Below.refl _ W3) 1)) (first
  | (go_at_call 101;refine (callsIn_wide.1 (j6 Fence.wide iZ 0 _ _ _ _ _)).mono ?_;rintro e w' ⟨rfl,rfl⟩;have hS1:=hS.out _ (((below_drewN (Below.refl _ W3) 1).alloc (Nat.le_refl _) (.cells #[.slice (some ⟨C.ba,C.fa,none⟩) C.za.length C.ca] 35)).alloc (by simp) (.cells #[.int .i64 (i:Int)] 3))))
 rw [Va.out];rename_i hHeld;clear hS hS0 hS1 hHeld;gi_wp2_with fail
 refine dU hro (by omega) (gf:=123) (lb:=#[.pointer (some ⟨w.heap.size+1+1+1+1+1,0,none⟩),.pointer (some ⟨w.heap.size+1+1+1+1,0,none⟩)]) rfl PU (enters_of Tryz.func123 (by kernel_rfl) rfl)
  (iM F qz.out _ (w.heap.size+1+1+1+1+1) (w.heap.size+1+1+1+1) i C.ca (some ⟨C.ba,C.fa,none⟩) C.za (by omega) hi (jF F qz.out C.za (by omega) _ C.ca i)) (fun _=>rfl)
  (XR C w fF i j)
  (fun c W=>c = .ret∧iW C w fF (fun k l=>k≤i∨l≤j) i j W∧Boxed W (w.heap.size+1+1) 4 (.bool (Tm.fd C.rk C.za C.zb i j (Tm.room (C.za[i]?.getD 0))))) (fun _ _=>False) (.inl fun _ _ h=>h)
  (by
    rintro m X Y row ⟨no,sd,bR,bG,bT,bK⟩ hg hr;exact ⟨no,sd.own iH (by omega) hg hr,dm bR hg hr,dm bG hg hr,dm bT hg hr,dm bK hg hr⟩)
  (by
    rintro c X Y row ⟨e,sd,bR⟩ hg hr;exact ⟨e,sd.own iH (by omega) hg hr,dm bR hg hr⟩)
  (fun m W hI=>⟨hI.bK.cell,hI.bT.cell,by obtain ⟨gY,hS,_⟩:=hI.sd.sides HH.out;exact hS.ia⟩)
  HI0.out
  (fun m=>{ tmps:=#[.pointer (some ⟨C.S,0,none⟩),.agg #[.int .i64 (i:Int),.int .i64 (j:Int)],.pointer (some ⟨w.heap.size,0,none⟩),.pointer (some ⟨w.heap.size+1,0,none⟩),.pointer (some ⟨w.heap.size+1+1,0,none⟩),.pointer (some ⟨w.heap.size+1+1+1,0,none⟩),.int .i64 (Tm.pos C.za i m:Int),undef,
    .pointer (some ⟨w.heap.size+1,1,none⟩),.int .i64 (j:Int),.int .i64 ((j:Int)+1),
    .pointer (some ⟨C.S,0,none⟩),.pointer (some ⟨C.S,0,none⟩),.pointer (some ⟨C.S,1,none⟩),.slice (some ⟨C.ba,C.fa,none⟩) C.za.length C.ca,.pointer (some ⟨w.heap.size+1,0,none⟩),.int .i64 (i:Int),.func (.func 123) #[] #[.pointer (some ⟨w.heap.size+1+1+1+1+1,0,none⟩),.pointer (some ⟨w.heap.size+1+1+1+1,0,none⟩)],
    .int .i64 (Tm.pos C.za i m:Int),.int .i64 (Tm.pos C.za i (m+1):Int),undef,undef,undef,undef,undef,undef,undef,undef,undef,undef,undef,undef,undef,undef,undef,undef],defers:=[] }) ?assign ?body ?done ?stop ?panic
 case assign =>
  intro l m W K hK;simp only [ni];gi_wp2
  exact hK
 case body =>
  rintro l m W hI hm;obtain ⟨no,sd,bR,bG,bT,bK⟩:=hI;have hm':m < Tm.room (C.za[i]?.getD 0):=hm;have hp:=Rm.out m hm';have hp2:=ahD.out m hm';have hgt:=Tm.jr C.za i m;have hgt2:=Tm.jr C.zb j m;obtain ⟨gY,Rb,ht'⟩:=sd.sides HH.out;have hB1:Below W.heap.size W (W.alloc (.cells #[.int .i64 (Tm.pos C.za i m:Int),.int .i64 (Tm.pos C.zb j m:Int)] 129)):=(Below.refl _ W).alloc (Nat.le_refl _) _;have UX:=World.alloc_heap_new W (.cells #[.int .i64 (Tm.pos C.za i m:Int),.int .i64 (Tm.pos C.zb j m:Int)] 129);have S1:=Rb.below hB1;have LF:Boxed (W.alloc (.cells #[.int .i64 (Tm.pos C.za i m:Int),.int .i64 (Tm.pos C.zb j m:Int)] 129)) w.heap.size 123 (.pointer (some ⟨C.S,0,none⟩)):=(hB1.block _ sd.bS.lt).trans sd.bS;have e1:=jC UX;have e2:=kD UX;have e3:=LF.cell;have e4:=bG.cell;have hltW:W.heap.size < (W.alloc (.cells #[.int .i64 (Tm.pos C.za i m:Int),.int .i64 (Tm.pos C.zb j m:Int)] 129)).heap.size:=by simp
  have hCs:=hid (CallsIn.inRound l (jv (n:=0) (rZ C HO.out (Tm.pos C.za i m) (Tm.pos C.zb j m) hp hp2 (W.alloc (.cells #[.int .i64 (Tm.pos C.za i m:Int),.int .i64 (Tm.pos C.zb j m:Int)] 129)) gY S1)));unfold pk at hCs;have hkw:=sd.kp;have Jh:=hid (fun W2 (hB2:Below (W.alloc (.cells #[.int .i64 (Tm.pos C.za i m:Int),.int .i64 (Tm.pos C.zb j m:Int)] 129)).heap.size (W.alloc (.cells #[.int .i64 (Tm.pos C.za i m:Int),.int .i64 (Tm.pos C.zb j m:Int)] 129)) W2)=>CallsIn.inRound l (jv (n:=0) (HA.out (Tm.pos C.za i m) (Tm.pos C.zb j m) hgt hp hgt2 hp2 W2 gY (S1.below hB2))));have Vb:=hid S1;have Pg:=hid sd;have Hht:=hid ht';have Hno:=hid no;clear sd S1 Rb ht' no;have Dl:=fun (k:Nat) (o:Obj) (hk:W5.heap.size≤k) (ho:W.heap[k]? = some o)=>(show k < W.heap.size∧k≠C.M from ⟨(Array.getElem?_eq_some_iff.1 ho).1,by omega⟩)
  cases hq1:Tm.sm C.za C.zb (Tm.pos C.za i m) (Tm.pos C.zb j m) with
  | false =>
   rw [hq1] at hCs;have hfd:=Tm.Xh (rk:=C.rk) hm' Hno.out hq1;rw [← hfd] at Jh;generalize Tm.fd C.rk C.za C.zb i j (Tm.room (C.za[i]?.getD 0)) = q at *;clear hfd;gi_wp2_with (first
    | ((try refine ⟨hdd _,?_⟩);gi_at_call 130;refine hCs.out.mono ?_;clear hCs;rintro e W2 ⟨rfl,hB2⟩;have dN:Below W.heap.size W W2:=hB1.trans (hB2.mono hB1.size);have BH:Boxed W2 (w.heap.size+1+1) 4 (.bool false):=(dN.block _ bR.lt).trans bR;have cR:=BH.cell;have fR:=BH.frozen;have g1:=(hB2.cell (p:=⟨W.heap.size,0,none⟩) hltW).trans e1;have g2:=(hB2.cell (p:=⟨W.heap.size,1,none⟩) hltW).trans e2;have W9:Boxed W2 w.heap.size 123 (.pointer (some ⟨C.S,0,none⟩)):=(hB2.block _ LF.lt).trans LF;have g3:=W9.cell)
    | ((try refine ⟨hdd _,?_⟩);gi_at_call 89;refine (Jh.out W2 hB2).mono ?_;clear Jh;rintro e W4 ⟨rfl,hK4,yB,S4,UU⟩;have hne:∀ k,w.heap.size≤k→k≠C.M:=(fun k hk e=>by omega);have Ff:=dN.size;have Dg:Boxed W4 (w.heap.size+1+1) 4 (.bool false):=(hK4.block _ BH.lt (hne _ (by omega))).trans BH;have cR4:=Dg.cell;have fR4:=Dg.frozen))
   refine ⟨(⟨Nat.le_trans dN.size hK4.size,fun k o hk ho _=>((hK4.block k (Nat.lt_of_lt_of_le (Dl k o hk ho).1 Ff) (Dl k o hk ho).2).trans (dN.block k (Dl k o hk ho).1)).trans ho⟩:KeepsFrom W5.heap.size W W4).trans ((KeepsOthers.setCell _ _ _).from _),rfl,?_,Dg.set _⟩;exact mU (rD Pg.out dN hK4 iH S4.Lb (fun k l h=>(UU k l (by omega)).trans (Hht.out k l h))) iH (by omega) _
  | true =>
   rw [hq1] at hCs;clear Jh;gi_wp2_with (first
    | ((try refine ⟨hdd _,?_⟩);gi_at_call 130;refine hCs.out.mono ?_;clear hCs;rintro e W2 ⟨rfl,hB2⟩;have dN:Below W.heap.size W W2:=hB1.trans (hB2.mono hB1.size);have BH:Boxed W2 (w.heap.size+1+1) 4 (.bool false):=(dN.block _ bR.lt).trans bR;have cR:=BH.cell;have fR:=BH.frozen;have g1:=(hB2.cell (p:=⟨W.heap.size,0,none⟩) hltW).trans e1;have g2:=(hB2.cell (p:=⟨W.heap.size,1,none⟩) hltW).trans e2;have W9:Boxed W2 w.heap.size 123 (.pointer (some ⟨C.S,0,none⟩)):=(hB2.block _ LF.lt).trans LF;have g3:=W9.cell))
   have S2:=Vb.out.below hB2;have c5:=S2.c2;have bG2:Boxed W2 (w.heap.size+1+1+1) 3 (.int .i64 (Tm.pos C.zb j m:Int)):=(dN.block _ bG.lt).trans bG;have c4:=bG2.cell;have f4:=bG2.frozen;have mixed:Tryz.prog.follows .mixedOrders = true:=by kernel_rfl
   have hpo:=hid (Tm.ed C.zb j m);have hEn:=hid (yX F qz.out C.zb (by omega) (some ⟨C.bb,C.fb,none⟩) C.cb _ (Tm.pos C.zb j m) 0 (Nat.le_refl _) (by omega) W2.drew S2.ib);gi_region_with_o (first | ((try refine ⟨hdd _,?_⟩);gi_at_call 69;refine (CallsIn.inRound l hEn.out).mono ?_;rintro e W3' ⟨rfl,hB3⟩;have bG3:Boxed W3' (w.heap.size+1+1+1) 3 (.int .i64 (Tm.pos C.zb j m:Int)):=(hB3.block _ bG2.lt).trans bG2;have c6:=bG3.cell;have f6:=bG3.frozen))
   all_goals (
    gi_wp2
    have zq:Below W.heap.size W W3':=dN.trans ⟨hB3.os,hB3.tape,hB3.output,hB3.size,fun k hk=>hB3.block k (Nat.lt_of_lt_of_le hk dN.size)⟩;refine ⟨(⟨zq.size,fun k o hk ho _=>(zq.block k (Dl k o hk ho).1).trans ho⟩:KeepsFrom W5.heap.size W W3').trans ((KeepsOthers.setCell _ _ _).from _),?_⟩;refine ⟨by rw [Tm.yK,Hno.out,hq1];rfl,mU (Lf Pg.out zq iH) iH (by omega) _,Boxed.other ((zq.block _ bR.lt).trans bR) (by omega) _,by rw [hpo.out];exact bG3.set _,Boxed.other ((zq.block _ bT.lt).trans bT) (by omega) _,Boxed.other ((zq.block _ bK.lt).trans bK) (by omega) _⟩)
 case done =>
  rintro D W hD ⟨no,sd,bR,bG,bT,bK⟩ qA;have c1:=bR.cell;have c2:=bR.frozen;rw [hs5] at hD;have no':Tm.fd C.rk C.za C.zb i j (Tm.room (C.za[i]?.getD 0)) = false:=Tm.Oy no;gi_wp2
  have BH:=bR.set (.bool false);have qB:(W.setCell ⟨w.heap.size+1+1,0,none⟩ (.bool false)).heap[D]? = some (.deferred (some [])):=(Below.heap_setCell W ⟨w.heap.size+1+1,0,none⟩ _ D (show D≠w.heap.size+1+1 by omega)).trans qA;refine ⟨by simp,.inl ⟨_,_,rfl,run_takeDeferred qB,?_⟩⟩;refine ⟨_,fM rfl rfl ((World.cell?_of_block (a:=⟨w.heap.size+1+1,0,none⟩) (World.putObj_heap_other (show w.heap.size+1+1≠D by omega))).trans BH.cell),?_⟩;rw [no'];exact pU HH.out iH (mU sd iH (by omega) _) (by omega)
 case stop =>
  rintro D c W hD ⟨rfl,sd,bR⟩ qA;have c1:=bR.cell;rw [hs5] at hD;gi_wp2
  refine ⟨by simp,.inl ⟨_,_,rfl,run_takeDeferred qA,?_⟩⟩;refine ⟨_,fM rfl rfl ((World.cell?_of_block (a:=⟨w.heap.size+1+1,0,none⟩) (World.putObj_heap_other (show w.heap.size+1+1≠D by omega))).trans c1),?_⟩;exact pU HH.out iH sd (by omega)
 case panic=>exact fun _ _ _ _ h=>h.elim
end
end Go.Proofs.YtglohanbpjaieaaGreat
