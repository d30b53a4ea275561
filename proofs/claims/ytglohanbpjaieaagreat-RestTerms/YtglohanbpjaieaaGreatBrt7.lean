/-
  Parts of the proof: Ord5, Ord6, Ord7.
-/
import Derived.Deep.DrawnRows
import Derived.Test.YtglohanbpjaieaaGreatBrt6
import Derived.Shelf.RegionOpen
namespace Go.Proofs.YtglohanbpjaieaaGreat
open Go.Proofs Go.RowKit Go.Shelf Go.Maps
attribute [local go_sem ↓] Go.wp_at_zero Go.wp_at_succ
theorem lookZero (w:World):(zeroValue 152).run Tryz.prog w = .ok (.agg #[.bool false]) w:=by kernel_rfl
theorem keep_setB {n m B:Nat} {w X:World} (h:Keep n m w X) (hB:n≤B) (v:Value):Keep n m w (X.setCell ⟨B,0,none⟩ v) :=
 ⟨h.os,h.tape,h.output,Nat.le_trans h.size (KeepsWalks.setCell X _ v).size,fun k hk hm=>(Below.heap_setCell X ⟨B,0,none⟩ v k (by show k≠B;omega)).trans (h.block k hk hm)⟩
theorem KMap.upd {K:TypeId} (law:Keyed Tryz.prog K) {w:World} {b n:Nat} {M:Value→Option Value} (h:KMap K w b n M) {t e:TypeId} (ht:Tryz.prog.underlying t = some (.map K e)) (hn:n < maxLen) {key:Value} {l:Lit} (hkey:keyOf Tryz.prog K key = some l) (v:Value) (updW:TypeId→Value→Value→Value→World→World) (hU:∀ t m k v w,updW t m k v w = match (Instr.mapUpdate t m k v).run Tryz.prog w with | .ok _ w'=>w' | _=>w) :
 (Instr.mapUpdate t (.map (some b)) key v).run Tryz.prog w = .ok () (updW t (.map (some b)) key v w)∧∃ M',KMap K (updW t (.map (some b)) key v w) b (n+1) M'∧M' key = some v∧(∀ x,x≠key→M' x = M x)∧w.grownBy (updW t (.map (some b)) key v w) (some b):=by
 obtain ⟨w',M',hrun,r⟩:=h.set law ht hn hkey v
 have e:updW t (.map (some b)) key v w = w':=by rw [hU,hrun]
 rw [e]
 exact ⟨hrun,M',r⟩
theorem grown_drew1 {w w1:World} {row:Option Nat} (h:w.drew.grownBy w1 row):w.grownBy w1 row:=⟨h.os,h.tape,h.output,h.size,h.block⟩
theorem below_drew1 {n:Nat} {a b:World} (h:Below n a b):Below n a b.drew:=⟨h.os,h.tape,h.output,h.size,h.block⟩
theorem above_fin (C:Sd) (i j:Nat) (hi:i < 30) (hj:j < 30) (w w1:World) (tbl:Value→Option Value) (H:Sides C w tbl) (hq:tbl (pk i j) = none) (w3:World) (tbl3:Value→Option Value) (h1:w.heap.size≤w1.heap.size) (hK:Keep w.heap.size C.M w w3) (H3:Sides C w3 tbl3) (ht:∀ k l,k < i∨l < j∨(k = i∧l = j)→tbl3 (pk k l) = tbl (pk k l)) (v:Value) :
 ∃ n,KMap 129 (w3.setCell ⟨w1.heap.size,0,none⟩ v) C.M n tbl3∧n < maxLen∧n+1 < maxLen∧∀ (w4:World) (tbl4:Value→Option Value),KMap 129 w4 C.M (n+1) tbl4→tbl4 (pk i j) = some (.agg #[.bool (Tm.ab C.rk C.za C.zb i j)])→(∀ x,x≠pk i j→tbl4 x = tbl3 x)→(w3.setCell ⟨w1.heap.size,0,none⟩ v).grownBy w4 (some C.M) →
  Keep w.heap.size C.M w w4∧∃ tbl',Sides C w4 tbl'∧∀ k l,k < i∨l < j→tbl' (pk k l) = tbl (pk k l):=by
 obtain ⟨n,hKM,htb,hn⟩:=H3.fnd
 have hM:=H.ltM
 refine ⟨n,hKM.keep (Below.heap_setCell w3 ⟨w1.heap.size,0,none⟩ v C.M (by show C.M≠w1.heap.size;omega)),by have:=Found.small hn;unfold maxLen;omega,by have:=Found.small hn;unfold maxLen;omega,fun w4 tbl4 hK4 h4 ho hg=>?_⟩
 have hk5:Keep w.heap.size C.M w w4:=(keep_setB hK h1 v).trans (Keep.of_grown hg (by have:=hK.size;have:=(KeepsWalks.setCell w3 ⟨w1.heap.size,0,none⟩ v).size;omega))
 refine ⟨hk5,tbl4,H.keep hk5 (Found.note hi hj htb hn ((ht i j (.inr (.inr ⟨rfl,rfl⟩))).trans hq) hK4 h4 ho),fun k l hkl=>?_⟩
 rw [ho _ (fun e=>by obtain ⟨rfl,rfl⟩:=pk_inj e;omega)]
 exact ht k l (by omega)
set_option maxRecDepth 100000 in
set_option maxHeartbeats 2000000 in
theorem above_step (C:Sd) (O:SdOk C) (i j:Nat) (hi:i < C.za.length) (hj:j < C.zb.length)
 (hP:AboveAt C 116 i j (Tm.bp C.rk C.za C.zb i j (Tm.room (C.za[i]?.getD 0))) fun k l=>k≤i∨l < j)
 (hY:AboveAt C 117 i j (Tm.sy C.rk C.za C.zb i j) fun k l=>k < i∨l≤j) :
 AboveAt C 89 i j (Tm.ab C.rk C.za C.zb i j) fun k l=>k < i∨l < j:=by
 obtain ⟨updW,hU⟩:∃ f:TypeId→Value→Value→Value→World→World,∀ t m k v w,f t m k v w = match (Instr.mapUpdate t m k v).run Tryz.prog w with | .ok _ w'=>w' | _=>w:=⟨fun t m k v w=>match (Instr.mapUpdate t m k v).run Tryz.prog w with | .ok _ w'=>w' | _=>w,fun _ _ _ _ _=>rfl⟩
 have HU:=hid hU
 clear hU
 intro w tbl H
 have hB0:Below w.heap.size w (w.alloc (.cells #[.int .i64 (i:Int),.int .i64 (j:Int)] 129)):=(Below.refl _ w).alloc (Nat.le_refl _) _
 have H1:=H.below hB0
 obtain ⟨w1,hw1⟩:∃ w1,w.alloc (.cells #[.int .i64 (i:Int),.int .i64 (j:Int)] 129) = w1:=⟨_,rfl⟩
 have hblk:w1.heap[w.heap.size]? = some (.cells #[.int .i64 (i:Int),.int .i64 (j:Int)] 129 (0,0)):=by rw [← hw1];exact World.alloc_heap_new w _
 have HW:=hid hw1
 rw [hw1] at hB0 H1
 clear hw1
 have d0:w1.cell? ⟨w.heap.size,0,none⟩ = some (.int .i64 (i:Int)):=by simp [World.cell?,hblk]
 have d1:w1.cell? ⟨w.heap.size,1,none⟩ = some (.int .i64 (j:Int)):=by simp [World.cell?,hblk]
 have hlt:w.heap.size < w1.heap.size:=(Array.getElem?_eq_some_iff.1 hblk).1
 have c3:=H1.c3
 have la:=Tm.err_len O.ea
 have lb:=Tm.err_len O.eb
 obtain ⟨l,hl⟩:=pk_key (i:=i) (j:=j) (by omega) (by omega)
 obtain ⟨n,hK,htb,hn⟩:=H1.fnd
 have HK:=hid hK
 cases hq:tbl (pk i j) with
 | some v =>
  have hv:=htb i j v hq
  subst hv
  have hS:=hid (fun w' (hB:Below w1.heap.size w1 w')=>(show w'.cell? ⟨C.S,3,none⟩ = some (.map (some C.M))∧w'.cell? ⟨w.heap.size,0,none⟩ = some (.int .i64 (i:Int))∧w'.cell? ⟨w.heap.size,1,none⟩ = some (.int .i64 (j:Int))∧(Instr.lookup 124 (.map (some C.M)) (.agg #[.int .i64 (i:Int),.int .i64 (j:Int)]) true).run Tryz.prog w' = .ok (.tuple #[.agg #[.bool (Tm.ab C.rk C.za C.zb i j)],.bool true]) w' from
   ⟨(hB.cell H1.lt).trans c3,(hB.cell hlt).trans d0,(hB.cell hlt).trans d1,by
     have:=(HK.out.keep (hB.block _ HK.out.lt)).look lawPlaces Tryz.underlying124 (lookZero w') hl
     rw [hq] at this
     exact this⟩))
  have HB0:=hid hB0
  have HH1:=hid H1
  generalize Tm.ab C.rk C.za C.zb i j = q at *
  clear hP hY hK htb hn c3 d0 d1 hblk hB0 H1 H HK
  go_enter Tryz.func89,Tryz.ntmps89
  go_wp2_with fail
  rw [HW.out]
  have hS0:=hS.out _ (Below.refl _ w1)
  go_region_held3 (fun w'=>w'.cell? ⟨C.S,3,none⟩ = some (.map (some C.M))∧w'.cell? ⟨w.heap.size,0,none⟩ = some (.int .i64 (i:Int))∧w'.cell? ⟨w.heap.size,1,none⟩ = some (.int .i64 (j:Int))∧(Instr.lookup 124 (.map (some C.M)) (.agg #[.int .i64 (i:Int),.int .i64 (j:Int)]) true).run Tryz.prog w' = .ok (.tuple #[.agg #[.bool q],.bool true]) w') (first | assumption | exact hS.out _ (Below.refl _ w1) | exact hS.out _ (below_drewN (Below.refl _ w1) _) | exact hS.out _ ((below_drewN (Below.refl _ w1) _).alloc (Nat.le_refl _) _)) (first | fail)
  all_goals (
   have hB2:Below w1.heap.size w1 (w1.alloc (.cells #[.bool q] 152)).drew:=below_drew1 ((Below.refl _ w1).alloc (Nat.le_refl _) _)
   clear hS hS0
   go_wp2
   go_ret
   exact ⟨rfl,Keep.of_below (HB0.out.trans (hB2.mono HB0.out.size)),tbl,HH1.out.below hB2,fun _ _ _=>rfl⟩)
 | none =>
  have hS:=hid (fun w' (hB:Below w1.heap.size w1 w')=>(show w'.cell? ⟨C.S,3,none⟩ = some (.map (some C.M))∧w'.cell? ⟨w.heap.size,0,none⟩ = some (.int .i64 (i:Int))∧w'.cell? ⟨w.heap.size,1,none⟩ = some (.int .i64 (j:Int))∧(Instr.lookup 124 (.map (some C.M)) (.agg #[.int .i64 (i:Int),.int .i64 (j:Int)]) true).run Tryz.prog w' = .ok (.tuple #[.agg #[.bool false],.bool false]) w' from
   ⟨(hB.cell H1.lt).trans c3,(hB.cell hlt).trans d0,(hB.cell hlt).trans d1,by
     have:=(HK.out.keep (hB.block _ HK.out.lt)).look lawPlaces Tryz.underlying124 (lookZero w') hl
     rw [hq] at this
     exact this⟩))
  have hab:=hid (Tm.ab_eq (rk:=C.rk) O.ea O.eb hi hj)
  have HB0:=hid hB0
  have HH1:=hid H1
  have HH:=hid H
  have hB2:Below w1.heap.size w1 (w1.alloc (.cells #[.bool false] 152)).drew:=below_drew1 ((Below.refl _ w1).alloc (Nat.le_refl _) _)
  have b2:Boxed (w1.alloc (.cells #[.bool false] 152)).drew w1.heap.size 152 (.bool false):=Boxed.new w1 152 (.bool false)
  obtain ⟨w2,hw2⟩:∃ w2,(w1.alloc (.cells #[.bool false] 152)).drew = w2:=⟨_,rfl⟩
  have HW2:=hid hw2
  rw [hw2] at hB2 b2
  clear hw2
  have H2:=H1.below hB2
  have e0:=(hB2.cell (p:=⟨w.heap.size,0,none⟩) hlt).trans d0
  have e1:=(hB2.cell (p:=⟨w.heap.size,1,none⟩) hlt).trans d1
  have hlt2:w.heap.size < w2.heap.size:=Nat.lt_of_lt_of_le hlt hB2.size
  have hltM:=H.ltM
  have hltS:=H.lt
  have hneS:=H.neM
  have hkw2:Keep w.heap.size C.M w w2:=Keep.of_below (hB0.trans (hB2.mono hB0.size))
  have hneW:w.heap.size≠C.M:=by omega
  have hneB:w1.heap.size≠C.M:=by omega
  have hCP:=hid (hP w2 tbl H2)
  have hCY:=hid hY
  have Hq0:=hid hq
  have Hl:=hid hl
  generalize hbp:Tm.bp C.rk C.za C.zb i j (Tm.room (C.za[i]?.getD 0)) = bp at *
  generalize hsy:Tm.sy C.rk C.za C.zb i j = sy at *
  have fin:=hid (above_fin C i j (by omega) (by omega) w w1 tbl HH.out hq)
  clear hP hY hK htb hn c3 d0 d1 hblk hB0 H1 H HK H2 hq hl hbp hsy
  cases bp with
  | true =>
   have hq1:Tm.ab C.rk C.za C.zb i j = true:=hab.out
   rw [hq1] at fin ⊢
   clear hab hq1 hCY
   go_enter Tryz.func89,Tryz.ntmps89
   go_wp2_with fail
   rw [HW.out]
   have hS0:=hS.out _ (Below.refl _ w1)
   go_region_held3 (fun w'=>w'.cell? ⟨C.S,3,none⟩ = some (.map (some C.M))∧w'.cell? ⟨w.heap.size,0,none⟩ = some (.int .i64 (i:Int))∧w'.cell? ⟨w.heap.size,1,none⟩ = some (.int .i64 (j:Int))∧(Instr.lookup 124 (.map (some C.M)) (.agg #[.int .i64 (i:Int),.int .i64 (j:Int)]) true).run Tryz.prog w' = .ok (.tuple #[.agg #[.bool false],.bool false]) w') (first | assumption | exact hS.out _ (Below.refl _ w1) | exact hS.out _ (below_drewN (Below.refl _ w1) _) | exact hS.out _ ((below_drewN (Below.refl _ w1) _).alloc (Nat.le_refl _) _)) (first | fail)
   all_goals (
    rw [HW2.out]
    clear hS hS0
    go_wp2_with (first
     | (go_at_call 116;refine hCP.out.mono ?_;clear hCP;rintro e w3 ⟨rfl,hK3,tbl3,H3,ht3⟩;have f0:=(hK3.cell (p:=⟨w.heap.size,0,none⟩) hlt2 hneW).trans e0;have f1:=(hK3.cell (p:=⟨w.heap.size,1,none⟩) hlt2 hneW).trans e1;have b3:Boxed w3 w1.heap.size 152 (.bool false):=(hK3.block _ b2.lt hneB).trans b2;have g0:=b3.cell;have g1:=b3.frozen;have c3:=H3.c3))
    have hKw3:Keep w.heap.size C.M w w3:=hkw2.trans (hK3.mono hkw2.size)
    obtain ⟨n,hKM,hnm,hnm2,hfin⟩:=fin.out w3 tbl3 (Nat.le_of_lt hlt) hKw3 H3 (fun k l h=>ht3 k l (by omega)) (.bool true)
    have b5:=b3.set (.bool true)
    have m0:=(World.cell?_of_block (a:=⟨w.heap.size,0,none⟩) (Below.heap_setCell w3 ⟨w1.heap.size,0,none⟩ (.bool true) w.heap.size (by show w.heap.size≠w1.heap.size;omega))).trans f0
    have m1:=(World.cell?_of_block (a:=⟨w.heap.size,1,none⟩) (Below.heap_setCell w3 ⟨w1.heap.size,0,none⟩ (.bool true) w.heap.size (by show w.heap.size≠w1.heap.size;omega))).trans f1
    have m3:=(World.cell?_of_block (a:=⟨C.S,3,none⟩) (Below.heap_setCell w3 ⟨w1.heap.size,0,none⟩ (.bool true) C.S (by show C.S≠w1.heap.size;omega))).trans c3
    have hlt5:w1.heap.size < (w3.setCell ⟨w1.heap.size,0,none⟩ (.bool true)).heap.size:=b5.lt
    generalize w3.setCell ⟨w1.heap.size,0,none⟩ (.bool true) = w5 at *
    have m4:=b5.cell
    clear f0 f1 c3 g0 g1 e0 e1
    have Hfin:=hid hfin
    clear hfin
    have hr5:=(hKM.upd lawPlaces Tryz.underlying124 hnm Hl.out (.agg #[.bool true]) updW HU.out).1
    obtain ⟨hrd,tbl6,hK6,h6,ho6,hgd⟩:=KMap.upd lawPlaces (w:=w5.drew) (hKM.keep rfl) Tryz.underlying124 hnm Hl.out (.agg #[.bool true]) updW HU.out
    have hr6:=(hK6.upd lawPlaces Tryz.underlying124 hnm2 Hl.out (.agg #[.bool true]) updW HU.out).1
    have hg6:=grown_drew1 hgd
    have n0:=(World.cell?_of_block (a:=⟨w.heap.size,0,none⟩) (hg6.block w.heap.size (by omega) (by simpa using hneW))).trans m0
    have n1:=(World.cell?_of_block (a:=⟨w.heap.size,1,none⟩) (hg6.block w.heap.size (by omega) (by simpa using hneW))).trans m1
    have n3:=(World.cell?_of_block (a:=⟨C.S,3,none⟩) (hg6.block C.S (by omega) (by simpa using hneS))).trans m3
    have n4:=(World.cell?_of_block (a:=⟨w1.heap.size,0,none⟩) (hg6.block w1.heap.size (by omega) (by simpa using hneB))).trans m4
    go_region_held3 (fun w'=>w'.cell? ⟨C.S,3,none⟩ = some (.map (some C.M))∧w'.cell? ⟨w.heap.size,0,none⟩ = some (.int .i64 (i:Int))∧w'.cell? ⟨w.heap.size,1,none⟩ = some (.int .i64 (j:Int))∧w'.cell? ⟨w1.heap.size,0,none⟩ = some (.bool true)∧(Instr.mapUpdate 124 (.map (some C.M)) (.agg #[.int .i64 (i:Int),.int .i64 (j:Int)]) (.agg #[.bool true])).run Tryz.prog w' = .ok () (updW 124 (.map (some C.M)) (pk i j) (.agg #[.bool true]) w')) (first | assumption | exact ⟨m3,m0,m1,m4,hr5⟩ | exact ⟨m3,m0,m1,m4,hrd⟩ | exact ⟨n3,n0,n1,n4,hr6⟩) (first | fail)
    all_goals (
     go_wp2
     go_ret
     exact ⟨rfl,Hfin.out _ tbl6 hK6 h6 ho6 hg6⟩))
  | false =>
   have hq1:Tm.ab C.rk C.za C.zb i j = sy:=by rw [hab.out];rfl
   rw [hq1] at fin ⊢
   clear hab hq1
   go_enter Tryz.func89,Tryz.ntmps89
   go_wp2_with fail
   rw [HW.out]
   have hS0:=hS.out _ (Below.refl _ w1)
   go_region_held3 (fun w'=>w'.cell? ⟨C.S,3,none⟩ = some (.map (some C.M))∧w'.cell? ⟨w.heap.size,0,none⟩ = some (.int .i64 (i:Int))∧w'.cell? ⟨w.heap.size,1,none⟩ = some (.int .i64 (j:Int))∧(Instr.lookup 124 (.map (some C.M)) (.agg #[.int .i64 (i:Int),.int .i64 (j:Int)]) true).run Tryz.prog w' = .ok (.tuple #[.agg #[.bool false],.bool false]) w') (first | assumption | exact hS.out _ (Below.refl _ w1) | exact hS.out _ (below_drewN (Below.refl _ w1) _) | exact hS.out _ ((below_drewN (Below.refl _ w1) _).alloc (Nat.le_refl _) _)) (first | fail)
   all_goals (
    rw [HW2.out]
    clear hS hS0
    go_wp2_with (first
     | (go_at_call 116;refine hCP.out.mono ?_;clear hCP;rintro e w3 ⟨rfl,hK3,tbl3,H3,ht3⟩;have f0:=(hK3.cell (p:=⟨w.heap.size,0,none⟩) hlt2 hneW).trans e0;have f1:=(hK3.cell (p:=⟨w.heap.size,1,none⟩) hlt2 hneW).trans e1;have b3:Boxed w3 w1.heap.size 152 (.bool false):=(hK3.block _ b2.lt hneB).trans b2;have hKw3:Keep w.heap.size C.M w w3:=hkw2.trans (hK3.mono hkw2.size);have hlt3:=Nat.lt_of_lt_of_le hlt2 hK3.size;have hC3:=hid (hCY.out w3 tbl3 H3);clear hCY e0 e1)
     | (go_at_call 117;refine hC3.out.mono ?_;clear hC3;rintro e w4 ⟨rfl,hK4,tbl4,H4,ht4⟩;have f0':=(hK4.cell (p:=⟨w.heap.size,0,none⟩) hlt3 hneW).trans f0;have f1':=(hK4.cell (p:=⟨w.heap.size,1,none⟩) hlt3 hneW).trans f1;clear f0 f1;have b4:Boxed w4 w1.heap.size 152 (.bool false):=(hK4.block _ b3.lt hneB).trans b3;have g0:=b4.cell;have g1:=b4.frozen;have c3:=H4.c3))
    have hKw4:Keep w.heap.size C.M w w4:=hKw3.trans (hK4.mono hKw3.size)
    obtain ⟨n,hKM,hnm,hnm2,hfin⟩:=fin.out w4 tbl4 (Nat.le_of_lt hlt) hKw4 H4 (fun k l h=>(ht4 k l (by omega)).trans (ht3 k l (by omega))) (.bool sy)
    have b5:=b4.set (.bool sy)
    have m0:=(World.cell?_of_block (a:=⟨w.heap.size,0,none⟩) (Below.heap_setCell w4 ⟨w1.heap.size,0,none⟩ (.bool sy) w.heap.size (by show w.heap.size≠w1.heap.size;omega))).trans f0'
    have m1:=(World.cell?_of_block (a:=⟨w.heap.size,1,none⟩) (Below.heap_setCell w4 ⟨w1.heap.size,0,none⟩ (.bool sy) w.heap.size (by show w.heap.size≠w1.heap.size;omega))).trans f1'
    have m3:=(World.cell?_of_block (a:=⟨C.S,3,none⟩) (Below.heap_setCell w4 ⟨w1.heap.size,0,none⟩ (.bool sy) C.S (by show C.S≠w1.heap.size;omega))).trans c3
    have hlt5:w1.heap.size < (w4.setCell ⟨w1.heap.size,0,none⟩ (.bool sy)).heap.size:=b5.lt
    generalize w4.setCell ⟨w1.heap.size,0,none⟩ (.bool sy) = w5 at *
    have m4:=b5.cell
    clear f0' f1' c3 g0 g1
    have Hfin:=hid hfin
    clear hfin
    have hr5:=(hKM.upd lawPlaces Tryz.underlying124 hnm Hl.out (.agg #[.bool sy]) updW HU.out).1
    obtain ⟨hrd,tbl6,hK6,h6,ho6,hgd⟩:=KMap.upd lawPlaces (w:=w5.drew) (hKM.keep rfl) Tryz.underlying124 hnm Hl.out (.agg #[.bool sy]) updW HU.out
    have hr6:=(hK6.upd lawPlaces Tryz.underlying124 hnm2 Hl.out (.agg #[.bool sy]) updW HU.out).1
    have hg6:=grown_drew1 hgd
    have n0:=(World.cell?_of_block (a:=⟨w.heap.size,0,none⟩) (hg6.block w.heap.size (by omega) (by simpa using hneW))).trans m0
    have n1:=(World.cell?_of_block (a:=⟨w.heap.size,1,none⟩) (hg6.block w.heap.size (by omega) (by simpa using hneW))).trans m1
    have n3:=(World.cell?_of_block (a:=⟨C.S,3,none⟩) (hg6.block C.S (by omega) (by simpa using hneS))).trans m3
    have n4:=(World.cell?_of_block (a:=⟨w1.heap.size,0,none⟩) (hg6.block w1.heap.size (by omega) (by simpa using hneB))).trans m4
    go_region_held3 (fun w'=>w'.cell? ⟨C.S,3,none⟩ = some (.map (some C.M))∧w'.cell? ⟨w.heap.size,0,none⟩ = some (.int .i64 (i:Int))∧w'.cell? ⟨w.heap.size,1,none⟩ = some (.int .i64 (j:Int))∧w'.cell? ⟨w1.heap.size,0,none⟩ = some (.bool sy)∧(Instr.mapUpdate 124 (.map (some C.M)) (.agg #[.int .i64 (i:Int),.int .i64 (j:Int)]) (.agg #[.bool sy])).run Tryz.prog w' = .ok () (updW 124 (.map (some C.M)) (pk i j) (.agg #[.bool sy]) w')) (first | assumption | exact ⟨m3,m0,m1,m4,hr5⟩ | exact ⟨m3,m0,m1,m4,hrd⟩ | exact ⟨n3,n0,n1,n4,hr6⟩) (first | fail)
    all_goals (
     go_wp2
     go_ret
     exact ⟨rfl,Hfin.out _ tbl6 hK6 h6 ho6 hg6⟩))
end Go.Proofs.YtglohanbpjaieaaGreat
namespace Go.Proofs.YtglohanbpjaieaaGreat
open Go.Proofs Go.RowKit Go.Shelf Go.Maps
attribute [local go_sem] Oper.semAt_some
attribute [local go_sem ↓] Go.wp_at_zero Go.wp_at_succ
theorem results_boxO {fn:Func} {tmps:Array Value} {w:World} {a B:Nat} {v:Bool} (h:fn.results = #[.cell a 4]) (ht:tmps.getD a undef = .pointer (some ⟨B,0,none⟩)) (hc:w.cell? ⟨B,0,none⟩ = some (.bool v)):(results fn tmps).run Tryz.prog w = .ok (.bool v) w:=by
 have ht':tmps[a]?.getD undef = .pointer (some ⟨B,0,none⟩):=by rw [← ht];simp
 simp only [results,h]
 simp [go_sem,ht',hc]
theorem cells_own {X Y:World} {row:Option Nat} {B C:Nat} {cs:Array Value} {t:TypeId} {p:Nat × Nat} (h:X.heap[C]? = some (.cells cs t p)) (hg:X.grownBy Y row) (hr:∀ r,row = some r→B≤r∧∃ o:Obj,X.heap[r]? = some o∧o.isCells = false):Y.heap[C]? = some (.cells cs t p) :=
 (hg.block C (Array.getElem?_eq_some_iff.1 h).1 (fun e=>by
   obtain ⟨_,o,ho,hc⟩:=hr C e.symm
   rw [h] at ho
   cases ho
   simp [Obj.isCells] at hc)).trans h
theorem keep_ownO {n m B:Nat} {w X Y:World} {row:Option Nat} (hn:n≤w.heap.size) (hB:n≤B) (h:Keep n m w X) (hg:X.grownBy Y row) (hr:∀ r,row = some r→B≤r∧∃ o:Obj,X.heap[r]? = some o∧o.isCells = false):Keep n m w Y :=
 ⟨hg.os.trans h.os,hg.tape.trans h.tape,hg.output.trans h.output,Nat.le_trans h.size hg.size,fun k hk hm=>(hg.block k (by have:=h.size;omega) (fun e=>by have:=(hr k e.symm).1;omega)).trans (h.block k hk hm)⟩
structure SdInv (C:Sd) (w:World) (tbl:Value→Option Value) (dom:Nat→Nat→Prop) (i j:Nat) (W:World):Prop where
 fnd:∃ tbl',Found C W tbl'∧∀ k l,dom k l→tbl' (pk k l) = tbl (pk k l)
 bS:Boxed W w.heap.size 123 (.pointer (some ⟨C.S,0,none⟩))
 bA:W.heap[w.heap.size+1]? = some (.cells #[.int .i64 (i:Int),.int .i64 (j:Int)] 129 (0,0))
 kp:Keep w.heap.size C.M w W
theorem SdInv.own {C:Sd} {w X Y:World} {row:Option Nat} {tbl:Value→Option Value} {dom:Nat→Nat→Prop} {i j B:Nat} (hM:C.M < w.heap.size) (hB:w.heap.size≤B) (h:SdInv C w tbl dom i j X) (hg:X.grownBy Y row) (hr:∀ r,row = some r→B≤r∧∃ o:Obj,X.heap[r]? = some o∧o.isCells = false):SdInv C w tbl dom i j Y:=by
 obtain ⟨⟨tbl',hf,ht⟩,bS,bA,kp⟩:=h
 exact ⟨⟨tbl',hf.keep (hg.block _ (by have:=kp.size;omega) (fun e=>by have:=(hr _ e.symm).1;omega)),ht⟩,cells_own bS hg hr,cells_own bA hg hr,keep_ownO (Nat.le_refl _) hB kp hg hr⟩
theorem SdInv.sides {C:Sd} {w W:World} {tbl0 tbl:Value→Option Value} {dom:Nat→Nat→Prop} {i j:Nat} (H:Sides C w tbl0) (h:SdInv C w tbl dom i j W):∃ tbl',Sides C W tbl'∧∀ k l,dom k l→tbl' (pk k l) = tbl (pk k l):=by
 obtain ⟨⟨tbl',hf,ht⟩,bS,bA,kp⟩:=h
 exact ⟨tbl',H.keep kp hf,ht⟩
theorem pair_cell0 {W:World} {B i j:Nat} (h:W.heap[B]? = some (.cells #[.int .i64 (i:Int),.int .i64 (j:Int)] 129 (0,0))):W.cell? ⟨B,0,none⟩ = some (.int .i64 (i:Int)):=by simp [World.cell?,h]
theorem pair_cell1 {W:World} {B i j:Nat} (h:W.heap[B]? = some (.cells #[.int .i64 (i:Int),.int .i64 (j:Int)] 129 (0,0))):W.cell? ⟨B,1,none⟩ = some (.int .i64 (j:Int)):=by simp [World.cell?,h]
theorem bp_mono {rk za zb:List Int} {i j m n:Nat} (h:m < n) (hm:Tm.bp rk za zb i j (m+1) = true):Tm.bp rk za zb i j n = true:=by
 simp only [Tm.bp,List.any_eq_true,List.mem_range] at *
 obtain ⟨x,hx,r⟩:=hm
 exact ⟨x,by omega,r⟩
theorem sd_set {C:Sd} {w W:World} {tbl:Value→Option Value} {dom:Nat→Nat→Prop} {i j B:Nat} (h:SdInv C w tbl dom i j W) (hM:C.M < w.heap.size) (hB:w.heap.size+1 < B) (v:Value):SdInv C w tbl dom i j (W.setCell ⟨B,0,none⟩ v):=by
 obtain ⟨⟨tbl',hf,ht⟩,bS,bA,kp⟩:=h
 have hh:∀ k,k≠B→(W.setCell ⟨B,0,none⟩ v).heap[k]? = W.heap[k]?:=fun k hk=>Below.heap_setCell W ⟨B,0,none⟩ v k (by show k≠B;exact hk)
 exact ⟨⟨tbl',hf.keep (hh _ (by omega)),ht⟩,(hh _ (by omega)).trans bS,(hh _ (by omega)).trans bA,keep_setB kp (by omega) v⟩
theorem sd_next {C:Sd} {w W W2 W4:World} {tbl tbl4:Value→Option Value} {dom:Nat→Nat→Prop} {i j:Nat} (h:SdInv C w tbl dom i j W) (hB:Below W.heap.size W W2) (hK:Keep W2.heap.size C.M W2 W4) (hM:C.M < w.heap.size) (hf:Found C W4 tbl4) (ht:∀ k l,dom k l→tbl4 (pk k l) = tbl (pk k l)):SdInv C w tbl dom i j W4:=by
 obtain ⟨_,bS,bA,kp⟩:=h
 have hS:=(Array.getElem?_eq_some_iff.1 bS).1
 have hA:=(Array.getElem?_eq_some_iff.1 bA).1
 have k2:Keep w.heap.size C.M w W2:=kp.trans (Keep.of_below (hB.mono kp.size))
 exact ⟨⟨tbl4,hf,ht⟩,(hK.block _ (Nat.lt_of_lt_of_le hS hB.size) (by omega)).trans ((hB.block _ hS).trans bS),(hK.block _ (Nat.lt_of_lt_of_le hA hB.size) (by omega)).trans ((hB.block _ hA).trans bA),k2.trans (hK.mono k2.size)⟩
theorem sd_done {C:Sd} {w W:World} {tbl0 tbl:Value→Option Value} {dom:Nat→Nat→Prop} {i j D:Nat} {q:Bool} {o:Obj} (H:Sides C w tbl0) (hM:C.M < w.heap.size) (h:SdInv C w tbl dom i j W) (hD:w.heap.size≤D):AboveAns C q dom tbl w (.returned (.bool q)) (W.putObj D o):=by
 obtain ⟨⟨tbl',hf,ht⟩,bS,bA,kp⟩:=h
 have hh:∀ k,k < w.heap.size→(W.putObj D o).heap[k]? = W.heap[k]?:=fun k hk=>World.putObj_heap_other (by omega)
 have kp':Keep w.heap.size C.M w (W.putObj D o):=⟨kp.os,kp.tape,kp.output,by have:=kp.size;simp;omega,fun k hk hm=>(hh k hk).trans (kp.block k hk hm)⟩
 exact ⟨rfl,kp',tbl',H.keep kp' (hf.keep (hh _ hM)),ht⟩
structure BPInv (C:Sd) (w:World) (tbl:Value→Option Value) (i j m:Nat) (W:World):Prop where
 no:Tm.bp C.rk C.za C.zb i j m = false
 sd:SdInv C w tbl (fun k l=>k≤i∨l < j) i j W
 bR:Boxed W (w.heap.size+1+1) 4 (.bool false)
 bT:Boxed W (w.heap.size+1+1+1) 35 (.slice (some ⟨C.ba,C.fa,none⟩) C.za.length C.ca)
 bK:Boxed W (w.heap.size+1+1+1+1) 3 (.int .i64 (i:Int))
set_option maxRecDepth 100000 in
set_option maxHeartbeats 2000000 in
theorem byPart_step (C:Sd) (O:SdOk C) (i j:Nat) (hi:i < C.za.length) (hj:j < C.zb.length)
 (hA:∀ k,i < k→k < C.za.length→AboveAt C 89 k j (Tm.ab C.rk C.za C.zb k j) fun k' l=>k' < k∨l < j) :
 AboveAt C 116 i j (Tm.bp C.rk C.za C.zb i j (Tm.room (C.za[i]?.getD 0))) fun k l=>k≤i∨l < j:=by
 intro w tbl H
 obtain ⟨F,hF⟩:∃ F,F = Fence.wide:=⟨_,rfl⟩
 refine (callsIn_wide (n:=3)).1 ?_
 rw [← hF]
 obtain ⟨hro,hfn,hdd,hcin⟩:=wide_facts hF
 have HPl:Hid (Pl F):=by rw [hF];exact wide_pl
 have HF:=hid hF
 clear hF
 have hf1:=hfn 116
 have hf2:=hfn 89
 have hf3:=hfn 101
 have hf4:=hfn 123
 have hf5:=hfn 130
 clear hfn
 have la:=Tm.err_len O.ea
 have hltM:=H.ltM
 have hltS:=H.lt
 obtain ⟨W3,hW3⟩:∃ W3,((w.alloc (.cells #[.pointer (some ⟨C.S,0,none⟩)] 123)).alloc (.cells #[.int .i64 (i:Int),.int .i64 (j:Int)] 129)).alloc (.cells #[.bool false] 4) = W3:=⟨_,rfl⟩
 have hB0:Below w.heap.size w W3:=by rw [← hW3];exact (((Below.refl _ w).alloc (Nat.le_refl _) _).alloc (by simp) _).alloc (by simp;omega) _
 have bS:Boxed W3 w.heap.size 123 (.pointer (some ⟨C.S,0,none⟩)):=by rw [← hW3];exact ((Boxed.new w 123 (.pointer (some ⟨C.S,0,none⟩))).alloc _).alloc _
 have bA:W3.heap[w.heap.size+1]? = some (.cells #[.int .i64 (i:Int),.int .i64 (j:Int)] 129 (0,0)):=by
  rw [← hW3]
  have h1:=World.alloc_heap_new (w.alloc (.cells #[.pointer (some ⟨C.S,0,none⟩)] 123)) (.cells #[.int .i64 (i:Int),.int .i64 (j:Int)] 129)
  rw [World.size_alloc] at h1
  exact (Below.heap_alloc _ _ _ (by simp)).trans h1
 have bR:Boxed W3 (w.heap.size+1+1) 4 (.bool false):=by
  rw [← hW3]
  have h1:=Boxed.new ((w.alloc (.cells #[.pointer (some ⟨C.S,0,none⟩)] 123)).alloc (.cells #[.int .i64 (i:Int),.int .i64 (j:Int)] 129)) 4 (.bool false)
  simpa using h1
 have hs3:W3.heap.size = w.heap.size+1+1+1:=by rw [← hW3];simp
 have HW3:=hid hW3
 clear hW3
 have H3:=H.below hB0
 have c1:=H3.c1
 have cS:=bS.cell
 have cA:=pair_cell0 bA
 have hS:=hid (fun w' (hB:Below W3.heap.size W3 w')=>(show w'.cell? ⟨C.S,1,none⟩ = some (.slice (some ⟨C.ba,C.fa,none⟩) C.za.length C.ca)∧w'.cell? ⟨w.heap.size,0,none⟩ = some (.pointer (some ⟨C.S,0,none⟩))∧w'.cell? ⟨w.heap.size+1,0,none⟩ = some (.int .i64 (i:Int)) from
  ⟨(hB.cell H3.lt).trans c1,(hB.cell bS.lt).trans cS,(hB.cell (p:=⟨w.heap.size+1,0,none⟩) (by show w.heap.size+1 < _;omega)).trans cA⟩))
 obtain ⟨W5,hW5⟩:∃ W5,((W3.alloc (.cells #[.slice (some ⟨C.ba,C.fa,none⟩) C.za.length C.ca] 35)).alloc (.cells #[.int .i64 (i:Int)] 3)).drew = W5:=⟨_,rfl⟩
 have hB35:Below W3.heap.size W3 W5:=by rw [← hW5];exact below_drew1 (((Below.refl _ W3).alloc (Nat.le_refl _) _).alloc (by simp) _)
 have bT5:Boxed W5 (w.heap.size+1+1+1) 35 (.slice (some ⟨C.ba,C.fa,none⟩) C.za.length C.ca):=by
  rw [← hW5,← hs3];exact (Boxed.new W3 35 (.slice (some ⟨C.ba,C.fa,none⟩) C.za.length C.ca)).alloc _
 have bK5:Boxed W5 (w.heap.size+1+1+1+1) 3 (.int .i64 (i:Int)):=by
  have h1:=Boxed.new (W3.alloc (.cells #[.slice (some ⟨C.ba,C.fa,none⟩) C.za.length C.ca] 35)) 3 (.int .i64 (i:Int))
  rw [World.size_alloc,hs3] at h1
  rw [← hW5];exact h1
 have hs5:W5.heap.size = w.heap.size+1+1+1+1+1:=by rw [← hW5];show ((W3.alloc _).alloc _).heap.size = _;simp [hs3]
 have HW5:=hid hW5
 clear hW5
 have bS5:Boxed W5 w.heap.size 123 (.pointer (some ⟨C.S,0,none⟩)):=(hB35.block _ bS.lt).trans bS
 have bA5:=(hB35.block _ (by omega)).trans bA
 have bR5:Boxed W5 (w.heap.size+1+1) 4 (.bool false):=(hB35.block _ bR.lt).trans bR
 have hB5:Below w.heap.size w W5:=hB0.trans (hB35.mono hB0.size)
 have I0:BPInv C w tbl i j 0 W5:=⟨rfl,⟨⟨tbl,H.fnd.keep (hB5.block _ hltM),fun _ _ _=>rfl⟩,bS5,bA5,Keep.of_below hB5⟩,bR5,bT5,bK5⟩
 have hkp:∀ m,m < Tm.room (C.za[i]?.getD 0)→Tm.pos C.za i m < C.za.length:=fun m hm=>by
  have h1:=Tm.pos_part O.ea hi m (by omega)
  have h2:=Tm.pos_in (Tm.part_err O.ea hi) (m:=m) (by rw [Tm.sym_part O.ea hi];exact hm)
  rw [Tm.part_length O.ea hi] at h2
  have h3:=Tm.end_in O.ea hi
  omega
 have HI0:=hid I0
 have Hkp:=hid hkp
 have HH:=hid H
 have HA:=hid hA
 have HO:=hid O
 have Hlb:=hid (Tm.err_len O.eb)
 clear H3 c1 cS cA bS bA bR bT5 bK5 bS5 bA5 bR5 I0 hkp hA hB35 hB5 hB0 H O
 refine callsIn_of_wp_marks Tryz.func116 rfl hf1 ?_ hro
 simp only [Tryz.ntmps116,List.size_toArray,List.length_cons,List.length_nil,Nat.reduceAdd,Nat.reduceSub,Array.replicate_succ,Array.replicate_zero,List.push_toArray,List.append_toArray,List.nil_append,List.cons_append]
 gi_wp2_with fail
 rw [HW3.out]
 rw [HF.out]
 refine wpIn_wide.2 ?_
 have hS0:=hS.out _ (Below.refl _ W3)
 go_region_held3 (fun w'=>w'.cell? ⟨C.S,1,none⟩ = some (.slice (some ⟨C.ba,C.fa,none⟩) C.za.length C.ca)∧w'.cell? ⟨w.heap.size,0,none⟩ = some (.pointer (some ⟨C.S,0,none⟩))∧w'.cell? ⟨w.heap.size+1,0,none⟩ = some (.int .i64 (i:Int))) (first | assumption | exact hS.out _ (Below.refl _ W3) | exact hS.out _ (below_drewN (Below.refl _ W3) 1)) (first
  | (go_at_call 101;refine (callsIn_wide.1 (partsx_in Fence.wide wide_pl 0 _ _ _ _ _)).mono ?_;rintro e w' ⟨rfl,rfl⟩;have hS1:=hS.out _ (((below_drewN (Below.refl _ W3) 1).alloc (Nat.le_refl _) (.cells #[.slice (some ⟨C.ba,C.fa,none⟩) C.za.length C.ca] 35)).alloc (by simp) (.cells #[.int .i64 (i:Int)] 3))))
 rw [HW5.out]
 rename_i hHeld
 clear hS hS0 hS1 hHeld
 gi_wp2_with fail
 refine wpIn_rangeSteps hro (by omega) (gf:=123) (lb:=#[.pointer (some ⟨w.heap.size+1+1+1+1,0,none⟩),.pointer (some ⟨w.heap.size+1+1+1,0,none⟩)]) rfl hf4 (enters_of Tryz.func123 (by kernel_rfl) rfl)
  (parts_steps F HPl.out _ (w.heap.size+1+1+1+1) (w.heap.size+1+1+1) i C.ca (some ⟨C.ba,C.fa,none⟩) C.za (by omega) hi (ends_beyond F HPl.out C.za (by omega) _ C.ca i)) (fun _=>rfl)
  (BPInv C w tbl i j)
  (fun c W=>c = .ret∧Tm.bp C.rk C.za C.zb i j (Tm.room (C.za[i]?.getD 0)) = true∧SdInv C w tbl (fun k l=>k≤i∨l < j) i j W∧Boxed W (w.heap.size+1+1) 4 (.bool true)) (fun _ _=>False) (.inl fun _ _ h=>h)
  (by
    rintro m X Y row ⟨no,sd,bR,bT,bK⟩ hg hr
    exact ⟨no,sd.own hltM (by omega) hg hr,cells_own bR hg hr,cells_own bT hg hr,cells_own bK hg hr⟩)
  (by
    rintro c X Y row ⟨e,hq,sd,bR⟩ hg hr
    exact ⟨e,hq,sd.own hltM (by omega) hg hr,cells_own bR hg hr⟩)
  (fun m W hI=>⟨hI.bK.cell,hI.bT.cell,by obtain ⟨tbl',hS,_⟩:=hI.sd.sides HH.out;exact hS.ia⟩)
  HI0.out
  (fun m=>{ tmps:=#[.pointer (some ⟨C.S,0,none⟩),.agg #[.int .i64 (i:Int),.int .i64 (j:Int)],.pointer (some ⟨w.heap.size,0,none⟩),.pointer (some ⟨w.heap.size+1,0,none⟩),.pointer (some ⟨w.heap.size+1+1,0,none⟩),.int .i64 (Tm.pos C.za i m:Int),undef,
    .pointer (some ⟨C.S,0,none⟩),.pointer (some ⟨C.S,0,none⟩),.pointer (some ⟨C.S,1,none⟩),.slice (some ⟨C.ba,C.fa,none⟩) C.za.length C.ca,.pointer (some ⟨w.heap.size+1,0,none⟩),.int .i64 (i:Int),.func (.func 123) #[] #[.pointer (some ⟨w.heap.size+1+1+1+1,0,none⟩),.pointer (some ⟨w.heap.size+1+1+1,0,none⟩)],
    .int .i64 (Tm.pos C.za i m:Int),.int .i64 (Tm.pos C.za i (m+1):Int),undef,undef,undef,undef,undef,undef,undef,undef,undef,undef,undef,undef],defers:=[] }) ?assign ?body ?done ?stop ?panic
 case assign =>
  intro l m W K hK
  simp only [encPart]
  gi_wp2
  exact hK
 case body =>
  rintro l m W hI hm
  obtain ⟨no,sd,bR,bT,bK⟩:=hI
  have hm':m < Tm.room (C.za[i]?.getD 0):=hm
  have hp:=Hkp.out m hm'
  have hgt:=Tm.pos_gt C.za i m
  obtain ⟨tbl',Sd',ht'⟩:=sd.sides HH.out
  have hB1:Below W.heap.size W (W.alloc (.cells #[.int .i64 (Tm.pos C.za i m:Int),.int .i64 (j:Int)] 129)):=(Below.refl _ W).alloc (Nat.le_refl _) _
  have blk1:=World.alloc_heap_new W (.cells #[.int .i64 (Tm.pos C.za i m:Int),.int .i64 (j:Int)] 129)
  have S1:=Sd'.below hB1
  have bS1:Boxed (W.alloc (.cells #[.int .i64 (Tm.pos C.za i m:Int),.int .i64 (j:Int)] 129)) w.heap.size 123 (.pointer (some ⟨C.S,0,none⟩)):=(hB1.block _ sd.bS.lt).trans sd.bS
  have e1:=pair_cell0 blk1
  have e2:=pair_cell1 blk1
  have e3:=bS1.cell
  have e4:=pair_cell1 sd.bA
  have hltW:W.heap.size < (W.alloc (.cells #[.int .i64 (Tm.pos C.za i m:Int),.int .i64 (j:Int)] 129)).heap.size:=by simp
  have hCs:=hid (CallsIn.inRound l (hcin (n:=0) (sidesSame_any C HO.out (Tm.pos C.za i m) j hp hj (W.alloc (.cells #[.int .i64 (Tm.pos C.za i m:Int),.int .i64 (j:Int)] 129)) tbl' S1)))
  unfold pk at hCs
  have hbs:=hid (Tm.bp_succ C.rk C.za C.zb i j m)
  have hkw:=sd.kp
  have hCa:=hid (fun W2 (hB2:Below (W.alloc (.cells #[.int .i64 (Tm.pos C.za i m:Int),.int .i64 (j:Int)] 129)).heap.size (W.alloc (.cells #[.int .i64 (Tm.pos C.za i m:Int),.int .i64 (j:Int)] 129)) W2)=>CallsIn.inRound l (hcin (n:=0) (HA.out (Tm.pos C.za i m) hgt hp W2 tbl' (S1.below hB2))))
  have HS1:=hid S1
  have Hsd:=hid sd
  have Hht:=hid ht'
  have Hno:=hid no
  clear sd S1 Sd' ht' no
  have hfb:=fun (k:Nat) (o:Obj) (hk:W5.heap.size≤k) (ho:W.heap[k]? = some o)=>(show k < W.heap.size∧k≠C.M from ⟨(Array.getElem?_eq_some_iff.1 ho).1,by omega⟩)
  cases hq1:Tm.sm C.za C.zb (Tm.pos C.za i m) j with
  | true =>
   rw [hq1] at hCs hbs
   clear hCa
   gi_wp2_with (first
    | ((try refine ⟨hdd _,?_⟩);gi_at_call 130;refine hCs.out.mono ?_;clear hCs;rintro e W2 ⟨rfl,hB2⟩;have hB12:Below W.heap.size W W2:=hB1.trans (hB2.mono hB1.size);have bR2:Boxed W2 (w.heap.size+1+1) 4 (.bool false):=(hB12.block _ bR.lt).trans bR;have cR:=bR2.cell;have fR:=bR2.frozen;have g1:=(hB2.cell (p:=⟨W.heap.size,0,none⟩) hltW).trans e1;have g2:=(hB2.cell (p:=⟨W.heap.size,1,none⟩) hltW).trans e2;have bS2:Boxed W2 w.heap.size 123 (.pointer (some ⟨C.S,0,none⟩)):=(hB2.block _ bS1.lt).trans bS1;have g3:=bS2.cell))
   have hq:Tm.bp C.rk C.za C.zb i j (Tm.room (C.za[i]?.getD 0)) = true:=bp_mono hm' (by rw [hbs.out];simp)
   refine ⟨(⟨hB12.size,fun k o hk ho _=>(hB12.block k (hfb k o hk ho).1).trans ho⟩:KeepsFrom W5.heap.size W W2).trans ((KeepsOthers.setCell _ _ _).from _),rfl,hq,?_,bR2.set _⟩
   have hkw2:Keep w.heap.size C.M w W2:=hkw.trans (Keep.of_below (hB12.mono hkw.size))
   obtain ⟨tf,hf,htf⟩:=Hsd.out.fnd
   exact sd_set ⟨⟨tf,hf.keep (hB12.block _ (by have:=hkw.size;omega)),htf⟩,(hB12.block _ Hsd.out.bS.lt).trans Hsd.out.bS,(hB12.block _ (by have:=bR.lt;omega)).trans Hsd.out.bA,hkw2⟩ hltM (by omega) _
  | false =>
   rw [hq1] at hCs hbs
   cases hq2:Tm.ab C.rk C.za C.zb (Tm.pos C.za i m) j with
   | true =>
    rw [hq2] at hCa hbs
    gi_wp2_with (first
     | ((try refine ⟨hdd _,?_⟩);gi_at_call 130;refine hCs.out.mono ?_;clear hCs;rintro e W2 ⟨rfl,hB2⟩;have hB12:Below W.heap.size W W2:=hB1.trans (hB2.mono hB1.size);have bR2:Boxed W2 (w.heap.size+1+1) 4 (.bool false):=(hB12.block _ bR.lt).trans bR;have cR:=bR2.cell;have fR:=bR2.frozen;have g1:=(hB2.cell (p:=⟨W.heap.size,0,none⟩) hltW).trans e1;have g2:=(hB2.cell (p:=⟨W.heap.size,1,none⟩) hltW).trans e2;have bS2:Boxed W2 w.heap.size 123 (.pointer (some ⟨C.S,0,none⟩)):=(hB2.block _ bS1.lt).trans bS1;have g3:=bS2.cell)
     | ((try refine ⟨hdd _,?_⟩);gi_at_call 89;refine (hCa.out W2 hB2).mono ?_;clear hCa;rintro e W4 ⟨rfl,hK4,tbl4,S4,ht4⟩;have hne:∀ k,w.heap.size≤k→k≠C.M:=(fun k hk e=>by omega);have hltW2:=hB12.size;have bR4:Boxed W4 (w.heap.size+1+1) 4 (.bool false):=(hK4.block _ bR2.lt (hne _ (by omega))).trans bR2;have cR4:=bR4.cell;have fR4:=bR4.frozen))
    have hq:Tm.bp C.rk C.za C.zb i j (Tm.room (C.za[i]?.getD 0)) = true:=bp_mono hm' (by rw [hbs.out];simp)
    refine ⟨(⟨Nat.le_trans hB12.size hK4.size,fun k o hk ho _=>((hK4.block k (Nat.lt_of_lt_of_le (hfb k o hk ho).1 hltW2) (hfb k o hk ho).2).trans (hB12.block k (hfb k o hk ho).1)).trans ho⟩:KeepsFrom W5.heap.size W W4).trans ((KeepsOthers.setCell _ _ _).from _),rfl,hq,?_,bR4.set _⟩
    exact sd_set (sd_next Hsd.out hB12 hK4 hltM S4.fnd (fun k l h=>(ht4 k l (by omega)).trans (Hht.out k l h))) hltM (by omega) _
   | false =>
    rw [hq2] at hCa hbs
    gi_wp2_with (first
     | ((try refine ⟨hdd _,?_⟩);gi_at_call 130;refine hCs.out.mono ?_;clear hCs;rintro e W2 ⟨rfl,hB2⟩;have hB12:Below W.heap.size W W2:=hB1.trans (hB2.mono hB1.size);have bR2:Boxed W2 (w.heap.size+1+1) 4 (.bool false):=(hB12.block _ bR.lt).trans bR;have cR:=bR2.cell;have fR:=bR2.frozen;have g1:=(hB2.cell (p:=⟨W.heap.size,0,none⟩) hltW).trans e1;have g2:=(hB2.cell (p:=⟨W.heap.size,1,none⟩) hltW).trans e2;have bS2:Boxed W2 w.heap.size 123 (.pointer (some ⟨C.S,0,none⟩)):=(hB2.block _ bS1.lt).trans bS1;have g3:=bS2.cell)
     | ((try refine ⟨hdd _,?_⟩);gi_at_call 89;refine (hCa.out W2 hB2).mono ?_;clear hCa;rintro e W4 ⟨rfl,hK4,tbl4,S4,ht4⟩;have hne:∀ k,w.heap.size≤k→k≠C.M:=(fun k hk e=>by omega);have hltW2:=hB12.size;have bR4:Boxed W4 (w.heap.size+1+1) 4 (.bool false):=(hK4.block _ bR2.lt (hne _ (by omega))).trans bR2;have cR4:=bR4.cell;have fR4:=bR4.frozen))
    refine ⟨⟨Nat.le_trans hB12.size hK4.size,fun k o hk ho _=>((hK4.block k (Nat.lt_of_lt_of_le (hfb k o hk ho).1 hltW2) (hfb k o hk ho).2).trans (hB12.block k (hfb k o hk ho).1)).trans ho⟩,?_⟩
    refine ⟨by rw [hbs.out,Hno.out];rfl,sd_next Hsd.out hB12 hK4 hltM S4.fnd (fun k l h=>(ht4 k l (by omega)).trans (Hht.out k l h)),bR4,?_,?_⟩
    ·exact (hK4.block _ (Nat.lt_of_lt_of_le bT.lt hltW2) (hne _ (by omega))).trans ((hB12.block _ bT.lt).trans bT)
    ·exact (hK4.block _ (Nat.lt_of_lt_of_le bK.lt hltW2) (hne _ (by omega))).trans ((hB12.block _ bK.lt).trans bK)
 case done =>
  rintro D W hD ⟨no,sd,bR,bT,bK⟩ hDd
  have c1:=bR.cell
  have c2:=bR.frozen
  rw [hs5] at hD
  have no':Tm.bp C.rk C.za C.zb i j (Tm.room (C.za[i]?.getD 0)) = false:=no
  gi_wp2
  have bR2:=bR.set (.bool false)
  have hDd2:(W.setCell ⟨w.heap.size+1+1,0,none⟩ (.bool false)).heap[D]? = some (.deferred (some [])):=(Below.heap_setCell W ⟨w.heap.size+1+1,0,none⟩ _ D (show D≠w.heap.size+1+1 by omega)).trans hDd
  refine ⟨by simp,.inl ⟨_,_,rfl,run_takeDeferred hDd2,?_⟩⟩
  refine ⟨_,results_boxO rfl rfl ((World.cell?_of_block (a:=⟨w.heap.size+1+1,0,none⟩) (World.putObj_heap_other (show w.heap.size+1+1≠D by omega))).trans bR2.cell),?_⟩
  rw [no']
  exact sd_done HH.out hltM (sd_set sd hltM (by omega) _) (by omega)
 case stop =>
  rintro D c W hD ⟨rfl,hq,sd,bR⟩ hDd
  have c1:=bR.cell
  rw [hs5] at hD
  gi_wp2
  refine ⟨by simp,.inl ⟨_,_,rfl,run_takeDeferred hDd,?_⟩⟩
  refine ⟨_,results_boxO rfl rfl ((World.cell?_of_block (a:=⟨w.heap.size+1+1,0,none⟩) (World.putObj_heap_other (show w.heap.size+1+1≠D by omega))).trans c1),?_⟩
  rw [hq]
  exact sd_done HH.out hltM sd (by omega)
 case panic=>exact fun _ _ _ _ h=>h.elim
end Go.Proofs.YtglohanbpjaieaaGreat
namespace Go.Proofs.YtglohanbpjaieaaGreat
open Go.Proofs Go.RowKit Go.Shelf Go.Maps
attribute [local go_sem] Oper.semAt_some
attribute [local go_sem ↓] Go.wp_at_zero Go.wp_at_succ
theorem sd_below {C:Sd} {w W W2:World} {tbl:Value→Option Value} {dom:Nat→Nat→Prop} {i j:Nat} (h:SdInv C w tbl dom i j W) (hB:Below W.heap.size W W2) (hM:C.M < w.heap.size):SdInv C w tbl dom i j W2:=by
 obtain ⟨⟨tf,hf,htf⟩,bS,bA,kp⟩:=h
 exact ⟨⟨tf,hf.keep (hB.block _ (by have:=kp.size;omega)),htf⟩,(hB.block _ (Array.getElem?_eq_some_iff.1 bS).1).trans bS,(hB.block _ (Array.getElem?_eq_some_iff.1 bA).1).trans bA,kp.trans (Keep.of_below (hB.mono kp.size))⟩
structure FDInv (C:Sd) (w:World) (tbl:Value→Option Value) (i j m:Nat) (W:World):Prop where
 no:Tm.sms C.za C.zb i j m = true
 sd:SdInv C w tbl (fun k l=>k≤i∨l≤j) i j W
 bR:Boxed W (w.heap.size+1+1) 4 (.bool false)
 bG:Boxed W (w.heap.size+1+1+1) 3 (.int .i64 (Tm.pos C.zb j m:Int))
 bT:Boxed W (w.heap.size+1+1+1+1) 35 (.slice (some ⟨C.ba,C.fa,none⟩) C.za.length C.ca)
 bK:Boxed W (w.heap.size+1+1+1+1+1) 3 (.int .i64 (i:Int))
set_option maxRecDepth 100000 in
set_option maxHeartbeats 2000000 in
theorem byFirst_step (C:Sd) (O:SdOk C) (i j:Nat) (hi:i < C.za.length) (hj:j < C.zb.length) (hsy:C.za[i]?.getD 0 = C.zb[j]?.getD 0)
 (hA:∀ k l,i < k→k < C.za.length→j < l→l < C.zb.length→AboveAt C 89 k l (Tm.ab C.rk C.za C.zb k l) fun k' l'=>k' < k∨l' < l) :
 AboveAt C 131 i j (Tm.fd C.rk C.za C.zb i j (Tm.room (C.za[i]?.getD 0))) fun k l=>k≤i∨l≤j:=by
 intro w tbl H
 obtain ⟨F,hF⟩:∃ F,F = Fence.wide:=⟨_,rfl⟩
 refine (callsIn_wide (n:=3)).1 ?_
 rw [← hF]
 obtain ⟨hro,hfn,hdd,hcin⟩:=wide_facts hF
 have HPl:Hid (Pl F):=by rw [hF];exact wide_pl
 have HF:=hid hF
 clear hF
 have hf1:=hfn 131
 have hf2:=hfn 89
 have hf3:=hfn 101
 have hf4:=hfn 123
 have hf5:=hfn 130
 have hfn':=hfn
 clear hfn
 have hf6:=hfn' 69
 have la:=Tm.err_len O.ea
 have lb:=Tm.err_len O.eb
 have hltM:=H.ltM
 have hltS:=H.lt
 obtain ⟨W3,hW3⟩:∃ W3,(((w.alloc (.cells #[.pointer (some ⟨C.S,0,none⟩)] 123)).alloc (.cells #[.int .i64 (i:Int),.int .i64 (j:Int)] 129)).alloc (.cells #[.bool false] 4)).alloc (.cells #[.int .i64 ((j:Int)+1)] 3) = W3:=⟨_,rfl⟩
 have hB0:Below w.heap.size w W3:=by rw [← hW3];exact ((((Below.refl _ w).alloc (Nat.le_refl _) _).alloc (by simp) _).alloc (by simp;omega) _).alloc (by simp;omega) _
 have bS:Boxed W3 w.heap.size 123 (.pointer (some ⟨C.S,0,none⟩)):=by rw [← hW3];exact (((Boxed.new w 123 (.pointer (some ⟨C.S,0,none⟩))).alloc _).alloc _).alloc _
 have bA:W3.heap[w.heap.size+1]? = some (.cells #[.int .i64 (i:Int),.int .i64 (j:Int)] 129 (0,0)):=by
  rw [← hW3]
  have h1:=World.alloc_heap_new (w.alloc (.cells #[.pointer (some ⟨C.S,0,none⟩)] 123)) (.cells #[.int .i64 (i:Int),.int .i64 (j:Int)] 129)
  rw [World.size_alloc] at h1
  exact (Below.heap_alloc _ _ _ (by simp)).trans ((Below.heap_alloc _ _ _ (by simp)).trans h1)
 have bR:Boxed W3 (w.heap.size+1+1) 4 (.bool false):=by
  rw [← hW3]
  have h1:=Boxed.new ((w.alloc (.cells #[.pointer (some ⟨C.S,0,none⟩)] 123)).alloc (.cells #[.int .i64 (i:Int),.int .i64 (j:Int)] 129)) 4 (.bool false)
  simp only [World.size_alloc] at h1
  exact h1.alloc _
 have bG:Boxed W3 (w.heap.size+1+1+1) 3 (.int .i64 (Tm.pos C.zb j 0:Int)):=by
  rw [← hW3,Tm.pos_zero]
  have h1:=Boxed.new (((w.alloc (.cells #[.pointer (some ⟨C.S,0,none⟩)] 123)).alloc (.cells #[.int .i64 (i:Int),.int .i64 (j:Int)] 129)).alloc (.cells #[.bool false] 4)) 3 (.int .i64 ((j:Int)+1))
  simp only [World.size_alloc] at h1
  exact h1
 have hs3:W3.heap.size = w.heap.size+1+1+1+1:=by rw [← hW3];simp
 have HW3:=hid hW3
 clear hW3
 have H3:=H.below hB0
 have c1:=H3.c1
 have cS:=bS.cell
 have cA:=pair_cell0 bA
 have hS:=hid (fun w' (hB:Below W3.heap.size W3 w')=>(show w'.cell? ⟨C.S,1,none⟩ = some (.slice (some ⟨C.ba,C.fa,none⟩) C.za.length C.ca)∧w'.cell? ⟨w.heap.size,0,none⟩ = some (.pointer (some ⟨C.S,0,none⟩))∧w'.cell? ⟨w.heap.size+1,0,none⟩ = some (.int .i64 (i:Int)) from
  ⟨(hB.cell H3.lt).trans c1,(hB.cell bS.lt).trans cS,(hB.cell (p:=⟨w.heap.size+1,0,none⟩) (by show w.heap.size+1 < _;omega)).trans cA⟩))
 obtain ⟨W5,hW5⟩:∃ W5,((W3.alloc (.cells #[.slice (some ⟨C.ba,C.fa,none⟩) C.za.length C.ca] 35)).alloc (.cells #[.int .i64 (i:Int)] 3)).drew = W5:=⟨_,rfl⟩
 have hB35:Below W3.heap.size W3 W5:=by rw [← hW5];exact below_drew1 (((Below.refl _ W3).alloc (Nat.le_refl _) _).alloc (by simp) _)
 have bT5:Boxed W5 (w.heap.size+1+1+1+1) 35 (.slice (some ⟨C.ba,C.fa,none⟩) C.za.length C.ca):=by
  rw [← hW5,← hs3];exact (Boxed.new W3 35 (.slice (some ⟨C.ba,C.fa,none⟩) C.za.length C.ca)).alloc _
 have bK5:Boxed W5 (w.heap.size+1+1+1+1+1) 3 (.int .i64 (i:Int)):=by
  have h1:=Boxed.new (W3.alloc (.cells #[.slice (some ⟨C.ba,C.fa,none⟩) C.za.length C.ca] 35)) 3 (.int .i64 (i:Int))
  rw [World.size_alloc,hs3] at h1
  rw [← hW5];exact h1
 have hs5:W5.heap.size = w.heap.size+1+1+1+1+1+1:=by rw [← hW5];show ((W3.alloc _).alloc _).heap.size = _;simp [hs3]
 have HW5:=hid hW5
 clear hW5
 have bS5:Boxed W5 w.heap.size 123 (.pointer (some ⟨C.S,0,none⟩)):=(hB35.block _ bS.lt).trans bS
 have bA5:=(hB35.block _ (by omega)).trans bA
 have bR5:Boxed W5 (w.heap.size+1+1) 4 (.bool false):=(hB35.block _ bR.lt).trans bR
 have bG5:Boxed W5 (w.heap.size+1+1+1) 3 (.int .i64 (Tm.pos C.zb j 0:Int)):=(hB35.block _ bG.lt).trans bG
 have hB5:Below w.heap.size w W5:=hB0.trans (hB35.mono hB0.size)
 have I0:FDInv C w tbl i j 0 W5:=⟨rfl,⟨⟨tbl,H.fnd.keep (hB5.block _ hltM),fun _ _ _=>rfl⟩,bS5,bA5,Keep.of_below hB5⟩,bR5,bG5,bT5,bK5⟩
 have hkp:∀ m,m < Tm.room (C.za[i]?.getD 0)→Tm.pos C.za i m < C.za.length:=fun m hm=>by
  have h1:=Tm.pos_part O.ea hi m (by omega)
  have h2:=Tm.pos_in (Tm.part_err O.ea hi) (m:=m) (by rw [Tm.sym_part O.ea hi];exact hm)
  rw [Tm.part_length O.ea hi] at h2
  have h3:=Tm.end_in O.ea hi
  omega
 have hkp2:∀ m,m < Tm.room (C.za[i]?.getD 0)→Tm.pos C.zb j m < C.zb.length:=fun m hm=>by
  have h1:=Tm.pos_part O.eb hj m (by rw [← hsy];omega)
  have h2:=Tm.pos_in (Tm.part_err O.eb hj) (m:=m) (by rw [Tm.sym_part O.eb hj,← hsy];exact hm)
  rw [Tm.part_length O.eb hj] at h2
  have h3:=Tm.end_in O.eb hj
  omega
 have Hkp2:=hid hkp2
 have hjI:(j:Int) < 30:=by omega
 have HI0:=hid I0
 have Hkp:=hid hkp
 have HH:=hid H
 have HA:=hid hA
 have HO:=hid O
 clear H3 c1 cS cA bS bA bR bG bT5 bK5 bS5 bA5 bR5 bG5 I0 hkp hkp2 hsy hA hB35 hB5 hB0 H O
 refine callsIn_of_wp_marks Tryz.func131 rfl hf1 ?_ hro
 simp only [Tryz.ntmps131,List.size_toArray,List.length_cons,List.length_nil,Nat.reduceAdd,Nat.reduceSub,Array.replicate_succ,Array.replicate_zero,List.push_toArray,List.append_toArray,List.nil_append,List.cons_append]
 gi_wp2_with fail
 rw [HW3.out]
 rw [HF.out]
 refine wpIn_wide.2 ?_
 have hS0:=hS.out _ (Below.refl _ W3)
 go_region_held3 (fun w'=>w'.cell? ⟨C.S,1,none⟩ = some (.slice (some ⟨C.ba,C.fa,none⟩) C.za.length C.ca)∧w'.cell? ⟨w.heap.size,0,none⟩ = some (.pointer (some ⟨C.S,0,none⟩))∧w'.cell? ⟨w.heap.size+1,0,none⟩ = some (.int .i64 (i:Int))) (first | assumption | exact hS.out _ (Below.refl _ W3) | exact hS.out _ (below_drewN (Below.refl _ W3) 1)) (first
  | (go_at_call 101;refine (callsIn_wide.1 (partsx_in Fence.wide wide_pl 0 _ _ _ _ _)).mono ?_;rintro e w' ⟨rfl,rfl⟩;have hS1:=hS.out _ (((below_drewN (Below.refl _ W3) 1).alloc (Nat.le_refl _) (.cells #[.slice (some ⟨C.ba,C.fa,none⟩) C.za.length C.ca] 35)).alloc (by simp) (.cells #[.int .i64 (i:Int)] 3))))
 rw [HW5.out]
 rename_i hHeld
 clear hS hS0 hS1 hHeld
 gi_wp2_with fail
 refine wpIn_rangeSteps hro (by omega) (gf:=123) (lb:=#[.pointer (some ⟨w.heap.size+1+1+1+1+1,0,none⟩),.pointer (some ⟨w.heap.size+1+1+1+1,0,none⟩)]) rfl hf4 (enters_of Tryz.func123 (by kernel_rfl) rfl)
  (parts_steps F HPl.out _ (w.heap.size+1+1+1+1+1) (w.heap.size+1+1+1+1) i C.ca (some ⟨C.ba,C.fa,none⟩) C.za (by omega) hi (ends_beyond F HPl.out C.za (by omega) _ C.ca i)) (fun _=>rfl)
  (FDInv C w tbl i j)
  (fun c W=>c = .ret∧SdInv C w tbl (fun k l=>k≤i∨l≤j) i j W∧Boxed W (w.heap.size+1+1) 4 (.bool (Tm.fd C.rk C.za C.zb i j (Tm.room (C.za[i]?.getD 0))))) (fun _ _=>False) (.inl fun _ _ h=>h)
  (by
    rintro m X Y row ⟨no,sd,bR,bG,bT,bK⟩ hg hr
    exact ⟨no,sd.own hltM (by omega) hg hr,cells_own bR hg hr,cells_own bG hg hr,cells_own bT hg hr,cells_own bK hg hr⟩)
  (by
    rintro c X Y row ⟨e,sd,bR⟩ hg hr
    exact ⟨e,sd.own hltM (by omega) hg hr,cells_own bR hg hr⟩)
  (fun m W hI=>⟨hI.bK.cell,hI.bT.cell,by obtain ⟨tbl',hS,_⟩:=hI.sd.sides HH.out;exact hS.ia⟩)
  HI0.out
  (fun m=>{ tmps:=#[.pointer (some ⟨C.S,0,none⟩),.agg #[.int .i64 (i:Int),.int .i64 (j:Int)],.pointer (some ⟨w.heap.size,0,none⟩),.pointer (some ⟨w.heap.size+1,0,none⟩),.pointer (some ⟨w.heap.size+1+1,0,none⟩),.pointer (some ⟨w.heap.size+1+1+1,0,none⟩),.int .i64 (Tm.pos C.za i m:Int),undef,
    .pointer (some ⟨w.heap.size+1,1,none⟩),.int .i64 (j:Int),.int .i64 ((j:Int)+1),
    .pointer (some ⟨C.S,0,none⟩),.pointer (some ⟨C.S,0,none⟩),.pointer (some ⟨C.S,1,none⟩),.slice (some ⟨C.ba,C.fa,none⟩) C.za.length C.ca,.pointer (some ⟨w.heap.size+1,0,none⟩),.int .i64 (i:Int),.func (.func 123) #[] #[.pointer (some ⟨w.heap.size+1+1+1+1+1,0,none⟩),.pointer (some ⟨w.heap.size+1+1+1+1,0,none⟩)],
    .int .i64 (Tm.pos C.za i m:Int),.int .i64 (Tm.pos C.za i (m+1):Int),undef,undef,undef,undef,undef,undef,undef,undef,undef,undef,undef,undef,undef,undef,undef,undef],defers:=[] }) ?assign ?body ?done ?stop ?panic
 case assign =>
  intro l m W K hK
  simp only [encPart]
  gi_wp2
  exact hK
 case body =>
  rintro l m W hI hm
  obtain ⟨no,sd,bR,bG,bT,bK⟩:=hI
  have hm':m < Tm.room (C.za[i]?.getD 0):=hm
  have hp:=Hkp.out m hm'
  have hp2:=Hkp2.out m hm'
  have hgt:=Tm.pos_gt C.za i m
  have hgt2:=Tm.pos_gt C.zb j m
  obtain ⟨tbl',Sd',ht'⟩:=sd.sides HH.out
  have hB1:Below W.heap.size W (W.alloc (.cells #[.int .i64 (Tm.pos C.za i m:Int),.int .i64 (Tm.pos C.zb j m:Int)] 129)):=(Below.refl _ W).alloc (Nat.le_refl _) _
  have blk1:=World.alloc_heap_new W (.cells #[.int .i64 (Tm.pos C.za i m:Int),.int .i64 (Tm.pos C.zb j m:Int)] 129)
  have S1:=Sd'.below hB1
  have bS1:Boxed (W.alloc (.cells #[.int .i64 (Tm.pos C.za i m:Int),.int .i64 (Tm.pos C.zb j m:Int)] 129)) w.heap.size 123 (.pointer (some ⟨C.S,0,none⟩)):=(hB1.block _ sd.bS.lt).trans sd.bS
  have e1:=pair_cell0 blk1
  have e2:=pair_cell1 blk1
  have e3:=bS1.cell
  have e4:=bG.cell
  have hltW:W.heap.size < (W.alloc (.cells #[.int .i64 (Tm.pos C.za i m:Int),.int .i64 (Tm.pos C.zb j m:Int)] 129)).heap.size:=by simp
  have hCs:=hid (CallsIn.inRound l (hcin (n:=0) (sidesSame_any C HO.out (Tm.pos C.za i m) (Tm.pos C.zb j m) hp hp2 (W.alloc (.cells #[.int .i64 (Tm.pos C.za i m:Int),.int .i64 (Tm.pos C.zb j m:Int)] 129)) tbl' S1)))
  unfold pk at hCs
  have hkw:=sd.kp
  have hCa:=hid (fun W2 (hB2:Below (W.alloc (.cells #[.int .i64 (Tm.pos C.za i m:Int),.int .i64 (Tm.pos C.zb j m:Int)] 129)).heap.size (W.alloc (.cells #[.int .i64 (Tm.pos C.za i m:Int),.int .i64 (Tm.pos C.zb j m:Int)] 129)) W2)=>CallsIn.inRound l (hcin (n:=0) (HA.out (Tm.pos C.za i m) (Tm.pos C.zb j m) hgt hp hgt2 hp2 W2 tbl' (S1.below hB2))))
  have HS1:=hid S1
  have Hsd:=hid sd
  have Hht:=hid ht'
  have Hno:=hid no
  clear sd S1 Sd' ht' no
  have hfb:=fun (k:Nat) (o:Obj) (hk:W5.heap.size≤k) (ho:W.heap[k]? = some o)=>(show k < W.heap.size∧k≠C.M from ⟨(Array.getElem?_eq_some_iff.1 ho).1,by omega⟩)
  cases hq1:Tm.sm C.za C.zb (Tm.pos C.za i m) (Tm.pos C.zb j m) with
  | false =>
   rw [hq1] at hCs
   have hfd:=Tm.fd_at (rk:=C.rk) hm' Hno.out hq1
   rw [← hfd] at hCa
   generalize Tm.fd C.rk C.za C.zb i j (Tm.room (C.za[i]?.getD 0)) = q at *
   clear hfd
   gi_wp2_with (first
    | ((try refine ⟨hdd _,?_⟩);gi_at_call 130;refine hCs.out.mono ?_;clear hCs;rintro e W2 ⟨rfl,hB2⟩;have hB12:Below W.heap.size W W2:=hB1.trans (hB2.mono hB1.size);have bR2:Boxed W2 (w.heap.size+1+1) 4 (.bool false):=(hB12.block _ bR.lt).trans bR;have cR:=bR2.cell;have fR:=bR2.frozen;have g1:=(hB2.cell (p:=⟨W.heap.size,0,none⟩) hltW).trans e1;have g2:=(hB2.cell (p:=⟨W.heap.size,1,none⟩) hltW).trans e2;have bS2:Boxed W2 w.heap.size 123 (.pointer (some ⟨C.S,0,none⟩)):=(hB2.block _ bS1.lt).trans bS1;have g3:=bS2.cell)
    | ((try refine ⟨hdd _,?_⟩);gi_at_call 89;refine (hCa.out W2 hB2).mono ?_;clear hCa;rintro e W4 ⟨rfl,hK4,tbl4,S4,ht4⟩;have hne:∀ k,w.heap.size≤k→k≠C.M:=(fun k hk e=>by omega);have hltW2:=hB12.size;have bR4:Boxed W4 (w.heap.size+1+1) 4 (.bool false):=(hK4.block _ bR2.lt (hne _ (by omega))).trans bR2;have cR4:=bR4.cell;have fR4:=bR4.frozen))
   refine ⟨(⟨Nat.le_trans hB12.size hK4.size,fun k o hk ho _=>((hK4.block k (Nat.lt_of_lt_of_le (hfb k o hk ho).1 hltW2) (hfb k o hk ho).2).trans (hB12.block k (hfb k o hk ho).1)).trans ho⟩:KeepsFrom W5.heap.size W W4).trans ((KeepsOthers.setCell _ _ _).from _),rfl,?_,bR4.set _⟩
   exact sd_set (sd_next Hsd.out hB12 hK4 hltM S4.fnd (fun k l h=>(ht4 k l (by omega)).trans (Hht.out k l h))) hltM (by omega) _
  | true =>
   rw [hq1] at hCs
   clear hCa
   gi_wp2_with (first
    | ((try refine ⟨hdd _,?_⟩);gi_at_call 130;refine hCs.out.mono ?_;clear hCs;rintro e W2 ⟨rfl,hB2⟩;have hB12:Below W.heap.size W W2:=hB1.trans (hB2.mono hB1.size);have bR2:Boxed W2 (w.heap.size+1+1) 4 (.bool false):=(hB12.block _ bR.lt).trans bR;have cR:=bR2.cell;have fR:=bR2.frozen;have g1:=(hB2.cell (p:=⟨W.heap.size,0,none⟩) hltW).trans e1;have g2:=(hB2.cell (p:=⟨W.heap.size,1,none⟩) hltW).trans e2;have bS2:Boxed W2 w.heap.size 123 (.pointer (some ⟨C.S,0,none⟩)):=(hB2.block _ bS1.lt).trans bS1;have g3:=bS2.cell))
   have S2:=HS1.out.below hB2
   have c5:=S2.c2
   have bG2:Boxed W2 (w.heap.size+1+1+1) 3 (.int .i64 (Tm.pos C.zb j m:Int)):=(hB12.block _ bG.lt).trans bG
   have c4:=bG2.cell
   have f4:=bG2.frozen
   have mixed:Tryz.prog.follows .mixedOrders = true:=by kernel_rfl
   have hpo:=hid (Tm.pos_succ C.zb j m)
   have hEn:=hid (endx_all F HPl.out C.zb (by omega) (some ⟨C.bb,C.fb,none⟩) C.cb _ (Tm.pos C.zb j m) 0 (Nat.le_refl _) (by omega) W2.drew S2.ib)
   gi_region_with_o (first | ((try refine ⟨hdd _,?_⟩);gi_at_call 69;refine (CallsIn.inRound l hEn.out).mono ?_;rintro e W3' ⟨rfl,hB3⟩;have bG3:Boxed W3' (w.heap.size+1+1+1) 3 (.int .i64 (Tm.pos C.zb j m:Int)):=(hB3.block _ bG2.lt).trans bG2;have c6:=bG3.cell;have f6:=bG3.frozen))
   all_goals (
    gi_wp2
    have hB13:Below W.heap.size W W3':=hB12.trans ⟨hB3.os,hB3.tape,hB3.output,hB3.size,fun k hk=>hB3.block k (Nat.lt_of_lt_of_le hk hB12.size)⟩
    refine ⟨(⟨hB13.size,fun k o hk ho _=>(hB13.block k (hfb k o hk ho).1).trans ho⟩:KeepsFrom W5.heap.size W W3').trans ((KeepsOthers.setCell _ _ _).from _),?_⟩
    refine ⟨by rw [Tm.sms_succ,Hno.out,hq1];rfl,sd_set (sd_below Hsd.out hB13 hltM) hltM (by omega) _,Boxed.other ((hB13.block _ bR.lt).trans bR) (by omega) _,by rw [hpo.out];exact bG3.set _,Boxed.other ((hB13.block _ bT.lt).trans bT) (by omega) _,Boxed.other ((hB13.block _ bK.lt).trans bK) (by omega) _⟩)
 case done =>
  rintro D W hD ⟨no,sd,bR,bG,bT,bK⟩ hDd
  have c1:=bR.cell
  have c2:=bR.frozen
  rw [hs5] at hD
  have no':Tm.fd C.rk C.za C.zb i j (Tm.room (C.za[i]?.getD 0)) = false:=Tm.fd_same no
  gi_wp2
  have bR2:=bR.set (.bool false)
  have hDd2:(W.setCell ⟨w.heap.size+1+1,0,none⟩ (.bool false)).heap[D]? = some (.deferred (some [])):=(Below.heap_setCell W ⟨w.heap.size+1+1,0,none⟩ _ D (show D≠w.heap.size+1+1 by omega)).trans hDd
  refine ⟨by simp,.inl ⟨_,_,rfl,run_takeDeferred hDd2,?_⟩⟩
  refine ⟨_,results_boxO rfl rfl ((World.cell?_of_block (a:=⟨w.heap.size+1+1,0,none⟩) (World.putObj_heap_other (show w.heap.size+1+1≠D by omega))).trans bR2.cell),?_⟩
  rw [no']
  exact sd_done HH.out hltM (sd_set sd hltM (by omega) _) (by omega)
 case stop =>
  rintro D c W hD ⟨rfl,sd,bR⟩ hDd
  have c1:=bR.cell
  rw [hs5] at hD
  gi_wp2
  refine ⟨by simp,.inl ⟨_,_,rfl,run_takeDeferred hDd,?_⟩⟩
  refine ⟨_,results_boxO rfl rfl ((World.cell?_of_block (a:=⟨w.heap.size+1+1,0,none⟩) (World.putObj_heap_other (show w.heap.size+1+1≠D by omega))).trans c1),?_⟩
  exact sd_done HH.out hltM sd (by omega)
 case panic=>exact fun _ _ _ _ h=>h.elim
end Go.Proofs.YtglohanbpjaieaaGreat
