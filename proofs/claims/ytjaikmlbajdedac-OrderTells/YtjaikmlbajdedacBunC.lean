/-
  (*sides).same. · (*sides).above, one step. · (*sides).byPart. · (*sides).byFirstThatDiffers. · (*sides).bySymbol. · (*sides).above, wherever it is asked; order.Check; order.Above. · slices.Index, slices.Contains of a list of numbers; order.Check; order.Above. · order.Above. · hasplaw.rank, orderBegun. · PLAIN MATHEMATICS of OrderTrue and OrderKeeps: of right ones no error comes; what Above answers is an order. · hasplaw.choose, which number it is; PLAIN MATHEMATICS of OrderKeeps: ranks differ; without variables one of two that differ is above; who is above stays above. · haspref.RankError. · haspref.partsAt. · The table that haspref.above keeps. · haspref.above. · haspref.AboveOf.
-/
import Derived.Deep.DrawnRows
import Derived.Test.YtjaikmlbajdedacBunB
import Derived.Shelf.RegionOpen
import Derived.Deep.RegionHeld3
import Derived.Deep.DeepCutAuto
import Derived.BigQuiet
import Derived.BigRegion
import Derived.Deep.RegionWith
namespace Go.Proofs.Ytjaikmlbajdedac
open Go.Proofs Go.RowKit Go.Shelf Go.Maps

attribute [local go_sem ↓] Go.wp_at_zero Go.wp_at_succ

set_option maxRecDepth 100000 in
set_option maxHeartbeats 2000000 in
theorem sidesSame_any (C : Sd) (O : SdOk C) (i j : Nat) (hi : i < C.za.length) (hj : j < C.zb.length) (w : World) (tbl : Value → Option Value) (H : Sides C w tbl) :
    Calls Try.prog 90 #[.pointer (some ⟨C.S, 0, none⟩), pk i j] w fun e w' => e = .returned (.bool (Tm.sm C.za C.zb i j)) ∧ Below w.heap.size w w' := by
  have hB0 : Below w.heap.size w (w.alloc (.cells #[.int .i64 (i : Int), .int .i64 (j : Int)] 67)) := (Below.refl _ w).alloc (Nat.le_refl _) _
  have H1 := H.below hB0
  obtain ⟨w1, hw1⟩ : ∃ w1, w.alloc (.cells #[.int .i64 (i : Int), .int .i64 (j : Int)] 67) = w1 := ⟨_, rfl⟩
  have hblk : w1.heap[w.heap.size]? = some (.cells #[.int .i64 (i : Int), .int .i64 (j : Int)] 67 (0, 0)) := by rw [← hw1]; exact World.alloc_heap_new w _
  have HW := hid hw1
  rw [hw1] at hB0 H1
  clear hw1
  have d0 : w1.cell? ⟨w.heap.size, 0, none⟩ = some (.int .i64 (i : Int)) := by simp [World.cell?, hblk]
  have d1 : w1.cell? ⟨w.heap.size, 1, none⟩ = some (.int .i64 (j : Int)) := by simp [World.cell?, hblk]
  have hlt : w.heap.size < w1.heap.size := (Array.getElem?_eq_some_iff.1 hblk).1
  have c1 := H1.c1
  have c2 := H1.c2
  have hS := hid (fun w' (hB : Below w1.heap.size w1 w') => (show w'.cell? ⟨C.S, 1, none⟩ = some (.slice (some ⟨C.ba, C.fa, none⟩) C.za.length C.ca) ∧ w'.cell? ⟨C.S, 2, none⟩ = some (.slice (some ⟨C.bb, C.fb, none⟩) C.zb.length C.cb) ∧ w'.cell? ⟨w.heap.size, 0, none⟩ = some (.int .i64 (i : Int)) ∧ w'.cell? ⟨w.heap.size, 1, none⟩ = some (.int .i64 (j : Int)) from
    ⟨(hB.cell H1.lt).trans c1, (hB.cell H1.lt).trans c2, (hB.cell hlt).trans d0, (hB.cell hlt).trans d1⟩))
  have la := Tm.err_len O.ea
  have lb := Tm.err_len O.eb
  have ea := Tm.end_in O.ea hi
  have eb := Tm.end_in O.eb hj
  have ga := Tm.endAt_gt C.za i
  have gb := Tm.endAt_gt C.zb j
  have Ea := hid (fun w' (hB : Below w1.heap.size w1 w') => end_any C.za la (some ⟨C.ba, C.fa, none⟩) C.ca i (by omega) w' (H1.below hB).ia)
  have Eb := hid (fun w' (hB : Below w1.heap.size w1 w') => end_any C.zb lb (some ⟨C.bb, C.fb, none⟩) C.cb j (by omega) w' (H1.below hB).ib)
  have pla := Tm.part_length O.ea hi
  have plb := Tm.part_length O.eb hj
  have Eq := hid (fun w' (hB : Below w1.heap.size w1 w') => equal_any (Tm.part C.za i) (Tm.part C.zb j) (some ⟨C.ba, C.fa + i, none⟩) (some ⟨C.bb, C.fb + j, none⟩) (C.ca - i) (C.cb - j) w' ((H1.below hB).ia.sub i _) ((H1.below hB).ib.sub j _) (by unfold maxLen; omega))
  rw [pla, plb] at Eq
  have hca := O.ca
  have hcb := O.cb
  have hca' := O.ca'
  have hcb' := O.cb'
  unfold maxLen at hca' hcb'
  have q1 : (Tm.endAt C.za i : Int) ≤ (C.ca : Int) := by omega
  have q2 : (Tm.endAt C.zb j : Int) ≤ (C.cb : Int) := by omega
  have q3 : (i : Int) ≤ (Tm.endAt C.za i : Int) := by omega
  have q4 : (j : Int) ≤ (Tm.endAt C.zb j : Int) := by omega
  have na : C.ca ≠ i := by omega
  have nb : C.cb ≠ j := by omega
  have Hq : Hid (sameB (Tm.part C.za i) (Tm.part C.zb j) = Tm.sm C.za C.zb i j) := rfl
  rw [Hq.out] at Eq
  generalize Tm.sm C.za C.zb i j = q at *
  generalize Tm.endAt C.za i = p1 at *
  generalize Tm.endAt C.zb j = p2 at *
  have HB0 := hid hB0
  clear H H1 O c1 c2 d0 d1 pla plb hblk hB0 Hq
  unfold pk
  go_enter Try.func90, Try.ntmps90
  go_wp2_with fail
  rw [HW.out]
  have hS0 := hS.out _ (Below.refl _ w1)
  go_region_held3 (fun w' => w'.cell? ⟨C.S, 1, none⟩ = some (.slice (some ⟨C.ba, C.fa, none⟩) C.za.length C.ca) ∧ w'.cell? ⟨C.S, 2, none⟩ = some (.slice (some ⟨C.bb, C.fb, none⟩) C.zb.length C.cb) ∧ w'.cell? ⟨w.heap.size, 0, none⟩ = some (.int .i64 (i : Int)) ∧ w'.cell? ⟨w.heap.size, 1, none⟩ = some (.int .i64 (j : Int))) (first | assumption | exact hS0) (first
    | (go_at_call_of 45 (Value.slice (some ⟨C.ba, C.fa, none⟩) C.za.length C.ca); refine (Ea.out _ (below_drewN (Below.refl _ w1) 1)).mono ?_; rintro e w2 ⟨rfl, hB1⟩; have hB2 : Below w1.heap.size w1 w2 := (below_drewN (Below.refl _ w1) 1).trans (hB1.mono (by exact Nat.le_refl _)); have hS1 := hS.out _ hB2)
    | (go_at_call_of 45 (Value.slice (some ⟨C.bb, C.fb, none⟩) C.zb.length C.cb); refine (Eb.out _ hB2).mono ?_; rintro e w3 ⟨rfl, hB3⟩; have hB4 : Below w1.heap.size w1 w3 := hB2.trans (hB3.mono hB2.size); have hS2 := hS.out _ hB4)
    | (go_at_call 97; refine (Eq.out _ hB4).mono ?_; rintro e w4 ⟨rfl, hB5⟩; have hB6 : Below w1.heap.size w1 w4 := hB4.trans (hB5.mono hB4.size); have hS3 := hS.out _ hB6))
  all_goals (
    go_wp2
    go_ret
    exact ⟨rfl, HB0.out.trans (hB6.mono HB0.out.size)⟩)

end Go.Proofs.Ytjaikmlbajdedac

namespace Go.Proofs.Ytjaikmlbajdedac
open Go.Proofs Go.RowKit Go.Shelf Go.Maps

attribute [local go_sem ↓] Go.wp_at_zero Go.wp_at_succ

theorem lookZero (w : World) : (zeroValue 97).run Try.prog w = .ok (.agg #[.bool false]) w := by kernel_rfl
theorem keep_setB {n m B : Nat} {w X : World} (h : Keep n m w X) (hB : n ≤ B) (v : Value) : Keep n m w (X.setCell ⟨B, 0, none⟩ v) :=
  ⟨h.os, h.tape, h.output, Nat.le_trans h.size (KeepsWalks.setCell X _ v).size, fun k hk hm => (Below.heap_setCell X ⟨B, 0, none⟩ v k (by show k ≠ B; omega)).trans (h.block k hk hm)⟩
/-- The world behind a map's update. -/
noncomputable def updW (t : TypeId) (m k v : Value) (w : World) : World := match (Instr.mapUpdate t m k v).run Try.prog w with | .ok _ w' => w' | _ => w
theorem KMap.upd {K : TypeId} (law : Keyed Try.prog K) {w : World} {b n : Nat} {M : Value → Option Value} (h : KMap K w b n M) {t e : TypeId} (ht : Try.prog.underlying t = some (.map K e)) (hn : n < maxLen) {key : Value} {l : Lit} (hkey : keyOf Try.prog K key = some l) (v : Value) :
    (Instr.mapUpdate t (.map (some b)) key v).run Try.prog w = .ok () (updW t (.map (some b)) key v w) ∧ ∃ M', KMap K (updW t (.map (some b)) key v w) b (n + 1) M' ∧ M' key = some v ∧ (∀ x, x ≠ key → M' x = M x) ∧ w.grownBy (updW t (.map (some b)) key v w) (some b) := by
  obtain ⟨w', M', hrun, r⟩ := h.set law ht hn hkey v
  have e : updW t (.map (some b)) key v w = w' := by unfold updW; rw [hrun]
  rw [e]
  exact ⟨hrun, M', r⟩
theorem grown_drew1 {w w1 : World} {row : Option Nat} (h : w.drew.grownBy w1 row) : w.grownBy w1 row := ⟨h.os, h.tape, h.output, h.size, h.block⟩
theorem below_drew1 {n : Nat} {a b : World} (h : Below n a b) : Below n a b.drew := ⟨h.os, h.tape, h.output, h.size, h.block⟩

/-- The last of it: what was found is noted. -/
theorem above_fin (C : Sd) (i j : Nat) (hi : i < 30) (hj : j < 30) (w w1 : World) (tbl : Value → Option Value) (H : Sides C w tbl) (hq : tbl (pk i j) = none) (w3 : World) (tbl3 : Value → Option Value) (h1 : w.heap.size ≤ w1.heap.size) (hK : Keep w.heap.size C.M w w3) (H3 : Sides C w3 tbl3) (ht : ∀ k l, k < i ∨ l < j ∨ (k = i ∧ l = j) → tbl3 (pk k l) = tbl (pk k l)) (v : Value) :
    ∃ n, KMap 67 (w3.setCell ⟨w1.heap.size, 0, none⟩ v) C.M n tbl3 ∧ n < maxLen ∧ n + 1 < maxLen ∧ ∀ (w4 : World) (tbl4 : Value → Option Value), KMap 67 w4 C.M (n + 1) tbl4 → tbl4 (pk i j) = some (.agg #[.bool (Tm.ab C.rk C.za C.zb i j)]) → (∀ x, x ≠ pk i j → tbl4 x = tbl3 x) → (w3.setCell ⟨w1.heap.size, 0, none⟩ v).grownBy w4 (some C.M) →
      Keep w.heap.size C.M w w4 ∧ ∃ tbl', Sides C w4 tbl' ∧ ∀ k l, k < i ∨ l < j → tbl' (pk k l) = tbl (pk k l) := by
  obtain ⟨n, hKM, htb, hn⟩ := H3.fnd
  have hM := H.ltM
  refine ⟨n, hKM.keep (Below.heap_setCell w3 ⟨w1.heap.size, 0, none⟩ v C.M (by show C.M ≠ w1.heap.size; omega)), by have := Found.small hn; unfold maxLen; omega, by have := Found.small hn; unfold maxLen; omega, fun w4 tbl4 hK4 h4 ho hg => ?_⟩
  have hk5 : Keep w.heap.size C.M w w4 := (keep_setB hK h1 v).trans (Keep.of_grown hg (by have := hK.size; have := (KeepsWalks.setCell w3 ⟨w1.heap.size, 0, none⟩ v).size; omega))
  refine ⟨hk5, tbl4, H.keep hk5 (Found.note hi hj htb hn ((ht i j (.inr (.inr ⟨rfl, rfl⟩))).trans hq) hK4 h4 ho), fun k l hkl => ?_⟩
  rw [ho _ (fun e => by obtain ⟨rfl, rfl⟩ := pk_inj e; omega)]
  exact ht k l (by omega)

set_option maxRecDepth 100000 in
set_option maxHeartbeats 2000000 in
theorem above_step (C : Sd) (O : SdOk C) (i j : Nat) (hi : i < C.za.length) (hj : j < C.zb.length)
    (hP : AboveAt C 65 i j (Tm.bp C.rk C.za C.zb i j (Tm.room (C.za[i]?.getD 0))) fun k l => k ≤ i ∨ l < j)
    (hY : AboveAt C 66 i j (Tm.sy C.rk C.za C.zb i j) fun k l => k < i ∨ l ≤ j) :
    AboveAt C 36 i j (Tm.ab C.rk C.za C.zb i j) fun k l => k < i ∨ l < j := by
  intro w tbl H
  have hB0 : Below w.heap.size w (w.alloc (.cells #[.int .i64 (i : Int), .int .i64 (j : Int)] 67)) := (Below.refl _ w).alloc (Nat.le_refl _) _
  have H1 := H.below hB0
  obtain ⟨w1, hw1⟩ : ∃ w1, w.alloc (.cells #[.int .i64 (i : Int), .int .i64 (j : Int)] 67) = w1 := ⟨_, rfl⟩
  have hblk : w1.heap[w.heap.size]? = some (.cells #[.int .i64 (i : Int), .int .i64 (j : Int)] 67 (0, 0)) := by rw [← hw1]; exact World.alloc_heap_new w _
  have HW := hid hw1
  rw [hw1] at hB0 H1
  clear hw1
  have d0 : w1.cell? ⟨w.heap.size, 0, none⟩ = some (.int .i64 (i : Int)) := by simp [World.cell?, hblk]
  have d1 : w1.cell? ⟨w.heap.size, 1, none⟩ = some (.int .i64 (j : Int)) := by simp [World.cell?, hblk]
  have hlt : w.heap.size < w1.heap.size := (Array.getElem?_eq_some_iff.1 hblk).1
  have c3 := H1.c3
  have la := Tm.err_len O.ea
  have lb := Tm.err_len O.eb
  obtain ⟨l, hl⟩ := pk_key (i := i) (j := j) (by omega) (by omega)
  obtain ⟨n, hK, htb, hn⟩ := H1.fnd
  have HK := hid hK
  cases hq : tbl (pk i j) with
  | some v =>
    have hv := htb i j v hq
    subst hv
    have hS := hid (fun w' (hB : Below w1.heap.size w1 w') => (show w'.cell? ⟨C.S, 3, none⟩ = some (.map (some C.M)) ∧ w'.cell? ⟨w.heap.size, 0, none⟩ = some (.int .i64 (i : Int)) ∧ w'.cell? ⟨w.heap.size, 1, none⟩ = some (.int .i64 (j : Int)) ∧ (Instr.lookup 62 (.map (some C.M)) (.agg #[.int .i64 (i : Int), .int .i64 (j : Int)]) true).run Try.prog w' = .ok (.tuple #[.agg #[.bool (Tm.ab C.rk C.za C.zb i j)], .bool true]) w' from
      ⟨(hB.cell H1.lt).trans c3, (hB.cell hlt).trans d0, (hB.cell hlt).trans d1, by
        have := (HK.out.keep (hB.block _ HK.out.lt)).look lawPlaces Try.underlying62 (lookZero w') hl
        rw [hq] at this
        exact this⟩))
    have HB0 := hid hB0
    have HH1 := hid H1
    generalize Tm.ab C.rk C.za C.zb i j = q at *
    clear hP hY hK htb hn c3 d0 d1 hblk hB0 H1 H HK
    go_enter Try.func36, Try.ntmps36
    go_wp2_with fail
    rw [HW.out]
    have hS0 := hS.out _ (Below.refl _ w1)
    go_region_held3 (fun w' => w'.cell? ⟨C.S, 3, none⟩ = some (.map (some C.M)) ∧ w'.cell? ⟨w.heap.size, 0, none⟩ = some (.int .i64 (i : Int)) ∧ w'.cell? ⟨w.heap.size, 1, none⟩ = some (.int .i64 (j : Int)) ∧ (Instr.lookup 62 (.map (some C.M)) (.agg #[.int .i64 (i : Int), .int .i64 (j : Int)]) true).run Try.prog w' = .ok (.tuple #[.agg #[.bool q], .bool true]) w') (first | assumption | exact hS.out _ (Below.refl _ w1) | exact hS.out _ (below_drewN (Below.refl _ w1) _) | exact hS.out _ ((below_drewN (Below.refl _ w1) _).alloc (Nat.le_refl _) _)) (first | fail)
    all_goals (
      have hB2 : Below w1.heap.size w1 (w1.alloc (.cells #[.bool q] 97)).drew := below_drew1 ((Below.refl _ w1).alloc (Nat.le_refl _) _)
      clear hS hS0
      go_wp2
      go_ret
      exact ⟨rfl, Keep.of_below (HB0.out.trans (hB2.mono HB0.out.size)), tbl, HH1.out.below hB2, fun _ _ _ => rfl⟩)
  | none =>
    have hS := hid (fun w' (hB : Below w1.heap.size w1 w') => (show w'.cell? ⟨C.S, 3, none⟩ = some (.map (some C.M)) ∧ w'.cell? ⟨w.heap.size, 0, none⟩ = some (.int .i64 (i : Int)) ∧ w'.cell? ⟨w.heap.size, 1, none⟩ = some (.int .i64 (j : Int)) ∧ (Instr.lookup 62 (.map (some C.M)) (.agg #[.int .i64 (i : Int), .int .i64 (j : Int)]) true).run Try.prog w' = .ok (.tuple #[.agg #[.bool false], .bool false]) w' from
      ⟨(hB.cell H1.lt).trans c3, (hB.cell hlt).trans d0, (hB.cell hlt).trans d1, by
        have := (HK.out.keep (hB.block _ HK.out.lt)).look lawPlaces Try.underlying62 (lookZero w') hl
        rw [hq] at this
        exact this⟩))
    have hab := hid (Tm.ab_eq (rk := C.rk) O.ea O.eb hi hj)
    have HB0 := hid hB0
    have HH1 := hid H1
    have HH := hid H
    have hB2 : Below w1.heap.size w1 (w1.alloc (.cells #[.bool false] 97)).drew := below_drew1 ((Below.refl _ w1).alloc (Nat.le_refl _) _)
    have b2 : Boxed (w1.alloc (.cells #[.bool false] 97)).drew w1.heap.size 97 (.bool false) := Boxed.new w1 97 (.bool false)
    obtain ⟨w2, hw2⟩ : ∃ w2, (w1.alloc (.cells #[.bool false] 97)).drew = w2 := ⟨_, rfl⟩
    have HW2 := hid hw2
    rw [hw2] at hB2 b2
    clear hw2
    have H2 := H1.below hB2
    have e0 := (hB2.cell (p := ⟨w.heap.size, 0, none⟩) hlt).trans d0
    have e1 := (hB2.cell (p := ⟨w.heap.size, 1, none⟩) hlt).trans d1
    have hlt2 : w.heap.size < w2.heap.size := Nat.lt_of_lt_of_le hlt hB2.size
    have hltM := H.ltM
    have hltS := H.lt
    have hneS := H.neM
    have hkw2 : Keep w.heap.size C.M w w2 := Keep.of_below (hB0.trans (hB2.mono hB0.size))
    have hneW : w.heap.size ≠ C.M := by omega
    have hneB : w1.heap.size ≠ C.M := by omega
    have hCP := hid (hP w2 tbl H2)
    have hCY := hid hY
    have Hq0 := hid hq
    have Hl := hid hl
    generalize hbp : Tm.bp C.rk C.za C.zb i j (Tm.room (C.za[i]?.getD 0)) = bp at *
    generalize hsy : Tm.sy C.rk C.za C.zb i j = sy at *
    have fin := hid (above_fin C i j (by omega) (by omega) w w1 tbl HH.out hq)
    clear hP hY hK htb hn c3 d0 d1 hblk hB0 H1 H HK H2 hq hl hbp hsy
    cases bp with
    | true =>
      have hq1 : Tm.ab C.rk C.za C.zb i j = true := hab.out
      rw [hq1] at fin ⊢
      clear hab hq1 hCY
      go_enter Try.func36, Try.ntmps36
      go_wp2_with fail
      rw [HW.out]
      have hS0 := hS.out _ (Below.refl _ w1)
      go_region_held3 (fun w' => w'.cell? ⟨C.S, 3, none⟩ = some (.map (some C.M)) ∧ w'.cell? ⟨w.heap.size, 0, none⟩ = some (.int .i64 (i : Int)) ∧ w'.cell? ⟨w.heap.size, 1, none⟩ = some (.int .i64 (j : Int)) ∧ (Instr.lookup 62 (.map (some C.M)) (.agg #[.int .i64 (i : Int), .int .i64 (j : Int)]) true).run Try.prog w' = .ok (.tuple #[.agg #[.bool false], .bool false]) w') (first | assumption | exact hS.out _ (Below.refl _ w1) | exact hS.out _ (below_drewN (Below.refl _ w1) _) | exact hS.out _ ((below_drewN (Below.refl _ w1) _).alloc (Nat.le_refl _) _)) (first | fail)
      all_goals (
        rw [HW2.out]
        clear hS hS0
        go_wp2_with (first
          | (go_at_call 65; refine hCP.out.mono ?_; clear hCP; rintro e w3 ⟨rfl, hK3, tbl3, H3, ht3⟩; have f0 := (hK3.cell (p := ⟨w.heap.size, 0, none⟩) hlt2 hneW).trans e0; have f1 := (hK3.cell (p := ⟨w.heap.size, 1, none⟩) hlt2 hneW).trans e1; have b3 : Boxed w3 w1.heap.size 97 (.bool false) := (hK3.block _ b2.lt hneB).trans b2; have g0 := b3.cell; have g1 := b3.frozen; have c3 := H3.c3))
        have hKw3 : Keep w.heap.size C.M w w3 := hkw2.trans (hK3.mono hkw2.size)
        obtain ⟨n, hKM, hnm, hnm2, hfin⟩ := fin.out w3 tbl3 (Nat.le_of_lt hlt) hKw3 H3 (fun k l h => ht3 k l (by omega)) (.bool true)
        have b5 := b3.set (.bool true)
        have m0 := (World.cell?_of_block (a := ⟨w.heap.size, 0, none⟩) (Below.heap_setCell w3 ⟨w1.heap.size, 0, none⟩ (.bool true) w.heap.size (by show w.heap.size ≠ w1.heap.size; omega))).trans f0
        have m1 := (World.cell?_of_block (a := ⟨w.heap.size, 1, none⟩) (Below.heap_setCell w3 ⟨w1.heap.size, 0, none⟩ (.bool true) w.heap.size (by show w.heap.size ≠ w1.heap.size; omega))).trans f1
        have m3 := (World.cell?_of_block (a := ⟨C.S, 3, none⟩) (Below.heap_setCell w3 ⟨w1.heap.size, 0, none⟩ (.bool true) C.S (by show C.S ≠ w1.heap.size; omega))).trans c3
        have hlt5 : w1.heap.size < (w3.setCell ⟨w1.heap.size, 0, none⟩ (.bool true)).heap.size := b5.lt
        generalize w3.setCell ⟨w1.heap.size, 0, none⟩ (.bool true) = w5 at *
        have m4 := b5.cell
        clear f0 f1 c3 g0 g1 e0 e1
        have Hfin := hid hfin
        clear hfin
        have hr5 := (hKM.upd lawPlaces Try.underlying62 hnm Hl.out (.agg #[.bool true])).1
        obtain ⟨hrd, tbl6, hK6, h6, ho6, hgd⟩ := KMap.upd lawPlaces (w := w5.drew) (hKM.keep rfl) Try.underlying62 hnm Hl.out (.agg #[.bool true])
        have hr6 := (hK6.upd lawPlaces Try.underlying62 hnm2 Hl.out (.agg #[.bool true])).1
        have hg6 := grown_drew1 hgd
        have n0 := (World.cell?_of_block (a := ⟨w.heap.size, 0, none⟩) (hg6.block w.heap.size (by omega) (by simpa using hneW))).trans m0
        have n1 := (World.cell?_of_block (a := ⟨w.heap.size, 1, none⟩) (hg6.block w.heap.size (by omega) (by simpa using hneW))).trans m1
        have n3 := (World.cell?_of_block (a := ⟨C.S, 3, none⟩) (hg6.block C.S (by omega) (by simpa using hneS))).trans m3
        have n4 := (World.cell?_of_block (a := ⟨w1.heap.size, 0, none⟩) (hg6.block w1.heap.size (by omega) (by simpa using hneB))).trans m4
        go_region_held3 (fun w' => w'.cell? ⟨C.S, 3, none⟩ = some (.map (some C.M)) ∧ w'.cell? ⟨w.heap.size, 0, none⟩ = some (.int .i64 (i : Int)) ∧ w'.cell? ⟨w.heap.size, 1, none⟩ = some (.int .i64 (j : Int)) ∧ w'.cell? ⟨w1.heap.size, 0, none⟩ = some (.bool true) ∧ (Instr.mapUpdate 62 (.map (some C.M)) (.agg #[.int .i64 (i : Int), .int .i64 (j : Int)]) (.agg #[.bool true])).run Try.prog w' = .ok () (updW 62 (.map (some C.M)) (pk i j) (.agg #[.bool true]) w')) (first | assumption | exact ⟨m3, m0, m1, m4, hr5⟩ | exact ⟨m3, m0, m1, m4, hrd⟩ | exact ⟨n3, n0, n1, n4, hr6⟩) (first | fail)
        all_goals (
          go_wp2
          go_ret
          exact ⟨rfl, Hfin.out _ tbl6 hK6 h6 ho6 hg6⟩))
    | false =>
      have hq1 : Tm.ab C.rk C.za C.zb i j = sy := by rw [hab.out]; rfl
      rw [hq1] at fin ⊢
      clear hab hq1
      go_enter Try.func36, Try.ntmps36
      go_wp2_with fail
      rw [HW.out]
      have hS0 := hS.out _ (Below.refl _ w1)
      go_region_held3 (fun w' => w'.cell? ⟨C.S, 3, none⟩ = some (.map (some C.M)) ∧ w'.cell? ⟨w.heap.size, 0, none⟩ = some (.int .i64 (i : Int)) ∧ w'.cell? ⟨w.heap.size, 1, none⟩ = some (.int .i64 (j : Int)) ∧ (Instr.lookup 62 (.map (some C.M)) (.agg #[.int .i64 (i : Int), .int .i64 (j : Int)]) true).run Try.prog w' = .ok (.tuple #[.agg #[.bool false], .bool false]) w') (first | assumption | exact hS.out _ (Below.refl _ w1) | exact hS.out _ (below_drewN (Below.refl _ w1) _) | exact hS.out _ ((below_drewN (Below.refl _ w1) _).alloc (Nat.le_refl _) _)) (first | fail)
      all_goals (
        rw [HW2.out]
        clear hS hS0
        go_wp2_with (first
          | (go_at_call 65; refine hCP.out.mono ?_; clear hCP; rintro e w3 ⟨rfl, hK3, tbl3, H3, ht3⟩; have f0 := (hK3.cell (p := ⟨w.heap.size, 0, none⟩) hlt2 hneW).trans e0; have f1 := (hK3.cell (p := ⟨w.heap.size, 1, none⟩) hlt2 hneW).trans e1; have b3 : Boxed w3 w1.heap.size 97 (.bool false) := (hK3.block _ b2.lt hneB).trans b2; have hKw3 : Keep w.heap.size C.M w w3 := hkw2.trans (hK3.mono hkw2.size); have hlt3 := Nat.lt_of_lt_of_le hlt2 hK3.size; have hC3 := hid (hCY.out w3 tbl3 H3); clear hCY e0 e1)
          | (go_at_call 66; refine hC3.out.mono ?_; clear hC3; rintro e w4 ⟨rfl, hK4, tbl4, H4, ht4⟩; have f0' := (hK4.cell (p := ⟨w.heap.size, 0, none⟩) hlt3 hneW).trans f0; have f1' := (hK4.cell (p := ⟨w.heap.size, 1, none⟩) hlt3 hneW).trans f1; clear f0 f1; have b4 : Boxed w4 w1.heap.size 97 (.bool false) := (hK4.block _ b3.lt hneB).trans b3; have g0 := b4.cell; have g1 := b4.frozen; have c3 := H4.c3))
        have hKw4 : Keep w.heap.size C.M w w4 := hKw3.trans (hK4.mono hKw3.size)
        obtain ⟨n, hKM, hnm, hnm2, hfin⟩ := fin.out w4 tbl4 (Nat.le_of_lt hlt) hKw4 H4 (fun k l h => (ht4 k l (by omega)).trans (ht3 k l (by omega))) (.bool sy)
        have b5 := b4.set (.bool sy)
        have m0 := (World.cell?_of_block (a := ⟨w.heap.size, 0, none⟩) (Below.heap_setCell w4 ⟨w1.heap.size, 0, none⟩ (.bool sy) w.heap.size (by show w.heap.size ≠ w1.heap.size; omega))).trans f0'
        have m1 := (World.cell?_of_block (a := ⟨w.heap.size, 1, none⟩) (Below.heap_setCell w4 ⟨w1.heap.size, 0, none⟩ (.bool sy) w.heap.size (by show w.heap.size ≠ w1.heap.size; omega))).trans f1'
        have m3 := (World.cell?_of_block (a := ⟨C.S, 3, none⟩) (Below.heap_setCell w4 ⟨w1.heap.size, 0, none⟩ (.bool sy) C.S (by show C.S ≠ w1.heap.size; omega))).trans c3
        have hlt5 : w1.heap.size < (w4.setCell ⟨w1.heap.size, 0, none⟩ (.bool sy)).heap.size := b5.lt
        generalize w4.setCell ⟨w1.heap.size, 0, none⟩ (.bool sy) = w5 at *
        have m4 := b5.cell
        clear f0' f1' c3 g0 g1
        have Hfin := hid hfin
        clear hfin
        have hr5 := (hKM.upd lawPlaces Try.underlying62 hnm Hl.out (.agg #[.bool sy])).1
        obtain ⟨hrd, tbl6, hK6, h6, ho6, hgd⟩ := KMap.upd lawPlaces (w := w5.drew) (hKM.keep rfl) Try.underlying62 hnm Hl.out (.agg #[.bool sy])
        have hr6 := (hK6.upd lawPlaces Try.underlying62 hnm2 Hl.out (.agg #[.bool sy])).1
        have hg6 := grown_drew1 hgd
        have n0 := (World.cell?_of_block (a := ⟨w.heap.size, 0, none⟩) (hg6.block w.heap.size (by omega) (by simpa using hneW))).trans m0
        have n1 := (World.cell?_of_block (a := ⟨w.heap.size, 1, none⟩) (hg6.block w.heap.size (by omega) (by simpa using hneW))).trans m1
        have n3 := (World.cell?_of_block (a := ⟨C.S, 3, none⟩) (hg6.block C.S (by omega) (by simpa using hneS))).trans m3
        have n4 := (World.cell?_of_block (a := ⟨w1.heap.size, 0, none⟩) (hg6.block w1.heap.size (by omega) (by simpa using hneB))).trans m4
        go_region_held3 (fun w' => w'.cell? ⟨C.S, 3, none⟩ = some (.map (some C.M)) ∧ w'.cell? ⟨w.heap.size, 0, none⟩ = some (.int .i64 (i : Int)) ∧ w'.cell? ⟨w.heap.size, 1, none⟩ = some (.int .i64 (j : Int)) ∧ w'.cell? ⟨w1.heap.size, 0, none⟩ = some (.bool sy) ∧ (Instr.mapUpdate 62 (.map (some C.M)) (.agg #[.int .i64 (i : Int), .int .i64 (j : Int)]) (.agg #[.bool sy])).run Try.prog w' = .ok () (updW 62 (.map (some C.M)) (pk i j) (.agg #[.bool sy]) w')) (first | assumption | exact ⟨m3, m0, m1, m4, hr5⟩ | exact ⟨m3, m0, m1, m4, hrd⟩ | exact ⟨n3, n0, n1, n4, hr6⟩) (first | fail)
        all_goals (
          go_wp2
          go_ret
          exact ⟨rfl, Hfin.out _ tbl6 hK6 h6 ho6 hg6⟩))

end Go.Proofs.Ytjaikmlbajdedac

namespace Go.Proofs.Ytjaikmlbajdedac
open Go.Proofs Go.RowKit Go.Shelf Go.Maps

attribute [local go_sem] Oper.semAt_some
attribute [local go_sem ↓] Go.wp_at_zero Go.wp_at_succ

theorem results_boxO {fn : Func} {tmps : Array Value} {w : World} {a B : Nat} {v : Bool} (h : fn.results = #[.cell a 4]) (ht : tmps.getD a undef = .pointer (some ⟨B, 0, none⟩)) (hc : w.cell? ⟨B, 0, none⟩ = some (.bool v)) : (results fn tmps).run Try.prog w = .ok (.bool v) w := by
  have ht' : tmps[a]?.getD undef = .pointer (some ⟨B, 0, none⟩) := by rw [← ht]; simp
  simp only [results, h]
  simp [go_sem, ht', hc]
theorem cells_own {X Y : World} {row : Option Nat} {B C : Nat} {cs : Array Value} {t : TypeId} {p : Nat × Nat} (h : X.heap[C]? = some (.cells cs t p)) (hg : X.grownBy Y row) (hr : ∀ r, row = some r → B ≤ r ∧ ∃ o : Obj, X.heap[r]? = some o ∧ o.isCells = false) : Y.heap[C]? = some (.cells cs t p) :=
  (hg.block C (Array.getElem?_eq_some_iff.1 h).1 (fun e => by
    obtain ⟨_, o, ho, hc⟩ := hr C e.symm
    rw [h] at ho
    cases ho
    simp [Obj.isCells] at hc)).trans h
theorem keep_ownO {n m B : Nat} {w X Y : World} {row : Option Nat} (hn : n ≤ w.heap.size) (hB : n ≤ B) (h : Keep n m w X) (hg : X.grownBy Y row) (hr : ∀ r, row = some r → B ≤ r ∧ ∃ o : Obj, X.heap[r]? = some o ∧ o.isCells = false) : Keep n m w Y :=
  ⟨hg.os.trans h.os, hg.tape.trans h.tape, hg.output.trans h.output, Nat.le_trans h.size hg.size, fun k hk hm => (hg.block k (by have := h.size; omega) (fun e => by have := (hr k e.symm).1; omega)).trans (h.block k hk hm)⟩

/-- The boxes of byPart and its like, and what was found. -/
structure SdInv (C : Sd) (w : World) (tbl : Value → Option Value) (dom : Nat → Nat → Prop) (i j : Nat) (W : World) : Prop where
  fnd : ∃ tbl', Found C W tbl' ∧ ∀ k l, dom k l → tbl' (pk k l) = tbl (pk k l)
  bS : Boxed W w.heap.size 61 (.pointer (some ⟨C.S, 0, none⟩))
  bA : W.heap[w.heap.size + 1]? = some (.cells #[.int .i64 (i : Int), .int .i64 (j : Int)] 67 (0, 0))
  kp : Keep w.heap.size C.M w W
theorem SdInv.own {C : Sd} {w X Y : World} {row : Option Nat} {tbl : Value → Option Value} {dom : Nat → Nat → Prop} {i j B : Nat} (hM : C.M < w.heap.size) (hB : w.heap.size ≤ B) (h : SdInv C w tbl dom i j X) (hg : X.grownBy Y row) (hr : ∀ r, row = some r → B ≤ r ∧ ∃ o : Obj, X.heap[r]? = some o ∧ o.isCells = false) : SdInv C w tbl dom i j Y := by
  obtain ⟨⟨tbl', hf, ht⟩, bS, bA, kp⟩ := h
  exact ⟨⟨tbl', hf.keep (hg.block _ (by have := kp.size; omega) (fun e => by have := (hr _ e.symm).1; omega)), ht⟩, cells_own bS hg hr, cells_own bA hg hr, keep_ownO (Nat.le_refl _) hB kp hg hr⟩

theorem SdInv.sides {C : Sd} {w W : World} {tbl0 tbl : Value → Option Value} {dom : Nat → Nat → Prop} {i j : Nat} (H : Sides C w tbl0) (h : SdInv C w tbl dom i j W) : ∃ tbl', Sides C W tbl' ∧ ∀ k l, dom k l → tbl' (pk k l) = tbl (pk k l) := by
  obtain ⟨⟨tbl', hf, ht⟩, bS, bA, kp⟩ := h
  exact ⟨tbl', H.keep kp hf, ht⟩
theorem pair_cell0 {W : World} {B i j : Nat} (h : W.heap[B]? = some (.cells #[.int .i64 (i : Int), .int .i64 (j : Int)] 67 (0, 0))) : W.cell? ⟨B, 0, none⟩ = some (.int .i64 (i : Int)) := by simp [World.cell?, h]
theorem pair_cell1 {W : World} {B i j : Nat} (h : W.heap[B]? = some (.cells #[.int .i64 (i : Int), .int .i64 (j : Int)] 67 (0, 0))) : W.cell? ⟨B, 1, none⟩ = some (.int .i64 (j : Int)) := by simp [World.cell?, h]

theorem bp_mono {rk za zb : List Int} {i j m n : Nat} (h : m < n) (hm : Tm.bp rk za zb i j (m + 1) = true) : Tm.bp rk za zb i j n = true := by
  simp only [Tm.bp, List.any_eq_true, List.mem_range] at *
  obtain ⟨x, hx, r⟩ := hm
  exact ⟨x, by omega, r⟩
/-- A store into a box. -/
theorem sd_set {C : Sd} {w W : World} {tbl : Value → Option Value} {dom : Nat → Nat → Prop} {i j B : Nat} (h : SdInv C w tbl dom i j W) (hM : C.M < w.heap.size) (hB : w.heap.size + 1 < B) (v : Value) : SdInv C w tbl dom i j (W.setCell ⟨B, 0, none⟩ v) := by
  obtain ⟨⟨tbl', hf, ht⟩, bS, bA, kp⟩ := h
  have hh : ∀ k, k ≠ B → (W.setCell ⟨B, 0, none⟩ v).heap[k]? = W.heap[k]? := fun k hk => Below.heap_setCell W ⟨B, 0, none⟩ v k (by show k ≠ B; exact hk)
  exact ⟨⟨tbl', hf.keep (hh _ (by omega)), ht⟩, (hh _ (by omega)).trans bS, (hh _ (by omega)).trans bA, keep_setB kp (by omega) v⟩
/-- Behind a call. -/
theorem sd_next {C : Sd} {w W W2 W4 : World} {tbl tbl4 : Value → Option Value} {dom : Nat → Nat → Prop} {i j : Nat} (h : SdInv C w tbl dom i j W) (hB : Below W.heap.size W W2) (hK : Keep W2.heap.size C.M W2 W4) (hM : C.M < w.heap.size) (hf : Found C W4 tbl4) (ht : ∀ k l, dom k l → tbl4 (pk k l) = tbl (pk k l)) : SdInv C w tbl dom i j W4 := by
  obtain ⟨_, bS, bA, kp⟩ := h
  have hS := (Array.getElem?_eq_some_iff.1 bS).1
  have hA := (Array.getElem?_eq_some_iff.1 bA).1
  have k2 : Keep w.heap.size C.M w W2 := kp.trans (Keep.of_below (hB.mono kp.size))
  exact ⟨⟨tbl4, hf, ht⟩, (hK.block _ (Nat.lt_of_lt_of_le hS hB.size) (by omega)).trans ((hB.block _ hS).trans bS), (hK.block _ (Nat.lt_of_lt_of_le hA hB.size) (by omega)).trans ((hB.block _ hA).trans bA), k2.trans (hK.mono k2.size)⟩
/-- At the end. -/
theorem sd_done {C : Sd} {w W : World} {tbl0 tbl : Value → Option Value} {dom : Nat → Nat → Prop} {i j D : Nat} {q : Bool} {o : Obj} (H : Sides C w tbl0) (hM : C.M < w.heap.size) (h : SdInv C w tbl dom i j W) (hD : w.heap.size ≤ D) : AboveAns C q dom tbl w (.returned (.bool q)) (W.putObj D o) := by
  obtain ⟨⟨tbl', hf, ht⟩, bS, bA, kp⟩ := h
  have hh : ∀ k, k < w.heap.size → (W.putObj D o).heap[k]? = W.heap[k]? := fun k hk => World.putObj_heap_other (by omega)
  have kp' : Keep w.heap.size C.M w (W.putObj D o) := ⟨kp.os, kp.tape, kp.output, by have := kp.size; simp; omega, fun k hk hm => (hh k hk).trans (kp.block k hk hm)⟩
  exact ⟨rfl, kp', tbl', H.keep kp' (hf.keep (hh _ hM)), ht⟩

/-- What holds ahead of round m of byPart. -/
structure BPInv (C : Sd) (w : World) (tbl : Value → Option Value) (i j m : Nat) (W : World) : Prop where
  no : Tm.bp C.rk C.za C.zb i j m = false
  sd : SdInv C w tbl (fun k l => k ≤ i ∨ l < j) i j W
  bR : Boxed W (w.heap.size + 1 + 1) 4 (.bool false)
  bT : Boxed W (w.heap.size + 1 + 1 + 1) 23 (.slice (some ⟨C.ba, C.fa, none⟩) C.za.length C.ca)
  bK : Boxed W (w.heap.size + 1 + 1 + 1 + 1) 3 (.int .i64 (i : Int))

set_option maxRecDepth 100000 in
set_option maxHeartbeats 2000000 in
theorem byPart_step (C : Sd) (O : SdOk C) (i j : Nat) (hi : i < C.za.length) (hj : j < C.zb.length)
    (hA : ∀ k, i < k → k < C.za.length → AboveAt C 36 k j (Tm.ab C.rk C.za C.zb k j) fun k' l => k' < k ∨ l < j) :
    AboveAt C 65 i j (Tm.bp C.rk C.za C.zb i j (Tm.room (C.za[i]?.getD 0))) fun k l => k ≤ i ∨ l < j := by
  intro w tbl H
  obtain ⟨F, hF⟩ : ∃ F, F = Fence.wide := ⟨_, rfl⟩
  refine (callsIn_wide (n := 3)).1 ?_
  rw [← hF]
  obtain ⟨hro, hfn, hdd, hcin⟩ := wide_facts hF
  have HPl : Hid (Pl F) := by rw [hF]; exact wide_pl
  have HF := hid hF
  clear hF
  have hf1 := hfn 65
  have hf2 := hfn 36
  have hf3 := hfn 70
  have hf4 := hfn 93
  have hf5 := hfn 90
  clear hfn
  have la := Tm.err_len O.ea
  have hltM := H.ltM
  have hltS := H.lt
  obtain ⟨W3, hW3⟩ : ∃ W3, ((w.alloc (.cells #[.pointer (some ⟨C.S, 0, none⟩)] 61)).alloc (.cells #[.int .i64 (i : Int), .int .i64 (j : Int)] 67)).alloc (.cells #[.bool false] 4) = W3 := ⟨_, rfl⟩
  have hB0 : Below w.heap.size w W3 := by rw [← hW3]; exact (((Below.refl _ w).alloc (Nat.le_refl _) _).alloc (by simp) _).alloc (by simp; omega) _
  have bS : Boxed W3 w.heap.size 61 (.pointer (some ⟨C.S, 0, none⟩)) := by rw [← hW3]; exact ((Boxed.new w 61 (.pointer (some ⟨C.S, 0, none⟩))).alloc _).alloc _
  have bA : W3.heap[w.heap.size + 1]? = some (.cells #[.int .i64 (i : Int), .int .i64 (j : Int)] 67 (0, 0)) := by
    rw [← hW3]
    have h1 := World.alloc_heap_new (w.alloc (.cells #[.pointer (some ⟨C.S, 0, none⟩)] 61)) (.cells #[.int .i64 (i : Int), .int .i64 (j : Int)] 67)
    rw [World.size_alloc] at h1
    exact (Below.heap_alloc _ _ _ (by simp)).trans h1
  have bR : Boxed W3 (w.heap.size + 1 + 1) 4 (.bool false) := by
    rw [← hW3]
    have h1 := Boxed.new ((w.alloc (.cells #[.pointer (some ⟨C.S, 0, none⟩)] 61)).alloc (.cells #[.int .i64 (i : Int), .int .i64 (j : Int)] 67)) 4 (.bool false)
    simpa using h1
  have hs3 : W3.heap.size = w.heap.size + 1 + 1 + 1 := by rw [← hW3]; simp
  have HW3 := hid hW3
  clear hW3
  have H3 := H.below hB0
  have c1 := H3.c1
  have cS := bS.cell
  have cA := pair_cell0 bA
  have hS := hid (fun w' (hB : Below W3.heap.size W3 w') => (show w'.cell? ⟨C.S, 1, none⟩ = some (.slice (some ⟨C.ba, C.fa, none⟩) C.za.length C.ca) ∧ w'.cell? ⟨w.heap.size, 0, none⟩ = some (.pointer (some ⟨C.S, 0, none⟩)) ∧ w'.cell? ⟨w.heap.size + 1, 0, none⟩ = some (.int .i64 (i : Int)) from
    ⟨(hB.cell H3.lt).trans c1, (hB.cell bS.lt).trans cS, (hB.cell (p := ⟨w.heap.size + 1, 0, none⟩) (by show w.heap.size + 1 < _; omega)).trans cA⟩))
  obtain ⟨W5, hW5⟩ : ∃ W5, ((W3.alloc (.cells #[.slice (some ⟨C.ba, C.fa, none⟩) C.za.length C.ca] 23)).alloc (.cells #[.int .i64 (i : Int)] 3)).drew = W5 := ⟨_, rfl⟩
  have hB35 : Below W3.heap.size W3 W5 := by rw [← hW5]; exact below_drew1 (((Below.refl _ W3).alloc (Nat.le_refl _) _).alloc (by simp) _)
  have bT5 : Boxed W5 (w.heap.size + 1 + 1 + 1) 23 (.slice (some ⟨C.ba, C.fa, none⟩) C.za.length C.ca) := by
    rw [← hW5, ← hs3]; exact (Boxed.new W3 23 (.slice (some ⟨C.ba, C.fa, none⟩) C.za.length C.ca)).alloc _
  have bK5 : Boxed W5 (w.heap.size + 1 + 1 + 1 + 1) 3 (.int .i64 (i : Int)) := by
    have h1 := Boxed.new (W3.alloc (.cells #[.slice (some ⟨C.ba, C.fa, none⟩) C.za.length C.ca] 23)) 3 (.int .i64 (i : Int))
    rw [World.size_alloc, hs3] at h1
    rw [← hW5]; exact h1
  have hs5 : W5.heap.size = w.heap.size + 1 + 1 + 1 + 1 + 1 := by rw [← hW5]; show ((W3.alloc _).alloc _).heap.size = _; simp [hs3]
  have HW5 := hid hW5
  clear hW5
  have bS5 : Boxed W5 w.heap.size 61 (.pointer (some ⟨C.S, 0, none⟩)) := (hB35.block _ bS.lt).trans bS
  have bA5 := (hB35.block _ (by omega)).trans bA
  have bR5 : Boxed W5 (w.heap.size + 1 + 1) 4 (.bool false) := (hB35.block _ bR.lt).trans bR
  have hB5 : Below w.heap.size w W5 := hB0.trans (hB35.mono hB0.size)
  have I0 : BPInv C w tbl i j 0 W5 := ⟨rfl, ⟨⟨tbl, H.fnd.keep (hB5.block _ hltM), fun _ _ _ => rfl⟩, bS5, bA5, Keep.of_below hB5⟩, bR5, bT5, bK5⟩
  have hkp : ∀ m, m < Tm.room (C.za[i]?.getD 0) → Tm.pos C.za i m < C.za.length := fun m hm => by
    have h1 := Tm.pos_part O.ea hi m (by omega)
    have h2 := Tm.pos_in (Tm.part_err O.ea hi) (m := m) (by rw [Tm.sym_part O.ea hi]; exact hm)
    rw [Tm.part_length O.ea hi] at h2
    have h3 := Tm.end_in O.ea hi
    omega
  have HI0 := hid I0
  have Hkp := hid hkp
  have HH := hid H
  have HA := hid hA
  have HO := hid O
  have Hlb := hid (Tm.err_len O.eb)
  clear H3 c1 cS cA bS bA bR bT5 bK5 bS5 bA5 bR5 I0 hkp hA hB35 hB5 hB0 H O
  refine callsIn_of_wp_marks Try.func65 rfl hf1 ?_ hro
  simp only [Try.ntmps65, List.size_toArray, List.length_cons, List.length_nil, Nat.reduceAdd, Nat.reduceSub, Array.replicate_succ, Array.replicate_zero, List.push_toArray, List.append_toArray, List.nil_append, List.cons_append]
  gi_wp2_with fail
  rw [HW3.out]
  rw [HF.out]
  refine wpIn_wide.2 ?_
  have hS0 := hS.out _ (Below.refl _ W3)
  go_region_held3 (fun w' => w'.cell? ⟨C.S, 1, none⟩ = some (.slice (some ⟨C.ba, C.fa, none⟩) C.za.length C.ca) ∧ w'.cell? ⟨w.heap.size, 0, none⟩ = some (.pointer (some ⟨C.S, 0, none⟩)) ∧ w'.cell? ⟨w.heap.size + 1, 0, none⟩ = some (.int .i64 (i : Int))) (first | assumption | exact hS.out _ (Below.refl _ W3) | exact hS.out _ (below_drewN (Below.refl _ W3) 1)) (first
    | (go_at_call 70; refine (callsIn_wide.1 (partsx_in Fence.wide wide_pl 0 _ _ _ _ _)).mono ?_; rintro e w' ⟨rfl, rfl⟩; have hS1 := hS.out _ (((below_drewN (Below.refl _ W3) 1).alloc (Nat.le_refl _) (.cells #[.slice (some ⟨C.ba, C.fa, none⟩) C.za.length C.ca] 23)).alloc (by simp) (.cells #[.int .i64 (i : Int)] 3))))
  rw [HW5.out]
  rename_i hHeld
  clear hS hS0 hS1 hHeld
  gi_wp2_with fail
  refine wpIn_rangeSteps hro (by omega) (gf := 93) (lb := #[.pointer (some ⟨w.heap.size + 1 + 1 + 1 + 1, 0, none⟩), .pointer (some ⟨w.heap.size + 1 + 1 + 1, 0, none⟩)]) rfl hf4 (enters_of Try.func93 (by kernel_rfl) rfl)
    (parts_steps F HPl.out _ (w.heap.size + 1 + 1 + 1 + 1) (w.heap.size + 1 + 1 + 1) i C.ca (some ⟨C.ba, C.fa, none⟩) C.za (by omega) hi (ends_beyond F HPl.out C.za (by omega) _ C.ca i)) (fun _ => rfl)
    (BPInv C w tbl i j)
    (fun c W => c = .ret ∧ Tm.bp C.rk C.za C.zb i j (Tm.room (C.za[i]?.getD 0)) = true ∧ SdInv C w tbl (fun k l => k ≤ i ∨ l < j) i j W ∧ Boxed W (w.heap.size + 1 + 1) 4 (.bool true)) (fun _ _ => False) (.inl fun _ _ h => h)
    (by
      rintro m X Y row ⟨no, sd, bR, bT, bK⟩ hg hr
      exact ⟨no, sd.own hltM (by omega) hg hr, cells_own bR hg hr, cells_own bT hg hr, cells_own bK hg hr⟩)
    (by
      rintro c X Y row ⟨e, hq, sd, bR⟩ hg hr
      exact ⟨e, hq, sd.own hltM (by omega) hg hr, cells_own bR hg hr⟩)
    (fun m W hI => ⟨hI.bK.cell, hI.bT.cell, by obtain ⟨tbl', hS, _⟩ := hI.sd.sides HH.out; exact hS.ia⟩)
    HI0.out
    (fun m => { tmps := #[.pointer (some ⟨C.S, 0, none⟩), .agg #[.int .i64 (i : Int), .int .i64 (j : Int)], .pointer (some ⟨w.heap.size, 0, none⟩), .pointer (some ⟨w.heap.size + 1, 0, none⟩), .pointer (some ⟨w.heap.size + 1 + 1, 0, none⟩), .int .i64 (Tm.pos C.za i m : Int), undef,
      .pointer (some ⟨C.S, 0, none⟩), .pointer (some ⟨C.S, 0, none⟩), .pointer (some ⟨C.S, 1, none⟩), .slice (some ⟨C.ba, C.fa, none⟩) C.za.length C.ca, .pointer (some ⟨w.heap.size + 1, 0, none⟩), .int .i64 (i : Int), .func (.func 93) #[] #[.pointer (some ⟨w.heap.size + 1 + 1 + 1 + 1, 0, none⟩), .pointer (some ⟨w.heap.size + 1 + 1 + 1, 0, none⟩)],
      .int .i64 (Tm.pos C.za i m : Int), .int .i64 (Tm.pos C.za i (m + 1) : Int), undef, undef, undef, undef, undef, undef, undef, undef, undef, undef, undef, undef], defers := [] }) ?assign ?body ?done ?stop ?panic
  case assign =>
    intro l m W K hK
    simp only [encPart]
    gi_wp2
    exact hK
  case body =>
    rintro l m W hI hm
    obtain ⟨no, sd, bR, bT, bK⟩ := hI
    have hm' : m < Tm.room (C.za[i]?.getD 0) := hm
    have hp := Hkp.out m hm'
    have hgt := Tm.pos_gt C.za i m
    obtain ⟨tbl', Sd', ht'⟩ := sd.sides HH.out
    have hB1 : Below W.heap.size W (W.alloc (.cells #[.int .i64 (Tm.pos C.za i m : Int), .int .i64 (j : Int)] 67)) := (Below.refl _ W).alloc (Nat.le_refl _) _
    have blk1 := World.alloc_heap_new W (.cells #[.int .i64 (Tm.pos C.za i m : Int), .int .i64 (j : Int)] 67)
    have S1 := Sd'.below hB1
    have bS1 : Boxed (W.alloc (.cells #[.int .i64 (Tm.pos C.za i m : Int), .int .i64 (j : Int)] 67)) w.heap.size 61 (.pointer (some ⟨C.S, 0, none⟩)) := (hB1.block _ sd.bS.lt).trans sd.bS
    have e1 := pair_cell0 blk1
    have e2 := pair_cell1 blk1
    have e3 := bS1.cell
    have e4 := pair_cell1 sd.bA
    have hltW : W.heap.size < (W.alloc (.cells #[.int .i64 (Tm.pos C.za i m : Int), .int .i64 (j : Int)] 67)).heap.size := by simp
    have hCs := hid (CallsIn.inRound l (hcin (n := 0) (sidesSame_any C HO.out (Tm.pos C.za i m) j hp hj (W.alloc (.cells #[.int .i64 (Tm.pos C.za i m : Int), .int .i64 (j : Int)] 67)) tbl' S1)))
    unfold pk at hCs
    have hbs := hid (Tm.bp_succ C.rk C.za C.zb i j m)
    have hkw := sd.kp
    have hCa := hid (fun W2 (hB2 : Below (W.alloc (.cells #[.int .i64 (Tm.pos C.za i m : Int), .int .i64 (j : Int)] 67)).heap.size (W.alloc (.cells #[.int .i64 (Tm.pos C.za i m : Int), .int .i64 (j : Int)] 67)) W2) => CallsIn.inRound l (hcin (n := 0) (HA.out (Tm.pos C.za i m) hgt hp W2 tbl' (S1.below hB2))))
    have HS1 := hid S1
    have Hsd := hid sd
    have Hht := hid ht'
    have Hno := hid no
    clear sd S1 Sd' ht' no
    have hfb := fun (k : Nat) (o : Obj) (hk : W5.heap.size ≤ k) (ho : W.heap[k]? = some o) => (show k < W.heap.size ∧ k ≠ C.M from ⟨(Array.getElem?_eq_some_iff.1 ho).1, by omega⟩)
    cases hq1 : Tm.sm C.za C.zb (Tm.pos C.za i m) j with
    | true =>
      rw [hq1] at hCs hbs
      clear hCa
      gi_wp2_with (first
        | ((try refine ⟨hdd _, ?_⟩); gi_at_call 90; refine hCs.out.mono ?_; clear hCs; rintro e W2 ⟨rfl, hB2⟩; have hB12 : Below W.heap.size W W2 := hB1.trans (hB2.mono hB1.size); have bR2 : Boxed W2 (w.heap.size + 1 + 1) 4 (.bool false) := (hB12.block _ bR.lt).trans bR; have cR := bR2.cell; have fR := bR2.frozen; have g1 := (hB2.cell (p := ⟨W.heap.size, 0, none⟩) hltW).trans e1; have g2 := (hB2.cell (p := ⟨W.heap.size, 1, none⟩) hltW).trans e2; have bS2 : Boxed W2 w.heap.size 61 (.pointer (some ⟨C.S, 0, none⟩)) := (hB2.block _ bS1.lt).trans bS1; have g3 := bS2.cell))
      have hq : Tm.bp C.rk C.za C.zb i j (Tm.room (C.za[i]?.getD 0)) = true := bp_mono hm' (by rw [hbs.out]; simp)
      refine ⟨(⟨hB12.size, fun k o hk ho _ => (hB12.block k (hfb k o hk ho).1).trans ho⟩ : KeepsFrom W5.heap.size W W2).trans ((KeepsOthers.setCell _ _ _).from _), rfl, hq, ?_, bR2.set _⟩
      have hkw2 : Keep w.heap.size C.M w W2 := hkw.trans (Keep.of_below (hB12.mono hkw.size))
      obtain ⟨tf, hf, htf⟩ := Hsd.out.fnd
      exact sd_set ⟨⟨tf, hf.keep (hB12.block _ (by have := hkw.size; omega)), htf⟩, (hB12.block _ Hsd.out.bS.lt).trans Hsd.out.bS, (hB12.block _ (by have := bR.lt; omega)).trans Hsd.out.bA, hkw2⟩ hltM (by omega) _
    | false =>
      rw [hq1] at hCs hbs
      cases hq2 : Tm.ab C.rk C.za C.zb (Tm.pos C.za i m) j with
      | true =>
        rw [hq2] at hCa hbs
        gi_wp2_with (first
          | ((try refine ⟨hdd _, ?_⟩); gi_at_call 90; refine hCs.out.mono ?_; clear hCs; rintro e W2 ⟨rfl, hB2⟩; have hB12 : Below W.heap.size W W2 := hB1.trans (hB2.mono hB1.size); have bR2 : Boxed W2 (w.heap.size + 1 + 1) 4 (.bool false) := (hB12.block _ bR.lt).trans bR; have cR := bR2.cell; have fR := bR2.frozen; have g1 := (hB2.cell (p := ⟨W.heap.size, 0, none⟩) hltW).trans e1; have g2 := (hB2.cell (p := ⟨W.heap.size, 1, none⟩) hltW).trans e2; have bS2 : Boxed W2 w.heap.size 61 (.pointer (some ⟨C.S, 0, none⟩)) := (hB2.block _ bS1.lt).trans bS1; have g3 := bS2.cell)
          | ((try refine ⟨hdd _, ?_⟩); gi_at_call 36; refine (hCa.out W2 hB2).mono ?_; clear hCa; rintro e W4 ⟨rfl, hK4, tbl4, S4, ht4⟩; have hne : ∀ k, w.heap.size ≤ k → k ≠ C.M := (fun k hk e => by omega); have hltW2 := hB12.size; have bR4 : Boxed W4 (w.heap.size + 1 + 1) 4 (.bool false) := (hK4.block _ bR2.lt (hne _ (by omega))).trans bR2; have cR4 := bR4.cell; have fR4 := bR4.frozen))
        have hq : Tm.bp C.rk C.za C.zb i j (Tm.room (C.za[i]?.getD 0)) = true := bp_mono hm' (by rw [hbs.out]; simp)
        refine ⟨(⟨Nat.le_trans hB12.size hK4.size, fun k o hk ho _ => ((hK4.block k (Nat.lt_of_lt_of_le (hfb k o hk ho).1 hltW2) (hfb k o hk ho).2).trans (hB12.block k (hfb k o hk ho).1)).trans ho⟩ : KeepsFrom W5.heap.size W W4).trans ((KeepsOthers.setCell _ _ _).from _), rfl, hq, ?_, bR4.set _⟩
        exact sd_set (sd_next Hsd.out hB12 hK4 hltM S4.fnd (fun k l h => (ht4 k l (by omega)).trans (Hht.out k l h))) hltM (by omega) _
      | false =>
        rw [hq2] at hCa hbs
        gi_wp2_with (first
          | ((try refine ⟨hdd _, ?_⟩); gi_at_call 90; refine hCs.out.mono ?_; clear hCs; rintro e W2 ⟨rfl, hB2⟩; have hB12 : Below W.heap.size W W2 := hB1.trans (hB2.mono hB1.size); have bR2 : Boxed W2 (w.heap.size + 1 + 1) 4 (.bool false) := (hB12.block _ bR.lt).trans bR; have cR := bR2.cell; have fR := bR2.frozen; have g1 := (hB2.cell (p := ⟨W.heap.size, 0, none⟩) hltW).trans e1; have g2 := (hB2.cell (p := ⟨W.heap.size, 1, none⟩) hltW).trans e2; have bS2 : Boxed W2 w.heap.size 61 (.pointer (some ⟨C.S, 0, none⟩)) := (hB2.block _ bS1.lt).trans bS1; have g3 := bS2.cell)
          | ((try refine ⟨hdd _, ?_⟩); gi_at_call 36; refine (hCa.out W2 hB2).mono ?_; clear hCa; rintro e W4 ⟨rfl, hK4, tbl4, S4, ht4⟩; have hne : ∀ k, w.heap.size ≤ k → k ≠ C.M := (fun k hk e => by omega); have hltW2 := hB12.size; have bR4 : Boxed W4 (w.heap.size + 1 + 1) 4 (.bool false) := (hK4.block _ bR2.lt (hne _ (by omega))).trans bR2; have cR4 := bR4.cell; have fR4 := bR4.frozen))
        refine ⟨⟨Nat.le_trans hB12.size hK4.size, fun k o hk ho _ => ((hK4.block k (Nat.lt_of_lt_of_le (hfb k o hk ho).1 hltW2) (hfb k o hk ho).2).trans (hB12.block k (hfb k o hk ho).1)).trans ho⟩, ?_⟩
        refine ⟨by rw [hbs.out, Hno.out]; rfl, sd_next Hsd.out hB12 hK4 hltM S4.fnd (fun k l h => (ht4 k l (by omega)).trans (Hht.out k l h)), bR4, ?_, ?_⟩
        · exact (hK4.block _ (Nat.lt_of_lt_of_le bT.lt hltW2) (hne _ (by omega))).trans ((hB12.block _ bT.lt).trans bT)
        · exact (hK4.block _ (Nat.lt_of_lt_of_le bK.lt hltW2) (hne _ (by omega))).trans ((hB12.block _ bK.lt).trans bK)
  case done =>
    rintro D W hD ⟨no, sd, bR, bT, bK⟩ hDd
    have c1 := bR.cell
    have c2 := bR.frozen
    rw [hs5] at hD
    have no' : Tm.bp C.rk C.za C.zb i j (Tm.room (C.za[i]?.getD 0)) = false := no
    gi_wp2
    have bR2 := bR.set (.bool false)
    have hDd2 : (W.setCell ⟨w.heap.size + 1 + 1, 0, none⟩ (.bool false)).heap[D]? = some (.deferred (some [])) := (Below.heap_setCell W ⟨w.heap.size + 1 + 1, 0, none⟩ _ D (show D ≠ w.heap.size + 1 + 1 by omega)).trans hDd
    refine ⟨by simp, .inl ⟨_, _, rfl, run_takeDeferred hDd2, ?_⟩⟩
    refine ⟨_, results_boxO rfl rfl ((World.cell?_of_block (a := ⟨w.heap.size + 1 + 1, 0, none⟩) (World.putObj_heap_other (show w.heap.size + 1 + 1 ≠ D by omega))).trans bR2.cell), ?_⟩
    rw [no']
    exact sd_done HH.out hltM (sd_set sd hltM (by omega) _) (by omega)
  case stop =>
    rintro D c W hD ⟨rfl, hq, sd, bR⟩ hDd
    have c1 := bR.cell
    rw [hs5] at hD
    gi_wp2
    refine ⟨by simp, .inl ⟨_, _, rfl, run_takeDeferred hDd, ?_⟩⟩
    refine ⟨_, results_boxO rfl rfl ((World.cell?_of_block (a := ⟨w.heap.size + 1 + 1, 0, none⟩) (World.putObj_heap_other (show w.heap.size + 1 + 1 ≠ D by omega))).trans c1), ?_⟩
    rw [hq]
    exact sd_done HH.out hltM sd (by omega)
  case panic => exact fun _ _ _ _ h => h.elim

end Go.Proofs.Ytjaikmlbajdedac

namespace Go.Proofs.Ytjaikmlbajdedac
open Go.Proofs Go.RowKit Go.Shelf Go.Maps

attribute [local go_sem] Oper.semAt_some
attribute [local go_sem ↓] Go.wp_at_zero Go.wp_at_succ

theorem sd_below {C : Sd} {w W W2 : World} {tbl : Value → Option Value} {dom : Nat → Nat → Prop} {i j : Nat} (h : SdInv C w tbl dom i j W) (hB : Below W.heap.size W W2) (hM : C.M < w.heap.size) : SdInv C w tbl dom i j W2 := by
  obtain ⟨⟨tf, hf, htf⟩, bS, bA, kp⟩ := h
  exact ⟨⟨tf, hf.keep (hB.block _ (by have := kp.size; omega)), htf⟩, (hB.block _ (Array.getElem?_eq_some_iff.1 bS).1).trans bS, (hB.block _ (Array.getElem?_eq_some_iff.1 bA).1).trans bA, kp.trans (Keep.of_below (hB.mono kp.size))⟩
/-- What holds ahead of round m of byFirstThatDiffers. -/
structure FDInv (C : Sd) (w : World) (tbl : Value → Option Value) (i j m : Nat) (W : World) : Prop where
  no : Tm.sms C.za C.zb i j m = true
  sd : SdInv C w tbl (fun k l => k ≤ i ∨ l ≤ j) i j W
  bR : Boxed W (w.heap.size + 1 + 1) 4 (.bool false)
  bG : Boxed W (w.heap.size + 1 + 1 + 1) 3 (.int .i64 (Tm.pos C.zb j m : Int))
  bT : Boxed W (w.heap.size + 1 + 1 + 1 + 1) 23 (.slice (some ⟨C.ba, C.fa, none⟩) C.za.length C.ca)
  bK : Boxed W (w.heap.size + 1 + 1 + 1 + 1 + 1) 3 (.int .i64 (i : Int))

set_option maxRecDepth 100000 in
set_option maxHeartbeats 2000000 in
theorem byFirst_step (C : Sd) (O : SdOk C) (i j : Nat) (hi : i < C.za.length) (hj : j < C.zb.length) (hsy : C.za[i]?.getD 0 = C.zb[j]?.getD 0)
    (hA : ∀ k l, i < k → k < C.za.length → j < l → l < C.zb.length → AboveAt C 36 k l (Tm.ab C.rk C.za C.zb k l) fun k' l' => k' < k ∨ l' < l) :
    AboveAt C 91 i j (Tm.fd C.rk C.za C.zb i j (Tm.room (C.za[i]?.getD 0))) fun k l => k ≤ i ∨ l ≤ j := by
  intro w tbl H
  obtain ⟨F, hF⟩ : ∃ F, F = Fence.wide := ⟨_, rfl⟩
  refine (callsIn_wide (n := 3)).1 ?_
  rw [← hF]
  obtain ⟨hro, hfn, hdd, hcin⟩ := wide_facts hF
  have HPl : Hid (Pl F) := by rw [hF]; exact wide_pl
  have HF := hid hF
  clear hF
  have hf1 := hfn 91
  have hf2 := hfn 36
  have hf3 := hfn 70
  have hf4 := hfn 93
  have hf5 := hfn 90
  have hfn' := hfn
  clear hfn
  have hf6 := hfn' 45
  have la := Tm.err_len O.ea
  have lb := Tm.err_len O.eb
  have hltM := H.ltM
  have hltS := H.lt
  obtain ⟨W3, hW3⟩ : ∃ W3, (((w.alloc (.cells #[.pointer (some ⟨C.S, 0, none⟩)] 61)).alloc (.cells #[.int .i64 (i : Int), .int .i64 (j : Int)] 67)).alloc (.cells #[.bool false] 4)).alloc (.cells #[.int .i64 ((j : Int) + 1)] 3) = W3 := ⟨_, rfl⟩
  have hB0 : Below w.heap.size w W3 := by rw [← hW3]; exact ((((Below.refl _ w).alloc (Nat.le_refl _) _).alloc (by simp) _).alloc (by simp; omega) _).alloc (by simp; omega) _
  have bS : Boxed W3 w.heap.size 61 (.pointer (some ⟨C.S, 0, none⟩)) := by rw [← hW3]; exact (((Boxed.new w 61 (.pointer (some ⟨C.S, 0, none⟩))).alloc _).alloc _).alloc _
  have bA : W3.heap[w.heap.size + 1]? = some (.cells #[.int .i64 (i : Int), .int .i64 (j : Int)] 67 (0, 0)) := by
    rw [← hW3]
    have h1 := World.alloc_heap_new (w.alloc (.cells #[.pointer (some ⟨C.S, 0, none⟩)] 61)) (.cells #[.int .i64 (i : Int), .int .i64 (j : Int)] 67)
    rw [World.size_alloc] at h1
    exact (Below.heap_alloc _ _ _ (by simp)).trans ((Below.heap_alloc _ _ _ (by simp)).trans h1)
  have bR : Boxed W3 (w.heap.size + 1 + 1) 4 (.bool false) := by
    rw [← hW3]
    have h1 := Boxed.new ((w.alloc (.cells #[.pointer (some ⟨C.S, 0, none⟩)] 61)).alloc (.cells #[.int .i64 (i : Int), .int .i64 (j : Int)] 67)) 4 (.bool false)
    simp only [World.size_alloc] at h1
    exact h1.alloc _
  have bG : Boxed W3 (w.heap.size + 1 + 1 + 1) 3 (.int .i64 (Tm.pos C.zb j 0 : Int)) := by
    rw [← hW3, Tm.pos_zero]
    have h1 := Boxed.new (((w.alloc (.cells #[.pointer (some ⟨C.S, 0, none⟩)] 61)).alloc (.cells #[.int .i64 (i : Int), .int .i64 (j : Int)] 67)).alloc (.cells #[.bool false] 4)) 3 (.int .i64 ((j : Int) + 1))
    simp only [World.size_alloc] at h1
    exact h1
  have hs3 : W3.heap.size = w.heap.size + 1 + 1 + 1 + 1 := by rw [← hW3]; simp
  have HW3 := hid hW3
  clear hW3
  have H3 := H.below hB0
  have c1 := H3.c1
  have cS := bS.cell
  have cA := pair_cell0 bA
  have hS := hid (fun w' (hB : Below W3.heap.size W3 w') => (show w'.cell? ⟨C.S, 1, none⟩ = some (.slice (some ⟨C.ba, C.fa, none⟩) C.za.length C.ca) ∧ w'.cell? ⟨w.heap.size, 0, none⟩ = some (.pointer (some ⟨C.S, 0, none⟩)) ∧ w'.cell? ⟨w.heap.size + 1, 0, none⟩ = some (.int .i64 (i : Int)) from
    ⟨(hB.cell H3.lt).trans c1, (hB.cell bS.lt).trans cS, (hB.cell (p := ⟨w.heap.size + 1, 0, none⟩) (by show w.heap.size + 1 < _; omega)).trans cA⟩))
  obtain ⟨W5, hW5⟩ : ∃ W5, ((W3.alloc (.cells #[.slice (some ⟨C.ba, C.fa, none⟩) C.za.length C.ca] 23)).alloc (.cells #[.int .i64 (i : Int)] 3)).drew = W5 := ⟨_, rfl⟩
  have hB35 : Below W3.heap.size W3 W5 := by rw [← hW5]; exact below_drew1 (((Below.refl _ W3).alloc (Nat.le_refl _) _).alloc (by simp) _)
  have bT5 : Boxed W5 (w.heap.size + 1 + 1 + 1 + 1) 23 (.slice (some ⟨C.ba, C.fa, none⟩) C.za.length C.ca) := by
    rw [← hW5, ← hs3]; exact (Boxed.new W3 23 (.slice (some ⟨C.ba, C.fa, none⟩) C.za.length C.ca)).alloc _
  have bK5 : Boxed W5 (w.heap.size + 1 + 1 + 1 + 1 + 1) 3 (.int .i64 (i : Int)) := by
    have h1 := Boxed.new (W3.alloc (.cells #[.slice (some ⟨C.ba, C.fa, none⟩) C.za.length C.ca] 23)) 3 (.int .i64 (i : Int))
    rw [World.size_alloc, hs3] at h1
    rw [← hW5]; exact h1
  have hs5 : W5.heap.size = w.heap.size + 1 + 1 + 1 + 1 + 1 + 1 := by rw [← hW5]; show ((W3.alloc _).alloc _).heap.size = _; simp [hs3]
  have HW5 := hid hW5
  clear hW5
  have bS5 : Boxed W5 w.heap.size 61 (.pointer (some ⟨C.S, 0, none⟩)) := (hB35.block _ bS.lt).trans bS
  have bA5 := (hB35.block _ (by omega)).trans bA
  have bR5 : Boxed W5 (w.heap.size + 1 + 1) 4 (.bool false) := (hB35.block _ bR.lt).trans bR
  have bG5 : Boxed W5 (w.heap.size + 1 + 1 + 1) 3 (.int .i64 (Tm.pos C.zb j 0 : Int)) := (hB35.block _ bG.lt).trans bG
  have hB5 : Below w.heap.size w W5 := hB0.trans (hB35.mono hB0.size)
  have I0 : FDInv C w tbl i j 0 W5 := ⟨rfl, ⟨⟨tbl, H.fnd.keep (hB5.block _ hltM), fun _ _ _ => rfl⟩, bS5, bA5, Keep.of_below hB5⟩, bR5, bG5, bT5, bK5⟩
  have hkp : ∀ m, m < Tm.room (C.za[i]?.getD 0) → Tm.pos C.za i m < C.za.length := fun m hm => by
    have h1 := Tm.pos_part O.ea hi m (by omega)
    have h2 := Tm.pos_in (Tm.part_err O.ea hi) (m := m) (by rw [Tm.sym_part O.ea hi]; exact hm)
    rw [Tm.part_length O.ea hi] at h2
    have h3 := Tm.end_in O.ea hi
    omega
  have hkp2 : ∀ m, m < Tm.room (C.za[i]?.getD 0) → Tm.pos C.zb j m < C.zb.length := fun m hm => by
    have h1 := Tm.pos_part O.eb hj m (by rw [← hsy]; omega)
    have h2 := Tm.pos_in (Tm.part_err O.eb hj) (m := m) (by rw [Tm.sym_part O.eb hj, ← hsy]; exact hm)
    rw [Tm.part_length O.eb hj] at h2
    have h3 := Tm.end_in O.eb hj
    omega
  have Hkp2 := hid hkp2
  have hjI : (j : Int) < 30 := by omega
  have HI0 := hid I0
  have Hkp := hid hkp
  have HH := hid H
  have HA := hid hA
  have HO := hid O
  clear H3 c1 cS cA bS bA bR bG bT5 bK5 bS5 bA5 bR5 bG5 I0 hkp hkp2 hsy hA hB35 hB5 hB0 H O
  refine callsIn_of_wp_marks Try.func91 rfl hf1 ?_ hro
  simp only [Try.ntmps91, List.size_toArray, List.length_cons, List.length_nil, Nat.reduceAdd, Nat.reduceSub, Array.replicate_succ, Array.replicate_zero, List.push_toArray, List.append_toArray, List.nil_append, List.cons_append]
  gi_wp2_with fail
  rw [HW3.out]
  rw [HF.out]
  refine wpIn_wide.2 ?_
  have hS0 := hS.out _ (Below.refl _ W3)
  go_region_held3 (fun w' => w'.cell? ⟨C.S, 1, none⟩ = some (.slice (some ⟨C.ba, C.fa, none⟩) C.za.length C.ca) ∧ w'.cell? ⟨w.heap.size, 0, none⟩ = some (.pointer (some ⟨C.S, 0, none⟩)) ∧ w'.cell? ⟨w.heap.size + 1, 0, none⟩ = some (.int .i64 (i : Int))) (first | assumption | exact hS.out _ (Below.refl _ W3) | exact hS.out _ (below_drewN (Below.refl _ W3) 1)) (first
    | (go_at_call 70; refine (callsIn_wide.1 (partsx_in Fence.wide wide_pl 0 _ _ _ _ _)).mono ?_; rintro e w' ⟨rfl, rfl⟩; have hS1 := hS.out _ (((below_drewN (Below.refl _ W3) 1).alloc (Nat.le_refl _) (.cells #[.slice (some ⟨C.ba, C.fa, none⟩) C.za.length C.ca] 23)).alloc (by simp) (.cells #[.int .i64 (i : Int)] 3))))
  rw [HW5.out]
  rename_i hHeld
  clear hS hS0 hS1 hHeld
  gi_wp2_with fail
  refine wpIn_rangeSteps hro (by omega) (gf := 93) (lb := #[.pointer (some ⟨w.heap.size + 1 + 1 + 1 + 1 + 1, 0, none⟩), .pointer (some ⟨w.heap.size + 1 + 1 + 1 + 1, 0, none⟩)]) rfl hf4 (enters_of Try.func93 (by kernel_rfl) rfl)
    (parts_steps F HPl.out _ (w.heap.size + 1 + 1 + 1 + 1 + 1) (w.heap.size + 1 + 1 + 1 + 1) i C.ca (some ⟨C.ba, C.fa, none⟩) C.za (by omega) hi (ends_beyond F HPl.out C.za (by omega) _ C.ca i)) (fun _ => rfl)
    (FDInv C w tbl i j)
    (fun c W => c = .ret ∧ SdInv C w tbl (fun k l => k ≤ i ∨ l ≤ j) i j W ∧ Boxed W (w.heap.size + 1 + 1) 4 (.bool (Tm.fd C.rk C.za C.zb i j (Tm.room (C.za[i]?.getD 0))))) (fun _ _ => False) (.inl fun _ _ h => h)
    (by
      rintro m X Y row ⟨no, sd, bR, bG, bT, bK⟩ hg hr
      exact ⟨no, sd.own hltM (by omega) hg hr, cells_own bR hg hr, cells_own bG hg hr, cells_own bT hg hr, cells_own bK hg hr⟩)
    (by
      rintro c X Y row ⟨e, sd, bR⟩ hg hr
      exact ⟨e, sd.own hltM (by omega) hg hr, cells_own bR hg hr⟩)
    (fun m W hI => ⟨hI.bK.cell, hI.bT.cell, by obtain ⟨tbl', hS, _⟩ := hI.sd.sides HH.out; exact hS.ia⟩)
    HI0.out
    (fun m => { tmps := #[.pointer (some ⟨C.S, 0, none⟩), .agg #[.int .i64 (i : Int), .int .i64 (j : Int)], .pointer (some ⟨w.heap.size, 0, none⟩), .pointer (some ⟨w.heap.size + 1, 0, none⟩), .pointer (some ⟨w.heap.size + 1 + 1, 0, none⟩), .pointer (some ⟨w.heap.size + 1 + 1 + 1, 0, none⟩), .int .i64 (Tm.pos C.za i m : Int), undef,
      .pointer (some ⟨w.heap.size + 1, 1, none⟩), .int .i64 (j : Int), .int .i64 ((j : Int) + 1),
      .pointer (some ⟨C.S, 0, none⟩), .pointer (some ⟨C.S, 0, none⟩), .pointer (some ⟨C.S, 1, none⟩), .slice (some ⟨C.ba, C.fa, none⟩) C.za.length C.ca, .pointer (some ⟨w.heap.size + 1, 0, none⟩), .int .i64 (i : Int), .func (.func 93) #[] #[.pointer (some ⟨w.heap.size + 1 + 1 + 1 + 1 + 1, 0, none⟩), .pointer (some ⟨w.heap.size + 1 + 1 + 1 + 1, 0, none⟩)],
      .int .i64 (Tm.pos C.za i m : Int), .int .i64 (Tm.pos C.za i (m + 1) : Int), undef, undef, undef, undef, undef, undef, undef, undef, undef, undef, undef, undef, undef, undef, undef, undef], defers := [] }) ?assign ?body ?done ?stop ?panic
  case assign =>
    intro l m W K hK
    simp only [encPart]
    gi_wp2
    exact hK
  case body =>
    rintro l m W hI hm
    obtain ⟨no, sd, bR, bG, bT, bK⟩ := hI
    have hm' : m < Tm.room (C.za[i]?.getD 0) := hm
    have hp := Hkp.out m hm'
    have hp2 := Hkp2.out m hm'
    have hgt := Tm.pos_gt C.za i m
    have hgt2 := Tm.pos_gt C.zb j m
    obtain ⟨tbl', Sd', ht'⟩ := sd.sides HH.out
    have hB1 : Below W.heap.size W (W.alloc (.cells #[.int .i64 (Tm.pos C.za i m : Int), .int .i64 (Tm.pos C.zb j m : Int)] 67)) := (Below.refl _ W).alloc (Nat.le_refl _) _
    have blk1 := World.alloc_heap_new W (.cells #[.int .i64 (Tm.pos C.za i m : Int), .int .i64 (Tm.pos C.zb j m : Int)] 67)
    have S1 := Sd'.below hB1
    have bS1 : Boxed (W.alloc (.cells #[.int .i64 (Tm.pos C.za i m : Int), .int .i64 (Tm.pos C.zb j m : Int)] 67)) w.heap.size 61 (.pointer (some ⟨C.S, 0, none⟩)) := (hB1.block _ sd.bS.lt).trans sd.bS
    have e1 := pair_cell0 blk1
    have e2 := pair_cell1 blk1
    have e3 := bS1.cell
    have e4 := bG.cell
    have hltW : W.heap.size < (W.alloc (.cells #[.int .i64 (Tm.pos C.za i m : Int), .int .i64 (Tm.pos C.zb j m : Int)] 67)).heap.size := by simp
    have hCs := hid (CallsIn.inRound l (hcin (n := 0) (sidesSame_any C HO.out (Tm.pos C.za i m) (Tm.pos C.zb j m) hp hp2 (W.alloc (.cells #[.int .i64 (Tm.pos C.za i m : Int), .int .i64 (Tm.pos C.zb j m : Int)] 67)) tbl' S1)))
    unfold pk at hCs
    have hkw := sd.kp
    have hCa := hid (fun W2 (hB2 : Below (W.alloc (.cells #[.int .i64 (Tm.pos C.za i m : Int), .int .i64 (Tm.pos C.zb j m : Int)] 67)).heap.size (W.alloc (.cells #[.int .i64 (Tm.pos C.za i m : Int), .int .i64 (Tm.pos C.zb j m : Int)] 67)) W2) => CallsIn.inRound l (hcin (n := 0) (HA.out (Tm.pos C.za i m) (Tm.pos C.zb j m) hgt hp hgt2 hp2 W2 tbl' (S1.below hB2))))
    have HS1 := hid S1
    have Hsd := hid sd
    have Hht := hid ht'
    have Hno := hid no
    clear sd S1 Sd' ht' no
    have hfb := fun (k : Nat) (o : Obj) (hk : W5.heap.size ≤ k) (ho : W.heap[k]? = some o) => (show k < W.heap.size ∧ k ≠ C.M from ⟨(Array.getElem?_eq_some_iff.1 ho).1, by omega⟩)
    cases hq1 : Tm.sm C.za C.zb (Tm.pos C.za i m) (Tm.pos C.zb j m) with
    | false =>
      rw [hq1] at hCs
      have hfd := Tm.fd_at (rk := C.rk) hm' Hno.out hq1
      rw [← hfd] at hCa
      generalize Tm.fd C.rk C.za C.zb i j (Tm.room (C.za[i]?.getD 0)) = q at *
      clear hfd
      gi_wp2_with (first
        | ((try refine ⟨hdd _, ?_⟩); gi_at_call 90; refine hCs.out.mono ?_; clear hCs; rintro e W2 ⟨rfl, hB2⟩; have hB12 : Below W.heap.size W W2 := hB1.trans (hB2.mono hB1.size); have bR2 : Boxed W2 (w.heap.size + 1 + 1) 4 (.bool false) := (hB12.block _ bR.lt).trans bR; have cR := bR2.cell; have fR := bR2.frozen; have g1 := (hB2.cell (p := ⟨W.heap.size, 0, none⟩) hltW).trans e1; have g2 := (hB2.cell (p := ⟨W.heap.size, 1, none⟩) hltW).trans e2; have bS2 : Boxed W2 w.heap.size 61 (.pointer (some ⟨C.S, 0, none⟩)) := (hB2.block _ bS1.lt).trans bS1; have g3 := bS2.cell)
        | ((try refine ⟨hdd _, ?_⟩); gi_at_call 36; refine (hCa.out W2 hB2).mono ?_; clear hCa; rintro e W4 ⟨rfl, hK4, tbl4, S4, ht4⟩; have hne : ∀ k, w.heap.size ≤ k → k ≠ C.M := (fun k hk e => by omega); have hltW2 := hB12.size; have bR4 : Boxed W4 (w.heap.size + 1 + 1) 4 (.bool false) := (hK4.block _ bR2.lt (hne _ (by omega))).trans bR2; have cR4 := bR4.cell; have fR4 := bR4.frozen))
      refine ⟨(⟨Nat.le_trans hB12.size hK4.size, fun k o hk ho _ => ((hK4.block k (Nat.lt_of_lt_of_le (hfb k o hk ho).1 hltW2) (hfb k o hk ho).2).trans (hB12.block k (hfb k o hk ho).1)).trans ho⟩ : KeepsFrom W5.heap.size W W4).trans ((KeepsOthers.setCell _ _ _).from _), rfl, ?_, bR4.set _⟩
      exact sd_set (sd_next Hsd.out hB12 hK4 hltM S4.fnd (fun k l h => (ht4 k l (by omega)).trans (Hht.out k l h))) hltM (by omega) _
    | true =>
      rw [hq1] at hCs
      clear hCa
      gi_wp2_with (first
        | ((try refine ⟨hdd _, ?_⟩); gi_at_call 90; refine hCs.out.mono ?_; clear hCs; rintro e W2 ⟨rfl, hB2⟩; have hB12 : Below W.heap.size W W2 := hB1.trans (hB2.mono hB1.size); have bR2 : Boxed W2 (w.heap.size + 1 + 1) 4 (.bool false) := (hB12.block _ bR.lt).trans bR; have cR := bR2.cell; have fR := bR2.frozen; have g1 := (hB2.cell (p := ⟨W.heap.size, 0, none⟩) hltW).trans e1; have g2 := (hB2.cell (p := ⟨W.heap.size, 1, none⟩) hltW).trans e2; have bS2 : Boxed W2 w.heap.size 61 (.pointer (some ⟨C.S, 0, none⟩)) := (hB2.block _ bS1.lt).trans bS1; have g3 := bS2.cell))
      have S2 := HS1.out.below hB2
      have c5 := S2.c2
      have bG2 : Boxed W2 (w.heap.size + 1 + 1 + 1) 3 (.int .i64 (Tm.pos C.zb j m : Int)) := (hB12.block _ bG.lt).trans bG
      have c4 := bG2.cell
      have f4 := bG2.frozen
      have mixed : Try.prog.follows .mixedOrders = true := by kernel_rfl
      have hpo := hid (Tm.pos_succ C.zb j m)
      have hEn := hid (endx_all F HPl.out C.zb (by omega) (some ⟨C.bb, C.fb, none⟩) C.cb _ (Tm.pos C.zb j m) 0 (Nat.le_refl _) (by omega) W2.drew S2.ib)
      gi_region_with_o (first | ((try refine ⟨hdd _, ?_⟩); gi_at_call 45; refine (CallsIn.inRound l hEn.out).mono ?_; rintro e W3' ⟨rfl, hB3⟩; have bG3 : Boxed W3' (w.heap.size + 1 + 1 + 1) 3 (.int .i64 (Tm.pos C.zb j m : Int)) := (hB3.block _ bG2.lt).trans bG2; have c6 := bG3.cell; have f6 := bG3.frozen))
      all_goals (
        gi_wp2
        have hB13 : Below W.heap.size W W3' := hB12.trans ⟨hB3.os, hB3.tape, hB3.output, hB3.size, fun k hk => hB3.block k (Nat.lt_of_lt_of_le hk hB12.size)⟩
        refine ⟨(⟨hB13.size, fun k o hk ho _ => (hB13.block k (hfb k o hk ho).1).trans ho⟩ : KeepsFrom W5.heap.size W W3').trans ((KeepsOthers.setCell _ _ _).from _), ?_⟩
        refine ⟨by rw [Tm.sms_succ, Hno.out, hq1]; rfl, sd_set (sd_below Hsd.out hB13 hltM) hltM (by omega) _, Boxed.other ((hB13.block _ bR.lt).trans bR) (by omega) _, by rw [hpo.out]; exact bG3.set _, Boxed.other ((hB13.block _ bT.lt).trans bT) (by omega) _, Boxed.other ((hB13.block _ bK.lt).trans bK) (by omega) _⟩)
  case done =>
    rintro D W hD ⟨no, sd, bR, bG, bT, bK⟩ hDd
    have c1 := bR.cell
    have c2 := bR.frozen
    rw [hs5] at hD
    have no' : Tm.fd C.rk C.za C.zb i j (Tm.room (C.za[i]?.getD 0)) = false := Tm.fd_same no
    gi_wp2
    have bR2 := bR.set (.bool false)
    have hDd2 : (W.setCell ⟨w.heap.size + 1 + 1, 0, none⟩ (.bool false)).heap[D]? = some (.deferred (some [])) := (Below.heap_setCell W ⟨w.heap.size + 1 + 1, 0, none⟩ _ D (show D ≠ w.heap.size + 1 + 1 by omega)).trans hDd
    refine ⟨by simp, .inl ⟨_, _, rfl, run_takeDeferred hDd2, ?_⟩⟩
    refine ⟨_, results_boxO rfl rfl ((World.cell?_of_block (a := ⟨w.heap.size + 1 + 1, 0, none⟩) (World.putObj_heap_other (show w.heap.size + 1 + 1 ≠ D by omega))).trans bR2.cell), ?_⟩
    rw [no']
    exact sd_done HH.out hltM (sd_set sd hltM (by omega) _) (by omega)
  case stop =>
    rintro D c W hD ⟨rfl, sd, bR⟩ hDd
    have c1 := bR.cell
    rw [hs5] at hD
    gi_wp2
    refine ⟨by simp, .inl ⟨_, _, rfl, run_takeDeferred hDd, ?_⟩⟩
    refine ⟨_, results_boxO rfl rfl ((World.cell?_of_block (a := ⟨w.heap.size + 1 + 1, 0, none⟩) (World.putObj_heap_other (show w.heap.size + 1 + 1 ≠ D by omega))).trans c1), ?_⟩
    exact sd_done HH.out hltM sd (by omega)
  case panic => exact fun _ _ _ _ h => h.elim

end Go.Proofs.Ytjaikmlbajdedac

namespace Go.Proofs.Ytjaikmlbajdedac
open Go.Proofs Go.RowKit Go.Shelf Go.Maps

attribute [local go_sem] Oper.semAt_some
attribute [local go_sem ↓] Go.wp_at_zero Go.wp_at_succ

theorem ov_mono {rk za zb : List Int} {i j m n : Nat} (h : m < n) (hm : Tm.ov rk za zb i j (m + 1) = false) : Tm.ov rk za zb i j n = false := by
  rw [Bool.eq_false_iff] at *
  intro hn
  apply hm
  simp only [Tm.ov, List.all_eq_true, List.mem_range] at *
  exact fun x hx => hn x (by omega)
theorem sd_drew {C : Sd} {w W : World} {tbl : Value → Option Value} {dom : Nat → Nat → Prop} {i j : Nat} (h : SdInv C w tbl dom i j W) (n : Nat) : SdInv C w tbl dom i j (W.drewN n) := by
  obtain ⟨⟨tf, hf, htf⟩, bS, bA, kp⟩ := h
  exact ⟨⟨tf, hf.keep rfl, htf⟩, bS, bA, ⟨kp.os, kp.tape, kp.output, kp.size, kp.block⟩⟩
theorem sd_ret {C : Sd} {w W : World} {tbl0 tbl : Value → Option Value} {dom : Nat → Nat → Prop} {i j : Nat} {q : Bool} (H : Sides C w tbl0) (h : SdInv C w tbl dom i j W) : AboveAns C q dom tbl w (.returned (.bool q)) W := by
  obtain ⟨tf, hS, ht⟩ := h.sides H
  exact ⟨rfl, h.kp, tf, hS, ht⟩
theorem sy_pos {rk za zb : List Int} {i j : Nat} (hf : 0 ≤ za[i]?.getD 0) (hg : 0 ≤ zb[j]?.getD 0) : Tm.sy rk za zb i j = (Tm.ov rk za zb i j (Tm.room (zb[j]?.getD 0)) && (if za[i]?.getD 0 = zb[j]?.getD 0 then Tm.fd rk za zb i j (Tm.room (za[i]?.getD 0)) else decide (Tm.rankOf rk (zb[j]?.getD 0) < Tm.rankOf rk (za[i]?.getD 0)))) := by
  unfold Tm.sy
  rw [decide_eq_true hf, decide_eq_true hg, Bool.true_and, Bool.true_and]
/-- What holds ahead of round m of bySymbol. -/
structure OVInv (C : Sd) (w : World) (tbl : Value → Option Value) (i j m : Nat) (W : World) : Prop where
  no : Tm.ov C.rk C.za C.zb i j m = true
  sd : SdInv C w tbl (fun k l => k < i ∨ l ≤ j) i j W
  bR : Boxed W (w.heap.size + 1 + 1) 4 (.bool false)
  bT : Boxed W (w.heap.size + 1 + 1 + 1) 23 (.slice (some ⟨C.bb, C.fb, none⟩) C.zb.length C.cb)
  bK : Boxed W (w.heap.size + 1 + 1 + 1 + 1) 3 (.int .i64 (j : Int))

set_option maxRecDepth 100000 in
set_option maxHeartbeats 2000000 in
theorem bySymbol_step (C : Sd) (O : SdOk C) (i j : Nat) (hi : i < C.za.length) (hj : j < C.zb.length)
    (hA : ∀ l, j < l → l < C.zb.length → AboveAt C 36 i l (Tm.ab C.rk C.za C.zb i l) fun k' l' => k' < i ∨ l' < l)
    (hD : C.za[i]?.getD 0 = C.zb[j]?.getD 0 → AboveAt C 91 i j (Tm.fd C.rk C.za C.zb i j (Tm.room (C.za[i]?.getD 0))) fun k l => k ≤ i ∨ l ≤ j) :
    AboveAt C 66 i j (Tm.sy C.rk C.za C.zb i j) fun k l => k < i ∨ l ≤ j := by
  intro w tbl H
  obtain ⟨F, hF⟩ : ∃ F, F = Fence.wide := ⟨_, rfl⟩
  refine (callsIn_wide (n := 3)).1 ?_
  rw [← hF]
  obtain ⟨hro, hfn, hdd, hcin⟩ := wide_facts hF
  have HPl : Hid (Pl F) := by rw [hF]; exact wide_pl
  have HF := hid hF
  clear hF
  have hf1 := hfn 66
  have hf2 := hfn 36
  have hf3 := hfn 70
  have hf4 := hfn 93
  have hf5 := hfn 91
  clear hfn
  have la := Tm.err_len O.ea
  have hltM := H.ltM
  have hltS := H.lt
  obtain ⟨W3, hW3⟩ : ∃ W3, ((w.alloc (.cells #[.pointer (some ⟨C.S, 0, none⟩)] 61)).alloc (.cells #[.int .i64 (i : Int), .int .i64 (j : Int)] 67)).alloc (.cells #[.bool false] 4) = W3 := ⟨_, rfl⟩
  have hB0 : Below w.heap.size w W3 := by rw [← hW3]; exact (((Below.refl _ w).alloc (Nat.le_refl _) _).alloc (by simp) _).alloc (by simp; omega) _
  have bS : Boxed W3 w.heap.size 61 (.pointer (some ⟨C.S, 0, none⟩)) := by rw [← hW3]; exact ((Boxed.new w 61 (.pointer (some ⟨C.S, 0, none⟩))).alloc _).alloc _
  have bA : W3.heap[w.heap.size + 1]? = some (.cells #[.int .i64 (i : Int), .int .i64 (j : Int)] 67 (0, 0)) := by
    rw [← hW3]
    have h1 := World.alloc_heap_new (w.alloc (.cells #[.pointer (some ⟨C.S, 0, none⟩)] 61)) (.cells #[.int .i64 (i : Int), .int .i64 (j : Int)] 67)
    rw [World.size_alloc] at h1
    exact (Below.heap_alloc _ _ _ (by simp)).trans h1
  have bR : Boxed W3 (w.heap.size + 1 + 1) 4 (.bool false) := by
    rw [← hW3]
    have h1 := Boxed.new ((w.alloc (.cells #[.pointer (some ⟨C.S, 0, none⟩)] 61)).alloc (.cells #[.int .i64 (i : Int), .int .i64 (j : Int)] 67)) 4 (.bool false)
    simpa using h1
  have hs3 : W3.heap.size = w.heap.size + 1 + 1 + 1 := by rw [← hW3]; simp
  have HW3 := hid hW3
  clear hW3
  have H3 := H.below hB0
  have c1 := H3.c1
  have cS := bS.cell
  have cA := pair_cell0 bA
  have c2 := H3.c2
  have cB := pair_cell1 bA
  have lb := Tm.err_len O.eb
  obtain ⟨_, _, e1, _, hca⟩ := H3.ia.at (by omega)
  cases e1
  obtain ⟨_, _, e2, _, hcb⟩ := H3.ib.at (by omega)
  cases e2
  have ci := hca i hi
  have cj := hcb j hj
  have hi' : (i : Int) < (C.za.length : Int) := by omega
  have hj' : (j : Int) < (C.zb.length : Int) := by omega
  clear hca hcb
  have I3 := hid (show SdInv C w tbl (fun k l => k < i ∨ l ≤ j) i j W3 from ⟨⟨tbl, H.fnd.keep (hB0.block _ hltM), fun _ _ _ => rfl⟩, bS, bA, Keep.of_below hB0⟩)
  have HH := hid H
  by_cases hf0 : C.za[i]?.getD 0 < 0
  · have hsy : Tm.sy C.rk C.za C.zb i j = false := by unfold Tm.sy; rw [decide_eq_false (by omega)]; rfl
    rw [hsy]
    clear hA hD hsy H3
    generalize C.za[i]?.getD 0 = f at *
    generalize C.zb[j]?.getD 0 = g at *
    have cR := bR.cell
    have fR := bR.frozen
    refine callsIn_of_wp Try.func66 rfl hf1 ?_ hro
    simp only [Try.ntmps66, List.size_toArray, List.length_cons, List.length_nil, Nat.reduceAdd, Nat.reduceSub, Array.replicate_succ, Array.replicate_zero, List.push_toArray, List.append_toArray, List.nil_append, List.cons_append]
    gi_wp2_with fail
    rw [HW3.out, HF.out]
    refine wpIn_wide.2 ?_
    go_quiet (fail)
    gi_wp2
    refine bodyPost_ret (results_boxO rfl rfl (Boxed.set (W := W3.drewN nq) (.bool false) bR).cell) rfl ?_
    exact sd_ret HH.out (sd_set (sd_drew I3.out nq) hltM (by omega) _)
  by_cases hg0 : C.zb[j]?.getD 0 < 0
  · have hsy : Tm.sy C.rk C.za C.zb i j = false := by unfold Tm.sy; rw [decide_eq_false (p := 0 ≤ C.zb[j]?.getD 0) (by omega)]; simp
    have hf0' : decide (C.za[i]?.getD 0 < 0) = false := by simpa using hf0
    rw [hsy]
    clear hA hD hsy H3
    generalize C.za[i]?.getD 0 = f at *
    generalize C.zb[j]?.getD 0 = g at *
    have cR := bR.cell
    have fR := bR.frozen
    refine callsIn_of_wp Try.func66 rfl hf1 ?_ hro
    simp only [Try.ntmps66, List.size_toArray, List.length_cons, List.length_nil, Nat.reduceAdd, Nat.reduceSub, Array.replicate_succ, Array.replicate_zero, List.push_toArray, List.append_toArray, List.nil_append, List.cons_append]
    gi_wp2_with fail
    rw [HW3.out, HF.out]
    refine wpIn_wide.2 ?_
    go_quiet (fail)
    gi_wp2
    refine bodyPost_ret (results_boxO rfl rfl (Boxed.set (W := W3.drewN nq) (.bool false) bR).cell) rfl ?_
    exact sd_ret HH.out (sd_set (sd_drew I3.out nq) hltM (by omega) _)
  have hsy := sy_pos (rk := C.rk) (i := i) (j := j) (za := C.za) (zb := C.zb) (by omega) (by omega)
  have kf := Tm.known_lt (Tm.all_at (Tm.err_all O.ea) hi)
  have kg := Tm.known_lt (Tm.all_at (Tm.err_all O.eb) hj)
  obtain ⟨f, hf⟩ := Int.eq_ofNat_of_zero_le (show 0 ≤ C.za[i]?.getD 0 by omega)
  obtain ⟨g, hg⟩ := Int.eq_ofNat_of_zero_le (show 0 ≤ C.zb[j]?.getD 0 by omega)
  have hkp : ∀ m, m < Tm.room (C.zb[j]?.getD 0) → Tm.pos C.zb j m < C.zb.length := fun m hm => by
    have h1 := Tm.pos_part O.eb hj m (by omega)
    have h2 := Tm.pos_in (Tm.part_err O.eb hj) (m := m) (by rw [Tm.sym_part O.eb hj]; exact hm)
    rw [Tm.part_length O.eb hj] at h2
    have h3 := Tm.end_in O.eb hj
    omega
  have hps := hid (parts_steps F HPl.out (3 - 1) (w.heap.size + 1 + 1 + 1 + 1) (w.heap.size + 1 + 1 + 1) j C.cb (some ⟨C.bb, C.fb, none⟩) C.zb (by omega) hj (ends_beyond F HPl.out C.zb (by omega) _ C.cb j))
  rw [hf, hg] at hsy
  rw [hf, hg] at hD
  rw [hf] at ci kf hf0
  rw [hg] at cj kg hg0 hkp hps
  have Hsy := hid hsy
  have Hkp := hid hkp
  have HA := hid hA
  have HD := hid hD
  have HO := hid O
  have hf0' : decide ((f : Int) < 0) = false := by simp
  have hg0' : decide ((g : Int) < 0) = false := by simp
  have bR' := hid bR
  clear hsy hkp hA hD H3 O hf hg hf0 hg0
  refine callsIn_of_wp_marks Try.func66 rfl hf1 ?_ hro
  simp only [Try.ntmps66, List.size_toArray, List.length_cons, List.length_nil, Nat.reduceAdd, Nat.reduceSub, Array.replicate_succ, Array.replicate_zero, List.push_toArray, List.append_toArray, List.nil_append, List.cons_append]
  gi_wp2_with fail
  rw [HW3.out, HF.out]
  refine wpIn_wide.2 ?_
  go_quiet (fail)
  obtain ⟨W4, hW4⟩ : ∃ W4, W3.drewN nq = W4 := ⟨_, rfl⟩
  rw [hW4]
  have sd4 : SdInv C w tbl (fun k l => k < i ∨ l ≤ j) i j W4 := by rw [← hW4]; exact sd_drew I3.out nq
  have bR4 : Boxed W4 (w.heap.size + 1 + 1) 4 (.bool false) := by rw [← hW4]; exact bR
  have hs4 : W4.heap.size = w.heap.size + 1 + 1 + 1 := by rw [← hW4]; exact hs3
  clear hW4 bR bR' bA bS cA cB cS c1 c2 ci cj hs3 I3 HW3 hB0
  obtain ⟨tbl4, S4, _⟩ := sd4.sides HH.out
  have d1 := S4.c2
  have d2 := sd4.bS.cell
  have d3 := pair_cell1 sd4.bA
  have hltA : w.heap.size + 1 < W4.heap.size := by omega
  have hS := hid (fun w' (hB : Below W4.heap.size W4 w') => (show w'.cell? ⟨C.S, 2, none⟩ = some (.slice (some ⟨C.bb, C.fb, none⟩) C.zb.length C.cb) ∧ w'.cell? ⟨w.heap.size, 0, none⟩ = some (.pointer (some ⟨C.S, 0, none⟩)) ∧ w'.cell? ⟨w.heap.size + 1, 1, none⟩ = some (.int .i64 (j : Int)) from
    ⟨(hB.cell S4.lt).trans d1, (hB.cell sd4.bS.lt).trans d2, (hB.cell (p := ⟨w.heap.size + 1, 1, none⟩) hltA).trans d3⟩))
  obtain ⟨W5, hW5⟩ : ∃ W5, ((W4.alloc (.cells #[.slice (some ⟨C.bb, C.fb, none⟩) C.zb.length C.cb] 23)).alloc (.cells #[.int .i64 (j : Int)] 3)).drew = W5 := ⟨_, rfl⟩
  have hB45 : Below W4.heap.size W4 W5 := by rw [← hW5]; exact below_drew1 (((Below.refl _ W4).alloc (Nat.le_refl _) _).alloc (by simp) _)
  have bT5 : Boxed W5 (w.heap.size + 1 + 1 + 1) 23 (.slice (some ⟨C.bb, C.fb, none⟩) C.zb.length C.cb) := by
    rw [← hW5, ← hs4]; exact (Boxed.new W4 23 (.slice (some ⟨C.bb, C.fb, none⟩) C.zb.length C.cb)).alloc _
  have bK5 : Boxed W5 (w.heap.size + 1 + 1 + 1 + 1) 3 (.int .i64 (j : Int)) := by
    have h1 := Boxed.new (W4.alloc (.cells #[.slice (some ⟨C.bb, C.fb, none⟩) C.zb.length C.cb] 23)) 3 (.int .i64 (j : Int))
    rw [World.size_alloc, hs4] at h1
    rw [← hW5]; exact h1
  have hs5 : W5.heap.size = w.heap.size + 1 + 1 + 1 + 1 + 1 := by rw [← hW5]; show ((W4.alloc _).alloc _).heap.size = _; simp [hs4]
  have HW5 := hid hW5
  clear hW5
  have bR5 : Boxed W5 (w.heap.size + 1 + 1) 4 (.bool false) := (hB45.block _ bR4.lt).trans bR4
  have HI0 := hid (show OVInv C w tbl i j 0 W5 from ⟨rfl, sd_below sd4 hB45 hltM, bR5, bT5, bK5⟩)
  clear bT5 bK5 bR5 hB45
  gi_wp2_with fail
  rw [HF.out]
  refine wpIn_wide.2 ?_
  have hS0 := hS.out _ (Below.refl _ W4)
  go_region_held3 (fun w' => w'.cell? ⟨C.S, 2, none⟩ = some (.slice (some ⟨C.bb, C.fb, none⟩) C.zb.length C.cb) ∧ w'.cell? ⟨w.heap.size, 0, none⟩ = some (.pointer (some ⟨C.S, 0, none⟩)) ∧ w'.cell? ⟨w.heap.size + 1, 1, none⟩ = some (.int .i64 (j : Int))) (first | assumption | exact hS.out _ (Below.refl _ W4) | exact hS.out _ (below_drewN (Below.refl _ W4) 1)) (first
    | (go_at_call 70; refine (callsIn_wide.1 (partsx_in Fence.wide wide_pl 0 _ _ _ _ _)).mono ?_; rintro e w' ⟨rfl, rfl⟩; have hS1 := hS.out _ (((below_drewN (Below.refl _ W4) 1).alloc (Nat.le_refl _) (.cells #[.slice (some ⟨C.bb, C.fb, none⟩) C.zb.length C.cb] 23)).alloc (by simp) (.cells #[.int .i64 (j : Int)] 3))))
  rw [HW5.out]
  rename_i hHeld
  clear hS hS0 hS1 hHeld d1 d2 d3
  gi_wp2_with fail
  refine wpIn_rangeSteps hro (by omega) (gf := 93) (lb := #[.pointer (some ⟨w.heap.size + 1 + 1 + 1 + 1, 0, none⟩), .pointer (some ⟨w.heap.size + 1 + 1 + 1, 0, none⟩)]) rfl hf4 (enters_of Try.func93 (by kernel_rfl) rfl)
    hps.out (fun _ => rfl)
    (OVInv C w tbl i j)
    (fun c W => c = .ret ∧ Tm.ov C.rk C.za C.zb i j (Tm.room (g : Int)) = false ∧ SdInv C w tbl (fun k l => k < i ∨ l ≤ j) i j W ∧ Boxed W (w.heap.size + 1 + 1) 4 (.bool false)) (fun _ _ => False) (.inl fun _ _ h => h)
    (by
      rintro m X Y row ⟨no, sd, bR, bT, bK⟩ hg hr
      exact ⟨no, sd.own hltM (by omega) hg hr, cells_own bR hg hr, cells_own bT hg hr, cells_own bK hg hr⟩)
    (by
      rintro c X Y row ⟨e, hq, sd, bR⟩ hg hr
      exact ⟨e, hq, sd.own hltM (by omega) hg hr, cells_own bR hg hr⟩)
    (fun m W hI => ⟨hI.bK.cell, hI.bT.cell, by obtain ⟨tbl', hS, _⟩ := hI.sd.sides HH.out; exact hS.ib⟩)
    HI0.out
    (fun m => { tmps := #[.pointer (some ⟨C.S, 0, none⟩), .agg #[.int .i64 (i : Int), .int .i64 (j : Int)], .pointer (some ⟨w.heap.size, 0, none⟩), .pointer (some ⟨w.heap.size + 1, 0, none⟩), .pointer (some ⟨w.heap.size + 1 + 1, 0, none⟩), .int .i64 (f : Int), .int .i64 (g : Int), .int .i64 (Tm.pos C.zb j m : Int), .pointer (some ⟨C.S, 0, none⟩), .pointer (some ⟨C.S, 0, none⟩), .pointer (some ⟨C.S, 1, none⟩), .slice (some ⟨C.ba, C.fa, none⟩) C.za.length C.ca, .pointer (some ⟨w.heap.size + 1, 0, none⟩), .int .i64 (i : Int), .pointer (some ⟨C.ba, C.fa + i, none⟩), .int .i64 (f : Int), .pointer (some ⟨C.S, 0, none⟩), .pointer (some ⟨C.S, 0, none⟩), .pointer (some ⟨C.S, 2, none⟩), .slice (some ⟨C.bb, C.fb, none⟩) C.zb.length C.cb, .pointer (some ⟨w.heap.size + 1, 1, none⟩), .int .i64 (j : Int), .pointer (some ⟨C.bb, C.fb + j, none⟩), .int .i64 (g : Int), .int .i64 (f : Int), .bool false, .bool false, .int .i64 (g : Int), .bool false, .bool false, .pointer (some ⟨C.S, 0, none⟩), .pointer (some ⟨C.S, 0, none⟩), .pointer (some ⟨C.S, 2, none⟩), .slice (some ⟨C.bb, C.fb, none⟩) C.zb.length C.cb, .pointer (some ⟨w.heap.size + 1, 1, none⟩), .int .i64 (j : Int), .func (.func 93) #[] #[.pointer (some ⟨w.heap.size + 1 + 1 + 1 + 1, 0, none⟩), .pointer (some ⟨w.heap.size + 1 + 1 + 1, 0, none⟩)], .int .i64 (Tm.pos C.zb j m : Int), .int .i64 (Tm.pos C.zb j (m + 1) : Int), undef, undef, undef, undef, undef, undef, undef, undef, undef, undef, undef, undef, undef, undef, undef, undef, undef, undef, undef, undef, undef, undef, undef, undef, undef, undef, undef, undef], defers := [] }) ?assign ?body ?done ?stop ?panic
  case assign =>
    intro l m W K hK
    simp only [encPart]
    gi_wp2
    exact hK
  case body =>
    rintro l m W hI hm
    obtain ⟨no, sd, bR, bT, bK⟩ := hI
    have hm' : m < Tm.room (g : Int) := hm
    have hp := Hkp.out m hm'
    have hgt := Tm.pos_gt C.zb j m
    obtain ⟨tbl', Sd', ht'⟩ := sd.sides HH.out
    have e3 := sd.bS.cell
    have e4 := pair_cell0 sd.bA
    have hCa := hid (CallsIn.inRound l (hcin (n := 0) (HA.out (Tm.pos C.zb j m) hgt hp W tbl' Sd')))
    have hos := hid (Tm.ov_succ C.rk C.za C.zb i j m)
    have hkw := sd.kp
    have Hsd := hid sd
    have Hht := hid ht'
    have Hno := hid no
    clear sd Sd' ht' no
    have hfb := fun (k : Nat) (o : Obj) (hk : W5.heap.size ≤ k) (ho : W.heap[k]? = some o) => (show k < W.heap.size ∧ k ≠ C.M from ⟨(Array.getElem?_eq_some_iff.1 ho).1, by omega⟩)
    cases hq1 : Tm.ab C.rk C.za C.zb i (Tm.pos C.zb j m) with
    | false =>
      rw [hq1] at hCa hos
      gi_wp2_with (first
        | ((try refine ⟨hdd _, ?_⟩); gi_at_call 36; refine hCa.out.mono ?_; clear hCa; rintro e W4' ⟨rfl, hK4, tbl4', S4', ht4⟩; have hne : ∀ k, w.heap.size ≤ k → k ≠ C.M := (fun k hk e => by omega); have bR4 : Boxed W4' (w.heap.size + 1 + 1) 4 (.bool false) := (hK4.block _ bR.lt (hne _ (by omega))).trans bR; have cR4 := bR4.cell; have fR4 := bR4.frozen))
      have hq : Tm.ov C.rk C.za C.zb i j (Tm.room (g : Int)) = false := ov_mono hm' (by rw [hos.out]; simp)
      refine ⟨(⟨hK4.size, fun k o hk ho _ => (hK4.block k (hfb k o hk ho).1 (hfb k o hk ho).2).trans ho⟩ : KeepsFrom W5.heap.size W W4').trans ((KeepsOthers.setCell _ _ _).from _), rfl, hq, ?_, bR4.set _⟩
      exact sd_set (sd_next Hsd.out (Below.refl _ W) hK4 hltM S4'.fnd (fun k l h => (ht4 k l (by omega)).trans (Hht.out k l h))) hltM (by omega) _
    | true =>
      rw [hq1] at hCa hos
      gi_wp2_with (first
        | ((try refine ⟨hdd _, ?_⟩); gi_at_call 36; refine hCa.out.mono ?_; clear hCa; rintro e W4' ⟨rfl, hK4, tbl4', S4', ht4⟩; have hne : ∀ k, w.heap.size ≤ k → k ≠ C.M := (fun k hk e => by omega); have bR4 : Boxed W4' (w.heap.size + 1 + 1) 4 (.bool false) := (hK4.block _ bR.lt (hne _ (by omega))).trans bR; have cR4 := bR4.cell; have fR4 := bR4.frozen))
      refine ⟨⟨hK4.size, fun k o hk ho _ => (hK4.block k (hfb k o hk ho).1 (hfb k o hk ho).2).trans ho⟩, ?_⟩
      refine ⟨by rw [hos.out, Hno.out]; rfl, sd_next Hsd.out (Below.refl _ W) hK4 hltM S4'.fnd (fun k l h => (ht4 k l (by omega)).trans (Hht.out k l h)), bR4, ?_, ?_⟩
      · exact (hK4.block _ bT.lt (hne _ (by omega))).trans bT
      · exact (hK4.block _ bK.lt (hne _ (by omega))).trans bK
  case done =>
    rintro D W hD ⟨no, sd, bR, bT, bK⟩ hDd
    have c1 := bR.cell
    have c2 := bR.frozen
    rw [hs5] at hD
    have no' : Tm.ov C.rk C.za C.zb i j (Tm.room (g : Int)) = true := no
    have e1 := sd.bS.cell
    have e2 := pair_cell0 sd.bA
    have e3 := pair_cell1 sd.bA
    obtain ⟨tbl', Sd', ht'⟩ := sd.sides HH.out
    by_cases hfg : (f : Int) = (g : Int)
    · have hsy := Hsy.out
      rw [no', if_pos hfg, Bool.true_and] at hsy
      have Hs := hid hsy
      have hCd := hid (hcin (n := 0) (HD.out hfg W tbl' Sd'))
      generalize Tm.fd C.rk C.za C.zb i j (Tm.room (f : Int)) = q at *
      have hfgb : ((f : Int) == (g : Int)) = true := by simp; omega
      clear hfg hsy no no' Hsy HD Sd'
      gi_wp2_with (first
        | ((try refine ⟨hdd _, ?_⟩); gi_at_call 91; refine (fx_any HPl.out hCd.out).mono ?_; clear hCd; rintro e W6 ⟨rfl, hK6, tbl6, S6, ht6⟩; have bR6 : Boxed W6 (w.heap.size + 1 + 1) 4 (.bool false) := (hK6.block _ bR.lt (by omega)).trans bR; have c6 := bR6.cell; have f6 := bR6.frozen))
      have bR7 := bR6.set (.bool q)
      have hDd2 : (W6.setCell ⟨w.heap.size + 1 + 1, 0, none⟩ (.bool q)).heap[D]? = some (.deferred (some [])) := (Below.heap_setCell W6 ⟨w.heap.size + 1 + 1, 0, none⟩ _ D (show D ≠ w.heap.size + 1 + 1 by omega)).trans ((hK6.block D (Array.getElem?_eq_some_iff.1 hDd).1 (by omega)).trans hDd)
      refine ⟨by simp, .inl ⟨_, _, rfl, run_takeDeferred hDd2, ?_⟩⟩
      refine ⟨_, results_boxO rfl rfl ((World.cell?_of_block (a := ⟨w.heap.size + 1 + 1, 0, none⟩) (World.putObj_heap_other (show w.heap.size + 1 + 1 ≠ D by omega))).trans bR7.cell), ?_⟩
      rw [Hs.out]
      exact sd_done HH.out hltM (sd_set (sd_next sd (Below.refl _ W) hK6 hltM S6.fnd (fun k l h => (ht6 k l (by omega)).trans (ht' k l h))) hltM (by omega) _) (by omega)
    · have hsy := Hsy.out
      rw [no', if_neg hfg, Bool.true_and] at hsy
      have Hs := hid hsy
      have hfgb : ((f : Int) == (g : Int)) = false := by simpa using hfg
      have hr6 := HO.out.er
      obtain ⟨_, _, e5, _, hcr⟩ := Sd'.ir.at (by omega)
      cases e5
      have kf6 : f < 6 := by omega
      have kg6 : g < 6 := by omega
      have cf := hcr f (by omega)
      have cg := hcr g (by omega)
      have hrf : Hid (Tm.rankOf C.rk (f : Int) = C.rk[f]?.getD 0) := rfl
      have hrg : Hid (Tm.rankOf C.rk (g : Int) = C.rk[g]?.getD 0) := rfl
      have c0 := Sd'.c0
      have hfl : (f : Int) < (C.rk.length : Int) := by omega
      have hgl : (g : Int) < (C.rk.length : Int) := by omega
      clear hsy no no' Hsy HD hcr
      rw [hrf.out, hrg.out] at Hs
      generalize C.rk[f]?.getD 0 = rf at *
      generalize C.rk[g]?.getD 0 = rg at *
      gi_wp2_with fail
      rw [HF.out]
      refine wpIn_wide.2 ?_
      have hneb : C.br ≠ w.heap.size + 1 + 1 := fun e => by
        obtain ⟨bq, oq, eq, hbq, _⟩ := HH.out.ir.at (by omega)
        cases eq
        omega
      have g0 := (World.cell?_of_block (a := ⟨w.heap.size, 0, none⟩) (Below.heap_setCell W ⟨w.heap.size + 1 + 1, 0, none⟩ (.bool (decide (rg < rf))) w.heap.size (show w.heap.size ≠ w.heap.size + 1 + 1 by omega))).trans e1
      have g1 := (World.cell?_of_block (a := ⟨C.S, 0, none⟩) (Below.heap_setCell W ⟨w.heap.size + 1 + 1, 0, none⟩ (.bool (decide (rg < rf))) C.S (show C.S ≠ w.heap.size + 1 + 1 by omega))).trans c0
      have g2 := (World.cell?_of_block (a := ⟨C.br, C.fr + f, none⟩) (Below.heap_setCell W ⟨w.heap.size + 1 + 1, 0, none⟩ (.bool (decide (rg < rf))) C.br (show C.br ≠ w.heap.size + 1 + 1 by omega))).trans cf
      have g3 := (World.cell?_of_block (a := ⟨C.br, C.fr + g, none⟩) (Below.heap_setCell W ⟨w.heap.size + 1 + 1, 0, none⟩ (.bool (decide (rg < rf))) C.br (show C.br ≠ w.heap.size + 1 + 1 by omega))).trans cg
      go_region_held3 (fun w' => w'.cell? ⟨w.heap.size, 0, none⟩ = some (.pointer (some ⟨C.S, 0, none⟩)) ∧ w'.cell? ⟨C.S, 0, none⟩ = some (.slice (some ⟨C.br, C.fr, none⟩) C.rk.length C.cr) ∧ w'.cell? ⟨C.br, C.fr + f, none⟩ = some (.int .i64 rf) ∧ w'.cell? ⟨C.br, C.fr + g, none⟩ = some (.int .i64 rg)) (first | assumption | exact ⟨e1, c0, cf, cg⟩ | exact ⟨g0, g1, g2, g3⟩) (first | fail)
      all_goals (
        gi_wp2
        have bR7 : Boxed (W.drew.setCell ⟨w.heap.size + 1 + 1, 0, none⟩ (.bool (decide (rg < rf)))) (w.heap.size + 1 + 1) 4 (.bool (decide (rg < rf))) := Boxed.set (W := W.drew) (.bool (decide (rg < rf))) bR
        have hDd2 : (W.drew.setCell ⟨w.heap.size + 1 + 1, 0, none⟩ (.bool (decide (rg < rf)))).heap[D]? = some (.deferred (some [])) := (Below.heap_setCell W.drew ⟨w.heap.size + 1 + 1, 0, none⟩ _ D (show D ≠ w.heap.size + 1 + 1 by omega)).trans hDd
        refine ⟨by simp, .inl ⟨_, _, rfl, run_takeDeferred hDd2, ?_⟩⟩
        refine ⟨_, results_boxO rfl rfl ((World.cell?_of_block (a := ⟨w.heap.size + 1 + 1, 0, none⟩) (World.putObj_heap_other (show w.heap.size + 1 + 1 ≠ D by omega))).trans bR7.cell), ?_⟩
        rw [Hs.out]
        exact sd_done HH.out hltM (sd_set (sd_drew sd 1) hltM (by omega) _) (by omega))
  case stop =>
    rintro D c W hD ⟨rfl, hq, sd, bR⟩ hDd
    have c1 := bR.cell
    rw [hs5] at hD
    gi_wp2
    refine ⟨by simp, .inl ⟨_, _, rfl, run_takeDeferred hDd, ?_⟩⟩
    refine ⟨_, results_boxO rfl rfl ((World.cell?_of_block (a := ⟨w.heap.size + 1 + 1, 0, none⟩) (World.putObj_heap_other (show w.heap.size + 1 + 1 ≠ D by omega))).trans c1), ?_⟩
    rw [Hsy.out, hq]
    exact sd_done HH.out hltM sd (by omega)
  case panic => exact fun _ _ _ _ h => h.elim

end Go.Proofs.Ytjaikmlbajdedac

namespace Go.Proofs.Ytjaikmlbajdedac
open Go.Proofs Go.RowKit Go.Shelf Go.Maps

theorem above_all (C : Sd) (O : SdOk C) : ∀ (n i j : Nat), (C.za.length - i) + (C.zb.length - j) < n → i < C.za.length → j < C.zb.length → AboveAt C 36 i j (Tm.ab C.rk C.za C.zb i j) fun k l => k < i ∨ l < j := by
  intro n
  induction n with
  | zero => intro i j h; omega
  | succ n ih =>
    intro i j hn hi hj
    exact above_step C O i j hi hj (byPart_step C O i j hi hj fun k h1 h2 => ih k j (by omega) h2 hj)
      (bySymbol_step C O i j hi hj (fun l h1 h2 => ih i l (by omega) hi h2) fun e => byFirst_step C O i j hi hj e fun k l h1 h2 h3 h4 => ih k l (by omega) h2 h4)

end Go.Proofs.Ytjaikmlbajdedac

namespace Go.Proofs.Ytjaikmlbajdedac
open Go.Proofs Go.RowKit Go.Shelf Go.Maps

/-- Is a number among them? -/
def Tm.hasB (zs : List Int) (x : Int) : Bool := decide (x ∈ zs)
theorem has_no {zs : List Int} {x : Int} {k : Nat} (h : ∀ j, j < k → zs[j]?.getD 0 ≠ x) (hx : zs[k]?.getD 0 ≠ x) : ∀ j, j < k + 1 → zs[j]?.getD 0 ≠ x := fun j hj => by
  by_cases e : j = k
  · rw [e]; exact hx
  · exact h j (by omega)
theorem has_yes {zs : List Int} {x : Int} {k : Nat} (hk : k < zs.length) (hx : zs[k]?.getD 0 = x) : Tm.hasB zs x = true := by
  unfold Tm.hasB
  rw [decide_eq_true_eq, ← hx]
  simp [hk]
theorem has_none {zs : List Int} {x : Int} (h : ∀ j, j < zs.length → zs[j]?.getD 0 ≠ x) : Tm.hasB zs x = false := by
  unfold Tm.hasB
  rw [decide_eq_false_iff_not]
  intro hm
  obtain ⟨j, hj, e⟩ := List.mem_iff_getElem.1 hm
  exact h j hj (by simp [hj, e])

set_option maxRecDepth 100000 in
set_option maxHeartbeats 400000 in
theorem index_any (zs : List Int) (x : Int) (a : Option Addr) (cap : Nat) (w : World) (hI : Ints w.heap.size w a zs) (hm : zs.length ≤ maxLen) :
    Calls Try.prog 69 #[.slice a zs.length cap, .int .i64 x] w fun e w' => ∃ k : Int, e = .returned (.int .i64 k) ∧ decide (0 ≤ k) = Tm.hasB zs x ∧ w' = w := by
  unfold maxLen at hm
  go_enter Try.func69, Try.ntmps69
  go_wp2
  go_loop [8] (fun i => ∃ k : Nat, k ≤ zs.length ∧ i = .int .i64 (k : Int) ∧ ∀ j, j < k → zs[j]?.getD 0 ≠ x) (fun i => zs.length - (intOf i).toNat)
  case atStart => exact ⟨0, Nat.zero_le _, rfl, fun j hj => by omega⟩
  case round =>
    obtain ⟨k, hk, rfl, hno⟩ := hrel
    by_cases hlt : k < zs.length
    · have hlt' : (k : Int) < (zs.length : Int) := by omega
      obtain ⟨b, off, rfl, hb, hc⟩ := hI.at (by omega)
      have hck := hc k hlt
      have hsn := hid (has_no hno)
      have hye := hid (@has_yes zs x k hlt)
      clear hc hI hno
      generalize zs[k]?.getD 0 = s at *
      by_cases he : s = x
      · have hb1 : (x == s) = true := by simp [he]
        have He := hid he
        clear he
        go_wp2
        go_ret
        exact ⟨_, rfl, by rw [hye.out He.out]; simp, rfl⟩
      · have hb1 : (x == s) = false := by simp; exact fun e => he e.symm
        have He := hid he
        clear he
        go_wp2
        go_round
        case rel => exact ⟨k + 1, by omega, by go_num, hsn.out He.out⟩
        case measure => simp [intOf]; omega
    · obtain rfl : k = zs.length := by omega
      have hn := hid (has_none hno)
      clear hno
      go_wp2
      go_ret
      exact ⟨-1, rfl, by rw [hn.out]; rfl, rfl⟩

set_option maxHeartbeats 400000 in
theorem contains_any (zs : List Int) (x : Int) (a : Option Addr) (cap : Nat) (w : World) (hI : Ints w.heap.size w a zs) (hm : zs.length ≤ maxLen) :
    Calls Try.prog 41 #[.slice a zs.length cap, .int .i64 x] w fun e w' => e = .returned (.bool (Tm.hasB zs x)) ∧ w' = w := by
  have hC := index_any zs x a cap w hI hm
  go_enter Try.func41, Try.ntmps41
  go_wp2_with fail
  refine hC.mono ?_
  rintro e w ⟨k, rfl, hk, rfl⟩
  have Hk := hid hk
  clear hk hC
  go_wp2
  go_ret
  exact ⟨ret_bool Hk.out, rfl⟩

/-- E1. -/
def Tm.rankErr (rk : List Int) : Int := if rk.length = 6 then (if (List.range 6).all (fun n => Tm.hasB rk (n : Int)) = true then 0 else 3) else 1
theorem rank_bad {rk : List Int} (h6 : rk.length = 6) {n : Nat} (hn : n < 6) (h : Tm.hasB rk (n : Int) = false) : Tm.rankErr rk = 3 := by
  unfold Tm.rankErr
  rw [if_pos h6, if_neg]
  intro e
  rw [List.all_eq_true] at e
  have := e n (List.mem_range.2 hn)
  rw [h] at this
  cases this
theorem rank_good {rk : List Int} (h6 : rk.length = 6) (h : ∀ n : Nat, n < 6 → Tm.hasB rk (n : Int) = true) : Tm.rankErr rk = 0 := by
  unfold Tm.rankErr
  rw [if_pos h6, if_pos]
  rw [List.all_eq_true]
  exact fun n hn => h n (List.mem_range.1 hn)

set_option maxRecDepth 100000 in
set_option maxHeartbeats 400000 in
theorem orderCheck_any (rk : List Int) (a : Option Addr) (cap : Nat) (w : World) (hI : Ints w.heap.size w a rk) :
    Calls Try.prog 18 #[.slice a rk.length cap] w fun e w' => e = .returned (.int .i64 (Tm.rankErr rk)) ∧ w' = w := by
  by_cases h6 : rk.length = 6
  · have hC := hid (fun (n : Nat) => contains_any rk (n : Int) a cap w hI (by unfold maxLen; omega))
    have hbad := hid (fun (n : Nat) (h1 : n < 6) h2 => rank_bad h6 h1 h2)
    have hgood := hid (rank_good h6)
    have hne : ((rk.length : Int) != 6) = false := by simp; omega
    clear h6
    generalize Tm.rankErr rk = q at *
    go_enter Try.func18, Try.ntmps18
    go_wp2
    go_loop [7] (fun i => ∃ k : Nat, k ≤ 6 ∧ i = .int .i64 (k : Int) ∧ ∀ j : Nat, j < k → Tm.hasB rk (j : Int) = true) (fun i => 6 - (intOf i).toNat)
    case atStart => exact ⟨0, Nat.zero_le _, rfl, fun j hj => by omega⟩
    case round =>
      obtain ⟨k, hk, rfl, hall⟩ := hrel
      by_cases hlt : k < 6
      · have hlt' : (k : Int) < 6 := by omega
        have hCk := hC.out k
        cases hq : Tm.hasB rk (k : Int) with
        | true =>
          rw [hq] at hCk
          have hall' := hid (fun (j : Nat) (hj : j < k + 1) => show Tm.hasB rk (j : Int) = true by
            by_cases e : j = k
            · rw [e]; exact hq
            · exact hall j (by omega))
          clear hq hall
          go_wp2_with (go_at_call 41; refine hCk.mono ?_; rintro e w ⟨rfl, rfl⟩)
          go_round
          case rel => exact ⟨k + 1, by omega, by go_num, hall'.out⟩
          case measure => simp [intOf]; omega
        | false =>
          rw [hq] at hCk
          have hb := hid (hbad.out k hlt hq)
          clear hq hall hbad
          go_wp2_with (go_at_call 41; refine hCk.mono ?_; rintro e w ⟨rfl, rfl⟩)
          go_ret
          exact ⟨by rw [hb.out]; rfl, rfl⟩
      · obtain rfl : k = 6 := by omega
        have hg := hid (hgood.out hall)
        clear hall
        go_wp2
        go_ret
        exact ⟨by rw [hg.out]; rfl, rfl⟩
  · have hne : ((rk.length : Int) != 6) = true := by simp; omega
    have he : Tm.rankErr rk = 1 := by unfold Tm.rankErr; rw [if_neg h6]
    rw [he]
    clear h6 he
    go_enter Try.func18, Try.ntmps18
    go_wp2
    go_ret
    exact ⟨rfl, rfl⟩

end Go.Proofs.Ytjaikmlbajdedac

namespace Go.Proofs.Ytjaikmlbajdedac
open Go.Proofs Go.RowKit Go.Shelf Go.Maps

/-- E1, E2: Above's error and answer. -/
def Tm.aboveErr (rk za zb : List Int) : Int := if Tm.rankErr rk = 0 then (if Tm.err za = 0 then Tm.err zb else Tm.err za) else Tm.rankErr rk
def Tm.aboveVal (rk za zb : List Int) : Bool := if Tm.aboveErr rk za zb = 0 then Tm.above (Tm.rankOf rk) za zb else false
theorem rank_six {rk : List Int} (h : Tm.rankErr rk = 0) : rk.length = 6 := by
  unfold Tm.rankErr at h
  by_cases h6 : rk.length = 6
  · exact h6
  · rw [if_neg h6] at h; omega

/-- At the start. -/
theorem sides_new (w : World) (br fr cr ba fa ca bb fb cb : Nat) (rk za zb : List Int) (hR : Ints w.heap.size w (some ⟨br, fr, none⟩) rk) (hA : Ints w.heap.size w (some ⟨ba, fa, none⟩) za) (hB : Ints w.heap.size w (some ⟨bb, fb, none⟩) zb) :
    Sides ⟨w.heap.size + 1, w.heap.size, br, fr, cr, ba, fa, ca, bb, fb, cb, rk, za, zb⟩ ((w.alloc (.map #[] 0)).alloc (.cells #[.slice (some ⟨br, fr, none⟩) rk.length cr, .slice (some ⟨ba, fa, none⟩) za.length ca, .slice (some ⟨bb, fb, none⟩) zb.length cb, .map (some w.heap.size)] 64)) (fun _ => none) := by
  have hb : Below w.heap.size w ((w.alloc (.map #[] 0)).alloc (.cells #[.slice (some ⟨br, fr, none⟩) rk.length cr, .slice (some ⟨ba, fa, none⟩) za.length ca, .slice (some ⟨bb, fb, none⟩) zb.length cb, .map (some w.heap.size)] 64)) := ((Below.refl _ w).alloc (Nat.le_refl _) _).alloc (by simp) _
  refine ⟨?_, (hR.below hb).mono hb.size, (hA.below hb).mono hb.size, (hB.below hb).mono hb.size, 0, (KMap.made _ w).keep (Below.heap_alloc _ _ _ (by simp)), (fun _ _ _ h => by cases h), Nat.zero_le _⟩
  have h := World.alloc_heap_new (w.alloc (.map #[] 0)) (.cells #[.slice (some ⟨br, fr, none⟩) rk.length cr, .slice (some ⟨ba, fa, none⟩) za.length ca, .slice (some ⟨bb, fb, none⟩) zb.length cb, .map (some w.heap.size)] 64)
  rw [World.size_alloc] at h
  exact h

set_option maxRecDepth 100000 in
set_option maxHeartbeats 1000000 in
theorem orderAbove_any (rk za zb : List Int) (ar aa ab : Option Addr) (cr ca cb : Nat) (w : World) (hR : Ints w.heap.size w ar rk) (hA : Ints w.heap.size w aa za) (hB : Ints w.heap.size w ab zb) (hca : za.length ≤ ca) (hca' : ca ≤ maxLen) (hcb : zb.length ≤ cb) (hcb' : cb ≤ maxLen) :
    Calls Try.prog 15 #[.slice ar rk.length cr, .slice aa za.length ca, .slice ab zb.length cb] w fun e w' => e = .returned (.tuple #[.bool (Tm.aboveVal rk za zb), .int .i64 (Tm.aboveErr rk za zb)]) ∧ Below w.heap.size w w' := by
  have hC1 := orderCheck_any rk ar cr w hR
  by_cases h1 : Tm.rankErr rk = 0
  · rw [h1] at hC1
    have hC2 := check_any za aa ca w hA
    by_cases h2 : Tm.err za = 0
    · rw [h2] at hC2
      have hC3 := hid (fun w' (hb : Below w.heap.size w w') => check_any zb ab cb w' ((hB.below hb).mono hb.size))
      have he : Tm.aboveErr rk za zb = Tm.err zb := by unfold Tm.aboveErr; rw [if_pos h1, if_pos h2]
      by_cases h3 : Tm.err zb = 0
      · rw [h3] at hC3 he
        have hv : Tm.aboveVal rk za zb = Tm.ab rk za zb 0 0 := by
          unfold Tm.aboveVal Tm.ab
          rw [if_pos he, Tm.part_all0 (Tm.err_run h2), Tm.part_all0 (Tm.err_run h3)]
        rw [he, hv]
        have h6 := rank_six h1
        obtain ⟨br, fr, rfl, hbr, _⟩ := hR.at (by omega)
        obtain ⟨ba, fa, rfl, hba, _⟩ := hA.at (Tm.err_pos h2)
        obtain ⟨bb, fb, rfl, hbb, _⟩ := hB.at (Tm.err_pos h3)
        have hfin := hid (fun (w2 : World) (hb : Below w.heap.size w w2) => above_all ⟨w2.heap.size + 1, w2.heap.size, br, fr, cr, ba, fa, ca, bb, fb, cb, rk, za, zb⟩ ⟨h2, h3, h6, hca, hcb, hca', hcb'⟩ _ 0 0 (Nat.lt_succ_self _) (Tm.err_pos h2) (Tm.err_pos h3)
          ((w2.alloc (.map #[] 0)).alloc (.cells #[.slice (some ⟨br, fr, none⟩) rk.length cr, .slice (some ⟨ba, fa, none⟩) za.length ca, .slice (some ⟨bb, fb, none⟩) zb.length cb, .map (some w2.heap.size)] 64)) (fun _ => none) (sides_new w2 br fr cr ba fa ca bb fb cb rk za zb ((hR.below hb).mono hb.size) ((hA.below hb).mono hb.size) ((hB.below hb).mono hb.size)))
        clear h1 h2 h3 h6 he hv hR hA hB hca hcb hca' hcb'
        have hmm := @run_makeMap Try.prog
        go_enter Try.func15, Try.ntmps15
        go_wp2_with (first
          | (go_at_call 18; refine hC1.mono ?_; clear hC1; rintro e w ⟨rfl, rfl⟩)
          | (go_at_call_of 22 (Value.slice (some ⟨ba, fa, none⟩) za.length ca); refine hC2.mono ?_; clear hC2; rintro e w1 ⟨rfl, hb1⟩)
          | (go_at_call_of 22 (Value.slice (some ⟨bb, fb, none⟩) zb.length cb); refine (hC3.out _ hb1).mono ?_; clear hC3; rintro e w2 ⟨rfl, hb2⟩; have hb3 := hb1.trans (hb2.mono hb1.size); have hF := hid (hfin.out w2 hb3); clear hfin)
          | (go_at_call 36; refine hF.out.mono ?_; clear hF; rintro e w3 ⟨rfl, hK, _⟩))
        go_ret2
        have hb4 : Below w2.heap.size w2 ((w2.alloc (.map #[] 0)).alloc (.cells #[.slice (some ⟨br, fr, none⟩) rk.length cr, .slice (some ⟨ba, fa, none⟩) za.length ca, .slice (some ⟨bb, fb, none⟩) zb.length cb, .map (some w2.heap.size)] 64)) := ((Below.refl _ w2).alloc (Nat.le_refl _) _).alloc (by simp) _
        exact ⟨rfl, hb3.trans ((hb4.trans ((hK.mono hb4.size).below (Nat.le_refl _))).mono hb3.size)⟩
      · have hv : Tm.aboveVal rk za zb = false := by unfold Tm.aboveVal; rw [he, if_neg h3]
        have hn : (Tm.err zb != 0) = true := by simpa using h3
        rw [he, hv]
        clear h1 h2 h3 he hv hca hcb hca' hcb'
        generalize Tm.err zb = q at *
        go_enter Try.func15, Try.ntmps15
        go_wp2_with fail
        refine hC1.mono ?_
        rintro e w ⟨rfl, rfl⟩
        go_wp2_with fail
        refine hC2.mono ?_
        rintro e w1 ⟨rfl, hb1⟩
        go_wp2_with fail
        refine (hC3.out _ hb1).mono ?_
        rintro e w2 ⟨rfl, hb2⟩
        go_wp2
        go_ret2
        exact ⟨rfl, hb1.trans (hb2.mono hb1.size)⟩
    · have he : Tm.aboveErr rk za zb = Tm.err za := by unfold Tm.aboveErr; rw [if_pos h1, if_neg h2]
      have hv : Tm.aboveVal rk za zb = false := by unfold Tm.aboveVal; rw [he, if_neg h2]
      have hn : (Tm.err za != 0) = true := by simpa using h2
      rw [he, hv]
      clear h1 h2 he hv hca hcb hca' hcb'
      generalize Tm.err za = q at *
      go_enter Try.func15, Try.ntmps15
      go_wp2_with fail
      refine hC1.mono ?_
      rintro e w ⟨rfl, rfl⟩
      go_wp2_with fail
      refine hC2.mono ?_
      rintro e w1 ⟨rfl, hb1⟩
      go_wp2
      go_ret2
      exact ⟨rfl, hb1⟩
  · have he : Tm.aboveErr rk za zb = Tm.rankErr rk := by unfold Tm.aboveErr; rw [if_neg h1]
    have hv : Tm.aboveVal rk za zb = false := by unfold Tm.aboveVal; rw [he, if_neg h1]
    have hn : (Tm.rankErr rk != 0) = true := by simpa using h1
    rw [he, hv]
    clear h1 he hv hca hcb hca' hcb'
    generalize Tm.rankErr rk = q at *
    go_enter Try.func15, Try.ntmps15
    go_wp2_with fail
    refine hC1.mono ?_
    rintro e w ⟨rfl, rfl⟩
    go_wp2
    go_ret2
    exact ⟨rfl, Below.refl _ _⟩

end Go.Proofs.Ytjaikmlbajdedac

namespace Go.Proofs.Ytjaikmlbajdedac
open Go.Proofs Go.RowKit Go.Shelf Go.Maps

def rk6 : List Int := [0, 1, 2, 3, 4, 5]
theorem Tm.o1 : Tm.aboveErr rk6 [4, -1, 2, 0] [2, 0] = 0 := by decide +kernel
theorem Tm.o2 : Tm.aboveVal rk6 [4, -1, 2, 0] [2, 0] = true := by decide +kernel
theorem Tm.o3 : Tm.aboveErr rk6 [4, 4, -1, -2, -3] [4, -1, 4, -2, -3] = 0 := by decide +kernel
theorem Tm.o4 : Tm.aboveVal rk6 [4, 4, -1, -2, -3] [4, -1, 4, -2, -3] = true := by decide +kernel
theorem Tm.o5 : Tm.aboveErr rk6 [4, -1, -2] [4, -2, -1] = 0 := by decide +kernel
theorem Tm.o6 : Tm.aboveVal rk6 [4, -1, -2] [4, -2, -1] = false := by decide +kernel
theorem Tm.o7 : Tm.aboveErr rk6 [2, -1] [-2] = 0 := by decide +kernel
theorem Tm.o8 : Tm.aboveVal rk6 [2, -1] [-2] = false := by decide +kernel
theorem Tm.o9 : Tm.aboveErr [] [4, -1, 2, 0] [4, -1, 2, 0] = 1 := by decide +kernel
theorem Tm.o10 : Tm.aboveVal [] [4, -1, 2, 0] [4, -1, 2, 0] = false := by decide +kernel
theorem Tm.o11 : Tm.rankErr rk6 = 0 := by decide +kernel
theorem Tm.o12 : Tm.rankErr [0, 1, 2, 3, 4, 4] = 3 := by decide +kernel

/-- Two literals, one behind the other. -/
theorem o_lits (w : World) (p t : List Int) : Ints (w.heap.size + 2) ((w.alloc (.cells (p.map (Value.int .i64)).toArray 3)).alloc (.cells (t.map (Value.int .i64)).toArray 3)) (some ⟨w.heap.size, 0, none⟩) p ∧
    Ints (w.heap.size + 2) ((w.alloc (.cells (p.map (Value.int .i64)).toArray 3)).alloc (.cells (t.map (Value.int .i64)).toArray 3)) (some ⟨w.heap.size + 1, 0, none⟩) t ∧
    Below w.heap.size w ((w.alloc (.cells (p.map (Value.int .i64)).toArray 3)).alloc (.cells (t.map (Value.int .i64)).toArray 3)) := by
  have h1 := ints_lit w p (w.heap.size + 1) rfl
  have h2 := ints_lit (w.alloc (.cells (p.map (Value.int .i64)).toArray 3)) t (w.heap.size + 2) (by simp)
  simp only [World.size_alloc] at h2
  exact ⟨(h1.below ((Below.refl _ _).alloc (by simp) _)).mono (by omega), h2, ((Below.refl _ w).alloc (Nat.le_refl _) _).alloc (by simp) _⟩

set_option maxHeartbeats 400000 in
theorem rank_any (w : World) : Calls Try.prog 39 #[] w fun e w' => ∃ a, e = .returned (.slice a 6 6) ∧ Ints w'.heap.size w' a rk6 ∧ Below w.heap.size w w' := by
  have h := ints_lit w [0, 1, 2, 3, 4, 5] _ rfl
  simp only [List.map_cons, List.map_nil] at h
  go_enter Try.func39, Try.ntmps39
  go_wp2
  go_ret
  exact ⟨_, rfl, by simpa [rk6] using h, (Below.refl _ _).alloc (Nat.le_refl _) _⟩
theorem o_above (rk za zb : List Int) (nr na nb : Nat) (q : Bool) (er : Int) (ar aa ab : Option Addr) (w : World) (hr : nr = rk.length) (ha : na = za.length) (hb : nb = zb.length) (hla : za.length ≤ 1000) (hlb : zb.length ≤ 1000) (hR : Ints w.heap.size w ar rk) (hA : Ints w.heap.size w aa za) (hB : Ints w.heap.size w ab zb) (h1 : Tm.aboveVal rk za zb = q) (h2 : Tm.aboveErr rk za zb = er) :
    Calls Try.prog 15 #[.slice ar nr nr, .slice aa na na, .slice ab nb nb] w fun e w' => e = .returned (.tuple #[.bool q, .int .i64 er]) ∧ Below w.heap.size w w' := by
  subst hr ha hb h1 h2
  exact orderAbove_any rk za zb ar aa ab _ _ _ w hR hA hB (Nat.le_refl _) (by unfold maxLen; omega) (Nat.le_refl _) (by unfold maxLen; omega)
/-- Two literals. -/
theorem o_two (za zb : List Int) (na nb : Nat) (q : Bool) (ar : Option Addr) (w : World) (ha : na = za.length) (hb : nb = zb.length) (hla : za.length ≤ 1000) (hlb : zb.length ≤ 1000) (hR : Ints w.heap.size w ar rk6) (h1 : Tm.aboveVal rk6 za zb = q) (h2 : Tm.aboveErr rk6 za zb = 0) :
    Calls Try.prog 15 #[.slice ar 6 6, .slice (some ⟨w.heap.size, 0, none⟩) na na, .slice (some ⟨w.heap.size + 1, 0, none⟩) nb nb] ((w.alloc (.cells (za.map (Value.int .i64)).toArray 3)).alloc (.cells (zb.map (Value.int .i64)).toArray 3)) fun e w' => e = .returned (.tuple #[.bool q, .int .i64 0]) ∧ Below w.heap.size w w' := by
  obtain ⟨i1, i2, hB⟩ := o_lits w za zb
  refine (o_above rk6 za zb 6 na nb q 0 ar _ _ _ rfl ha hb hla hlb ((hR.below hB).mono hB.size) (by simpa using i1) (by simpa using i2) h1 h2).mono ?_
  rintro e w' ⟨rfl, hB'⟩
  exact ⟨rfl, hB.trans (hB'.mono hB.size)⟩
/-- One literal. -/
theorem o_one (za zb : List Int) (na nb : Nat) (q : Bool) (ar aa : Option Addr) (w : World) (ha : na = za.length) (hb : nb = zb.length) (hla : za.length ≤ 1000) (hlb : zb.length ≤ 1000) (hR : Ints w.heap.size w ar rk6) (hA : Ints w.heap.size w aa za) (h1 : Tm.aboveVal rk6 za zb = q) (h2 : Tm.aboveErr rk6 za zb = 0) :
    Calls Try.prog 15 #[.slice ar 6 6, .slice aa na na, .slice (some ⟨w.heap.size, 0, none⟩) nb nb] (w.alloc (.cells (zb.map (Value.int .i64)).toArray 3)) fun e w' => e = .returned (.tuple #[.bool q, .int .i64 0]) ∧ Below w.heap.size w w' := by
  have hB : Below w.heap.size w (w.alloc (.cells (zb.map (Value.int .i64)).toArray 3)) := (Below.refl _ _).alloc (Nat.le_refl _) _
  refine (o_above rk6 za zb 6 na nb q 0 ar aa _ _ rfl ha hb hla hlb ((hR.below hB).mono hB.size) ((hA.below hB).mono hB.size) (ints_lit w zb _ (by simp)) h1 h2).mono ?_
  rintro e w' ⟨rfl, hB'⟩
  exact ⟨rfl, hB.trans (hB'.mono hB.size)⟩
theorem o_check (zs : List Int) (n : Nat) (er : Int) (a : Option Addr) (w : World) (hn : n = zs.length) (hI : Ints w.heap.size w a zs) (h : Tm.rankErr zs = er) : Calls Try.prog 18 #[.slice a n n] w fun e w' => e = .returned (.int .i64 er) ∧ w' = w := by
  subst hn h
  exact orderCheck_any zs a _ w hI

set_option maxRecDepth 100000 in
set_option maxHeartbeats 2000000 in
theorem orderBegun_any (w : World) : Calls Try.prog 17 #[] w fun e w' => e = .returned (.bool true) ∧ Below w.heap.size w w' := by
  have h1 := hid (fun w ar aa hR hA => o_one [4, -1, 2, 0] [2, 0] 4 2 true ar aa w rfl rfl (by simp) (by simp) hR hA Tm.o2 Tm.o1)
  have h2 := hid (fun w ar hR => o_two [4, 4, -1, -2, -3] [4, -1, 4, -2, -3] 5 5 true ar w rfl rfl (by simp) (by simp) hR Tm.o4 Tm.o3)
  have h3 := hid (fun w ar hR => o_two [4, -1, -2] [4, -2, -1] 3 3 false ar w rfl rfl (by simp) (by simp) hR Tm.o6 Tm.o5)
  have h4 := hid (fun w ar hR => o_two [2, -1] [-2] 2 1 false ar w rfl rfl (by simp) (by simp) hR Tm.o8 Tm.o7)
  have h5 := hid (fun w a b hA hB => o_above [] [4, -1, 2, 0] [4, -1, 2, 0] 0 4 4 false 1 none a b w rfl rfl rfl (by simp) (by simp) (Ints.nil _ _ _) hA hB Tm.o10 Tm.o9)
  have h6 := hid (fun w a hI => o_check rk6 6 0 a w rfl hI Tm.o11)
  have h7 := hid (fun w => o_check [0, 1, 2, 3, 4, 4] 6 3 _ _ rfl (ints_lit w [0, 1, 2, 3, 4, 4] _ (World.size_alloc _ _)) Tm.o12)
  simp only [List.map_cons, List.map_nil] at h1 h2 h3 h4 h7
  go_enter Try.func17, Try.ntmps17
  go_wp2_with fail
  refine (rank_any _).mono ?_
  rintro e w1 ⟨r1, rfl, hr1, b1⟩
  go_wp2_with fail
  refine (fxga_any _).mono ?_
  rintro e w2 ⟨f2, rfl, hf2, b2⟩
  go_wp2_with fail
  refine (h1.out w2 r1 f2 ((hr1.below b2).mono b2.size) hf2).mono ?_
  rintro e w3 ⟨rfl, b3⟩
  have B3 := (b1.trans (b2.mono b1.size)).trans (b3.mono (by have := b1.size; have := b2.size; omega))
  clear hr1 hf2 b1 b2 b3 h1
  go_wp2_with fail
  refine (rank_any _).mono ?_
  rintro e w4 ⟨r4, rfl, hr4, b4⟩
  go_wp2_with fail
  refine (h2.out w4 r4 hr4).mono ?_
  rintro e w5 ⟨rfl, b5⟩
  have B5 := B3.trans ((b4.trans (b5.mono b4.size)).mono B3.size)
  clear hr4 b4 b5 B3 h2
  go_wp2_with fail
  refine (rank_any _).mono ?_
  rintro e w6 ⟨r6, rfl, hr6, b6⟩
  go_wp2_with fail
  refine (h3.out w6 r6 hr6).mono ?_
  rintro e w7 ⟨rfl, b7⟩
  have B7 := B5.trans ((b6.trans (b7.mono b6.size)).mono B5.size)
  clear hr6 b6 b7 B5 h3
  go_wp2_with fail
  refine (rank_any _).mono ?_
  rintro e w8 ⟨r8, rfl, hr8, b8⟩
  go_wp2_with fail
  refine (h4.out w8 r8 hr8).mono ?_
  rintro e w9 ⟨rfl, b9⟩
  have B9 := B7.trans ((b8.trans (b9.mono b8.size)).mono B7.size)
  clear hr8 b8 b9 B7 h4
  go_wp2_with fail
  refine (fxga_any _).mono ?_
  rintro e w10 ⟨f10, rfl, hf10, b10⟩
  go_wp2_with fail
  refine (fxga_any _).mono ?_
  rintro e w11 ⟨f11, rfl, hf11, b11⟩
  go_wp2_with fail
  refine (h5.out w11 f10 f11 ((hf10.below b11).mono b11.size) hf11).mono ?_
  rintro e w12 ⟨rfl, b12⟩
  have B12 := B9.trans (((b10.trans (b11.mono b10.size)).trans (b12.mono (by have := b10.size; have := b11.size; omega))).mono B9.size)
  clear hf10 hf11 b10 b11 b12 B9 h5
  go_wp2_with fail
  refine (rank_any _).mono ?_
  rintro e w13 ⟨r13, rfl, hr13, b13⟩
  have B13 := B12.trans (b13.mono B12.size)
  go_wp2_with fail
  refine (h6.out w13 r13 hr13).mono ?_
  rintro e w13 ⟨rfl, rfl⟩
  go_wp2_with fail
  refine (h7.out _).mono ?_
  rintro e w14 ⟨rfl, rfl⟩
  go_wp2
  go_ret
  exact ⟨rfl, B13.trans (((Below.refl _ _).alloc (Nat.le_refl _) _).mono B13.size)⟩

end Go.Proofs.Ytjaikmlbajdedac

namespace Go.Proofs.Ytjaikmlbajdedac
open Go.Proofs Go.RowKit Go.Shelf Go.Maps

theorem Tm.aboveErr_of {rk za zb : List Int} (h1 : Tm.rankErr rk = 0) (h2 : Tm.err za = 0) (h3 : Tm.err zb = 0) : Tm.aboveErr rk za zb = 0 := by unfold Tm.aboveErr; rw [if_pos h1, if_pos h2, h3]
theorem Tm.aboveErr_ok {rk za zb : List Int} (h : Tm.aboveErr rk za zb = 0) : Tm.rankErr rk = 0 ∧ Tm.err za = 0 ∧ Tm.err zb = 0 := by
  unfold Tm.aboveErr at h
  by_cases h1 : Tm.rankErr rk = 0
  · rw [if_pos h1] at h
    by_cases h2 : Tm.err za = 0
    · rw [if_pos h2] at h; exact ⟨h1, h2, h⟩
    · rw [if_neg h2] at h; exact absurd h h2
  · rw [if_neg h1] at h; exact absurd h h1
theorem Tm.aboveVal_iff {rk za zb : List Int} (h : Tm.aboveErr rk za zb = 0) : Tm.aboveVal rk za zb = true ↔ Tm.Gt (Tm.rankOf rk) za zb := by
  unfold Tm.aboveVal; rw [if_pos h]; exact Tm.above_iff
theorem Tm.aboveVal_self (rk za : List Int) : Tm.aboveVal rk za za = false := by
  rw [Bool.eq_false_iff]
  intro h
  unfold Tm.aboveVal at h
  split at h
  · exact Tm.Gt.self _ (Tm.above_iff.1 h)
  · cases h
theorem Tm.aboveVal_part {rk za : List Int} (h1 : Tm.rankErr rk = 0) (h2 : Tm.err za = 0) {j : Nat} (hj : j < za.length) : Tm.aboveVal rk za (Tm.part za j) = decide ((0 : Int) < (j : Int)) := by
  by_cases e : j = 0
  · subst e; rw [Tm.part_all0 (Tm.err_run h2), Tm.aboveVal_self]; rfl
  · rw [(Tm.aboveVal_iff (Tm.aboveErr_of h1 h2 (Tm.part_err h2 hj))).2 (Tm.Gt.parts _ za j (Nat.lt_succ_self _) h2 (by omega) hj)]
    symm
    simp
    omega
theorem Tm.aboveVal_anti {rk za zb : List Int} (h : Tm.aboveErr rk za zb = 0) : (Tm.aboveVal rk za zb && Tm.aboveVal rk zb za) = false := by
  obtain ⟨h1, h2, h3⟩ := Tm.aboveErr_ok h
  rw [Bool.eq_false_iff]
  intro e
  rw [Bool.and_eq_true] at e
  exact Tm.Gt.self _ (((Tm.aboveVal_iff h).1 e.1).trans ((Tm.aboveVal_iff (Tm.aboveErr_of h1 h3 h2)).1 e.2))
theorem Tm.aboveVal_trans {rk za zb zc : List Int} (h : Tm.aboveErr rk za zb = 0) (h' : Tm.aboveErr rk zb zc = 0) (e1 : Tm.aboveVal rk za zb = true) (e2 : Tm.aboveVal rk zb zc = true) : Tm.aboveVal rk za zc = true := by
  obtain ⟨h1, h2, h3⟩ := Tm.aboveErr_ok h
  obtain ⟨_, _, h4⟩ := Tm.aboveErr_ok h'
  exact (Tm.aboveVal_iff (Tm.aboveErr_of h1 h2 h4)).2 (((Tm.aboveVal_iff h).1 e1).trans ((Tm.aboveVal_iff h').1 e2))

end Go.Proofs.Ytjaikmlbajdedac

namespace Go.Proofs.Ytjaikmlbajdedac
open Go.Proofs Go.RowKit Go.Shelf Go.Maps

/-- Which one. -/
def chN (c : Int) (n : Nat) : Nat := ((if c < 0 then -(c + 1) else c) % (n : Int)).toNat
theorem chN_lt (c : Int) {n : Nat} (h : 0 < n) : chN c n < n := by
  unfold chN
  have h1 := Int.emod_nonneg (if c < 0 then -(c + 1) else c) (b := (n : Int)) (by omega)
  have h2 := Int.emod_lt_of_pos (if c < 0 then -(c + 1) else c) (b := (n : Int)) (by omega)
  omega
set_option maxHeartbeats 400000 in
theorem choose_is (c : Int) (n : Nat) (hc : (Lit.int .i64 c).wf = true) (h0 : 0 < n) (h1 : n ≤ 1000) (w : World) : Calls Try.prog 20 #[.int .i64 c, .int .i64 (n : Int)] w fun e w' => e = .returned (.int .i64 (chN c n : Int)) ∧ w' = w := by
  have hx : -9223372036854775808 ≤ c ∧ c ≤ 9223372036854775807 := by simpa [Lit.wf, IntKind.min, IntKind.max, IntKind.signed, IntKind.bits] using hc
  obtain ⟨hx1, hx2⟩ := hx
  clear hc
  have hn0 : (0 : Int) < (n : Int) := by omega
  have hn1 : (n : Int) ≤ 1000 := by omega
  have hnz : ((n : Int) == 0) = false := by simp; omega
  by_cases hneg : c < 0
  · have hv := hid (show (chN c n : Int) = (-(c + 1)) % (n : Int) by
      unfold chN; rw [if_pos hneg, Int.toNat_of_nonneg (Int.emod_nonneg _ (by omega))])
    generalize chN c n = v at *
    go_enter Try.func20, Try.ntmps20
    go_wp2
    go_ret
    refine ⟨ret_int ?_, rfl⟩
    rw [hv.out, ← Int.neg_tmod, Int.tmod_eq_emod_of_nonneg (by omega)]
  · have hv := hid (show (chN c n : Int) = c % (n : Int) by
      unfold chN; rw [if_neg hneg, Int.toNat_of_nonneg (Int.emod_nonneg _ (by omega))])
    generalize chN c n = v at *
    go_enter Try.func20, Try.ntmps20
    go_wp2
    go_ret
    refine ⟨ret_int ?_, rfl⟩
    rw [hv.out]

theorem nodup_le : ∀ (n : Nat) (l : List Nat), l.Nodup → (∀ x ∈ l, x < n) → l.length ≤ n := by
  intro n
  induction n with
  | zero =>
    intro l _ h
    cases l with
    | nil => simp
    | cons x l => exact absurd (h x (by simp)) (by omega)
  | succ n ih =>
    intro l hn h
    by_cases hm : n ∈ l
    · have h1 := ih (l.erase n) (hn.erase n) (fun x hx => by
        have := (hn.mem_erase_iff).1 hx
        have := h x this.2
        omega)
      rw [List.length_erase_of_mem hm] at h1
      omega
    · have := ih l hn (fun x hx => by
        have h1 := h x hx
        have h2 : x ≠ n := fun e => hm (e ▸ hx)
        omega)
      omega
theorem nodup_all {n : Nat} {l : List Nat} (hn : l.Nodup) (h : ∀ x ∈ l, x < n) (hl : l.length = n) {k : Nat} (hk : k < n) : k ∈ l := by
  by_cases hm : k ∈ l
  · exact hm
  · have := nodup_le n (k :: l) (List.nodup_cons.2 ⟨hm, hn⟩) (fun x hx => by
      rcases List.mem_cons.1 hx with rfl | hx
      · exact hk
      · exact h x hx)
    simp at this
    omega
theorem rank_inj {rk : List Int} (h : Tm.rankErr rk = 0) : ∀ s t : Int, 0 ≤ s → s < 6 → 0 ≤ t → t < 6 → Tm.rankOf rk s = Tm.rankOf rk t → s = t := by
  have h6 := rank_six h
  have hall : ∀ n : Nat, n < 6 → Tm.hasB rk (n : Int) = true := fun n hn => by
    unfold Tm.rankErr at h
    rw [if_pos h6] at h
    by_cases ha : (List.range 6).all (fun n => Tm.hasB rk (n : Int)) = true
    · rw [List.all_eq_true] at ha; exact ha n (List.mem_range.2 hn)
    · rw [if_neg ha] at h; omega
  have hex : ∀ n : Nat, n < 6 → ∃ i, i < 6 ∧ rk[i]?.getD 0 = (n : Int) := fun n hn => by
    have := hall n hn
    unfold Tm.hasB at this
    rw [decide_eq_true_eq] at this
    obtain ⟨i, hi, e⟩ := List.mem_iff_getElem.1 this
    exact ⟨i, by omega, by simp [hi, e]⟩
  classical
  let f : Nat → Nat := fun n => if hn : n < 6 then Classical.choose (hex n hn) else 0
  have hf : ∀ n, n < 6 → f n < 6 ∧ rk[f n]?.getD 0 = (n : Int) := fun n hn => by
    simp only [f, hn, dif_pos]
    exact Classical.choose_spec (hex n hn)
  have hnd : ((List.range 6).map f).Nodup := by
    rw [List.Nodup, List.pairwise_map]
    refine List.Pairwise.imp_of_mem ?_ List.nodup_range
    intro a b ha hb hab e
    have h1 := (hf a (List.mem_range.1 ha)).2
    have h2 := (hf b (List.mem_range.1 hb)).2
    rw [e, h2] at h1
    omega
  have hon : ∀ k, k < 6 → ∃ n, n < 6 ∧ f n = k := fun k hk => by
    have := nodup_all hnd (n := 6) (fun x hx => by
      obtain ⟨n, hn, rfl⟩ := List.mem_map.1 hx
      exact (hf n (List.mem_range.1 hn)).1) (by simp) hk
    obtain ⟨n, hn, e⟩ := List.mem_map.1 this
    exact ⟨n, List.mem_range.1 hn, e⟩
  intro s t s0 s6 t0 t6 e
  obtain ⟨n, hn, en⟩ := hon s.toNat (by omega)
  obtain ⟨m, hm, em⟩ := hon t.toNat (by omega)
  have h1 := (hf n hn).2
  have h2 := (hf m hm).2
  rw [en] at h1
  rw [em] at h2
  unfold Tm.rankOf at e
  rw [h1, h2] at e
  have : n = m := by omega
  subst this
  omega

/-- No variable in it. -/
def Tm.freeB (x : List Int) : Bool := x.all fun s => decide (0 ≤ s)
theorem free_snoc {x : List Int} {k : Nat} (h : k < x.length) : Tm.freeB (x.take (k + 1)) = (Tm.freeB (x.take k) && decide (0 ≤ x[k]?.getD 0)) := by
  unfold Tm.freeB
  rw [take_snoc h, List.all_append]
  simp
theorem keeps_total {rk x y : List Int} (h : Tm.aboveErr rk x y = 0) (hx : Tm.freeB x = true) (hy : Tm.freeB y = true) (hs : sameB x y = false) (h1 : Tm.aboveVal rk x y = false) : Tm.aboveVal rk y x = true := by
  obtain ⟨k1, k2, k3⟩ := Tm.aboveErr_ok h
  have gx : ∀ s ∈ x, 0 ≤ s := fun s hs => by simpa using List.all_eq_true.1 hx s hs
  have gy : ∀ s ∈ y, 0 ≤ s := fun s hs => by simpa using List.all_eq_true.1 hy s hs
  rcases Tm.Gt.total (rank_inj k1) _ x y (Nat.lt_succ_self _) k2 k3 gx gy with e | g | g
  · rw [e] at hs; simp [sameB] at hs
  · rw [(Tm.aboveVal_iff h).2 g] at h1; cases h1
  · exact (Tm.aboveVal_iff (Tm.aboveErr_of k1 k3 k2)).2 g
theorem keeps_apply {rk x y : List Int} {ss : List (List Int)} (h : Tm.aboveErr rk x y = 0) (hq : Tm.aboveVal rk x y = true) (hx : Tm.applyErr ss x = 0) (hy : Tm.applyErr ss y = 0) : Tm.aboveErr rk (Tm.applyVal ss x) (Tm.applyVal ss y) = 0 ∧ Tm.aboveVal rk (Tm.applyVal ss x) (Tm.applyVal ss y) = true := by
  obtain ⟨k1, k2, k3⟩ := Tm.aboveErr_ok h
  obtain ⟨s1, _, lx, ex⟩ := Tm.apply_zero hx
  obtain ⟨_, _, ly, ey⟩ := Tm.apply_zero hy
  have hT := Terms.of s1
  rw [ex, ey]
  have he := Tm.aboveErr_of k1 (Tm.err_applied hT k2 lx) (Tm.err_applied hT k3 ly)
  exact ⟨he, (Tm.aboveVal_iff he).2 (((Tm.aboveVal_iff h).1 hq).stays hT k2 k3)⟩
theorem put_zero_ok {t u : List Int} {j : Nat} (ht : Tm.err t = 0) (hu : Tm.err u = 0) (hj : j < t.length) (h : Tm.putErr t (j : Int) u = 0) : Tm.putVal t (j : Int) u = Tm.put t j u ∧ Tm.err (Tm.put t j u) = 0 := by
  have hp : insideB (j : Int) 0 ((t.length : Int) - 1) = true := (insideB_iff _ _ _).2 ⟨by omega, by omega⟩
  have h' := h
  rw [Tm.putErr_in ht hu hp] at h'
  have hl : (Tm.put t j u).length ≤ 30 := by
    by_cases hb : 30 < (Tm.put t j u).length
    · rw [if_pos hb] at h'; omega
    · omega
  refine ⟨?_, Tm.put_err ht hu hj hl⟩
  unfold Tm.putVal
  rw [if_pos h]; rfl
theorem keeps_put {rk x y t : List Int} {j : Nat} (h : Tm.aboveErr rk x y = 0) (hq : Tm.aboveVal rk x y = true) (ht : Tm.err t = 0) (hj : j < t.length) (hx : Tm.putErr t (j : Int) x = 0) (hy : Tm.putErr t (j : Int) y = 0) : Tm.aboveErr rk (Tm.putVal t (j : Int) x) (Tm.putVal t (j : Int) y) = 0 ∧ Tm.aboveVal rk (Tm.putVal t (j : Int) x) (Tm.putVal t (j : Int) y) = true := by
  obtain ⟨k1, k2, k3⟩ := Tm.aboveErr_ok h
  obtain ⟨ex, lx⟩ := put_zero_ok ht k2 hj hx
  obtain ⟨ey, ly⟩ := put_zero_ok ht k3 hj hy
  rw [ex, ey]
  have he := Tm.aboveErr_of k1 lx ly
  exact ⟨he, (Tm.aboveVal_iff he).2 (((Tm.aboveVal_iff h).1 hq).within k2 k3 _ t j (Nat.lt_succ_self _) ht hj)⟩

end Go.Proofs.Ytjaikmlbajdedac

namespace Go.Proofs.Ytjaikmlbajdedac
open Go.Proofs Go.RowKit Go.Shelf Go.Maps

theorem has_snoc {zs : List Int} {x : Int} {k : Nat} (hk : k < zs.length) : Tm.hasB (zs.take (k + 1)) x = (Tm.hasB (zs.take k) x || (zs[k]?.getD 0 == x)) := by
  unfold Tm.hasB
  rw [take_snoc hk, Bool.eq_iff_iff]
  simp only [decide_eq_true_eq, List.mem_append, List.mem_singleton, Bool.or_eq_true, beq_iff_eq]
  exact ⟨fun h => h.imp id Eq.symm, fun h => h.imp id Eq.symm⟩

set_option maxRecDepth 100000 in
set_option maxHeartbeats 1000000 in
theorem rankError_any (rk : List Int) (a : Option Addr) (cap : Nat) (w : World) (hI : Ints w.heap.size w a rk) :
    Calls Try.prog 19 #[.slice a rk.length cap] w fun e w' => e = .returned (.int .i64 (Tm.rankErr rk)) ∧ w' = w := by
  by_cases h6 : rk.length = 6
  · have hbad := hid (fun (n : Nat) (h1 : n < 6) h2 => rank_bad h6 h1 h2)
    have hgood := hid (rank_good h6)
    have hne : ((rk.length : Int) != 6) = false := by simp; omega
    have hl6 : (rk.length : Int) ≤ 6 := by omega
    obtain ⟨b, off, rfl, hb, hc⟩ := hI.at (by omega)
    have Hc := hid hc
    clear h6 hc
    generalize Tm.rankErr rk = q at *
    go_enter Try.func19, Try.ntmps19
    go_wp2
    go_loop [3] (fun i => ∃ n : Nat, n ≤ 6 ∧ i = .int .i64 (n : Int) ∧ ∀ j : Nat, j < n → Tm.hasB rk (j : Int) = true) (fun i => 6 - (intOf i).toNat)
    case atStart => exact ⟨0, Nat.zero_le _, rfl, fun j hj => by omega⟩
    case round =>
      obtain ⟨n, hn, rfl, hall⟩ := hrel
      have Hall := hid hall
      clear hall
      by_cases hlt : n < 6
      · have hlt' : (n : Int) < 6 := by omega
        go_wp2
        go_loop [4, 5] (fun f i => ∃ k : Nat, k ≤ rk.length ∧ i = .int .i64 (k : Int) ∧ f = .bool (Tm.hasB (rk.take k) (n : Int))) (fun _ i => rk.length - (intOf i).toNat)
        case atStart => exact ⟨0, Nat.zero_le _, rfl, by simp [Tm.hasB]⟩
        case round =>
          obtain ⟨k, hk, rfl, rfl⟩ := hrel
          by_cases hk2 : k < rk.length
          · have hk2' : (k : Int) < (rk.length : Int) := by omega
            have hck := Hc.out k hk2
            have hsn := hid (has_snoc (x := (n : Int)) hk2)
            generalize rk[k]?.getD 0 = s at *
            cases hfb : Tm.hasB (rk.take k) (n : Int) with
            | true =>
              rw [hfb] at hsn
              clear hfb
              go_wp2
              go_round
              case rel => exact ⟨k + 1, by omega, by go_num, by rw [hsn.out]; rfl⟩
              case measure => simp [intOf]; omega
            | false =>
              rw [hfb] at hsn
              clear hfb
              go_wp2
              go_round
              case rel => exact ⟨k + 1, by omega, by go_num, by rw [hsn.out]; rfl⟩
              case measure => simp [intOf]; omega
          · obtain rfl : k = rk.length := by omega
            rw [List.take_length]
            cases hq : Tm.hasB rk (n : Int) with
            | true =>
              have hall' := hid (fun j (hj : j < n + 1) => show Tm.hasB rk ((j : Nat) : Int) = true by
                by_cases e : j = n
                · rw [e]; exact hq
                · exact Hall.out j (by omega))
              clear hq
              go_wp2
              go_round
              case rel => exact ⟨n + 1, by omega, by go_num, hall'.out⟩
              case measure => simp [intOf]; omega
            | false =>
              have hb' := hid (hbad.out n hlt hq)
              clear hq
              go_wp2
              go_ret
              exact ⟨by rw [hb'.out]; rfl, rfl⟩
      · obtain rfl : n = 6 := by omega
        have hg := hid (hgood.out Hall.out)
        go_wp2
        go_ret
        exact ⟨by rw [hg.out]; rfl, rfl⟩
  · have hne : ((rk.length : Int) != 6) = true := by simp; omega
    have he : Tm.rankErr rk = 1 := by unfold Tm.rankErr; rw [if_neg h6]
    rw [he]
    clear h6 he
    go_enter Try.func19, Try.ntmps19
    go_wp2
    go_ret
    exact ⟨rfl, rfl⟩

end Go.Proofs.Ytjaikmlbajdedac

namespace Go.Proofs.Ytjaikmlbajdedac
open Go.Proofs Go.RowKit Go.Shelf Go.Maps

/-- The places of the first m parts. -/
def Tm.posL (t : List Int) (k m : Nat) : List Int := (List.range m).map fun i => (Tm.pos t k i : Int)
theorem Tm.posL_len (t : List Int) (k m : Nat) : (Tm.posL t k m).length = m := by simp [Tm.posL]
theorem Tm.posL_succ (t : List Int) (k m : Nat) : Tm.posL t k (m + 1) = Tm.posL t k m ++ [(Tm.pos t k m : Int)] := by simp [Tm.posL, List.range_succ]
theorem Tm.posL_at (t : List Int) (k : Nat) {m i : Nat} (h : i < m) : (Tm.posL t k m)[i]?.getD 0 = (Tm.pos t k i : Int) := by simp [Tm.posL, h]
theorem Tm.pos_lt {t : List Int} (he : Tm.err t = 0) {k : Nat} (hk : k < t.length) {m : Nat} (hm : m < Tm.room (t[k]?.getD 0)) : Tm.pos t k m < t.length := by
  have h1 := Tm.pos_part he hk m (by omega)
  have h2 := Tm.pos_in (Tm.part_err he hk) (m := m) (by rw [Tm.sym_part he hk]; exact hm)
  rw [Tm.part_length he hk] at h2
  have h3 := Tm.end_in he hk
  omega

set_option maxRecDepth 100000 in
set_option maxHeartbeats 1000000 in
theorem partsAt_any (t : List Int) (a : Option Addr) (cap k : Nat) (w : World) (hI : Ints w.heap.size w a t) (h1 : t.length ≤ cap) (h2 : cap ≤ maxLen) (he : Tm.err t = 0) (hk : k < t.length) :
    Calls Try.prog 67 #[.slice a t.length cap, .int .i64 (k : Int)] w fun e w' => ∃ v, e = .returned v ∧ New w.heap.size w' v (Tm.posL t k (Tm.room (t[k]?.getD 0))) ∧ Below w.heap.size w w' := by
  have hl30 := Tm.err_len he
  have hl30' : (t.length : Int) ≤ 30 := by omega
  have hkl : (k : Int) < (t.length : Int) := by omega
  have hs6 := Tm.known_lt (Tm.all_at (Tm.err_all he) hk)
  have hend := hid (fun W (hW : Below w.heap.size w W) j (hj : j < t.length) => endOf_any t a cap j W ((hI.below hW).mono hW.size) h1 h2 he hj)
  have hplt := hid (fun m (hm : m < Tm.room (t[k]?.getD 0)) => Tm.pos_lt he hk hm)
  have hcell := hid (fun W (hW : Below w.heap.size w W) => ((hI.below hW).mono hW.size))
  have hr2 := Tm.room_le (t[k]?.getD 0)
  have hz := hid (fun W => size_any (t[k]?.getD 0) W hs6)
  obtain ⟨b, off, rfl, hb, _⟩ := hI.at (by omega)
  have hcc := hid (fun W (hW : Below w.heap.size w W) => show W.cell? ⟨b, off + k, none⟩ = some (.int .i64 (t[k]?.getD 0)) by
    obtain ⟨b', off', e, _, hc⟩ := hcell.out W hW k hk
    cases e; exact hc)
  clear hI h1 h2 he hs6 hcell
  generalize hr : Tm.room (t[k]?.getD 0) = r at *
  clear hr
  generalize t[k]?.getD 0 = s at *
  go_enter Try.func67, Try.ntmps67
  go_wp2
  go_loopw [5, 6, 7] (fun v p i wr => ∃ m : Nat, m ≤ r ∧ i = .int .i64 (m : Int) ∧ p = .int .i64 (Tm.pos t k m : Int) ∧ New w.heap.size wr v (Tm.posL t k m) ∧ Below w.heap.size w wr) (fun _ _ i _ => r - (intOf i).toNat)
  case atStart => exact ⟨0, Nat.zero_le _, rfl, by rw [Tm.pos_zero]; rfl, New.nil _ _, Below.refl _ _⟩
  case round =>
    obtain ⟨m, hm, rfl, rfl, hN, hB⟩ := hrel
    obtain ⟨a0, c0, rfl, _⟩ := New.ints hN
    have hck := hcc.out wr hB
    have hpl : (Tm.posL t k m).length ≤ 2 := by rw [Tm.posL_len]; omega
    by_cases hlt : m < r
    · have hlt' : (m : Int) < (r : Int) := by omega
      have hp := hplt.out m hlt
      have hst := hid (Tm.posL_succ t k m)
      have hps := hid (Tm.pos_succ t k m)
      go_wp2_with (first
        | (go_at_call 81; refine (hz.out _).mono ?_; rintro e wr ⟨rfl, rfl⟩)
        | (at_builtin; go_loud (refine wp_append_int1 _ rfl _ _ rfl w.heap.size _ (Tm.posL t k m) rfl (New.alloc hN _) wr.heap.size (Tm.pos t k m : Int) rfl (cell_new _ _ _ _ rfl) (by omega) (by have := hB.size; simp; omega) ?_); intro v' w3 hN3 hg3 hB5; obtain ⟨a3, c3, rfl, _⟩ := New.ints hN3; have hB6 := (hB.alloc hB.size _).trans hB5)
        | (go_at_call 92; refine (hend.out _ hB6 _ hp).mono ?_; rintro e w4 ⟨rfl, hB7⟩))
      go_roundw
      case rel => exact ⟨m + 1, by omega, by go_num, by rw [hps.out], by rw [hst.out]; exact New.below (by simpa using hN3) hB7, hB6.trans (hB7.mono hB6.size)⟩
      case measure => simp [intOf]; omega
    · obtain rfl : m = r := by omega
      have hnl : ¬ (m : Int) < (m : Int) := by omega
      go_wp2_with (first
        | (go_at_call 81; refine (hz.out _).mono ?_; rintro e wr ⟨rfl, rfl⟩))
      go_ret
      exact ⟨_, rfl, hN, hB⟩

end Go.Proofs.Ytjaikmlbajdedac

namespace Go.Proofs.Ytjaikmlbajdedac
open Go.Proofs Go.RowKit Go.Shelf Go.Maps

/-- Block B holds thirty rows of thirty. -/
def Tab (W : World) (B : Nat) (f : Nat → Nat → Bool) : Prop := B < W.heap.size ∧ ∀ i j, i < 30 → j < 30 → W.cell? ⟨B, i * 30 + j, none⟩ = some (.bool (f i j)) ∧ W.frozen? ⟨B, i * 30 + j, none⟩ = false
theorem Tab.below {W W' : World} {B : Nat} {f : Nat → Nat → Bool} (h : Tab W B f) (hB : Below W.heap.size W W') : Tab W' B f :=
  ⟨Nat.lt_of_lt_of_le h.1 hB.size, fun i j hi hj => ⟨(hB.cell (p := ⟨B, i * 30 + j, none⟩) h.1).trans (h.2 i j hi hj).1, (hB.frozen (p := ⟨B, i * 30 + j, none⟩) h.1).trans (h.2 i j hi hj).2⟩⟩
theorem Tab.drew {W : World} {B : Nat} {f : Nat → Nat → Bool} (h : Tab W B f) (d : Nat) : Tab (W.drewN d) B f := h
def up2 (f : Nat → Nat → Bool) (i j : Nat) (v : Bool) : Nat → Nat → Bool := fun p q => if p = i ∧ q = j then v else f p q
theorem up2_same (f : Nat → Nat → Bool) (i j : Nat) (v : Bool) : up2 f i j v i j = v := by simp [up2]
theorem up2_other (f : Nat → Nat → Bool) {i j p q : Nat} (v : Bool) (h : p ≠ i ∨ q ≠ j) : up2 f i j v p q = f p q := by
  unfold up2
  rw [if_neg]
  rintro ⟨rfl, rfl⟩
  omega
theorem up2_up2 (f : Nat → Nat → Bool) (i j : Nat) (v u : Bool) : up2 (up2 f i j v) i j u = up2 f i j u := by
  funext p q
  simp only [up2]
  split <;> rfl
theorem Tab.set {W : World} {B : Nat} {f : Nat → Nat → Bool} (h : Tab W B f) {i j : Nat} (hi : i < 30) (hj : j < 30) (v : Bool) : Tab (W.setCell ⟨B, i * 30 + j, none⟩ (.bool v)) B (up2 f i j v) := by
  refine ⟨Nat.lt_of_lt_of_le h.1 (KeepsWalks.setCell W _ _).size, fun p q hp hq => ⟨?_, by rw [World.frozen?_setCell]; exact (h.2 p q hp hq).2⟩⟩
  by_cases e : p = i ∧ q = j
  · obtain ⟨rfl, rfl⟩ := e
    rw [up2_same]
    exact World.cell?_setCell_same _ _ _ (h.2 p q hp hq).1
  · rw [up2_other _ _ (by omega), World.cell?_setCell_other (h := fun e' => by
      simp only [Addr.mk.injEq, and_true, true_and] at e'
      omega)]
    exact (h.2 p q hp hq).1
theorem Tab.eq {W : World} {B : Nat} {f g : Nat → Nat → Bool} (h : Tab W B f) (e : f = g) : Tab W B g := e ▸ h

/-- Row n from column m on, and all rows behind it. -/
def tbf (rk za zb : List Int) (n m p q : Nat) : Bool := if p < za.length ∧ q < zb.length ∧ (n < p ∨ (p = n ∧ m ≤ q)) then Tm.ab rk za zb p q else false
/-- All rows from n on. -/
def tb0 (rk za zb : List Int) (n p q : Nat) : Bool := if p < za.length ∧ q < zb.length ∧ n ≤ p then Tm.ab rk za zb p q else false
theorem tbf_start (rk za zb : List Int) (i : Nat) : tb0 rk za zb (i + 1) = tbf rk za zb i zb.length := by
  funext p q
  unfold tb0 tbf
  by_cases h : p < za.length ∧ q < zb.length ∧ i + 1 ≤ p
  · rw [if_pos h, if_pos ⟨h.1, h.2.1, by omega⟩]
  · rw [if_neg h, if_neg (by omega)]
theorem tbf_end (rk za zb : List Int) (i : Nat) : tbf rk za zb i 0 = tb0 rk za zb i := by
  funext p q
  unfold tb0 tbf
  by_cases h : p < za.length ∧ q < zb.length ∧ i ≤ p
  · rw [if_pos ⟨h.1, h.2.1, by omega⟩, if_pos h]
  · rw [if_neg (by omega), if_neg h]
theorem tbf_step {rk za zb : List Int} {i j : Nat} (hi : i < za.length) (hj : j < zb.length) : up2 (tbf rk za zb i (j + 1)) i j (Tm.ab rk za zb i j) = tbf rk za zb i j := by
  funext p q
  by_cases e : p = i ∧ q = j
  · obtain ⟨rfl, rfl⟩ := e
    rw [up2_same]
    unfold tbf
    rw [if_pos ⟨hi, hj, by omega⟩]
  · rw [up2_other _ _ (by omega)]
    unfold tbf
    by_cases h : p < za.length ∧ q < zb.length ∧ (i < p ∨ (p = i ∧ j ≤ q))
    · rw [if_pos h, if_pos ⟨h.1, h.2.1, by omega⟩]
    · rw [if_neg h, if_neg (by omega)]
theorem tbf_self (rk za zb : List Int) (i j : Nat) : tbf rk za zb i (j + 1) i j = false := by unfold tbf; rw [if_neg (by omega)]
theorem tbf_row {rk za zb : List Int} {i m p q : Nat} (hp : p < za.length) (hq : q < zb.length) (h : i < p) : tbf rk za zb i m p q = Tm.ab rk za zb p q := by unfold tbf; rw [if_pos ⟨hp, hq, .inl h⟩]
theorem tbf_col {rk za zb : List Int} {i m q : Nat} (hp : i < za.length) (hq : q < zb.length) (h : m ≤ q) : tbf rk za zb i m i q = Tm.ab rk za zb i q := by unfold tbf; rw [if_pos ⟨hp, hq, .inr ⟨rfl, h⟩⟩]
/-- A cell that is not in its making. -/
theorem Tab.off {W : World} {B : Nat} {rk za zb : List Int} {i j : Nat} {v : Bool} (h : Tab W B (up2 (tbf rk za zb i (j + 1)) i j v)) {p q : Nat} (hp : p < za.length) (hq : q < zb.length) (hl : i < p ∨ (p = i ∧ j < q)) (h1 : p < 30) (h2 : q < 30) : W.cell? ⟨B, p * 30 + q, none⟩ = some (.bool (Tm.ab rk za zb p q)) := by
  have h3 := (h.2 p q h1 h2).1
  rw [up2_other _ _ (by omega)] at h3
  rcases hl with hl | ⟨rfl, hl⟩
  · rw [tbf_row hp hq hl] at h3; exact h3
  · rw [tbf_col hp hq (by omega)] at h3; exact h3
theorem Tab.on {W : World} {B : Nat} {f : Nat → Nat → Bool} {i j : Nat} {v : Bool} (h : Tab W B (up2 f i j v)) (h1 : i < 30) (h2 : j < 30) : W.cell? ⟨B, i * 30 + j, none⟩ = some (.bool v) := by
  have h3 := (h.2 i j h1 h2).1
  rw [up2_same] at h3
  exact h3
theorem zeros900 : Try.zeroCells100 = (List.replicate 900 (Value.bool false)).toArray := by kernel_rfl
theorem Tab.new (w : World) (rk za zb : List Int) : Tab (w.alloc (.cells Try.zeroCells100 100)) w.heap.size (tb0 rk za zb za.length) := by
  refine ⟨by simp, fun i j hi hj => ?_⟩
  have hb := World.alloc_heap_new w (.cells Try.zeroCells100 100)
  have h0 : tb0 rk za zb za.length i j = false := by unfold tb0; rw [if_neg (by omega)]
  rw [h0]
  constructor
  · rw [cell_at hb, zeros900]
    have : i * 30 + j < 900 := by omega
    rw [List.getElem?_toArray, List.getElem?_replicate, if_pos this]
  · unfold World.frozen?
    rw [hb]
    simp
theorem up2_start (rk za zb : List Int) (i j : Nat) : tbf rk za zb i (j + 1) = up2 (tbf rk za zb i (j + 1)) i j false := by
  funext p q
  by_cases e : p = i ∧ q = j
  · obtain ⟨rfl, rfl⟩ := e; rw [up2_same, tbf_self]
  · rw [up2_other _ _ (by omega)]

end Go.Proofs.Ytjaikmlbajdedac

namespace Go.Proofs.Ytjaikmlbajdedac
open Go.Proofs Go.RowKit Go.Shelf Go.Maps

attribute [local go_sem ↓] Go.wp_at_zero Go.wp_at_succ

/-- The row that is at hand, and the table. -/
def Rel1 (rk za zb : List Int) (w : World) (v : Value) (wr : World) : Prop :=
  (∃ i : Nat, i < za.length ∧ v = .int .i64 (i : Int) ∧ Tab wr w.heap.size (tb0 rk za zb (i + 1)) ∧ Below w.heap.size w wr) ∨ (v = .int .i64 (-1) ∧ Tab wr w.heap.size (tb0 rk za zb 0) ∧ Below w.heap.size w wr)
/-- The column that is at hand, and the table. -/
def Rel2 (rk za zb : List Int) (w : World) (i : Nat) (v : Value) (wr : World) : Prop :=
  (∃ j : Nat, j < zb.length ∧ v = .int .i64 (j : Int) ∧ Tab wr w.heap.size (tbf rk za zb i (j + 1)) ∧ Below w.heap.size w wr) ∨ (v = .int .i64 (-1) ∧ Tab wr w.heap.size (tbf rk za zb i 0) ∧ Below w.heap.size w wr)
theorem Rel1.next {rk za zb : List Int} {w wr : World} {i : Nat} (hi : i < za.length) (hT : Tab wr w.heap.size (tb0 rk za zb i)) (hB : Below w.heap.size w wr) {x : Int} (hx : x = (i : Int) - 1) : Rel1 rk za zb w (.int .i64 x) wr := by
  subst hx
  cases i with
  | zero => exact .inr ⟨rfl, hT, hB⟩
  | succ i => exact .inl ⟨i, by omega, by congr 1; omega, hT, hB⟩
theorem Rel2.next {rk za zb : List Int} {w wr : World} {i j : Nat} (hj : j < zb.length) (hT : Tab wr w.heap.size (tbf rk za zb i j)) (hB : Below w.heap.size w wr) {x : Int} (hx : x = (j : Int) - 1) : Rel2 rk za zb w i (.int .i64 x) wr := by
  subst hx
  cases j with
  | zero => exact .inr ⟨rfl, hT, hB⟩
  | succ j => exact .inl ⟨j, by omega, by congr 1; omega, hT, hB⟩

theorem New.keepM {base m : Nat} {W W' : World} {v : Value} {zs : List Int} (h : New base W v zs) (hK : Keep W.heap.size m W W') (hm : m < base) : New base W' v zs := by
  refine ⟨h.1, ?_⟩
  rcases h.2 with hn | ⟨g, cap, cur, hv, hb, hg, r⟩
  · exact .inl hn
  · exact .inr ⟨g, cap, cur, hv, hb, (hK.block g (Array.getElem?_eq_some_iff.1 hg).1 (by omega)).trans hg, r⟩
theorem keep_setD {n B o : Nat} {w X : World} (h : Keep n B w X) (v : Value) : Keep n B w (X.setCell ⟨B, o, none⟩ v) :=
  ⟨h.os, h.tape, h.output, Nat.le_trans h.size (KeepsWalks.setCell X _ v).size, fun k hk hm => (Below.heap_setCell X ⟨B, o, none⟩ v k hm).trans (h.block k hk hm)⟩
theorem keep_setC {n B o : Nat} {w X : World} (h : Keep n B w X) (v : Value) : Keep n B w ((X.setCell ⟨B, o, none⟩ v).drew) :=
  ⟨h.os, h.tape, h.output, Nat.le_trans h.size (KeepsWalks.setCell X _ v).size, fun k hk hm => (Below.heap_setCell X ⟨B, o, none⟩ v k hm).trans (h.block k hk hm)⟩
theorem below_setB {n o : Nat} {w X : World} (h : Below n w X) (q : Bool) : Below n w (X.setCell ⟨n, o, none⟩ (.bool q)) :=
  ⟨h.os, h.tape, h.output, Nat.le_trans h.size (KeepsWalks.setCell X _ _).size, fun k hk => (Below.heap_setCell X ⟨n, o, none⟩ _ k (by show k ≠ n; omega)).trans (h.block k hk)⟩
/-- The Bool that a cell holds. -/
def gB (B o : Nat) (w : World) : Bool := match w.cell? ⟨B, o, none⟩ with | some (.bool b) => b | _ => false
theorem gB_of {B o : Nat} {w : World} {b : Bool} (h : w.cell? ⟨B, o, none⟩ = some (.bool b)) : gB B o w = b := by unfold gB; rw [h]
theorem gB_cell {B o : Nat} {w : World} {b : Bool} (h : w.cell? ⟨B, o, none⟩ = some (.bool b)) : w.cell? ⟨B, o, none⟩ = some (.bool (gB B o w)) := by rw [gB_of h]; exact h
theorem new_ne {base : Nat} {W : World} {b off len cap : Nat} {X : List Int} (h : New base W (.slice (some ⟨b, off, none⟩) len cap) X) : base ≤ b := by
  rcases h.2 with ⟨e, _⟩ | ⟨g, cap', cur, e, hb, _⟩
  · cases e
  · cases e; exact hb
/-- A list in new memory can be read. -/
theorem new_ints {base m : Nat} {W W' : World} {a : Option Addr} {cap : Nat} {X : List Int} (h : New base W (.slice a X.length cap) X) (hK : Keep W.heap.size m W W') (hm : m < base) : Ints W'.heap.size W' a X := by
  obtain ⟨a', cap', e, hI, _⟩ := New.ints (h.keepM hK hm)
  cases e
  exact hI

set_option linter.unusedSimpArgs false in
set_option maxRecDepth 100000 in
set_option maxHeartbeats 60000000 in
theorem refabove_any (rk za zb : List Int) (ar aa ab : Option Addr) (cr ca cb : Nat) (w : World) (hR : Ints w.heap.size w ar rk) (hA : Ints w.heap.size w aa za) (hB : Ints w.heap.size w ab zb) (hca : za.length ≤ ca) (hca' : ca ≤ maxLen) (hcb : zb.length ≤ cb) (hcb' : cb ≤ maxLen)
    (ha : Tm.err za = 0) (hb : Tm.err zb = 0) (hr : rk.length = 6) :
    Calls Try.prog 38 #[.slice ar rk.length cr, .slice aa za.length ca, .slice ab zb.length cb] w fun e w' => e = .returned (.bool (Tm.ab rk za zb 0 0)) ∧ Below w.heap.size w w' := by
  have la := Tm.err_len ha
  have lb := Tm.err_len hb
  have pa := Tm.err_pos ha
  have pb := Tm.err_pos hb
  obtain ⟨br, fr, rfl, hbr, _⟩ := hR.at (by omega)
  obtain ⟨ba, fa, rfl, hba, _⟩ := hA.at pa
  obtain ⟨bb, fb, rfl, hbb, _⟩ := hB.at pb
  have HR := hid (fun W (hW : Below w.heap.size w W) => (hR.below hW).mono hW.size)
  have HA := hid (fun W (hW : Below w.heap.size w W) => (hA.below hW).mono hW.size)
  have HB := hid (fun W (hW : Below w.heap.size w W) => (hB.below hW).mono hW.size)
  have PA := hid (fun W (hW : Below w.heap.size w W) i (hi : i < za.length) => partsAt_any za (some ⟨ba, fa, none⟩) ca i W (HA.out W hW) hca hca' ha hi)
  have PB := hid (fun W (hW : Below w.heap.size w W) j (hj : j < zb.length) => partsAt_any zb (some ⟨bb, fb, none⟩) cb j W (HB.out W hW) hcb hcb' hb hj)
  have QA := hid (fun W (hW : Below w.heap.size w W) i (hi : i < za.length) => partOf_any za (some ⟨ba, fa, none⟩) ca i W (HA.out W hW) hca hca' ha hi)
  have QB := hid (fun W (hW : Below w.heap.size w W) j (hj : j < zb.length) => partOf_any zb (some ⟨bb, fb, none⟩) cb j W (HB.out W hW) hcb hcb' hb hj)
  have Ea := hid ha
  have Eb := hid hb
  have Hr := hid hr
  have hT0 := Tab.new w rk za zb
  have hB0 : Below w.heap.size w (w.alloc (.cells Try.zeroCells100 100)) := (Below.refl _ w).alloc (Nat.le_refl _) _
  have la' : (za.length : Int) ≤ 30 := by omega
  have lb' : (zb.length : Int) ≤ 30 := by omega
  clear hR hA hB hca hcb hca' hcb' ha hb hr hbr hba hbb
  go_enter Try.func38, Try.ntmps38
  go_wp2_with fail
  go_loopw [8] (fun v wr => Rel1 rk za zb w v wr) (fun v _ => ((intOf v) + 1).toNat)
  case atStart => exact .inl ⟨za.length - 1, by omega, by congr 1; omega, by rw [show za.length - 1 + 1 = za.length from by omega]; exact hT0, hB0⟩
  case round =>
    clear hT0 hB0
    rcases hrel with ⟨i, hi, rfl, hT, hBw⟩ | ⟨rfl, hT, hBw⟩
    · have hi30 : (i : Int) < 30 := by omega
      rw [tbf_start] at hT
      go_wp2_with fail
      go_loopw [9] (fun v wr => Rel2 rk za zb w i v wr) (fun v _ => ((intOf v) + 1).toNat)
      case atStart => exact .inl ⟨zb.length - 1, by omega, by congr 1; omega, by rw [show zb.length - 1 + 1 = zb.length from by omega]; exact hT, hBw⟩
      case round =>
        clear hT hBw
        rcases hrel with ⟨j, hj, rfl, hT, hBw⟩ | ⟨rfl, hT, hBw⟩
        · have hj30 : (j : Int) < 30 := by omega
          rw [up2_start] at hT
          have hlt := hT.1
          obtain ⟨X, hX⟩ : ∃ X, Tm.posL za i (Tm.room (za[i]?.getD 0)) = X := ⟨_, rfl⟩
          obtain ⟨Y, hY⟩ : ∃ Y, Tm.posL zb j (Tm.room (zb[j]?.getD 0)) = Y := ⟨_, rfl⟩
          have lx : X.length = Tm.room (za[i]?.getD 0) := by rw [← hX]; exact Tm.posL_len _ _ _
          have ly : Y.length = Tm.room (zb[j]?.getD 0) := by rw [← hY]; exact Tm.posL_len _ _ _
          have aX : ∀ k, k < X.length → X[k]?.getD 0 = (Tm.pos za i k : Int) := fun k hk => by rw [← hX]; exact Tm.posL_at _ _ (by omega)
          have aY : ∀ k, k < Y.length → Y[k]?.getD 0 = (Tm.pos zb j k : Int) := fun k hk => by rw [← hY]; exact Tm.posL_at _ _ (by omega)
          have PAi := hid (PA.out wr hBw i hi)
          have PBj := hid (fun W hW => PB.out W hW j hj)
          rw [hX] at PAi
          rw [hY] at PBj
          have r1 : X.length ≤ 2 := by rw [lx]; exact Tm.room_le _
          have r2 : Y.length ≤ 2 := by rw [ly]; exact Tm.room_le _
          have Hab := hid (Tm.ab_eq (rk := rk) Ea.out Eb.out hi hj)
          rw [← lx] at Hab
          have Hpx := hid (fun k (hk : k < X.length) => Tm.pos_lt Ea.out hi (m := k) (by omega))
          have Hpy := hid (fun k (hk : k < Y.length) => Tm.pos_lt Eb.out hj (m := k) (by omega))
          have AX := hid aX
          have AY := hid aY
          have Hlx := hid lx
          have Hly := hid ly
          clear hX hY lx ly aX aY
          go_wp2_with (first
            | (go_at_call_of 67 (Value.slice (some ⟨ba, fa, none⟩) za.length ca); refine PAi.out.mono ?_; rintro e w1 ⟨v1, rfl, hN1, b1⟩; have B1 := hBw.trans (b1.mono hBw.size); obtain ⟨x1, c1, rfl, _⟩ := New.ints hN1)
            | (go_at_call_of 67 (Value.slice (some ⟨bb, fb, none⟩) zb.length cb); refine (PBj.out w1 B1).mono ?_; rintro e w2 ⟨v2, rfl, hN2, b2⟩; have B2 := B1.trans (b2.mono B1.size); obtain ⟨x2, c2, rfl, _⟩ := New.ints hN2))
          have T2 := (hT.below b1).below b2
          have N1 := hid (New.below hN1 b2)
          have N2 := hid (hN2.mono b1.size)
          have CX := hid (fun W (hK : Keep w2.heap.size w.heap.size w2 W) => new_ints N1.out hK hlt)
          have CY := hid (fun W (hK : Keep w2.heap.size w.heap.size w2 W) => new_ints N2.out hK hlt)
          clear hT hN1 hN2 b1 b2 B1 PAi PBj
          go_loopw [12] (fun v W => ∃ k : Nat, k ≤ X.length ∧ v = .int .i64 (k : Int) ∧ Tab W w.heap.size (up2 (tbf rk za zb i (j + 1)) i j (Tm.bp rk za zb i j k)) ∧ Keep w2.heap.size w.heap.size w2 W) (fun v _ => X.length - (intOf v).toNat)
          case atStart => exact ⟨0, Nat.zero_le _, rfl, T2, Keep.refl _ _ _⟩
          case round =>
            obtain ⟨k, hk, rfl, hT, hK⟩ := hrel
            clear T2
            have Bw : Below w.heap.size w wr := B2.trans ((hK.mono B2.size).below (Nat.le_refl _))
            by_cases hlt3 : k < X.length
            · have hlt3' : (k : Int) < (X.length : Int) := by omega
              have hp := Hpx.out k hlt3
              have hpg := Tm.pos_gt za i k
              obtain ⟨bx, ox, rfl, _, cx⟩ := CX.out wr hK k hlt3
              rw [AX.out k hlt3] at cx
              have cij := hT.on (by omega) (by omega)
              have fij := (hT.2 i j (by omega) (by omega)).2
              have cpj := hT.off (p := Tm.pos za i k) (q := j) hp hj (.inl hpg) (by omega) (by omega)
              have hbs := hid (Tm.bp_succ rk za zb i j k)
              have hp30 : (Tm.pos za i k : Int) < 30 := by omega
              have HT := hid hT
              have hset := hid (fun W (hW : Below wr.heap.size wr W) q => ((hT.below hW).set (i := i) (j := j) (by omega) (by omega) q).eq (up2_up2 _ i j _ q))
              have HK := hid hK
              have hne : w.heap.size ≠ bx := by have := new_ne N1.out; omega
              clear hT hK
              cases hv : Tm.bp rk za zb i j k with
              | true =>
                rw [hv] at cij hbs
                clear hv
                go_wp2_with fail
                have cij2 := World.cell?_setCell_same wr ⟨w.heap.size, i * 30 + j, none⟩ (.bool true) cij
                go_big_region
                all_goals (
                  go_wp2
                  go_roundw
                  case rel => exact ⟨k + 1, by omega, by go_num, by rw [hbs.out]; exact hset.out wr (Below.refl _ _) true, keep_setC HK.out _⟩
                  case measure => simp [intOf]; omega)
              | false =>
                rw [hv] at cij hbs
                clear hv
                cases hA : Tm.ab rk za zb (Tm.pos za i k) j with
                | true =>
                  rw [hA] at cpj hbs
                  have hv1 : Hid (Tm.bp rk za zb i j (k + 1) = true) := by show _ = _; rw [hbs.out]; simp
                  clear hA hbs
                  go_wp2_with fail
                  go_big_region
                  all_goals (
                    go_wp2
                    go_roundw
                    case rel => exact ⟨k + 1, by omega, by go_num, by rw [hv1.out]; exact hset.out wr (Below.refl _ _) true, keep_setC HK.out _⟩
                    case measure => simp [intOf]; omega)
                | false =>
                  rw [hA] at cpj hbs
                  have hv1 : Hid (Tm.bp rk za zb i j (k + 1) = Tm.sm za zb (Tm.pos za i k) j) := by show _ = _; rw [hbs.out]; simp
                  clear hA hbs
                  have hS := hid (fun w' (hW : Below wr.heap.size wr w') => (show w'.cell? ⟨bx, ox + k, none⟩ = some (.int .i64 (Tm.pos za i k : Int)) ∧ w'.cell? ⟨w.heap.size, Tm.pos za i k * 30 + j, none⟩ = some (.bool false) from
                    ⟨(hW.cell (p := ⟨bx, ox + k, none⟩) (lt_of_cell cx)).trans cx, (hW.cell (p := ⟨w.heap.size, Tm.pos za i k * 30 + j, none⟩) HT.out.1).trans cpj⟩))
                  have hSs := hid (fun w' (hW : Below wr.heap.size wr w') q => (show (w'.setCell ⟨w.heap.size, i * 30 + j, none⟩ (.bool q)).cell? ⟨bx, ox + k, none⟩ = some (.int .i64 (Tm.pos za i k : Int)) ∧ (w'.setCell ⟨w.heap.size, i * 30 + j, none⟩ (.bool q)).cell? ⟨w.heap.size, Tm.pos za i k * 30 + j, none⟩ = some (.bool false) from
                    ⟨(World.cell?_setCell_far _ _ _ _ hne).trans (hS.out w' hW).1, (World.cell?_setCell_other _ _ _ _ (fun e' => by
                      simp only [Addr.mk.injEq, and_true, true_and] at e'
                      omega)).trans (hS.out w' hW).2⟩))
                  have hCi := hid (fun w' (hW : Below wr.heap.size wr w') => (⟨(hW.cell (p := ⟨w.heap.size, i * 30 + j, none⟩) HT.out.1).trans cij, (hW.frozen (p := ⟨w.heap.size, i * 30 + j, none⟩) HT.out.1).trans fij⟩ : w'.cell? ⟨w.heap.size, i * 30 + j, none⟩ = some (.bool false) ∧ w'.frozen? ⟨w.heap.size, i * 30 + j, none⟩ = false))
                  have hP1 := hid (fun W hW => QA.out W hW (Tm.pos za i k) hp)
                  have hP2 := hid (fun W hW => QB.out W hW j hj)
                  have pl3 := Tm.err_len (Tm.part_err Ea.out hp)
                  have hE3 := hid (fun W x3 c3 x4 c4 h3 h4 => same_any (Tm.part za (Tm.pos za i k)) (Tm.part zb j) x3 x4 c3 c4 W h3 h4 (by unfold maxLen; omega))
                  have hq : Hid (sameB (Tm.part za (Tm.pos za i k)) (Tm.part zb j) = Tm.sm za zb (Tm.pos za i k) j) := rfl
                  rw [hq.out] at hE3
                  clear pl3
                  generalize Tm.sm za zb (Tm.pos za i k) j = sq at *
                  generalize Tm.part za (Tm.pos za i k) = Pa at *
                  generalize Tm.part zb j = Pb at *
                  go_wp2_with fail
                  go_region_with (first
                    | (go_at_call_of 68 (Value.slice (some ⟨ba, fa, none⟩) za.length ca); refine (hP1.out _ ?_).mono ?_; exact below_drew1 Bw; clear hP1; rintro e w3 ⟨v3, rfl, hN3, b3⟩; obtain ⟨x3, c3, rfl, hI3, _⟩ := New.ints hN3; have d3 : Below wr.heap.size wr w3 := ⟨b3.os, b3.tape, b3.output, b3.size, b3.block⟩; have e3 := Bw.trans (d3.mono Bw.size))
                    | (go_at_call_of 68 (Value.slice (some ⟨bb, fb, none⟩) zb.length cb); refine (hP2.out _ ?_).mono ?_; exact e3; clear hP2; rintro e w4 ⟨v4, rfl, hN4, b4⟩; obtain ⟨x4, c4, rfl, hI4, _⟩ := New.ints hN4; have d4 : Below wr.heap.size wr w4 := d3.trans (b4.mono d3.size); have hE4 := hid (hE3.out w4 x3 c3 x4 c4 ((hI3.below b4).mono b4.size) hI4))
                    | (go_at_call 10; refine hE4.out.mono ?_; clear hE4; rintro e w5 ⟨rfl, b5⟩; have d5 : Below wr.heap.size wr w5 := d4.trans (b5.mono d4.size); obtain ⟨c5, f5⟩ := hCi.out w5 d5))
                  all_goals (
                    go_wp2
                    go_roundw
                    case rel => exact ⟨k + 1, by omega, by go_num, by rw [hv1.out]; exact hset.out w5 d5 sq, keep_setD (HK.out.trans (Keep.of_below (d5.mono HK.out.size))) _⟩
                    case measure => simp [intOf]; omega)
            · obtain rfl : k = X.length := by omega
              have cij := hT.on (by omega) (by omega)
              obtain ⟨_, _, e5, _, ci⟩ := HA.out wr Bw i hi
              cases e5
              obtain ⟨_, _, e6, _, cj⟩ := HB.out wr Bw j hj
              cases e6
              have hi' : (i : Int) < (za.length : Int) := by omega
              have hj' : (j : Int) < (zb.length : Int) := by omega
              have hsA := hid (fun (h : za[i]?.getD 0 < 0) => show Tm.sy rk za zb i j = false by unfold Tm.sy; rw [decide_eq_false (by omega)]; rfl)
              have hsB := hid (fun (h : zb[j]?.getD 0 < 0) => show Tm.sy rk za zb i j = false by unfold Tm.sy; rw [decide_eq_false (p := 0 ≤ zb[j]?.getD 0) (by omega)]; simp)
              have hsP := hid (fun h1 h2 => sy_pos (rk := rk) (i := i) (j := j) (za := za) (zb := zb) h1 h2)
              have kf := Tm.known_lt (Tm.all_at (Tm.err_all Ea.out) hi)
              have kg := Tm.known_lt (Tm.all_at (Tm.err_all Eb.out) hj)
              have Hstep := hid (fun q (hq : q = Tm.ab rk za zb i j) => show up2 (tbf rk za zb i (j + 1)) i j q = tbf rk za zb i j by rw [hq]; exact tbf_step hi hj)
              rw [← Hlx.out, ← Hly.out] at hsP
              have CI := hid (fun W (hW : Below w.heap.size w W) => show W.cell? ⟨ba, fa + i, none⟩ = some (.int .i64 (za[i]?.getD 0)) by
                obtain ⟨_, _, e, _, c⟩ := HA.out W hW i hi
                cases e; exact c)
              have CJ := hid (fun W (hW : Below w.heap.size w W) => show W.cell? ⟨bb, fb + j, none⟩ = some (.int .i64 (zb[j]?.getD 0)) by
                obtain ⟨_, _, e, _, c⟩ := HB.out W hW j hj
                cases e; exact c)
              have CR := hid (fun W (hW : Below w.heap.size w W) n (hn : n < 6) => show W.cell? ⟨br, fr + n, none⟩ = some (.int .i64 (rk[n]?.getD 0)) by
                obtain ⟨_, _, e, _, c⟩ := HR.out W hW n (by rw [Hr.out]; exact hn)
                cases e; exact c)
              generalize za[i]?.getD 0 = s1 at *
              generalize zb[j]?.getD 0 = s2 at *
              by_cases h1 : s1 < 0
              · have hz := hid (hsA.out h1)
                go_wp2
                go_roundw
                case rel => exact Rel2.next hj (hT.eq (Hstep.out _ (by rw [Hab.out, hz.out, Bool.or_false]))) Bw (by go_num)
                case measure => simp [intOf]
              by_cases h2 : s2 < 0
              · have hz := hid (hsB.out h2)
                have h1' : decide (s1 < 0) = false := by simpa using h1
                go_wp2
                go_roundw
                case rel => exact Rel2.next hj (hT.eq (Hstep.out _ (by rw [Hab.out, hz.out, Bool.or_false]))) Bw (by go_num)
                case measure => simp [intOf]
              have h1' : decide (s1 < 0) = false := by simpa using h1
              have h2' : decide (s2 < 0) = false := by simpa using h2
              obtain ⟨f, rfl⟩ := Int.eq_ofNat_of_zero_le (show 0 ≤ s1 by omega)
              obtain ⟨g, rfl⟩ := Int.eq_ofNat_of_zero_le (show 0 ≤ s2 by omega)
              have hsq := hid (hsP.out (by omega) (by omega))
              clear hsA hsB hsP h1 h2
              cases hv : Tm.bp rk za zb i j X.length with
              | true =>
                rw [hv] at cij Hab hT
                have hz := hid (show Tm.ab rk za zb i j = true by rw [Hab.out]; rfl)
                clear hv
                go_wp2
                go_roundw
                case rel => exact Rel2.next hj (hT.eq (Hstep.out _ hz.out.symm)) Bw (by go_num)
                case measure => simp [intOf]
              | false =>
                rw [hv] at cij Hab hT
                have Hz := hid (show Tm.ab rk za zb i j = Tm.sy rk za zb i j by rw [Hab.out]; rfl)
                clear hv Hab
                go_wp2_with fail
                go_loopw [13, 14] (fun q v W => ∃ m : Nat, m ≤ Y.length ∧ v = .int .i64 (m : Int) ∧ q = .bool (Tm.ov rk za zb i j m) ∧ Tab W w.heap.size (up2 (tbf rk za zb i (j + 1)) i j false) ∧ Keep w2.heap.size w.heap.size w2 W) (fun _ v _ => Y.length - (intOf v).toNat)
                case atStart => exact ⟨0, Nat.zero_le _, rfl, rfl, hT, hK⟩
                case round =>
                  clear hT hK cij ci cj Bw
                  obtain ⟨m, hm, rfl, rfl, hT, hK⟩ := hrel
                  have Bw : Below w.heap.size w wr := B2.trans ((hK.mono B2.size).below (Nat.le_refl _))
                  by_cases hm2 : m < Y.length
                  · have hm2' : (m : Int) < (Y.length : Int) := by omega
                    have hp := Hpy.out m hm2
                    have hpg := Tm.pos_gt zb j m
                    obtain ⟨by', oy, rfl, _, cy⟩ := CY.out wr hK m hm2
                    rw [AY.out m hm2] at cy
                    have ciy := hT.off (p := i) (q := Tm.pos zb j m) hi hp (.inr ⟨rfl, hpg⟩) (by omega) (by omega)
                    have hos := hid (Tm.ov_succ rk za zb i j m)
                    have hp30 : (Tm.pos zb j m : Int) < 30 := by omega
                    have HT := hid hT
                    have HK := hid hK
                    clear hT hK
                    cases hf : Tm.ov rk za zb i j m with
                    | false =>
                      rw [hf] at hos
                      clear hf
                      go_wp2_with fail
                      go_quiet (fail)
                      go_wp2
                      go_roundw
                      case rel => exact ⟨m + 1, by omega, by go_num, by rw [hos.out]; rfl, HT.out.drew _, keep_drewN HK.out _⟩
                      case measure => simp [intOf]; omega
                    | true =>
                      rw [hf] at hos
                      clear hf
                      generalize Tm.ab rk za zb i (Tm.pos zb j m) = aq at *
                      go_wp2_with fail
                      go_quiet (fail)
                      go_wp2
                      go_roundw
                      case rel => exact ⟨m + 1, by omega, by go_num, by rw [hos.out]; rfl, HT.out.drew _, keep_drewN HK.out _⟩
                      case measure => simp [intOf]; omega
                  · obtain rfl : m = Y.length := by omega
                    have ci := CI.out wr Bw
                    have cj := CJ.out wr Bw
                    have cij := hT.on (by omega) (by omega)
                    have fij := (hT.2 i j (by omega) (by omega)).2
                    have hset := hid (fun W (hT : Tab W w.heap.size (up2 (tbf rk za zb i (j + 1)) i j false)) q (hq : q = Tm.ab rk za zb i j) => (hT.set (i := i) (j := j) (by omega) (by omega) q).eq ((up2_up2 _ i j _ q).trans (Hstep.out q hq)))
                    by_cases hfg : (f : Int) = (g : Int)
                    · have hfgb : ((f : Int) != (g : Int)) = false := by rw [hfg]; simp
                      have hxy : X.length = Y.length := by
                        have h3 := Hlx.out
                        have h4 := Hly.out
                        rw [hfg] at h3
                        rw [h3, h4]
                      have hsq2 := hsq.out
                      rw [if_pos hfg] at hsq2
                      have Hq := hid (Hz.out.trans hsq2)
                      have Hxy := hid hxy
                      clear hsq2 hfg hsq Hz hxy
                      generalize Tm.ov rk za zb i j Y.length = oq at *
                      go_wp2_with fail
                      go_quiet (fail)
                      go_wp2_with fail
                      try simp only [hfgb]
                      clear hfgb
                      go_loopw [15] (fun v W => ∃ n : Nat, n ≤ X.length ∧ v = .int .i64 (n : Int) ∧ Hid (Tm.sms za zb i j n = true) ∧ Tab W w.heap.size (up2 (tbf rk za zb i (j + 1)) i j false) ∧ Keep w2.heap.size w.heap.size w2 W) (fun v _ => X.length - (intOf v).toNat)
                      case atStart => exact ⟨0, Nat.zero_le _, rfl, hid rfl, hT.drew _, keep_drewN hK _⟩
                      case round =>
                        clear hT hK cij ci cj Bw fij
                        obtain ⟨n, hn, rfl, hsm, hT, hK⟩ := hrel
                        have Bw : Below w.heap.size w wr := B2.trans ((hK.mono B2.size).below (Nat.le_refl _))
                        by_cases hn2 : n < X.length
                        · have hn2' : (n : Int) < (X.length : Int) := by omega
                          have hny : n < Y.length := by have := Hxy.out; omega
                          have hny' : (n : Int) < (Y.length : Int) := by omega
                          have hp := Hpx.out n hn2
                          have hpg := Tm.pos_gt za i n
                          have hp2 := Hpy.out n hny
                          obtain ⟨bx, ox, rfl, _, cx⟩ := CX.out wr hK n hn2
                          rw [AX.out n hn2] at cx
                          obtain ⟨by', oy, rfl, _, cy⟩ := CY.out wr hK n hny
                          rw [AY.out n hny] at cy
                          have HT := hid hT
                          have HK := hid hK
                          have hS := hid (fun w' (hW : Below wr.heap.size wr w') => (show w'.cell? ⟨bx, ox + n, none⟩ = some (.int .i64 (Tm.pos za i n : Int)) ∧ w'.cell? ⟨by', oy + n, none⟩ = some (.int .i64 (Tm.pos zb j n : Int)) from
                            ⟨(hW.cell (p := ⟨bx, ox + n, none⟩) (lt_of_cell cx)).trans cx, (hW.cell (p := ⟨by', oy + n, none⟩) (lt_of_cell cy)).trans cy⟩))
                          have hP1 := hid (fun W hW => QA.out W hW (Tm.pos za i n) hp)
                          have hP2 := hid (fun W hW => QB.out W hW (Tm.pos zb j n) hp2)
                          have pl3 := Tm.err_len (Tm.part_err Ea.out hp)
                          have hE3 := hid (fun W x3 c3 x4 c4 h3 h4 => same_any (Tm.part za (Tm.pos za i n)) (Tm.part zb (Tm.pos zb j n)) x3 x4 c3 c4 W h3 h4 (by unfold maxLen; omega))
                          have hq : Hid (sameB (Tm.part za (Tm.pos za i n)) (Tm.part zb (Tm.pos zb j n)) = Tm.sm za zb (Tm.pos za i n) (Tm.pos zb j n)) := rfl
                          rw [hq.out] at hE3
                          have hsn := hid (Tm.sms_succ za zb i j n)
                          have hfd := hid (fun h => Tm.fd_at (rk := rk) hn2 hsm.out h)
                          have hp30 : (Tm.pos za i n : Int) < 30 := by omega
                          have hq30 : (Tm.pos zb j n : Int) < 30 := by omega
                          clear pl3 hq hT hK
                          cases hsv : Tm.sm za zb (Tm.pos za i n) (Tm.pos zb j n) with
                          | true =>
                            rw [hsv] at hE3 hsn
                            clear hsv hfd
                            go_wp2_with fail
                            have hS0 := hS.out wr (Below.refl _ _)
                            go_region_held3 (fun w' => w'.cell? ⟨bx, ox + n, none⟩ = some (.int .i64 (Tm.pos za i n : Int)) ∧ w'.cell? ⟨by', oy + n, none⟩ = some (.int .i64 (Tm.pos zb j n : Int))) (first | assumption | exact hS.out wr (Below.refl _ _) | exact hS.out _ (below_drew1 (Below.refl _ wr))) (first
                              | (go_at_call_of 68 (Value.slice (some ⟨ba, fa, none⟩) za.length ca); refine (hP1.out _ (below_drew1 Bw)).mono ?_; clear hP1; rintro e w3 ⟨v3, rfl, hN3, b3⟩; obtain ⟨x3, c3, rfl, hI3, _⟩ := New.ints hN3; have d3 : Below wr.heap.size wr w3 := ⟨b3.os, b3.tape, b3.output, b3.size, b3.block⟩; have hS3 := hS.out w3 d3; have e3 := Bw.trans (d3.mono Bw.size))
                              | (go_at_call_of 68 (Value.slice (some ⟨bb, fb, none⟩) zb.length cb); refine (hP2.out w3 e3).mono ?_; clear hP2; rintro e w4 ⟨v4, rfl, hN4, b4⟩; obtain ⟨x4, c4, rfl, hI4, _⟩ := New.ints hN4; have d4 : Below wr.heap.size wr w4 := d3.trans (b4.mono d3.size); have hS4 := hS.out w4 d4; have hE4 := hid (hE3.out w4 x3 c3 x4 c4 ((hI3.below b4).mono b4.size) hI4))
                              | (go_at_call 10; refine hE4.out.mono ?_; clear hE4; rintro e w5 ⟨rfl, b5⟩; have d5 : Below wr.heap.size wr w5 := d4.trans (b5.mono d4.size); have hS5 := hS.out w5 d5))
                            all_goals (
                              go_wp2
                              go_roundw
                              case rel => exact ⟨n + 1, by omega, by go_num, hid (by rw [hsn.out, hsm.out]; rfl), HT.out.below d5, HK.out.trans (Keep.of_below (d5.mono HK.out.size))⟩
                              case measure => simp [intOf]; omega)
                          | false =>
                            have Hfd := hid (hfd.out hsv)
                            rw [hsv] at hE3
                            clear hsv hfd hsn
                            go_wp2_with fail
                            have hS0 := hS.out wr (Below.refl _ _)
                            go_region_held3 (fun w' => w'.cell? ⟨bx, ox + n, none⟩ = some (.int .i64 (Tm.pos za i n : Int)) ∧ w'.cell? ⟨by', oy + n, none⟩ = some (.int .i64 (Tm.pos zb j n : Int))) (first | assumption | exact hS.out wr (Below.refl _ _) | exact hS.out _ (below_drew1 (Below.refl _ wr))) (first
                              | (go_at_call_of 68 (Value.slice (some ⟨ba, fa, none⟩) za.length ca); refine (hP1.out _ (below_drew1 Bw)).mono ?_; clear hP1; rintro e w3 ⟨v3, rfl, hN3, b3⟩; obtain ⟨x3, c3, rfl, hI3, _⟩ := New.ints hN3; have d3 : Below wr.heap.size wr w3 := ⟨b3.os, b3.tape, b3.output, b3.size, b3.block⟩; have hS3 := hS.out w3 d3; have e3 := Bw.trans (d3.mono Bw.size))
                              | (go_at_call_of 68 (Value.slice (some ⟨bb, fb, none⟩) zb.length cb); refine (hP2.out w3 e3).mono ?_; clear hP2; rintro e w4 ⟨v4, rfl, hN4, b4⟩; obtain ⟨x4, c4, rfl, hI4, _⟩ := New.ints hN4; have d4 : Below wr.heap.size wr w4 := d3.trans (b4.mono d3.size); have hS4 := hS.out w4 d4; have hE4 := hid (hE3.out w4 x3 c3 x4 c4 ((hI3.below b4).mono b4.size) hI4))
                              | (go_at_call 10; refine hE4.out.mono ?_; clear hE4; rintro e w5 ⟨rfl, b5⟩; have d5 : Below wr.heap.size wr w5 := d4.trans (b5.mono d4.size); have hS5 := hS.out w5 d5))
                            all_goals (
                              obtain ⟨cx5, cy5⟩ := hS.out w5 d5
                              have T5 := HT.out.below d5
                              have cij := T5.on (by omega) (by omega)
                              have fij := (T5.2 i j (by omega) (by omega)).2
                              have cpq := T5.off (p := Tm.pos za i n) (q := Tm.pos zb j n) hp hp2 (.inl hpg) (by omega) (by omega)
                              have B5 := Bw.trans (d5.mono Bw.size)
                              have B6 := hid (fun q => (below_setB B5 (o := i * 30 + j) q : Below w.heap.size w (w5.setCell ⟨w.heap.size, i * 30 + j, none⟩ (.bool q))))
                              have HT5 := hid T5
                              rw [← Hfd.out] at cpq
                              clear hS hS0 T5 hE3 cx cy
                              generalize Tm.fd rk za zb i j X.length = dq at *
                              cases oq with
                              | true =>
                                go_wp2_with fail
                                go_big_region
                                all_goals (
                                  go_wp2
                                  go_roundw
                                  case rel => exact Rel2.next hj ((hset.out w5 HT5.out dq (by rw [Hq.out]; rfl)).drew 1) (below_drew1 (B6.out dq)) (by go_num)
                                  case measure => simp [intOf])
                              | false =>
                                go_wp2_with fail
                                go_big_region
                                all_goals (
                                  go_wp2
                                  go_roundw
                                  case rel => exact Rel2.next hj ((hset.out w5 HT5.out false (by rw [Hq.out]; rfl)).drew 1) (below_drew1 (B6.out false)) (by go_num)
                                  case measure => simp [intOf]))
                        · obtain rfl : n = X.length := by omega
                          have hz := hid (show Tm.ab rk za zb i j = false by rw [Hq.out, Tm.fd_same hsm.out, Bool.and_false])
                          go_wp2
                          go_roundw
                          case rel => exact Rel2.next hj (hT.eq (Hstep.out _ hz.out.symm)) Bw (by go_num)
                          case measure => simp [intOf]
                    · have hfgb : ((f : Int) != (g : Int)) = true := by simpa using hfg
                      have hsq2 := hsq.out
                      rw [if_neg hfg] at hsq2
                      have Hq := hid (Hz.out.trans hsq2)
                      have kf6 : f < 6 := by omega
                      have kg6 : g < 6 := by omega
                      have cf := CR.out wr Bw f kf6
                      have cg := CR.out wr Bw g kg6
                      have hrf : Hid (Tm.rankOf rk (f : Int) = rk[f]?.getD 0) := rfl
                      have hrg : Hid (Tm.rankOf rk (g : Int) = rk[g]?.getD 0) := rfl
                      rw [hrf.out, hrg.out] at Hq
                      have hfl : (f : Int) < (rk.length : Int) := by have := Hr.out; omega
                      have hgl : (g : Int) < (rk.length : Int) := by have := Hr.out; omega
                      have HT5 := hid (hT.drew)
                      have B6 := hid (fun q => (below_setB Bw (o := i * 30 + j) q : Below w.heap.size w (wr.setCell ⟨w.heap.size, i * 30 + j, none⟩ (.bool q))))
                      clear hsq2 hfg hsq Hz hrf hrg kf6 kg6
                      generalize Tm.ov rk za zb i j Y.length = oq at *
                      generalize rk[f]?.getD 0 = rf at *
                      generalize rk[g]?.getD 0 = rg at *
                      cases oq with
                      | true =>
                        go_wp2_with fail
                        go_quiet (fail)
                        go_wp2_with fail
                        go_big_region
                        all_goals (
                          go_wp2
                          go_roundw
                          case rel => exact Rel2.next hj (hset.out _ (hT.drew _) (decide (rg < rf)) (by rw [Hq.out]; rfl)) (below_setB (below_drewN Bw _) _) (by go_num)
                          case measure => simp [intOf])
                      | false =>
                        go_wp2_with fail
                        go_quiet (fail)
                        go_wp2_with fail
                        go_big_region
                        all_goals (
                          go_wp2
                          go_roundw
                          case rel => exact Rel2.next hj (hset.out _ (hT.drew _) false (by rw [Hq.out]; rfl)) (below_setB (below_drewN Bw _) _) (by go_num)
                          case measure => simp [intOf])
        · rw [tbf_end] at hT
          go_wp2
          go_roundw
          case rel => exact Rel1.next hi hT hBw (by go_num)
          case measure => simp [intOf]
    · have hc := (hT.2 0 0 (by omega) (by omega)).1
      have h0 : tb0 rk za zb 0 0 0 = Tm.ab rk za zb 0 0 := by unfold tb0; rw [if_pos ⟨pa, pb, Nat.le_refl _⟩]
      rw [h0] at hc
      simp only [Nat.zero_mul, Nat.zero_add] at hc
      go_wp2
      go_ret
      exact ⟨rfl, hBw⟩

end Go.Proofs.Ytjaikmlbajdedac

namespace Go.Proofs.Ytjaikmlbajdedac
open Go.Proofs Go.RowKit Go.Shelf Go.Maps

theorem aboveErr_fit {rk za zb : List Int} (h : Tm.rankErr rk = 0) : Tm.aboveErr rk za zb = Tm.fitErr za zb := by
  unfold Tm.aboveErr Tm.fitErr
  rw [if_pos h]
  simp only [Tm.firstErr]
  by_cases h1 : Tm.err za = 0
  · by_cases h2 : Tm.err zb = 0
    · simp [h1, h2]
    · simp [h1, h2]
  · simp [h1]

set_option maxRecDepth 100000 in
set_option maxHeartbeats 1000000 in
theorem aboveOf_any (rk za zb : List Int) (ar aa ab : Option Addr) (cr ca cb : Nat) (w : World) (hR : Ints w.heap.size w ar rk) (hA : Ints w.heap.size w aa za) (hB : Ints w.heap.size w ab zb) (hca : za.length ≤ ca) (hca' : ca ≤ maxLen) (hcb : zb.length ≤ cb) (hcb' : cb ≤ maxLen) :
    Calls Try.prog 16 #[.slice ar rk.length cr, .slice aa za.length ca, .slice ab zb.length cb] w fun e w' => e = .returned (.tuple #[.bool (Tm.aboveVal rk za zb), .int .i64 (Tm.aboveErr rk za zb)]) ∧ Below w.heap.size w w' := by
  have hC1 := rankError_any rk ar cr w hR
  by_cases h1 : Tm.rankErr rk = 0
  · rw [h1] at hC1
    have hC2 := twoErrors_any za zb aa ab ca cb w hA hB
    have he := aboveErr_fit (za := za) (zb := zb) h1
    rw [he]
    by_cases h2 : Tm.fitErr za zb = 0
    · rw [h2] at hC2 ⊢
      rw [h2] at he
      obtain ⟨_, k2, k3⟩ := Tm.aboveErr_ok he
      have hv : Tm.aboveVal rk za zb = Tm.ab rk za zb 0 0 := by
        unfold Tm.aboveVal Tm.ab
        rw [if_pos he, Tm.part_all0 (Tm.err_run k2), Tm.part_all0 (Tm.err_run k3)]
      rw [hv]
      have hC3 := refabove_any rk za zb ar aa ab cr ca cb w hR hA hB hca hca' hcb hcb' k2 k3 (rank_six h1)
      clear h1 h2 he hv hR hA hB hca hcb hca' hcb' k2 k3
      generalize Tm.ab rk za zb 0 0 = q at *
      go_enter Try.func16, Try.ntmps16
      go_wp2_with fail
      refine hC1.mono ?_
      rintro e w ⟨rfl, rfl⟩
      go_wp2_with fail
      refine hC2.mono ?_
      rintro e w ⟨rfl, rfl⟩
      go_wp2_with fail
      refine hC3.mono ?_
      rintro e w3 ⟨rfl, b3⟩
      go_wp2
      go_ret2
      exact ⟨rfl, b3⟩
    · have hv : Tm.aboveVal rk za zb = false := by unfold Tm.aboveVal; rw [he, if_neg h2]
      have hn : (Tm.fitErr za zb != 0) = true := by simpa using h2
      rw [hv]
      clear h1 h2 he hv hca hcb hca' hcb'
      generalize Tm.fitErr za zb = q at *
      go_enter Try.func16, Try.ntmps16
      go_wp2_with fail
      refine hC1.mono ?_
      rintro e w ⟨rfl, rfl⟩
      go_wp2_with fail
      refine hC2.mono ?_
      rintro e w ⟨rfl, rfl⟩
      go_wp2
      go_ret2
      exact ⟨rfl, Below.refl _ _⟩
  · have he : Tm.aboveErr rk za zb = Tm.rankErr rk := by unfold Tm.aboveErr; rw [if_neg h1]
    have hv : Tm.aboveVal rk za zb = false := by unfold Tm.aboveVal; rw [he, if_neg h1]
    have hn : (Tm.rankErr rk != 0) = true := by simpa using h1
    rw [he, hv]
    clear h1 he hv hca hcb hca' hcb'
    generalize Tm.rankErr rk = q at *
    go_enter Try.func16, Try.ntmps16
    go_wp2_with fail
    refine hC1.mono ?_
    rintro e w ⟨rfl, rfl⟩
    go_wp2
    go_ret2
    exact ⟨rfl, Below.refl _ _⟩

end Go.Proofs.Ytjaikmlbajdedac
