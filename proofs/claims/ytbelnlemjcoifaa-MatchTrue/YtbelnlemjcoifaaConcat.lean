/-
  slices.Grow of the nil slice; slices.Concat of slices of ints.
-/
import Derived.Lib.AppendZeros
import Derived.Test.YtbelnlemjcoifaaPart2
namespace Go.Proofs.Ytbelnlemjcoifaa
open Go.Proofs Go.RowKit Go.Shelf

set_option maxRecDepth 100000 in
set_option maxHeartbeats 400000 in
/-- slices.Grow(nil, n), n from 1 on. -/
theorem grow_nil (n : Nat) (w : World) (h1 : 1 ≤ n) (h2 : n ≤ 100000) :
    Calls Try.prog 70 #[.slice none 0 0, .int .i64 (n : Int)] w fun e w' => ∃ v, e = .returned v ∧ New w.heap.size w' v [] ∧ Below w.heap.size w w' := by
  obtain ⟨i0, hi, hz0, hz1, hz2⟩ := info_parts Try.info3
  have happ := Lib.run_append_nil_zeros (P := Try.prog) w 23 3 23 3 i0 (.int .i64 0) .i64 .i64 Try.underlying23 Try.underlying3 hi hz0 n (by omega) (by omega) (by omega) (by rw [hz2]; omega)
  generalize hcap : grownCap w n 0 3 = cap2 at happ
  have hcapge : n ≤ cap2 := by rw [← hcap]; exact grownCap_ge w _ 0 3
  have hcaple : cap2 ≤ maxLen := by rw [← hcap]; exact grownCap_le_maxLen w _ 0 3 (by unfold maxLen; omega)
  generalize hZ : (Builtin.zeroCells (Value.int .i64 0).cells n ++ Builtin.zeroCells (Value.int .i64 0).cells (cap2 - n)) = Z at happ
  have hZs : Z.size = cap2 := by rw [← hZ]; simp [size_zeroCells, Value.cells]; omega
  clear hcap hZ
  have hp : (0 : Int) < (n : Int) := by omega
  have hq : (n : Int) ≤ 100000 := by omega
  have hcz : ¬ cap2 = 0 := by omega
  go_enter Try.func70, Try.ntmps70
  go_wp2_with (at_builtin; go_loud (refine Lib.wpList_append_run _ rfl _ _ _ _ rfl _ _ rfl rfl _ _ happ ?_))
  go_ret
  exact ⟨_, rfl, ⟨by simp, .inr ⟨w.heap.size, cap2, Z, rfl, Nat.le_refl _, World.alloc_heap_new w _, Nat.zero_le _, hcaple, by omega, by simp⟩⟩, ((Below.refl _ _).alloc (Nat.le_refl _) _).drew⟩

/-- The lengths' sum. -/
def lens (l : List (List Int)) : Nat := (l.map List.length).sum
theorem lens_snoc {l : List (List Int)} {k : Nat} (h : k < l.length) : lens (l.take (k + 1)) = lens (l.take k) + (l[k]?.getD []).length := by
  have e : l[k]?.getD [] = l[k] := by simp [h]
  rw [List.take_succ_eq_append_getElem h, e]
  unfold lens
  rw [List.map_append, List.sum_append]
  simp only [List.map_cons, List.map_nil, List.sum_cons, List.sum_nil, Nat.add_zero]
theorem lens_le (l : List (List Int)) (k : Nat) : lens (l.take k) ≤ lens l := by
  have h : lens l = lens (l.take k) + lens (l.drop k) := by
    unfold lens
    rw [← List.sum_append, ← List.map_append, List.take_append_drop]
  omega
theorem flat_snoc {l : List (List Int)} {k : Nat} (h : k < l.length) : (l.take (k + 1)).flatten = (l.take k).flatten ++ (l[k]?.getD []) := by
  have e : l[k]?.getD [] = l[k] := by simp [h]
  rw [List.take_succ_eq_append_getElem h, e, List.flatten_append]
  simp only [List.flatten_cons, List.flatten_nil, List.append_nil]
theorem flat_len (l : List (List Int)) : l.flatten.length = lens l := by simp [lens, List.length_flatten]

set_option maxRecDepth 100000 in
set_option maxHeartbeats 1000000 in
/-- slices.Concat: of slices that hold something. -/
theorem concat_any (zss : List (List Int)) (fa : Nat → Option Addr) (fc : Nat → Nat) (B cap : Nat) (w : World) (hl : zss.length ≤ 1000) (hsum : lens zss ≤ 1000) (hpos : 0 < lens zss) (hB : B < w.heap.size)
    (hcell : ∀ j, j < zss.length → w.cell? ⟨B, j, none⟩ = some (.slice (fa j) (zss[j]?.getD []).length (fc j))) (hI : ∀ j, j < zss.length → Ints w.heap.size w (fa j) (zss[j]?.getD []))
    (hn : ∀ j, j < zss.length → fa j = none → (zss[j]?.getD []).length = 0 ∧ fc j = 0) :
    Calls Try.prog 53 #[.slice (some ⟨B, 0, none⟩) zss.length cap] w fun e w' => ∃ v, e = .returned v ∧ New w.heap.size w' v zss.flatten ∧ Below w.heap.size w w' := by
  have h1 : (zss.length : Int) ≤ 1000 := by omega
  have Hcell := show Hid _ from hcell
  have HI := show Hid _ from hI
  have Hn := show Hid _ from hn
  clear hcell hI hn
  go_enter Try.func53, Try.ntmps53
  go_wp2
  go_loop [3, 11] (fun q i => ∃ k : Nat, k ≤ zss.length ∧ i = .int .i64 (k : Int) ∧ q = .int .i64 (lens (zss.take k) : Int)) (fun _ i => zss.length - (intOf i).toNat)
  case atStart => exact ⟨0, Nat.zero_le _, rfl, rfl⟩
  case round =>
    obtain ⟨k, hk, rfl, rfl⟩ := hrel
    have hle := lens_le zss k
    by_cases hlt : k < zss.length
    · have hlt' : (k : Int) < (zss.length : Int) := by omega
      have hck := Hcell.out k hlt
      have hsn := lens_snoc hlt
      have hle2 := lens_le zss (k + 1)
      have Hsn := show Hid _ from hsn
      rw [hsn] at hle2
      clear hsn
      generalize (zss[k]?.getD []).length = m at *
      generalize lens (zss.take k) = q at *
      have hq0 : (0 : Int) ≤ (q : Int) + (m : Int) := by omega
      have hq1 : (q : Int) + (m : Int) ≤ 1000 := by omega
      go_wp2
      go_round
      case rel => exact ⟨k + 1, by omega, by go_num, by rw [Hsn.out]; go_num⟩
      case measure => simp [intOf]; omega
    · obtain rfl : k = zss.length := by omega
      rw [List.take_length] at *
      go_wp2_with fail
      refine (grow_nil (lens zss) _ (by omega) (by omega)).mono ?_
      rintro e w1 ⟨v0, rfl, hN0, hB1⟩
      obtain ⟨a0, c0, rfl, _⟩ := New.ints hN0
      go_wp2
      go_loopw [6, 27] (fun v i wr => ∃ k : Nat, k ≤ zss.length ∧ i = .int .i64 (k : Int) ∧ New w.heap.size wr v (zss.take k).flatten ∧ Below w.heap.size w wr) (fun _ i _ => zss.length - (intOf i).toNat)
      case atStart => exact ⟨0, Nat.zero_le _, rfl, hN0, hB1⟩
      case round =>
        clear hN0 hB1
        obtain ⟨k, hk, rfl, hN, hBr⟩ := hrel
        by_cases hlt : k < zss.length
        · have hlt' : (k : Int) < (zss.length : Int) := by omega
          have hck := (hBr.cell (p := ⟨B, k, none⟩) hB).trans (Hcell.out k hlt)
          have hIk := ((HI.out k hlt).below hBr).mono hBr.size
          have hnk := show Hid _ from Hn.out k hlt
          have hfs := show Hid _ from flat_snoc hlt
          have hll : (zss.take k).flatten.length + (zss[k]?.getD []).length ≤ 1000 := by
            rw [flat_len]; have := lens_snoc hlt; have := lens_le zss (k + 1); omega
          generalize zss[k]?.getD [] = ys at *
          generalize (zss.take k).flatten = xs at *
          go_wp2_with (at_builtin; go_loud (refine wp_append_ints _ rfl _ _ rfl w.heap.size _ xs rfl hN _ ys _ rfl hnk.out hIk (by omega) hBr.size ?_); intro v' w2 hN2 hB2; obtain ⟨a2, c2, rfl, _⟩ := New.ints hN2)
          go_roundw
          case rel => exact ⟨k + 1, by omega, by go_num, by rw [hfs.out]; simpa using hN2, hBr.trans hB2⟩
          case measure => simp [intOf]; omega
        · obtain rfl : k = zss.length := by omega
          rw [List.take_length] at hN
          obtain ⟨a2, c2, rfl, _⟩ := New.ints hN
          go_wp2
          go_ret
          exact ⟨_, rfl, hN, hBr⟩

end Go.Proofs.Ytbelnlemjcoifaa
