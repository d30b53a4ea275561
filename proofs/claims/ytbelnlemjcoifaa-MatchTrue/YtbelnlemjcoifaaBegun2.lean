/-
  hasplaw.termBegun: it answers true.
-/
import Derived.Test.YtbelnlemjcoifaaBegun
namespace Go.Proofs.Ytbelnlemjcoifaa
open Go.Proofs Go.RowKit Go.Shelf

theorem Tm.q1 : Tm.endVal [4, -1, 2, 0] 2 = 4 := by decide +kernel
theorem Tm.q2 : Tm.placeErr [4, -1, 2, 0] 2 = 0 := by decide +kernel
theorem Tm.q3 : Tm.partVal [4, -1, 2, 0] 2 = [2, 0] := by decide +kernel
theorem Tm.q4 : Tm.putErr [4, -1, 2, 0] 1 [3, 1] = 0 := by decide +kernel
theorem Tm.q5 : Tm.putVal [4, -1, 2, 0] 1 [3, 1] = [4, 3, 1, 2, 0] := by decide +kernel
theorem Tm.q6 : Tm.placeErr [4, -1, 2, 0] 4 = 3 := by decide +kernel
theorem Tm.q7 : Tm.partVal [4, -1, 2, 0] 4 = [] := by decide +kernel
theorem Tm.q8 : Tm.putErr (List.replicate 31 0) 0 [4, -1, 2, 0] = 2 := by decide +kernel
theorem Tm.q9 : Tm.putVal (List.replicate 31 0) 0 [4, -1, 2, 0] = [] := by decide +kernel
theorem Tm.q10 : Tm.err [4, -1, 2, 0] = 0 := by decide +kernel
theorem Tm.q11 : Tm.err [4, 0] = 1 := by decide +kernel
theorem Tm.q12 : Tm.err [0, 0] = 1 := by decide +kernel
theorem Tm.q13 : Tm.err [6] = 3 := by decide +kernel
theorem Tm.q14 : Tm.err [] = 1 := by decide +kernel

/-- The same contracts at the arguments that termBegun hands them. -/
theorem b_end (a : Option Addr) (w : World) (hI : Ints w.heap.size w a [4, -1, 2, 0]) : Calls Try.prog 14 #[.slice a 4 4, .int .i64 2] w fun e w' => e = .returned (.tuple #[.int .i64 4, .int .i64 0]) ∧ Below w.heap.size w w' := by
  have h := termEnd_any [4, -1, 2, 0] a 4 2 w hI
  rw [Tm.q1, Tm.q2] at h
  exact h
theorem b_part (a : Option Addr) (w : World) (hI : Ints w.heap.size w a [4, -1, 2, 0]) : Calls Try.prog 15 #[.slice a 4 4, .int .i64 2] w fun e w' => ∃ b c, e = .returned (.tuple #[.slice b 2 c, .int .i64 0]) ∧ Ints w'.heap.size w' b [2, 0] ∧ Below w.heap.size w w' := by
  have h := termPart_any [4, -1, 2, 0] a 4 2 w hI (by simp)
  rw [Tm.q3, Tm.q2] at h
  refine h.mono ?_
  rintro e w' ⟨v, rfl, hN, hB⟩
  obtain ⟨b, c, rfl, h1, _⟩ := New.ints hN
  exact ⟨b, c, rfl, h1, hB⟩
theorem b_part4 (a : Option Addr) (w : World) (hI : Ints w.heap.size w a [4, -1, 2, 0]) : Calls Try.prog 15 #[.slice a 4 4, .int .i64 4] w fun e w' => ∃ b c, e = .returned (.tuple #[.slice b 0 c, .int .i64 3]) ∧ Below w.heap.size w w' := by
  have h := termPart_any [4, -1, 2, 0] a 4 4 w hI (by simp)
  rw [Tm.q7, Tm.q6] at h
  refine h.mono ?_
  rintro e w' ⟨v, rfl, hN, hB⟩
  obtain ⟨b, c, rfl, h1, _⟩ := New.ints hN
  exact ⟨b, c, rfl, hB⟩
theorem b_put (a b : Option Addr) (w : World) (hI : Ints w.heap.size w a [4, -1, 2, 0]) (hU : Ints w.heap.size w b [3, 1]) : Calls Try.prog 22 #[.slice a 4 4, .int .i64 1, .slice b 2 2] w fun e w' => ∃ b c, e = .returned (.tuple #[.slice b 5 c, .int .i64 0]) ∧ Ints w'.heap.size w' b [4, 3, 1, 2, 0] ∧ Below w.heap.size w w' := by
  have h := termPut_any [4, -1, 2, 0] [3, 1] a b 4 2 1 w hI hU (by simp) (by unfold maxLen; omega)
  rw [Tm.q4, Tm.q5] at h
  refine h.mono ?_
  rintro e w' ⟨v, rfl, hN, hB⟩
  obtain ⟨b, c, rfl, h1, _⟩ := New.ints hN
  exact ⟨b, c, rfl, h1, hB⟩
theorem b_put31 (a b : Option Addr) (w : World) (hI : Ints w.heap.size w a (List.replicate 31 0)) (hU : Ints w.heap.size w b [4, -1, 2, 0]) : Calls Try.prog 22 #[.slice a 31 31, .int .i64 0, .slice b 4 4] w fun e w' => ∃ b c, e = .returned (.tuple #[.slice b 0 c, .int .i64 2]) ∧ Below w.heap.size w w' := by
  have h := termPut_any (List.replicate 31 0) [4, -1, 2, 0] a b 31 4 0 w hI hU (by simp) (by unfold maxLen; omega)
  rw [Tm.q8, Tm.q9] at h
  refine h.mono ?_
  rintro e w' ⟨v, rfl, hN, hB⟩
  obtain ⟨b, c, rfl, h1, _⟩ := New.ints hN
  exact ⟨b, c, rfl, hB⟩
theorem b_check (zs : List Int) (n : Nat) (q : Int) (a : Option Addr) (c : Nat) (w : World) (hn : n = zs.length) (hq : Tm.err zs = q) (hI : Ints w.heap.size w a zs) : Calls Try.prog 19 #[.slice a n c] w fun e w' => e = .returned (.int .i64 q) ∧ Below w.heap.size w w' := by
  subst hn hq
  exact check_any zs a c w hI
theorem b_same (zs : List Int) (n : Nat) (a b : Option Addr) (c d : Nat) (w : World) (hn : n = zs.length) (hm : zs.length ≤ 1000) (hI : Ints w.heap.size w a zs) (hJ : Ints w.heap.size w b zs) : Calls Try.prog 21 #[.slice a n c, .slice b n d] w fun e w' => e = .returned (.bool true) ∧ Below w.heap.size w w' := by
  subst hn
  have h := same_any zs zs a b c d w hI hJ (by unfold maxLen; omega)
  rw [show sameB zs zs = true by simp [sameB]] at h
  exact h

theorem make31 : ∃ M : Array Value, (∀ W : World, (Instr.makeSlice 23 (.int .i64 31) (.int .i64 31)).run Try.prog W = .ok (.slice (some ⟨W.heap.size, 0, none⟩) 31 31) (W.alloc (.cells M 3))) ∧
    ∀ W : World, Ints (W.alloc (.cells M 3)).heap.size (W.alloc (.cells M 3)) (some ⟨W.heap.size, 0, none⟩) (List.replicate 31 0) := by
  obtain ⟨i0, hi, hz0, hz1, hz2⟩ := info_parts Try.info3
  refine ⟨madeCells #[.int .i64 0] 31, fun W => ?_, fun W j hj => ?_⟩
  · have h := run_makeSlice (P := Try.prog) W 23 3 i0 (.int .i64 0) Try.underlying23 hi hz0 .i64 .i64 31 31 (by omega) (by omega) (by rw [hz1]; decide) (by rw [hz2]; decide) (by decide)
    rw [hz1] at h
    exact h
  · refine ⟨W.heap.size, 0, rfl, by simp, ?_⟩
    rw [cell_at (World.alloc_heap_new W _)]
    have h := toList_madeCells_one (.int .i64 0) 31
    rw [List.length_replicate] at hj
    rw [← Array.getElem?_toList, h, List.getElem?_replicate, if_pos (by omega), List.getElem?_replicate, if_pos hj]
    rfl

set_option maxRecDepth 100000 in
set_option maxHeartbeats 2000000 in
theorem termBegun_any (w : World) : Calls Try.prog 18 #[] w fun e w' => e = .returned (.bool true) ∧ Below w.heap.size w w' := by
  go_enter Try.func18, Try.ntmps18
  go_wp2_with fail
  refine (fxga_any _).mono ?_
  rintro e w1 ⟨a1, rfl, hI1, hB1⟩
  go_wp2_with fail
  refine (b_end _ _ hI1).mono ?_
  rintro e w2 ⟨rfl, hB2⟩
  have hB := hB1.trans (hB2.mono hB1.size)
  clear hI1 hB1 hB2
  go_wp2_with fail
  refine (fxga_any _).mono ?_
  rintro e w3 ⟨a3, rfl, hI3, hB3⟩
  go_wp2_with fail
  refine (b_part _ _ hI3).mono ?_
  rintro e w4 ⟨ap, cp, rfl, hIp, hB4⟩
  have hB5 := hB.trans ((hB3.trans (hB4.mono hB3.size)).mono hB.size)
  clear hI3 hB3 hB4 hB
  go_wp2_with fail
  refine (fxga_any _).mono ?_
  rintro e w5 ⟨a5, rfl, hI5, hB6⟩
  have hl := ints_lit w5 [3, 1] _ rfl
  simp only [List.map_cons, List.map_nil] at hl
  go_wp2_with fail
  have hA1 : Below w5.heap.size w5 (w5.alloc (.cells #[.int .i64 3, .int .i64 1] 3)) := (Below.refl _ _).alloc (Nat.le_refl _) _
  refine (b_put _ _ _ ((hI5.below hA1).mono hA1.size) (by simpa using hl)).mono ?_
  rintro e w6 ⟨at6, ct, rfl, hIt, hB7⟩
  have hB67 := (hB6.trans (hA1.mono hB6.size)).trans (hB7.mono (by have := hB6.size; have := hA1.size; omega))
  have hB8 := hB5.trans (hB67.mono hB5.size)
  have hIp6 := (hIp.below hB67).mono hB67.size
  clear hI5 hB6 hl hA1 hB7 hB5 hB67 hIp
  go_wp2_with fail
  refine (fxga_any _).mono ?_
  rintro e w7 ⟨a7, rfl, hI7, hB9⟩
  go_wp2_with fail
  refine (b_part4 _ _ hI7).mono ?_
  rintro e w8 ⟨a8, c8, rfl, hB10⟩
  have hB910 := hB9.trans (hB10.mono hB9.size)
  have hB11 := hB8.trans (hB910.mono hB8.size)
  have hIp8 := (hIp6.below hB910).mono hB910.size
  have hIt8 := (hIt.below hB910).mono hB910.size
  clear hI7 hB9 hB10 hB910 hB8 hIp6 hIt
  go_wp2_with fail
  obtain ⟨M, hmk, hMI⟩ := make31
  have HMI := hid hMI
  clear hMI
  go_region_with (first
    | (go_at_call 49; refine (fxga_any _).mono ?_; rintro e w9 ⟨a9, rfl, hI9, hB12⟩)
    | (go_at_call 22; refine (b_put31 _ _ _ (by first | exact ((HMI.out _).below hB12).mono hB12.size | exact HMI.out _) (by first | exact hI9 | exact (hI9.below ((Below.refl _ _).alloc (Nat.le_refl _) _)).mono (by simp))).mono ?_; rintro e w10 ⟨a10, c10, rfl, hB13⟩; have hB14 : Below w8.heap.size w8 w10 := (by first | exact ((below_drewN (Below.refl _ w8) 1).trans (hB12.mono (by exact Nat.le_refl _))).trans ((((Below.refl _ _).alloc (Nat.le_refl _) _).mono (by exact hB12.size)).trans (hB13.mono (by have := hB12.size; simp at *; omega))) | exact (((below_drewN (Below.refl _ w8) 1).alloc (by exact Nat.le_refl _) _).trans (hB12.mono (by simp))).trans (hB13.mono (by have := hB12.size; simp at *; omega)))))
  all_goals (
    have hIpA := (hIp8.below hB14).mono hB14.size
    have hItA := (hIt8.below hB14).mono hB14.size
    have hB15 := hB11.trans (hB14.mono hB11.size)
    clear hIp8 hIt8 hB14 hB11 HMI hmk hI9 hB12 hB13
    have hl1 := ints_lit w10 [2, 0] _ rfl
    simp only [List.map_cons, List.map_nil] at hl1
    have hA1 : Below w10.heap.size w10 (w10.alloc (.cells #[.int .i64 2, .int .i64 0] 3)) := (Below.refl _ _).alloc (Nat.le_refl _) _
    go_wp2_with fail
    refine (b_same [2, 0] _ _ _ _ _ _ rfl (by simp) ((hIpA.below hA1).mono hA1.size) (by simpa using hl1)).mono ?_
    rintro e w11 ⟨rfl, hB16⟩
    have hB17 := hA1.trans (hB16.mono hA1.size)
    have hB18 := hB15.trans (hB17.mono hB15.size)
    have hItB := (hItA.below hB17).mono hB17.size
    clear hl1 hA1 hB16 hB17 hB15 hItA hIpA
    have hl1 := ints_lit w11 [4, 3, 1, 2, 0] _ rfl
    simp only [List.map_cons, List.map_nil] at hl1
    have hA1 : Below w11.heap.size w11 (w11.alloc (.cells #[.int .i64 4, .int .i64 3, .int .i64 1, .int .i64 2, .int .i64 0] 3)) := (Below.refl _ _).alloc (Nat.le_refl _) _
    go_wp2_with fail
    refine (b_same [4, 3, 1, 2, 0] _ _ _ _ _ _ rfl (by simp) ((hItB.below hA1).mono hA1.size) (by simpa using hl1)).mono ?_
    rintro e w12 ⟨rfl, hB16⟩
    have hB17 := hA1.trans (hB16.mono hA1.size)
    have hB19 := hB18.trans (hB17.mono hB18.size)
    clear hl1 hA1 hB16 hB17 hB18 hItB
    go_wp2_with fail
    refine (fxga_any _).mono ?_
    rintro e w13 ⟨a13, rfl, hI13, hB16⟩
    have hB18 := hB19.trans (hB16.mono hB19.size)
    clear hB16 hB19
    go_wp2_with fail
    refine (b_check [4, -1, 2, 0] _ _ _ _ _ rfl Tm.q10 hI13).mono ?_
    rintro e w14 ⟨rfl, hB16⟩
    have hB19 := hB18.trans (hB16.mono hB18.size)
    clear hB16 hB18 hI13
    have hl1 := ints_lit w14 [4, 0] _ rfl
    simp only [List.map_cons, List.map_nil] at hl1
    have hA1 : Below w14.heap.size w14 (w14.alloc (.cells #[.int .i64 4, .int .i64 0] 3)) := (Below.refl _ _).alloc (Nat.le_refl _) _
    go_wp2_with fail
    refine (b_check [4, 0] _ _ _ _ _ rfl Tm.q11 (by simpa using hl1)).mono ?_
    rintro e w15 ⟨rfl, hB16⟩
    have hB18 := hB19.trans ((hA1.trans (hB16.mono hA1.size)).mono hB19.size)
    clear hl1 hA1 hB16 hB19
    have hl1 := ints_lit w15 [0, 0] _ rfl
    simp only [List.map_cons, List.map_nil] at hl1
    have hA1 : Below w15.heap.size w15 (w15.alloc (.cells #[.int .i64 0, .int .i64 0] 3)) := (Below.refl _ _).alloc (Nat.le_refl _) _
    go_wp2_with fail
    refine (b_check [0, 0] _ _ _ _ _ rfl Tm.q12 (by simpa using hl1)).mono ?_
    rintro e w16 ⟨rfl, hB16⟩
    have hB19 := hB18.trans ((hA1.trans (hB16.mono hA1.size)).mono hB18.size)
    clear hl1 hA1 hB16 hB18
    have hl1 := ints_lit w16 [6] _ rfl
    simp only [List.map_cons, List.map_nil] at hl1
    have hA1 : Below w16.heap.size w16 (w16.alloc (.cells #[.int .i64 6] 3)) := (Below.refl _ _).alloc (Nat.le_refl _) _
    go_wp2_with fail
    refine (b_check [6] _ _ _ _ _ rfl Tm.q13 (by simpa using hl1)).mono ?_
    rintro e w17 ⟨rfl, hB16⟩
    have hB18 := hB19.trans ((hA1.trans (hB16.mono hA1.size)).mono hB19.size)
    clear hl1 hA1 hB16 hB19
    go_wp2_with fail
    refine (b_check [] _ _ _ _ _ rfl Tm.q14 (Ints.nil _ _ _)).mono ?_
    rintro e w18 ⟨rfl, hB16⟩
    go_wp2
    go_ret
    exact ⟨rfl, hB18.trans (hB16.mono hB18.size)⟩)

end Go.Proofs.Ytbelnlemjcoifaa
