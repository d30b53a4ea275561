/-
  haspref.PlainOf; hasplaw.subBegun: it answers true.
-/
import Derived.Test.YtbelnlemjcoifaaPlain5
namespace Go.Proofs.Ytbelnlemjcoifaa
open Go.Proofs Go.RowKit Go.Shelf Go.Maps

set_option maxRecDepth 100000 in
set_option maxHeartbeats 400000 in
/-- haspref.PlainOf. -/
theorem refPlain_any (t : List Int) (at' : Option Addr) (ct : Nat) (w : World) (hT : Ints w.heap.size w at' t) :
    Calls Try.prog 33 #[.slice at' t.length ct] w fun e w' => ∃ v, e = .returned (.tuple #[v, .int .i64 (Tm.err t)]) ∧ New w.heap.size w' v (Tm.plainVal t) ∧ Below w.heap.size w w' := by
  have hC := termError_any t at' ct w hT
  by_cases he : Tm.err t = 0
  · have hv : Tm.plainVal t = Tm.plain t := by simp [Tm.plainVal, he]
    rw [hv, he]
    rw [he] at hC
    have hP := refplain_any t at' ct w (Tm.err_len he) (Tm.err_pos he) (Tm.known8 he) hT
    clear hv he hT
    generalize Tm.plain t = pt at *
    go_enter Try.func33, Try.ntmps33
    go_wp2_with (first
      | (go_at_call 20; refine hC.mono ?_; clear hC; rintro e w ⟨rfl, rfl⟩)
      | (go_at_call 60; refine hP.mono ?_; clear hP; rintro e w1 ⟨v, rfl, hN, hB⟩; obtain ⟨a1, c1, rfl, _⟩ := New.ints hN))
    go_ret2
    exact ⟨_, rfl, hN, hB⟩
  · have hv : Tm.plainVal t = [] := by simp [Tm.plainVal, he]
    rw [hv]
    have hne : (Tm.err t != 0) = true := by simp [he]
    clear hv he hT
    generalize Tm.err t = q at *
    go_enter Try.func33, Try.ntmps33
    go_wp2_with (go_at_call 20; refine hC.mono ?_; clear hC; rintro e w ⟨rfl, rfl⟩)
    go_ret2
    exact ⟨_, rfl, New.nil _ _, Below.refl _ _⟩

theorem Tm.s1 : Tm.applyErr Tm.someL [4, -1, -2] = 0 := by decide +kernel
theorem Tm.s2 : Tm.applyVal Tm.someL [4, -1, -2] = [4, 2, -2, -1] := by decide +kernel
theorem Tm.s3 : Tm.afterErr Tm.someL Tm.someL = 0 := by decide +kernel
theorem Tm.s4 : Tm.afterVal Tm.someL Tm.someL = [[2, -1], [2, -2], [-3], [-4], [-5], [-6], [-7], [-8]] := by decide +kernel
theorem Tm.s5 : Tm.err [4, -5, 4, -2, -5] = 0 := by decide +kernel
theorem Tm.s6 : Tm.plainVal [4, -5, 4, -2, -5] = [4, -1, 4, -2, -1] := by decide +kernel
theorem Tm.s7 : Tm.applyErr [] [4, -1, 2, 0] = 1 := by decide +kernel
theorem Tm.s8 : Tm.applyVal [] [4, -1, 2, 0] = [] := by decide +kernel
theorem Tm.s9 : Tm.subErr (Tm.noneL 8) = 0 := by decide +kernel
theorem Tm.s10 : Tm.someL.length = 8 := rfl

theorem c_some (w : World) : Calls Try.prog 57 #[] w fun e w' => ∃ a c, e = .returned (.slice a 8 c) ∧ Subs w'.heap.size w' a Tm.someL ∧ Below w.heap.size w w' :=
  (some_any w).mono fun e w' ⟨v, he, hN, hB⟩ => by
    obtain ⟨a, c, rfl, hS, _⟩ := NewS.subs hN
    exact ⟨a, c, he, hS, hB⟩
theorem c_apply (a b : Option Addr) (c d : Nat) (w : World) (hS : Subs w.heap.size w a Tm.someL) (hT : Ints w.heap.size w b [4, -1, -2]) :
    Calls Try.prog 25 #[.slice a 8 c, .slice b 3 d] w fun e w' => ∃ x y, e = .returned (.tuple #[.slice x 4 y, .int .i64 0]) ∧ Ints w'.heap.size w' x [4, 2, -2, -1] ∧ Below w.heap.size w w' := by
  have h := apply_any Tm.someL [4, -1, -2] a b c d w hS hT
  rw [Tm.s1, Tm.s2] at h
  refine h.mono ?_
  rintro e w' ⟨v, rfl, hN, hB⟩
  obtain ⟨x, y, rfl, h1, _⟩ := New.ints hN
  exact ⟨x, y, rfl, h1, hB⟩
theorem c_applyNil (b : Option Addr) (d : Nat) (w : World) (hT : Ints w.heap.size w b [4, -1, 2, 0]) :
    Calls Try.prog 25 #[.slice none 0 0, .slice b 4 d] w fun e w' => ∃ x y, e = .returned (.tuple #[.slice x 0 y, .int .i64 1]) ∧ Below w.heap.size w w' := by
  have h := apply_any [] [4, -1, 2, 0] none b 0 d w (Subs.nil _ _ _) hT
  rw [Tm.s7, Tm.s8] at h
  refine h.mono ?_
  rintro e w' ⟨v, rfl, hN, hB⟩
  obtain ⟨x, y, rfl, h1, _⟩ := New.ints hN
  exact ⟨x, y, rfl, hB⟩
theorem c_after (a b : Option Addr) (c d : Nat) (w : World) (hS : Subs w.heap.size w a Tm.someL) (hU : Subs w.heap.size w b Tm.someL) :
    Calls Try.prog 30 #[.slice a 8 c, .slice b 8 d] w fun e w' => ∃ x y, e = .returned (.tuple #[.slice x 8 y, .int .i64 0]) ∧ Subs w'.heap.size w' x [[2, -1], [2, -2], [-3], [-4], [-5], [-6], [-7], [-8]] ∧ Below w.heap.size w w' := by
  have h := after_any Tm.someL Tm.someL a b c d w hS hU
  rw [Tm.s3, Tm.s4] at h
  refine h.mono ?_
  rintro e w' ⟨v, rfl, hN, hB⟩
  obtain ⟨x, y, rfl, h1, _⟩ := NewS.subs hN
  exact ⟨x, y, rfl, h1, hB⟩
theorem c_plain (a : Option Addr) (c : Nat) (w : World) (hT : Ints w.heap.size w a [4, -5, 4, -2, -5]) :
    Calls Try.prog 31 #[.slice a 5 c] w fun e w' => ∃ x y, e = .returned (.tuple #[.slice x 5 y, .int .i64 0]) ∧ Ints w'.heap.size w' x [4, -1, 4, -2, -1] ∧ Below w.heap.size w w' := by
  have h := subPlain_any [4, -5, 4, -2, -5] a c w hT
  rw [Tm.s5, Tm.s6] at h
  refine h.mono ?_
  rintro e w' ⟨v, rfl, hN, hB⟩
  obtain ⟨x, y, rfl, h1, _⟩ := New.ints hN
  exact ⟨x, y, rfl, h1, hB⟩
theorem c_none (w : World) : Calls Try.prog 35 #[] w fun e w' => ∃ a c, e = .returned (.slice a 8 c) ∧ Subs w'.heap.size w' a (Tm.noneL 8) ∧ Below w.heap.size w w' :=
  (none_any w).mono fun e w' ⟨v, he, hN, hB⟩ => by
    obtain ⟨a, c, rfl, hS, _⟩ := NewS.subs hN
    exact ⟨a, c, he, hS, hB⟩
theorem c_noneOf (w : World) : Calls Try.prog 58 #[] w fun e w' => ∃ a c, e = .returned (.slice a 8 c) ∧ Subs w'.heap.size w' a (Tm.noneL 8) ∧ Below w.heap.size w w' :=
  (noneOf_any w).mono fun e w' ⟨v, he, hN, hB⟩ => by
    obtain ⟨a, c, rfl, hS, _⟩ := NewS.subs hN
    exact ⟨a, c, he, hS, hB⟩
theorem c_sameS (a b : Option Addr) (c d : Nat) (w : World) (hS : Subs w.heap.size w a (Tm.noneL 8)) (hU : Subs w.heap.size w b (Tm.noneL 8)) :
    Calls Try.prog 34 #[.slice a 8 c, .slice b 8 d] w fun e w' => e = .returned (.bool true) ∧ Below w.heap.size w w' := by
  have h := sameSubs_any (Tm.noneL 8) (Tm.noneL 8) a b c d w hS hU (by decide)
  rw [show sameSB (Tm.noneL 8) (Tm.noneL 8) = true by simp [sameSB]] at h
  exact h
theorem c_checkN (a : Option Addr) (c : Nat) (w : World) (hS : Subs w.heap.size w a (Tm.noneL 8)) : Calls Try.prog 28 #[.slice a 8 c] w fun e w' => e = .returned (.int .i64 0) ∧ Below w.heap.size w w' := by
  have h := subCheck_any (Tm.noneL 8) a c w hS
  rw [Tm.s9] at h
  exact h

set_option maxRecDepth 100000 in
set_option maxHeartbeats 2000000 in
theorem subBegun_any (w : World) : Calls Try.prog 27 #[] w fun e w' => e = .returned (.bool true) ∧ Below w.heap.size w w' := by
  go_enter Try.func27, Try.ntmps27
  go_wp2_with fail
  refine (c_some _).mono ?_
  rintro e w1 ⟨a1, c1, rfl, hS1, hB1⟩
  have hl := ints_lit w1 [4, -1, -2] _ rfl
  simp only [List.map_cons, List.map_nil] at hl
  have hA : Below w1.heap.size w1 (w1.alloc (.cells #[.int .i64 4, .int .i64 (-1), .int .i64 (-2)] 3)) := (Below.refl _ _).alloc (Nat.le_refl _) _
  go_wp2_with fail
  refine (c_apply _ _ _ _ _ ((hS1.below hA).mono hA.size) (by simpa using hl)).mono ?_
  rintro e w2 ⟨at2, ct2, rfl, hIt, hB2⟩
  have hB := hB1.trans ((hA.trans (hB2.mono hA.size)).mono hB1.size)
  clear hS1 hl hA hB1 hB2
  go_wp2_with fail
  refine (c_some _).mono ?_
  rintro e w3 ⟨a3, c3, rfl, hS3, hB3⟩
  go_wp2_with fail
  refine (c_some _).mono ?_
  rintro e w4 ⟨a4, c4, rfl, hS4, hB4⟩
  go_wp2_with fail
  refine (c_after _ _ _ _ _ ((hS3.below hB4).mono hB4.size) hS4).mono ?_
  rintro e w5 ⟨au, cu, rfl, hSu, hB5⟩
  have hB34 := hB3.trans ((hB4.trans (hB5.mono hB4.size)).mono hB3.size)
  have hBB := hB.trans (hB34.mono hB.size)
  have hIt5 := (hIt.below hB34).mono hB34.size
  clear hS3 hS4 hB3 hB4 hB5 hB34 hB hIt
  have hl := ints_lit w5 [4, -5, 4, -2, -5] _ rfl
  simp only [List.map_cons, List.map_nil] at hl
  have hA : Below w5.heap.size w5 (w5.alloc (.cells #[.int .i64 4, .int .i64 (-5), .int .i64 4, .int .i64 (-2), .int .i64 (-5)] 3)) := (Below.refl _ _).alloc (Nat.le_refl _) _
  go_wp2_with fail
  refine (c_plain _ _ _ (by simpa using hl)).mono ?_
  rintro e w6 ⟨ap, cp, rfl, hIp, hB6⟩
  have hB7 := hA.trans (hB6.mono hA.size)
  have hB := hBB.trans (hB7.mono hBB.size)
  have hIt6 := (hIt5.below hB7).mono hB7.size
  have hSu6 := (hSu.below hB7).mono hB7.size
  clear hl hA hB6 hB7 hBB hIt5 hSu
  go_wp2_with fail
  refine (fxga_any _).mono ?_
  rintro e w7 ⟨a7, rfl, hI7, hB8⟩
  go_wp2_with fail
  refine (c_applyNil _ _ _ hI7).mono ?_
  rintro e w8 ⟨a8, c8, rfl, hB9⟩
  have hB89 := hB8.trans (hB9.mono hB8.size)
  have hBB := hB.trans (hB89.mono hB.size)
  have hIt8 := (hIt6.below hB89).mono hB89.size
  have hSu8 := (hSu6.below hB89).mono hB89.size
  have hIp8 := (hIp.below hB89).mono hB89.size
  clear hI7 hB8 hB9 hB89 hB hIt6 hSu6 hIp
  go_wp2_with fail
  refine (c_none _).mono ?_
  rintro e w9 ⟨an, cn, rfl, hSn, hB10⟩
  have hB := hBB.trans (hB10.mono hBB.size)
  have hIt9 := (hIt8.below hB10).mono hB10.size
  have hSu9 := (hSu8.below hB10).mono hB10.size
  have hIp9 := (hIp8.below hB10).mono hB10.size
  clear hB10 hBB hIt8 hSu8 hIp8
  have hl := ints_lit w9 [4, 2, -2, -1] _ rfl
  simp only [List.map_cons, List.map_nil] at hl
  have hA : Below w9.heap.size w9 (w9.alloc (.cells #[.int .i64 4, .int .i64 2, .int .i64 (-2), .int .i64 (-1)] 3)) := (Below.refl _ _).alloc (Nat.le_refl _) _
  go_wp2_with fail
  refine (b_same [4, 2, -2, -1] _ _ _ _ _ _ rfl (by simp) ((hIt9.below hA).mono hA.size) (by simpa using hl)).mono ?_
  rintro e w10 ⟨rfl, hB11⟩
  have hB12 := hA.trans (hB11.mono hA.size)
  have hBB := hB.trans (hB12.mono hB.size)
  have hSu10 := (hSu9.below hB12).mono hB12.size
  have hIp10 := (hIp9.below hB12).mono hB12.size
  have hSn10 := (hSn.below hB12).mono hB12.size
  clear hl hA hB11 hB12 hB hSu9 hIp9 hSn hIt9
  obtain ⟨bu, ou, rfl, hbu, hcu⟩ := hSu10.at (by simp)
  obtain ⟨au0, cu0, hcu0, hIu0, _⟩ := hcu 0 (by simp)
  simp only [List.getElem?_cons_zero, Option.getD_some, Nat.add_zero, List.length_cons, List.length_nil, Nat.zero_add, Nat.reduceAdd] at hcu0 hIu0
  clear hcu
  have hl := ints_lit w10 [2, -1] _ rfl
  simp only [List.map_cons, List.map_nil] at hl
  have hA : Below w10.heap.size w10 (w10.alloc (.cells #[.int .i64 2, .int .i64 (-1)] 3)) := (Below.refl _ _).alloc (Nat.le_refl _) _
  go_wp2_with fail
  refine (b_same [2, -1] _ _ _ _ _ _ rfl (by simp) ((hIu0.below hA).mono hA.size) (by simpa using hl)).mono ?_
  rintro e w11 ⟨rfl, hB11⟩
  have hB12 := hA.trans (hB11.mono hA.size)
  have hB := hBB.trans (hB12.mono hBB.size)
  have hSu11 := (hSu10.below hB12).mono hB12.size
  have hIp11 := (hIp10.below hB12).mono hB12.size
  have hSn11 := (hSn10.below hB12).mono hB12.size
  clear hl hA hB11 hB12 hBB hSu10 hIp10 hSn10 hcu0 hIu0
  obtain ⟨bu', ou', eu, _, hcu⟩ := hSu11.at (by simp)
  cases eu
  obtain ⟨au1, cu1, hcu1, hIu1, _⟩ := hcu 1 (by simp)
  simp only [List.getElem?_cons_succ, List.getElem?_cons_zero, Option.getD_some, List.length_cons, List.length_nil, Nat.zero_add, Nat.reduceAdd] at hcu1 hIu1
  clear hcu
  have hl := ints_lit w11 [2, -2] _ rfl
  simp only [List.map_cons, List.map_nil] at hl
  have hA : Below w11.heap.size w11 (w11.alloc (.cells #[.int .i64 2, .int .i64 (-2)] 3)) := (Below.refl _ _).alloc (Nat.le_refl _) _
  go_wp2_with fail
  refine (b_same [2, -2] _ _ _ _ _ _ rfl (by simp) ((hIu1.below hA).mono hA.size) (by simpa using hl)).mono ?_
  rintro e w12 ⟨rfl, hB11⟩
  have hB12 := hA.trans (hB11.mono hA.size)
  have hBB := hB.trans (hB12.mono hB.size)
  have hIp12 := (hIp11.below hB12).mono hB12.size
  have hSn12 := (hSn11.below hB12).mono hB12.size
  clear hl hA hB11 hB12 hB hSu11 hIp11 hSn11 hcu1 hIu1
  have hl := ints_lit w12 [4, -1, 4, -2, -1] _ rfl
  simp only [List.map_cons, List.map_nil] at hl
  have hA : Below w12.heap.size w12 (w12.alloc (.cells #[.int .i64 4, .int .i64 (-1), .int .i64 4, .int .i64 (-2), .int .i64 (-1)] 3)) := (Below.refl _ _).alloc (Nat.le_refl _) _
  go_wp2_with fail
  refine (b_same [4, -1, 4, -2, -1] _ _ _ _ _ _ rfl (by simp) ((hIp12.below hA).mono hA.size) (by simpa using hl)).mono ?_
  rintro e w13 ⟨rfl, hB11⟩
  have hB12 := hA.trans (hB11.mono hA.size)
  have hB := hBB.trans (hB12.mono hBB.size)
  have hSn13 := (hSn12.below hB12).mono hB12.size
  clear hl hA hB11 hB12 hBB hIp12 hSn12
  go_wp2_with fail
  refine (c_noneOf _).mono ?_
  rintro e w14 ⟨a14, c14, rfl, hS14, hB11⟩
  have hSn14 := (hSn13.below hB11).mono hB11.size
  have hBB := hB.trans (hB11.mono hB.size)
  clear hB11 hB hSn13
  go_wp2_with fail
  refine (c_sameS _ _ _ _ _ hSn14 hS14).mono ?_
  rintro e w15 ⟨rfl, hB11⟩
  have hSn15 := (hSn14.below hB11).mono hB11.size
  have hB := hBB.trans (hB11.mono hBB.size)
  clear hB11 hBB hSn14 hS14
  go_wp2_with fail
  refine (c_checkN _ _ _ hSn15).mono ?_
  rintro e w16 ⟨rfl, hB11⟩
  go_wp2
  go_ret
  exact ⟨rfl, hB.trans (hB11.mono hB.size)⟩

end Go.Proofs.Ytbelnlemjcoifaa
