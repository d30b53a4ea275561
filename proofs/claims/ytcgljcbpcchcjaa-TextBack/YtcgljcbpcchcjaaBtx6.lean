/-
  text.read, text.Read. · hasplaw.textBegun.
-/
import Derived.Defers
import Derived.Recover
import Derived.Test.YtcgljcbpcchcjaaBtx5
import Derived.Test.YtcgljcbpcchcjaaBtx1
namespace Go.Proofs.Ytcgljcbpcchcjaa
open Go.Proofs Go.RowKit Go.Shelf Go.Maps

set_option maxRecDepth 100000 in
set_option maxHeartbeats 1000000 in
theorem term_zero (f R : Nat) (l : List UInt8) (zs : List Int) (v : Value) (w : World) (hz : zs.length = 30) (hR : Rd2 w R (sv l) v) (hN : New (R + 1) w v zs) :
    Calls Try.prog 29 #[.pointer (some ⟨R, 0, none⟩)] w fun e W => TermAns f 0 R l zs w e W := by
  obtain ⟨a, c, rfl, _⟩ := New.ints hN
  have c1 := hR.cell1
  have h30 : ((zs.length : Int) == 30) = true := by rw [beq_iff_eq]; omega
  have hrd : Hid (Tm.rd f 0 l = none) := by cases f <;> rfl
  clear hz
  go_enter Try.func29, Try.ntmps29
  go_wp2
  exact ⟨rfl, Below.refl _ _, .inr ⟨hrd.out, rfl⟩⟩
theorem term_all (R : Nat) : ∀ (f m : Nat) (l : List UInt8) (zs : List Int) (v : Value) (w : World), m ≤ f → zs.length + m = 30 → l.length ≤ 5000 → Rd2 w R (sv l) v → New (R + 1) w v zs →
    Calls Try.prog 29 #[.pointer (some ⟨R, 0, none⟩)] w fun e W => TermAns f m R l zs w e W := by
  intro f
  induction f with
  | zero =>
    intro m l zs v w h1 h2 h3 h4 h5
    obtain rfl : m = 0 := by omega
    exact term_zero 0 R l zs v w (by omega) h4 h5
  | succ f ih =>
    intro m l zs v w h1 h2 h3 h4 h5
    exact term_step f m R l zs v w h1 h2 h3 h4 h5 ih

theorem read_idle (p q : Addr) (w : World) : CallsD Try.prog 28 #[.pointer (some p), .pointer (some q)] .returning w fun e u' w' => e = .returned (.tuple #[]) ∧ u' = .returning ∧ w' = w := by
  refine callsD_of_wpS Try.func28 rfl fun c₀ cs hu => ?_
  apply wpS_seq
  apply wpS_region
  simp [wpOpsS, go_sem, recoverD, hu, Try.ntmps28, Exit.thenS]
  simp only [Array.replicate_succ, Array.replicate_zero, List.push_toArray, List.nil_append, List.cons_append, List.setIfInBounds_toArray, List.set_cons_succ, List.set_cons_zero, List.append_toArray]
  refine wpS_of_wp ?_
  go_wp2
  cases c₀
  simp_all [bodyPostS, results, Try.results28]

theorem read_caught (B : Nat) (w : World) (h0 : Boxed w B 23 (.slice none 0 0)) (h1 : Boxed w (B + 1) 24 (.int .i64 0)) :
    CallsD Try.prog 28 #[.pointer (some ⟨B, 0, none⟩), .pointer (some ⟨B + 1, 0, none⟩)] (.panicking formChain) w fun e u' w' => e = .returned (.tuple #[]) ∧ u' = .panicking [{ v := .iface 24 (.int .i64 1), recovered := true }] ∧
      Below B w w' ∧ Boxed w' B 23 (.slice none 0 0) ∧ Boxed w' (B + 1) 24 (.int .i64 1) := by
  refine callsD_of_wpS Try.func28 rfl fun c₀ cs hu => ?_
  have c0 := h0.cell
  have c1 := h1.cell
  have f0 := h0.frozen
  have f1 := h1.frozen
  unfold formChain at hu
  have hta : ∀ (xT : TypeId) (w : World), (Instr.typeAssert (.iface 24 (.int .i64 1)) xT 24 false).run Try.prog w = .ok (.int .i64 1) w := fun _ _ => by kernel_rfl
  apply wpS_seq
  apply wpS_region
  simp [wpOpsS, go_sem, recoverD, hu, Try.ntmps28, Exit.thenS]
  simp only [Array.replicate_succ, Array.replicate_zero, List.push_toArray, List.nil_append, List.cons_append, List.setIfInBounds_toArray, List.set_cons_succ, List.set_cons_zero, List.append_toArray]
  refine wpS_of_wp ?_
  go_wp2
  go_region
  all_goals (
    refine ⟨rfl, _, rfl, _, results_none rfl _ _ _, rfl, rfl, ?_⟩
    refine ⟨below_drewN (((Below.refl B w).setCell (p := ⟨B, 0, none⟩) (Nat.le_refl _) _).setCell (p := ⟨B + 1, 0, none⟩) (by show B ≤ B + 1; omega) _) 1, ?_, ?_⟩
    · exact (h0.set _).other (by omega) _
    · exact (h1.other (by omega) _).set _)

theorem results_boxT {fn : Func} {tmps : Array Value} {w : World} {a b B C : Nat} {ad : Option Addr} {n c : Nat} {x : Int} (h : fn.results = #[.cell a 23, .cell b 24]) (ha : tmps.getD a undef = .pointer (some ⟨B, 0, none⟩)) (hb : tmps.getD b undef = .pointer (some ⟨C, 0, none⟩))
    (hc : w.cell? ⟨B, 0, none⟩ = some (.slice ad n c)) (hd : w.cell? ⟨C, 0, none⟩ = some (.int .i64 x)) : (results fn tmps).run Try.prog w = .ok (.tuple #[.slice ad n c, .int .i64 x]) w := by
  have ha' : tmps[a]?.getD undef = .pointer (some ⟨B, 0, none⟩) := by rw [← ha]; simp
  have hb' : tmps[b]?.getD undef = .pointer (some ⟨C, 0, none⟩) := by rw [← hb]; simp
  simp only [results, h]
  simp [go_sem, ha', hb', hc, hd]

theorem Tm.read_yes {l : List UInt8} {a : List Int} (h : Tm.rd 30 30 l = some (a, [])) : Tm.read l = (a, 0) := by unfold Tm.read; rw [h]
theorem Tm.read_none {l : List UInt8} (h : Tm.rd 30 30 l = none) : Tm.read l = ([], 1) := by unfold Tm.read; rw [h]
theorem Tm.read_more {l r : List UInt8} {b : UInt8} {a : List Int} (h : Tm.rd 30 30 l = some (a, b :: r)) : Tm.read l = ([], 1) := by unfold Tm.read; rw [h]
set_option maxRecDepth 100000 in
set_option maxHeartbeats 2000000 in
theorem read_any (l : List UInt8) (w : World) (hl : l.length ≤ 4096) : Calls Try.prog 18 #[sv l] w fun e w' => ∃ v, e = .returned (.tuple #[v, .int .i64 (Tm.read l).2]) ∧ New w.heap.size w' v (Tm.read l).1 ∧ Below w.heap.size w w' := by
  have hmf : ∀ (fn : Fn) (first cap : Array Value) (w : World), (Instr.makeFunc fn first cap).run Try.prog w = .ok (.func fn first cap) w := fun _ _ _ _ => rfl
  obtain ⟨W3, hW3⟩ : ∃ W3, ((w.alloc (.cells #[.slice none 0 0] 23)).alloc (.cells #[.int .i64 0] 24)).alloc (.cells #[sv l, .slice none 0 0] 62) = W3 := ⟨_, rfl⟩
  have b0 : Boxed W3 w.heap.size 23 (.slice none 0 0) := by rw [← hW3]; exact ((Boxed.new w _ _).alloc _).alloc _
  have b1 : Boxed W3 (w.heap.size + 1) 24 (.int .i64 0) := by
    rw [← hW3]
    have h := Boxed.new (w.alloc (.cells #[.slice none 0 0] 23)) 24 (.int .i64 0)
    rw [World.size_alloc] at h
    exact h.alloc _
  have hR : Rd2 W3 (w.heap.size + 1 + 1) (sv l) (.slice none 0 0) := by
    rw [← hW3]
    have h := Rd2.new ((w.alloc (.cells #[.slice none 0 0] 23)).alloc (.cells #[.int .i64 0] 24)) (sv l) (.slice none 0 0)
    simpa only [World.size_alloc] using h
  have hB3 : Below w.heap.size w W3 := by rw [← hW3]; exact (((Below.refl _ w).alloc (Nat.le_refl _) _).alloc (by simp) _).alloc (by simp; omega) _
  have hC := hid (term_all (w.heap.size + 1 + 1) 30 30 l [] _ W3 (Nat.le_refl _) rfl (by omega) hR (New.nil _ _))
  have HW3 := hid hW3
  clear hW3 hR
  go_enter_defers Try.func18, Try.ntmps18
  go_wp2_with fail
  rw [HW3.out]
  refine hC.out.mono ?_
  rintro e W4 ⟨b4, ⟨a, r, v, hd, rfl, R4, N4⟩ | ⟨hd, rfl⟩⟩
  · have bx0 : Boxed W4 w.heap.size 23 (.slice none 0 0) := (b4.block _ (by omega)).trans b0
    have bx1 : Boxed W4 (w.heap.size + 1) 24 (.int .i64 0) := (b4.block _ (by omega)).trans b1
    have B4 := hB3.trans (b4.mono (by omega))
    rw [List.nil_append] at N4
    have c0 := R4.cell0
    have c1 := R4.cell1
    obtain ⟨a4, n4, rfl, _⟩ := New.ints N4
    cases r with
    | nil =>
      have hA := hid (Tm.read_yes hd)
      have e0 := bx0.cell
      have f0 := bx0.frozen
      have e1 := bx1.cell
      have f1 := bx1.frozen
      clear hd hC
      go_wp2
      refine leaves_cons (f := 28) (args := #[.pointer (some ⟨w.heap.size, 0, none⟩), .pointer (some ⟨w.heap.size + 1, 0, none⟩)]) (by simp) (by simp [go_sem]) ?_
      refine (read_idle ⟨w.heap.size, 0, none⟩ ⟨w.heap.size + 1, 0, none⟩ _).mono ?_
      rintro e u' w2 ⟨rfl, rfl, rfl⟩
      have d0 := (bx0.set (.slice a4 a.length n4)).other (B' := w.heap.size + 1) (by omega) (.int .i64 0)
      have d1 := (bx1.other (B' := w.heap.size) (by omega) (.slice a4 a.length n4)).set (.int .i64 0)
      refine ⟨_, results_boxT rfl rfl rfl d0.cell d1.cell, ?_⟩
      rw [hA.out]
      refine ⟨_, rfl, ?_, (B4.setCell (p := ⟨w.heap.size, 0, none⟩) (Nat.le_refl _) _).setCell (p := ⟨w.heap.size + 1, 0, none⟩) (by show w.heap.size ≤ w.heap.size + 1; omega) _⟩
      refine ⟨N4.1, N4.2.elim .inl fun ⟨g, c, cur, h1, h2, h3, h4⟩ => .inr ⟨g, c, cur, h1, by omega, ?_, h4⟩⟩
      exact (Below.heap_setCell _ ⟨w.heap.size + 1, 0, none⟩ _ g (show g ≠ w.heap.size + 1 by omega)).trans ((Below.heap_setCell _ ⟨w.heap.size, 0, none⟩ _ g (show g ≠ w.heap.size by omega)).trans h3)
    | cons b r =>
      have hA := hid (Tm.read_more hd)
      clear hd hC
      go_wp2
      refine leaves_cons (f := 28) (args := #[.pointer (some ⟨w.heap.size, 0, none⟩), .pointer (some ⟨w.heap.size + 1, 0, none⟩)]) (by simp) (by simp [go_sem]) ?_
      refine (read_caught w.heap.size W4 bx0 bx1).mono ?_
      rintro e u' w2 ⟨rfl, rfl, b2, d0, d1⟩
      refine ⟨_, results_boxT rfl rfl rfl d0.cell d1.cell, ?_⟩
      rw [hA.out]
      exact ⟨_, rfl, New.nil _ _, B4.trans b2⟩
  · have bx0 : Boxed W4 w.heap.size 23 (.slice none 0 0) := (b4.block _ (by omega)).trans b0
    have bx1 : Boxed W4 (w.heap.size + 1) 24 (.int .i64 0) := (b4.block _ (by omega)).trans b1
    have B4 := hB3.trans (b4.mono (by omega))
    have hA := hid (Tm.read_none hd)
    clear hd hC
    go_wp2
    refine leaves_cons (f := 28) (args := #[.pointer (some ⟨w.heap.size, 0, none⟩), .pointer (some ⟨w.heap.size + 1, 0, none⟩)]) (by simp) (by simp [go_sem]) ?_
    refine (read_caught w.heap.size W4 bx0 bx1).mono ?_
    rintro e u' w2 ⟨rfl, rfl, b2, d0, d1⟩
    refine ⟨_, results_boxT rfl rfl rfl d0.cell d1.cell, ?_⟩
    rw [hA.out]
    exact ⟨_, rfl, New.nil _ _, B4.trans b2⟩

/-- What text.Read answers. -/
def Tm.readErr (l : List UInt8) : Int := if 4096 < l.length then 2 else (Tm.read l).2
def Tm.readVal (l : List UInt8) : List Int := if 4096 < l.length then [] else (Tm.read l).1
set_option maxRecDepth 100000 in
set_option maxHeartbeats 1000000 in
theorem Read_any (l : List UInt8) (w : World) (hm : l.length ≤ maxLen) : Calls Try.prog 8 #[sv l] w fun e w' => ∃ v, e = .returned (.tuple #[v, .int .i64 (Tm.readErr l)]) ∧ New w.heap.size w' v (Tm.readVal l) ∧ Below w.heap.size w w' := by
  have hm' : (l.length : Int) ≤ 9223372036854775807 := by unfold maxLen at hm; omega
  by_cases h : 4096 < l.length
  · have h' : (4096 : Int) < (l.length : Int) := by omega
    have hA : Hid (Tm.readErr l = 2 ∧ Tm.readVal l = []) := by unfold Tm.readErr Tm.readVal; rw [if_pos h, if_pos h]; exact ⟨rfl, rfl⟩
    clear h hm
    go_enter Try.func8, Try.ntmps8
    go_wp2
    go_ret2
    rw [hA.out.1, hA.out.2]
    exact ⟨_, rfl, New.nil _ _, Below.refl _ _⟩
  · have h' : ¬ (4096 : Int) < (l.length : Int) := by omega
    have hA : Hid (Tm.readErr l = (Tm.read l).2 ∧ Tm.readVal l = (Tm.read l).1) := by unfold Tm.readErr Tm.readVal; rw [if_neg h, if_neg h]; exact ⟨rfl, rfl⟩
    have hC := hid (read_any l w (by omega))
    clear h hm
    go_enter Try.func8, Try.ntmps8
    go_wp2_with fail
    refine hC.out.mono ?_
    rintro e w1 ⟨v, rfl, hN, b1⟩
    obtain ⟨a, c, rfl, _⟩ := New.ints hN
    go_wp2
    go_ret2
    rw [hA.out.1, hA.out.2]
    exact ⟨_, rfl, hN, b1⟩

end Go.Proofs.Ytcgljcbpcchcjaa

namespace Go.Proofs.Ytcgljcbpcchcjaa
open Go.Proofs Go.RowKit Go.Shelf Go.Maps

theorem Tm.fxga_show {l : List UInt8} {er : Int} (h : Tm.ShowSays [4, -1, 2, 0] l er) : er = 0 ∧ l = [102, 40, 120, 44, 103, 40, 97, 41, 41] := by
  rcases h with ⟨rfl, _, x, x1, _, x3, _, rfl⟩ | ⟨h1, h2, _⟩
  · have e : x = .two 4 (.leaf (-1)) (.one 2 (.leaf 0)) := Tr.flat_inj x1 ⟨.inl rfl, by show (-1 : Int) < 2; omega, .inl rfl, by show (0 : Int) < 2; omega⟩ x3
    subst e
    exact ⟨rfl, by decide +kernel⟩
  · exact absurd (h2.trans (by decide +kernel)) h1
set_option maxRecDepth 100000 in
set_option maxHeartbeats 2000000 in
theorem textBegun_any (w : World) : Calls Try.prog 9 #[] w fun e w' => e = .returned (.bool true) ∧ Below w.heap.size w w' := by
  have h1 := hid (fun W => Read_any [102, 40, 120, 44, 103, 40, 97, 41, 41] W (by unfold maxLen; simp))
  have h2 := hid (fun W => Read_any [102, 40, 120, 44, 32, 103, 40, 97, 41, 41] W (by unfold maxLen; simp))
  rw [show Tm.readErr [102, 40, 120, 44, 103, 40, 97, 41, 41] = 0 by decide +kernel, show Tm.readVal [102, 40, 120, 44, 103, 40, 97, 41, 41] = [4, -1, 2, 0] by decide +kernel] at h1
  rw [show Tm.readErr [102, 40, 120, 44, 32, 103, 40, 97, 41, 41] = 1 by decide +kernel, show Tm.readVal [102, 40, 120, 44, 32, 103, 40, 97, 41, 41] = [] by decide +kernel] at h2
  have hss := hid (fun W u v cu cv (hu : Ints W.heap.size W u [4, -1, 2, 0]) (hv : Ints W.heap.size W v [4, -1, 2, 0]) => same_any [4, -1, 2, 0] [4, -1, 2, 0] u v cu cv W hu hv (by unfold maxLen; simp))
  rw [show sameB [4, -1, 2, 0] [4, -1, 2, 0] = true by decide] at hss
  go_enter Try.func9, Try.ntmps9
  go_wp2_with fail
  refine (fxga_any _).mono ?_
  rintro e w1 ⟨a1, rfl, i1, b1⟩
  go_wp2_with fail
  refine (show_any [4, -1, 2, 0] a1 4 w1 i1).mono ?_
  rintro e w2 ⟨l, er, hs, rfl, b2⟩
  obtain ⟨rfl, rfl⟩ := Tm.fxga_show hs
  have B2 := b1.trans (b2.mono b1.size)
  clear hs i1 b1 b2
  go_wp2_with fail
  refine (h1.out w2).mono ?_
  rintro e w3 ⟨v3, rfl, hN3, b3⟩
  obtain ⟨a3, c3, rfl, i3, _⟩ := New.ints hN3
  have B3 := B2.trans (b3.mono B2.size)
  clear hN3 b3 B2
  go_wp2_with fail
  refine (h2.out w3).mono ?_
  rintro e w4 ⟨v4, rfl, hN4, b4⟩
  obtain ⟨a4, c4, rfl, _⟩ := New.ints hN4
  have i4 := (i3.below b4).mono b4.size
  have B4 := B3.trans (b4.mono B3.size)
  clear hN4 b4 B3 i3
  go_wp2_with fail
  refine (fxga_any _).mono ?_
  rintro e w5 ⟨a5, rfl, i5, b5⟩
  have i6 := (i4.below b5).mono b5.size
  have B5 := B4.trans (b5.mono B4.size)
  go_wp2_with fail
  refine (hss.out w5 a3 a5 c3 4 i6 i5).mono ?_
  rintro e w6 ⟨rfl, b6⟩
  go_wp2
  go_ret
  exact ⟨rfl, B5.trans (b6.mono B5.size)⟩

theorem Tm.read_show {x : Tr} (h1 : x.ok) (h2 : x.knows) (h3 : x.flat.length ≤ 30) : Tm.readErr x.show = 0 ∧ Tm.readVal x.show = x.flat := by
  have hl := Tr.show_len x
  have hr := Tm.rd_whole x 30 30 [] h1 h2 h3 (Nat.le_refl _)
  rw [List.append_nil] at hr
  unfold Tm.readErr Tm.readVal
  rw [if_neg (by omega), if_neg (by omega), Tm.read_yes hr]
  exact ⟨rfl, rfl⟩
theorem Tm.show_read {l u : List UInt8} {er : Int} (h : Tm.readErr l = 0) (hs : Tm.ShowSays (Tm.readVal l) u er) : er = 0 ∧ u = l := by
  unfold Tm.readErr at h
  by_cases hb : 4096 < l.length
  · rw [if_pos hb] at h; cases h
  · rw [if_neg hb] at h
    unfold Tm.readVal at hs
    rw [if_neg hb] at hs
    rcases Tm.read_cases l with ⟨y, y1, y2, y3, y4, _, y5⟩ | ⟨_, _, y2⟩
    · rw [y5] at hs
      rcases hs with ⟨e1, _, x, x1, x2, x3, _, e2⟩ | ⟨h1, h2, _⟩
      · exact ⟨e1, by rw [e2, Tr.flat_inj x1 y1 x3, y4]⟩
      · exact absurd (h2.trans (Tr.err_of y1 y2 y3)) h1
    · rw [y2] at h; cases h

end Go.Proofs.Ytcgljcbpcchcjaa
