/-
  hasplaw.rulesBegun.
-/
import Derived.Test.YtloealnfbpegnadBun20
namespace Go.Proofs.Ytloealnfbpegnad
open Go.Proofs Go.RowKit Go.Shelf Go.Maps

theorem Tm.g1 : Tm.fallsErr rk6 groupL = 0 := by decide +kernel
theorem Tm.g2 : Tm.fallsVal rk6 groupL = true := by decide +kernel
theorem Tm.g3 : Tm.stepErr groupL [4, 4, 0, 1, 0] = 0 := by decide +kernel
theorem Tm.g4 : Tm.stepVal groupL [4, 4, 0, 1, 0] = [(2, 0, [4, 0, 4, 1, 0]), (0, 1, [4, 1, 0])] := by decide +kernel
theorem Tm.g5 : Tm.fallsErr rk6 [([2, -1], [3, -1])] = 0 := by decide +kernel
theorem Tm.g6 : Tm.fallsVal rk6 [([2, -1], [3, -1])] = false := by decide +kernel
theorem Tm.g7 : Tm.rulesErr groupL = 0 := by decide +kernel
theorem Tm.g8 : Tm.rulesErr [([-1], [-1])] = 1 := by decide +kernel
theorem Tm.g9 : Tm.rulesErr [([2, 0], [-1])] = 4 := by decide +kernel
theorem Tm.g10 : Tm.rulesErr [([2, -5], [0])] = 3 := by decide +kernel

theorem g_falls (rs : RuleL) (n : Nat) (q : Bool) (er : Int) (ar a : Option Addr) (w : World) (hn : n = rs.length) (hR : Ints w.heap.size w ar rk6) (hI : RulesAt w.heap.size w a rs) (h1 : Tm.fallsVal rk6 rs = q) (h2 : Tm.fallsErr rk6 rs = er) :
    Calls Try.prog 9 #[.slice ar 6 6, .slice a n n] w fun e w' => e = .returned (.tuple #[.bool q, .int .i64 er]) ∧ Below w.heap.size w w' := by
  subst hn h1 h2
  exact rulesFalls_any rk6 rs ar a 6 rs.length w hR hI
theorem g_check (rs : RuleL) (n : Nat) (er : Int) (a : Option Addr) (w : World) (hn : n = rs.length) (hI : RulesAt w.heap.size w a rs) (h : Tm.rulesErr rs = er) :
    Calls Try.prog 30 #[.slice a n n] w fun e w' => e = .returned (.int .i64 er) ∧ Below w.heap.size w w' := by
  subst hn h
  exact rulesCheck_any rs a rs.length w hI
/-- One rule, a literal. -/
theorem g_falls1 (L R : List Int) (nL nR : Nat) (q : Bool) (ar : Option Addr) (w : World) (hL : nL = L.length) (hR : nR = R.length) (kL : L.length ≤ 1000) (kR : R.length ≤ 1000) (hI : Ints w.heap.size w ar rk6) (h1 : Tm.fallsVal rk6 [(L, R)] = q) (h2 : Tm.fallsErr rk6 [(L, R)] = 0) :
    Calls Try.prog 9 #[.slice ar 6 6, .slice (some ⟨w.heap.size + 1 + 1, 0, none⟩) 1 1] (((w.alloc (.cells (L.map (Value.int .i64)).toArray 3)).alloc (.cells (R.map (Value.int .i64)).toArray 3)).alloc (.cells #[.slice (some ⟨w.heap.size, 0, none⟩) nL nL, .slice (some ⟨w.heap.size + 1, 0, none⟩) nR nR] 35)) fun e w' => e = .returned (.tuple #[.bool q, .int .i64 0]) ∧ Below w.heap.size w w' := by
  obtain ⟨hA, hB⟩ := rule1_lit w L R nL nR hL hR kL kR
  refine (g_falls [(L, R)] 1 q 0 ar _ _ rfl ((hI.below hB).mono hB.size) (by simpa using hA) h1 h2).mono ?_
  rintro e w' ⟨rfl, hB'⟩
  exact ⟨rfl, hB.trans (hB'.mono hB.size)⟩
theorem g_check1 (L R : List Int) (nL nR : Nat) (er : Int) (w : World) (hL : nL = L.length) (hR : nR = R.length) (kL : L.length ≤ 1000) (kR : R.length ≤ 1000) (h : Tm.rulesErr [(L, R)] = er) :
    Calls Try.prog 30 #[.slice (some ⟨w.heap.size + 1 + 1, 0, none⟩) 1 1] (((w.alloc (.cells (L.map (Value.int .i64)).toArray 3)).alloc (.cells (R.map (Value.int .i64)).toArray 3)).alloc (.cells #[.slice (some ⟨w.heap.size, 0, none⟩) nL nL, .slice (some ⟨w.heap.size + 1, 0, none⟩) nR nR] 35)) fun e w' => e = .returned (.int .i64 er) ∧ Below w.heap.size w w' := by
  obtain ⟨hA, hB⟩ := rule1_lit w L R nL nR hL hR kL kR
  refine (g_check [(L, R)] 1 er _ _ rfl (by simpa using hA) h).mono ?_
  rintro e w' ⟨rfl, hB'⟩
  exact ⟨rfl, hB.trans (hB'.mono hB.size)⟩
/-- Steps of group, a literal term. -/
theorem g_steps (t : List Int) (n : Nat) (sts : StepL) (a : Option Addr) (w : World) (hn : n = t.length) (hl : t.length ≤ 1000) (hI : RulesAt w.heap.size w a groupL) (h1 : Tm.stepErr groupL t = 0) (h2 : Tm.stepVal groupL t = sts) :
    Calls Try.prog 10 #[.slice a 3 3, .slice (some ⟨w.heap.size, 0, none⟩) n n] (w.alloc (.cells (t.map (Value.int .i64)).toArray 3)) fun e w' => ∃ v, e = .returned (.tuple #[v, .int .i64 0]) ∧ NewT w.heap.size w' v sts ∧ Below w.heap.size w w' := by
  subst hn h2
  have hB : Below w.heap.size w (w.alloc (.cells (t.map (Value.int .i64)).toArray 3)) := (Below.refl _ _).alloc (Nat.le_refl _) _
  refine (steps_any groupL t a _ 3 t.length _ ((hI.below hB).mono hB.size) (ints_lit w t _ (by simp)) (Nat.le_refl _) (by unfold maxLen; omega)).mono ?_
  rintro e w' ⟨v, rfl, hN, hB'⟩
  exact ⟨v, by rw [h1], hN.mono hB.size, hB.trans (hB'.mono hB.size)⟩
set_option maxRecDepth 100000 in
set_option maxHeartbeats 4000000 in
theorem rulesBegun_any (w : World) : Calls Try.prog 11 #[] w fun e w' => e = .returned (.bool true) ∧ Below w.heap.size w w' := by
  have h1 := hid (fun w ar a hR hI => g_falls groupL 3 true 0 ar a w rfl hR hI Tm.g2 Tm.g1)
  have h2 := hid (fun w a hI => g_steps [4, 4, 0, 1, 0] 5 [(2, 0, [4, 0, 4, 1, 0]), (0, 1, [4, 1, 0])] a w rfl (by simp) hI Tm.g3 Tm.g4)
  have h3 := hid (fun w ar hI => g_falls1 [2, -1] [3, -1] 2 2 false ar w rfl rfl (by simp) (by simp) hI Tm.g6 Tm.g5)
  have h4 := hid (fun w a hI => g_check groupL 3 0 a w rfl hI Tm.g7)
  have h5 := hid (fun w => g_check1 [-1] [-1] 1 1 1 w rfl rfl (by simp) (by simp) Tm.g8)
  have h6 := hid (fun w => g_check1 [2, 0] [-1] 2 1 4 w rfl rfl (by simp) (by simp) Tm.g9)
  have h7 := hid (fun w => g_check1 [2, -5] [0] 2 1 3 w rfl rfl (by simp) (by simp) Tm.g10)
  have h8 := hid (fun w a c hI => g_same [4, 0, 4, 1, 0] [4, 0, 4, 1, 0] 5 5 c a w rfl rfl (by simp) hI (by simp [sameB]))
  have h9 := hid (fun w a c hI => g_same [4, 1, 0] [4, 1, 0] 3 3 c a w rfl rfl (by simp) hI (by simp [sameB]))
  simp only [List.map_cons, List.map_nil] at h2 h3 h5 h6 h7 h8 h9
  go_enter Try.func11, Try.ntmps11
  go_wp2_with fail
  refine (rank_any _).mono ?_
  rintro e w1 ⟨r1, rfl, hr1, b1⟩
  go_wp2_with fail
  refine (group_any _).mono ?_
  rintro e w2 ⟨a2, rfl, hg2, b2⟩
  go_wp2_with fail
  refine (h1.out w2 r1 a2 ((hr1.below b2).mono b2.size) hg2).mono ?_
  rintro e w3 ⟨rfl, b3⟩
  have B2 := b1.trans (b2.mono b1.size)
  have B3 := B2.trans (b3.mono B2.size)
  clear h1 b1 b2 b3 hr1 hg2 B2
  go_wp2_with fail
  refine (group_any _).mono ?_
  rintro e w4 ⟨a4, rfl, hg4, b4⟩
  go_wp2_with fail
  refine (h2.out w4 a4 hg4).mono ?_
  rintro e w5 ⟨v5, rfl, hN5, b5⟩
  obtain ⟨g, cg, rfl, hat⟩ := hN5.at (by decide)
  clear hat
  have B4 := B3.trans (b4.mono B3.size)
  have B5 := B4.trans (b5.mono B4.size)
  clear h2 b4 b5 hg4 B3 B4
  go_wp2_with fail
  refine (rank_any _).mono ?_
  rintro e w6 ⟨r6, rfl, hr6, b6⟩
  go_wp2_with fail
  refine (h3.out w6 r6 hr6).mono ?_
  rintro e w7 ⟨rfl, b7⟩
  have N7 := (hN5.below b6).below (b7.mono (Nat.le_refl _))
  have B6 := B5.trans (b6.mono B5.size)
  have B7 := B6.trans (b7.mono B6.size)
  clear h3 b6 b7 hr6 B5 B6 hN5
  go_wp2_with fail
  refine (group_any _).mono ?_
  rintro e w8 ⟨a8, rfl, hg8, b8⟩
  go_wp2_with fail
  refine (h4.out w8 a8 hg8).mono ?_
  rintro e w9 ⟨rfl, b9⟩
  have N9 := (N7.below b8).below b9
  have B8 := B7.trans (b8.mono B7.size)
  have B9 := B8.trans (b9.mono B8.size)
  clear h4 b8 b9 hg8 B7 B8 N7
  go_wp2_with fail
  refine (h5.out w9).mono ?_
  rintro e w10 ⟨rfl, b10⟩
  have N10 := N9.below b10
  have B10 := B9.trans (b10.mono B9.size)
  clear h5 b10 N9 B9
  go_wp2_with fail
  refine (h6.out w10).mono ?_
  rintro e w11 ⟨rfl, b11⟩
  have N11 := N10.below b11
  have B11 := B10.trans (b11.mono B10.size)
  clear h6 b11 N10 B10
  go_wp2_with fail
  refine (h7.out w11).mono ?_
  rintro e w12 ⟨rfl, b12⟩
  have N12 := N11.below b12
  have B12 := B11.trans (b12.mono B11.size)
  clear h7 b12 N11 B11
  obtain ⟨g', cg', e', hat⟩ := N12.at (by decide)
  cases e'
  obtain ⟨x0, y0, c00, c01, c02, i0, _⟩ := hat 0 (by decide)
  obtain ⟨x1, y1, c10, c11, c12, i1, _⟩ := hat 1 (by decide)
  clear hat
  simp at c00 c01 c02 c10 c11 c12
  have N12' := hid N12
  clear N12
  go_wp2_with fail
  refine (h8.out w12 x0 y0 i0).mono ?_
  rintro e w13 ⟨rfl, b13⟩
  have B13 := B12.trans (b13.mono B12.size)
  obtain ⟨g', cg', e', hat⟩ := (N12'.out.below b13).at (by decide)
  cases e'
  clear c00 c01 c02 c10 c11 c12 i0 i1
  obtain ⟨x1, y1, c10, c11, c12, i1, _⟩ := hat 1 (by decide)
  clear hat
  simp at c10 c11 c12
  go_wp2_with fail
  refine (h9.out w13 x1 y1 i1).mono ?_
  rintro e w14 ⟨rfl, b14⟩
  go_wp2
  go_ret
  exact ⟨rfl, B13.trans (b14.mono B13.size)⟩

end Go.Proofs.Ytloealnfbpegnad
