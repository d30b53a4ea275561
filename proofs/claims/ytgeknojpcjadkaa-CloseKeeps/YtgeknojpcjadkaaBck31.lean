/-
  hasplaw.closeBegun. · PLAIN MATHEMATICS: pairs hold wherever the rules do; how many there are; in which order their variables stand. · What a turn keeps: the worlds. · haspref.own, stands, RulesError. · haspref.RulesError. · haspref.EqsError.
-/
import Derived.Test.YtgeknojpcjadkaaBck30
import Derived.Deep.QuietTactic
import Derived.BigQuiet
import Derived.Test.YtgeknojpcjadkaaBck16
import Derived.Test.YtgeknojpcjadkaaBck22
import Derived.Test.YtgeknojpcjadkaaBck4
namespace Go.Proofs.Ytgeknojpcjadkaa
open Go.Proofs Go.RowKit Go.Shelf Go.Maps

theorem laws_lit (w : World) : RulesAt ((allocs w [[4, 0, -1], [-1], [4, 2, -1, -1], [0], [4, 4, -1, -2, -3], [4, -1, 4, -2, -3]]).alloc (.cells #[.slice (some ⟨w.heap.size, 0, none⟩) 3 3, .slice (some ⟨w.heap.size + 1, 0, none⟩) 1 1, .slice (some ⟨w.heap.size + 1 + 1, 0, none⟩) 4 4, .slice (some ⟨w.heap.size + 1 + 1 + 1, 0, none⟩) 1 1, .slice (some ⟨w.heap.size + 1 + 1 + 1 + 1, 0, none⟩) 5 5, .slice (some ⟨w.heap.size + 1 + 1 + 1 + 1 + 1, 0, none⟩) 5 5] 42)).heap.size ((allocs w [[4, 0, -1], [-1], [4, 2, -1, -1], [0], [4, 4, -1, -2, -3], [4, -1, 4, -2, -3]]).alloc (.cells #[.slice (some ⟨w.heap.size, 0, none⟩) 3 3, .slice (some ⟨w.heap.size + 1, 0, none⟩) 1 1, .slice (some ⟨w.heap.size + 1 + 1, 0, none⟩) 4 4, .slice (some ⟨w.heap.size + 1 + 1 + 1, 0, none⟩) 1 1, .slice (some ⟨w.heap.size + 1 + 1 + 1 + 1, 0, none⟩) 5 5, .slice (some ⟨w.heap.size + 1 + 1 + 1 + 1 + 1, 0, none⟩) 5 5] 42)) (some ⟨w.heap.size + 1 + 1 + 1 + 1 + 1 + 1, 0, none⟩) groupL ∧ Below w.heap.size w ((allocs w [[4, 0, -1], [-1], [4, 2, -1, -1], [0], [4, 4, -1, -2, -3], [4, -1, 4, -2, -3]]).alloc (.cells #[.slice (some ⟨w.heap.size, 0, none⟩) 3 3, .slice (some ⟨w.heap.size + 1, 0, none⟩) 1 1, .slice (some ⟨w.heap.size + 1 + 1, 0, none⟩) 4 4, .slice (some ⟨w.heap.size + 1 + 1 + 1, 0, none⟩) 1 1, .slice (some ⟨w.heap.size + 1 + 1 + 1 + 1, 0, none⟩) 5 5, .slice (some ⟨w.heap.size + 1 + 1 + 1 + 1 + 1, 0, none⟩) 5 5] 42)) := by
  have hs := allocs_size [[4, 0, -1], [-1], [4, 2, -1, -1], [0], [4, 4, -1, -2, -3], [4, -1, 4, -2, -3]] w
  have hb := allocs_below [[4, 0, -1], [-1], [4, 2, -1, -1], [0], [4, 4, -1, -2, -3], [4, -1, 4, -2, -3]] w
  have hi := allocs_ints [[4, 0, -1], [-1], [4, 2, -1, -1], [0], [4, 4, -1, -2, -3], [4, -1, 4, -2, -3]] w
  rw [show ([[4, 0, -1], [-1], [4, 2, -1, -1], [0], [4, 4, -1, -2, -3], [4, -1, 4, -2, -3]] : List (List Int)).length = 6 from rfl] at hs hi
  obtain ⟨W6, hW⟩ : ∃ W6, allocs w [[4, 0, -1], [-1], [4, 2, -1, -1], [0], [4, 4, -1, -2, -3], [4, -1, 4, -2, -3]] = W6 := ⟨_, rfl⟩
  rw [hW] at hs hb hi ⊢
  obtain ⟨C, hC⟩ : ∃ C : Array Value, #[.slice (some ⟨w.heap.size, 0, none⟩) 3 3, .slice (some ⟨w.heap.size + 1, 0, none⟩) 1 1, .slice (some ⟨w.heap.size + 1 + 1, 0, none⟩) 4 4, .slice (some ⟨w.heap.size + 1 + 1 + 1, 0, none⟩) 1 1, .slice (some ⟨w.heap.size + 1 + 1 + 1 + 1, 0, none⟩) 5 5, .slice (some ⟨w.heap.size + 1 + 1 + 1 + 1 + 1, 0, none⟩) 5 5] = C := ⟨_, rfl⟩
  rw [hC]
  have blk := World.alloc_heap_new W6 (.cells C 42)
  have hb6 : Below W6.heap.size W6 (W6.alloc (.cells C 42)) := (Below.refl _ W6).alloc (Nat.le_refl _) _
  rw [hs] at blk hb6
  rw [World.size_alloc, hs]
  refine ⟨rulesAt_of blk (by omega) fun k hk => ?_, hb.trans (hb6.mono (by omega))⟩
  have hk' : k < 3 := hk
  have hx := fun i hi6 => ((hi i hi6).below hb6).mono (show w.heap.size + 6 ≤ w.heap.size + 6 + 1 by omega)
  subst hC
  match k, hk' with
  | 0, _ => exact ⟨_, _, rfl, rfl, hx 0 (by simp), hx 1 (by simp), by decide, by decide⟩
  | 1, _ => exact ⟨_, _, rfl, rfl, hx 2 (by simp), hx 3 (by simp), by decide, by decide⟩
  | 2, _ => exact ⟨_, _, rfl, rfl, hx 4 (by simp), hx 5 (by simp), by decide, by decide⟩
theorem gE_lit (w : World) : RulesAt ((allocs w [[2, 2, -1], [-1], [2, 0], [1]]).alloc (.cells #[.slice (some ⟨w.heap.size, 0, none⟩) 3 3, .slice (some ⟨w.heap.size + 1, 0, none⟩) 1 1, .slice (some ⟨w.heap.size + 1 + 1, 0, none⟩) 2 2, .slice (some ⟨w.heap.size + 1 + 1 + 1, 0, none⟩) 1 1] 42)).heap.size ((allocs w [[2, 2, -1], [-1], [2, 0], [1]]).alloc (.cells #[.slice (some ⟨w.heap.size, 0, none⟩) 3 3, .slice (some ⟨w.heap.size + 1, 0, none⟩) 1 1, .slice (some ⟨w.heap.size + 1 + 1, 0, none⟩) 2 2, .slice (some ⟨w.heap.size + 1 + 1 + 1, 0, none⟩) 1 1] 42)) (some ⟨w.heap.size + 1 + 1 + 1 + 1, 0, none⟩) gE ∧ Below w.heap.size w ((allocs w [[2, 2, -1], [-1], [2, 0], [1]]).alloc (.cells #[.slice (some ⟨w.heap.size, 0, none⟩) 3 3, .slice (some ⟨w.heap.size + 1, 0, none⟩) 1 1, .slice (some ⟨w.heap.size + 1 + 1, 0, none⟩) 2 2, .slice (some ⟨w.heap.size + 1 + 1 + 1, 0, none⟩) 1 1] 42)) := by
  have hs := allocs_size [[2, 2, -1], [-1], [2, 0], [1]] w
  have hb := allocs_below [[2, 2, -1], [-1], [2, 0], [1]] w
  have hi := allocs_ints [[2, 2, -1], [-1], [2, 0], [1]] w
  rw [show ([[2, 2, -1], [-1], [2, 0], [1]] : List (List Int)).length = 4 from rfl] at hs hi
  obtain ⟨W6, hW⟩ : ∃ W6, allocs w [[2, 2, -1], [-1], [2, 0], [1]] = W6 := ⟨_, rfl⟩
  rw [hW] at hs hb hi ⊢
  obtain ⟨C, hC⟩ : ∃ C : Array Value, #[.slice (some ⟨w.heap.size, 0, none⟩) 3 3, .slice (some ⟨w.heap.size + 1, 0, none⟩) 1 1, .slice (some ⟨w.heap.size + 1 + 1, 0, none⟩) 2 2, .slice (some ⟨w.heap.size + 1 + 1 + 1, 0, none⟩) 1 1] = C := ⟨_, rfl⟩
  rw [hC]
  have blk := World.alloc_heap_new W6 (.cells C 42)
  have hb6 : Below W6.heap.size W6 (W6.alloc (.cells C 42)) := (Below.refl _ W6).alloc (Nat.le_refl _) _
  rw [hs] at blk hb6
  rw [World.size_alloc, hs]
  refine ⟨rulesAt_of blk (by omega) fun k hk => ?_, hb.trans (hb6.mono (by omega))⟩
  have hk' : k < 2 := hk
  have hx := fun i hi6 => ((hi i hi6).below hb6).mono (show w.heap.size + 4 ≤ w.heap.size + 4 + 1 by omega)
  subst hC
  match k, hk' with
  | 0, _ => exact ⟨_, _, rfl, rfl, hx 0 (by simp), hx 1 (by simp), by decide, by decide⟩
  | 1, _ => exact ⟨_, _, rfl, rfl, hx 2 (by simp), hx 3 (by simp), by decide, by decide⟩
theorem gF_lit (w : World) : RulesAt ((allocs w [[4, -1, -2], [4, -2, -1]]).alloc (.cells #[.slice (some ⟨w.heap.size, 0, none⟩) 3 3, .slice (some ⟨w.heap.size + 1, 0, none⟩) 3 3] 42)).heap.size ((allocs w [[4, -1, -2], [4, -2, -1]]).alloc (.cells #[.slice (some ⟨w.heap.size, 0, none⟩) 3 3, .slice (some ⟨w.heap.size + 1, 0, none⟩) 3 3] 42)) (some ⟨w.heap.size + 1 + 1, 0, none⟩) gF ∧ Below w.heap.size w ((allocs w [[4, -1, -2], [4, -2, -1]]).alloc (.cells #[.slice (some ⟨w.heap.size, 0, none⟩) 3 3, .slice (some ⟨w.heap.size + 1, 0, none⟩) 3 3] 42)) := by
  have hs := allocs_size [[4, -1, -2], [4, -2, -1]] w
  have hb := allocs_below [[4, -1, -2], [4, -2, -1]] w
  have hi := allocs_ints [[4, -1, -2], [4, -2, -1]] w
  rw [show ([[4, -1, -2], [4, -2, -1]] : List (List Int)).length = 2 from rfl] at hs hi
  obtain ⟨W6, hW⟩ : ∃ W6, allocs w [[4, -1, -2], [4, -2, -1]] = W6 := ⟨_, rfl⟩
  rw [hW] at hs hb hi ⊢
  obtain ⟨C, hC⟩ : ∃ C : Array Value, #[.slice (some ⟨w.heap.size, 0, none⟩) 3 3, .slice (some ⟨w.heap.size + 1, 0, none⟩) 3 3] = C := ⟨_, rfl⟩
  rw [hC]
  have blk := World.alloc_heap_new W6 (.cells C 42)
  have hb6 : Below W6.heap.size W6 (W6.alloc (.cells C 42)) := (Below.refl _ W6).alloc (Nat.le_refl _) _
  rw [hs] at blk hb6
  rw [World.size_alloc, hs]
  refine ⟨rulesAt_of blk (by omega) fun k hk => ?_, hb.trans (hb6.mono (by omega))⟩
  have hk' : k < 1 := hk
  have hx := fun i hi6 => ((hi i hi6).below hb6).mono (show w.heap.size + 2 ≤ w.heap.size + 2 + 1 by omega)
  subst hC
  match k, hk' with
  | 0, _ => exact ⟨_, _, rfl, rfl, hx 0 (by simp), hx 1 (by simp), by decide, by decide⟩

set_option maxRecDepth 100000 in
set_option maxHeartbeats 1000000 in
theorem laws_any (w : World) : Calls Try.prog 62 #[] w fun e w' => ∃ a, e = .returned (.slice a 3 3) ∧ RulesAt w'.heap.size w' a groupL ∧ Below w.heap.size w w' := by
  have h := hid (laws_lit w)
  go_enter Try.func62, Try.ntmps62
  go_wp2
  go_ret
  exact ⟨_, rfl, h.out.1, h.out.2⟩

theorem g_turn1 (ar a : Option Addr) (w : World) (hR : Ints w.heap.size w ar rk6) (hP : RulesAt w.heap.size w a groupL) : Calls Try.prog 30 #[.slice ar 6 6, .slice none 0 0, .slice a 3 3] w fun e w' => ∃ b off c a' c' aL cL, e = .returned (.tuple #[.slice (some ⟨b, off, none⟩) 1 c, .slice a' 2 c', .int .i64 0]) ∧ w'.cell? ⟨b, off, none⟩ = some (.slice aL 3 cL) ∧ Ints w'.heap.size w' aL [4, 0, -1] ∧ b < w'.heap.size ∧ Below w.heap.size w w' := by
  refine (Turn_any rk6 [] groupL ar none a 6 0 3 w hR (fun k hk => by simp at hk) hP (by decide) (by unfold maxLen; omega)).mono ?_
  rintro e w' ⟨er, rs', ps', v, u, hs, rfl, n1, n2, b2⟩
  obtain ⟨rfl, rfl, rfl⟩ := Tm.lawsTurn hs
  obtain ⟨a1, c1, rfl, r1, _, _⟩ := n1.at
  obtain ⟨a2, c2, rfl, r2, _, _⟩ := n2.at
  obtain ⟨b, off, rfl, hb, aL, cL, aR, cR, k1, _, i1, _⟩ := r1 0 (by decide)
  exact ⟨b, off, c1, a2, c2, aL, cL, rfl, k1, i1, hb, b2⟩
theorem g_turn2 (ar : Option Addr) (w : World) (hR : Ints w.heap.size w ar rk6) : Calls Try.prog 30 #[.slice ar 6 6, .slice none 0 0, .slice none 0 0] w fun e w' => ∃ v u, e = .returned (.tuple #[v, u, .int .i64 5]) ∧ Below w.heap.size w w' := by
  refine (Turn_any rk6 [] [] ar none none 6 0 0 w hR (fun k hk => by simp at hk) (fun k hk => by simp at hk) (by decide) (by unfold maxLen; omega)).mono ?_
  rintro e w' ⟨er, rs', ps', v, u, hs, rfl, n1, n2, b2⟩
  obtain ⟨rfl, _, _⟩ := Tm.badTurn (by decide +kernel) hs
  exact ⟨v, u, by rw [show Tm.turnErr rk6 [] [] = 5 from by decide +kernel], b2⟩
theorem g_turn3 (a : Option Addr) (w : World) (hP : RulesAt w.heap.size w a groupL) : Calls Try.prog 30 #[.slice none 0 0, .slice none 0 0, .slice a 3 3] w fun e w' => ∃ v u, e = .returned (.tuple #[v, u, .int .i64 1]) ∧ Below w.heap.size w w' := by
  refine (Turn_any [] [] groupL none none a 0 0 3 w (Ints.nil _ _ _) (fun k hk => by simp at hk) hP (by decide) (by unfold maxLen; omega)).mono ?_
  rintro e w' ⟨er, rs', ps', v, u, hs, rfl, n1, n2, b2⟩
  obtain ⟨rfl, _, _⟩ := Tm.badTurn (by decide +kernel) hs
  exact ⟨v, u, by rw [show Tm.turnErr [] [] groupL = 1 from by decide +kernel], b2⟩
/-- Three rules that lie somewhere. -/
def Three (W : World) (b off : Nat) : Prop := ∃ x0 c0 x1 c1 x2 c2 x3 c3 x4 c4, W.cell? ⟨b, off, none⟩ = some (.slice x0 3 c0) ∧ W.cell? ⟨b, off + 2, none⟩ = some (.slice x1 2 c1) ∧ W.cell? ⟨b, off + 3, none⟩ = some (.slice x2 1 c2) ∧ W.cell? ⟨b, off + 4, none⟩ = some (.slice x3 2 c3) ∧ W.cell? ⟨b, off + 5, none⟩ = some (.slice x4 1 c4) ∧
  Ints W.heap.size W x0 [2, 2, -1] ∧ Ints W.heap.size W x1 [2, 0] ∧ Ints W.heap.size W x2 [1] ∧ Ints W.heap.size W x3 [2, 1] ∧ Ints W.heap.size W x4 [0]
theorem three_of {W : World} {a : Option Addr} (h : RulesAt W.heap.size W a gR3) : ∃ b off, a = some ⟨b, off, none⟩ ∧ b < W.heap.size ∧ Three W b off := by
  obtain ⟨b, off, rfl, hb, x0, c0, _, _, k0, _, i0, _⟩ := h 0 (by decide)
  obtain ⟨b', off', e1, _, x1, c1, x2, c2, k1, k2, i1, i2, _⟩ := h 1 (by decide)
  obtain ⟨b'', off'', e2, _, x3, c3, x4, c4, k3, k4, i3, i4, _⟩ := h 2 (by decide)
  cases e1
  cases e2
  exact ⟨b, off, rfl, hb, x0, c0, x1, c1, x2, c2, x3, c3, x4, c4, k0, k1, k2, k3, k4, i0, i1, i2, i3, i4⟩
theorem Three.below {W W' : World} {b off : Nat} (h : Three W b off) (hb : b < W.heap.size) (hB : Below W.heap.size W W') : Three W' b off := by
  obtain ⟨x0, c0, x1, c1, x2, c2, x3, c3, x4, c4, k0, k1, k2, k3, k4, i0, i1, i2, i3, i4⟩ := h
  exact ⟨x0, c0, x1, c1, x2, c2, x3, c3, x4, c4, (hB.cell (p := ⟨b, off, none⟩) hb).trans k0, (hB.cell (p := ⟨b, off + 2, none⟩) hb).trans k1, (hB.cell (p := ⟨b, off + 3, none⟩) hb).trans k2, (hB.cell (p := ⟨b, off + 4, none⟩) hb).trans k3, (hB.cell (p := ⟨b, off + 5, none⟩) hb).trans k4, (i0.below hB).mono hB.size, (i1.below hB).mono hB.size, (i2.below hB).mono hB.size, (i3.below hB).mono hB.size, (i4.below hB).mono hB.size⟩
theorem g_run1 (ar a : Option Addr) (w : World) (hR : Ints w.heap.size w ar rk6) (hP : RulesAt w.heap.size w a gE) : Calls Try.prog 27 #[.slice ar 6 6, .slice a 2 2] w fun e w' => ∃ b off c, e = .returned (.tuple #[.slice (some ⟨b, off, none⟩) 3 c, .int .i64 5, .int .i64 0]) ∧ b < w'.heap.size ∧ Three w' b off ∧ Below w.heap.size w w' := by
  refine (Run_any rk6 gE ar a 6 2 w hR hP (by decide) (by unfold maxLen; omega)).mono ?_
  rintro e w' ⟨er, rs, n, al, cl, hs, rfl, r1, _, _, b2⟩
  obtain ⟨rfl, rfl, rfl⟩ := Tm.gRun hs
  obtain ⟨b, off, rfl, hb, h3⟩ := three_of r1
  exact ⟨b, off, cl, rfl, hb, h3, b2⟩
theorem g_run2 (ar a : Option Addr) (w : World) (hR : Ints w.heap.size w ar rk6) (hP : RulesAt w.heap.size w a gF) : Calls Try.prog 27 #[.slice ar 6 6, .slice a 1 1] w fun e w' => ∃ v, e = .returned (.tuple #[v, .int .i64 0, .int .i64 6]) ∧ Below w.heap.size w w' := by
  refine (Run_any rk6 gF ar a 6 1 w hR hP (by decide) (by unfold maxLen; omega)).mono ?_
  rintro e w' ⟨er, rs, n, al, cl, hs, rfl, r1, _, _, b2⟩
  obtain ⟨rfl, rfl, rfl⟩ := Tm.fRun hs
  exact ⟨_, rfl, b2⟩

set_option maxRecDepth 100000 in
set_option maxHeartbeats 4000000 in
theorem closeBegun_any (w : World) : Calls Try.prog 28 #[] w fun e w' => e = .returned (.bool true) ∧ Below w.heap.size w w' := by
  have l1 := hid gE_lit
  have l2 := hid gF_lit
  have s0 := hid (fun w a c hI => g_same [4, 0, -1] [4, 0, -1] 3 3 c a w rfl rfl (by simp) hI (by simp [sameB]))
  have s1 := hid (fun w a c hI => g_same [2, 2, -1] [2, 2, -1] 3 3 c a w rfl rfl (by simp) hI (by simp [sameB]))
  have s2 := hid (fun w a c hI => g_same [2, 0] [2, 0] 2 2 c a w rfl rfl (by simp) hI (by simp [sameB]))
  have s3 := hid (fun w a c hI => g_same [1] [1] 1 1 c a w rfl rfl (by simp) hI (by simp [sameB]))
  have s4 := hid (fun w a c hI => g_same [2, 1] [2, 1] 2 2 c a w rfl rfl (by simp) hI (by simp [sameB]))
  have s5 := hid (fun w a c hI => g_same [0] [0] 1 1 c a w rfl rfl (by simp) hI (by simp [sameB]))
  simp only [List.map_cons, List.map_nil, allocs] at s0 s1 s2 s3 s4 s5 l1 l2
  go_enter Try.func28, Try.ntmps28
  go_wp2_with fail
  refine (rank_any _).mono ?_
  rintro e w1 ⟨a1, rfl, hr1, b1⟩
  go_wp2_with fail
  refine (laws_any _).mono ?_
  rintro e w2 ⟨a2, rfl, hg2, b2⟩
  go_wp2_with fail
  refine (g_turn1 a1 a2 w2 ((hr1.below b2).mono b2.size) hg2).mono ?_
  rintro e w3 ⟨b, off, c, a', c', aL, cL, rfl, k3, i3, hb3, b3⟩
  have B2 := b1.trans (b2.mono b1.size)
  have B3 := B2.trans (b3.mono B2.size)
  clear hr1 hg2 b1 b2 b3 B2
  go_wp2_with fail
  refine (rank_any _).mono ?_
  rintro e w4 ⟨a4, rfl, hr4, b4⟩
  have L1 := hid (l1.out w4)
  have Q4 := hid (b4.trans (L1.out.2.mono b4.size))
  clear l1
  go_wp2_with fail
  refine (g_run1 a4 _ _ ((hr4.below L1.out.2).mono L1.out.2.size) L1.out.1).mono ?_
  rintro e w5 ⟨d, od, cd, rfl, hd5, h5, b5⟩
  have Q5 := hid (Q4.out.trans (b5.mono Q4.out.size))
  have B5 := B3.trans (Q5.out.mono B3.size)
  have K5 : w5.cell? ⟨b, off, none⟩ = some (.slice aL 3 cL) := (Q5.out.cell (p := ⟨b, off, none⟩) hb3).trans k3
  have I5 := (i3.below Q5.out).mono Q5.out.size
  have hb5 := Nat.lt_of_lt_of_le hb3 Q5.out.size
  clear hr4 L1 b4 b5 Q4 Q5 k3 i3 hb3 B3
  go_wp2_with fail
  refine (rank_any _).mono ?_
  rintro e w6 ⟨a6, rfl, hr6, b6⟩
  go_wp2_with fail
  refine (g_turn2 a6 w6 hr6).mono ?_
  rintro e w7 ⟨v7, u7, rfl, b7⟩
  have Q7 := hid (b6.trans (b7.mono b6.size))
  have B7 := B5.trans (Q7.out.mono B5.size)
  have K7 : w7.cell? ⟨b, off, none⟩ = some (.slice aL 3 cL) := (Q7.out.cell (p := ⟨b, off, none⟩) hb5).trans K5
  have I7 := (I5.below Q7.out).mono Q7.out.size
  have h7 := h5.below hd5 Q7.out
  have hb7 := Nat.lt_of_lt_of_le hb5 Q7.out.size
  have hd7 := Nat.lt_of_lt_of_le hd5 Q7.out.size
  clear hr6 b6 b7 Q7 K5 I5 h5 hb5 hd5 B5
  go_wp2_with fail
  refine (rank_any _).mono ?_
  rintro e w8 ⟨a8, rfl, hr8, b8⟩
  have L2 := hid (l2.out w8)
  have Q8 := hid (b8.trans (L2.out.2.mono b8.size))
  clear l2
  go_wp2_with fail
  refine (g_run2 a8 _ _ ((hr8.below L2.out.2).mono L2.out.2.size) L2.out.1).mono ?_
  rintro e w9 ⟨v9, rfl, b9⟩
  have Q9 := hid (Q8.out.trans (b9.mono Q8.out.size))
  have B9 := B7.trans (Q9.out.mono B7.size)
  have K9 : w9.cell? ⟨b, off, none⟩ = some (.slice aL 3 cL) := (Q9.out.cell (p := ⟨b, off, none⟩) hb7).trans K7
  have I9 := (I7.below Q9.out).mono Q9.out.size
  have h9 := h7.below hd7 Q9.out
  have hb9 := Nat.lt_of_lt_of_le hb7 Q9.out.size
  have hd9 := Nat.lt_of_lt_of_le hd7 Q9.out.size
  clear hr8 b8 b9 Q8 Q9 L2 K7 I7 h7 hb7 hd7 B7
  go_wp2_with fail
  refine (laws_any _).mono ?_
  rintro e wa ⟨aa, rfl, hga, ba⟩
  go_wp2_with fail
  refine (g_turn3 aa wa hga).mono ?_
  rintro e wb ⟨vb, ub, rfl, bb⟩
  have Qb := hid (ba.trans (bb.mono ba.size))
  have Bb := B9.trans (Qb.out.mono B9.size)
  have Kb : wb.cell? ⟨b, off, none⟩ = some (.slice aL 3 cL) := (Qb.out.cell (p := ⟨b, off, none⟩) hb9).trans K9
  have Ib := (I9.below Qb.out).mono Qb.out.size
  have hb := h9.below hd9 Qb.out
  have hdb := Nat.lt_of_lt_of_le hd9 Qb.out.size
  clear hga ba bb Qb K9 I9 h9 hb9 hd9 B9
  go_wp2_with fail
  refine (s0.out wb aL cL Ib).mono ?_
  rintro e wc ⟨rfl, bc⟩
  have Bc := Bb.trans (bc.mono Bb.size)
  have hc := hb.below hdb bc
  clear Kb Ib hb hdb bc Bb s0
  obtain ⟨x0, c0, x1, c1, x2, c2, x3, c3, x4, c4, k0, k1, k2, k3, k4, i0, i1, i2, i3, i4⟩ := hc
  have hdc : d < wc.heap.size := by
    by_cases h : d < wc.heap.size
    · exact h
    · exact absurd k0 (by simp [World.cell?, Array.getElem?_eq_none (Nat.not_lt.mp h)])
  go_wp2_with fail
  refine (s1.out wc x0 c0 i0).mono ?_
  rintro e wd0 ⟨rfl, bq⟩
  have Bwd0 := Bc.trans (bq.mono Bc.size)
  replace k1 : wd0.cell? ⟨d, od + 2, none⟩ = some (.slice x1 2 c1) := (bq.cell (p := ⟨d, od + 2, none⟩) hdc).trans k1
  replace i1 := (i1.below bq).mono bq.size
  replace k2 : wd0.cell? ⟨d, od + 3, none⟩ = some (.slice x2 1 c2) := (bq.cell (p := ⟨d, od + 3, none⟩) hdc).trans k2
  replace i2 := (i2.below bq).mono bq.size
  replace k3 : wd0.cell? ⟨d, od + 4, none⟩ = some (.slice x3 2 c3) := (bq.cell (p := ⟨d, od + 4, none⟩) hdc).trans k3
  replace i3 := (i3.below bq).mono bq.size
  replace k4 : wd0.cell? ⟨d, od + 5, none⟩ = some (.slice x4 1 c4) := (bq.cell (p := ⟨d, od + 5, none⟩) hdc).trans k4
  replace i4 := (i4.below bq).mono bq.size
  replace hdc : d < wd0.heap.size := Nat.lt_of_lt_of_le hdc bq.size
  clear bq k0 i0 s1 Bc
  go_wp2_with fail
  refine (s2.out wd0 x1 c1 i1).mono ?_
  rintro e wd1 ⟨rfl, bq⟩
  have Bwd1 := Bwd0.trans (bq.mono Bwd0.size)
  replace k2 : wd1.cell? ⟨d, od + 3, none⟩ = some (.slice x2 1 c2) := (bq.cell (p := ⟨d, od + 3, none⟩) hdc).trans k2
  replace i2 := (i2.below bq).mono bq.size
  replace k3 : wd1.cell? ⟨d, od + 4, none⟩ = some (.slice x3 2 c3) := (bq.cell (p := ⟨d, od + 4, none⟩) hdc).trans k3
  replace i3 := (i3.below bq).mono bq.size
  replace k4 : wd1.cell? ⟨d, od + 5, none⟩ = some (.slice x4 1 c4) := (bq.cell (p := ⟨d, od + 5, none⟩) hdc).trans k4
  replace i4 := (i4.below bq).mono bq.size
  replace hdc : d < wd1.heap.size := Nat.lt_of_lt_of_le hdc bq.size
  clear bq k1 i1 s2 Bwd0
  go_wp2_with fail
  refine (s3.out wd1 x2 c2 i2).mono ?_
  rintro e wd2 ⟨rfl, bq⟩
  have Bwd2 := Bwd1.trans (bq.mono Bwd1.size)
  replace k3 : wd2.cell? ⟨d, od + 4, none⟩ = some (.slice x3 2 c3) := (bq.cell (p := ⟨d, od + 4, none⟩) hdc).trans k3
  replace i3 := (i3.below bq).mono bq.size
  replace k4 : wd2.cell? ⟨d, od + 5, none⟩ = some (.slice x4 1 c4) := (bq.cell (p := ⟨d, od + 5, none⟩) hdc).trans k4
  replace i4 := (i4.below bq).mono bq.size
  replace hdc : d < wd2.heap.size := Nat.lt_of_lt_of_le hdc bq.size
  clear bq k2 i2 s3 Bwd1
  go_wp2_with fail
  refine (s4.out wd2 x3 c3 i3).mono ?_
  rintro e wd3 ⟨rfl, bq⟩
  have Bwd3 := Bwd2.trans (bq.mono Bwd2.size)
  replace k4 : wd3.cell? ⟨d, od + 5, none⟩ = some (.slice x4 1 c4) := (bq.cell (p := ⟨d, od + 5, none⟩) hdc).trans k4
  replace i4 := (i4.below bq).mono bq.size
  replace hdc : d < wd3.heap.size := Nat.lt_of_lt_of_le hdc bq.size
  clear bq k3 i3 s4 Bwd2
  go_wp2_with fail
  refine (s5.out wd3 x4 c4 i4).mono ?_
  rintro e wd4 ⟨rfl, bq⟩
  have Bwd4 := Bwd3.trans (bq.mono Bwd3.size)
  clear bq k4 i4 s5 Bwd3
  go_wp2
  go_ret
  exact ⟨rfl, Bwd4⟩

end Go.Proofs.Ytgeknojpcjadkaa

namespace Go.Proofs.Ytgeknojpcjadkaa
open Go.Proofs Go.RowKit Go.Shelf Go.Maps

/-- The variables stand in their order. -/
def Ordered (B : List Int) : Prop := ∃ nx : Nat → Int, nx 0 = -1 ∧ ∀ n, n < B.length → ¬ B[n]?.getD 0 < nx n ∧ nx (n + 1) = (if B[n]?.getD 0 = nx n then nx n - 1 else nx n) ∧ -100000 ≤ nx n
theorem Sn.both (X Y : List Int) : Tm.plain X ++ Tm.plain2 X Y = Tm.plainTo [] (X ++ Y) (X ++ Y).length := by
  obtain ⟨r, hr⟩ := Sn.seen_pre Y (Tm.seenFrom [] X)
  have h1 := Sn.plain_map X [] r
  have h2 := Sn.plain_map Y (Tm.seenFrom [] X) []
  have h3 := Sn.plain_map (X ++ Y) [] []
  rw [← hr] at h1
  rw [List.append_nil] at h2 h3
  rw [Sn.seen_app] at h3
  show Tm.plainTo [] X X.length ++ Tm.plainTo (Tm.seenFrom [] X) Y Y.length = _
  rw [h1, h2, h3, List.map_append]
theorem Sn.step (S : List Int) (s : Int) (h : S.length ≤ 1000) : ¬ Tm.name S s < -1 - (S.length : Int) ∧ -1 - ((Tm.see S s).length : Int) = (if Tm.name S s = -1 - (S.length : Int) then -1 - (S.length : Int) - 1 else -1 - (S.length : Int)) ∧ -100000 ≤ -1 - (S.length : Int) := by
  rcases Sn.see_cases S s with ⟨h0, e⟩ | ⟨hs, hc, e⟩ | ⟨hs, hc, e⟩
  · have hn : Tm.name S s = s := by unfold Tm.name; rw [if_neg (by omega)]
    rw [hn, e]
    refine ⟨by omega, by rw [if_neg (by omega)], by omega⟩
  · have hn : Tm.name S s = -1 - (Tm.idx S s : Int) := by unfold Tm.name; rw [if_pos hs]
    have := Sn.idx_lt hc
    rw [hn, e]
    refine ⟨by omega, by rw [if_neg (by omega)], by omega⟩
  · have hn : Tm.name S s = -1 - (S.length : Int) := by unfold Tm.name; rw [if_pos hs, Tm.idx_new hc]
    rw [hn, e, List.length_append]
    refine ⟨by omega, by rw [if_pos rfl]; simp; omega, by omega⟩
theorem Tm.plain_ordered (X Y : List Int) (h : (X ++ Y).length ≤ 1000) : Ordered (Tm.plain X ++ Tm.plain2 X Y) := by
  rw [Sn.both]
  generalize X ++ Y = Z at *
  refine ⟨fun n => -1 - ((Tm.seenFrom [] (Z.take n)).length : Int), by simp [Tm.seenFrom], fun n hn => ?_⟩
  rw [Tm.plainTo_length] at hn
  have hb : (Tm.plainTo [] Z Z.length)[n]?.getD 0 = Tm.name (Tm.seenFrom [] (Z.take n)) (Z[n]?.getD 0) := by simp [Tm.plainTo, hn]
  have hle := Tm.seen_len (Z.take n) []
  dsimp only
  rw [hb, Tm.seen_succ [] hn]
  simp only [List.length_take, List.length_nil] at hle
  exact Sn.step _ _ (by omega)

/-- How many symbols. -/
def symN (L : List Int) : Nat := (L.filter fun s => decide (0 ≤ s)).length
theorem symN_snoc {L : List Int} {k : Nat} (h : k < L.length) : symN (L.take (k + 1)) = symN (L.take k) + if (0 : Int) ≤ L[k]?.getD 0 then 1 else 0 := by
  rw [take_snoc h]
  unfold symN
  rw [List.filter_append, List.length_append]
  by_cases h0 : (0 : Int) ≤ L[k]?.getD 0
  · rw [if_pos h0]; simp [h0]
  · rw [if_neg h0]; simp [h0]
theorem Tm.Laps.count {L1 R1 L2 R2 : List Int} {i j : Int} {m : Nat} {l : PairL} (h0 : (0 : Int) ≤ L1[0]?.getD 0) (h : Tm.Laps L1 R1 L2 R2 (Tm.passB L1 i j) m l) : m ≤ L1.length → l.length + (if i = j ∧ 0 < m then 1 else 0) ≤ symN (L1.take m) := by
  induction h with
  | zero => intro _; simp
  | @pass k l h hp ih =>
    intro hk
    have := ih (by omega)
    rw [symN_snoc (by omega)]
    unfold Tm.passB at hp
    simp only [Bool.or_eq_true, Bool.and_eq_true, decide_eq_true_eq] at hp
    by_cases hij : i = j
    · by_cases hk0 : 0 < k
      · rw [if_pos ⟨hij, hk0⟩] at this
        rw [if_pos ⟨hij, by omega⟩]
        omega
      · obtain rfl : k = 0 := by omega
        rw [if_neg (by omega)] at this
        rw [if_pos ⟨hij, by omega⟩, if_pos h0]
        omega
    · rw [if_neg (fun e => hij e.1)] at this ⊢
      omega
  | @no k l val h hp hs ih =>
    intro hk
    have := ih (by omega)
    rw [symN_snoc (by omega)]
    unfold Tm.passB at hp
    simp only [Bool.or_eq_false_iff, Bool.and_eq_false_iff, decide_eq_false_iff_not] at hp
    rw [if_pos (show (0 : Int) ≤ L1[k]?.getD 0 by omega)]
    by_cases hij : i = j
    · have hk0 : 0 < k := by
        rcases hp.2 with e | e
        · omega
        · exact absurd hij e
      rw [if_pos ⟨hij, hk0⟩] at this
      rw [if_pos ⟨hij, by omega⟩]
      omega
    · rw [if_neg (fun e => hij e.1)] at this ⊢
      omega
  | @yes k l val h hp hs he ih =>
    intro hk
    have := ih (by omega)
    rw [symN_snoc (by omega)]
    unfold Tm.passB at hp
    simp only [Bool.or_eq_false_iff, Bool.and_eq_false_iff, decide_eq_false_iff_not] at hp
    rw [if_pos (show (0 : Int) ≤ L1[k]?.getD 0 by omega), List.length_append]
    simp only [List.length_cons, List.length_nil]
    by_cases hij : i = j
    · have hk0 : 0 < k := by
        rcases hp.2 with e | e
        · omega
        · exact absurd hij e
      rw [if_pos ⟨hij, hk0⟩] at this
      rw [if_pos ⟨hij, by omega⟩]
      omega
    · rw [if_neg (fun e => hij e.1)] at this ⊢
      omega

/-- A pair is of two terms, in order, and holds wherever both rules do. -/
def PairGood (L1 R1 L2 R2 : List Int) (x : List Int × List Int) : Prop := Tm.err x.1 = 0 ∧ Tm.err x.2 = 0 ∧ Ordered (x.1 ++ x.2) ∧ ∀ A : Int → Nat → Nat → Nat, (∀ s x y, A s x y < 3) → Tm.Holds A L1 R1 → Tm.Holds A L2 R2 → Tm.Holds A x.1 x.2
theorem Tm.prt_good {L1 R1 L2 R2 : List Int} {m : Nat} {val : List (List Int)} (hm : m < L1.length) (eL : Tm.err L1 = 0) (eR : Tm.err R1 = 0) (eL2 : Tm.err L2 = 0) (eR2 : Tm.err R2 = 0) (fL : ∀ s ∈ L2, -4 ≤ s ∧ s < 6) (fR : ∀ s ∈ R2, -4 ≤ s ∧ s < 6)
    (hs : Tm.MeetSays [(Tm.part L1 m, Tm.others L2)] 0 true val) (he : Tm.prtErr val L1 R1 (m : Int) (Tm.others R2) = 0) : PairGood L1 R1 L2 R2 (Tm.prtVal val L1 R1 (m : Int) (Tm.others R2)) := by
  obtain ⟨hsub, ep, eo, happ, _⟩ := Tm.meet_true hs
  have hv : Tm.prtVal val L1 R1 (m : Int) (Tm.others R2) = (Tm.plain (Tm.applyVal val (Tm.putVal L1 (m : Int) (Tm.others R2))), Tm.plain2 (Tm.applyVal val (Tm.putVal L1 (m : Int) (Tm.others R2))) (Tm.applyVal val R1)) := by unfold Tm.prtVal; rw [if_pos he]
  have hput : Tm.putErr L1 (m : Int) (Tm.others R2) = 0 := by
    by_cases h : Tm.putErr L1 (m : Int) (Tm.others R2) = 0
    · exact h
    · unfold Tm.prtErr at he; rw [if_neg h] at he; exact absurd he h
  have hX : Tm.applyErr val (Tm.putVal L1 (m : Int) (Tm.others R2)) = 0 := by
    by_cases h : Tm.applyErr val (Tm.putVal L1 (m : Int) (Tm.others R2)) = 0
    · exact h
    · unfold Tm.prtErr at he; rw [if_pos hput, if_neg h] at he; exact absurd he h
  have hY : Tm.applyErr val R1 = 0 := by unfold Tm.prtErr at he; rw [if_pos hput, if_pos hX] at he; exact he
  have hpv : Tm.putVal L1 (m : Int) (Tm.others R2) = Tm.put L1 m (Tm.others R2) := by unfold Tm.putVal; rw [if_pos hput]; rfl
  have eo2 : Tm.err (Tm.others R2) = 0 := by
    by_cases h : Tm.err (Tm.others R2) = 0
    · exact h
    · unfold Tm.putErr at hput; rw [if_pos eL, if_neg h] at hput; exact absurd hput h
  obtain ⟨_, eput, lX, vX⟩ := Tm.apply_zero hX
  obtain ⟨_, _, lY, vY⟩ := Tm.apply_zero hY
  have eX := Tm.applyVal_err hX
  have eY := Tm.applyVal_err hY
  rw [hv]
  obtain ⟨ss, hss, pX, pY, e1, e2⟩ := Tm.plain_ren eX eY
  refine ⟨e1, e2, Tm.plain_ordered _ _ (by rw [List.length_append]; have := Tm.err_len eX; have := Tm.err_len eY; omega), fun A hA h1 h2 vs hvs => ?_⟩
  have T := Terms.of hss
  have U := Terms.of hsub
  have O := Terms.of Tm.othL_err
  show Tm.val A vs (Tm.plain _) = Tm.val A vs (Tm.plain2 _ _)
  rw [pX, pY, Tm.val_applied T _ _ (Nat.lt_succ_self _) eX, Tm.val_applied T _ _ (Nat.lt_succ_self _) eY, vX, vY, hpv]
  rw [hpv] at eput
  generalize hus : (fun i : Nat => Tm.val A vs (ss[i]?.getD [])) = us
  have husl : ∀ i, us i < 3 := fun i => by rw [← hus]; exact Tm.val_lt hA hvs _
  rw [Tm.val_applied U _ _ (Nat.lt_succ_self _) eput, Tm.val_applied U _ _ (Nat.lt_succ_self _) eR]
  have hq : Tm.val A us (Tm.applied val (Tm.part L1 m)) = Tm.val A us (Tm.applied val (Tm.others L2)) := by rw [happ]
  rw [Tm.val_applied U _ _ (Nat.lt_succ_self _) ep, Tm.val_applied U _ _ (Nat.lt_succ_self _) eo] at hq
  generalize hts : (fun i : Nat => Tm.val A us (val[i]?.getD [])) = ts at *
  have htsl : ∀ i, ts i < 3 := fun i => by rw [← hts]; exact Tm.val_lt hA husl _
  have hr : Tm.val A ts (Tm.others R2) = Tm.val A ts (Tm.part L1 m) := by
    rw [hq, Tm.others_applied R2 fR, Tm.others_applied L2 fL, Tm.val_applied O _ _ (Nat.lt_succ_self _) eR2, Tm.val_applied O _ _ (Nat.lt_succ_self _) eL2]
    exact (h2 _ (fun i => Tm.val_lt hA htsl _)).symm
  have h3 := Tm.val_put hr eo2 ep _ L1 m (Nat.lt_succ_self _) eL hm
  rw [Tm.put_self] at h3
  rw [h3]
  exact h1 ts htsl
theorem Tm.rule_vars {L R : List Int} (h : Tm.ruleErr L R = 0) : (∀ s ∈ L, -4 ≤ s ∧ s < 6) ∧ (∀ s ∈ R, -4 ≤ s ∧ s < 6) := by
  obtain ⟨eL, eR, fL, fR, _⟩ := Tm.ruleErr_ok h
  have kL := Tm.err_all eL
  have kR := Tm.err_all eR
  rw [List.all_eq_true] at kL kR
  rw [List.any_eq_false] at fL fR
  refine ⟨fun s hs => ⟨?_, Tm.known_lt (kL s hs)⟩, fun s hs => ⟨?_, Tm.known_lt (kR s hs)⟩⟩
  · have := fL s hs
    simp [foreignB] at this
    omega
  · have := fR s hs
    simp [foreignB] at this
    omega
theorem Tm.Laps.good {L1 R1 L2 R2 : List Int} {pass : Nat → Bool} (h1 : Tm.ruleErr L1 R1 = 0) (h2 : Tm.ruleErr L2 R2 = 0) {m : Nat} {l : PairL} (h : Tm.Laps L1 R1 (Tm.others L2) (Tm.others R2) pass m l) : m ≤ L1.length → ∀ x ∈ l, PairGood L1 R1 L2 R2 x := by
  induction h with
  | zero => intro _ x hx; simp at hx
  | pass _ _ ih => intro hm; exact ih (by omega)
  | no _ _ _ ih => intro hm; exact ih (by omega)
  | yes _ _ hs he ih =>
    intro hm x hx
    rcases List.mem_append.1 hx with hx | hx
    · exact ih (by omega) x hx
    · simp at hx
      subst hx
      obtain ⟨eL, eR, _⟩ := Tm.ruleErr_ok h1
      obtain ⟨eL2, eR2, _⟩ := Tm.ruleErr_ok h2
      obtain ⟨fL, fR⟩ := Tm.rule_vars h2
      exact Tm.prt_good (by omega) eL eR eL2 eR2 fL fR hs he
/-- What PairsModel asks of pairs.Of's answer. -/
theorem Tm.of_good {rs : RuleL} {i j : Int} {ps : PairL} (h : Tm.OfSays rs i j 0 ps) : Tm.rulesErr rs = 0 ∧ ∃ a : Nat, a < rs.length ∧ i = (a : Int) ∧ ps.length ≤ symN (rs[a]?.getD ([], [])).1 ∧ (i = j → ps.length < symN (rs[a]?.getD ([], [])).1) ∧
    ∀ k, k < ps.length → Tm.err (ps[k]?.getD ([], [])).1 = 0 ∧ Tm.err (ps[k]?.getD ([], [])).2 = 0 ∧ Ordered ((ps[k]?.getD ([], [])).1 ++ (ps[k]?.getD ([], [])).2) ∧ ∀ zs, worldB zs rs = true → Tm.Holds (mo zs) (ps[k]?.getD ([], [])).1 (ps[k]?.getD ([], [])).2 := by
  rcases h with ⟨h1, h2, _⟩ | ⟨_, _, h2, _⟩ | ⟨hr, a, b, ha, hb, rfl, rfl, h3⟩
  · exact absurd h2.symm h1
  · omega
  · obtain ⟨h8, hall⟩ := Tm.rulesErr_ok hr
    rcases h3 with ⟨_, hl⟩ | ⟨hbad, _⟩
    · have r1 := hall a ha
      have r2 := hall b hb
      obtain ⟨eL, _, _, _, h0, _⟩ := Tm.ruleErr_ok r1
      have hc := hl.count h0 (Nat.le_refl _)
      rw [List.take_length] at hc
      have hpos := Tm.err_pos eL
      refine ⟨hr, a, ha, rfl, by omega, fun e => by rw [if_pos ⟨e, hpos⟩] at hc; omega, fun k hk => ?_⟩
      have hx : (ps[k]?.getD ([], [])) ∈ ps := by rw [List.getElem?_eq_getElem hk]; exact List.getElem_mem hk
      obtain ⟨g1, g2, g3, g4⟩ := hl.good r1 r2 (Nat.le_refl _) _ hx
      refine ⟨g1, g2, g3, fun zs hw => ?_⟩
      have hh := worldB_holds hr hw
      exact g4 (mo zs) (mo_lt zs) (hh a ha) (hh b hb)
    · exact absurd rfl hbad.1

end Go.Proofs.Ytgeknojpcjadkaa

namespace Go.Proofs.Ytgeknojpcjadkaa
open Go.Proofs Go.RowKit Go.Shelf Go.Maps

def Tm.AllHold (zs : List Int) (l : PairL) : Prop := ∀ x ∈ l, Tm.Holds (mo zs) x.1 x.2
theorem Tm.allHold_at {zs : List Int} {l : PairL} (h : Tm.AllHold zs l) : ∀ k, k < l.length → Tm.Holds (mo zs) (l[k]?.getD ([], [])).1 (l[k]?.getD ([], [])).2 := fun k hk => by
  rw [List.getElem?_eq_getElem hk]
  exact h _ (List.getElem_mem hk)
theorem Tm.holds1 {zs a b : List Int} (ea : Tm.err a = 0) (eb : Tm.err b = 0) : Tm.holdsB (mo zs) a b (max (dpN a) (dpN b)) = true ↔ Tm.Holds (mo zs) a b :=
  Tm.holdsB_iff ea eb (dp_all a (Nat.le_max_left _ _)) (dp_all b (Nat.le_max_right _ _))
theorem worldB_iff {zs : List Int} {l : PairL} (he : ∀ x ∈ l, Tm.err x.1 = 0 ∧ Tm.err x.2 = 0) : worldB zs l = true ↔ Tm.AllHold zs l := by
  unfold worldB Tm.AllHold
  rw [List.all_eq_true]
  exact ⟨fun h x hx => (Tm.holds1 (he x hx).1 (he x hx).2).1 (h x hx), fun h x hx => (Tm.holds1 (he x hx).1 (he x hx).2).2 (h x hx)⟩
theorem Tm.rules_right {rs : RuleL} (h : Tm.rulesErr rs = 0) : ∀ x ∈ rs, Tm.err x.1 = 0 ∧ Tm.err x.2 = 0 := fun x hx => by
  obtain ⟨k, hk, rfl⟩ := List.getElem_of_mem hx
  obtain ⟨_, hall⟩ := Tm.rulesErr_ok h
  have := hall k hk
  rw [List.getElem?_eq_getElem hk] at this
  obtain ⟨e1, e2, _⟩ := Tm.ruleErr_ok this
  exact ⟨e1, e2⟩
theorem Tm.pairs_right {ps : PairL} (h : Tm.firstPair ps = 0) : ∀ x ∈ ps, Tm.err x.1 = 0 ∧ Tm.err x.2 = 0 := fun x hx => by
  obtain ⟨k, hk, rfl⟩ := List.getElem_of_mem hx
  have := Tm.firstP_zero h k hk
  rwa [List.getElem?_eq_getElem hk] at this

/-- Names given back. -/
def Sn.backL (S : List Int) : List (List Int) := (List.range 8).map fun i : Nat => if i < S.length then [S[i]?.getD 0] else [-1]
theorem Sn.backL_at (S : List Int) {i : Nat} (h : i < 8) : (Sn.backL S)[i]?.getD [] = if i < S.length then [S[i]?.getD 0] else [-1] := by
  unfold Sn.backL
  rw [List.getElem?_map, List.getElem?_range h]
  rfl
theorem Sn.backL_err {S : List Int} (hn : ∀ x ∈ S, -8 ≤ x ∧ x < 0) : Tm.subErr (Sn.backL S) = 0 := by
  unfold Tm.subErr
  rw [if_pos (by simp [Sn.backL])]
  refine Tm.firstErr_of fun i hi => ?_
  have hi8 : i < 8 := by simpa [Sn.backL] using hi
  rw [Sn.backL_at S hi8]
  by_cases hc : i < S.length
  · rw [if_pos hc, List.getElem?_eq_getElem hc]
    have := hn _ (List.getElem_mem hc)
    exact Sn.err_var this.1 this.2
  · rw [if_neg hc]; exact Sn.err_var (by omega) (by omega)
theorem Sn.idx_at {S : List Int} {s : Int} (h : S.contains s = true) : S[Tm.idx S s]?.getD 0 = s := by
  have hl := Sn.idx_lt h
  have := @List.findIdx_getElem _ (fun x => x == s) S hl
  rw [List.getElem?_eq_getElem hl]
  exact eq_of_beq this
theorem Sn.applied_back {S : List Int} (h8 : S.length ≤ 8) : ∀ (t : List Int), (∀ s ∈ t, s < 0 → S.contains s = true) → Tm.applied (Sn.backL S) (t.map (Sn.ren S)) = t := by
  intro t
  induction t with
  | nil => intro _; rfl
  | cons s l ih =>
    intro hm
    rw [List.map_cons, Tm.applied_cons, ih (fun x hx => hm x (by simp [hx]))]
    have : Tm.piece (Sn.backL S) (Sn.ren S s) = [s] := by
      unfold Tm.piece Sn.ren
      by_cases hs : s < 0
      · have hc := hm s (by simp) hs
        have hl := Sn.idx_lt hc
        rw [if_pos hs, if_pos (by omega), show (-1 - (-1 - (Tm.idx S s : Int))).toNat = Tm.idx S s from by omega, Sn.backL_at S (by omega), if_pos hl, Sn.idx_at hc]
      · rw [if_neg hs, if_neg hs]
    rw [this]
    rfl
/-- Two terms made plain, and back. -/
theorem Tm.plain_back {X Y : List Int} (eX : Tm.err X = 0) (eY : Tm.err Y = 0) : ∃ ss, Tm.subErr ss = 0 ∧ X = Tm.applied ss (Tm.plain X) ∧ Y = Tm.applied ss (Tm.plain2 X Y) := by
  have kX := Tm.err_all eX
  have kY := Tm.err_all eY
  have hneg : ∀ x ∈ Tm.seenFrom (Tm.seenFrom [] X) Y, -8 ≤ x ∧ x < 0 := Sn.seen_neg Y _ kY (Sn.seen_neg X [] kX (fun x hx => by simp at hx))
  have hnd : (Tm.seenFrom (Tm.seenFrom [] X) Y).Nodup := Sn.seen_nodup Y _ (Sn.seen_nodup X [] List.nodup_nil)
  have h8 := Sn.pigeon 8 _ hnd hneg
  obtain ⟨r, hr⟩ := Sn.seen_pre Y (Tm.seenFrom [] X)
  refine ⟨Sn.backL (Tm.seenFrom (Tm.seenFrom [] X) Y), Sn.backL_err hneg, ?_, ?_⟩
  · have := Sn.plain_map X [] r
    rw [← hr] at this
    rw [show Tm.plain X = X.map (Sn.ren (Tm.seenFrom (Tm.seenFrom [] X) Y)) from this]
    exact (Sn.applied_back h8 X (fun s hs h => Sn.seen_has Y _ s h (.inr (Sn.seen_has X [] s h (.inl hs))))).symm
  · have := Sn.plain_map Y (Tm.seenFrom [] X) []
    rw [List.append_nil] at this
    rw [show Tm.plain2 X Y = Y.map (Sn.ren (Tm.seenFrom (Tm.seenFrom [] X) Y)) from this]
    exact (Sn.applied_back h8 Y (fun s hs h => Sn.seen_has Y _ s h (.inl hs))).symm
theorem Tm.holds_applied {zs a b : List Int} {ss : List (List Int)} (hs : Tm.subErr ss = 0) (ea : Tm.err a = 0) (eb : Tm.err b = 0) (h : Tm.Holds (mo zs) a b) : Tm.Holds (mo zs) (Tm.applied ss a) (Tm.applied ss b) := fun vs hv => by
  rw [Tm.val_applied (Terms.of hs) (a.length + 1) a (by omega) ea, Tm.val_applied (Terms.of hs) (b.length + 1) b (by omega) eb]
  exact h _ fun i => Tm.val_lt (mo_lt zs) hv _
theorem Tm.plain_holds {zs X Y : List Int} (eX : Tm.err X = 0) (eY : Tm.err Y = 0) : Tm.Holds (mo zs) (Tm.plain X) (Tm.plain2 X Y) ↔ Tm.Holds (mo zs) X Y := by
  obtain ⟨ss, h1, h2, h3, h4, h5⟩ := Tm.plain_ren eX eY
  constructor
  · intro h
    obtain ⟨ss', g1, g2, g3⟩ := Tm.plain_back eX eY
    rw [g2, g3]
    exact Tm.holds_applied g1 h4 h5 h
  · intro h
    rw [h2, h3]
    exact Tm.holds_applied h1 eX eY h
theorem Tm.holds_symm {zs a b : List Int} (h : Tm.Holds (mo zs) a b) : Tm.Holds (mo zs) b a := fun vs hv => (h vs hv).symm
theorem Tm.dir_holds {zs rk P Q : List Int} (eP : Tm.err P = 0) (eQ : Tm.err Q = 0) (h : (Tm.dir rk P Q).1 = 0) : Tm.Holds (mo zs) (Tm.dir rk P Q).2.1 (Tm.dir rk P Q).2.2 ↔ Tm.Holds (mo zs) P Q := by
  unfold Tm.dir at h ⊢
  by_cases h1 : Tm.aboveVal rk P Q = true
  · rw [if_pos h1] at h ⊢
    have h' : Tm.plErr P = 0 := h
    unfold Tm.plVal
    rw [if_pos h']
    exact Tm.plain_holds eP eQ
  · rw [if_neg h1] at h ⊢
    by_cases h2 : Tm.aboveVal rk Q P = true
    · rw [if_pos h2] at h ⊢
      have h' : Tm.plErr Q = 0 := h
      unfold Tm.plVal
      rw [if_pos h']
      exact (Tm.plain_holds eQ eP).trans ⟨Tm.holds_symm, Tm.holds_symm⟩
    · rw [if_neg h2] at h
      exact absurd h (by decide)
theorem Tm.form_holds {zs : List Int} {rs : RuleL} {t : List Int} (hw : Tm.AllHold zs rs) (h : (Tm.form rs t).2.2 = 0) : Tm.Holds (mo zs) t (Tm.form rs t).1 := fun vs hv => by
  obtain ⟨n, _, hr, _⟩ := Tm.form_runs h
  exact Tm.runs_val (mo_lt zs) hv (Tm.allHold_at hw) hr
theorem Tm.holds_trans {zs a b c : List Int} (h : Tm.Holds (mo zs) a b) (h' : Tm.Holds (mo zs) b c) : Tm.Holds (mo zs) a c := fun vs hv => (h vs hv).trans (h' vs hv)
theorem Tm.last_holds {zs : List Int} {rs : RuleL} {ws : List (Nat × Nat)} {ps : PairL} (h : Tm.LastSays rs ws 0 ps) : ∀ x ∈ ps, (Tm.err x.1 = 0 ∧ Tm.err x.2 = 0) ∧ (Tm.AllHold zs rs → Tm.Holds (mo zs) x.1 x.2) := by
  rcases h with ⟨_, f, h1, rfl⟩ | ⟨h, _⟩
  · intro x hx
    rw [List.mem_flatten] at hx
    obtain ⟨l, hl, hx⟩ := hx
    rw [List.mem_map] at hl
    obtain ⟨j, hj, rfl⟩ := hl
    rw [List.mem_range] at hj
    obtain ⟨hr, _, _, _, _, _, hg⟩ := Tm.of_good (h1 j hj)
    obtain ⟨k, hk, rfl⟩ := List.getElem_of_mem hx
    have := hg k hk
    rw [List.getElem?_eq_getElem hk] at this
    exact ⟨⟨this.1, this.2.1⟩, fun hw => this.2.2.2 zs ((worldB_iff (Tm.rules_right hr)).2 hw)⟩
  · exact absurd rfl h
theorem Tm.stay_or {L : List Int} {rs : RuleL} (x : List Int × List Int) : x ∈ rs ↔ x ∈ Tm.stays L rs ∨ x ∈ Tm.taken L rs := by
  unfold Tm.stays Tm.taken
  rw [List.mem_filter, List.mem_filter]
  cases h : Tm.takenB L x <;> simp
/-- A turn keeps the worlds. -/
theorem Tm.turn_holds {zs rk : List Int} {rs : RuleL} {ps : PairL} {rs' : RuleL} {ps' : PairL} (h : Tm.TurnSays rk rs ps 0 rs' ps') : (∀ x ∈ ps', Tm.err x.1 = 0 ∧ Tm.err x.2 = 0) ∧ (∀ x ∈ rs', Tm.err x.1 = 0 ∧ Tm.err x.2 = 0) ∧ ((Tm.AllHold zs rs ∧ Tm.AllHold zs ps) ↔ (Tm.AllHold zs rs' ∧ Tm.AllHold zs ps')) := by
  rcases h with ⟨h, h', _⟩ | ⟨h0, p, l, rfl, h⟩
  · exact absurd h'.symm h
  obtain ⟨k1, k2, k3, k4, k5, k6, k7⟩ := Tm.turnErr_zero h0
  have eps := Tm.pairs_right k3
  have ers := Tm.rules_right k4
  rcases h with ⟨h, h', _⟩ | ⟨hj, he, _, rfl, rfl⟩ | ⟨_, _, h, h', _⟩ | ⟨hj, he, hd, hw⟩
  · exact absurd h'.symm h
  · obtain ⟨f1, f2⟩ := Tm.joinErr_two hj
    refine ⟨fun x hx => eps x (by simp [hx]), ers, fun h => ⟨h.1, fun x hx => h.2 x (by simp [hx])⟩, fun h => ⟨h.1, fun x hx => ?_⟩⟩
    rcases List.mem_cons.1 hx with rfl | hx
    · refine Tm.holds_trans (Tm.form_holds h.1 f1) ?_
      rw [he]
      exact Tm.holds_symm (Tm.form_holds h.1 f2)
    · exact h.2 x hx
  · exact absurd h'.symm h
  · obtain ⟨f1, f2⟩ := Tm.joinErr_two hj
    have e1 := Tm.form_right f1
    have e2 := Tm.form_right f2
    have hdh := Tm.dir_holds (zs := zs) e1 e2 hd
    have hdr := Tm.dir_right e1 e2 hd
    generalize (Tm.dir rk (Tm.form rs p.1).1 (Tm.form rs p.2).1).2.1 = L at hw hdh hdr
    generalize (Tm.dir rk (Tm.form rs p.1).1 (Tm.form rs p.2).1).2.2 = R at hw hdh hdr
    rcases hw with ⟨_, h, _⟩ | ⟨_, e, q, hl, h⟩
    · exact absurd h (by decide)
    · rcases h with ⟨h, h', _⟩ | ⟨_, _, h, _⟩ | ⟨rfl, _, _, rfl, rfl⟩
      · exact absurd h'.symm h
      · exact absurd h (by decide)
      · have hq := Tm.last_holds (zs := zs) hl
        have hr' : ∀ x ∈ Tm.stays L rs ++ [(L, R)], Tm.err x.1 = 0 ∧ Tm.err x.2 = 0 := fun x hx => by
          rcases List.mem_append.1 hx with hx | hx
          · exact ers x ((Tm.stay_or x).2 (.inl hx))
          · rw [List.mem_singleton] at hx; subst hx; exact hdr
        refine ⟨fun x hx => ?_, hr', fun h => ?_, fun h => ?_⟩
        · rcases List.mem_append.1 hx with hx | hx
          · rcases List.mem_append.1 hx with hx | hx
            · exact eps x (by simp [hx])
            · exact ers x ((Tm.stay_or x).2 (.inr hx))
          · exact (hq x hx).1
        · have hp : Tm.Holds (mo zs) p.1 p.2 := h.2 p (by simp)
          have hLR : Tm.Holds (mo zs) L R := hdh.2 (Tm.holds_trans (Tm.holds_symm (Tm.form_holds h.1 f1)) (Tm.holds_trans hp (Tm.form_holds h.1 f2)))
          have hall : Tm.AllHold zs (Tm.stays L rs ++ [(L, R)]) := fun x hx => by
            rcases List.mem_append.1 hx with hx | hx
            · exact h.1 x ((Tm.stay_or x).2 (.inl hx))
            · rw [List.mem_singleton] at hx; subst hx; exact hLR
          refine ⟨hall, fun x hx => ?_⟩
          rcases List.mem_append.1 hx with hx | hx
          · rcases List.mem_append.1 hx with hx | hx
            · exact h.2 x (by simp [hx])
            · exact h.1 x ((Tm.stay_or x).2 (.inr hx))
          · exact (hq x hx).2 hall
        · have hrs : Tm.AllHold zs rs := fun x hx => by
            rcases (Tm.stay_or x).1 hx with hx | hx
            · exact h.1 x (List.mem_append.2 (.inl hx))
            · exact h.2 x (List.mem_append.2 (.inl (List.mem_append.2 (.inr hx))))
          refine ⟨hrs, fun x hx => ?_⟩
          rcases List.mem_cons.1 hx with rfl | hx
          · have hLR := hdh.1 (h.1 (L, R) (by simp))
            exact Tm.holds_trans (Tm.form_holds hrs f1) (Tm.holds_trans hLR (Tm.holds_symm (Tm.form_holds hrs f2)))
          · exact h.2 x (by simp [hx])
end Go.Proofs.Ytgeknojpcjadkaa

namespace Go.Proofs.Ytgeknojpcjadkaa
open Go.Proofs Go.RowKit Go.Shelf Go.Maps

set_option maxRecDepth 100000 in
set_option maxHeartbeats 400000 in
theorem refOwn_any (zs : List Int) (a : Option Addr) (cap : Nat) (w : World) (hI : Ints w.heap.size w a zs) (hm : zs.length ≤ maxLen) :
    Calls Try.prog 42 #[.slice a zs.length cap] w fun e w' => e = .returned (.bool (!zs.any foreignB)) ∧ w' = w := by
  unfold maxLen at hm
  go_enter Try.func42, Try.ntmps42
  go_wp2
  go_loop [3] (fun i => ∃ k : Nat, k ≤ zs.length ∧ i = .int .i64 (k : Int) ∧ (zs.take k).any foreignB = false) (fun i => zs.length - (intOf i).toNat)
  case atStart => exact ⟨0, Nat.zero_le _, rfl, by simp⟩
  case round =>
    obtain ⟨k, hk, rfl, hno⟩ := hrel
    by_cases hlt : k < zs.length
    · have hlt' : (k : Int) < (zs.length : Int) := by omega
      obtain ⟨b, off, rfl, hb, hc⟩ := hI.at (by omega)
      have hck := hc k hlt
      have hsn := hid (any_snoc (p := foreignB) hlt hno)
      have hye := hid (any_yes (p := foreignB) hlt)
      clear hc hI hno
      generalize zs[k]?.getD 0 = s at *
      by_cases hq : s < -4
      · have Hy := hid (hye.out (decide_eq_true hq))
        clear hsn
        go_wp2
        go_ret
        exact ⟨by rw [Hy.out]; rfl, rfl⟩
      · have hq' : decide (s < -4) = false := by simpa using hq
        have Hn := hid (hsn.out hq')
        clear hye hq
        go_wp2
        go_round
        case rel => exact ⟨k + 1, by omega, by go_num, Hn.out⟩
        case measure => simp [intOf]; omega
    · obtain rfl : k = zs.length := by omega
      rw [List.take_length] at hno
      have hn := hid hno
      clear hno
      go_wp2
      go_ret
      exact ⟨by rw [hn.out]; rfl, rfl⟩

set_option maxRecDepth 100000 in
set_option maxHeartbeats 400000 in
theorem refStands_any (zs : List Int) (x : Int) (a : Option Addr) (cap : Nat) (w : World) (hI : Ints w.heap.size w a zs) (hm : zs.length ≤ maxLen) :
    Calls Try.prog 43 #[.slice a zs.length cap, .int .i64 x] w fun e w' => e = .returned (.bool (Tm.hasB zs x)) ∧ w' = w := by
  unfold maxLen at hm
  go_enter Try.func43, Try.ntmps43
  go_wp2
  go_loop [5] (fun i => ∃ k : Nat, k ≤ zs.length ∧ i = .int .i64 (k : Int) ∧ ∀ j, j < k → zs[j]?.getD 0 ≠ x) (fun i => zs.length - (intOf i).toNat)
  case atStart => exact ⟨0, Nat.zero_le _, rfl, fun j hj => by omega⟩
  case round =>
    obtain ⟨k, hk, rfl, hno⟩ := hrel
    by_cases hlt : k < zs.length
    · have hlt' : (k : Int) < (zs.length : Int) := by omega
      obtain ⟨b, off, rfl, hb, hc⟩ := hI.at (by omega)
      have hck := hc k hlt
      have hsn := hid (has_no hno)
      have hye := hid (@has_yes zs x k hlt)
      clear hc hI hno
      generalize zs[k]?.getD 0 = s at *
      by_cases he : s = x
      · have hb1 : (s == x) = true := by simp [he]
        have He := hid (hye.out he)
        clear he
        go_wp2
        go_ret
        exact ⟨by rw [He.out]; rfl, rfl⟩
      · have hb1 : (s == x) = false := by simpa using he
        have He := hid (hsn.out he)
        clear he
        go_wp2
        go_round
        case rel => exact ⟨k + 1, by omega, by go_num, He.out⟩
        case measure => simp [intOf]; omega
    · obtain rfl : k = zs.length := by omega
      have hn := hid (has_none hno)
      clear hno
      go_wp2
      go_ret
      exact ⟨by rw [hn.out]; rfl, rfl⟩

end Go.Proofs.Ytgeknojpcjadkaa

namespace Go.Proofs.Ytgeknojpcjadkaa
open Go.Proofs Go.RowKit Go.Shelf Go.Maps

theorem ruleErr_fit {L R : List Int} (h : Tm.fitErr L R ≠ 0) : Tm.ruleErr L R = Tm.fitErr L R := by
  unfold Tm.fitErr at h ⊢
  unfold Tm.ruleErr
  simp only [Tm.firstErr] at h ⊢
  by_cases h1 : Tm.err L = 0
  · rw [if_pos h1] at h ⊢
    rw [if_pos h1]
    by_cases h2 : Tm.err R = 0
    · rw [if_pos h2] at h; exact absurd rfl h
    · rw [if_neg h2, if_neg h2]
  · rw [if_neg h1, if_neg h1]
theorem ruleErr_fit0 {L R : List Int} (h : Tm.fitErr L R = 0) : Tm.ruleErr L R = (if L.any foreignB = true then 3 else if R.any foreignB = true then 3 else if L[0]?.getD 0 < 0 then 1 else if R.any (freeIn L) = true then 4 else 0) := by
  obtain ⟨h1, h2⟩ := Tm.fitErr_ok h
  unfold Tm.ruleErr
  rw [if_pos h1, if_pos h2]
theorem below_drewO {n : Nat} {a b : World} (h : Below n a b) (d : Nat) : Below n a (b.drewN d) := ⟨h.os, h.tape, h.output, h.size, h.block⟩

set_option maxRecDepth 100000 in
set_option maxHeartbeats 2000000 in
theorem rulesError_any (rs : RuleL) (a : Option Addr) (cap : Nat) (w : World) (hI : RulesAt w.heap.size w a rs) :
    Calls Try.prog 13 #[.slice a rs.length cap] w fun e w' => e = .returned (.int .i64 (Tm.rulesErr rs)) ∧ Below w.heap.size w w' := by
  by_cases h8 : 8 < rs.length
  · have h8' : (8 : Int) < (rs.length : Int) := by omega
    have hv : Tm.rulesErr rs = 2 := by unfold Tm.rulesErr; rw [if_pos h8]
    rw [hv]
    clear h8 hv hI
    go_enter Try.func13, Try.ntmps13
    go_wp2
    go_ret
    exact ⟨rfl, Below.refl _ _⟩
  · have h8' : (rs.length : Int) ≤ 8 := by omega
    have hv : Tm.rulesErr rs = Tm.firstRule rs := by unfold Tm.rulesErr; rw [if_neg h8]
    rw [hv]
    clear hv h8
    go_enter Try.func13, Try.ntmps13
    go_wp2
    go_loopw [3] (fun v wr => ∃ k : Nat, k ≤ rs.length ∧ v = .int .i64 (k : Int) ∧ Hid (Tm.firstRule rs = Tm.firstRule (rs.drop k)) ∧ Below w.heap.size w wr) (fun v _ => rs.length - (intOf v).toNat)
    case atStart => exact ⟨0, Nat.zero_le _, rfl, hid rfl, Below.refl _ _⟩
    case round =>
      obtain ⟨k, hk, rfl, hst, hB⟩ := hrel
      obtain ⟨u0, rfl⟩ : ∃ u0, u0 = wr := ⟨wr, rfl⟩
      by_cases hlt : k < rs.length
      · have hlt' : (k : Int) < (rs.length : Int) := by omega
        obtain ⟨b, off, rfl, hb, aL, cL, aR, cR, h1, h2, h3, h4, _⟩ := (hI.below hB) k hlt
        have hs1 := hid (Tm.firstRule_step hlt)
        have hs2 := hid (Tm.firstRule_at hlt)
        obtain ⟨L, hL⟩ : ∃ L, (rs[k]?.getD ([], [])).1 = L := ⟨_, rfl⟩
        obtain ⟨R, hR⟩ : ∃ R, (rs[k]?.getD ([], [])).2 = R := ⟨_, rfl⟩
        rw [hL] at h1 h3 hs1 hs2
        rw [hR] at h2 h4 hs1 hs2
        have hBa : Below u0.heap.size u0 (u0.alloc (.cells #[.slice aL L.length cL, .slice aR R.length cR] 39)) := (Below.refl _ u0).alloc (Nat.le_refl _) _
        have hblk := World.alloc_heap_new u0 (.cells #[.slice aL L.length cL, .slice aR R.length cR] 39)
        have d0 : (u0.alloc (.cells #[.slice aL L.length cL, .slice aR R.length cR] 39)).cell? ⟨u0.heap.size, 0, none⟩ = some (.slice aL L.length cL) := by rw [cell_at hblk]; rfl
        have d1 : (u0.alloc (.cells #[.slice aL L.length cL, .slice aR R.length cR] 39)).cell? ⟨u0.heap.size, 1, none⟩ = some (.slice aR R.length cR) := by rw [cell_at hblk]; rfl
        have hltB : u0.heap.size < (u0.alloc (.cells #[.slice aL L.length cL, .slice aR R.length cR] 39)).heap.size := by simp
        have iL := ((h3.mono hB.size).below hBa).mono hBa.size
        have iR := ((h4.mono hB.size).below hBa).mono hBa.size
        have hBw := hB.trans (hBa.mono hB.size)
        have C1 := hid (twoErrors_any L R aL aR cL cR (u0.alloc (.cells #[.slice aL L.length cL, .slice aR R.length cR] 39)) iL iR)
        clear hL hR h3 h4 hI hblk
        by_cases hf : Tm.fitErr L R = 0
        · obtain ⟨k1, k2⟩ := Tm.fitErr_ok hf
          have lL := Tm.err_len k1
          have lR := Tm.err_len k2
          have pL := Tm.err_pos k1
          have pL' : (0 : Int) < (L.length : Int) := by omega
          have lR' : (R.length : Int) ≤ 30 := by omega
          have hre := ruleErr_fit0 hf
          rw [hf] at C1
          have C3 := hid (refOwn_any L aL cL (u0.alloc (.cells #[.slice aL L.length cL, .slice aR R.length cR] 39)) iL (by unfold maxLen; omega))
          have C4 := hid (refOwn_any R aR cR (u0.alloc (.cells #[.slice aL L.length cL, .slice aR R.length cR] 39)) iR (by unfold maxLen; omega))
          obtain ⟨bl, ol, rfl, _, cl⟩ := iL.at pL
          have c0 := cl 0 pL
          simp only [Nat.add_zero] at c0
          clear cl hf k1 k2
          have HL := hid (fun W (hW : Below (u0.alloc (.cells #[.slice (some ⟨bl, ol, none⟩) L.length cL, .slice aR R.length cR] 39)).heap.size (u0.alloc (.cells #[.slice (some ⟨bl, ol, none⟩) L.length cL, .slice aR R.length cR] 39)) W) => (iL.below hW).mono hW.size)
          have HR := hid (fun W (hW : Below (u0.alloc (.cells #[.slice (some ⟨bl, ol, none⟩) L.length cL, .slice aR R.length cR] 39)).heap.size (u0.alloc (.cells #[.slice (some ⟨bl, ol, none⟩) L.length cL, .slice aR R.length cR] 39)) W) => (iR.below hW).mono hW.size)
          have D0 := hid (fun W (hW : Below (u0.alloc (.cells #[.slice (some ⟨bl, ol, none⟩) L.length cL, .slice aR R.length cR] 39)).heap.size (u0.alloc (.cells #[.slice (some ⟨bl, ol, none⟩) L.length cL, .slice aR R.length cR] 39)) W) => (hW.cell (p := ⟨u0.heap.size, 0, none⟩) hltB).trans d0)
          have D1 := hid (fun W (hW : Below (u0.alloc (.cells #[.slice (some ⟨bl, ol, none⟩) L.length cL, .slice aR R.length cR] 39)).heap.size (u0.alloc (.cells #[.slice (some ⟨bl, ol, none⟩) L.length cL, .slice aR R.length cR] 39)) W) => (hW.cell (p := ⟨u0.heap.size, 1, none⟩) hltB).trans d1)
          clear iL iR
          cases q1 : L.any foreignB with
          | true =>
            rw [q1, if_pos rfl] at hre
            rw [q1] at C3
            have Hs := hid ((hs2.out (by rw [hre]; decide)).trans hre)
            clear q1 hre hs1 hs2 C4
            go_wp2_with (first
              | (go_at_call 41; refine C1.out.mono ?_; clear C1; rintro e w2 ⟨rfl, rfl⟩)
              | (go_at_call 42; refine C3.out.mono ?_; clear C3; rintro e w2 ⟨rfl, rfl⟩))
            go_ret
            exact ⟨ret_int (hst.out.trans Hs.out).symm, hBw⟩
          | false =>
            rw [q1, if_neg (by decide)] at hre
            rw [q1] at C3
            cases q2 : R.any foreignB with
            | true =>
              rw [q2, if_pos rfl] at hre
              rw [q2] at C4
              have Hs := hid ((hs2.out (by rw [hre]; decide)).trans hre)
              clear q1 q2 hre hs1 hs2
              go_wp2_with (first
                | (go_at_call 41; refine C1.out.mono ?_; clear C1; rintro e w2 ⟨rfl, rfl⟩)
                | (go_at_call_of 42 (Value.slice (some ⟨bl, ol, none⟩) L.length cL); refine C3.out.mono ?_; clear C3; rintro e w2 ⟨rfl, rfl⟩)
                | (go_at_call_of 42 (Value.slice aR R.length cR); refine C4.out.mono ?_; clear C4; rintro e w2 ⟨rfl, rfl⟩))
              go_ret
              exact ⟨ret_int (hst.out.trans Hs.out).symm, hBw⟩
            | false =>
              rw [q2, if_neg (by decide)] at hre
              rw [q2] at C4
              clear q1 q2
              generalize L[0]?.getD 0 = s0 at *
              by_cases hs : s0 < 0
              · rw [if_pos hs] at hre
                have Hs := hid ((hs2.out (by rw [hre]; decide)).trans hre)
                clear hre hs1 hs2
                go_wp2_with (first
                  | (go_at_call 41; refine C1.out.mono ?_; clear C1; rintro e w2 ⟨rfl, rfl⟩)
                  | (go_at_call_of 42 (Value.slice (some ⟨bl, ol, none⟩) L.length cL); refine C3.out.mono ?_; clear C3; rintro e w2 ⟨rfl, rfl⟩)
                  | (go_at_call_of 42 (Value.slice aR R.length cR); refine C4.out.mono ?_; clear C4; rintro e w2 ⟨rfl, rfl⟩))
                go_ret
                exact ⟨ret_int (hst.out.trans Hs.out).symm, hBw⟩
              · rw [if_neg hs] at hre
                have hs' : decide (s0 < 0) = false := by simpa using hs
                have Hre := hid hre
                clear hre hs
                go_wp2_with (first
                  | (go_at_call 41; refine C1.out.mono ?_; clear C1; rintro e w2 ⟨rfl, rfl⟩)
                  | (go_at_call_of 42 (Value.slice (some ⟨bl, ol, none⟩) L.length cL); refine C3.out.mono ?_; clear C3; rintro e w2 ⟨rfl, rfl⟩)
                  | (go_at_call_of 42 (Value.slice aR R.length cR); refine C4.out.mono ?_; clear C4; rintro e w2 ⟨rfl, rfl⟩))
                go_loopw [6] (fun v W => ∃ m : Nat, m ≤ R.length ∧ v = .int .i64 (m : Int) ∧ Hid ((R.take m).any (freeIn L) = false) ∧ Below (u0.alloc (.cells #[.slice (some ⟨bl, ol, none⟩) L.length cL, .slice aR R.length cR] 39)).heap.size (u0.alloc (.cells #[.slice (some ⟨bl, ol, none⟩) L.length cL, .slice aR R.length cR] 39)) W) (fun v _ => R.length - (intOf v).toNat)
                case atStart => exact ⟨0, Nat.zero_le _, rfl, hid (by simp), Below.refl _ _⟩
                case round =>
                  obtain ⟨m, hm, rfl, hfr, hBm⟩ := hrel
                  have d0 := D0.out wr hBm
                  have d1 := D1.out wr hBm
                  by_cases hm2 : m < R.length
                  · have hm2' : (m : Int) < (R.length : Int) := by omega
                    obtain ⟨br, or', eR, _, cr⟩ := (HR.out wr hBm) m hm2
                    rw [eR] at d1
                    have hsn := hid (any_snoc (p := freeIn L) hm2 hfr.out)
                    have hye := hid (any_yes (p := freeIn L) hm2)
                    have hSt := hid (fun W (hW : Below (u0.alloc (.cells #[.slice (some ⟨bl, ol, none⟩) L.length cL, .slice aR R.length cR] 39)).heap.size (u0.alloc (.cells #[.slice (some ⟨bl, ol, none⟩) L.length cL, .slice aR R.length cR] 39)) W) => refStands_any L (R[m]?.getD 0) (some ⟨bl, ol, none⟩) cL W (HL.out W hW) (by unfold maxLen; omega))
                    generalize R[m]?.getD 0 = x at *
                    by_cases hx : x < 0
                    · cases hq : Tm.hasB L x with
                      | true =>
                        rw [hq] at hSt
                        have hz : freeIn L x = false := by unfold freeIn; rw [hq]; simp
                        have Hn := hid (hsn.out hz)
                        clear hz hq hsn hye
                        go_wp2_with fail
                        go_quiet ((go_at_call 43; exact Calls.quiet_of_same (hSt.out _ (below_drewO hBm _))))
                        go_wp2
                        go_roundw
                        case rel => exact ⟨m + 1, by omega, by go_num, hid Hn.out, below_drewO hBm _⟩
                        case measure => simp [intOf]; omega
                      | false =>
                        rw [hq] at hSt
                        have hz : freeIn L x = true := by unfold freeIn; rw [hq, decide_eq_true hx]; rfl
                        have hre := Hre.out
                        rw [hye.out hz, if_pos rfl] at hre
                        have Hs := hid ((hs2.out (by rw [hre]; decide)).trans hre)
                        clear hz hq hsn hye hre
                        go_wp2_with fail
                        go_quiet ((go_at_call 43; exact Calls.quiet_of_same (hSt.out _ (below_drewO hBm _))))
                        go_wp2
                        go_ret
                        exact ⟨ret_int (hst.out.trans Hs.out).symm, hBw.trans ((below_drewO hBm _).mono hBw.size)⟩
                    · have hx' : decide (x < 0) = false := by simpa using hx
                      have hz : freeIn L x = false := by unfold freeIn; rw [hx']; rfl
                      have Hn := hid (hsn.out hz)
                      clear hz hsn hye hx
                      go_wp2_with fail
                      go_quiet (fail)
                      go_wp2
                      go_roundw
                      case rel => exact ⟨m + 1, by omega, by go_num, hid Hn.out, below_drewO hBm _⟩
                      case measure => simp [intOf]; omega
                  · obtain rfl : m = R.length := by omega
                    rw [List.take_length] at hfr
                    have hre := Hre.out
                    rw [hfr.out, if_neg (by decide)] at hre
                    have Hs := hid (hs1.out hre)
                    clear hre
                    go_wp2
                    go_roundw
                    case rel => exact ⟨k + 1, by omega, by go_num, hid (hst.out.trans Hs.out), hBw.trans (hBm.mono hBw.size)⟩
                    case measure => simp [intOf]; omega
        · have hn : (Tm.fitErr L R != 0) = true := by simpa using hf
          have hre := ruleErr_fit hf
          have Hs := hid ((hs2.out (by rw [hre]; exact hf)).trans hre)
          clear hf hre hs1 hs2
          generalize Tm.fitErr L R = q at *
          go_wp2_with (first
            | (go_at_call 41; refine C1.out.mono ?_; clear C1; rintro e w2 ⟨rfl, rfl⟩))
          go_ret
          exact ⟨ret_int (hst.out.trans Hs.out).symm, hBw⟩
      · obtain rfl : k = rs.length := by omega
        go_wp2
        go_ret
        exact ⟨by rw [hst.out, List.drop_length]; rfl, hB⟩

end Go.Proofs.Ytgeknojpcjadkaa

namespace Go.Proofs.Ytgeknojpcjadkaa
open Go.Proofs Go.RowKit Go.Shelf Go.Maps

theorem Tm.fit_pr (a b : List Int) : Tm.fitErr a b = Tm.pairErr a b := by
  unfold Tm.pairErr
  by_cases h : Tm.err a = 0
  · rw [if_pos h]
    simp only [Tm.fitErr, Tm.firstErr, h, if_true]
    by_cases h2 : Tm.err b = 0 <;> simp [h2]
  · rw [if_neg h]
    simp [Tm.fitErr, Tm.firstErr, h]

set_option maxRecDepth 100000 in
set_option maxHeartbeats 1000000 in
theorem eqsError_any (ps : PairL) (a : Option Addr) (cap : Nat) (w : World) (hP : RulesAt w.heap.size w a ps) :
    Calls Try.prog 29 #[.slice a ps.length cap] w fun e w' => e = .returned (.int .i64 (Tm.eqsErr ps)) ∧ Below w.heap.size w w' := by
  by_cases h : 40 < ps.length
  · have h' : (40 : Int) < (ps.length : Int) := by omega
    have hv : Tm.eqsErr ps = 2 := by unfold Tm.eqsErr; rw [if_pos h]
    rw [hv]
    clear hv hP h
    go_enter Try.func29, Try.ntmps29
    go_wp2
    go_ret
    exact ⟨rfl, Below.refl _ _⟩
  · have hn : decide ((40 : Int) < (ps.length : Int)) = false := by simp; omega
    have hle' : (ps.length : Int) ≤ 40 := by omega
    have hv : Tm.eqsErr ps = Tm.firstPair ps := by unfold Tm.eqsErr; rw [if_neg h]
    rw [hv]
    have HP := hid hP
    clear hP h hv
    go_enter Try.func29, Try.ntmps29
    go_wp2
    go_loopw [3] (fun i wr => ∃ k : Nat, k ≤ ps.length ∧ i = .int .i64 (k : Int) ∧ Hid (∀ j, j < k → Tm.pairErr (ps[j]?.getD ([], [])).1 (ps[j]?.getD ([], [])).2 = 0) ∧ Hid (Below w.heap.size w wr)) (fun i _ => ps.length - (intOf i).toNat)
    case atStart => exact ⟨0, Nat.zero_le _, rfl, (fun j hj => by omega), Below.refl _ _⟩
    case round =>
      obtain ⟨k, hk, rfl, hes, hB⟩ := hrel
      by_cases hlt : k < ps.length
      · have hkl : (k : Int) < (ps.length : Int) := by omega
        obtain ⟨b, off, rfl, hb, aL, cL, aR, cR, hc1, hc2, hI1, hI2, q1, q2, q3, q4⟩ := (HP.out.below hB.out) k hlt
        have hbad := hid (Tm.firstP_bad k hlt hes.out)
        have hgood : Hid (Tm.pairErr (ps[k]?.getD ([], [])).1 (ps[k]?.getD ([], [])).2 = 0 → ∀ j, j < k + 1 → Tm.pairErr (ps[j]?.getD ([], [])).1 (ps[j]?.getD ([], [])).2 = 0) := fun h j hj => by
          by_cases e : j = k
          · subst e; exact h
          · exact hes.out j (by omega)
        have hE := hid (fun n : Nat => twoErrors_any (ps[k]?.getD ([], [])).1 (ps[k]?.getD ([], [])).2 aL aR cL cR (wr.drewN n) (hI1.mono hB.out.size) (hI2.mono hB.out.size))
        rw [Tm.fit_pr] at hE
        clear hI1 hI2 q1 q2 q3 q4
        by_cases he : Tm.pairErr (ps[k]?.getD ([], [])).1 (ps[k]?.getD ([], [])).2 = 0
        · have hg := hid (hgood.out he)
          rw [he] at hE
          clear he hgood hbad
          generalize (ps[k]?.getD ([], [])).1.length = n1 at *
          generalize (ps[k]?.getD ([], [])).2.length = n2 at *
          go_wp2
          go_quiet ((go_at_call 41; exact Calls.quiet_of_same (hE.out _)))
          go_wp2
          go_roundw
          case rel => exact ⟨k + 1, by omega, by go_num, hg, below_drewN hB.out _⟩
          case measure => simp [intOf]; omega
        · have hf := hid (hbad.out he)
          have hne : (Tm.pairErr (ps[k]?.getD ([], [])).1 (ps[k]?.getD ([], [])).2 != 0) = true := by simpa using he
          clear he hgood hbad
          generalize (ps[k]?.getD ([], [])).1.length = n1 at *
          generalize (ps[k]?.getD ([], [])).2.length = n2 at *
          generalize Tm.pairErr (ps[k]?.getD ([], [])).1 (ps[k]?.getD ([], [])).2 = q at *
          go_wp2
          go_quiet ((go_at_call 41; exact Calls.quiet_of_same (hE.out _)))
          go_wp2
          go_ret
          exact ⟨ret_int hf.out.symm, below_drewN hB.out _⟩
      · obtain rfl : k = ps.length := by omega
        have hv := hid (Tm.firstP_all hes.out)
        go_wp2
        go_ret
        exact ⟨ret_int hv.out.symm, hB.out⟩

end Go.Proofs.Ytgeknojpcjadkaa
