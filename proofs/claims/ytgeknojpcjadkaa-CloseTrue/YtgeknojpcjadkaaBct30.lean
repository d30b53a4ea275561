/-
  hasplaw.closeBegun. · PLAIN MATHEMATICS: pairs hold wherever the rules do; how many there are; in which order their variables stand. · What a turn keeps: the worlds. · What a turn makes falls. · PLAIN MATHEMATICS of terms of any size as trees: each is a list of signs (flat), and each list of signs that is a term is one tree's. · PLAIN MATHEMATICS: the order on trees of any size: it stays under what variables become and in whatever they stand; and it ends: nothing goes down without an end. · PLAIN MATHEMATICS: steps on trees of any size, by rules; Newman's lemma; steps that part meet again if those do that lap over (the critical pair lemma).
-/
import Derived.Test.YtgeknojpcjadkaaBct29
import Derived.Test.YtgeknojpcjadkaaBct9
import Derived.Test.YtgeknojpcjadkaaBct5
namespace Go.Proofs.Ytgeknojpcjadkaa
open Go.Proofs Go.RowKit Go.Shelf Go.Maps

theorem laws_lit (w : World) : RulesAt ((allocs w [[4, 0, -1], [-1], [4, 2, -1, -1], [0], [4, 4, -1, -2, -3], [4, -1, 4, -2, -3]]).alloc (.cells #[.slice (some ⟨w.heap.size, 0, none⟩) 3 3, .slice (some ⟨w.heap.size + 1, 0, none⟩) 1 1, .slice (some ⟨w.heap.size + 1 + 1, 0, none⟩) 4 4, .slice (some ⟨w.heap.size + 1 + 1 + 1, 0, none⟩) 1 1, .slice (some ⟨w.heap.size + 1 + 1 + 1 + 1, 0, none⟩) 5 5, .slice (some ⟨w.heap.size + 1 + 1 + 1 + 1 + 1, 0, none⟩) 5 5] 42)).heap.size ((allocs w [[4, 0, -1], [-1], [4, 2, -1, -1], [0], [4, 4, -1, -2, -3], [4, -1, 4, -2, -3]]).alloc (.cells #[.slice (some ⟨w.heap.size, 0, none⟩) 3 3, .slice (some ⟨w.heap.size + 1, 0, none⟩) 1 1, .slice (some ⟨w.heap.size + 1 + 1, 0, none⟩) 4 4, .slice (some ⟨w.heap.size + 1 + 1 + 1, 0, none⟩) 1 1, .slice (some ⟨w.heap.size + 1 + 1 + 1 + 1, 0, none⟩) 5 5, .slice (some ⟨w.heap.size + 1 + 1 + 1 + 1 + 1, 0, none⟩) 5 5] 42)) (some ⟨w.heap.size + 1 + 1 + 1 + 1 + 1 + 1, 0, none⟩) groupL ∧ Below w.heap.size w ((allocs w [[4, 0, -1], [-1], [4, 2, -1, -1], [0], [4, 4, -1, -2, -3], [4, -1, 4, -2, -3]]).alloc (.cells #[.slice (some ⟨w.heap.size, 0, none⟩) 3 3, .slice (some ⟨w.heap.size + 1, 0, none⟩) 1 1, .slice (some ⟨w.heap.size + 1 + 1, 0, none⟩) 4 4, .slice (some ⟨w.heap.size + 1 + 1 + 1, 0, none⟩) 1 1, .slice (some ⟨w.heap.size + 1 + 1 + 1 + 1, 0, none⟩) 5 5, .slice (some ⟨w.heap.size + 1 + 1 + 1 + 1 + 1, 0, none⟩) 5 5] 42)) := by
  have hs := allocs_size [[4, 0, -1], [-1], [4, 2, -1, -1], [0], [4, 4, -1, -2, -3], [4, -1, 4, -2, -3]] w
  have hb := allocs_below [[4, 0, -1], [-1], [4, 2, -1, -1], [0], [4, 4, -1, -2, -3], [4, -1, 4, -2, -3]] w
  have hi := allocs_ints [[4, 0, -1], [-1], [4, 2, -1, -1], [0], [4, 4, -1, -2, -3], [4, -1, 4, -2, -3]] w
  rw [show ([[4, 0, -1], [-1], [4, 2, -1, -1], [0], [4, 4, -1, -2, -3], [4, -1, 4, -2, -3]] : List (List Int)).length = 6 from rfl] at hs hi
  obtain ⟨W6, hW⟩ : ∃ W6, allocs w [[4, 0, -1], [-1], [4, 2, -1, -1], [0], [4, 4, -1, -2, -3], [4, -1, 4, -2, -3]] = W6 := ⟨_, rfl⟩
  rw [hW] at hs hb hi ⊢
  obtain ⟨C, hC⟩ : ∃ C : Array Value, #[.slice (some ⟨w.heap.size, 0, none⟩) 3 3, .slice (some ⟨w.heap.size + 1, 0, none⟩) 1 1, .slice (some ⟨w.heap.size + 1 + 1, 0, none⟩) 4 4, .slice (some ⟨w.heap.size + 1 + 1 + 1, 0, none⟩) 1 1, .slice (some ⟨w.heap.size + 1 + 1 + 1 + 1, 0, none⟩) 5 5, .slice (some ⟨w.heap.size + 1 + 1 + 1 + 1 + 1, 0, none⟩) 5 5] = C := ⟨_, rfl⟩
  rw [hC]
  have blk := World.alloc_heap_new W6 (.cells C 42)
  have hb6 : Below W6.heap.size W6 (W6.alloc (.cells C 42)) := (Below.refl _ W6).alloc (Nat.le_refl _) _
  rw [hs] at blk hb6
  rw [World.size_alloc, hs]
  refine ⟨rulesAt_of blk (by omega) fun k hk => ?_, hb.trans (hb6.mono (by omega))⟩
  have hk' : k < 3 := hk
  have hx := fun i hi6 => ((hi i hi6).below hb6).mono (show w.heap.size + 6 ≤ w.heap.size + 6 + 1 by omega)
  subst hC
  match k, hk' with
  | 0, _ => exact ⟨_, _, rfl, rfl, hx 0 (by simp), hx 1 (by simp), by decide, by decide⟩
  | 1, _ => exact ⟨_, _, rfl, rfl, hx 2 (by simp), hx 3 (by simp), by decide, by decide⟩
  | 2, _ => exact ⟨_, _, rfl, rfl, hx 4 (by simp), hx 5 (by simp), by decide, by decide⟩
theorem gE_lit (w : World) : RulesAt ((allocs w [[2, 2, -1], [-1], [2, 0], [1]]).alloc (.cells #[.slice (some ⟨w.heap.size, 0, none⟩) 3 3, .slice (some ⟨w.heap.size + 1, 0, none⟩) 1 1, .slice (some ⟨w.heap.size + 1 + 1, 0, none⟩) 2 2, .slice (some ⟨w.heap.size + 1 + 1 + 1, 0, none⟩) 1 1] 42)).heap.size ((allocs w [[2, 2, -1], [-1], [2, 0], [1]]).alloc (.cells #[.slice (some ⟨w.heap.size, 0, none⟩) 3 3, .slice (some ⟨w.heap.size + 1, 0, none⟩) 1 1, .slice (some ⟨w.heap.size + 1 + 1, 0, none⟩) 2 2, .slice (some ⟨w.heap.size + 1 + 1 + 1, 0, none⟩) 1 1] 42)) (some ⟨w.heap.size + 1 + 1 + 1 + 1, 0, none⟩) gE ∧ Below w.heap.size w ((allocs w [[2, 2, -1], [-1], [2, 0], [1]]).alloc (.cells #[.slice (some ⟨w.heap.size, 0, none⟩) 3 3, .slice (some ⟨w.heap.size + 1, 0, none⟩) 1 1, .slice (some ⟨w.heap.size + 1 + 1, 0, none⟩) 2 2, .slice (some ⟨w.heap.size + 1 + 1 + 1, 0, none⟩) 1 1] 42)) := by
  have hs := allocs_size [[2, 2, -1], [-1], [2, 0], [1]] w
  have hb := allocs_below [[2, 2, -1], [-1], [2, 0], [1]] w
  have hi := allocs_ints [[2, 2, -1], [-1], [2, 0], [1]] w
  rw [show ([[2, 2, -1], [-1], [2, 0], [1]] : List (List Int)).length = 4 from rfl] at hs hi
  obtain ⟨W6, hW⟩ : ∃ W6, allocs w [[2, 2, -1], [-1], [2, 0], [1]] = W6 := ⟨_, rfl⟩
  rw [hW] at hs hb hi ⊢
  obtain ⟨C, hC⟩ : ∃ C : Array Value, #[.slice (some ⟨w.heap.size, 0, none⟩) 3 3, .slice (some ⟨w.heap.size + 1, 0, none⟩) 1 1, .slice (some ⟨w.heap.size + 1 + 1, 0, none⟩) 2 2, .slice (some ⟨w.heap.size + 1 + 1 + 1, 0, none⟩) 1 1] = C := ⟨_, rfl⟩
  rw [hC]
  have blk := World.alloc_heap_new W6 (.cells C 42)
  have hb6 : Below W6.heap.size W6 (W6.alloc (.cells C 42)) := (Below.refl _ W6).alloc (Nat.le_refl _) _
  rw [hs] at blk hb6
  rw [World.size_alloc, hs]
  refine ⟨rulesAt_of blk (by omega) fun k hk => ?_, hb.trans (hb6.mono (by omega))⟩
  have hk' : k < 2 := hk
  have hx := fun i hi6 => ((hi i hi6).below hb6).mono (show w.heap.size + 4 ≤ w.heap.size + 4 + 1 by omega)
  subst hC
  match k, hk' with
  | 0, _ => exact ⟨_, _, rfl, rfl, hx 0 (by simp), hx 1 (by simp), by decide, by decide⟩
  | 1, _ => exact ⟨_, _, rfl, rfl, hx 2 (by simp), hx 3 (by simp), by decide, by decide⟩
theorem gF_lit (w : World) : RulesAt ((allocs w [[4, -1, -2], [4, -2, -1]]).alloc (.cells #[.slice (some ⟨w.heap.size, 0, none⟩) 3 3, .slice (some ⟨w.heap.size + 1, 0, none⟩) 3 3] 42)).heap.size ((allocs w [[4, -1, -2], [4, -2, -1]]).alloc (.cells #[.slice (some ⟨w.heap.size, 0, none⟩) 3 3, .slice (some ⟨w.heap.size + 1, 0, none⟩) 3 3] 42)) (some ⟨w.heap.size + 1 + 1, 0, none⟩) gF ∧ Below w.heap.size w ((allocs w [[4, -1, -2], [4, -2, -1]]).alloc (.cells #[.slice (some ⟨w.heap.size, 0, none⟩) 3 3, .slice (some ⟨w.heap.size + 1, 0, none⟩) 3 3] 42)) := by
  have hs := allocs_size [[4, -1, -2], [4, -2, -1]] w
  have hb := allocs_below [[4, -1, -2], [4, -2, -1]] w
  have hi := allocs_ints [[4, -1, -2], [4, -2, -1]] w
  rw [show ([[4, -1, -2], [4, -2, -1]] : List (List Int)).length = 2 from rfl] at hs hi
  obtain ⟨W6, hW⟩ : ∃ W6, allocs w [[4, -1, -2], [4, -2, -1]] = W6 := ⟨_, rfl⟩
  rw [hW] at hs hb hi ⊢
  obtain ⟨C, hC⟩ : ∃ C : Array Value, #[.slice (some ⟨w.heap.size, 0, none⟩) 3 3, .slice (some ⟨w.heap.size + 1, 0, none⟩) 3 3] = C := ⟨_, rfl⟩
  rw [hC]
  have blk := World.alloc_heap_new W6 (.cells C 42)
  have hb6 : Below W6.heap.size W6 (W6.alloc (.cells C 42)) := (Below.refl _ W6).alloc (Nat.le_refl _) _
  rw [hs] at blk hb6
  rw [World.size_alloc, hs]
  refine ⟨rulesAt_of blk (by omega) fun k hk => ?_, hb.trans (hb6.mono (by omega))⟩
  have hk' : k < 1 := hk
  have hx := fun i hi6 => ((hi i hi6).below hb6).mono (show w.heap.size + 2 ≤ w.heap.size + 2 + 1 by omega)
  subst hC
  match k, hk' with
  | 0, _ => exact ⟨_, _, rfl, rfl, hx 0 (by simp), hx 1 (by simp), by decide, by decide⟩

set_option maxRecDepth 100000 in
set_option maxHeartbeats 1000000 in
theorem laws_any (w : World) : Calls Try.prog 62 #[] w fun e w' => ∃ a, e = .returned (.slice a 3 3) ∧ RulesAt w'.heap.size w' a groupL ∧ Below w.heap.size w w' := by
  have h := hid (laws_lit w)
  go_enter Try.func62, Try.ntmps62
  go_wp2
  go_ret
  exact ⟨_, rfl, h.out.1, h.out.2⟩

theorem g_turn1 (ar a : Option Addr) (w : World) (hR : Ints w.heap.size w ar rk6) (hP : RulesAt w.heap.size w a groupL) : Calls Try.prog 30 #[.slice ar 6 6, .slice none 0 0, .slice a 3 3] w fun e w' => ∃ b off c a' c' aL cL, e = .returned (.tuple #[.slice (some ⟨b, off, none⟩) 1 c, .slice a' 2 c', .int .i64 0]) ∧ w'.cell? ⟨b, off, none⟩ = some (.slice aL 3 cL) ∧ Ints w'.heap.size w' aL [4, 0, -1] ∧ b < w'.heap.size ∧ Below w.heap.size w w' := by
  refine (Turn_any rk6 [] groupL ar none a 6 0 3 w hR (fun k hk => by simp at hk) hP (by decide) (by unfold maxLen; omega)).mono ?_
  rintro e w' ⟨er, rs', ps', v, u, hs, rfl, n1, n2, b2⟩
  obtain ⟨rfl, rfl, rfl⟩ := Tm.lawsTurn hs
  obtain ⟨a1, c1, rfl, r1, _, _⟩ := n1.at
  obtain ⟨a2, c2, rfl, r2, _, _⟩ := n2.at
  obtain ⟨b, off, rfl, hb, aL, cL, aR, cR, k1, _, i1, _⟩ := r1 0 (by decide)
  exact ⟨b, off, c1, a2, c2, aL, cL, rfl, k1, i1, hb, b2⟩
theorem g_turn2 (ar : Option Addr) (w : World) (hR : Ints w.heap.size w ar rk6) : Calls Try.prog 30 #[.slice ar 6 6, .slice none 0 0, .slice none 0 0] w fun e w' => ∃ v u, e = .returned (.tuple #[v, u, .int .i64 5]) ∧ Below w.heap.size w w' := by
  refine (Turn_any rk6 [] [] ar none none 6 0 0 w hR (fun k hk => by simp at hk) (fun k hk => by simp at hk) (by decide) (by unfold maxLen; omega)).mono ?_
  rintro e w' ⟨er, rs', ps', v, u, hs, rfl, n1, n2, b2⟩
  obtain ⟨rfl, _, _⟩ := Tm.badTurn (by decide +kernel) hs
  exact ⟨v, u, by rw [show Tm.turnErr rk6 [] [] = 5 from by decide +kernel], b2⟩
theorem g_turn3 (a : Option Addr) (w : World) (hP : RulesAt w.heap.size w a groupL) : Calls Try.prog 30 #[.slice none 0 0, .slice none 0 0, .slice a 3 3] w fun e w' => ∃ v u, e = .returned (.tuple #[v, u, .int .i64 1]) ∧ Below w.heap.size w w' := by
  refine (Turn_any [] [] groupL none none a 0 0 3 w (Ints.nil _ _ _) (fun k hk => by simp at hk) hP (by decide) (by unfold maxLen; omega)).mono ?_
  rintro e w' ⟨er, rs', ps', v, u, hs, rfl, n1, n2, b2⟩
  obtain ⟨rfl, _, _⟩ := Tm.badTurn (by decide +kernel) hs
  exact ⟨v, u, by rw [show Tm.turnErr [] [] groupL = 1 from by decide +kernel], b2⟩
/-- Three rules that lie somewhere. -/
def Three (W : World) (b off : Nat) : Prop := ∃ x0 c0 x1 c1 x2 c2 x3 c3 x4 c4, W.cell? ⟨b, off, none⟩ = some (.slice x0 3 c0) ∧ W.cell? ⟨b, off + 2, none⟩ = some (.slice x1 2 c1) ∧ W.cell? ⟨b, off + 3, none⟩ = some (.slice x2 1 c2) ∧ W.cell? ⟨b, off + 4, none⟩ = some (.slice x3 2 c3) ∧ W.cell? ⟨b, off + 5, none⟩ = some (.slice x4 1 c4) ∧
  Ints W.heap.size W x0 [2, 2, -1] ∧ Ints W.heap.size W x1 [2, 0] ∧ Ints W.heap.size W x2 [1] ∧ Ints W.heap.size W x3 [2, 1] ∧ Ints W.heap.size W x4 [0]
theorem three_of {W : World} {a : Option Addr} (h : RulesAt W.heap.size W a gR3) : ∃ b off, a = some ⟨b, off, none⟩ ∧ b < W.heap.size ∧ Three W b off := by
  obtain ⟨b, off, rfl, hb, x0, c0, _, _, k0, _, i0, _⟩ := h 0 (by decide)
  obtain ⟨b', off', e1, _, x1, c1, x2, c2, k1, k2, i1, i2, _⟩ := h 1 (by decide)
  obtain ⟨b'', off'', e2, _, x3, c3, x4, c4, k3, k4, i3, i4, _⟩ := h 2 (by decide)
  cases e1
  cases e2
  exact ⟨b, off, rfl, hb, x0, c0, x1, c1, x2, c2, x3, c3, x4, c4, k0, k1, k2, k3, k4, i0, i1, i2, i3, i4⟩
theorem Three.below {W W' : World} {b off : Nat} (h : Three W b off) (hb : b < W.heap.size) (hB : Below W.heap.size W W') : Three W' b off := by
  obtain ⟨x0, c0, x1, c1, x2, c2, x3, c3, x4, c4, k0, k1, k2, k3, k4, i0, i1, i2, i3, i4⟩ := h
  exact ⟨x0, c0, x1, c1, x2, c2, x3, c3, x4, c4, (hB.cell (p := ⟨b, off, none⟩) hb).trans k0, (hB.cell (p := ⟨b, off + 2, none⟩) hb).trans k1, (hB.cell (p := ⟨b, off + 3, none⟩) hb).trans k2, (hB.cell (p := ⟨b, off + 4, none⟩) hb).trans k3, (hB.cell (p := ⟨b, off + 5, none⟩) hb).trans k4, (i0.below hB).mono hB.size, (i1.below hB).mono hB.size, (i2.below hB).mono hB.size, (i3.below hB).mono hB.size, (i4.below hB).mono hB.size⟩
theorem g_run1 (ar a : Option Addr) (w : World) (hR : Ints w.heap.size w ar rk6) (hP : RulesAt w.heap.size w a gE) : Calls Try.prog 27 #[.slice ar 6 6, .slice a 2 2] w fun e w' => ∃ b off c, e = .returned (.tuple #[.slice (some ⟨b, off, none⟩) 3 c, .int .i64 5, .int .i64 0]) ∧ b < w'.heap.size ∧ Three w' b off ∧ Below w.heap.size w w' := by
  refine (Run_any rk6 gE ar a 6 2 w hR hP (by decide) (by unfold maxLen; omega)).mono ?_
  rintro e w' ⟨er, rs, n, al, cl, hs, rfl, r1, _, _, b2⟩
  obtain ⟨rfl, rfl, rfl⟩ := Tm.gRun hs
  obtain ⟨b, off, rfl, hb, h3⟩ := three_of r1
  exact ⟨b, off, cl, rfl, hb, h3, b2⟩
theorem g_run2 (ar a : Option Addr) (w : World) (hR : Ints w.heap.size w ar rk6) (hP : RulesAt w.heap.size w a gF) : Calls Try.prog 27 #[.slice ar 6 6, .slice a 1 1] w fun e w' => ∃ v, e = .returned (.tuple #[v, .int .i64 0, .int .i64 6]) ∧ Below w.heap.size w w' := by
  refine (Run_any rk6 gF ar a 6 1 w hR hP (by decide) (by unfold maxLen; omega)).mono ?_
  rintro e w' ⟨er, rs, n, al, cl, hs, rfl, r1, _, _, b2⟩
  obtain ⟨rfl, rfl, rfl⟩ := Tm.fRun hs
  exact ⟨_, rfl, b2⟩

set_option maxRecDepth 100000 in
set_option maxHeartbeats 4000000 in
theorem closeBegun_any (w : World) : Calls Try.prog 28 #[] w fun e w' => e = .returned (.bool true) ∧ Below w.heap.size w w' := by
  have l1 := hid gE_lit
  have l2 := hid gF_lit
  have s0 := hid (fun w a c hI => g_same [4, 0, -1] [4, 0, -1] 3 3 c a w rfl rfl (by simp) hI (by simp [sameB]))
  have s1 := hid (fun w a c hI => g_same [2, 2, -1] [2, 2, -1] 3 3 c a w rfl rfl (by simp) hI (by simp [sameB]))
  have s2 := hid (fun w a c hI => g_same [2, 0] [2, 0] 2 2 c a w rfl rfl (by simp) hI (by simp [sameB]))
  have s3 := hid (fun w a c hI => g_same [1] [1] 1 1 c a w rfl rfl (by simp) hI (by simp [sameB]))
  have s4 := hid (fun w a c hI => g_same [2, 1] [2, 1] 2 2 c a w rfl rfl (by simp) hI (by simp [sameB]))
  have s5 := hid (fun w a c hI => g_same [0] [0] 1 1 c a w rfl rfl (by simp) hI (by simp [sameB]))
  simp only [List.map_cons, List.map_nil, allocs] at s0 s1 s2 s3 s4 s5 l1 l2
  go_enter Try.func28, Try.ntmps28
  go_wp2_with fail
  refine (rank_any _).mono ?_
  rintro e w1 ⟨a1, rfl, hr1, b1⟩
  go_wp2_with fail
  refine (laws_any _).mono ?_
  rintro e w2 ⟨a2, rfl, hg2, b2⟩
  go_wp2_with fail
  refine (g_turn1 a1 a2 w2 ((hr1.below b2).mono b2.size) hg2).mono ?_
  rintro e w3 ⟨b, off, c, a', c', aL, cL, rfl, k3, i3, hb3, b3⟩
  have B2 := b1.trans (b2.mono b1.size)
  have B3 := B2.trans (b3.mono B2.size)
  clear hr1 hg2 b1 b2 b3 B2
  go_wp2_with fail
  refine (rank_any _).mono ?_
  rintro e w4 ⟨a4, rfl, hr4, b4⟩
  have L1 := hid (l1.out w4)
  have Q4 := hid (b4.trans (L1.out.2.mono b4.size))
  clear l1
  go_wp2_with fail
  refine (g_run1 a4 _ _ ((hr4.below L1.out.2).mono L1.out.2.size) L1.out.1).mono ?_
  rintro e w5 ⟨d, od, cd, rfl, hd5, h5, b5⟩
  have Q5 := hid (Q4.out.trans (b5.mono Q4.out.size))
  have B5 := B3.trans (Q5.out.mono B3.size)
  have K5 : w5.cell? ⟨b, off, none⟩ = some (.slice aL 3 cL) := (Q5.out.cell (p := ⟨b, off, none⟩) hb3).trans k3
  have I5 := (i3.below Q5.out).mono Q5.out.size
  have hb5 := Nat.lt_of_lt_of_le hb3 Q5.out.size
  clear hr4 L1 b4 b5 Q4 Q5 k3 i3 hb3 B3
  go_wp2_with fail
  refine (rank_any _).mono ?_
  rintro e w6 ⟨a6, rfl, hr6, b6⟩
  go_wp2_with fail
  refine (g_turn2 a6 w6 hr6).mono ?_
  rintro e w7 ⟨v7, u7, rfl, b7⟩
  have Q7 := hid (b6.trans (b7.mono b6.size))
  have B7 := B5.trans (Q7.out.mono B5.size)
  have K7 : w7.cell? ⟨b, off, none⟩ = some (.slice aL 3 cL) := (Q7.out.cell (p := ⟨b, off, none⟩) hb5).trans K5
  have I7 := (I5.below Q7.out).mono Q7.out.size
  have h7 := h5.below hd5 Q7.out
  have hb7 := Nat.lt_of_lt_of_le hb5 Q7.out.size
  have hd7 := Nat.lt_of_lt_of_le hd5 Q7.out.size
  clear hr6 b6 b7 Q7 K5 I5 h5 hb5 hd5 B5
  go_wp2_with fail
  refine (rank_any _).mono ?_
  rintro e w8 ⟨a8, rfl, hr8, b8⟩
  have L2 := hid (l2.out w8)
  have Q8 := hid (b8.trans (L2.out.2.mono b8.size))
  clear l2
  go_wp2_with fail
  refine (g_run2 a8 _ _ ((hr8.below L2.out.2).mono L2.out.2.size) L2.out.1).mono ?_
  rintro e w9 ⟨v9, rfl, b9⟩
  have Q9 := hid (Q8.out.trans (b9.mono Q8.out.size))
  have B9 := B7.trans (Q9.out.mono B7.size)
  have K9 : w9.cell? ⟨b, off, none⟩ = some (.slice aL 3 cL) := (Q9.out.cell (p := ⟨b, off, none⟩) hb7).trans K7
  have I9 := (I7.below Q9.out).mono Q9.out.size
  have h9 := h7.below hd7 Q9.out
  have hb9 := Nat.lt_of_lt_of_le hb7 Q9.out.size
  have hd9 := Nat.lt_of_lt_of_le hd7 Q9.out.size
  clear hr8 b8 b9 Q8 Q9 L2 K7 I7 h7 hb7 hd7 B7
  go_wp2_with fail
  refine (laws_any _).mono ?_
  rintro e wa ⟨aa, rfl, hga, ba⟩
  go_wp2_with fail
  refine (g_turn3 aa wa hga).mono ?_
  rintro e wb ⟨vb, ub, rfl, bb⟩
  have Qb := hid (ba.trans (bb.mono ba.size))
  have Bb := B9.trans (Qb.out.mono B9.size)
  have Kb : wb.cell? ⟨b, off, none⟩ = some (.slice aL 3 cL) := (Qb.out.cell (p := ⟨b, off, none⟩) hb9).trans K9
  have Ib := (I9.below Qb.out).mono Qb.out.size
  have hb := h9.below hd9 Qb.out
  have hdb := Nat.lt_of_lt_of_le hd9 Qb.out.size
  clear hga ba bb Qb K9 I9 h9 hb9 hd9 B9
  go_wp2_with fail
  refine (s0.out wb aL cL Ib).mono ?_
  rintro e wc ⟨rfl, bc⟩
  have Bc := Bb.trans (bc.mono Bb.size)
  have hc := hb.below hdb bc
  clear Kb Ib hb hdb bc Bb s0
  obtain ⟨x0, c0, x1, c1, x2, c2, x3, c3, x4, c4, k0, k1, k2, k3, k4, i0, i1, i2, i3, i4⟩ := hc
  have hdc : d < wc.heap.size := by
    by_cases h : d < wc.heap.size
    · exact h
    · exact absurd k0 (by simp [World.cell?, Array.getElem?_eq_none (Nat.not_lt.mp h)])
  go_wp2_with fail
  refine (s1.out wc x0 c0 i0).mono ?_
  rintro e wd0 ⟨rfl, bq⟩
  have Bwd0 := Bc.trans (bq.mono Bc.size)
  replace k1 : wd0.cell? ⟨d, od + 2, none⟩ = some (.slice x1 2 c1) := (bq.cell (p := ⟨d, od + 2, none⟩) hdc).trans k1
  replace i1 := (i1.below bq).mono bq.size
  replace k2 : wd0.cell? ⟨d, od + 3, none⟩ = some (.slice x2 1 c2) := (bq.cell (p := ⟨d, od + 3, none⟩) hdc).trans k2
  replace i2 := (i2.below bq).mono bq.size
  replace k3 : wd0.cell? ⟨d, od + 4, none⟩ = some (.slice x3 2 c3) := (bq.cell (p := ⟨d, od + 4, none⟩) hdc).trans k3
  replace i3 := (i3.below bq).mono bq.size
  replace k4 : wd0.cell? ⟨d, od + 5, none⟩ = some (.slice x4 1 c4) := (bq.cell (p := ⟨d, od + 5, none⟩) hdc).trans k4
  replace i4 := (i4.below bq).mono bq.size
  replace hdc : d < wd0.heap.size := Nat.lt_of_lt_of_le hdc bq.size
  clear bq k0 i0 s1 Bc
  go_wp2_with fail
  refine (s2.out wd0 x1 c1 i1).mono ?_
  rintro e wd1 ⟨rfl, bq⟩
  have Bwd1 := Bwd0.trans (bq.mono Bwd0.size)
  replace k2 : wd1.cell? ⟨d, od + 3, none⟩ = some (.slice x2 1 c2) := (bq.cell (p := ⟨d, od + 3, none⟩) hdc).trans k2
  replace i2 := (i2.below bq).mono bq.size
  replace k3 : wd1.cell? ⟨d, od + 4, none⟩ = some (.slice x3 2 c3) := (bq.cell (p := ⟨d, od + 4, none⟩) hdc).trans k3
  replace i3 := (i3.below bq).mono bq.size
  replace k4 : wd1.cell? ⟨d, od + 5, none⟩ = some (.slice x4 1 c4) := (bq.cell (p := ⟨d, od + 5, none⟩) hdc).trans k4
  replace i4 := (i4.below bq).mono bq.size
  replace hdc : d < wd1.heap.size := Nat.lt_of_lt_of_le hdc bq.size
  clear bq k1 i1 s2 Bwd0
  go_wp2_with fail
  refine (s3.out wd1 x2 c2 i2).mono ?_
  rintro e wd2 ⟨rfl, bq⟩
  have Bwd2 := Bwd1.trans (bq.mono Bwd1.size)
  replace k3 : wd2.cell? ⟨d, od + 4, none⟩ = some (.slice x3 2 c3) := (bq.cell (p := ⟨d, od + 4, none⟩) hdc).trans k3
  replace i3 := (i3.below bq).mono bq.size
  replace k4 : wd2.cell? ⟨d, od + 5, none⟩ = some (.slice x4 1 c4) := (bq.cell (p := ⟨d, od + 5, none⟩) hdc).trans k4
  replace i4 := (i4.below bq).mono bq.size
  replace hdc : d < wd2.heap.size := Nat.lt_of_lt_of_le hdc bq.size
  clear bq k2 i2 s3 Bwd1
  go_wp2_with fail
  refine (s4.out wd2 x3 c3 i3).mono ?_
  rintro e wd3 ⟨rfl, bq⟩
  have Bwd3 := Bwd2.trans (bq.mono Bwd2.size)
  replace k4 : wd3.cell? ⟨d, od + 5, none⟩ = some (.slice x4 1 c4) := (bq.cell (p := ⟨d, od + 5, none⟩) hdc).trans k4
  replace i4 := (i4.below bq).mono bq.size
  replace hdc : d < wd3.heap.size := Nat.lt_of_lt_of_le hdc bq.size
  clear bq k3 i3 s4 Bwd2
  go_wp2_with fail
  refine (s5.out wd3 x4 c4 i4).mono ?_
  rintro e wd4 ⟨rfl, bq⟩
  have Bwd4 := Bwd3.trans (bq.mono Bwd3.size)
  clear bq k4 i4 s5 Bwd3
  go_wp2
  go_ret
  exact ⟨rfl, Bwd4⟩

end Go.Proofs.Ytgeknojpcjadkaa

namespace Go.Proofs.Ytgeknojpcjadkaa
open Go.Proofs Go.RowKit Go.Shelf Go.Maps

/-- The variables stand in their order. -/
def Ordered (B : List Int) : Prop := ∃ nx : Nat → Int, nx 0 = -1 ∧ ∀ n, n < B.length → ¬ B[n]?.getD 0 < nx n ∧ nx (n + 1) = (if B[n]?.getD 0 = nx n then nx n - 1 else nx n) ∧ -100000 ≤ nx n
theorem Sn.both (X Y : List Int) : Tm.plain X ++ Tm.plain2 X Y = Tm.plainTo [] (X ++ Y) (X ++ Y).length := by
  obtain ⟨r, hr⟩ := Sn.seen_pre Y (Tm.seenFrom [] X)
  have h1 := Sn.plain_map X [] r
  have h2 := Sn.plain_map Y (Tm.seenFrom [] X) []
  have h3 := Sn.plain_map (X ++ Y) [] []
  rw [← hr] at h1
  rw [List.append_nil] at h2 h3
  rw [Sn.seen_app] at h3
  show Tm.plainTo [] X X.length ++ Tm.plainTo (Tm.seenFrom [] X) Y Y.length = _
  rw [h1, h2, h3, List.map_append]
theorem Sn.step (S : List Int) (s : Int) (h : S.length ≤ 1000) : ¬ Tm.name S s < -1 - (S.length : Int) ∧ -1 - ((Tm.see S s).length : Int) = (if Tm.name S s = -1 - (S.length : Int) then -1 - (S.length : Int) - 1 else -1 - (S.length : Int)) ∧ -100000 ≤ -1 - (S.length : Int) := by
  rcases Sn.see_cases S s with ⟨h0, e⟩ | ⟨hs, hc, e⟩ | ⟨hs, hc, e⟩
  · have hn : Tm.name S s = s := by unfold Tm.name; rw [if_neg (by omega)]
    rw [hn, e]
    refine ⟨by omega, by rw [if_neg (by omega)], by omega⟩
  · have hn : Tm.name S s = -1 - (Tm.idx S s : Int) := by unfold Tm.name; rw [if_pos hs]
    have := Sn.idx_lt hc
    rw [hn, e]
    refine ⟨by omega, by rw [if_neg (by omega)], by omega⟩
  · have hn : Tm.name S s = -1 - (S.length : Int) := by unfold Tm.name; rw [if_pos hs, Tm.idx_new hc]
    rw [hn, e, List.length_append]
    refine ⟨by omega, by rw [if_pos rfl]; simp; omega, by omega⟩
theorem Tm.plain_ordered (X Y : List Int) (h : (X ++ Y).length ≤ 1000) : Ordered (Tm.plain X ++ Tm.plain2 X Y) := by
  rw [Sn.both]
  generalize X ++ Y = Z at *
  refine ⟨fun n => -1 - ((Tm.seenFrom [] (Z.take n)).length : Int), by simp [Tm.seenFrom], fun n hn => ?_⟩
  rw [Tm.plainTo_length] at hn
  have hb : (Tm.plainTo [] Z Z.length)[n]?.getD 0 = Tm.name (Tm.seenFrom [] (Z.take n)) (Z[n]?.getD 0) := by simp [Tm.plainTo, hn]
  have hle := Tm.seen_len (Z.take n) []
  dsimp only
  rw [hb, Tm.seen_succ [] hn]
  simp only [List.length_take, List.length_nil] at hle
  exact Sn.step _ _ (by omega)

/-- How many symbols. -/
def symN (L : List Int) : Nat := (L.filter fun s => decide (0 ≤ s)).length
/-- A pair is of two terms, in order, and holds wherever both rules do. -/
def PairGood (L1 R1 L2 R2 : List Int) (x : List Int × List Int) : Prop := Tm.err x.1 = 0 ∧ Tm.err x.2 = 0 ∧ Ordered (x.1 ++ x.2) ∧ ∀ A : Int → Nat → Nat → Nat, (∀ s x y, A s x y < 3) → Tm.Holds A L1 R1 → Tm.Holds A L2 R2 → Tm.Holds A x.1 x.2
theorem Tm.prt_good {L1 R1 L2 R2 : List Int} {m : Nat} {val : List (List Int)} (hm : m < L1.length) (eL : Tm.err L1 = 0) (eR : Tm.err R1 = 0) (eL2 : Tm.err L2 = 0) (eR2 : Tm.err R2 = 0) (fL : ∀ s ∈ L2, -4 ≤ s ∧ s < 6) (fR : ∀ s ∈ R2, -4 ≤ s ∧ s < 6)
    (hs : Tm.MeetSays [(Tm.part L1 m, Tm.others L2)] 0 true val) (he : Tm.prtErr val L1 R1 (m : Int) (Tm.others R2) = 0) : PairGood L1 R1 L2 R2 (Tm.prtVal val L1 R1 (m : Int) (Tm.others R2)) := by
  obtain ⟨hsub, ep, eo, happ, _⟩ := Tm.meet_true hs
  have hv : Tm.prtVal val L1 R1 (m : Int) (Tm.others R2) = (Tm.plain (Tm.applyVal val (Tm.putVal L1 (m : Int) (Tm.others R2))), Tm.plain2 (Tm.applyVal val (Tm.putVal L1 (m : Int) (Tm.others R2))) (Tm.applyVal val R1)) := by unfold Tm.prtVal; rw [if_pos he]
  have hput : Tm.putErr L1 (m : Int) (Tm.others R2) = 0 := by
    by_cases h : Tm.putErr L1 (m : Int) (Tm.others R2) = 0
    · exact h
    · unfold Tm.prtErr at he; rw [if_neg h] at he; exact absurd he h
  have hX : Tm.applyErr val (Tm.putVal L1 (m : Int) (Tm.others R2)) = 0 := by
    by_cases h : Tm.applyErr val (Tm.putVal L1 (m : Int) (Tm.others R2)) = 0
    · exact h
    · unfold Tm.prtErr at he; rw [if_pos hput, if_neg h] at he; exact absurd he h
  have hY : Tm.applyErr val R1 = 0 := by unfold Tm.prtErr at he; rw [if_pos hput, if_pos hX] at he; exact he
  have hpv : Tm.putVal L1 (m : Int) (Tm.others R2) = Tm.put L1 m (Tm.others R2) := by unfold Tm.putVal; rw [if_pos hput]; rfl
  have eo2 : Tm.err (Tm.others R2) = 0 := by
    by_cases h : Tm.err (Tm.others R2) = 0
    · exact h
    · unfold Tm.putErr at hput; rw [if_pos eL, if_neg h] at hput; exact absurd hput h
  obtain ⟨_, eput, lX, vX⟩ := Tm.apply_zero hX
  obtain ⟨_, _, lY, vY⟩ := Tm.apply_zero hY
  have eX := Tm.applyVal_err hX
  have eY := Tm.applyVal_err hY
  rw [hv]
  obtain ⟨ss, hss, pX, pY, e1, e2⟩ := Tm.plain_ren eX eY
  refine ⟨e1, e2, Tm.plain_ordered _ _ (by rw [List.length_append]; have := Tm.err_len eX; have := Tm.err_len eY; omega), fun A hA h1 h2 vs hvs => ?_⟩
  have T := Terms.of hss
  have U := Terms.of hsub
  have O := Terms.of Tm.othL_err
  show Tm.val A vs (Tm.plain _) = Tm.val A vs (Tm.plain2 _ _)
  rw [pX, pY, Tm.val_applied T _ _ (Nat.lt_succ_self _) eX, Tm.val_applied T _ _ (Nat.lt_succ_self _) eY, vX, vY, hpv]
  rw [hpv] at eput
  generalize hus : (fun i : Nat => Tm.val A vs (ss[i]?.getD [])) = us
  have husl : ∀ i, us i < 3 := fun i => by rw [← hus]; exact Tm.val_lt hA hvs _
  rw [Tm.val_applied U _ _ (Nat.lt_succ_self _) eput, Tm.val_applied U _ _ (Nat.lt_succ_self _) eR]
  have hq : Tm.val A us (Tm.applied val (Tm.part L1 m)) = Tm.val A us (Tm.applied val (Tm.others L2)) := by rw [happ]
  rw [Tm.val_applied U _ _ (Nat.lt_succ_self _) ep, Tm.val_applied U _ _ (Nat.lt_succ_self _) eo] at hq
  generalize hts : (fun i : Nat => Tm.val A us (val[i]?.getD [])) = ts at *
  have htsl : ∀ i, ts i < 3 := fun i => by rw [← hts]; exact Tm.val_lt hA husl _
  have hr : Tm.val A ts (Tm.others R2) = Tm.val A ts (Tm.part L1 m) := by
    rw [hq, Tm.others_applied R2 fR, Tm.others_applied L2 fL, Tm.val_applied O _ _ (Nat.lt_succ_self _) eR2, Tm.val_applied O _ _ (Nat.lt_succ_self _) eL2]
    exact (h2 _ (fun i => Tm.val_lt hA htsl _)).symm
  have h3 := Tm.val_put hr eo2 ep _ L1 m (Nat.lt_succ_self _) eL hm
  rw [Tm.put_self] at h3
  rw [h3]
  exact h1 ts htsl
theorem Tm.rule_vars {L R : List Int} (h : Tm.ruleErr L R = 0) : (∀ s ∈ L, -4 ≤ s ∧ s < 6) ∧ (∀ s ∈ R, -4 ≤ s ∧ s < 6) := by
  obtain ⟨eL, eR, fL, fR, _⟩ := Tm.ruleErr_ok h
  have kL := Tm.err_all eL
  have kR := Tm.err_all eR
  rw [List.all_eq_true] at kL kR
  rw [List.any_eq_false] at fL fR
  refine ⟨fun s hs => ⟨?_, Tm.known_lt (kL s hs)⟩, fun s hs => ⟨?_, Tm.known_lt (kR s hs)⟩⟩
  · have := fL s hs
    simp [foreignB] at this
    omega
  · have := fR s hs
    simp [foreignB] at this
    omega
theorem Tm.Laps.good {L1 R1 L2 R2 : List Int} {pass : Nat → Bool} (h1 : Tm.ruleErr L1 R1 = 0) (h2 : Tm.ruleErr L2 R2 = 0) {m : Nat} {l : PairL} (h : Tm.Laps L1 R1 (Tm.others L2) (Tm.others R2) pass m l) : m ≤ L1.length → ∀ x ∈ l, PairGood L1 R1 L2 R2 x := by
  induction h with
  | zero => intro _ x hx; simp at hx
  | pass _ _ ih => intro hm; exact ih (by omega)
  | no _ _ _ ih => intro hm; exact ih (by omega)
  | yes _ _ hs he ih =>
    intro hm x hx
    rcases List.mem_append.1 hx with hx | hx
    · exact ih (by omega) x hx
    · simp at hx
      subst hx
      obtain ⟨eL, eR, _⟩ := Tm.ruleErr_ok h1
      obtain ⟨eL2, eR2, _⟩ := Tm.ruleErr_ok h2
      obtain ⟨fL, fR⟩ := Tm.rule_vars h2
      exact Tm.prt_good (by omega) eL eR eL2 eR2 fL fR hs he
end Go.Proofs.Ytgeknojpcjadkaa

namespace Go.Proofs.Ytgeknojpcjadkaa
open Go.Proofs Go.RowKit Go.Shelf Go.Maps

def Tm.AllHold (zs : List Int) (l : PairL) : Prop := ∀ x ∈ l, Tm.Holds (mo zs) x.1 x.2
theorem Tm.rules_right {rs : RuleL} (h : Tm.rulesErr rs = 0) : ∀ x ∈ rs, Tm.err x.1 = 0 ∧ Tm.err x.2 = 0 := fun x hx => by
  obtain ⟨k, hk, rfl⟩ := List.getElem_of_mem hx
  obtain ⟨_, hall⟩ := Tm.rulesErr_ok h
  have := hall k hk
  rw [List.getElem?_eq_getElem hk] at this
  obtain ⟨e1, e2, _⟩ := Tm.ruleErr_ok this
  exact ⟨e1, e2⟩
/-- Names given back. -/
def Sn.backL (S : List Int) : List (List Int) := (List.range 8).map fun i : Nat => if i < S.length then [S[i]?.getD 0] else [-1]
theorem Tm.stay_or {L : List Int} {rs : RuleL} (x : List Int × List Int) : x ∈ rs ↔ x ∈ Tm.stays L rs ∨ x ∈ Tm.taken L rs := by
  unfold Tm.stays Tm.taken
  rw [List.mem_filter, List.mem_filter]
  cases h : Tm.takenB L x <;> simp
end Go.Proofs.Ytgeknojpcjadkaa

namespace Go.Proofs.Ytgeknojpcjadkaa
open Go.Proofs Go.RowKit Go.Shelf Go.Maps

theorem Tm.kid_in {x : List Int} {m : Nat} {s : Int} (h : s ∈ Tm.kid x m) : s ∈ x := by
  unfold Tm.kid Tm.part at h
  exact List.mem_of_mem_drop (List.mem_of_mem_take h)
theorem Tm.in_kid {x : List Int} (h : Tm.err x = 0) {s : Int} (hs : s ∈ x) : Tm.sym x = s ∨ ∃ m, m < Tm.room (Tm.sym x) ∧ s ∈ Tm.kid x m := by
  rw [Tm.view h] at hs
  rcases List.mem_cons.1 hs with e | hs
  · exact .inl e.symm
  · right
    rw [List.mem_flatten] at hs
    obtain ⟨l, hl, hs⟩ := hs
    obtain ⟨m, hm, rfl⟩ := List.getElem_of_mem hl
    rw [Tm.kids_len] at hm
    have e := Tm.kids_at x hm
    rw [List.getElem?_eq_getElem (by rw [Tm.kids_len]; exact hm)] at e
    rw [show (Tm.kids x (Tm.room (Tm.sym x)))[m] = Tm.kid x m from e] at hs
    exact ⟨m, hm, hs⟩
/-- What is above has all variables of what is below. -/
theorem Tm.Gt.vars {r : Int → Int} {a b : List Int} (h : Tm.Gt r a b) : Tm.err a = 0 → Tm.err b = 0 → ∀ s ∈ b, s < 0 → s ∈ a := by
  induction h with
  | eq a b m hm e => intro _ _ s hs _; rw [← e] at hs; exact Tm.kid_in hs
  | sub a b m hm _ ih => intro ha hb s hs h0; exact Tm.kid_in (ih (Tm.kid_err ha hm) hb s hs h0)
  | rk a b h1 h2 _ _ _ ih =>
    intro ha hb s hs h0
    rcases Tm.in_kid hb hs with e | ⟨m, hm, hs⟩
    · omega
    · exact ih m hm ha (Tm.kid_err hb hm) s hs h0
  | lex a b m h1 h2 _ _ _ _ ih _ =>
    intro ha hb s hs h0
    rcases Tm.in_kid hb hs with e | ⟨m, hm, hs⟩
    · omega
    · exact ih m hm ha (Tm.kid_err hb hm) s hs h0
theorem Tm.plain_rule {rk P Q : List Int} (hk : Tm.rankErr rk = 0) (eP : Tm.err P = 0) (eQ : Tm.err Q = 0) (ha : Tm.aboveVal rk P Q = true) (h0 : Tm.plErr P = 0) : Tm.ruleErr (Tm.plain P) (Tm.plain2 P Q) = 0 ∧ Tm.aboveVal rk (Tm.plain P) (Tm.plain2 P Q) = true := by
  have hg := (Tm.aboveVal_iff (Tm.aboveErr_of hk eP eQ)).1 ha
  obtain ⟨ss, h1, h2, h3, h4, h5⟩ := Tm.plain_ren eP eQ
  have hg' := hg.stays (Terms.of h1) eP eQ
  rw [← h2, ← h3] at hg'
  have hv := hg'.vars h4 h5
  have hf : (Tm.plain P).any foreignB = false := by
    unfold Tm.plErr at h0
    cases h : (Tm.plain P).any foreignB with
    | false => rfl
    | true => rw [if_pos h] at h0; exact absurd h0 (by decide)
  refine ⟨?_, (Tm.aboveVal_iff (Tm.aboveErr_of hk h4 h5)).2 hg'⟩
  have hf2 : (Tm.plain2 P Q).any foreignB = false := by
    rw [List.any_eq_false] at hf ⊢
    intro s hs hfs
    have h0 : s < -4 := by simpa [foreignB] using hfs
    exact hf s (hv s hs (by omega)) hfs
  have hf3 : (Tm.plain2 P Q).any (freeIn (Tm.plain P)) = false := by
    rw [List.any_eq_false]
    intro s hs hfs
    unfold freeIn at hfs
    rw [Bool.and_eq_true] at hfs
    have h0 : s < 0 := by simpa using hfs.1
    have := hv s hs h0
    simp [Tm.hasB, this] at hfs
  have hp : (0 : Int) ≤ (Tm.plain P)[0]?.getD 0 := hg'.pos
  unfold Tm.ruleErr
  rw [if_pos h4, if_pos h5, if_neg (by rw [hf]; decide), if_neg (by rw [hf2]; decide), if_neg (by omega), if_neg (by rw [hf3]; decide)]
theorem Tm.dir_rule {rk P Q : List Int} (hk : Tm.rankErr rk = 0) (eP : Tm.err P = 0) (eQ : Tm.err Q = 0) (h : (Tm.dir rk P Q).1 = 0) : Tm.ruleErr (Tm.dir rk P Q).2.1 (Tm.dir rk P Q).2.2 = 0 ∧ Tm.aboveVal rk (Tm.dir rk P Q).2.1 (Tm.dir rk P Q).2.2 = true := by
  unfold Tm.dir at h ⊢
  by_cases h1 : Tm.aboveVal rk P Q = true
  · rw [if_pos h1] at h ⊢
    have h' : Tm.plErr P = 0 := h
    unfold Tm.plVal
    rw [if_pos h']
    exact Tm.plain_rule hk eP eQ h1 h'
  · rw [if_neg h1] at h ⊢
    by_cases h2 : Tm.aboveVal rk Q P = true
    · rw [if_pos h2] at h ⊢
      have h' : Tm.plErr Q = 0 := h
      unfold Tm.plVal
      rw [if_pos h']
      exact Tm.plain_rule hk eQ eP h2 h'
    · rw [if_neg h2] at h
      exact absurd h (by decide)
theorem Tm.firstRule_of {rs : RuleL} (h : ∀ x ∈ rs, Tm.ruleErr x.1 x.2 = 0) : Tm.firstRule rs = 0 := by
  induction rs with
  | nil => rfl
  | cons r l ih =>
    rw [Tm.firstRule, if_pos (h r (by simp))]
    exact ih fun x hx => h x (by simp [hx])
theorem Tm.rules_each {rs : RuleL} (h : Tm.rulesErr rs = 0) : ∀ x ∈ rs, Tm.ruleErr x.1 x.2 = 0 := fun x hx => by
  obtain ⟨k, hk, rfl⟩ := List.getElem_of_mem hx
  have := (Tm.rulesErr_ok h).2 k hk
  rwa [List.getElem?_eq_getElem hk] at this
/-- Rules that fall, as a word: each is a rule, and its L is above its R. -/
theorem Tm.falls_each {rk : List Int} {rs : RuleL} (h1 : Tm.fallsErr rk rs = 0) (h2 : Tm.fallsVal rk rs = true) : Tm.rulesErr rs = 0 ∧ ∀ x ∈ rs, Tm.aboveVal rk x.1 x.2 = true := by
  have hr : Tm.rulesErr rs = 0 := by
    unfold Tm.fallsErr at h1
    by_cases h : Tm.rankErr rk = 0
    · rwa [if_pos h] at h1
    · rw [if_neg h] at h1; exact absurd h1 h
  unfold Tm.fallsVal at h2
  rw [if_pos h1] at h2
  unfold Tm.fallsB at h2
  rw [List.all_eq_true] at h2
  exact ⟨hr, h2⟩
theorem Tm.falls_of {rk : List Int} {rs : RuleL} (hk : Tm.rankErr rk = 0) (h8 : rs.length ≤ 8) (h1 : ∀ x ∈ rs, Tm.ruleErr x.1 x.2 = 0) (h2 : ∀ x ∈ rs, Tm.aboveVal rk x.1 x.2 = true) : Tm.fallsErr rk rs = 0 ∧ Tm.fallsVal rk rs = true := by
  have h : Tm.fallsErr rk rs = 0 := by
    unfold Tm.fallsErr Tm.rulesErr
    rw [if_pos hk, if_neg (by omega)]
    exact Tm.firstRule_of h1
  refine ⟨h, ?_⟩
  unfold Tm.fallsVal Tm.fallsB
  rw [if_pos h, List.all_eq_true]
  exact h2
/-- A turn's rules fall. -/
theorem Tm.turn_falls {rk : List Int} {rs : RuleL} {ps : PairL} {rs' : RuleL} {ps' : PairL} (h : Tm.TurnSays rk rs ps 0 rs' ps') : Tm.fallsErr rk rs' = 0 ∧ Tm.fallsVal rk rs' = true := by
  rcases h with ⟨h, h', _⟩ | ⟨h0, p, l, rfl, h⟩
  · exact absurd h'.symm h
  obtain ⟨k1, k2, k3, k4, k5, k6, k7⟩ := Tm.turnErr_zero h0
  rcases h with ⟨h, h', _⟩ | ⟨_, _, _, rfl, rfl⟩ | ⟨_, _, h, h', _⟩ | ⟨hj, _, hd, hw⟩
  · exact absurd h'.symm h
  · exact ⟨k5, k6⟩
  · exact absurd h'.symm h
  · obtain ⟨f1, f2⟩ := Tm.joinErr_two hj
    have hdr := Tm.dir_rule k1 (Tm.form_right f1) (Tm.form_right f2) hd
    obtain ⟨hr, hab⟩ := Tm.falls_each k5 k6
    have hre := Tm.rules_each hr
    generalize (Tm.dir rk (Tm.form rs p.1).1 (Tm.form rs p.2).1).2.1 = L at hw hdr
    generalize (Tm.dir rk (Tm.form rs p.1).1 (Tm.form rs p.2).1).2.2 = R at hw hdr
    rcases hw with ⟨_, h, _⟩ | ⟨h8, e, q, _, h⟩
    · exact absurd h (by decide)
    · rcases h with ⟨h, h', _⟩ | ⟨_, _, h, _⟩ | ⟨rfl, _, _, rfl, rfl⟩
      · exact absurd h'.symm h
      · exact absurd h (by decide)
      · refine Tm.falls_of k1 (by rw [List.length_append]; exact h8) (fun x hx => ?_) (fun x hx => ?_)
        · rcases List.mem_append.1 hx with hx | hx
          · exact hre x ((Tm.stay_or x).2 (.inl hx))
          · rw [List.mem_singleton] at hx; subst hx; exact hdr.1
        · rcases List.mem_append.1 hx with hx | hx
          · exact hab x ((Tm.stay_or x).2 (.inl hx))
          · rw [List.mem_singleton] at hx; subst hx; exact hdr.2
theorem Tm.runTo_falls {rk : List Int} {ps : PairL} (hk : Tm.rankErr rk = 0) : ∀ (k : Nat) (rs : RuleL) (qs : PairL), Tm.RunTo rk ps k rs qs → Tm.fallsErr rk rs = 0 ∧ Tm.fallsVal rk rs = true := by
  intro k
  cases k with
  | zero =>
    rintro rs qs ⟨rfl, rfl⟩
    exact Tm.falls_of hk (by simp) (fun x hx => by simp at hx) (fun x hx => by simp at hx)
  | succ k =>
    rintro rs qs ⟨rs0, qs0, h1, h2, h3⟩
    exact Tm.turn_falls h3
/-- What Run tells falls. -/
theorem Tm.run_falls {rk : List Int} {ps : PairL} {rs : RuleL} {n : Nat} (h : Tm.RunSays rk ps 0 rs n) : Tm.fallsErr rk rs = 0 ∧ Tm.fallsVal rk rs = true := by
  rcases h with ⟨h, h', _⟩ | ⟨hb, k, rs0, qs, hk, hto, h⟩
  · exact absurd h'.symm h
  · have hrk : Tm.rankErr rk = 0 := by
      unfold Tm.bothErr at hb
      by_cases h : Tm.rankErr rk = 0
      · exact h
      · rw [if_neg h] at hb; exact absurd hb h
    rcases h with ⟨_, _, rfl, _⟩ | ⟨_, _, h, _⟩ | ⟨_, _, h, _⟩
    · exact Tm.runTo_falls hrk _ _ _ hto
    · exact absurd h (by decide)
    · exact absurd rfl h

end Go.Proofs.Ytgeknojpcjadkaa

namespace Go.Proofs.Ytgeknojpcjadkaa
open Go.Proofs Go.RowKit Go.Shelf

inductive Tr
  | leaf (s : Int)
  | one (s : Int) (a : Tr)
  | two (s : Int) (a b : Tr)
def Tr.flat : Tr → List Int
  | .leaf s => [s]
  | .one s a => s :: a.flat
  | .two s a b => s :: (a.flat ++ b.flat)
def Tr.ok : Tr → Prop
  | .leaf s => s < 2
  | .one s a => (s = 2 ∨ s = 3) ∧ a.ok
  | .two s a b => (s = 4 ∨ s = 5) ∧ a.ok ∧ b.ok
def Tr.sy : Tr → Int
  | .leaf s => s
  | .one s _ => s
  | .two s _ _ => s
def Tr.kids : Tr → List Tr
  | .leaf _ => []
  | .one _ a => [a]
  | .two _ a b => [a, b]

theorem room_leaf {s : Int} (h : s < 2) : Tm.room s = 0 := by unfold Tm.room; rw [if_neg (by omega), if_neg (by omega)]
theorem room_one {s : Int} (h : s = 2 ∨ s = 3) : Tm.room s = 1 := by unfold Tm.room; rw [if_pos h]
theorem room_two {s : Int} (h : s = 4 ∨ s = 5) : Tm.room s = 2 := by unfold Tm.room; rw [if_neg (by omega), if_pos h]

theorem Tr.room {x : Tr} (h : x.ok) : Tm.room x.sy = x.kids.length := by
  cases x with
  | leaf s => exact room_leaf h
  | one s a => exact room_one h.1
  | two s a b => exact room_two h.1
theorem Tr.kids_ok {x : Tr} (h : x.ok) : ∀ c ∈ x.kids, c.ok := by
  cases x with
  | leaf s => intro c hc; cases hc
  | one s a => intro c hc; rw [List.mem_singleton.1 hc]; exact h.2
  | two s a b =>
    intro c hc
    rcases List.mem_cons.1 hc with rfl | hc
    · exact h.2.1
    · rw [List.mem_singleton.1 hc]; exact h.2.2
theorem Tr.sym (x : Tr) : Tm.sym x.flat = x.sy := by cases x <;> rfl
theorem Tr.flat_pos (x : Tr) : 0 < x.flat.length := by cases x <;> simp [Tr.flat]

theorem Tr.run {x : Tr} : x.ok → ∀ (l : List Int) (n : Nat), Tm.run (x.flat ++ l) (n + 1) = x.flat.length + Tm.run l n := by
  induction x with
  | leaf s => intro h l n; rw [Tr.flat, List.singleton_append, Tm.run_cons, room_leaf h]; rfl
  | one s a ih =>
    intro h l n
    rw [Tr.flat, List.cons_append, Tm.run_cons, room_one h.1, ih h.2, List.length_cons]
    omega
  | two s a b iha ihb =>
    intro h l n
    rw [Tr.flat, List.cons_append, Tm.run_cons, room_two h.1, List.append_assoc, iha h.2.1, ihb h.2.2, List.length_cons, List.length_append]
    omega
theorem Tr.run1 {x : Tr} (h : x.ok) : Tm.run x.flat 1 = x.flat.length := by
  have := Tr.run h [] 0
  rwa [List.append_nil, Tm.run_zero] at this

theorem Tr.flat_kids (x : Tr) : x.flat = x.sy :: (x.kids.map Tr.flat).flatten := by
  cases x <;> simp [Tr.flat, Tr.sy, Tr.kids]
theorem Tr.kid {x : Tr} (h : x.ok) {m : Nat} {c : Tr} (hm : x.kids[m]? = some c) : Tm.kid x.flat m = c.flat := by
  rw [Tr.flat_kids x]
  have hlt : m < x.kids.length := by
    rcases Nat.lt_or_ge m x.kids.length with h | h
    · exact h
    · rw [List.getElem?_eq_none h] at hm; cases hm
  rw [Tm.kid_flat (zss := x.kids.map Tr.flat) ?_ (by simpa using hlt)]
  · rw [List.getElem?_map, hm]; rfl
  · intro j hj
    have hj' : j < x.kids.length := by simpa using hj
    rw [List.getElem?_map, List.getElem?_eq_getElem hj']
    exact Tr.run1 (Tr.kids_ok h _ (List.getElem_mem hj'))

theorem Tr.inj {x : Tr} : x.ok → ∀ {y : Tr} {l m : List Int}, y.ok → x.flat ++ l = y.flat ++ m → x = y ∧ l = m := by
  induction x with
  | leaf s =>
    intro h y l m hy e
    cases y with
    | leaf s' => simp only [Tr.flat, List.singleton_append, List.cons.injEq] at e; exact ⟨by rw [e.1], e.2⟩
    | one s' a => simp only [Tr.flat, List.cons_append, List.cons.injEq] at e; simp only [Tr.ok] at h hy; omega
    | two s' a b => simp only [Tr.flat, List.cons_append, List.cons.injEq] at e; simp only [Tr.ok] at h hy; omega
  | one s a ih =>
    intro h y l m hy e
    cases y with
    | leaf s' => simp only [Tr.flat, List.cons_append, List.cons.injEq] at e; simp only [Tr.ok] at h hy; omega
    | one s' a' =>
      simp only [Tr.flat, List.cons_append, List.cons.injEq] at e
      obtain ⟨h1, h2⟩ := ih h.2 hy.2 e.2
      exact ⟨by rw [e.1, h1], h2⟩
    | two s' a' b' => simp only [Tr.flat, List.cons_append, List.cons.injEq] at e; simp only [Tr.ok] at h hy; omega
  | two s a b iha ihb =>
    intro h y l m hy e
    cases y with
    | leaf s' => simp only [Tr.flat, List.cons_append, List.cons.injEq] at e; simp only [Tr.ok] at h hy; omega
    | one s' a' => simp only [Tr.flat, List.cons_append, List.cons.injEq] at e; simp only [Tr.ok] at h hy; omega
    | two s' a' b' =>
      simp only [Tr.flat, List.cons_append, List.append_assoc, List.cons.injEq] at e
      obtain ⟨h1, h2⟩ := iha h.2.1 hy.2.1 e.2
      obtain ⟨h3, h4⟩ := ihb h.2.2 hy.2.2 h2
      exact ⟨by rw [e.1, h1, h3], h4⟩
theorem Tr.flat_inj {x y : Tr} (hx : x.ok) (hy : y.ok) (e : x.flat = y.flat) : x = y := (Tr.inj hx (l := []) (m := []) hy (by rw [e])).1

/-- So many terms are so many trees. -/
theorem Tr.parse : ∀ (t : List Int) (n : Nat), (∀ s ∈ t, s < 6) → Tm.run t n = t.length → ∃ xs : List Tr, xs.length = n ∧ (∀ x ∈ xs, x.ok) ∧ (xs.map Tr.flat).flatten = t := by
  intro t
  induction t with
  | nil =>
    intro n _ h
    rw [Tm.run_nil] at h
    exact ⟨[], by simpa using h.symm, (fun _ h => by cases h), rfl⟩
  | cons s l ih =>
    intro n hs h
    cases n with
    | zero => rw [Tm.run_zero] at h; simp at h
    | succ n =>
      rw [Tm.run_cons, List.length_cons] at h
      obtain ⟨xs, h1, h2, h3⟩ := ih (n + Tm.room s) (fun x hx => hs x (List.mem_cons_of_mem _ hx)) (by omega)
      have h6 := hs s List.mem_cons_self
      by_cases c0 : s < 2
      · rw [room_leaf c0] at h1
        refine ⟨.leaf s :: xs, by simpa using h1, fun x hx => ?_, by simp [Tr.flat, h3]⟩
        rcases List.mem_cons.1 hx with rfl | hx
        · exact c0
        · exact h2 x hx
      · by_cases c1 : s = 2 ∨ s = 3
        · rw [room_one c1] at h1
          cases xs with
          | nil => simp at h1
          | cons a xs =>
            refine ⟨.one s a :: xs, by simpa using h1, fun x hx => ?_, by rw [← h3]; simp [Tr.flat]⟩
            rcases List.mem_cons.1 hx with rfl | hx
            · exact ⟨c1, h2 a List.mem_cons_self⟩
            · exact h2 x (List.mem_cons_of_mem _ hx)
        · have c2 : s = 4 ∨ s = 5 := by omega
          rw [room_two c2] at h1
          cases xs with
          | nil => simp at h1
          | cons a xs =>
            cases xs with
            | nil => simp at h1
            | cons b xs =>
              refine ⟨.two s a b :: xs, by simpa using h1, fun x hx => ?_, by rw [← h3]; simp [Tr.flat]⟩
              rcases List.mem_cons.1 hx with rfl | hx
              · exact ⟨c2, h2 a List.mem_cons_self, h2 b (List.mem_cons_of_mem _ List.mem_cons_self)⟩
              · exact h2 x (List.mem_cons_of_mem _ (List.mem_cons_of_mem _ hx))
theorem Tr.of {t : List Int} (hs : ∀ s ∈ t, s < 6) (h : Tm.run t 1 = t.length) : ∃ x : Tr, x.ok ∧ x.flat = t := by
  obtain ⟨xs, h1, h2, h3⟩ := Tr.parse t 1 hs h
  match xs, h1 with
  | [x], _ => exact ⟨x, h2 x List.mem_cons_self, by simpa using h3⟩

end Go.Proofs.Ytgeknojpcjadkaa

namespace Go.Proofs.Ytgeknojpcjadkaa
open Go.Proofs Go.RowKit Go.Shelf

/-- a is above b. -/
def Tr.G (r : Int → Int) (a b : Tr) : Prop := Tm.Gt r a.flat b.flat
theorem Tr.kid_at {x : Tr} (h : x.ok) {m : Nat} (hm : m < Tm.room (Tm.sym x.flat)) : ∃ c, x.kids[m]? = some c ∧ Tm.kid x.flat m = c.flat ∧ c ∈ x.kids ∧ c.ok := by
  rw [Tr.sym, Tr.room h] at hm
  exact ⟨x.kids[m], List.getElem?_eq_getElem hm, Tr.kid h (List.getElem?_eq_getElem hm), List.getElem_mem hm, Tr.kids_ok h _ (List.getElem_mem hm)⟩
theorem Tr.kid_of {x c : Tr} (h : x.ok) (hc : c ∈ x.kids) : ∃ m, m < Tm.room (Tm.sym x.flat) ∧ x.kids[m]? = some c ∧ Tm.kid x.flat m = c.flat := by
  obtain ⟨m, hm, rfl⟩ := List.getElem_of_mem hc
  exact ⟨m, by rw [Tr.sym, Tr.room h]; exact hm, List.getElem?_eq_getElem hm, Tr.kid h (List.getElem?_eq_getElem hm)⟩

/-- By the first parts that differ. -/
def Tr.Lex (r : Int → Int) (a b : Tr) : Prop := a.sy = b.sy ∧ ∃ (m : Nat) (c d : Tr), a.kids[m]? = some c ∧ b.kids[m]? = some d ∧ (∀ l, l < m → a.kids[l]? = b.kids[l]?) ∧ Tr.G r c d

theorem Tr.G.iff {r : Int → Int} {a b : Tr} (ha : a.ok) (hb : b.ok) : Tr.G r a b ↔ (∃ c ∈ a.kids, c = b ∨ Tr.G r c b) ∨ (0 ≤ a.sy ∧ 0 ≤ b.sy ∧ (∀ c ∈ b.kids, Tr.G r a c) ∧ ((a.sy ≠ b.sy ∧ r b.sy < r a.sy) ∨ Tr.Lex r a b)) := by
  unfold Tr.G Tr.Lex
  rw [Tm.Gt.iff]
  constructor
  · rintro (⟨m, hm, h⟩ | ⟨h1, h2, h3, h4⟩)
    · obtain ⟨c, e1, e2, e3, e4⟩ := Tr.kid_at ha hm
      rw [e2] at h
      rcases h with h | h
      · exact .inl ⟨c, e3, .inl (Tr.flat_inj e4 hb h)⟩
      · exact .inl ⟨c, e3, .inr h⟩
    · rw [Tr.sym] at h1 h2
      refine .inr ⟨h1, h2, fun c hc => ?_, ?_⟩
      · obtain ⟨m, hm, e1, e2⟩ := Tr.kid_of hb hc
        rw [← e2]
        exact h3 m hm
      · rw [Tr.sym, Tr.sym] at h4
        rcases h4 with h4 | ⟨hs, m, hm, hl, hk⟩
        · exact .inl h4
        · right
          have hm1 : m < Tm.room (Tm.sym a.flat) := by rw [Tr.sym]; exact hm
          have hm2 : m < Tm.room (Tm.sym b.flat) := by rw [Tr.sym, ← hs]; exact hm
          obtain ⟨c, e1, e2, _, _⟩ := Tr.kid_at ha hm1
          obtain ⟨d, f1, f2, _, _⟩ := Tr.kid_at hb hm2
          rw [e2, f2] at hk
          refine ⟨hs, m, c, d, e1, f1, fun l hlm => ?_, hk⟩
          obtain ⟨c', e1', e2', _, o1⟩ := Tr.kid_at ha (Nat.lt_trans hlm hm1)
          obtain ⟨d', f1', f2', _, o2⟩ := Tr.kid_at hb (Nat.lt_trans hlm hm2)
          have := hl l hlm
          rw [e2', f2'] at this
          rw [e1', f1', Tr.flat_inj o1 o2 this]
  · rintro (⟨c, hc, h⟩ | ⟨h1, h2, h3, h4⟩)
    · obtain ⟨m, hm, e1, e2⟩ := Tr.kid_of ha hc
      refine .inl ⟨m, hm, ?_⟩
      rw [e2]
      rcases h with rfl | h
      · exact .inl rfl
      · exact .inr h
    · refine .inr ⟨by rw [Tr.sym]; exact h1, by rw [Tr.sym]; exact h2, fun m hm => ?_, ?_⟩
      · obtain ⟨c, e1, e2, e3, e4⟩ := Tr.kid_at hb hm
        rw [e2]
        exact h3 c e3
      · rw [Tr.sym, Tr.sym]
        rcases h4 with h4 | ⟨hs, m, c, d, e1, f1, hl, hk⟩
        · exact .inl h4
        · right
          have hm1 : m < a.kids.length := by
            rcases Nat.lt_or_ge m a.kids.length with h | h
            · exact h
            · rw [List.getElem?_eq_none h] at e1; cases e1
          refine ⟨hs, m, by rw [Tr.room ha]; exact hm1, fun l hlm => ?_, by rw [Tr.kid ha e1, Tr.kid hb f1]; exact hk⟩
          have e1' := List.getElem?_eq_getElem (Nat.lt_trans hlm hm1)
          have f1' := (hl l hlm).symm.trans e1'
          rw [Tr.kid ha e1', Tr.kid hb f1']

theorem Tr.G.trans {r : Int → Int} {a b c : Tr} (h : Tr.G r a b) (h' : Tr.G r b c) : Tr.G r a c := Tm.Gt.trans h h'
theorem Tr.G.pos {r : Int → Int} {a b : Tr} (h : Tr.G r a b) : 0 ≤ a.sy := by have := Tm.Gt.pos h; rwa [Tr.sym] at this

/-- What nothing goes down from without an end. -/
def Tr.Ends (r : Int → Int) (x : Tr) : Prop := Acc (fun b a : Tr => b.ok ∧ Tr.G r a b) x
theorem Tr.Ends.down {r : Int → Int} {a b : Tr} (h : Tr.Ends r a) (hb : b.ok) (hg : Tr.G r a b) : Tr.Ends r b := Acc.inv h ⟨hb, hg⟩

/-- One whose parts end, ends, if those do that are below by the symbol or by parts. -/
theorem Tr.Ends.node {r : Int → Int} {a : Tr} (ha : a.ok) (hk : ∀ c ∈ a.kids, Tr.Ends r c) (hr : ∀ b : Tr, b.ok → 0 ≤ b.sy → r b.sy < r a.sy → (∀ c ∈ b.kids, Tr.Ends r c) → Tr.Ends r b)
    (hl : ∀ b : Tr, b.ok → (∀ c ∈ b.kids, Tr.Ends r c) → Tr.Lex r a b → Tr.Ends r b) : Tr.Ends r a := by
  have kids : ∀ b : Tr, b.ok → Tr.G r a b → (∀ c ∈ b.kids, Tr.G r a c → Tr.Ends r c) → Tr.Ends r b := by
    intro b hb hg ih
    rcases (Tr.G.iff ha hb).1 hg with ⟨c, hc, rfl | h⟩ | ⟨_, h2, h3, ⟨_, h4⟩ | h4⟩
    · exact hk c hc
    · exact (hk c hc).down hb h
    · exact hr b hb h2 h4 (fun c hc => ih c hc (h3 c hc))
    · exact hl b hb (fun c hc => ih c hc (h3 c hc)) h4
  have main : ∀ b : Tr, b.ok → Tr.G r a b → Tr.Ends r b := by
    intro b
    induction b with
    | leaf s => exact fun hb hg => kids _ hb hg (fun c hc => by cases hc)
    | one s b ih => exact fun hb hg => kids _ hb hg (fun c hc hgc => by rw [List.mem_singleton.1 hc] at hgc ⊢; exact ih hb.2 hgc)
    | two s b c ihb ihc =>
      refine fun hb hg => kids _ hb hg (fun d hd hgd => ?_)
      rcases List.mem_cons.1 hd with rfl | hd
      · exact ihb hb.2.1 hgd
      · rw [List.mem_singleton.1 hd] at hgd ⊢; exact ihc hb.2.2 hgd
  exact Acc.intro _ fun b hb => main b hb.1 hb.2

theorem Tr.Ends.sym {r : Int → Int} {B : Int} (h0 : ∀ s, 0 ≤ s → B ≤ r s) : ∀ (n : Nat) (a : Tr), a.ok → 0 ≤ a.sy → (r a.sy - B).toNat < n → (∀ c ∈ a.kids, Tr.Ends r c) → Tr.Ends r a := by
  intro n
  induction n with
  | zero => intro a _ _ h; omega
  | succ n ih =>
    intro a ha hs hn hk
    have hr : ∀ b : Tr, b.ok → 0 ≤ b.sy → r b.sy < r a.sy → (∀ c ∈ b.kids, Tr.Ends r c) → Tr.Ends r b := fun b hb hbs hlt hbk => ih b hb hbs (by have := h0 _ hbs; have := h0 _ hs; omega) hbk
    cases a with
    | leaf s => exact Tr.Ends.node ha hk hr fun b _ _ hl => by obtain ⟨_, m, c, d, e, _⟩ := hl; simp [Tr.kids] at e
    | one s a =>
      have hE : Tr.Ends r a := hk a List.mem_cons_self
      have hok := ha.2
      have hs1 := ha.1
      have hr' : ∀ b : Tr, b.ok → 0 ≤ b.sy → r b.sy < r s → (∀ c ∈ b.kids, Tr.Ends r c) → Tr.Ends r b := hr
      clear ha hk hs hn hr
      induction hE with
      | intro a hacc iha =>
        refine Tr.Ends.node ⟨hs1, hok⟩ (fun c hc => by rw [List.mem_singleton.1 hc]; exact Acc.intro _ hacc) hr' fun b hb hbk hl => ?_
        obtain ⟨e, m, c, d, e1, e2, _, hg⟩ := hl
        cases b with
        | leaf s' => simp [Tr.kids] at e2
        | two s' b1 b2 => simp only [Tr.sy] at e; simp only [Tr.ok] at hb; omega
        | one s' b1 =>
          simp only [Tr.sy] at e
          subst e
          cases m with
          | succ m => simp [Tr.kids] at e1
          | zero =>
            simp only [Tr.kids, List.getElem?_cons_zero, Option.some.injEq] at e1 e2
            subst e1 e2
            exact iha b1 ⟨hb.2, hg⟩ hb.2
    | two s a1 a2 =>
      have hE1 : Tr.Ends r a1 := hk a1 List.mem_cons_self
      have hE2 : Tr.Ends r a2 := hk a2 (List.mem_cons_of_mem _ List.mem_cons_self)
      have hok1 := ha.2.1
      have hok2 := ha.2.2
      have hs1 := ha.1
      have hr' : ∀ b : Tr, b.ok → 0 ≤ b.sy → r b.sy < r s → (∀ c ∈ b.kids, Tr.Ends r c) → Tr.Ends r b := hr
      clear ha hk hs hn hr
      induction hE1 generalizing a2 with
      | intro a1 hacc1 iha1 =>
        induction hE2 with
        | intro a2 hacc2 iha2 =>
          refine Tr.Ends.node ⟨hs1, hok1, hok2⟩ (fun c hc => ?_) hr' fun b hb hbk hl => ?_
          · rcases List.mem_cons.1 hc with rfl | hc
            · exact Acc.intro _ hacc1
            · rw [List.mem_singleton.1 hc]; exact Acc.intro _ hacc2
          · obtain ⟨e, m, c, d, e1, e2, hl, hg⟩ := hl
            cases b with
            | leaf s' => simp [Tr.kids] at e2
            | one s' b1 => simp only [Tr.sy] at e; simp only [Tr.ok] at hb; omega
            | two s' b1 b2 =>
              simp only [Tr.sy] at e
              subst e
              match m with
              | 0 =>
                simp only [Tr.kids, List.getElem?_cons_zero, Option.some.injEq] at e1 e2
                subst e1 e2
                exact iha1 b1 ⟨hb.2.1, hg⟩ b2 (hbk b2 (List.mem_cons_of_mem _ List.mem_cons_self)) hb.2.1 hb.2.2
              | 1 =>
                have h01 := hl 0 (by omega)
                simp only [Tr.kids, List.getElem?_cons_zero, List.getElem?_cons_succ, Option.some.injEq] at e1 e2 h01
                subst e1 e2 h01
                exact iha2 b2 ⟨hb.2.2, hg⟩ hb.2.2
              | m + 2 => simp [Tr.kids] at e1

/-- Nothing goes down without an end. -/
theorem Tr.ends {r : Int → Int} {B : Int} (h0 : ∀ s, 0 ≤ s → B ≤ r s) : ∀ (x : Tr), x.ok → Tr.Ends r x := by
  have var : ∀ s : Int, s < 0 → Tr.Ends r (.leaf s) := fun s hs => Acc.intro _ fun b hb => by have := Tr.G.pos hb.2; simp only [Tr.sy] at this; omega
  intro x
  induction x with
  | leaf s =>
    intro h
    by_cases hs : s < 0
    · exact var s hs
    · exact Tr.Ends.sym h0 _ _ h (by simp only [Tr.sy]; omega) (Nat.lt_succ_self _) (fun c hc => by cases hc)
  | one s a ih =>
    intro h
    have := h.1
    exact Tr.Ends.sym h0 _ _ h (by simp only [Tr.sy]; omega) (Nat.lt_succ_self _) (fun c hc => by rw [List.mem_singleton.1 hc]; exact ih h.2)
  | two s a b iha ihb =>
    intro h
    have := h.1
    refine Tr.Ends.sym h0 _ _ h (by simp only [Tr.sy]; omega) (Nat.lt_succ_self _) (fun c hc => ?_)
    rcases List.mem_cons.1 hc with rfl | hc
    · exact iha h.2.1
    · rw [List.mem_singleton.1 hc]; exact ihb h.2.2

end Go.Proofs.Ytgeknojpcjadkaa

namespace Go.Proofs.Ytgeknojpcjadkaa
open Go.Proofs Go.RowKit Go.Shelf

/-- What comes if each variable becomes that. -/
def Tr.sub (f : Int → Tr) : Tr → Tr
  | .leaf s => if s < 0 then f s else .leaf s
  | .one s a => .one s (a.sub f)
  | .two s a b => .two s (a.sub f) (b.sub f)
def Tr.Oks (f : Int → Tr) : Prop := ∀ s, s < 0 → (f s).ok
theorem Tr.sub_ok {f : Int → Tr} (hf : Tr.Oks f) {x : Tr} : x.ok → (x.sub f).ok := by
  induction x with
  | leaf s =>
    intro h
    rw [Tr.sub]
    split
    · exact hf s ‹_›
    · exact h
  | one s a ih => exact fun h => ⟨h.1, ih h.2⟩
  | two s a b iha ihb => exact fun h => ⟨h.1, iha h.2.1, ihb h.2.2⟩
theorem Tr.sub_sub (f g : Int → Tr) (x : Tr) : (x.sub f).sub g = x.sub (fun s => (f s).sub g) := by
  induction x with
  | leaf s =>
    by_cases h : s < 0
    · simp only [Tr.sub, if_pos h]
    · simp only [Tr.sub, if_neg h]
  | one s a ih => simp only [Tr.sub, ih]
  | two s a b iha ihb => simp only [Tr.sub, iha, ihb]
theorem Tr.sub_congr {f g : Int → Tr} {x : Tr} (h : ∀ s ∈ x.flat, s < 0 → f s = g s) : x.sub f = x.sub g := by
  induction x with
  | leaf s =>
    simp only [Tr.sub]
    split
    · exact h s (by simp [Tr.flat]) ‹_›
    · rfl
  | one s a ih => simp only [Tr.sub, ih (fun s hs => h s (List.mem_cons_of_mem _ hs))]
  | two s a b iha ihb => simp only [Tr.sub, iha (fun s hs => h s (List.mem_cons_of_mem _ (List.mem_append_left _ hs))), ihb (fun s hs => h s (List.mem_cons_of_mem _ (List.mem_append_right _ hs)))]

theorem Tr.sub_sy {f : Int → Tr} {x : Tr} (h : 0 ≤ x.sy) : (x.sub f).sy = x.sy ∧ (x.sub f).kids = x.kids.map (Tr.sub f) := by
  cases x with
  | leaf s => simp only [Tr.sy] at h; rw [Tr.sub, if_neg (by omega)]; exact ⟨rfl, rfl⟩
  | one s a => exact ⟨rfl, rfl⟩
  | two s a b => exact ⟨rfl, rfl⟩

theorem Tr.kid_len {x c : Tr} (hc : c ∈ x.kids) : c.flat.length < x.flat.length := by
  cases x with
  | leaf s => cases hc
  | one s a => rw [List.mem_singleton.1 hc]; simp [Tr.flat]
  | two s a b =>
    rcases List.mem_cons.1 hc with rfl | hc
    · simp [Tr.flat]; omega
    · rw [List.mem_singleton.1 hc]; simp [Tr.flat]; omega

/-- Above stays above. -/
theorem Tr.G.sub_n {r : Int → Int} {f : Int → Tr} (hf : Tr.Oks f) : ∀ (n : Nat) (a b : Tr), a.flat.length + b.flat.length < n → a.ok → b.ok → Tr.G r a b → Tr.G r (a.sub f) (b.sub f) := by
  intro n
  induction n with
  | zero => intro a b h; omega
  | succ n ih =>
    intro a b hn ha hb hg
    obtain ⟨s1, k1⟩ := Tr.sub_sy (f := f) (Tr.G.pos hg)
    refine (Tr.G.iff (Tr.sub_ok hf ha) (Tr.sub_ok hf hb)).2 ?_
    rcases (Tr.G.iff ha hb).1 hg with ⟨c, hc, h⟩ | ⟨h1, h2, h3, h4⟩
    · refine .inl ⟨c.sub f, by rw [k1]; exact List.mem_map.2 ⟨c, hc, rfl⟩, ?_⟩
      rcases h with rfl | h
      · exact .inl rfl
      · exact .inr (ih c b (by have := Tr.kid_len hc; omega) (Tr.kids_ok ha c hc) hb h)
    · obtain ⟨s2, k2⟩ := Tr.sub_sy (f := f) h2
      refine .inr ⟨by rw [s1]; exact h1, by rw [s2]; exact h2, fun c hc => ?_, ?_⟩
      · rw [k2] at hc
        obtain ⟨c, hc', rfl⟩ := List.mem_map.1 hc
        clear hc
        have hc := hc'
        exact ih a c (by have := Tr.kid_len hc; omega) ha (Tr.kids_ok hb c hc) (h3 c hc)
      · rw [s1, s2]
        rcases h4 with h4 | ⟨e, m, c, d, e1, e2, hl, hg'⟩
        · exact .inl h4
        · have hc := List.mem_of_getElem? e1
          have hd := List.mem_of_getElem? e2
          refine .inr ⟨by rw [s1, s2]; exact e, m, c.sub f, d.sub f, by rw [k1, List.getElem?_map, e1]; rfl, by rw [k2, List.getElem?_map, e2]; rfl, fun l hlm => ?_, ?_⟩
          · rw [k1, k2, List.getElem?_map, List.getElem?_map, hl l hlm]
          · exact ih c d (by have := Tr.kid_len hc; have := Tr.kid_len hd; omega) (Tr.kids_ok ha c hc) (Tr.kids_ok hb d hd) hg'
theorem Tr.G.sub {r : Int → Int} {f : Int → Tr} (hf : Tr.Oks f) {a b : Tr} (ha : a.ok) (hb : b.ok) (h : Tr.G r a b) : Tr.G r (a.sub f) (b.sub f) := Tr.G.sub_n hf _ a b (Nat.lt_succ_self _) ha hb h
theorem Tr.G.one {r : Int → Int} {s : Int} {a b : Tr} (hs : s = 2 ∨ s = 3) (ha : a.ok) (hb : b.ok) (h : Tr.G r a b) : Tr.G r (.one s a) (.one s b) := by
  refine (Tr.G.iff (a := .one s a) (b := .one s b) ⟨hs, ha⟩ ⟨hs, hb⟩).2 (.inr ⟨by simp only [Tr.sy]; omega, by simp only [Tr.sy]; omega, fun c hc => ?_, .inr ⟨rfl, 0, a, b, rfl, rfl, (fun l hl => by omega), h⟩⟩)
  rw [List.mem_singleton.1 hc]
  exact (Tr.G.iff (a := .one s a) ⟨hs, ha⟩ hb).2 (.inl ⟨a, List.mem_cons_self, .inr h⟩)
theorem Tr.G.twoL {r : Int → Int} {s : Int} {a b c : Tr} (hs : s = 4 ∨ s = 5) (ha : a.ok) (hb : b.ok) (hc : c.ok) (h : Tr.G r a b) : Tr.G r (.two s a c) (.two s b c) := by
  refine (Tr.G.iff (a := .two s a c) (b := .two s b c) ⟨hs, ha, hc⟩ ⟨hs, hb, hc⟩).2 (.inr ⟨by simp only [Tr.sy]; omega, by simp only [Tr.sy]; omega, fun d hd => ?_, .inr ⟨rfl, 0, a, b, rfl, rfl, (fun l hl => by omega), h⟩⟩)
  rcases List.mem_cons.1 hd with rfl | hd
  · exact (Tr.G.iff (a := .two s a c) ⟨hs, ha, hc⟩ hb).2 (.inl ⟨a, List.mem_cons_self, .inr h⟩)
  · rw [List.mem_singleton.1 hd]
    exact (Tr.G.iff (a := .two s a c) ⟨hs, ha, hc⟩ hc).2 (.inl ⟨c, List.mem_cons_of_mem _ List.mem_cons_self, .inl rfl⟩)
theorem Tr.G.twoR {r : Int → Int} {s : Int} {a b c : Tr} (hs : s = 4 ∨ s = 5) (ha : a.ok) (hb : b.ok) (hc : c.ok) (h : Tr.G r a b) : Tr.G r (.two s c a) (.two s c b) := by
  refine (Tr.G.iff (a := .two s c a) (b := .two s c b) ⟨hs, hc, ha⟩ ⟨hs, hc, hb⟩).2 (.inr ⟨by simp only [Tr.sy]; omega, by simp only [Tr.sy]; omega, fun d hd => ?_, .inr ⟨rfl, 1, a, b, rfl, rfl, (fun l hl => ?_), h⟩⟩)
  · rcases List.mem_cons.1 hd with rfl | hd
    · exact (Tr.G.iff (a := .two s d a) ⟨hs, hc, ha⟩ hc).2 (.inl ⟨d, List.mem_cons_self, .inl rfl⟩)
    · rw [List.mem_singleton.1 hd]
      exact (Tr.G.iff (a := .two s c a) ⟨hs, hc, ha⟩ hb).2 (.inl ⟨a, List.mem_cons_of_mem _ List.mem_cons_self, .inr h⟩)
  · obtain rfl : l = 0 := by omega
    rfl

/-- One step. -/
inductive Tr.St (rs : List (Tr × Tr)) : Tr → Tr → Prop
  | root (l r : Tr) (f : Int → Tr) : (l, r) ∈ rs → Tr.Oks f → Tr.St rs (l.sub f) (r.sub f)
  | one (s : Int) (a b : Tr) : Tr.St rs a b → Tr.St rs (.one s a) (.one s b)
  | twoL (s : Int) (a b c : Tr) : Tr.St rs a b → Tr.St rs (.two s a c) (.two s b c)
  | twoR (s : Int) (a b c : Tr) : Tr.St rs a b → Tr.St rs (.two s c a) (.two s c b)
/-- Any number of steps. -/
inductive Tr.Sts (rs : List (Tr × Tr)) : Tr → Tr → Prop
  | refl (a : Tr) : Tr.Sts rs a a
  | step (a b c : Tr) : Tr.St rs a b → Tr.Sts rs b c → Tr.Sts rs a c
theorem Tr.Sts.trans {rs : List (Tr × Tr)} {a b c : Tr} (h : Tr.Sts rs a b) (h' : Tr.Sts rs b c) : Tr.Sts rs a c := by
  induction h with
  | refl a => exact h'
  | step a b d h1 _ ih => exact .step _ _ _ h1 (ih h')
theorem Tr.St.many {rs : List (Tr × Tr)} {a b : Tr} (h : Tr.St rs a b) : Tr.Sts rs a b := .step _ _ _ h (.refl _)
theorem Tr.Sts.map {rs : List (Tr × Tr)} {F : Tr → Tr} (hF : ∀ a b, Tr.St rs a b → Tr.St rs (F a) (F b)) {a b : Tr} (h : Tr.Sts rs a b) : Tr.Sts rs (F a) (F b) := by
  induction h with
  | refl a => exact .refl _
  | step a b d h1 _ ih => exact .step _ _ _ (hF _ _ h1) ih
theorem Tr.Sts.two {rs : List (Tr × Tr)} (s : Int) {a b c d : Tr} (h : Tr.Sts rs a b) (h' : Tr.Sts rs c d) : Tr.Sts rs (.two s a c) (.two s b d) :=
  (h.map (F := fun x => .two s x c) (fun _ _ h => .twoL _ _ _ _ h)).trans (h'.map (F := fun x => .two s b x) (fun _ _ h => .twoR _ _ _ _ h))
theorem Tr.Sts.one {rs : List (Tr × Tr)} (s : Int) {a b : Tr} (h : Tr.Sts rs a b) : Tr.Sts rs (.one s a) (.one s b) := h.map (F := fun x => .one s x) (fun _ _ h => .one _ _ _ h)
def Tr.Meets (rs : List (Tr × Tr)) (a b : Tr) : Prop := ∃ c, Tr.Sts rs a c ∧ Tr.Sts rs b c
theorem Tr.Meets.symm {rs : List (Tr × Tr)} {a b : Tr} (h : Tr.Meets rs a b) : Tr.Meets rs b a := by obtain ⟨c, h1, h2⟩ := h; exact ⟨c, h2, h1⟩
theorem Tr.St.sub {rs : List (Tr × Tr)} {f : Int → Tr} (hf : Tr.Oks f) {a b : Tr} (h : Tr.St rs a b) : Tr.St rs (a.sub f) (b.sub f) := by
  induction h with
  | root l r g hm hg =>
    rw [Tr.sub_sub, Tr.sub_sub]
    exact .root l r _ hm (fun s hs => Tr.sub_ok hf (hg s hs))
  | one s a b _ ih => exact .one _ _ _ ih
  | twoL s a b c _ ih => exact .twoL _ _ _ _ ih
  | twoR s a b c _ ih => exact .twoR _ _ _ _ ih
theorem Tr.Sts.sub {rs : List (Tr × Tr)} {f : Int → Tr} (hf : Tr.Oks f) {a b : Tr} (h : Tr.Sts rs a b) : Tr.Sts rs (a.sub f) (b.sub f) := h.map (F := Tr.sub f) (fun _ _ h => h.sub hf)
theorem Tr.Meets.sub {rs : List (Tr × Tr)} {f : Int → Tr} (hf : Tr.Oks f) {a b : Tr} (h : Tr.Meets rs a b) : Tr.Meets rs (a.sub f) (b.sub f) := by obtain ⟨c, h1, h2⟩ := h; exact ⟨_, h1.sub hf, h2.sub hf⟩

/-- What variables become goes on: so does the whole. -/
theorem Tr.Sts.vars {rs : List (Tr × Tr)} {f g : Int → Tr} (h : ∀ s, s < 0 → Tr.Sts rs (f s) (g s)) (x : Tr) : Tr.Sts rs (x.sub f) (x.sub g) := by
  induction x with
  | leaf s =>
    simp only [Tr.sub]
    split
    · exact h s ‹_›
    · exact .refl _
  | one s a ih => exact ih.one s
  | two s a b iha ihb => exact iha.two s ihb

/-- Newman. -/
theorem Tr.newman {rs : List (Tr × Tr)} {P : Tr → Prop} (hP : ∀ x y, P x → Tr.St rs x y → P y) (hloc : ∀ x y z, P x → Tr.St rs x y → Tr.St rs x z → Tr.Meets rs y z) {x : Tr} (hacc : Acc (fun b a : Tr => Tr.St rs a b) x) : P x → ∀ y z, Tr.Sts rs x y → Tr.Sts rs x z → Tr.Meets rs y z := by
  induction hacc with
  | intro x _ ih =>
    intro hx y z hy hz
    cases hy with
    | refl => exact ⟨z, hz, .refl _⟩
    | step _ y1 _ h1 h2 =>
      cases hz with
      | refl => exact ⟨y, .refl _, .step _ _ _ h1 h2⟩
      | step _ z1 _ g1 g2 =>
        obtain ⟨w, hw1, hw2⟩ := hloc x y1 z1 hx h1 g1
        obtain ⟨u, hu1, hu2⟩ := ih y1 h1 (hP _ _ hx h1) y w h2 hw1
        obtain ⟨v, hv1, hv2⟩ := ih z1 g1 (hP _ _ hx g1) u z (hw2.trans hu2) g2
        exact ⟨v, hu1.trans hv1, hv2⟩

end Go.Proofs.Ytgeknojpcjadkaa
