/-
  sub.None, haspref.NoneOf, hasplaw.some; sub.After, haspref.AfterOf.
-/
import Derived.Test.YtbelnlemjcoifaaSub4
namespace Go.Proofs.Ytbelnlemjcoifaa
open Go.Proofs Go.RowKit Go.Shelf

/-- The first k variables, each itself. -/
def Tm.noneL (k : Nat) : List (List Int) := (List.range k).map fun i : Nat => [-1 - (i : Int)]
theorem Tm.noneL_succ (k : Nat) : Tm.noneL (k + 1) = Tm.noneL k ++ [[-1 - (k : Int)]] := by simp [Tm.noneL, List.range_succ]
theorem Tm.noneL_length (k : Nat) : (Tm.noneL k).length = k := by simp [Tm.noneL]

theorem NewS.alloc {base : Nat} {W : World} {v : Value} {ss : List (List Int)} (h : NewS base W v ss) (o : Obj) : NewS base (W.alloc o) v ss := h.below ((Below.refl _ _).alloc (Nat.le_refl _) _)
theorem New.alloc {base : Nat} {W : World} {v : Value} {zs : List Int} (h : New base W v zs) (o : Obj) : New base (W.alloc o) v zs := h.below ((Below.refl _ _).alloc (Nat.le_refl _) _)
theorem cell_new (W : World) (v : Value) (t : TypeId) (n : Nat) (hn : n = W.heap.size) : (W.alloc (.cells #[v] t)).cell? ⟨n, 0, none⟩ = some v := by
  subst hn
  rw [cell_at (World.alloc_heap_new W _)]
  rfl

set_option maxRecDepth 100000 in
set_option maxHeartbeats 400000 in
/-- sub.None. -/
theorem none_any (w : World) : Calls Try.prog 35 #[] w fun e w' => ∃ v, e = .returned v ∧ NewS w.heap.size w' v (Tm.noneL 8) ∧ Below w.heap.size w w' := by
  go_enter Try.func35, Try.ntmps35
  go_wp2
  go_loopw [1, 3] (fun v i wr => ∃ k : Nat, k ≤ 8 ∧ i = .int .i64 (k : Int) ∧ NewS w.heap.size wr v (Tm.noneL k) ∧ Below w.heap.size w wr) (fun _ i _ => 8 - (intOf i).toNat)
  case atStart => exact ⟨0, Nat.zero_le _, rfl, NewS.nil _ _, Below.refl _ _⟩
  case round =>
    obtain ⟨k, hk, rfl, hN, hB⟩ := hrel
    by_cases hlt : k < 8
    · have hlt' : (k : Int) < 8 := by omega
      have hsn := hid (Tm.noneL_succ k)
      have Hln := hid (Tm.noneL_length k)
      obtain ⟨a0, c0, rfl, _⟩ := NewS.subs hN
      have hu := New.lit w.heap.size wr [-1 - (k : Int)] hB.size (by unfold maxLen; simp)
      simp only [List.map_cons, List.map_nil, List.length_cons, List.length_nil, Nat.zero_add] at hu
      have hA : Below w.heap.size w (((wr.alloc (.cells #[.int .i64 (-1 - (k : Int))] 3)).alloc (.cells #[.slice (some ⟨wr.heap.size, 0, none⟩) 1 1] 23))) := (hB.alloc hB.size _).alloc (by have := hB.size; simp; omega) _
      have hN2 := (hN.alloc (.cells #[.int .i64 (-1 - (k : Int))] 3)).alloc (.cells #[.slice (some ⟨wr.heap.size, 0, none⟩) 1 1] 23)
      have hu2 := hu.alloc (.cells #[.slice (some ⟨wr.heap.size, 0, none⟩) 1 1] 23)
      have hcn := cell_new (wr.alloc (.cells #[.int .i64 (-1 - (k : Int))] 3)) (.slice (some ⟨wr.heap.size, 0, none⟩) 1 1) 23 (wr.heap.size + 1) (by simp)
      have HN2 := hid hN2
      have Hu2 := hid hu2
      have Hcn := hid hcn
      clear hu hN2 hu2 hcn
      go_wp2_with (at_builtin; go_loud (refine wp_append_sub _ rfl _ _ rfl w.heap.size _ (Tm.noneL k) rfl HN2.out (.slice (some ⟨wr.heap.size, 0, none⟩) 1 1) [-1 - (k : Int)] (wr.heap.size + 1) rfl Hcn.out Hu2.out (by rw [Hln.out]; omega) hA.size ?_); intro v' w2 hN3 hB3; obtain ⟨a2, c2, rfl, _⟩ := NewS.subs hN3)
      go_roundw
      case rel => exact ⟨k + 1, by omega, by go_num, by rw [hsn.out]; simpa using hN3, hA.trans hB3⟩
      case measure => simp [intOf]; omega
    · obtain rfl : k = 8 := by omega
      obtain ⟨a2, c2, rfl, _⟩ := NewS.subs hN
      go_wp2
      go_ret
      exact ⟨_, rfl, hN, hB⟩

set_option maxRecDepth 100000 in
set_option maxHeartbeats 400000 in
/-- haspref.NoneOf. -/
theorem noneOf_any (w : World) : Calls Try.prog 58 #[] w fun e w' => ∃ v, e = .returned v ∧ NewS w.heap.size w' v (Tm.noneL 8) ∧ Below w.heap.size w w' := by
  go_enter Try.func58, Try.ntmps58
  go_wp2
  go_loopw [1, 2] (fun v i wr => ∃ k : Nat, k ≤ 8 ∧ i = .int .i64 ((k : Int) + 1) ∧ NewS w.heap.size wr v (Tm.noneL k) ∧ Below w.heap.size w wr) (fun _ i _ => 9 - (intOf i).toNat)
  case atStart => exact ⟨0, Nat.zero_le _, rfl, NewS.nil _ _, Below.refl _ _⟩
  case round =>
    obtain ⟨k, hk, rfl, hN, hB⟩ := hrel
    by_cases hlt : k < 8
    · have hlt' : (k : Int) + 1 ≤ 8 := by omega
      have hsn : Hid (Tm.noneL (k + 1) = Tm.noneL k ++ [[-((k : Int) + 1)]]) := by
        show _ = _
        rw [Tm.noneL_succ, show (-1 : Int) - (k : Int) = -((k : Int) + 1) from by omega]
      have Hln := hid (Tm.noneL_length k)
      obtain ⟨a0, c0, rfl, _⟩ := NewS.subs hN
      have hu := New.lit w.heap.size wr [-((k : Int) + 1)] hB.size (by unfold maxLen; simp)
      simp only [List.map_cons, List.map_nil, List.length_cons, List.length_nil, Nat.zero_add] at hu
      have hA : Below w.heap.size w (((wr.alloc (.cells #[.int .i64 (-((k : Int) + 1))] 3)).alloc (.cells #[.slice (some ⟨wr.heap.size, 0, none⟩) 1 1] 23))) := (hB.alloc hB.size _).alloc (by have := hB.size; simp; omega) _
      have HN2 := hid ((hN.alloc (.cells #[.int .i64 (-((k : Int) + 1))] 3)).alloc (.cells #[.slice (some ⟨wr.heap.size, 0, none⟩) 1 1] 23))
      have Hu2 := hid (hu.alloc (.cells #[.slice (some ⟨wr.heap.size, 0, none⟩) 1 1] 23))
      have Hcn := hid (cell_new (wr.alloc (.cells #[.int .i64 (-((k : Int) + 1))] 3)) (.slice (some ⟨wr.heap.size, 0, none⟩) 1 1) 23 (wr.heap.size + 1) (by simp))
      clear hu
      go_wp2_with (at_builtin; go_loud (refine wp_append_sub _ rfl _ _ rfl w.heap.size _ (Tm.noneL k) rfl HN2.out (.slice (some ⟨wr.heap.size, 0, none⟩) 1 1) [-((k : Int) + 1)] (wr.heap.size + 1) rfl Hcn.out Hu2.out (by rw [Hln.out]; omega) hA.size ?_); intro v' w2 hN3 hB3; obtain ⟨a2, c2, rfl, _⟩ := NewS.subs hN3)
      go_roundw
      case rel => exact ⟨k + 1, by omega, by go_num, by rw [hsn.out]; simpa using hN3, hA.trans hB3⟩
      case measure => simp [intOf]; omega
    · obtain rfl : k = 8 := by omega
      obtain ⟨a2, c2, rfl, _⟩ := NewS.subs hN
      go_wp2
      go_ret
      exact ⟨_, rfl, hN, hB⟩

/-- One of the lists is stored anew. -/
theorem NewS.set {base : Nat} {W : World} {g c n : Nat} {ss : List (List Int)} (h : NewS base W (.slice (some ⟨g, 0, none⟩) n c) ss) (hn : n = ss.length) {u : Value} {t : List Int} (hu : New base W u t) (j : Nat) :
    NewS base (W.setCell ⟨g, j, none⟩ u) (.slice (some ⟨g, 0, none⟩) n c) (ss.set j t) := by
  subst hn
  obtain ⟨us, h1, h2⟩ := h
  have hul : us.length = ss.length := by have := h1.1; omega
  have hkeep : ∀ (u' : Value) (t' : List Int), New base W u' t' → New base (W.setCell ⟨g, j, none⟩ u) u' t' := fun u' t' hN' => World.ownsRow.kept hN' (grownBy_setCell1 W g j u) (by
    have := New.apart hN' h1
    simpa [Value.ownBlock] using this)
  refine ⟨us.set j u, ?_, fun i hi => ?_⟩
  · have := World.ownsRow.stored h1 j u
    rw [List.length_set]
    exact this.1
  · rw [List.length_set] at hi
    by_cases e : i = j
    · subst e
      refine ⟨u, by simp [hul, hi], ?_⟩
      simpa [hi] using hkeep u t hu
    · obtain ⟨u', hu', hN'⟩ := h2 i hi
      have e' : ¬ j = i := fun h => e h.symm
      refine ⟨u', by rw [List.getElem?_set_ne e']; exact hu', ?_⟩
      rw [List.getElem?_set_ne e']
      exact hkeep u' _ hN'

end Go.Proofs.Ytbelnlemjcoifaa
