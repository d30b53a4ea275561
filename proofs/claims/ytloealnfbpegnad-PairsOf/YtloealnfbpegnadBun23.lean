/-
  hasplaw.normBegun.
-/
import Derived.Test.YtloealnfbpegnadBun22
namespace Go.Proofs.Ytloealnfbpegnad
open Go.Proofs Go.RowKit Go.Shelf Go.Maps

theorem Tm.n1 : Tm.form groupL [4, 4, 0, 1, 0] = ([4, 1, 0], 2, 0) := by decide +kernel
theorem Tm.n2 : Tm.isForm groupL [4, 1, 0] = true := by decide +kernel
theorem Tm.n3 : Tm.stepErr groupL [4, 1, 0] = 0 := by decide +kernel
theorem Tm.n4 : Tm.form [([2, -1], [2, -1])] [4, -1, 2, 0] = ([], 0, 2) := by decide +kernel
theorem Tm.n5 : Tm.form [([2, -1], [2, 2, -1])] [4, -1, 2, 0] = ([], 0, 2) := by decide +kernel

/-- Form of group, of a literal. -/
theorem n_form (t u : List Int) (n : Nat) (k : Nat) (a : Option Addr) (w : World) (hn : n = t.length) (hl : t.length ≤ 1000) (hI : RulesAt w.heap.size w a groupL) (h : Tm.form groupL t = (u, k, 0)) :
    Calls Try.prog 15 #[.slice a 3 3, .slice (some ⟨w.heap.size, 0, none⟩) n n] (w.alloc (.cells (t.map (Value.int .i64)).toArray 3)) fun e w' => ∃ v, e = .returned (.tuple #[v, .int .i64 (k : Int), .int .i64 0]) ∧ New w.heap.size w' v u ∧ Below w.heap.size w w' := by
  subst hn
  have hB : Below w.heap.size w (w.alloc (.cells (t.map (Value.int .i64)).toArray 3)) := (Below.refl _ _).alloc (Nat.le_refl _) _
  refine (form_any groupL t a _ 3 t.length _ ((hI.below hB).mono hB.size) (ints_lit w t _ (by simp)) (Nat.le_refl _) (by unfold maxLen; omega)).mono ?_
  rintro e w' ⟨v, rfl, hN, hB'⟩
  rw [h] at hN
  exact ⟨v, by rw [h], hN.mono hB.size, hB.trans (hB'.mono hB.size)⟩
theorem n_is (t : List Int) (n : Nat) (a : Option Addr) (w : World) (hn : n = t.length) (hl : t.length ≤ 1000) (hI : RulesAt w.heap.size w a groupL) (h1 : Tm.isForm groupL t = true) (h2 : Tm.stepErr groupL t = 0) :
    Calls Try.prog 16 #[.slice a 3 3, .slice (some ⟨w.heap.size, 0, none⟩) n n] (w.alloc (.cells (t.map (Value.int .i64)).toArray 3)) fun e w' => e = .returned (.tuple #[.bool true, .int .i64 0]) ∧ Below w.heap.size w w' := by
  subst hn
  have hB : Below w.heap.size w (w.alloc (.cells (t.map (Value.int .i64)).toArray 3)) := (Below.refl _ _).alloc (Nat.le_refl _) _
  refine (isForm_any groupL t a _ 3 t.length _ ((hI.below hB).mono hB.size) (ints_lit w t _ (by simp)) (Nat.le_refl _) (by unfold maxLen; omega)).mono ?_
  rintro e w' ⟨rfl, hB'⟩
  exact ⟨by rw [h1, h2], hB.trans (hB'.mono hB.size)⟩
/-- Form of one literal rule, of f(x,g(a)). -/
theorem n_many (rs : RuleL) (n : Nat) (a b : Option Addr) (w : World) (hn : n = rs.length) (hI : RulesAt w.heap.size w a rs) (hT : Ints w.heap.size w b [4, -1, 2, 0]) (h : Tm.form rs [4, -1, 2, 0] = ([], 0, 2)) :
    Calls Try.prog 15 #[.slice a n n, .slice b 4 4] w fun e w' => ∃ v, e = .returned (.tuple #[v, .int .i64 0, .int .i64 2]) ∧ New w.heap.size w' v [] ∧ Below w.heap.size w w' := by
  subst hn
  refine (form_any rs [4, -1, 2, 0] a b rs.length 4 w hI hT (by simp) (by unfold maxLen; omega)).mono ?_
  rintro e w' ⟨v, rfl, hN, hB'⟩
  rw [h] at hN
  exact ⟨v, by rw [h]; rfl, hN, hB'⟩

end Go.Proofs.Ytloealnfbpegnad
