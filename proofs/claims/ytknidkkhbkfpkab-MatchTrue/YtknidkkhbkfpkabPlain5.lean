/-
  haspref.plain, PlainOf.
-/
import Derived.Test.YtknidkkhbkfpkabPlain4
namespace Go.Proofs.Ytknidkkhbkfpkab
open Go.Proofs Go.RowKit Go.Shelf Go.Maps

theorem New.drewN {base : Nat} {W : World} {v : Value} {zs : List Int} (h : New base W v zs) (d : Nat) : New base (W.drewN d) v zs := h
theorem New.own_lt {base : Nat} {W : World} {g n c : Nat} {zs : List Int} (h : New base W (.slice (some ⟨g, 0, none⟩) n c) zs) : base ≤ g ∧ g < W.heap.size := World.ownsRow.lt h g rfl
theorem New.at0 {base : Nat} {W : World} {v : Value} {zs : List Int} (h : New base W v zs) (h0 : 0 < zs.length) : ∃ g c, v = .slice (some ⟨g, 0, none⟩) zs.length c ∧ (∀ j, j < zs.length → W.cell? ⟨g, j, none⟩ = some (.int .i64 (zs[j]?.getD 0))) ∧ ∀ j, W.frozen? ⟨g, j, none⟩ = false := by
  obtain ⟨m, hm⟩ : ∃ m, zs.length = m + 1 := ⟨zs.length - 1, by omega⟩
  have h' : W.ownsRow base 3 1 v (m + 1) (zs.map (Value.int .i64)) := by rw [← hm]; exact h
  obtain ⟨g, c, rfl⟩ := ownsRow_succ h'
  rw [← hm] at h'
  refine ⟨g, c, by rw [hm], fun j hj => ?_, fun j => ?_⟩
  · have := World.ownsRow.cellAt (by rw [hm] at h'; exact h') j (by omega)
    rw [this]
    simp [hj]
  · exact World.ownsRow.frozenAt (by rw [hm] at h'; exact h') j

/-- haspref.plain, one round: what stands before it and behind it. -/
def PlainSt (w W1 : World) (t : List Int) (g n c k : Nat) (vs : Value) (wr : World) : Prop :=
  New W1.heap.size wr vs (Tm.seenFrom [] (t.take k)) ∧ New w.heap.size wr (.slice (some ⟨g, 0, none⟩) n c) (Tm.half t k) ∧ Below w.heap.size w wr ∧ W1.heap.size ≤ wr.heap.size

theorem PlainSt.same {w W1 : World} {t : List Int} {g n c k : Nat} {vs : Value} {wr : World} (h : PlainSt w W1 t g n c k vs wr) (hk : k < t.length) (hs : 0 ≤ t[k]?.getD 0) : PlainSt w W1 t g n c (k + 1) vs wr := by
  obtain ⟨h1, h2, h3, h4⟩ := h
  refine ⟨?_, ?_, h3, h4⟩
  · rw [Tm.seen_succ [] hk, Tm.see_same hs]; exact h1
  · rw [Tm.half_same hk hs]; exact h2

theorem PlainSt.store {w W1 : World} {t : List Int} {g n c k : Nat} {vs : Value} {wr : World} (hg : g < W1.heap.size) (hn : n = t.length) (hk : k < t.length)
    (h1 : New W1.heap.size wr vs (Tm.seenFrom [] (t.take (k + 1)))) (h2 : New w.heap.size wr (.slice (some ⟨g, 0, none⟩) n c) (Tm.half t k)) (h3 : Below w.heap.size w wr) (h4 : W1.heap.size ≤ wr.heap.size)
    (x : Int) (hx : x = Tm.name (Tm.seenFrom [] (t.take k)) (t[k]?.getD 0)) : PlainSt w W1 t g n c (k + 1) vs (wr.setCell ⟨g, k, none⟩ (.int .i64 x)) := by
  have hgr := grownBy_setCell1 wr g k (.int .i64 x)
  refine ⟨World.ownsRow.kept h1 hgr (.inr fun e => ?_), ?_, h3.setCell (p := ⟨g, k, none⟩) h2.own_lt.1 _, Nat.le_trans h4 hgr.size⟩
  · have := (World.ownsRow.lt h1 g e).1
    omega
  · rw [Tm.half_succ hk, ← hx]
    exact h2.set (by rw [Tm.half_length (by omega)]; exact hn) k x

end Go.Proofs.Ytknidkkhbkfpkab
