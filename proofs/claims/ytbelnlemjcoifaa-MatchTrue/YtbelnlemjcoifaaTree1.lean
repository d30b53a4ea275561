/-
  TREES IN MEMORY: haspref.grown and haspref.treeOf make a tree that holds the term's signs.
-/
import Derived.Test.YtbelnlemjcoifaaFit3
import Derived.Maps.AppendAt
namespace Go.Proofs.Ytbelnlemjcoifaa
open Go.Proofs Go.RowKit Go.Shelf Go.Maps

abbrev ptr (X : Nat) : Value := .pointer (some ⟨X, 0, none⟩)
/-- v is a slice of the pointers to Xs, its cells in blocks from lo to hi. -/
def PartsAt (lo hi : Nat) (W : World) (v : Value) (Xs : List Nat) : Prop := ∃ a c, v = .slice a Xs.length c ∧ ∀ j, j < Xs.length → ∃ b off, a = some ⟨b, off, none⟩ ∧ lo ≤ b ∧ b < hi ∧ W.cell? ⟨b, off + j, none⟩ = some (ptr (Xs[j]?.getD 0))
/-- BLOCK X IS A TREE, all of it in blocks from lo to hi, whose signs are zs. -/
inductive TreeIn (lo hi : Nat) (W : World) : Nat → List Int → Prop
  | mk (X : Nat) (s : Int) (v : Value) (Xs : List Nat) (zss : List (List Int)) : lo ≤ X → X < hi → Node W X s v → PartsAt lo hi W v Xs → Xs.length = Tm.room s → zss.length = Xs.length →
      (∀ j, j < Xs.length → TreeIn lo hi W (Xs[j]?.getD 0) (zss[j]?.getD [])) → TreeIn lo hi W X (s :: zss.flatten)

theorem PartsAt.keep {lo hi lo' hi' : Nat} {W W' : World} {v : Value} {Xs : List Nat} (h : PartsAt lo hi W v Xs) (h1 : lo' ≤ lo) (h2 : hi ≤ hi') (hk : ∀ k, lo ≤ k → k < hi → W'.heap[k]? = W.heap[k]?) : PartsAt lo' hi' W' v Xs := by
  obtain ⟨a, c, rfl, hc⟩ := h
  refine ⟨a, c, rfl, fun j hj => ?_⟩
  obtain ⟨b, off, e, hb1, hb2, hcell⟩ := hc j hj
  exact ⟨b, off, e, by omega, by omega, (World.cell?_of_block (a := ⟨b, off + j, none⟩) (hk b hb1 hb2)).trans hcell⟩
theorem TreeIn.keep {lo hi lo' hi' : Nat} {W W' : World} {X : Nat} {zs : List Int} (h : TreeIn lo hi W X zs) (h1 : lo' ≤ lo) (h2 : hi ≤ hi') (hk : ∀ k, lo ≤ k → k < hi → W'.heap[k]? = W.heap[k]?) : TreeIn lo' hi' W' X zs := by
  induction h with
  | mk X s v Xs zss hX1 hX2 hN hP hr hl _ ih =>
    exact TreeIn.mk X s v Xs zss (by omega) (by omega) ((hk X hX1 hX2).trans hN) (hP.keep h1 h2 hk) hr hl ih
theorem TreeIn.under {lo hi n : Nat} {W W' : World} {X : Nat} {zs : List Int} (h : TreeIn lo hi W X zs) (hB : Below n W W') (hn : hi ≤ n) : TreeIn lo hi W' X zs :=
  h.keep (Nat.le_refl _) (Nat.le_refl _) fun k _ hk => hB.block k (by omega)
theorem TreeIn.wide {lo hi lo' hi' : Nat} {W : World} {X : Nat} {zs : List Int} (h : TreeIn lo hi W X zs) (h1 : lo' ≤ lo) (h2 : hi ≤ hi') : TreeIn lo' hi' W X zs := h.keep h1 h2 fun _ _ _ => rfl

/-- The first m parts, one behind the other. -/
theorem Tm.parts_flat {zs : List Int} {m : Nat} (hm : Tm.pos zs 0 (m + 1) ≤ zs.length) : (zs.take (Tm.pos zs 0 (m + 1))).drop 1 = (zs.take (Tm.pos zs 0 m)).drop 1 ++ (zs.drop (Tm.pos zs 0 m)).take (Tm.pos zs 0 (m + 1) - Tm.pos zs 0 m) := by
  have h1 := Tm.pos_mono zs 0 m (m + 1) (by omega)
  have h0 : 1 ≤ Tm.pos zs 0 m := Tm.pos_gt zs 0 m
  rw [show zs.take (Tm.pos zs 0 (m + 1)) = zs.take (Tm.pos zs 0 m) ++ (zs.drop (Tm.pos zs 0 m)).take (Tm.pos zs 0 (m + 1) - Tm.pos zs 0 m) from by
    rw [← List.take_add]; congr 1; omega]
  rw [List.drop_append_of_le_length]
  simp only [List.length_take]
  omega

/-- The state of grown's loop: m parts are there. -/
def GrownSt (base : Nat) (wr : World) (zs : List Int) (m : Nat) (v : Value) (xs : List Value) : Prop :=
  ∃ (Xs : List Nat) (zss : List (List Int)), Xs.length = m ∧ zss.length = m ∧ xs = Xs.map ptr ∧ zss.flatten = (zs.take (Tm.pos zs 0 m)).drop 1 ∧
    ∀ j, j < m → ∃ lo hi, base < lo ∧ hi ≤ wr.heap.size ∧ TreeIn lo hi wr (Xs[j]?.getD 0) (zss[j]?.getD []) ∧ ∀ k, v.ownBlock = some k → k < lo ∨ hi ≤ k
theorem GrownSt.start (base : Nat) (wr : World) (zs : List Int) (v : Value) (xs : List Value) (h : xs = []) : GrownSt base wr zs 0 v xs :=
  ⟨[], [], rfl, rfl, by rw [h]; rfl, by rw [Tm.pos_zero]; simp, fun j hj => by omega⟩
/-- One part more: made between sizes lo and hi; then appended. -/
theorem GrownSt.step {base lo hi : Nat} {wr w2 w3 : World} {zs pt : List Int} {m : Nat} {v v' : Value} {xs : List Value} {p : Nat} (h : GrownSt base wr zs m v xs) (hlo : lo = wr.heap.size) (hb : base < lo) (hlo2 : lo ≤ hi) (hB1 : ∀ k, k < lo → w2.heap[k]? = wr.heap[k]?)
    (hT : TreeIn lo hi w2 p pt) (hown : ∀ k, v.ownBlock = some k → k < lo) (hown' : v'.ownBlock = v.ownBlock ∨ ∃ q, v'.ownBlock = some q ∧ hi ≤ q) (hs3 : hi ≤ w3.heap.size)
    (hk : ∀ k, base < k → k < hi → (∀ q, v.ownBlock = some q → k ≠ q) → w3.heap[k]? = w2.heap[k]?)
    (hpt : pt = (zs.drop (Tm.pos zs 0 m)).take (Tm.pos zs 0 (m + 1) - Tm.pos zs 0 m)) (hle : Tm.pos zs 0 (m + 1) ≤ zs.length) : GrownSt base w3 zs (m + 1) v' (xs ++ [ptr p]) := by
  obtain ⟨Xs, zss, h1, h2, h3, h4, h5⟩ := h
  refine ⟨Xs ++ [p], zss ++ [pt], by simp [h1], by simp [h2], by simp [h3], by rw [List.flatten_append, h4, Tm.parts_flat hle, hpt]; simp, fun j hj => ?_⟩
  by_cases hjm : j < m
  · obtain ⟨l, h, e1, e2, hTj, e3⟩ := h5 j hjm
    refine ⟨l, h, e1, by omega, ?_, ?_⟩
    · rw [List.getElem?_append_left (by omega), List.getElem?_append_left (by omega)]
      refine hTj.keep (Nat.le_refl _) (Nat.le_refl _) fun k hk1 hk2 => ?_
      rw [hk k (by omega) (by omega) (fun q hq => by have := e3 q hq; omega), hB1 k (by omega)]
    · intro k hk'
      rcases hown' with e | ⟨q, e, hq⟩
      · exact e3 k (by rw [← e]; exact hk')
      · rw [e] at hk'
        have : q = k := by simpa using hk'
        exact .inr (by omega)
  · obtain rfl : j = m := by omega
    refine ⟨lo, hi, hb, hs3, ?_, ?_⟩
    · rw [List.getElem?_append_right (by omega), List.getElem?_append_right (by omega), h1, h2]
      simp only [Nat.sub_self, List.getElem?_cons_zero, Option.getD_some]
      refine hT.keep (Nat.le_refl _) (Nat.le_refl _) fun k hk1 hk2 => hk k (by omega) hk2 (fun q hq => by have := hown q hq; omega)
    · intro k hk'
      rcases hown' with e | ⟨q, e, hq⟩
      · exact .inl (hown k (by rw [← e]; exact hk'))
      · rw [e] at hk'
        have : q = k := by simpa using hk'
        exact .inr (by omega)
/-- All parts are there. -/
theorem GrownSt.done {base r : Nat} {wr : World} {zs : List Int} {s : Int} {v : Value} {xs : List Value} (h : GrownSt base wr zs r v xs) (hN : Node wr base s v) (hown : wr.ownsRow (base + 1) 80 1 v r xs) (hr : r = Tm.room s) (hs : zs[0]?.getD 0 = s) (h0 : 0 < zs.length) :
    TreeIn base wr.heap.size wr base (zs.take (Tm.pos zs 0 r)) := by
  obtain ⟨Xs, zss, h1, h2, h3, h4, h5⟩ := h
  have hz : zs.take (Tm.pos zs 0 r) = s :: zss.flatten := by
    rw [h4]
    have hp : 0 < Tm.pos zs 0 r := Tm.pos_gt zs 0 r
    cases zs with
    | nil => simp at h0
    | cons a l =>
      simp at hs
      subst hs
      obtain ⟨q, hq⟩ : ∃ q, Tm.pos (a :: l) 0 r = q + 1 := ⟨Tm.pos (a :: l) 0 r - 1, by omega⟩
      rw [hq]
      simp
  rw [hz]
  refine TreeIn.mk base s v Xs zss (Nat.le_refl _) hN.lt hN ?_ (by omega) (by omega) (fun j hj => ?_)
  · rcases hown.2 with ⟨rfl, hn⟩ | ⟨g, cap, cur, rfl, hb, hg, _⟩
    · exact ⟨none, 0, by rw [h1, hn], fun j hj => by omega⟩
    · refine ⟨_, cap, by rw [h1], fun j hj => ⟨g, 0, rfl, by omega, (Array.getElem?_eq_some_iff.1 hg).1, ?_⟩⟩
      have h5 := World.ownsRow.cellAt hown j (by omega)
      rw [Nat.zero_add, h5, h3]
      simp [hj]
  · obtain ⟨lo, hi, e1, e2, hT, _⟩ := h5 j (by omega)
    exact hT.wide (by omega) e2

end Go.Proofs.Ytbelnlemjcoifaa
