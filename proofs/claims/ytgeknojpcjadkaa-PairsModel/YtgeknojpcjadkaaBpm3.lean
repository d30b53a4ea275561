/-
  PLAIN MATHEMATICS of fitting: sign by sign, what the variables of p must become. · slices.Equal; match.fit. · match.firstError, match.Fit. · TREES IN MEMORY: haspref.grown and haspref.treeOf make a tree that holds the term's signs. · haspref.grown, haspref.treeOf: the tree of a term; haspref.flat: its signs. · haspref.flat: a tree's signs. · PLAIN MATHEMATICS: fitting part by part is fitting sign by sign; what a tree holds is a term. · PLAIN MATHEMATICS of the order: 'Gt r a b': by the ranks r the term a is above b. It is an order: who is above who is above is above; nothing is above itself. · haspref.fit: tree against tree, as sign by sign. · haspref.twoErrors, haspref.fitted, haspref.FitOf. · signs.Places: the iterator over all places.
-/
import Derived.Test.YtgeknojpcjadkaaBpm2
import Derived.Maps.AppendAt
import Derived.Deep.RegionHeld3
namespace Go.Proofs.Ytgeknojpcjadkaa
open Go.Proofs Go.RowKit Go.Shelf Go.Maps

abbrev Asg := Int → Option (List Int)
/-- From place k of t on, against the signs that are left. -/
def Tm.fitGo (t : List Int) : List Int → Nat → Asg → Option Asg
  | [], _, m => some m
  | s :: p, k, m => if s < 0 then (if (m s).isSome = true ∧ m s ≠ some (Tm.part t k) then none else Tm.fitGo t p (Tm.endAt t k) (upd m s (Tm.part t k))) else if t[k]?.getD 0 = s then Tm.fitGo t p (k + 1) m else none
def Tm.fit (p t : List Int) : Option Asg := Tm.fitGo t p 0 (fun _ => none)

theorem Tm.fitGo_nil (t : List Int) (k : Nat) (m : Asg) : Tm.fitGo t [] k m = some m := rfl
/-- As many terms are left of p as of t. -/
def Against (p t : List Int) (i k : Nat) : Prop := ∃ o, Tm.run (p.drop i) o = p.length - i ∧ Tm.run (t.drop k) o = t.length - k ∧ i ≤ p.length ∧ k ≤ t.length
theorem Against.start {p t : List Int} (hp : Tm.err p = 0) (ht : Tm.err t = 0) : Against p t 0 0 := ⟨1, by simpa using Tm.err_run hp, by simpa using Tm.err_run ht, by omega, by omega⟩
theorem Against.pos {p t : List Int} {i k : Nat} (h : Against p t i k) (hi : i < p.length) : k < t.length := by
  obtain ⟨o, h1, h2, h3, h4⟩ := h
  have ho : o ≠ 0 := by rintro rfl; rw [Tm.run_zero] at h1; omega
  have := Tm.run_ge (t.drop k) o
  omega
theorem Tm.room_neg {s : Int} (h : s < 0) : Tm.room s = 0 := by unfold Tm.room; rw [if_neg (by omega), if_neg (by omega)]
theorem Against.var {p t : List Int} {i k : Nat} (h : Against p t i k) (hi : i < p.length) (hs : p[i]?.getD 0 < 0) : Against p t (i + 1) (Tm.endAt t k) := by
  have hk := h.pos hi
  obtain ⟨o, h1, h2, h3, h4⟩ := h
  have ho : o ≠ 0 := by rintro rfl; rw [Tm.run_zero] at h1; omega
  obtain ⟨o, rfl⟩ : ∃ o', o = o' + 1 := ⟨o - 1, by omega⟩
  rw [Tm.run_step hi, Tm.room_neg hs] at h1
  rw [Nat.add_comm o 1, Tm.run_add] at h2
  have hle : Tm.endAt t k ≤ t.length := by
    rw [show Tm.endAt t k = k + Tm.run (t.drop k) 1 from rfl]
    omega
  refine ⟨o, by simpa using (by omega : Tm.run (p.drop (i + 1)) (o + 0) = p.length - (i + 1)), ?_, by omega, hle⟩
  rw [List.drop_drop] at h2
  rw [show Tm.endAt t k = k + Tm.run (t.drop k) 1 from rfl] at hle ⊢
  omega
theorem Against.sym {p t : List Int} {i k : Nat} (h : Against p t i k) (hi : i < p.length) (he : t[k]?.getD 0 = p[i]?.getD 0) : Against p t (i + 1) (k + 1) := by
  have hk := h.pos hi
  obtain ⟨o, h1, h2, h3, h4⟩ := h
  have ho : o ≠ 0 := by rintro rfl; rw [Tm.run_zero] at h1; omega
  obtain ⟨o, rfl⟩ : ∃ o', o = o' + 1 := ⟨o - 1, by omega⟩
  rw [Tm.run_step hi] at h1
  rw [Tm.run_step hk, he] at h2
  exact ⟨o + Tm.room (p[i]?.getD 0), by omega, by omega, by omega, by omega⟩
/-- A value that is a slice which reads zs, all below block n. -/
def Reads (n : Nat) (W : World) (v : Value) (zs : List Int) : Prop := ∃ b off c, v = .slice (some ⟨b, off, none⟩) zs.length c ∧ Ints n W (some ⟨b, off, none⟩) zs ∧ zs.length ≤ c ∧ c ≤ maxLen ∧ zs.length ≤ 30
theorem Reads.below {n : Nat} {W W' : World} {v : Value} {zs : List Int} (h : Reads n W v zs) (hB : Below n W W') : Reads n W' v zs := by
  obtain ⟨b, off, c, rfl, hI, h1⟩ := h
  exact ⟨b, off, c, rfl, hI.below hB, h1⟩
/-- BLOCK bm IS THE MAP OF WHAT VARIABLES BECOME. -/
def FitAt (n : Nat) (W : World) (bm N : Nat) (m : Asg) : Prop := ∃ M, IntMap W bm N M ∧ (∀ s, m s = none → M s = none) ∧ ∀ s zs, m s = some zs → ∃ v, M s = some v ∧ Reads n W v zs
theorem FitAt.upd {n : Nat} {W W' : World} {bm N : Nat} {m : Asg} {s : Int} {v : Value} {zs : List Int} {M : Int → Option Value} (h1 : ∀ s, m s = none → M s = none) (h2 : ∀ s zs, m s = some zs → ∃ v, M s = some v ∧ Reads n W v zs)
    (h3 : IntMap W' bm N (upd M s v)) (hB : Below n W W') (hv : Reads n W v zs) : FitAt n W' bm N (upd m s zs) := by
  refine ⟨_, h3, fun x hx => ?_, fun x ys hx => ?_⟩
  · by_cases e : x = s
    · subst e; rw [upd_same] at hx; cases hx
    · rw [upd_other _ _ e] at hx ⊢; exact h1 x hx
  · by_cases e : x = s
    · subst e; rw [upd_same] at hx; cases hx; exact ⟨v, upd_same _ _ _, hv.below hB⟩
    · rw [upd_other _ _ e] at hx
      obtain ⟨u, hu, hr⟩ := h2 x ys hx
      exact ⟨u, by rw [upd_other _ _ e]; exact hu, hr.below hB⟩

/-- What comes: what has been found for the first k variables; all others become themselves. -/
def Tm.fitL (m : Asg) (k : Nat) : List (List Int) := (List.range 8).map fun i : Nat => if i < k then (m (-1 - (i : Int))).getD [-1 - (i : Int)] else [-1 - (i : Int)]
theorem Tm.fitL_length (m : Asg) (k : Nat) : (Tm.fitL m k).length = 8 := by simp [Tm.fitL]
def Tm.fitErr (p t : List Int) : Int := Tm.firstErr [p, t]
def Tm.fitIs (p t : List Int) : Bool := if Tm.fitErr p t = 0 then (Tm.fit p t).isSome else false
def Tm.fitOut : Option Asg → List (List Int)
  | some m => Tm.fitL m 8
  | none => []
def Tm.fitVal (p t : List Int) : List (List Int) := if Tm.fitErr p t = 0 then Tm.fitOut (Tm.fit p t) else []
theorem Tm.fitErr_ok {p t : List Int} (h : Tm.fitErr p t = 0) : Tm.err p = 0 ∧ Tm.err t = 0 := by
  have := Tm.firstErr_all h
  exact ⟨by simpa using this 0 (by simp), by simpa using this 1 (by simp)⟩
end Go.Proofs.Ytgeknojpcjadkaa

namespace Go.Proofs.Ytgeknojpcjadkaa
open Go.Proofs Go.RowKit Go.Shelf Go.Maps

/-- What fit answers. -/
def FitAns (w w' : World) (e : Ending) : Option Asg → Prop
  | none => e = .returned (.tuple #[.map none, .bool false])
  | some m => ∃ bm N, e = .returned (.tuple #[.map (some bm), .bool true]) ∧ w.heap.size ≤ bm ∧ FitAt w.heap.size w' bm N m

end Go.Proofs.Ytgeknojpcjadkaa

namespace Go.Proofs.Ytgeknojpcjadkaa
open Go.Proofs Go.RowKit Go.Shelf Go.Maps

end Go.Proofs.Ytgeknojpcjadkaa

namespace Go.Proofs.Ytgeknojpcjadkaa
open Go.Proofs Go.RowKit Go.Shelf Go.Maps

abbrev ptr (X : Nat) : Value := .pointer (some ⟨X, 0, none⟩)
/-- v is a slice of the pointers to Xs, its cells in blocks from lo to hi. -/
def PartsAt (lo hi : Nat) (W : World) (v : Value) (Xs : List Nat) : Prop := ∃ a c, v = .slice a Xs.length c ∧ ∀ j, j < Xs.length → ∃ b off, a = some ⟨b, off, none⟩ ∧ lo ≤ b ∧ b < hi ∧ W.cell? ⟨b, off + j, none⟩ = some (ptr (Xs[j]?.getD 0))
/-- BLOCK X IS A TREE, all of it in blocks from lo to hi, whose signs are zs. -/
inductive TreeIn (lo hi : Nat) (W : World) : Nat → List Int → Prop
  | mk (X : Nat) (s : Int) (v : Value) (Xs : List Nat) (zss : List (List Int)) : lo ≤ X → X < hi → Node W X s v → PartsAt lo hi W v Xs → Xs.length = Tm.room s → zss.length = Xs.length →
      (∀ j, j < Xs.length → TreeIn lo hi W (Xs[j]?.getD 0) (zss[j]?.getD [])) → TreeIn lo hi W X (s :: zss.flatten)

theorem PartsAt.keep {lo hi lo' hi' : Nat} {W W' : World} {v : Value} {Xs : List Nat} (h : PartsAt lo hi W v Xs) (h1 : lo' ≤ lo) (h2 : hi ≤ hi') (hk : ∀ k, lo ≤ k → k < hi → W'.heap[k]? = W.heap[k]?) : PartsAt lo' hi' W' v Xs := by
  obtain ⟨a, c, rfl, hc⟩ := h
  refine ⟨a, c, rfl, fun j hj => ?_⟩
  obtain ⟨b, off, e, hb1, hb2, hcell⟩ := hc j hj
  exact ⟨b, off, e, by omega, by omega, (World.cell?_of_block (a := ⟨b, off + j, none⟩) (hk b hb1 hb2)).trans hcell⟩
theorem TreeIn.keep {lo hi lo' hi' : Nat} {W W' : World} {X : Nat} {zs : List Int} (h : TreeIn lo hi W X zs) (h1 : lo' ≤ lo) (h2 : hi ≤ hi') (hk : ∀ k, lo ≤ k → k < hi → W'.heap[k]? = W.heap[k]?) : TreeIn lo' hi' W' X zs := by
  induction h with
  | mk X s v Xs zss hX1 hX2 hN hP hr hl _ ih =>
    exact TreeIn.mk X s v Xs zss (by omega) (by omega) ((hk X hX1 hX2).trans hN) (hP.keep h1 h2 hk) hr hl ih
theorem TreeIn.under {lo hi n : Nat} {W W' : World} {X : Nat} {zs : List Int} (h : TreeIn lo hi W X zs) (hB : Below n W W') (hn : hi ≤ n) : TreeIn lo hi W' X zs :=
  h.keep (Nat.le_refl _) (Nat.le_refl _) fun k _ hk => hB.block k (by omega)
theorem TreeIn.wide {lo hi lo' hi' : Nat} {W : World} {X : Nat} {zs : List Int} (h : TreeIn lo hi W X zs) (h1 : lo' ≤ lo) (h2 : hi ≤ hi') : TreeIn lo' hi' W X zs := h.keep h1 h2 fun _ _ _ => rfl

/-- The first m parts, one behind the other. -/
theorem Tm.parts_flat {zs : List Int} {m : Nat} (hm : Tm.pos zs 0 (m + 1) ≤ zs.length) : (zs.take (Tm.pos zs 0 (m + 1))).drop 1 = (zs.take (Tm.pos zs 0 m)).drop 1 ++ (zs.drop (Tm.pos zs 0 m)).take (Tm.pos zs 0 (m + 1) - Tm.pos zs 0 m) := by
  have h1 := Tm.pos_mono zs 0 m (m + 1) (by omega)
  have h0 : 1 ≤ Tm.pos zs 0 m := Tm.pos_gt zs 0 m
  rw [show zs.take (Tm.pos zs 0 (m + 1)) = zs.take (Tm.pos zs 0 m) ++ (zs.drop (Tm.pos zs 0 m)).take (Tm.pos zs 0 (m + 1) - Tm.pos zs 0 m) from by
    rw [← List.take_add]; congr 1; omega]
  rw [List.drop_append_of_le_length]
  simp only [List.length_take]
  omega

/-- The state of grown's loop: m parts are there. -/
def GrownSt (base : Nat) (wr : World) (zs : List Int) (m : Nat) (v : Value) (xs : List Value) : Prop :=
  ∃ (Xs : List Nat) (zss : List (List Int)), Xs.length = m ∧ zss.length = m ∧ xs = Xs.map ptr ∧ zss.flatten = (zs.take (Tm.pos zs 0 m)).drop 1 ∧
    ∀ j, j < m → ∃ lo hi, base < lo ∧ hi ≤ wr.heap.size ∧ TreeIn lo hi wr (Xs[j]?.getD 0) (zss[j]?.getD []) ∧ ∀ k, v.ownBlock = some k → k < lo ∨ hi ≤ k
theorem GrownSt.start (base : Nat) (wr : World) (zs : List Int) (v : Value) (xs : List Value) (h : xs = []) : GrownSt base wr zs 0 v xs :=
  ⟨[], [], rfl, rfl, by rw [h]; rfl, by rw [Tm.pos_zero]; simp, fun j hj => by omega⟩
/-- One part more: made between sizes lo and hi; then appended. -/
theorem GrownSt.step {base lo hi : Nat} {wr w2 w3 : World} {zs pt : List Int} {m : Nat} {v v' : Value} {xs : List Value} {p : Nat} (h : GrownSt base wr zs m v xs) (hlo : lo = wr.heap.size) (hb : base < lo) (hlo2 : lo ≤ hi) (hB1 : ∀ k, k < lo → w2.heap[k]? = wr.heap[k]?)
    (hT : TreeIn lo hi w2 p pt) (hown : ∀ k, v.ownBlock = some k → k < lo) (hown' : v'.ownBlock = v.ownBlock ∨ ∃ q, v'.ownBlock = some q ∧ hi ≤ q) (hs3 : hi ≤ w3.heap.size)
    (hk : ∀ k, base < k → k < hi → (∀ q, v.ownBlock = some q → k ≠ q) → w3.heap[k]? = w2.heap[k]?)
    (hpt : pt = (zs.drop (Tm.pos zs 0 m)).take (Tm.pos zs 0 (m + 1) - Tm.pos zs 0 m)) (hle : Tm.pos zs 0 (m + 1) ≤ zs.length) : GrownSt base w3 zs (m + 1) v' (xs ++ [ptr p]) := by
  obtain ⟨Xs, zss, h1, h2, h3, h4, h5⟩ := h
  refine ⟨Xs ++ [p], zss ++ [pt], by simp [h1], by simp [h2], by simp [h3], by rw [List.flatten_append, h4, Tm.parts_flat hle, hpt]; simp, fun j hj => ?_⟩
  by_cases hjm : j < m
  · obtain ⟨l, h, e1, e2, hTj, e3⟩ := h5 j hjm
    refine ⟨l, h, e1, by omega, ?_, ?_⟩
    · rw [List.getElem?_append_left (by omega), List.getElem?_append_left (by omega)]
      refine hTj.keep (Nat.le_refl _) (Nat.le_refl _) fun k hk1 hk2 => ?_
      rw [hk k (by omega) (by omega) (fun q hq => by have := e3 q hq; omega), hB1 k (by omega)]
    · intro k hk'
      rcases hown' with e | ⟨q, e, hq⟩
      · exact e3 k (by rw [← e]; exact hk')
      · rw [e] at hk'
        have : q = k := by simpa using hk'
        exact .inr (by omega)
  · obtain rfl : j = m := by omega
    refine ⟨lo, hi, hb, hs3, ?_, ?_⟩
    · rw [List.getElem?_append_right (by omega), List.getElem?_append_right (by omega), h1, h2]
      simp only [Nat.sub_self, List.getElem?_cons_zero, Option.getD_some]
      refine hT.keep (Nat.le_refl _) (Nat.le_refl _) fun k hk1 hk2 => hk k (by omega) hk2 (fun q hq => by have := hown q hq; omega)
    · intro k hk'
      rcases hown' with e | ⟨q, e, hq⟩
      · exact .inl (hown k (by rw [← e]; exact hk'))
      · rw [e] at hk'
        have : q = k := by simpa using hk'
        exact .inr (by omega)
/-- All parts are there. -/
theorem GrownSt.done {base r : Nat} {wr : World} {zs : List Int} {s : Int} {v : Value} {xs : List Value} (h : GrownSt base wr zs r v xs) (hN : Node wr base s v) (hown : wr.ownsRow (base + 1) 161 1 v r xs) (hr : r = Tm.room s) (hs : zs[0]?.getD 0 = s) (h0 : 0 < zs.length) :
    TreeIn base wr.heap.size wr base (zs.take (Tm.pos zs 0 r)) := by
  obtain ⟨Xs, zss, h1, h2, h3, h4, h5⟩ := h
  have hz : zs.take (Tm.pos zs 0 r) = s :: zss.flatten := by
    rw [h4]
    have hp : 0 < Tm.pos zs 0 r := Tm.pos_gt zs 0 r
    cases zs with
    | nil => simp at h0
    | cons a l =>
      simp at hs
      subst hs
      obtain ⟨q, hq⟩ : ∃ q, Tm.pos (a :: l) 0 r = q + 1 := ⟨Tm.pos (a :: l) 0 r - 1, by omega⟩
      rw [hq]
      simp
  rw [hz]
  refine TreeIn.mk base s v Xs zss (Nat.le_refl _) hN.lt hN ?_ (by omega) (by omega) (fun j hj => ?_)
  · rcases hown.2 with ⟨rfl, hn⟩ | ⟨g, cap, cur, rfl, hb, hg, _⟩
    · exact ⟨none, 0, by rw [h1, hn], fun j hj => by omega⟩
    · refine ⟨_, cap, by rw [h1], fun j hj => ⟨g, 0, rfl, by omega, (Array.getElem?_eq_some_iff.1 hg).1, ?_⟩⟩
      have h5 := World.ownsRow.cellAt hown j (by omega)
      rw [Nat.zero_add, h5, h3]
      simp [hj]
  · obtain ⟨lo, hi, e1, e2, hT, _⟩ := h5 j (by omega)
    exact hT.wide (by omega) e2

end Go.Proofs.Ytgeknojpcjadkaa

namespace Go.Proofs.Ytgeknojpcjadkaa
open Go.Proofs Go.RowKit Go.Shelf Go.Maps

end Go.Proofs.Ytgeknojpcjadkaa

namespace Go.Proofs.Ytgeknojpcjadkaa
open Go.Proofs Go.RowKit Go.Shelf Go.Maps

theorem flatten_snoc {zss : List (List Int)} {k : Nat} (hk : k < zss.length) : (zss.take (k + 1)).flatten = (zss.take k).flatten ++ (zss[k]?.getD []) := by
  rw [takeS_snoc hk, List.flatten_append]; simp
end Go.Proofs.Ytgeknojpcjadkaa

namespace Go.Proofs.Ytgeknojpcjadkaa
open Go.Proofs Go.RowKit Go.Shelf Go.Maps

theorem Tm.run_flatten (zss : List (List Int)) : (∀ j, j < zss.length → Tm.run (zss[j]?.getD []) 1 = (zss[j]?.getD []).length) → Tm.run zss.flatten zss.length = zss.flatten.length := by
  induction zss with
  | nil => intro _; simp [Tm.run_zero]
  | cons t l ih =>
    intro h
    have h0 : Tm.run t 1 = t.length := by simpa using h 0 (by simp)
    have hl := ih (fun j hj => by simpa using h (j + 1) (by simpa using hj))
    rw [List.length_cons, Nat.add_comm, Tm.run_add, List.flatten_cons, Tm.run_app t _ 1 (by omega), h0, List.drop_left, hl, List.length_append]
theorem TreeIn.run {lo hi : Nat} {W : World} {X : Nat} {zs : List Int} (h : TreeIn lo hi W X zs) : Tm.run zs 1 = zs.length := by
  induction h with
  | mk X s v Xs zss _ _ _ _ hr hl _ ih =>
    rw [show (1 : Nat) = 0 + 1 from rfl, Tm.run_cons, Nat.zero_add, ← hr, ← hl, Tm.run_flatten zss (fun j hj => ih j (by omega)), List.length_cons]
    omega

theorem Tm.endAt_mid {pre t post : List Int} {k : Nat} (hk : k ≤ t.length) (he : Tm.endAt t k ≤ t.length) : Tm.endAt (pre ++ (t ++ post)) (pre.length + k) = pre.length + Tm.endAt t k := by
  unfold Tm.endAt at he ⊢
  rw [List.drop_append, List.drop_of_length_le (by omega), List.nil_append, Nat.add_sub_cancel_left, List.drop_append_of_le_length hk, Tm.run_app _ _ _ (by rw [List.length_drop]; omega)]
  omega
theorem Tm.part_mid {pre t post : List Int} {k : Nat} (hk : k ≤ t.length) (he : Tm.endAt t k ≤ t.length) : Tm.part (pre ++ (t ++ post)) (pre.length + k) = Tm.part t k := by
  unfold Tm.part
  rw [Tm.endAt_mid hk he, List.drop_append, List.drop_of_length_le (by omega), List.nil_append, Nat.add_sub_cancel_left, List.drop_append_of_le_length hk, show pre.length + Tm.endAt t k - (pre.length + k) = Tm.endAt t k - k from by omega,
    List.take_append_of_le_length (by rw [List.length_drop]; omega)]
theorem Against.fin {p t : List Int} {k : Nat} (h : Against p t p.length k) : k = t.length := by
  obtain ⟨o, h1, h2, h3, h4⟩ := h
  rw [List.drop_length, Tm.run_nil] at h1
  have : o = 0 := by omega
  subst this
  rw [Tm.run_zero] at h2
  omega
theorem drop_flatten {zss : List (List Int)} {j : Nat} (hj : j < zss.length) : (zss.drop j).flatten = zss[j]?.getD [] ++ (zss.drop (j + 1)).flatten := by
  rw [List.drop_eq_getElem_cons hj, List.flatten_cons]
  simp [hj]
theorem split_flatten {zss : List (List Int)} {j : Nat} (hj : j < zss.length) : zss.flatten = (zss.take j).flatten ++ (zss[j]?.getD [] ++ (zss.drop (j + 1)).flatten) := by
  rw [← drop_flatten hj, ← List.flatten_append, List.take_append_drop]
theorem Tm.part_all0 {ts : List Int} (h : Tm.run ts 1 = ts.length) : Tm.part ts 0 = ts := by
  unfold Tm.part Tm.endAt
  rw [List.drop_zero, h, Nat.zero_add, Nat.sub_zero, List.take_length]

/-- What the array of trees says. -/
def FitS (W : World) (Bs lo hi : Nat) (m : Asg) : Prop := ∀ v : Nat, v < 8 → W.frozen? ⟨Bs, v, none⟩ = false ∧
  ((m (-1 - (v : Int)) = none ∧ W.cell? ⟨Bs, v, none⟩ = some (.pointer none)) ∨ ∃ zs X, m (-1 - (v : Int)) = some zs ∧ W.cell? ⟨Bs, v, none⟩ = some (ptr X) ∧ TreeIn lo hi W X zs ∧ zs.length ≤ 30)
theorem FitS.keep {W W' : World} {Bs lo hi n : Nat} {m : Asg} (h : FitS W Bs lo hi m) (hB : Below n W W') (h1 : Bs < n) (h2 : hi ≤ n) : FitS W' Bs lo hi m := fun v hv => by
  obtain ⟨hf, hc⟩ := h v hv
  refine ⟨by rw [← hf]; simp only [World.frozen?, hB.block Bs h1], ?_⟩
  rcases hc with ⟨e1, e2⟩ | ⟨zs, X, e1, e2, hT, e3⟩
  · exact .inl ⟨e1, (hB.cell (p := ⟨Bs, v, none⟩) h1).trans e2⟩
  · exact .inr ⟨zs, X, e1, (hB.cell (p := ⟨Bs, v, none⟩) h1).trans e2, hT.under hB h2, e3⟩
theorem frozen_setCell' (W : World) (a b : Addr) (v : Value) : (W.setCell a v).frozen? b = W.frozen? b := World.frozen?_setCell ..
theorem FitS.set {W : World} {Bs lo hi T v : Nat} {m : Asg} {ts : List Int} (h : FitS W Bs lo hi m) (hv : v < 8) (hlo : Bs < lo) (hT : TreeIn lo hi W T ts) (ht : ts.length ≤ 30) :
    FitS (W.setCell ⟨Bs, v, none⟩ (ptr T)) Bs lo hi (upd m (-1 - (v : Int)) ts) := fun x hx => by
  have hk : ∀ k, lo ≤ k → k < hi → (W.setCell ⟨Bs, v, none⟩ (ptr T)).heap[k]? = W.heap[k]? := fun k h1 _ => Below.heap_setCell _ _ _ k (by simp; omega)
  obtain ⟨hf, hc⟩ := h x hx
  refine ⟨by rw [frozen_setCell']; exact hf, ?_⟩
  by_cases e : x = v
  · subst e
    refine .inr ⟨ts, T, upd_same _ _ _, World.cell?_setCell_same' _ _ _ ?_, hT.keep (Nat.le_refl _) (Nat.le_refl _) hk, ht⟩
    rcases hc with ⟨_, e2⟩ | ⟨_, _, _, e2, _⟩ <;> rw [e2] <;> rfl
  · have hne : (-1 - (x : Int)) ≠ (-1 - (v : Int)) := by omega
    have hcc : (W.setCell ⟨Bs, v, none⟩ (ptr T)).cell? ⟨Bs, x, none⟩ = W.cell? ⟨Bs, x, none⟩ := World.cell?_setCell_other _ _ _ _ (fun h => e (by cases h; rfl))
    rw [upd_other _ _ hne, hcc]
    rcases hc with ⟨e1, e2⟩ | ⟨zs, X, e1, e2, hT', e3⟩
    · exact .inl ⟨e1, e2⟩
    · exact .inr ⟨zs, X, e1, e2, hT'.keep (Nat.le_refl _) (Nat.le_refl _) hk, e3⟩

end Go.Proofs.Ytgeknojpcjadkaa

namespace Go.Proofs.Ytgeknojpcjadkaa
open Go.Proofs Go.RowKit Go.Shelf

/-- The first sign of a term; its part m. -/
def Tm.sym (x : List Int) : Int := x[0]?.getD 0
def Tm.kid (x : List Int) (m : Nat) : List Int := Tm.part x (Tm.pos x 0 m)

theorem Tm.kid_short {x : List Int} {m : Nat} (h : m < Tm.room (Tm.sym x)) : (Tm.kid x m).length < x.length := by
  cases x with
  | nil => simp [Tm.sym, Tm.room] at h
  | cons s l =>
    have := Tm.pos_gt (s :: l) 0 m
    simp only [Tm.kid, Tm.part, List.length_take, List.length_drop, List.length_cons]
    omega

/-- E2. -/
inductive Tm.Gt (r : Int → Int) : List Int → List Int → Prop
  | eq (a b : List Int) (m : Nat) : m < Tm.room (Tm.sym a) → Tm.kid a m = b → Tm.Gt r a b
  | sub (a b : List Int) (m : Nat) : m < Tm.room (Tm.sym a) → Tm.Gt r (Tm.kid a m) b → Tm.Gt r a b
  | rk (a b : List Int) : 0 ≤ Tm.sym a → 0 ≤ Tm.sym b → (∀ m, m < Tm.room (Tm.sym b) → Tm.Gt r a (Tm.kid b m)) → Tm.sym a ≠ Tm.sym b → r (Tm.sym b) < r (Tm.sym a) → Tm.Gt r a b
  | lex (a b : List Int) (m : Nat) : 0 ≤ Tm.sym a → Tm.sym a = Tm.sym b → (∀ m, m < Tm.room (Tm.sym b) → Tm.Gt r a (Tm.kid b m)) → m < Tm.room (Tm.sym a) → (∀ l, l < m → Tm.kid a l = Tm.kid b l) → Tm.Gt r (Tm.kid a m) (Tm.kid b m) → Tm.Gt r a b

theorem Tm.Gt.pos {r : Int → Int} {a b : List Int} (h : Tm.Gt r a b) : 0 ≤ Tm.sym a := by
  have key : ∀ m, m < Tm.room (Tm.sym a) → 0 ≤ Tm.sym a := fun m hm => by unfold Tm.room at hm; split at hm <;> (try split at hm) <;> omega
  cases h with
  | eq _ _ m hm _ => exact key m hm
  | sub _ _ m hm _ => exact key m hm
  | rk _ _ h0 _ _ _ _ => exact h0
  | lex _ _ _ h0 _ _ _ _ _ => exact h0

theorem Tm.Gt.trans_n {r : Int → Int} : ∀ (n : Nat) (a b c : List Int), a.length + b.length + c.length < n → Tm.Gt r a b → Tm.Gt r b c → Tm.Gt r a c := by
  intro n
  induction n with
  | zero => intro a b c hn; omega
  | succ n ih =>
    intro a b c hn hab hbc
    have main : (∀ m, m < Tm.room (Tm.sym b) → Tm.Gt r a (Tm.kid b m)) → 0 ≤ Tm.sym a → ((Tm.sym a ≠ Tm.sym b ∧ r (Tm.sym b) < r (Tm.sym a)) ∨ (Tm.sym a = Tm.sym b ∧ ∃ m, m < Tm.room (Tm.sym a) ∧ (∀ l, l < m → Tm.kid a l = Tm.kid b l) ∧ Tm.Gt r (Tm.kid a m) (Tm.kid b m))) → Tm.Gt r a c := by
      intro hall ha0 how
      cases hbc with
      | eq _ _ m hm e => rw [← e]; exact hall m hm
      | sub _ _ m hm h => exact ih a (Tm.kid b m) c (by have := Tm.kid_short hm; omega) (hall m hm) h
      | rk _ _ hb0 hc0 hcs hne hr =>
        have hall2 : ∀ m, m < Tm.room (Tm.sym c) → Tm.Gt r a (Tm.kid c m) := fun m hm => ih a b (Tm.kid c m) (by have := Tm.kid_short hm; omega) hab (hcs m hm)
        rcases how with ⟨h1, h2⟩ | ⟨h1, _⟩
        · refine .rk a c ha0 hc0 hall2 (fun e => ?_) (by omega)
          rw [e] at h2; omega
        · exact .rk a c ha0 hc0 hall2 (by rw [h1]; exact hne) (by rw [h1]; exact hr)
      | lex _ _ m hb0 hs hcs hm hl hk =>
        have hall2 : ∀ m, m < Tm.room (Tm.sym c) → Tm.Gt r a (Tm.kid c m) := fun m hm => ih a b (Tm.kid c m) (by have := Tm.kid_short hm; omega) hab (hcs m hm)
        rcases how with ⟨h1, h2⟩ | ⟨h1, m', hm', hl', hk'⟩
        · exact .rk a c ha0 (by omega) hall2 (by rw [← hs]; exact h1) (by rw [← hs]; exact h2)
        · rcases Nat.lt_trichotomy m m' with hlt | heq | hgt
          · exact .lex a c m ha0 (h1.trans hs) hall2 (by omega) (fun l hlm => (hl' l (by omega)).trans (hl l hlm)) (by rw [hl' m hlt]; exact hk)
          · subst heq
            refine .lex a c m ha0 (h1.trans hs) hall2 hm' (fun l hlm => (hl' l hlm).trans (hl l hlm)) (ih _ _ _ ?_ hk' hk)
            have e1 := Tm.kid_short (x := a) hm'
            have e2 := Tm.kid_short (x := b) hm
            have e3 := Tm.kid_short (x := c) (m := m) (by rw [← hs]; exact hm)
            omega
          · exact .lex a c m' ha0 (h1.trans hs) hall2 hm' (fun l hlm => (hl' l hlm).trans (hl l (by omega))) (by rw [← hl m' hgt]; exact hk')
    cases hab with
    | eq _ _ m hm e => exact .sub a c m hm (by rw [e]; exact hbc)
    | sub _ _ m hm h => exact .sub a c m hm (ih _ b c (by have := Tm.kid_short hm; omega) h hbc)
    | rk _ _ ha0 hb0 hall hne hr => exact main hall ha0 (.inl ⟨hne, hr⟩)
    | lex _ _ m ha0 hs hall hm hl hk => exact main hall ha0 (.inr ⟨hs, m, hm, hl, hk⟩)
theorem Tm.Gt.trans {r : Int → Int} {a b c : List Int} (h : Tm.Gt r a b) (h' : Tm.Gt r b c) : Tm.Gt r a c := Tm.Gt.trans_n _ a b c (Nat.lt_succ_self _) h h'

end Go.Proofs.Ytgeknojpcjadkaa

namespace Go.Proofs.Ytgeknojpcjadkaa
open Go.Proofs Go.RowKit Go.Shelf Go.Maps

/-- What fit answers. -/
def RefFit (w' : World) (e : Ending) (Bs lo hi : Nat) : Option Asg → Prop
  | none => e = .returned (.bool false)
  | some m => e = .returned (.bool true) ∧ FitS w' Bs lo hi m

theorem Keep.cell {n m : Nat} {a b : World} (h : Keep n m a b) {p : Addr} (h1 : p.block < n) (h2 : p.block ≠ m) : b.cell? p = a.cell? p := World.cell?_of_block (h.block p.block h1 h2)
theorem keep_drewN {n m : Nat} {a b : World} (h : Keep n m a b) (d : Nat) : Keep n m a (b.drewN d) := ⟨h.os, h.tape, h.output, h.size, h.block⟩

theorem TreeIn.open {lo hi : Nat} {W : World} {X : Nat} {zs : List Int} (h : TreeIn lo hi W X zs) : ∃ (s : Int) (a : Option Addr) (c : Nat) (Xs : List Nat) (zss : List (List Int)), zs = s :: zss.flatten ∧ lo ≤ X ∧ X < hi ∧ Node W X s (.slice a Xs.length c) ∧ Xs.length = Tm.room s ∧ zss.length = Xs.length ∧
    (∀ j, j < Xs.length → ∃ b off, a = some ⟨b, off, none⟩ ∧ lo ≤ b ∧ b < hi ∧ W.cell? ⟨b, off + j, none⟩ = some (ptr (Xs[j]?.getD 0))) ∧ ∀ j, j < Xs.length → TreeIn lo hi W (Xs[j]?.getD 0) (zss[j]?.getD []) := by
  cases h with
  | mk X s v Xs zss h1 h2 h3 h4 h5 h6 h7 =>
    obtain ⟨a, c, rfl, h8⟩ := h4
    exact ⟨s, a, c, Xs, zss, rfl, h1, h2, h3, h5, h6, h8, h7⟩

end Go.Proofs.Ytgeknojpcjadkaa

namespace Go.Proofs.Ytgeknojpcjadkaa
open Go.Proofs Go.RowKit Go.Shelf Go.Maps

set_option maxRecDepth 100000 in
set_option maxHeartbeats 400000 in
theorem twoErrors_any (p t : List Int) (ap at' : Option Addr) (cp ct : Nat) (w : World) (hP : Ints w.heap.size w ap p) (hT : Ints w.heap.size w at' t) :
    Calls Try.prog 41 #[.slice ap p.length cp, .slice at' t.length ct] w fun e w' => e = .returned (.int .i64 (Tm.fitErr p t)) ∧ w' = w := by
  have h1 := termError_any p ap cp w hP
  have h2 := termError_any t at' ct w hT
  by_cases he : Tm.err p = 0
  · have hf : Tm.fitErr p t = Tm.err t := by
      simp only [Tm.fitErr, Tm.firstErr, he, if_true]
      by_cases h : Tm.err t = 0 <;> simp [h]
    rw [hf]
    rw [he] at h1
    clear hf he hP hT
    generalize Tm.err t = q at *
    go_enter Try.func41, Try.ntmps41
    go_wp2_with (first
      | (go_at_call_of 16 (Value.slice ap p.length cp); refine h1.mono ?_; rintro e w ⟨rfl, rfl⟩)
      | (go_at_call_of 16 (Value.slice at' t.length ct); refine h2.mono ?_; rintro e w ⟨rfl, rfl⟩))
    go_ret
    exact ⟨rfl, rfl⟩
  · have hf : Tm.fitErr p t = Tm.err p := by simp [Tm.fitErr, Tm.firstErr, he]
    rw [hf]
    have hne : (Tm.err p != 0) = true := by simp [he]
    clear hf he hP hT h2
    generalize Tm.err p = q at *
    go_enter Try.func41, Try.ntmps41
    go_wp2_with (first
      | (go_at_call 16; refine h1.mono ?_; clear h1; rintro e w ⟨rfl, rfl⟩))
    go_ret
    exact ⟨rfl, rfl⟩

end Go.Proofs.Ytgeknojpcjadkaa

namespace Go.Proofs.Ytgeknojpcjadkaa
open Go.Proofs Go.RowKit Go.Shelf Go.Maps

attribute [local go_sem] Oper.semAt_some

/-- A place of zs. -/
abbrev PlaceOf (zs : List Int) : Type := { k : Nat // k < zs.length }
def encPlace (zs : List Int) (x : PlaceOf zs) : Array Value := #[.int .i64 (x.1 : Int), .int .i64 (Tm.endAt zs x.1 : Int)]
/-- The first m places. -/
def placesTo (zs : List Int) : Nat → List (PlaceOf zs)
  | 0 => []
  | m + 1 => if h : m < zs.length then placesTo zs m ++ [⟨m, h⟩] else placesTo zs m
end Go.Proofs.Ytgeknojpcjadkaa
