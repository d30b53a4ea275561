/-
  PLAIN MATHEMATICS: fitting part by part is fitting sign by sign; what a tree holds is a term.
-/
import Derived.Test.YtbelnlemjcoifaaTree3
namespace Go.Proofs.Ytbelnlemjcoifaa
open Go.Proofs Go.RowKit Go.Shelf Go.Maps

theorem Tm.run_flatten (zss : List (List Int)) : (∀ j, j < zss.length → Tm.run (zss[j]?.getD []) 1 = (zss[j]?.getD []).length) → Tm.run zss.flatten zss.length = zss.flatten.length := by
  induction zss with
  | nil => intro _; simp [Tm.run_zero]
  | cons t l ih =>
    intro h
    have h0 : Tm.run t 1 = t.length := by simpa using h 0 (by simp)
    have hl := ih (fun j hj => by simpa using h (j + 1) (by simpa using hj))
    rw [List.length_cons, Nat.add_comm, Tm.run_add, List.flatten_cons, Tm.run_app t _ 1 (by omega), h0, List.drop_left, hl, List.length_append]
theorem TreeIn.run {lo hi : Nat} {W : World} {X : Nat} {zs : List Int} (h : TreeIn lo hi W X zs) : Tm.run zs 1 = zs.length := by
  induction h with
  | mk X s v Xs zss _ _ _ _ hr hl _ ih =>
    rw [show (1 : Nat) = 0 + 1 from rfl, Tm.run_cons, Nat.zero_add, ← hr, ← hl, Tm.run_flatten zss (fun j hj => ih j (by omega)), List.length_cons]
    omega

theorem Tm.endAt_mid {pre t post : List Int} {k : Nat} (hk : k ≤ t.length) (he : Tm.endAt t k ≤ t.length) : Tm.endAt (pre ++ (t ++ post)) (pre.length + k) = pre.length + Tm.endAt t k := by
  unfold Tm.endAt at he ⊢
  rw [List.drop_append, List.drop_of_length_le (by omega), List.nil_append, Nat.add_sub_cancel_left, List.drop_append_of_le_length hk, Tm.run_app _ _ _ (by rw [List.length_drop]; omega)]
  omega
theorem Tm.part_mid {pre t post : List Int} {k : Nat} (hk : k ≤ t.length) (he : Tm.endAt t k ≤ t.length) : Tm.part (pre ++ (t ++ post)) (pre.length + k) = Tm.part t k := by
  unfold Tm.part
  rw [Tm.endAt_mid hk he, List.drop_append, List.drop_of_length_le (by omega), List.nil_append, Nat.add_sub_cancel_left, List.drop_append_of_le_length hk, show pre.length + Tm.endAt t k - (pre.length + k) = Tm.endAt t k - k from by omega,
    List.take_append_of_le_length (by rw [List.length_drop]; omega)]
theorem Tm.get_mid {pre t post : List Int} {k : Nat} (hk : k < t.length) : (pre ++ (t ++ post))[pre.length + k]?.getD 0 = t[k]?.getD 0 := by
  rw [List.getElem?_append_right (by omega), Nat.add_sub_cancel_left, List.getElem?_append_left hk]
theorem Against.fin {p t : List Int} {k : Nat} (h : Against p t p.length k) : k = t.length := by
  obtain ⟨o, h1, h2, h3, h4⟩ := h
  rw [List.drop_length, Tm.run_nil] at h1
  have : o = 0 := by omega
  subst this
  rw [Tm.run_zero] at h2
  omega
theorem Tm.fit_local (pre t post p rest : List Int) : ∀ (n i k : Nat) (m : Asg), p.length - i = n → i ≤ p.length → Against p t i k →
    Tm.fitGo (pre ++ (t ++ post)) (p.drop i ++ rest) (pre.length + k) m = (Tm.fitGo t (p.drop i) k m).bind fun m' => Tm.fitGo (pre ++ (t ++ post)) rest (pre.length + t.length) m' := by
  intro n
  induction n with
  | zero =>
    intro i k m hn hi ha
    obtain rfl : i = p.length := by omega
    rw [List.drop_length, Tm.fitGo_nil, ha.fin]
    rfl
  | succ n ih =>
    intro i k m hn hi ha
    have hlt : i < p.length := by omega
    have hk := ha.pos hlt
    have he := ha.endAt_le hlt
    rw [List.drop_eq_getElem_cons hlt, List.cons_append, Tm.fitGo, Tm.fitGo, Tm.part_mid (by omega) he, Tm.endAt_mid (by omega) he, Tm.get_mid hk]
    by_cases hs : p[i] < 0
    · rw [if_pos hs, if_pos hs]
      split
      · rfl
      · exact ih (i + 1) (Tm.endAt t k) _ (by omega) (by omega) (ha.var hlt (by simpa [hlt] using hs))
    · rw [if_neg hs, if_neg hs]
      by_cases hu : t[k]?.getD 0 = p[i]
      · rw [if_pos hu, if_pos hu]
        exact ih (i + 1) (k + 1) m (by omega) (by omega) (ha.sym hlt (by simpa [hlt] using hu))
      · rw [if_neg hu, if_neg hu]; rfl
theorem drop_flatten {zss : List (List Int)} {j : Nat} (hj : j < zss.length) : (zss.drop j).flatten = zss[j]?.getD [] ++ (zss.drop (j + 1)).flatten := by
  rw [List.drop_eq_getElem_cons hj, List.flatten_cons]
  simp [hj]
theorem split_flatten {zss : List (List Int)} {j : Nat} (hj : j < zss.length) : zss.flatten = (zss.take j).flatten ++ (zss[j]?.getD [] ++ (zss.drop (j + 1)).flatten) := by
  rw [← drop_flatten hj, ← List.flatten_append, List.take_append_drop]
theorem Tm.fit_step {s : Int} {pss tss : List (List Int)} {j : Nat} (m : Asg) (hj : j < pss.length) (hl : tss.length = pss.length) (hp : Tm.run (pss[j]?.getD []) 1 = (pss[j]?.getD []).length) (ht : Tm.run (tss[j]?.getD []) 1 = (tss[j]?.getD []).length) :
    Tm.fitGo (s :: tss.flatten) (pss.drop j).flatten (1 + (tss.take j).flatten.length) m = (Tm.fitGo (tss[j]?.getD []) (pss[j]?.getD []) 0 m).bind fun m' => Tm.fitGo (s :: tss.flatten) (pss.drop (j + 1)).flatten (1 + (tss.take (j + 1)).flatten.length) m' := by
  have h := Tm.fit_local (s :: (tss.take j).flatten) (tss[j]?.getD []) (tss.drop (j + 1)).flatten (pss[j]?.getD []) (pss.drop (j + 1)).flatten _ 0 0 m rfl (by omega) ⟨1, by simpa using hp, by simpa using ht, by omega, by omega⟩
  rw [List.cons_append, ← split_flatten (by omega), List.drop_zero, ← drop_flatten hj, List.length_cons] at h
  rw [flatten_snoc (by omega), List.length_append, show 1 + ((tss.take j).flatten.length + (tss[j]?.getD []).length) = (tss.take j).flatten.length + 1 + (tss[j]?.getD []).length from by omega, show 1 + (tss.take j).flatten.length = (tss.take j).flatten.length + 1 + 0 from by omega]
  exact h
theorem upd_self {α : Type} {m : Int → Option α} {s : Int} {v : α} (h : m s = some v) : upd m s v = m := by
  funext x
  by_cases e : x = s
  · subst e; rw [upd_same, h]
  · rw [upd_other _ _ e]
theorem Tm.part_all0 {ts : List Int} (h : Tm.run ts 1 = ts.length) : Tm.part ts 0 = ts := by
  unfold Tm.part Tm.endAt
  rw [List.drop_zero, h, Nat.zero_add, Nat.sub_zero, List.take_length]

/-- What the array of trees says. -/
def FitS (W : World) (Bs lo hi : Nat) (m : Asg) : Prop := ∀ v : Nat, v < 8 → W.frozen? ⟨Bs, v, none⟩ = false ∧
  ((m (-1 - (v : Int)) = none ∧ W.cell? ⟨Bs, v, none⟩ = some (.pointer none)) ∨ ∃ zs X, m (-1 - (v : Int)) = some zs ∧ W.cell? ⟨Bs, v, none⟩ = some (ptr X) ∧ TreeIn lo hi W X zs ∧ zs.length ≤ 30)
theorem FitS.keep {W W' : World} {Bs lo hi n : Nat} {m : Asg} (h : FitS W Bs lo hi m) (hB : Below n W W') (h1 : Bs < n) (h2 : hi ≤ n) : FitS W' Bs lo hi m := fun v hv => by
  obtain ⟨hf, hc⟩ := h v hv
  refine ⟨by rw [← hf]; simp only [World.frozen?, hB.block Bs h1], ?_⟩
  rcases hc with ⟨e1, e2⟩ | ⟨zs, X, e1, e2, hT, e3⟩
  · exact .inl ⟨e1, (hB.cell (p := ⟨Bs, v, none⟩) h1).trans e2⟩
  · exact .inr ⟨zs, X, e1, (hB.cell (p := ⟨Bs, v, none⟩) h1).trans e2, hT.under hB h2, e3⟩
theorem frozen_setCell' (W : World) (a b : Addr) (v : Value) : (W.setCell a v).frozen? b = W.frozen? b := World.frozen?_setCell ..
theorem FitS.set {W : World} {Bs lo hi T v : Nat} {m : Asg} {ts : List Int} (h : FitS W Bs lo hi m) (hv : v < 8) (hlo : Bs < lo) (hT : TreeIn lo hi W T ts) (ht : ts.length ≤ 30) :
    FitS (W.setCell ⟨Bs, v, none⟩ (ptr T)) Bs lo hi (upd m (-1 - (v : Int)) ts) := fun x hx => by
  have hk : ∀ k, lo ≤ k → k < hi → (W.setCell ⟨Bs, v, none⟩ (ptr T)).heap[k]? = W.heap[k]? := fun k h1 _ => Below.heap_setCell _ _ _ k (by simp; omega)
  obtain ⟨hf, hc⟩ := h x hx
  refine ⟨by rw [frozen_setCell']; exact hf, ?_⟩
  by_cases e : x = v
  · subst e
    refine .inr ⟨ts, T, upd_same _ _ _, World.cell?_setCell_same' _ _ _ ?_, hT.keep (Nat.le_refl _) (Nat.le_refl _) hk, ht⟩
    rcases hc with ⟨_, e2⟩ | ⟨_, _, _, e2, _⟩ <;> rw [e2] <;> rfl
  · have hne : (-1 - (x : Int)) ≠ (-1 - (v : Int)) := by omega
    have hcc : (W.setCell ⟨Bs, v, none⟩ (ptr T)).cell? ⟨Bs, x, none⟩ = W.cell? ⟨Bs, x, none⟩ := World.cell?_setCell_other _ _ _ _ (fun h => e (by cases h; rfl))
    rw [upd_other _ _ hne, hcc]
    rcases hc with ⟨e1, e2⟩ | ⟨zs, X, e1, e2, hT', e3⟩
    · exact .inl ⟨e1, e2⟩
    · exact .inr ⟨zs, X, e1, e2, hT'.keep (Nat.le_refl _) (Nat.le_refl _) hk, e3⟩

end Go.Proofs.Ytbelnlemjcoifaa
