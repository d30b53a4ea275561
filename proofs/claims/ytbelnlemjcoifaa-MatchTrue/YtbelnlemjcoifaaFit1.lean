/-
  PLAIN MATHEMATICS of fitting: sign by sign, what the variables of p must become.
-/
import Derived.Test.YtbelnlemjcoifaaIntMap
import Derived.Test.YtbelnlemjcoifaaTrue1
namespace Go.Proofs.Ytbelnlemjcoifaa
open Go.Proofs Go.RowKit Go.Shelf Go.Maps

abbrev Asg := Int → Option (List Int)
/-- From place k of t on, against the signs that are left. -/
def Tm.fitGo (t : List Int) : List Int → Nat → Asg → Option Asg
  | [], _, m => some m
  | s :: p, k, m => if s < 0 then (if (m s).isSome = true ∧ m s ≠ some (Tm.part t k) then none else Tm.fitGo t p (Tm.endAt t k) (upd m s (Tm.part t k))) else if t[k]?.getD 0 = s then Tm.fitGo t p (k + 1) m else none
def Tm.fit (p t : List Int) : Option Asg := Tm.fitGo t p 0 (fun _ => none)

theorem Tm.fitGo_nil (t : List Int) (k : Nat) (m : Asg) : Tm.fitGo t [] k m = some m := rfl
theorem Tm.fitGo_new {t p : List Int} {i k : Nat} {m : Asg} (hi : i < p.length) (hs : p[i]?.getD 0 < 0) (hm : m (p[i]?.getD 0) = none) : Tm.fitGo t (p.drop i) k m = Tm.fitGo t (p.drop (i + 1)) (Tm.endAt t k) (upd m (p[i]?.getD 0) (Tm.part t k)) := by
  rw [List.drop_eq_getElem_cons hi, Tm.fitGo]
  simp only [hi, List.getElem?_eq_getElem, Option.getD_some] at hs hm ⊢
  rw [if_pos hs, hm, if_neg (by simp)]
theorem Tm.fitGo_old {t p : List Int} {i k : Nat} {m : Asg} (hi : i < p.length) (hs : p[i]?.getD 0 < 0) (hm : m (p[i]?.getD 0) = some (Tm.part t k)) : Tm.fitGo t (p.drop i) k m = Tm.fitGo t (p.drop (i + 1)) (Tm.endAt t k) (upd m (p[i]?.getD 0) (Tm.part t k)) := by
  rw [List.drop_eq_getElem_cons hi, Tm.fitGo]
  simp only [hi, List.getElem?_eq_getElem, Option.getD_some] at hs hm ⊢
  rw [if_pos hs, if_neg (by simp [hm])]
theorem Tm.fitGo_clash {t p : List Int} {i k : Nat} {m : Asg} {zs : List Int} (hi : i < p.length) (hs : p[i]?.getD 0 < 0) (hm : m (p[i]?.getD 0) = some zs) (hne : zs ≠ Tm.part t k) : Tm.fitGo t (p.drop i) k m = none := by
  rw [List.drop_eq_getElem_cons hi, Tm.fitGo]
  simp only [hi, List.getElem?_eq_getElem, Option.getD_some] at hs hm ⊢
  rw [if_pos hs, if_pos (by simp [hm, hne])]
theorem Tm.fitGo_sym {t p : List Int} {i k : Nat} {m : Asg} (hi : i < p.length) (hs : ¬ p[i]?.getD 0 < 0) (he : t[k]?.getD 0 = p[i]?.getD 0) : Tm.fitGo t (p.drop i) k m = Tm.fitGo t (p.drop (i + 1)) (k + 1) m := by
  rw [List.drop_eq_getElem_cons hi, Tm.fitGo]
  simp only [hi, List.getElem?_eq_getElem, Option.getD_some] at hs he ⊢
  rw [if_neg hs, if_pos he]
theorem Tm.fitGo_other {t p : List Int} {i k : Nat} {m : Asg} (hi : i < p.length) (hs : ¬ p[i]?.getD 0 < 0) (he : t[k]?.getD 0 ≠ p[i]?.getD 0) : Tm.fitGo t (p.drop i) k m = none := by
  rw [List.drop_eq_getElem_cons hi, Tm.fitGo]
  simp only [hi, List.getElem?_eq_getElem, Option.getD_some] at hs he ⊢
  rw [if_neg hs, if_neg he]

/-- As many terms are left of p as of t. -/
def Against (p t : List Int) (i k : Nat) : Prop := ∃ o, Tm.run (p.drop i) o = p.length - i ∧ Tm.run (t.drop k) o = t.length - k ∧ i ≤ p.length ∧ k ≤ t.length
theorem Against.start {p t : List Int} (hp : Tm.err p = 0) (ht : Tm.err t = 0) : Against p t 0 0 := ⟨1, by simpa using Tm.err_run hp, by simpa using Tm.err_run ht, by omega, by omega⟩
theorem Against.pos {p t : List Int} {i k : Nat} (h : Against p t i k) (hi : i < p.length) : k < t.length := by
  obtain ⟨o, h1, h2, h3, h4⟩ := h
  have ho : o ≠ 0 := by rintro rfl; rw [Tm.run_zero] at h1; omega
  have := Tm.run_ge (t.drop k) o
  omega
theorem Tm.room_neg {s : Int} (h : s < 0) : Tm.room s = 0 := by unfold Tm.room; rw [if_neg (by omega), if_neg (by omega)]
theorem Against.var {p t : List Int} {i k : Nat} (h : Against p t i k) (hi : i < p.length) (hs : p[i]?.getD 0 < 0) : Against p t (i + 1) (Tm.endAt t k) := by
  have hk := h.pos hi
  obtain ⟨o, h1, h2, h3, h4⟩ := h
  have ho : o ≠ 0 := by rintro rfl; rw [Tm.run_zero] at h1; omega
  obtain ⟨o, rfl⟩ : ∃ o', o = o' + 1 := ⟨o - 1, by omega⟩
  rw [Tm.run_step hi, Tm.room_neg hs] at h1
  rw [Nat.add_comm o 1, Tm.run_add] at h2
  have hle : Tm.endAt t k ≤ t.length := by
    rw [show Tm.endAt t k = k + Tm.run (t.drop k) 1 from rfl]
    omega
  refine ⟨o, by simpa using (by omega : Tm.run (p.drop (i + 1)) (o + 0) = p.length - (i + 1)), ?_, by omega, hle⟩
  rw [List.drop_drop] at h2
  rw [show Tm.endAt t k = k + Tm.run (t.drop k) 1 from rfl] at hle ⊢
  omega
theorem Against.sym {p t : List Int} {i k : Nat} (h : Against p t i k) (hi : i < p.length) (he : t[k]?.getD 0 = p[i]?.getD 0) : Against p t (i + 1) (k + 1) := by
  have hk := h.pos hi
  obtain ⟨o, h1, h2, h3, h4⟩ := h
  have ho : o ≠ 0 := by rintro rfl; rw [Tm.run_zero] at h1; omega
  obtain ⟨o, rfl⟩ : ∃ o', o = o' + 1 := ⟨o - 1, by omega⟩
  rw [Tm.run_step hi] at h1
  rw [Tm.run_step hk, he] at h2
  exact ⟨o + Tm.room (p[i]?.getD 0), by omega, by omega, by omega, by omega⟩
theorem Against.endAt_le {p t : List Int} {i k : Nat} (h : Against p t i k) (hi : i < p.length) : Tm.endAt t k ≤ t.length := by
  obtain ⟨o, h1, h2, h3, h4⟩ := h
  have ho : o ≠ 0 := by rintro rfl; rw [Tm.run_zero] at h1; omega
  obtain ⟨o, rfl⟩ : ∃ o', o = o' + 1 := ⟨o - 1, by omega⟩
  rw [Nat.add_comm o 1, Tm.run_add] at h2
  rw [show Tm.endAt t k = k + Tm.run (t.drop k) 1 from rfl]
  omega

/-- A value that is a slice which reads zs, all below block n. -/
def Reads (n : Nat) (W : World) (v : Value) (zs : List Int) : Prop := ∃ b off c, v = .slice (some ⟨b, off, none⟩) zs.length c ∧ Ints n W (some ⟨b, off, none⟩) zs ∧ zs.length ≤ c ∧ c ≤ maxLen ∧ zs.length ≤ 30
theorem Reads.below {n : Nat} {W W' : World} {v : Value} {zs : List Int} (h : Reads n W v zs) (hB : Below n W W') : Reads n W' v zs := by
  obtain ⟨b, off, c, rfl, hI, h1⟩ := h
  exact ⟨b, off, c, rfl, hI.below hB, h1⟩
/-- BLOCK bm IS THE MAP OF WHAT VARIABLES BECOME. -/
def FitAt (n : Nat) (W : World) (bm N : Nat) (m : Asg) : Prop := ∃ M, IntMap W bm N M ∧ (∀ s, m s = none → M s = none) ∧ ∀ s zs, m s = some zs → ∃ v, M s = some v ∧ Reads n W v zs
theorem FitAt.upd {n : Nat} {W W' : World} {bm N : Nat} {m : Asg} {s : Int} {v : Value} {zs : List Int} {M : Int → Option Value} (h1 : ∀ s, m s = none → M s = none) (h2 : ∀ s zs, m s = some zs → ∃ v, M s = some v ∧ Reads n W v zs)
    (h3 : IntMap W' bm N (upd M s v)) (hB : Below n W W') (hv : Reads n W v zs) : FitAt n W' bm N (upd m s zs) := by
  refine ⟨_, h3, fun x hx => ?_, fun x ys hx => ?_⟩
  · by_cases e : x = s
    · subst e; rw [upd_same] at hx; cases hx
    · rw [upd_other _ _ e] at hx ⊢; exact h1 x hx
  · by_cases e : x = s
    · subst e; rw [upd_same] at hx; cases hx; exact ⟨v, upd_same _ _ _, hv.below hB⟩
    · rw [upd_other _ _ e] at hx
      obtain ⟨u, hu, hr⟩ := h2 x ys hx
      exact ⟨u, by rw [upd_other _ _ e]; exact hu, hr.below hB⟩

/-- What comes: what has been found for the first k variables; all others become themselves. -/
def Tm.fitL (m : Asg) (k : Nat) : List (List Int) := (List.range 8).map fun i : Nat => if i < k then (m (-1 - (i : Int))).getD [-1 - (i : Int)] else [-1 - (i : Int)]
theorem Tm.fitL_length (m : Asg) (k : Nat) : (Tm.fitL m k).length = 8 := by simp [Tm.fitL]
theorem Tm.fitL_zero (m : Asg) : Tm.fitL m 0 = Tm.noneL 8 := by simp [Tm.fitL, Tm.noneL]
theorem Tm.fitL_none {m : Asg} {k : Nat} (h : m (-1 - (k : Int)) = none) : Tm.fitL m (k + 1) = Tm.fitL m k := by
  unfold Tm.fitL
  refine List.map_congr_left fun i _ => ?_
  by_cases e : i = k
  · subst e; rw [if_pos (by omega), if_neg (by omega), h]; rfl
  · by_cases hl : i < k
    · rw [if_pos (by omega), if_pos hl]
    · rw [if_neg (by omega), if_neg hl]
theorem Tm.fitL_some {m : Asg} {k : Nat} {zs : List Int} (h : m (-1 - (k : Int)) = some zs) : Tm.fitL m (k + 1) = (Tm.fitL m k).set k zs := by
  refine List.ext_getElem (by simp [Tm.fitL]) fun i h1 h2 => ?_
  simp only [Tm.fitL, List.length_map, List.length_range] at h1
  by_cases e : i = k
  · subst e
    rw [List.getElem_set_self]
    simp [Tm.fitL, h]
  · rw [List.getElem_set_ne (by omega)]
    simp only [Tm.fitL, List.getElem_map, List.getElem_range]
    by_cases hl : i < k
    · rw [if_pos (by omega), if_pos hl]
    · rw [if_neg (by omega), if_neg hl]
def Tm.fitErr (p t : List Int) : Int := Tm.firstErr [p, t]
def Tm.fitIs (p t : List Int) : Bool := if Tm.fitErr p t = 0 then (Tm.fit p t).isSome else false
def Tm.fitOut : Option Asg → List (List Int)
  | some m => Tm.fitL m 8
  | none => []
def Tm.fitVal (p t : List Int) : List (List Int) := if Tm.fitErr p t = 0 then Tm.fitOut (Tm.fit p t) else []
theorem Tm.fitErr_ok {p t : List Int} (h : Tm.fitErr p t = 0) : Tm.err p = 0 ∧ Tm.err t = 0 := by
  have := Tm.firstErr_all h
  exact ⟨by simpa using this 0 (by simp), by simpa using this 1 (by simp)⟩
theorem Tm.fitErr_of {p t : List Int} (h1 : Tm.err p = 0) (h2 : Tm.err t = 0) : Tm.fitErr p t = 0 := by simp [Tm.fitErr, Tm.firstErr, h1, h2]
theorem Tm.fit_bad {p t : List Int} (h : Tm.fitErr p t ≠ 0) : Tm.fitIs p t = false ∧ Tm.fitVal p t = [] := by
  constructor
  · unfold Tm.fitIs; rw [if_neg h]
  · unfold Tm.fitVal; rw [if_neg h]
theorem Tm.fit_no {p t : List Int} (h : Tm.fitErr p t = 0) (hf : Tm.fit p t = none) : Tm.fitIs p t = false ∧ Tm.fitVal p t = [] := by
  constructor
  · unfold Tm.fitIs; rw [if_pos h, hf]; rfl
  · unfold Tm.fitVal; rw [if_pos h, hf]; rfl
theorem Tm.fit_yes {p t : List Int} {m : Asg} (h : Tm.fitErr p t = 0) (hf : Tm.fit p t = some m) : Tm.fitIs p t = true ∧ Tm.fitVal p t = Tm.fitL m 8 := by
  constructor
  · unfold Tm.fitIs; rw [if_pos h, hf]; rfl
  · unfold Tm.fitVal; rw [if_pos h, hf]; rfl

end Go.Proofs.Ytbelnlemjcoifaa
