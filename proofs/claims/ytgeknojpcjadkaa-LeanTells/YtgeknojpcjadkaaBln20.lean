/-
  PLAIN MATHEMATICS of worlds: what a term is there; what variables become, and what is put at a place, there; in whatever world all rules hold a term is what its Form is. · hasplaw.deepest, hasplaw.valued.
-/
import Derived.Test.YtgeknojpcjadkaaBln19
import Derived.Deep.MidRow
namespace Go.Proofs.Ytgeknojpcjadkaa
open Go.Proofs Go.RowKit Go.Shelf Go.Maps

/-- What a term is, A telling what symbols are, vs what variables are; n: more than its parts' depth. -/
def Tm.vl (A : Int → Nat → Nat → Nat) (vs : Nat → Nat) : Nat → List Int → Nat
  | 0, x => if Tm.sym x < 0 then vs (-1 - Tm.sym x).toNat else A (Tm.sym x) 0 0
  | n + 1, x => if Tm.sym x < 0 then vs (-1 - Tm.sym x).toNat else A (Tm.sym x) (if 0 < Tm.room (Tm.sym x) then Tm.vl A vs n (Tm.kid x 0) else 0) (if 1 < Tm.room (Tm.sym x) then Tm.vl A vs n (Tm.kid x 1) else 0)
theorem Tm.no_kid {x : List Int} (h : x.length = 0) (m : Nat) : ¬ m < Tm.room (Tm.sym x) := fun hm => by
  have := Tm.kid_short hm
  omega
theorem Tm.vl_more {A : Int → Nat → Nat → Nat} {vs : Nat → Nat} : ∀ (n m : Nat) (x : List Int), x.length ≤ n → x.length ≤ m → Tm.vl A vs n x = Tm.vl A vs m x := by
  intro n
  induction n with
  | zero =>
    intro m x h _
    cases m with
    | zero => rfl
    | succ m => rw [Tm.vl, Tm.vl, if_neg (Tm.no_kid (by omega) 0), if_neg (Tm.no_kid (by omega) 1)]
  | succ n ih =>
    intro m x h h'
    cases m with
    | zero => rw [Tm.vl, Tm.vl, if_neg (Tm.no_kid (by omega) 0), if_neg (Tm.no_kid (by omega) 1)]
    | succ m =>
      rw [Tm.vl, Tm.vl]
      by_cases hs : Tm.sym x < 0
      · rw [if_pos hs, if_pos hs]
      · rw [if_neg hs, if_neg hs]
        have hk : ∀ i, i < Tm.room (Tm.sym x) → Tm.vl A vs n (Tm.kid x i) = Tm.vl A vs m (Tm.kid x i) := fun i hi => by
          have := Tm.kid_short hi
          exact ih m _ (by omega) (by omega)
        congr 1
        · by_cases h0 : 0 < Tm.room (Tm.sym x)
          · rw [if_pos h0, if_pos h0, hk 0 h0]
          · rw [if_neg h0, if_neg h0]
        · by_cases h0 : 1 < Tm.room (Tm.sym x)
          · rw [if_pos h0, if_pos h0, hk 1 h0]
          · rw [if_neg h0, if_neg h0]
def Tm.val (A : Int → Nat → Nat → Nat) (vs : Nat → Nat) (x : List Int) : Nat := Tm.vl A vs x.length x
theorem Tm.val_var {A : Int → Nat → Nat → Nat} {vs : Nat → Nat} {x : List Int} (h : Tm.sym x < 0) : Tm.val A vs x = vs (-1 - Tm.sym x).toNat := by
  unfold Tm.val
  cases x.length with
  | zero => rw [Tm.vl, if_pos h]
  | succ n => rw [Tm.vl, if_pos h]
theorem Tm.val_sym {A : Int → Nat → Nat → Nat} {vs : Nat → Nat} {x : List Int} (h : ¬ Tm.sym x < 0) : Tm.val A vs x = A (Tm.sym x) (if 0 < Tm.room (Tm.sym x) then Tm.val A vs (Tm.kid x 0) else 0) (if 1 < Tm.room (Tm.sym x) then Tm.val A vs (Tm.kid x 1) else 0) := by
  have e : Tm.val A vs x = Tm.vl A vs (x.length + 1) x := Tm.vl_more _ _ x (Nat.le_refl _) (by omega)
  rw [e, Tm.vl, if_neg h]
  have hk : ∀ i, i < Tm.room (Tm.sym x) → Tm.vl A vs x.length (Tm.kid x i) = Tm.val A vs (Tm.kid x i) := fun i hi => by
    have := Tm.kid_short hi
    exact Tm.vl_more _ _ _ (by omega) (Nat.le_refl _)
  congr 1
  · by_cases h0 : 0 < Tm.room (Tm.sym x)
    · rw [if_pos h0, if_pos h0, hk 0 h0]
    · rw [if_neg h0, if_neg h0]
  · by_cases h0 : 1 < Tm.room (Tm.sym x)
    · rw [if_pos h0, if_pos h0, hk 1 h0]
    · rw [if_neg h0, if_neg h0]
/-- Two terms with the same sign and parts that are the same there. -/
theorem Tm.val_same {A : Int → Nat → Nat → Nat} {vs us : Nat → Nat} {x y : List Int} (h0 : ¬ Tm.sym x < 0) (hs : Tm.sym x = Tm.sym y) (hk : ∀ m, m < Tm.room (Tm.sym x) → Tm.val A vs (Tm.kid x m) = Tm.val A us (Tm.kid y m)) : Tm.val A vs x = Tm.val A us y := by
  rw [Tm.val_sym (x := x) h0, Tm.val_sym (x := y) (vs := us) (by rw [← hs]; exact h0), ← hs]
  congr 1
  · by_cases h : 0 < Tm.room (Tm.sym x)
    · rw [if_pos h, if_pos h, hk 0 h]
    · rw [if_neg h, if_neg h]
  · by_cases h : 1 < Tm.room (Tm.sym x)
    · rw [if_pos h, if_pos h, hk 1 h]
    · rw [if_neg h, if_neg h]
theorem Tm.val_lt {A : Int → Nat → Nat → Nat} {vs : Nat → Nat} (hA : ∀ s x y, A s x y < 3) (hv : ∀ i, vs i < 3) (x : List Int) : Tm.val A vs x < 3 := by
  by_cases h : Tm.sym x < 0
  · rw [Tm.val_var h]; exact hv _
  · rw [Tm.val_sym h]; exact hA _ _ _
theorem Tm.var_only {a : List Int} (ha : Tm.err a = 0) (h : Tm.sym a < 0) : a = [Tm.sym a] := by
  have hv := Tm.view ha
  rw [Tm.room_neg h] at hv
  simpa [Tm.kids] using hv
/-- What variables become, there. -/
theorem Tm.val_applied {A : Int → Nat → Nat → Nat} {vs : Nat → Nat} {ss : List (List Int)} (hss : Terms ss) : ∀ (n : Nat) (a : List Int), a.length < n → Tm.err a = 0 → Tm.val A vs (Tm.applied ss a) = Tm.val A (fun i => Tm.val A vs (ss[i]?.getD [])) a := by
  intro n
  induction n with
  | zero => intro a h; omega
  | succ n ih =>
    intro a hn ha
    by_cases h0 : Tm.sym a < 0
    · rw [Tm.val_var h0]
      have e : Tm.applied ss a = ss[(-1 - Tm.sym a).toNat]?.getD [] := by
        conv => lhs; rw [Tm.var_only ha h0]
        rw [Tm.applied_cons]
        unfold Tm.piece
        rw [if_pos h0]
        simp [Tm.applied]
      rw [e]
    · obtain ⟨e1, e2⟩ := Tm.applied_view hss ha (by omega)
      refine Tm.val_same (by rw [e1]; exact h0) e1 fun m hm => ?_
      rw [e1] at hm
      rw [e2 m hm]
      exact ih _ (by have := Tm.kid_short hm; omega) (Tm.kid_err ha hm)
/-- What is put at a place, there. -/
theorem Tm.val_put {A : Int → Nat → Nat → Nat} {vs : Nat → Nat} {u v : List Int} (huv : Tm.val A vs u = Tm.val A vs v) (hu : Tm.err u = 0) (hv : Tm.err v = 0) : ∀ (n : Nat) (t : List Int) (k : Nat), t.length < n → Tm.err t = 0 → k < t.length → Tm.val A vs (Tm.put t k u) = Tm.val A vs (Tm.put t k v) := by
  intro n
  induction n with
  | zero => intro t k h; omega
  | succ n ih =>
    intro t k hn ht hk
    by_cases h0 : k = 0
    · subst h0; rw [Tm.put_zero ht, Tm.put_zero ht]; exact huv
    · obtain ⟨m, hm, h1, h2⟩ := Tm.place_kid ht (by omega) hk
      obtain ⟨su, hkl, ku⟩ := Tm.put_view ht hu hm h1 h2
      obtain ⟨sv, _, kv⟩ := Tm.put_view ht hv hm h1 h2
      have hs0 : 0 ≤ Tm.sym t := Tm.Gt.pos (r := fun _ => 0) (.eq t _ m hm rfl)
      refine Tm.val_same (by rw [su]; omega) (by rw [su, sv]) fun l hl => ?_
      rw [su] at hl
      rw [ku l hl, kv l hl]
      by_cases el : l = m
      · rw [if_pos el, if_pos el]
        exact ih _ _ (by have := Tm.kid_short hm; omega) (Tm.kid_err ht hm) hkl
      · rw [if_neg el, if_neg el]
/-- A rule holds, whatever variables are. -/
def Tm.Holds (A : Int → Nat → Nat → Nat) (a b : List Int) : Prop := ∀ vs : Nat → Nat, (∀ i, vs i < 3) → Tm.val A vs a = Tm.val A vs b
theorem Tm.Step1.val {A : Int → Nat → Nat → Nat} {vs : Nat → Nat} {L R t u : List Int} {a : Nat} {m : Asg} (h : Tm.Step1 L R t u a m) (hL : Tm.err L = 0) (hR : Tm.err R = 0) (ht : Tm.err t = 0) (ha : a < t.length) (hA : ∀ s x y, A s x y < 3) (hv : ∀ i, vs i < 3) (hh : Tm.Holds A L R) : Tm.val A vs t = Tm.val A vs u := by
  obtain ⟨hs, e1, e2, _⟩ := h.parts hL hR ht ha
  have h1 : Tm.val A vs (Tm.applied (Tm.fitL m 8) L) = Tm.val A vs (Tm.applied (Tm.fitL m 8) R) := by
    rw [Tm.val_applied hs _ L (Nat.lt_succ_self _) hL, Tm.val_applied hs _ R (Nat.lt_succ_self _) hR]
    exact hh _ (fun i => Tm.val_lt hA hv _)
  have h2 := Tm.val_put h1 (by rw [e1]; exact Tm.part_err ht ha) e2 _ t a (Nat.lt_succ_self _) ht ha
  rw [e1, Tm.put_self, ← h.goes] at h2
  exact h2
/-! Numbers in threes. -/
def asg (n x : Nat) (i : Nat) : Nat := if i < n then x / 3 ^ i % 3 else 0
/-- Are both the same, whatever their variables are? -/
def Tm.holdsB (A : Int → Nat → Nat → Nat) (a b : List Int) (n : Nat) : Bool := decide (∀ x, x < 3 ^ n → Tm.val A (asg n x) a = Tm.val A (asg n x) b)
end Go.Proofs.Ytgeknojpcjadkaa

namespace Go.Proofs.Ytgeknojpcjadkaa
open Go.Proofs Go.RowKit Go.Shelf Go.Maps

def dpN (t : List Int) : Nat := t.foldl (fun n s => max n (-s).toNat) 0
end Go.Proofs.Ytgeknojpcjadkaa
