/-
  PLAIN MATHEMATICS: what pairs of rules are is one thing; the pairs of a group's rules. · hasplaw.pairsBegun. · haspref.applied and haspref.plain of what may be long. · haspref.put, of what may be too large. · PLAIN MATHEMATICS of RulesTrue: which steps there are; how many; each goes to what is below, and brings no new variable. · What RulesTrue leans on: sums, and what stands in the term that a step comes to. · norm.Form, norm.Is. · hasplaw.normBegun.
-/
import Derived.Test.YtkjncjlombjlfaaBpa6
import Derived.Test.YtkjncjlombjlfaaBpa9
import Derived.Test.YtkjncjlombjlfaaBpa1
import Derived.Test.YtkjncjlombjlfaaBpa5
namespace Go.Proofs.Ytkjncjlombjlfaa
open Go.Proofs Go.RowKit Go.Shelf Go.Maps

section
variable {L1 R1 L2 R2 : List Int} {pass : Nat → Bool}
theorem Tm.Laps.at {n : Nat} {l : PairL} (h : Tm.Laps L1 R1 L2 R2 pass n l) : ∀ m, m < n → ∃ l', Tm.Laps L1 R1 L2 R2 pass m l' ∧ (pass m = true ∨ (∃ val, Tm.MeetSays [(Tm.part L1 m, L2)] 0 false val) ∨ (∃ val, Tm.MeetSays [(Tm.part L1 m, L2)] 0 true val ∧ Tm.prtErr val L1 R1 (m : Int) R2 = 0)) := by
  induction h with
  | zero => intro m hm; omega
  | @pass k l h hp ih =>
    intro m hm
    by_cases e : m = k
    · subst e; exact ⟨l, h, .inl hp⟩
    · exact ih m (by omega)
  | @no k l val h hp hs ih =>
    intro m hm
    by_cases e : m = k
    · subst e; exact ⟨l, h, .inr (.inl ⟨val, hs⟩)⟩
    · exact ih m (by omega)
  | @yes k l val h hp hs he ih =>
    intro m hm
    by_cases e : m = k
    · subst e; exact ⟨l, h, .inr (.inr ⟨val, hs, he⟩)⟩
    · exact ih m (by omega)
theorem Tm.Laps.one {n : Nat} {l l' : PairL} (h : Tm.Laps L1 R1 L2 R2 pass n l) (h' : Tm.Laps L1 R1 L2 R2 pass n l') : l = l' := by
  induction h generalizing l' with
  | zero => cases h'; rfl
  | pass h hp ih =>
    cases h' with
    | pass h2 _ => exact ih h2
    | no _ hq _ => rw [hp] at hq; cases hq
    | yes _ hq _ _ => rw [hp] at hq; cases hq
  | no h hp hs ih =>
    cases h' with
    | pass _ hq => rw [hp] at hq; cases hq
    | no h2 _ _ => exact ih h2
    | yes _ _ hs2 _ => have := (hs.one hs2).2.1; cases this
  | yes h hp hs he ih =>
    cases h' with
    | pass _ hq => rw [hp] at hq; cases hq
    | no _ _ hs2 => have := (hs.one hs2).2.1; cases this
    | yes h2 _ hs2 _ =>
      obtain ⟨_, _, rfl⟩ := hs.one hs2
      rw [ih h2]
theorem Tm.LapsSays.right {l ps : PairL} {e : Int} (h : Tm.Laps L1 R1 L2 R2 pass L1.length l) (h' : Tm.LapsSays L1 R1 L2 R2 pass e ps) : e = 0 ∧ ps = l := by
  rcases h' with ⟨rfl, h2⟩ | ⟨⟨h0, m, l', hm, hl', hp, hs⟩, rfl⟩
  · exact ⟨rfl, h2.one h⟩
  · obtain ⟨_, _, q | ⟨val, q⟩ | ⟨val, q, q'⟩⟩ := h.at m hm
    · rw [hp] at q; cases q
    · rcases hs with ⟨is, v, hs⟩ | ⟨v, hs, _⟩
      · exact absurd (q.one hs).1.symm h0
      · have := (q.one hs).2.1; cases this
    · rcases hs with ⟨is, v, hs⟩ | ⟨v, hs, he⟩
      · exact absurd (q.one hs).1.symm h0
      · obtain ⟨_, _, rfl⟩ := q.one hs
        rw [q'] at he
        exact absurd he.symm h0
end
theorem Tm.OfSays.right {rs : RuleL} {a b : Nat} {l ps : PairL} {e : Int} (hr : Tm.rulesErr rs = 0) (ha : a < rs.length) (hb : b < rs.length) (h : Tm.Laps (rs[a]?.getD ([], [])).1 (rs[a]?.getD ([], [])).2 (Tm.others (rs[b]?.getD ([], [])).1) (Tm.others (rs[b]?.getD ([], [])).2) (Tm.passB (rs[a]?.getD ([], [])).1 (a : Int) (b : Int)) (rs[a]?.getD ([], [])).1.length l) (h' : Tm.OfSays rs (a : Int) (b : Int) e ps) : e = 0 ∧ ps = l := by
  rcases h' with ⟨h1, _⟩ | ⟨_, h2, _⟩ | ⟨_, a', b', _, _, ea, eb, h3⟩
  · exact absurd hr h1
  · exact absurd ⟨by omega, by omega, by omega, by omega⟩ h2
  · obtain rfl : a = a' := by omega
    obtain rfl : b = b' := by omega
    exact h3.right h

/-- Two symbols clash ahead of any variable. -/
def Tm.clash : List Int → List Int → Bool
  | s :: x, t :: y => if s < 0 ∨ t < 0 then false else if s = t then Tm.clash x y else true
  | _, _ => false
theorem Tm.clash_no (θ : Wb.Sb) : ∀ (x y : List Int), Tm.clash x y = true → Wb.App θ x ≠ Wb.App θ y := by
  intro x
  induction x with
  | nil => intro y h; simp [Tm.clash] at h
  | cons s x ih =>
    intro y h
    cases y with
    | nil => simp [Tm.clash] at h
    | cons t y =>
      rw [Tm.clash] at h
      by_cases h1 : s < 0 ∨ t < 0
      · rw [if_pos h1] at h; cases h
      · rw [if_neg h1] at h
        rw [Wb.App_cons, Wb.App_cons, if_neg (by omega), if_neg (by omega), List.singleton_append, List.singleton_append]
        by_cases e : s = t
        · rw [if_pos e] at h
          intro hh
          exact ih y h (List.cons.inj hh).2
        · intro hh
          exact e (List.cons.inj hh).1
theorem Tm.no_of {x y : List Int} (h : Tm.firstPair [(x, y)] = 0) (hc : Tm.clash x y = true) : Tm.MeetSays [(x, y)] 0 false [] :=
  .inr (.inl ⟨h, fun θ _ H => Tm.clash_no θ x y hc (H 0 (by simp)), rfl, rfl, rfl⟩)

def Tm.leastB (vs : List (List Int)) : Bool := (List.range 8).all fun i : Nat => (vs[i]?.getD []).length != 1 || decide (0 ≤ (vs[i]?.getD []).headD 0) || decide (-1 - (i : Int) ≤ (vs[i]?.getD []).headD 0)
def Tm.pv0 : List (List Int) := [[0], [-2], [-3], [-4], [-2], [-6], [-7], [-8]]
def Tm.pv1 : List (List Int) := [[2, -2], [-2], [-3], [-4], [-2], [-6], [-7], [-8]]
def Tm.pv2 : List (List Int) := [[4, -5, -6], [-2], [-3], [-4], [-5], [-6], [-2], [-8]]
/-- A place where symbols clash, or that is passed over. -/
theorem Tm.Laps.clash {L1 R1 L2 R2 : List Int} {pass : Nat → Bool} {m : Nat} {l : PairL} (h : Tm.Laps L1 R1 L2 R2 pass m l) (hc : pass m = true ∨ (pass m = false ∧ Tm.firstPair [(Tm.part L1 m, L2)] = 0 ∧ Tm.clash (Tm.part L1 m) L2 = true)) : Tm.Laps L1 R1 L2 R2 pass (m + 1) l := by
  rcases hc with hp | ⟨hp, h1, h2⟩
  · exact .pass h hp
  · exact .no h hp (Tm.no_of h1 h2)
/-- Nothing but such places. -/
def Tm.allClash (L1 L2 : List Int) (pass : Nat → Bool) (from' upto : Nat) : Bool := (List.range (upto - from')).all fun k => pass (from' + k) || (decide (Tm.firstPair [(Tm.part L1 (from' + k), L2)] = 0) && Tm.clash (Tm.part L1 (from' + k)) L2)
theorem Tm.Laps.run {L1 R1 L2 R2 : List Int} {pass : Nat → Bool} {m : Nat} {l : PairL} (h : Tm.Laps L1 R1 L2 R2 pass m l) : ∀ n, Tm.allClash L1 L2 pass m (m + n) = true → Tm.Laps L1 R1 L2 R2 pass (m + n) l := by
  intro n
  induction n with
  | zero => intro _; exact h
  | succ n ih =>
    intro hc
    unfold Tm.allClash at hc ih
    rw [Nat.add_sub_cancel_left] at hc ih
    rw [List.range_succ, List.all_append, Bool.and_eq_true] at hc
    refine (ih hc.1).clash ?_
    have h2 := hc.2
    simp at h2
    cases hp : pass (m + n) with
    | true => exact .inl rfl
    | false =>
      rw [hp] at h2
      simp at h2
      exact .inr ⟨rfl, h2.1, h2.2⟩

/-- The pairs of two rules of a group. -/
def Tm.GrpLaps (a b : Nat) (l : PairL) : Prop := Tm.Laps (groupL[a]?.getD ([], [])).1 (groupL[a]?.getD ([], [])).2 (Tm.others (groupL[b]?.getD ([], [])).1) (Tm.others (groupL[b]?.getD ([], [])).2) (Tm.passB (groupL[a]?.getD ([], [])).1 (a : Int) (b : Int)) (groupL[a]?.getD ([], [])).1.length l
end Go.Proofs.Ytkjncjlombjlfaa

namespace Go.Proofs.Ytkjncjlombjlfaa
open Go.Proofs Go.RowKit Go.Shelf Go.Maps

end Go.Proofs.Ytkjncjlombjlfaa

namespace Go.Proofs.Ytkjncjlombjlfaa
open Go.Proofs Go.RowKit Go.Shelf Go.Maps

end Go.Proofs.Ytkjncjlombjlfaa

namespace Go.Proofs.Ytkjncjlombjlfaa
open Go.Proofs Go.RowKit Go.Shelf

end Go.Proofs.Ytkjncjlombjlfaa

namespace Go.Proofs.Ytkjncjlombjlfaa
open Go.Proofs Go.RowKit Go.Shelf Go.Maps

/-! How many. -/
def Tm.cnt (f : Nat → Bool) : Nat → Nat
  | 0 => 0
  | n + 1 => Tm.cnt f n + (if f n = true then 1 else 0)
def Tm.sum (g : Nat → Nat) : Nat → Nat
  | 0 => 0
  | n + 1 => Tm.sum g n + g n
/-! What a step is. -/
/-- A step of a right term by a rule that is right. -/
structure Tm.Step1 (L R t u : List Int) (a : Nat) (m : Asg) : Prop where
  fit : Tm.fit L (Tm.part t a) = some m
  goes : u = Tm.put t a (Tm.applied (Tm.fitL m 8) R)
  small : u.length ≤ 30
theorem Tm.put_self (t : List Int) (a : Nat) : Tm.put t a (Tm.part t a) = t := by rw [Tm.put_eq]; exact (Tm.split t a).symm
theorem Tm.Step1.parts {L R t u : List Int} {a : Nat} {m : Asg} (h : Tm.Step1 L R t u a m) (hL : Tm.err L = 0) (hR : Tm.err R = 0) (ht : Tm.err t = 0) (ha : a < t.length) :
    Terms (Tm.fitL m 8) ∧ Tm.applied (Tm.fitL m 8) L = Tm.part t a ∧ Tm.err (Tm.applied (Tm.fitL m 8) R) = 0 ∧ Tm.err u = 0 := by
  have hs := Terms.of (Tm.subErr_fitL hL (Tm.part_err ht ha) h.fit)
  have hl := h.small
  have hle := Tm.applied_put_le (t := t) (u := Tm.applied (Tm.fitL m 8) R) (a := a)
  rw [← h.goes] at hle
  have hu := Tm.err_applied hs hR (by omega)
  refine ⟨hs, Tm.fit_makes hL (Tm.part_err ht ha) h.fit, hu, ?_⟩
  rw [h.goes]
  exact Tm.put_err ht hu ha (by rw [← h.goes]; exact hl)
/-- Of a rule that falls the step goes to what is below. -/
theorem Tm.Step1.below {r : Int → Int} {L R t u : List Int} {a : Nat} {m : Asg} (h : Tm.Step1 L R t u a m) (hL : Tm.err L = 0) (hR : Tm.err R = 0) (ht : Tm.err t = 0) (ha : a < t.length) (hg : Tm.Gt r L R) : Tm.Gt r t u := by
  obtain ⟨hs, e1, e2, _⟩ := h.parts hL hR ht ha
  have h1 := Tm.Gt.stays hs hg hL hR
  have h2 := Tm.Gt.within h1 (by rw [e1]; exact Tm.part_err ht ha) e2 _ t a (Nat.lt_succ_self _) ht ha
  rw [e1, Tm.put_self, ← h.goes] at h2
  exact h2
end Go.Proofs.Ytkjncjlombjlfaa

namespace Go.Proofs.Ytkjncjlombjlfaa
open Go.Proofs Go.RowKit Go.Shelf Go.Maps

/-- Is the sign a symbol, or among the first j of t? -/
def isB (s : Int) (t : List Int) (j : Nat) : Bool := decide (0 ≤ s) || (t.take j).any fun x => x == s
end Go.Proofs.Ytkjncjlombjlfaa

namespace Go.Proofs.Ytkjncjlombjlfaa
open Go.Proofs Go.RowKit Go.Shelf Go.Maps

/-- G1: always the first of the steps, k having been taken. -/
def Tm.fm (rs : RuleL) : Nat → List Int → Nat → List Int × Nat × Int
  | 0, _, _ => ([], 0, 2)
  | f + 1, t, k => if Tm.stepErr rs t = 0 then (match Tm.stepVal rs t with | [] => (t, k, 0) | s :: _ => Tm.fm rs f s.2.2 (k + 1)) else ([], 0, Tm.stepErr rs t)
def Tm.form (rs : RuleL) (t : List Int) : List Int × Nat × Int := Tm.fm rs 61 t 0
end Go.Proofs.Ytkjncjlombjlfaa

namespace Go.Proofs.Ytkjncjlombjlfaa
open Go.Proofs Go.RowKit Go.Shelf Go.Maps

end Go.Proofs.Ytkjncjlombjlfaa
