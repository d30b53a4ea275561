/-
  PLAIN MATHEMATICS of terms as lists of signs: no program in it. 'run l n': how many signs n terms take up that stand at the head of l (a sign that is missing counts as one without parts).
-/
namespace Go.Proofs.Ytbelnlemjcoifaa.Tm

def room (s : Int) : Nat := if s = 2 ∨ s = 3 then 1 else if s = 4 ∨ s = 5 then 2 else 0

theorem room_le (s : Int) : room s ≤ 2 := by unfold room; split <;> (try split) <;> omega

def run : List Int → Nat → Nat
  | _, 0 => 0
  | [], n + 1 => n + 1
  | s :: l, n + 1 => 1 + run l (n + room s)

theorem run_zero (l : List Int) : run l 0 = 0 := by cases l <;> simp [run]
theorem run_nil (n : Nat) : run [] n = n := by cases n <;> simp [run]
theorem run_cons (s : Int) (l : List Int) (n : Nat) : run (s :: l) (n + 1) = 1 + run l (n + room s) := by simp [run]

theorem run_add (l : List Int) : ∀ (a b : Nat), run l (a + b) = run l a + run (l.drop (run l a)) b := by
  induction l with
  | nil => intro a b; simp [run_nil]
  | cons s l ih =>
    intro a b
    cases a with
    | zero => simp [run_zero]
    | succ a =>
      rw [show a + 1 + b = (a + b) + 1 from by omega, run_cons, run_cons, show a + b + room s = (a + room s) + b from by omega, ih,
        show 1 + run l (a + room s) = run l (a + room s) + 1 from by omega, List.drop_succ_cons]
      omega

theorem run_ge (l : List Int) : ∀ (n : Nat), n ≤ run l n := by
  induction l with
  | nil => intro n; simp [run_nil]
  | cons s l ih =>
    intro n
    cases n with
    | zero => simp
    | succ n => rw [run_cons]; have := ih (n + room s); omega

theorem run_le (l : List Int) : ∀ (n : Nat), run l n ≤ 2 * l.length + n := by
  induction l with
  | nil => intro n; simp [run_nil]
  | cons s l ih =>
    intro n
    cases n with
    | zero => simp [run_zero]
    | succ n => rw [run_cons]; have := ih (n + room s); have := room_le s; simp only [List.length_cons]; omega

/-- Where the next one behind the term at place k would begin. -/
def endAt (t : List Int) (k : Nat) : Nat := k + run (t.drop k) 1

theorem endAt_gt (t : List Int) (k : Nat) : k < endAt t k := by unfold endAt; have := run_ge (t.drop k) 1; omega
theorem endAt_le (t : List Int) (k : Nat) : endAt t k ≤ k + (2 * (t.length - k) + 1) := by
  unfold endAt; have := run_le (t.drop k) 1; rw [List.length_drop] at this; omega
theorem endAt_out (t : List Int) (k : Nat) (h : t.length ≤ k) : endAt t k = k + 1 := by
  unfold endAt; rw [List.drop_of_length_le h, run_nil]

/-- Where part i of the term at place k begins. -/
def pos (t : List Int) (k i : Nat) : Nat := k + 1 + run (t.drop (k + 1)) i

theorem pos_zero (t : List Int) (k : Nat) : pos t k 0 = k + 1 := by simp [pos, run_zero]
theorem pos_succ (t : List Int) (k i : Nat) : pos t k (i + 1) = endAt t (pos t k i) := by
  unfold pos endAt
  rw [run_add, List.drop_drop]
  omega
theorem pos_gt (t : List Int) (k i : Nat) : k < pos t k i := by unfold pos; omega
theorem pos_le (t : List Int) (k i : Nat) : pos t k i ≤ k + 1 + (2 * (t.length - (k + 1)) + i) := by
  unfold pos; have := run_le (t.drop (k + 1)) i; rw [List.length_drop] at this; omega

theorem endAt_in (t : List Int) (k : Nat) (h : k < t.length) : endAt t k = pos t k (room (t[k]?.getD 0)) := by
  unfold endAt pos
  rw [List.drop_eq_getElem_cons h, show (1 : Nat) = 0 + 1 from rfl, run_cons]
  simp [h]
  omega

/-- The parts' begins and ends, the first n of them. -/
def parts (t : List Int) (k n : Nat) : List (Nat × Nat) := (List.range n).map fun i => (pos t k i, pos t k (i + 1))
theorem parts_succ (t : List Int) (k n : Nat) : parts t k (n + 1) = parts t k n ++ [(pos t k n, pos t k (n + 1))] := by simp [parts, List.range_succ]
theorem parts_length (t : List Int) (k n : Nat) : (parts t k n).length = n := by simp [parts]

/-- What 'end' holds when 'pre' has come. -/
def lastEnd (k : Nat) (pre : List (Nat × Nat)) : Nat := (pre.getLast?.map Prod.snd).getD (k + 1)
theorem lastEnd_nil (k : Nat) : lastEnd k [] = k + 1 := rfl
theorem lastEnd_snoc (k : Nat) (pre : List (Nat × Nat)) (x : Nat × Nat) : lastEnd k (pre ++ [x]) = x.2 := by simp [lastEnd]
theorem lastEnd_parts (t : List Int) (k n : Nat) : lastEnd k (parts t k n) = pos t k n := by
  cases n with
  | zero => simp [parts, lastEnd, pos_zero]
  | succ n => rw [parts_succ, lastEnd_snoc]

/-- Is each sign a symbol or a variable? -/
def known (s : Int) : Bool := decide (-8 ≤ s) && decide (s < 6)
/-- A term's error, as a number: many 2, range 3, form 1, ok 0. -/
def err (t : List Int) : Int := if 30 < t.length then 2 else if t.all known = false then 3 else if run t 1 = t.length then 0 else 1

end Go.Proofs.Ytbelnlemjcoifaa.Tm
