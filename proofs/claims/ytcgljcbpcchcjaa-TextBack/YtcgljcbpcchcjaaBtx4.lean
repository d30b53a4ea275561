/-
  haspref.OverOf. · hasplaw.matchBegun. · PLAIN MATHEMATICS of what variables become: first by one list, then by another, is by After of both. · PLAIN MATHEMATICS of fitting: by what fits the one becomes the other; what was made of it fits. · PLAIN MATHEMATICS of the order: a term is its symbol and its parts; who is above stays above, whatever variables become, and wherever both stand; without variables one of two that differ is above. · PLAIN MATHEMATICS of terms of any size as trees: each is a list of signs (flat), and each list of signs that is a term is one tree's. · PLAIN MATHEMATICS OF L1 AND L2: how a term is shown, and how a text is read. · text.letter, haspref.letter: the letter of a sign. · haspref.TermText, signOf, TermFrom: the reference's side of L1. · A RANGE OVER signs.Parts, WHOSE BODY MAY PANIC: the rounds are numbered; what the body panics with goes up. · THE STATEMENT 'for .. := range it', whose rounds are numbered, whose body may leave, or panic. · signs.Room, signs.Parts, signs.End within a fence that holds all functions that there are; lists of up to 5000 signs. · signs.End, of lists of up to 5000 signs, within the fence. · signs.End, of lists of up to 5000 signs, at every place. · A REGION THAT DRAWS ITS ORDER, WITHIN A ROUND: it runs there as it runs outside of it, if nothing is deferred in it: so the laws that take an operation first (which want that no round is at hand) serve there, too.
-/
import Derived.Test.YtcgljcbpcchcjaaBtx3
import Derived.Test.YtcgljcbpcchcjaaBtx1
import Derived.Test.YtcgljcbpcchcjaaBtx2
import Derived.Laws.IdiomStrings
import Derived.OwnWalkIn
import Derived.OrdersIn
import Derived.Shelf.RegionOpen
import Derived.RangeFuncCalls
namespace Go.Proofs.Ytcgljcbpcchcjaa
open Go.Proofs Go.RowKit Go.Shelf Go.Maps

end Go.Proofs.Ytcgljcbpcchcjaa

namespace Go.Proofs.Ytcgljcbpcchcjaa
open Go.Proofs Go.RowKit Go.Shelf Go.Maps

theorem Tm.m1 : Tm.fitErr [4, -1, 2, -2] [4, 3, 0, 2, -1] = 0 := by decide +kernel
theorem Tm.m2 : Tm.fitIs [4, -1, 2, -2] [4, 3, 0, 2, -1] = true := by decide +kernel
theorem Tm.m3 : Tm.fitVal [4, -1, 2, -2] [4, 3, 0, 2, -1] = [[3, 0], [-1], [-3], [-4], [-5], [-6], [-7], [-8]] := by decide +kernel
end Go.Proofs.Ytcgljcbpcchcjaa

namespace Go.Proofs.Ytcgljcbpcchcjaa
open Go.Proofs Go.RowKit Go.Shelf

theorem Tm.applied_cons (ss : List (List Int)) (s : Int) (l : List Int) : Tm.applied ss (s :: l) = Tm.piece ss s ++ Tm.applied ss l := by simp [Tm.applied]
theorem Tm.piece_pos {ss : List (List Int)} {s : Int} (h : 0 ≤ s) : Tm.piece ss s = [s] := by unfold Tm.piece; rw [if_neg (by omega)]

/-- Each list is a term. -/
def Terms (ss : List (List Int)) : Prop := ∀ j, j < 8 → Tm.err (ss[j]?.getD []) = 0
theorem Terms.of {ss : List (List Int)} (h : Tm.subErr ss = 0) : Terms ss := fun j hj => Tm.firstErr_all (Tm.subErr_ok h).2 j (by rw [(Tm.subErr_ok h).1]; exact hj)
theorem Tm.piece_term {ss : List (List Int)} (h : Terms ss) {s : Int} (h8 : -8 ≤ s) (hs : s < 0) : Tm.err (Tm.piece ss s) = 0 := by
  unfold Tm.piece
  rw [if_pos hs]
  exact h _ (by omega)

theorem Tm.run_applied {ss : List (List Int)} (h : Terms ss) : ∀ (t : List Int) (n : Nat), t.all Tm.known = true → Tm.run t n = t.length → Tm.run (Tm.applied ss t) n = (Tm.applied ss t).length := by
  intro t
  induction t with
  | nil => intro n _ hr; rw [Tm.run_nil] at hr; subst hr; rw [List.length_nil, Tm.run_zero]; rfl
  | cons s l ih =>
    intro n hk hr
    rw [List.all_cons, Bool.and_eq_true] at hk
    cases n with
    | zero => rw [Tm.run_zero, List.length_cons] at hr; omega
    | succ n =>
      rw [Tm.run_cons, List.length_cons] at hr
      rw [Tm.applied_cons]
      by_cases hs : s < 0
      · rw [Tm.room_neg hs] at hr
        have hp := Tm.err_run (Tm.piece_term h (Tm.known_ge hk.1) hs)
        have hi := ih n hk.2 (by rw [Nat.add_zero] at hr; omega)
        rw [show n + 1 = 1 + n from by omega, Tm.run_add, Tm.run_app _ _ 1 (by omega), hp, List.drop_left, hi, List.length_append]
      · rw [Tm.piece_pos (by omega), List.singleton_append, Tm.run_cons, List.length_cons, ih _ hk.2 (by omega)]
        omega
end Go.Proofs.Ytcgljcbpcchcjaa

namespace Go.Proofs.Ytcgljcbpcchcjaa
open Go.Proofs Go.RowKit Go.Shelf

/-- What a sign becomes by what was found. -/
def Tm.found (m : Asg) (s : Int) : List Int := if s < 0 then (m s).getD [s] else [s]
theorem Tm.endAt_front {pre x post : List Int} (hx : Tm.run x 1 = x.length) : Tm.endAt (pre ++ (x ++ post)) pre.length = pre.length + x.length := by
  have h := Tm.endAt_mid (pre := pre) (t := x) (post := post) (k := 0) (by omega) (by rw [Tm.endAt_zero]; omega)
  rw [Nat.add_zero, Tm.endAt_zero, hx] at h
  exact h
theorem Tm.part_front {pre x post : List Int} (hx : Tm.run x 1 = x.length) : Tm.part (pre ++ (x ++ post)) pre.length = x := by
  unfold Tm.part
  rw [Tm.endAt_front hx, List.drop_left, show pre.length + x.length - pre.length = x.length from by omega, List.take_left]
end Go.Proofs.Ytcgljcbpcchcjaa

namespace Go.Proofs.Ytcgljcbpcchcjaa
open Go.Proofs Go.RowKit Go.Shelf

theorem Tm.pos_flat {s : Int} {zss : List (List Int)} (hz : ∀ j, j < zss.length → Tm.run (zss[j]?.getD []) 1 = (zss[j]?.getD []).length) : ∀ m, m ≤ zss.length → Tm.pos (s :: zss.flatten) 0 m = (s :: (zss.take m).flatten).length := by
  intro m
  induction m with
  | zero => intro _; simp [Tm.pos_zero]
  | succ m ih =>
    intro hm
    rw [Tm.pos_succ, ih (by omega)]
    have e : s :: zss.flatten = (s :: (zss.take m).flatten) ++ (zss[m]?.getD [] ++ (zss.drop (m + 1)).flatten) := by rw [List.cons_append, ← split_flatten (by omega)]
    rw [e, Tm.endAt_front (hz m (by omega)), List.length_cons, List.length_cons, flatten_snoc (by omega), List.length_append]
    omega
theorem Tm.kid_flat {s : Int} {zss : List (List Int)} (hz : ∀ j, j < zss.length → Tm.run (zss[j]?.getD []) 1 = (zss[j]?.getD []).length) {m : Nat} (hm : m < zss.length) : Tm.kid (s :: zss.flatten) m = zss[m]?.getD [] := by
  unfold Tm.kid
  rw [Tm.pos_flat hz m (by omega)]
  have e : s :: zss.flatten = (s :: (zss.take m).flatten) ++ (zss[m]?.getD [] ++ (zss.drop (m + 1)).flatten) := by rw [List.cons_append, ← split_flatten (by omega)]
  rw [e, Tm.part_front (hz m hm)]

def Tm.kids (x : List Int) (n : Nat) : List (List Int) := (List.range n).map (Tm.kid x)
theorem Tm.kids_len (x : List Int) (n : Nat) : (Tm.kids x n).length = n := by simp [Tm.kids]
theorem Tm.kids_succ (x : List Int) (n : Nat) : Tm.kids x (n + 1) = Tm.kids x n ++ [Tm.kid x n] := by simp [Tm.kids, List.range_succ]
theorem Tm.take_end (x : List Int) (k : Nat) : x.take (Tm.endAt x k) = x.take k ++ Tm.part x k := by
  have := Tm.endAt_gt x k
  unfold Tm.part
  rw [show Tm.endAt x k = k + (Tm.endAt x k - k) from by omega, List.take_add, show k + (Tm.endAt x k - k) - k = Tm.endAt x k - k from by omega]
theorem Tm.take_pos {x : List Int} (h : 0 < x.length) : ∀ n, x.take (Tm.pos x 0 n) = Tm.sym x :: (Tm.kids x n).flatten := by
  intro n
  induction n with
  | zero =>
    obtain ⟨s, l, rfl⟩ : ∃ s l, x = s :: l := by cases x with | nil => simp at h | cons s l => exact ⟨s, l, rfl⟩
    simp [Tm.pos_zero, Tm.sym, Tm.kids]
  | succ n ih =>
    rw [Tm.pos_succ, Tm.take_end, ih, Tm.kids_succ, List.flatten_append, List.cons_append]
    simp [Tm.kid]
theorem Tm.pos_last {x : List Int} (h : Tm.err x = 0) : Tm.pos x 0 (Tm.room (Tm.sym x)) = x.length := by
  have h1 := Tm.endAt_in x 0 (Tm.err_pos h)
  rw [Tm.endAt_zero, Tm.err_run h] at h1
  exact h1.symm
/-- A term is its symbol and its parts. -/
theorem Tm.view {x : List Int} (h : Tm.err x = 0) : x = Tm.sym x :: (Tm.kids x (Tm.room (Tm.sym x))).flatten := by
  rw [← Tm.take_pos (Tm.err_pos h), Tm.pos_last h, List.take_length]
theorem Tm.pos_step (x : List Int) (k m : Nat) : Tm.pos x k m < Tm.pos x k (m + 1) := by rw [Tm.pos_succ]; exact Tm.endAt_gt _ _
theorem Tm.pos_in {x : List Int} (h : Tm.err x = 0) {m : Nat} (hm : m < Tm.room (Tm.sym x)) : Tm.pos x 0 m < x.length := by
  have h1 := Tm.pos_step x 0 m
  have h2 := Tm.pos_mono x 0 (m + 1) (Tm.room (Tm.sym x)) (by omega)
  rw [Tm.pos_last h] at h2
  omega
theorem Tm.kid_err {x : List Int} (h : Tm.err x = 0) {m : Nat} (hm : m < Tm.room (Tm.sym x)) : Tm.err (Tm.kid x m) = 0 := Tm.part_err h (Tm.pos_in h hm)
/-- The parts of a term that stands in another one. -/
theorem Tm.sym_part {zs : List Int} (he : Tm.err zs = 0) {i : Nat} (hi : i < zs.length) : Tm.sym (Tm.part zs i) = zs[i]?.getD 0 := by
  have hl := Tm.part_length he hi
  have hg := Tm.endAt_gt zs i
  unfold Tm.sym Tm.part
  rw [List.getElem?_take_of_lt (by omega), List.getElem?_drop]
  simp
theorem Tm.pos_part {zs : List Int} (he : Tm.err zs = 0) {i : Nat} (hi : i < zs.length) : ∀ m, m ≤ Tm.room (zs[i]?.getD 0) → Tm.pos zs i m = i + Tm.pos (Tm.part zs i) 0 m := by
  have hp := Tm.part_err he hi
  have hs := Tm.sym_part he hi
  have hsp := Tm.split zs i
  have hti : (zs.take i).length = i := by simp; omega
  intro m
  induction m with
  | zero => intro _; simp [Tm.pos_zero]
  | succ m ih =>
    intro hm
    have hin := Tm.pos_in hp (m := m) (by rw [hs]; omega)
    rw [Tm.pos_succ, Tm.pos_succ, ih (by omega)]
    have h := Tm.endAt_mid (pre := zs.take i) (t := Tm.part zs i) (post := zs.drop (Tm.endAt zs i)) (k := Tm.pos (Tm.part zs i) 0 m) (by omega) (Tm.end_in hp hin)
    rw [← hsp, hti] at h
    exact h
theorem Tm.kid_part {zs : List Int} (he : Tm.err zs = 0) {i : Nat} (hi : i < zs.length) {m : Nat} (hm : m < Tm.room (zs[i]?.getD 0)) : Tm.kid (Tm.part zs i) m = Tm.part zs (Tm.pos zs i m) := by
  have hp := Tm.part_err he hi
  have hs := Tm.sym_part he hi
  have hsp := Tm.split zs i
  have hti : (zs.take i).length = i := by simp; omega
  have hin := Tm.pos_in hp (m := m) (by rw [hs]; omega)
  have h := Tm.part_mid (pre := zs.take i) (t := Tm.part zs i) (post := zs.drop (Tm.endAt zs i)) (k := Tm.pos (Tm.part zs i) 0 m) (by omega) (Tm.end_in hp hin)
  rw [← hsp, hti] at h
  rw [Tm.pos_part he hi m (by omega), h]
  rfl

/-- Who is above stays above, whatever variables become. -/
theorem Tm.applied_flatten (ss : List (List Int)) (zss : List (List Int)) : Tm.applied ss zss.flatten = (zss.map (Tm.applied ss)).flatten := by
  induction zss with
  | nil => simp [Tm.applied]
  | cons z l ih => rw [List.flatten_cons, List.map_cons, List.flatten_cons, ← ih]; simp [Tm.applied]
theorem Tm.applied_view {ss : List (List Int)} (hss : Terms ss) {a : List Int} (ha : Tm.err a = 0) (h0 : 0 ≤ Tm.sym a) : Tm.sym (Tm.applied ss a) = Tm.sym a ∧ ∀ m, m < Tm.room (Tm.sym a) → Tm.kid (Tm.applied ss a) m = Tm.applied ss (Tm.kid a m) := by
  have e : Tm.applied ss a = Tm.sym a :: ((Tm.kids a (Tm.room (Tm.sym a))).map (Tm.applied ss)).flatten := by
    conv => lhs; rw [Tm.view ha]
    rw [Tm.applied_cons, Tm.piece_pos h0, Tm.applied_flatten]; rfl
  have hr : ∀ j, j < ((Tm.kids a (Tm.room (Tm.sym a))).map (Tm.applied ss)).length → Tm.run (((Tm.kids a (Tm.room (Tm.sym a))).map (Tm.applied ss))[j]?.getD []) 1 = (((Tm.kids a (Tm.room (Tm.sym a))).map (Tm.applied ss))[j]?.getD []).length := by
    intro j hj
    rw [List.length_map, Tm.kids_len] at hj
    have ek : ((Tm.kids a (Tm.room (Tm.sym a))).map (Tm.applied ss))[j]?.getD [] = Tm.applied ss (Tm.kid a j) := by simp [Tm.kids, hj]
    rw [ek]
    have hk := Tm.kid_err ha hj
    exact Tm.run_applied hss _ 1 (Tm.err_all hk) (Tm.err_run hk)
  constructor
  · rw [e]; simp [Tm.sym]
  · intro m hm
    rw [e, Tm.kid_flat hr (by rw [List.length_map, Tm.kids_len]; exact hm)]
    simp [Tm.kids, hm]
theorem Tm.Gt.stays {r : Int → Int} {ss : List (List Int)} (hss : Terms ss) {a b : List Int} (h : Tm.Gt r a b) : Tm.err a = 0 → Tm.err b = 0 → Tm.Gt r (Tm.applied ss a) (Tm.applied ss b) := by
  induction h with
  | eq a b m hm e =>
    intro ha hb
    obtain ⟨h1, h2⟩ := Tm.applied_view hss ha (Tm.Gt.pos (r := r) (.eq a b m hm e))
    exact .eq _ _ m (by rw [h1]; exact hm) (by rw [h2 m hm, e])
  | sub a b m hm h ih =>
    intro ha hb
    obtain ⟨h1, h2⟩ := Tm.applied_view hss ha (Tm.Gt.pos (.sub a b m hm h))
    exact .sub _ _ m (by rw [h1]; exact hm) (by rw [h2 m hm]; exact ih (Tm.kid_err ha hm) hb)
  | rk a b ha0 hb0 hall hne hr ih =>
    intro ha hb
    obtain ⟨h1, h2⟩ := Tm.applied_view hss ha ha0
    obtain ⟨k1, k2⟩ := Tm.applied_view hss hb hb0
    exact .rk _ _ (by rw [h1]; exact ha0) (by rw [k1]; exact hb0) (fun m hm => by rw [k1] at hm; rw [k2 m hm]; exact ih m hm ha (Tm.kid_err hb hm)) (by rw [h1, k1]; exact hne) (by rw [h1, k1]; exact hr)
  | lex a b m ha0 hs hall hm hl hk ih ihk =>
    intro ha hb
    obtain ⟨h1, h2⟩ := Tm.applied_view hss ha ha0
    obtain ⟨k1, k2⟩ := Tm.applied_view hss hb (by omega)
    exact .lex _ _ m (by rw [h1]; exact ha0) (by rw [h1, k1]; exact hs) (fun m hm => by rw [k1] at hm; rw [k2 m hm]; exact ih m hm ha (Tm.kid_err hb hm)) (by rw [h1]; exact hm)
      (fun l hlm => by rw [h2 l (by omega), k2 l (by rw [← hs]; omega), hl l hlm]) (by rw [h2 m hm, k2 m (by rw [← hs]; exact hm)]; exact ihk (Tm.kid_err ha hm) (Tm.kid_err hb (by rw [← hs]; exact hm)))

/-- A place that is not the first lies in a part. -/
theorem Tm.place_kid {x : List Int} (h : Tm.err x = 0) {k : Nat} (h0 : 0 < k) (hk : k < x.length) : ∃ m, m < Tm.room (Tm.sym x) ∧ Tm.pos x 0 m ≤ k ∧ k < Tm.pos x 0 (m + 1) := by
  have key : ∀ n, k < Tm.pos x 0 n → ∃ m, m < n ∧ Tm.pos x 0 m ≤ k ∧ k < Tm.pos x 0 (m + 1) := by
    intro n
    induction n with
    | zero => intro hn; rw [Tm.pos_zero] at hn; omega
    | succ n ih =>
      intro hn
      by_cases hc : k < Tm.pos x 0 n
      · obtain ⟨m, h1, h2⟩ := ih hc; exact ⟨m, by omega, h2⟩
      · exact ⟨n, by omega, by omega, hn⟩
  exact key _ (by rw [Tm.pos_last h]; exact hk)
/-- Each is above its parts. -/
theorem Tm.Gt.parts {r : Int → Int} : ∀ (n : Nat) (t : List Int) (k : Nat), t.length < n → Tm.err t = 0 → 0 < k → k < t.length → Tm.Gt r t (Tm.part t k) := by
  intro n
  induction n with
  | zero => intro t k h; omega
  | succ n ih =>
    intro t k hn ht h0 hk
    obtain ⟨m, hm, h1, h2⟩ := Tm.place_kid ht h0 hk
    have hpi := Tm.pos_in ht hm
    have hke := Tm.kid_err ht hm
    have hkl : (Tm.kid t m).length = Tm.pos t 0 (m + 1) - Tm.pos t 0 m := by rw [Tm.pos_succ]; exact Tm.part_length ht hpi
    have hti : (t.take (Tm.pos t 0 m)).length = Tm.pos t 0 m := by simp; omega
    have hk' : k - Tm.pos t 0 m < (Tm.kid t m).length := by omega
    have hpk : Tm.part t k = Tm.part (Tm.kid t m) (k - Tm.pos t 0 m) := by
      have h := Tm.part_mid (pre := t.take (Tm.pos t 0 m)) (t := Tm.kid t m) (post := t.drop (Tm.endAt t (Tm.pos t 0 m))) (k := k - Tm.pos t 0 m) (by omega) (Tm.end_in hke hk')
      have hs := Tm.split t (Tm.pos t 0 m)
      rw [show Tm.part t (Tm.pos t 0 m) = Tm.kid t m from rfl] at hs
      rw [← hs, hti, show Tm.pos t 0 m + (k - Tm.pos t 0 m) = k from by omega] at h
      exact h
    rw [hpk]
    by_cases e : k - Tm.pos t 0 m = 0
    · rw [e, Tm.part_all0 (Tm.err_run hke)]; exact .eq _ _ m hm rfl
    · exact .sub _ _ m hm (ih _ _ (by have := Tm.kid_short hm; omega) hke (by omega) hk')

end Go.Proofs.Ytcgljcbpcchcjaa

namespace Go.Proofs.Ytcgljcbpcchcjaa
open Go.Proofs Go.RowKit Go.Shelf

inductive Tr
  | leaf (s : Int)
  | one (s : Int) (a : Tr)
  | two (s : Int) (a b : Tr)
def Tr.flat : Tr → List Int
  | .leaf s => [s]
  | .one s a => s :: a.flat
  | .two s a b => s :: (a.flat ++ b.flat)
def Tr.ok : Tr → Prop
  | .leaf s => s < 2
  | .one s a => (s = 2 ∨ s = 3) ∧ a.ok
  | .two s a b => (s = 4 ∨ s = 5) ∧ a.ok ∧ b.ok
def Tr.sy : Tr → Int
  | .leaf s => s
  | .one s _ => s
  | .two s _ _ => s
def Tr.kids : Tr → List Tr
  | .leaf _ => []
  | .one _ a => [a]
  | .two _ a b => [a, b]

theorem room_leaf {s : Int} (h : s < 2) : Tm.room s = 0 := by unfold Tm.room; rw [if_neg (by omega), if_neg (by omega)]
theorem room_one {s : Int} (h : s = 2 ∨ s = 3) : Tm.room s = 1 := by unfold Tm.room; rw [if_pos h]
theorem room_two {s : Int} (h : s = 4 ∨ s = 5) : Tm.room s = 2 := by unfold Tm.room; rw [if_neg (by omega), if_pos h]

theorem Tr.room {x : Tr} (h : x.ok) : Tm.room x.sy = x.kids.length := by
  cases x with
  | leaf s => exact room_leaf h
  | one s a => exact room_one h.1
  | two s a b => exact room_two h.1
theorem Tr.kids_ok {x : Tr} (h : x.ok) : ∀ c ∈ x.kids, c.ok := by
  cases x with
  | leaf s => intro c hc; cases hc
  | one s a => intro c hc; rw [List.mem_singleton.1 hc]; exact h.2
  | two s a b =>
    intro c hc
    rcases List.mem_cons.1 hc with rfl | hc
    · exact h.2.1
    · rw [List.mem_singleton.1 hc]; exact h.2.2
theorem Tr.sym (x : Tr) : Tm.sym x.flat = x.sy := by cases x <;> rfl
theorem Tr.run {x : Tr} : x.ok → ∀ (l : List Int) (n : Nat), Tm.run (x.flat ++ l) (n + 1) = x.flat.length + Tm.run l n := by
  induction x with
  | leaf s => intro h l n; rw [Tr.flat, List.singleton_append, Tm.run_cons, room_leaf h]; rfl
  | one s a ih =>
    intro h l n
    rw [Tr.flat, List.cons_append, Tm.run_cons, room_one h.1, ih h.2, List.length_cons]
    omega
  | two s a b iha ihb =>
    intro h l n
    rw [Tr.flat, List.cons_append, Tm.run_cons, room_two h.1, List.append_assoc, iha h.2.1, ihb h.2.2, List.length_cons, List.length_append]
    omega
theorem Tr.run1 {x : Tr} (h : x.ok) : Tm.run x.flat 1 = x.flat.length := by
  have := Tr.run h [] 0
  rwa [List.append_nil, Tm.run_zero] at this

theorem Tr.flat_kids (x : Tr) : x.flat = x.sy :: (x.kids.map Tr.flat).flatten := by
  cases x <;> simp [Tr.flat, Tr.sy, Tr.kids]
theorem Tr.kid {x : Tr} (h : x.ok) {m : Nat} {c : Tr} (hm : x.kids[m]? = some c) : Tm.kid x.flat m = c.flat := by
  rw [Tr.flat_kids x]
  have hlt : m < x.kids.length := by
    rcases Nat.lt_or_ge m x.kids.length with h | h
    · exact h
    · rw [List.getElem?_eq_none h] at hm; cases hm
  rw [Tm.kid_flat (zss := x.kids.map Tr.flat) ?_ (by simpa using hlt)]
  · rw [List.getElem?_map, hm]; rfl
  · intro j hj
    have hj' : j < x.kids.length := by simpa using hj
    rw [List.getElem?_map, List.getElem?_eq_getElem hj']
    exact Tr.run1 (Tr.kids_ok h _ (List.getElem_mem hj'))

theorem Tr.inj {x : Tr} : x.ok → ∀ {y : Tr} {l m : List Int}, y.ok → x.flat ++ l = y.flat ++ m → x = y ∧ l = m := by
  induction x with
  | leaf s =>
    intro h y l m hy e
    cases y with
    | leaf s' => simp only [Tr.flat, List.singleton_append, List.cons.injEq] at e; exact ⟨by rw [e.1], e.2⟩
    | one s' a => simp only [Tr.flat, List.cons_append, List.cons.injEq] at e; simp only [Tr.ok] at h hy; omega
    | two s' a b => simp only [Tr.flat, List.cons_append, List.cons.injEq] at e; simp only [Tr.ok] at h hy; omega
  | one s a ih =>
    intro h y l m hy e
    cases y with
    | leaf s' => simp only [Tr.flat, List.cons_append, List.cons.injEq] at e; simp only [Tr.ok] at h hy; omega
    | one s' a' =>
      simp only [Tr.flat, List.cons_append, List.cons.injEq] at e
      obtain ⟨h1, h2⟩ := ih h.2 hy.2 e.2
      exact ⟨by rw [e.1, h1], h2⟩
    | two s' a' b' => simp only [Tr.flat, List.cons_append, List.cons.injEq] at e; simp only [Tr.ok] at h hy; omega
  | two s a b iha ihb =>
    intro h y l m hy e
    cases y with
    | leaf s' => simp only [Tr.flat, List.cons_append, List.cons.injEq] at e; simp only [Tr.ok] at h hy; omega
    | one s' a' => simp only [Tr.flat, List.cons_append, List.cons.injEq] at e; simp only [Tr.ok] at h hy; omega
    | two s' a' b' =>
      simp only [Tr.flat, List.cons_append, List.append_assoc, List.cons.injEq] at e
      obtain ⟨h1, h2⟩ := iha h.2.1 hy.2.1 e.2
      obtain ⟨h3, h4⟩ := ihb h.2.2 hy.2.2 h2
      exact ⟨by rw [e.1, h1, h3], h4⟩
theorem Tr.flat_inj {x y : Tr} (hx : x.ok) (hy : y.ok) (e : x.flat = y.flat) : x = y := (Tr.inj hx (l := []) (m := []) hy (by rw [e])).1

/-- So many terms are so many trees. -/
theorem Tr.parse : ∀ (t : List Int) (n : Nat), (∀ s ∈ t, s < 6) → Tm.run t n = t.length → ∃ xs : List Tr, xs.length = n ∧ (∀ x ∈ xs, x.ok) ∧ (xs.map Tr.flat).flatten = t := by
  intro t
  induction t with
  | nil =>
    intro n _ h
    rw [Tm.run_nil] at h
    exact ⟨[], by simpa using h.symm, (fun _ h => by cases h), rfl⟩
  | cons s l ih =>
    intro n hs h
    cases n with
    | zero => rw [Tm.run_zero] at h; simp at h
    | succ n =>
      rw [Tm.run_cons, List.length_cons] at h
      obtain ⟨xs, h1, h2, h3⟩ := ih (n + Tm.room s) (fun x hx => hs x (List.mem_cons_of_mem _ hx)) (by omega)
      have h6 := hs s List.mem_cons_self
      by_cases c0 : s < 2
      · rw [room_leaf c0] at h1
        refine ⟨.leaf s :: xs, by simpa using h1, fun x hx => ?_, by simp [Tr.flat, h3]⟩
        rcases List.mem_cons.1 hx with rfl | hx
        · exact c0
        · exact h2 x hx
      · by_cases c1 : s = 2 ∨ s = 3
        · rw [room_one c1] at h1
          cases xs with
          | nil => simp at h1
          | cons a xs =>
            refine ⟨.one s a :: xs, by simpa using h1, fun x hx => ?_, by rw [← h3]; simp [Tr.flat]⟩
            rcases List.mem_cons.1 hx with rfl | hx
            · exact ⟨c1, h2 a List.mem_cons_self⟩
            · exact h2 x (List.mem_cons_of_mem _ hx)
        · have c2 : s = 4 ∨ s = 5 := by omega
          rw [room_two c2] at h1
          cases xs with
          | nil => simp at h1
          | cons a xs =>
            cases xs with
            | nil => simp at h1
            | cons b xs =>
              refine ⟨.two s a b :: xs, by simpa using h1, fun x hx => ?_, by rw [← h3]; simp [Tr.flat]⟩
              rcases List.mem_cons.1 hx with rfl | hx
              · exact ⟨c2, h2 a List.mem_cons_self, h2 b (List.mem_cons_of_mem _ List.mem_cons_self)⟩
              · exact h2 x (List.mem_cons_of_mem _ (List.mem_cons_of_mem _ hx))
theorem Tr.of {t : List Int} (hs : ∀ s ∈ t, s < 6) (h : Tm.run t 1 = t.length) : ∃ x : Tr, x.ok ∧ x.flat = t := by
  obtain ⟨xs, h1, h2, h3⟩ := Tr.parse t 1 hs h
  match xs, h1 with
  | [x], _ => exact ⟨x, h2 x List.mem_cons_self, by simpa using h3⟩

end Go.Proofs.Ytcgljcbpcchcjaa

namespace Go.Proofs.Ytcgljcbpcchcjaa
open Go.Proofs Go.RowKit Go.Shelf

def Tm.symL : List UInt8 := [97, 98, 103, 104, 102, 107]
def Tm.varL : List UInt8 := [120, 121, 122, 119, 112, 113, 114, 115]
/-- The letter of a sign. -/
def Tm.letr (s : Int) : UInt8 := if s < 0 then Tm.varL[(-s - 1).toNat]?.getD 0 else Tm.symL[s.toNat]?.getD 0
/-- The sign of a letter. -/
def Tm.sgnF : Nat → UInt8 → Option Int
  | 0, _ => none
  | n + 1, c => if Tm.letr (5 - (n : Int)) = c then some (5 - (n : Int)) else Tm.sgnF n c
def Tm.sgn (c : UInt8) : Option Int := Tm.sgnF 14 c

theorem byte_all {p : UInt8 → Prop} (h : ∀ n, n < 256 → p (UInt8.ofNat n)) (c : UInt8) : p c := by
  have := h c.toNat c.toNat_lt
  rwa [UInt8.ofNat_toNat] at this
theorem Tm.known_cases {s : Int} (h : Tm.known s = true) : s = -8 ∨ s = -7 ∨ s = -6 ∨ s = -5 ∨ s = -4 ∨ s = -3 ∨ s = -2 ∨ s = -1 ∨ s = 0 ∨ s = 1 ∨ s = 2 ∨ s = 3 ∨ s = 4 ∨ s = 5 := by
  unfold Tm.known at h
  simp only [Bool.and_eq_true, decide_eq_true_eq] at h
  omega
theorem Tm.sgn_letr {s : Int} (h : Tm.known s = true) : Tm.sgn (Tm.letr s) = some s := by
  rcases Tm.known_cases h with h | h | h | h | h | h | h | h | h | h | h | h | h | h <;> subst h <;> decide +kernel
theorem Tm.sgnF_some {c : UInt8} {s : Int} : ∀ {n : Nat}, n ≤ 14 → Tm.sgnF n c = some s → Tm.known s = true ∧ Tm.letr s = c := by
  intro n
  induction n with
  | zero => intro _ h; cases h
  | succ n ih =>
    intro hn h
    rw [Tm.sgnF] at h
    by_cases he : Tm.letr (5 - (n : Int)) = c
    · rw [if_pos he] at h
      cases h
      exact ⟨by unfold Tm.known; simp only [Bool.and_eq_true, decide_eq_true_eq]; omega, he⟩
    · rw [if_neg he] at h
      exact ih (by omega) h
theorem Tm.sgn_some {c : UInt8} {s : Int} (h : Tm.sgn c = some s) : Tm.known s = true ∧ Tm.letr s = c := Tm.sgnF_some (Nat.le_refl _) h
theorem Tm.sgn_marks : Tm.sgn 40 = none ∧ Tm.sgn 41 = none ∧ Tm.sgn 44 = none := by decide +kernel

/-- How a tree is shown. -/
def Tr.show : Tr → List UInt8
  | .leaf s => [Tm.letr s]
  | .one s a => Tm.letr s :: 40 :: (a.show ++ [41])
  | .two s a b => Tm.letr s :: 40 :: (a.show ++ 44 :: (b.show ++ [41]))
def Tr.knows (x : Tr) : Prop := ∀ s ∈ x.flat, Tm.known s = true

/-- The letters of a text alone. -/
def Tm.signsOf : List UInt8 → List Int
  | [] => []
  | c :: l => match Tm.sgn c with
    | some s => s :: Tm.signsOf l
    | none => Tm.signsOf l
theorem Tm.signsOf_app : ∀ (a b : List UInt8), Tm.signsOf (a ++ b) = Tm.signsOf a ++ Tm.signsOf b := by
  intro a b
  induction a with
  | nil => rfl
  | cons c l ih =>
    rw [List.cons_append, Tm.signsOf, Tm.signsOf]
    cases Tm.sgn c with
    | none => exact ih
    | some s => simp only [List.cons_append, ih]
theorem Tm.signsOf_letr {s : Int} (h : Tm.known s = true) (l : List UInt8) : Tm.signsOf (Tm.letr s :: l) = s :: Tm.signsOf l := by
  rw [Tm.signsOf, Tm.sgn_letr h]
theorem Tm.signsOf_mark {c : UInt8} (h : Tm.sgn c = none) (l : List UInt8) : Tm.signsOf (c :: l) = Tm.signsOf l := by
  rw [Tm.signsOf, h]
theorem Tr.signs {x : Tr} : x.knows → Tm.signsOf x.show = x.flat := by
  obtain ⟨m1, m2, m3⟩ := Tm.sgn_marks
  induction x with
  | leaf s => intro h; rw [Tr.show, Tm.signsOf_letr (h s (by simp [Tr.flat]))]; rfl
  | one s a ih =>
    intro h
    have ha : a.knows := fun z hz => h z (by simp [Tr.flat, hz])
    rw [Tr.show, Tm.signsOf_letr (h s (by simp [Tr.flat])), Tm.signsOf_mark m1, Tm.signsOf_app, ih ha, Tm.signsOf_mark m2]
    simp [Tr.flat, Tm.signsOf]
  | two s a b iha ihb =>
    intro h
    have ha : a.knows := fun z hz => h z (by simp [Tr.flat, hz])
    have hb : b.knows := fun z hz => h z (by simp [Tr.flat, hz])
    rw [Tr.show, Tm.signsOf_letr (h s (by simp [Tr.flat])), Tm.signsOf_mark m1, Tm.signsOf_app, iha ha, Tm.signsOf_mark m3, Tm.signsOf_app, ihb hb, Tm.signsOf_mark m2]
    simp [Tr.flat, Tm.signsOf]

/-- A mark that must stand there. -/
def Tm.mark (c : UInt8) : List UInt8 → Option (List UInt8)
  | [] => none
  | b :: l => if b = c then some l else none
/-- Reads one term, of at most m signs: its signs, and what is left. -/
def Tm.rd : Nat → Nat → List UInt8 → Option (List Int × List UInt8)
  | 0, _, _ => none
  | _ + 1, 0, _ => none
  | _ + 1, _ + 1, [] => none
  | f + 1, m + 1, c :: l => (Tm.sgn c).bind fun s =>
      if Tm.room s = 0 then some ([s], l)
      else (Tm.mark 40 l).bind fun l1 => (Tm.rd f m l1).bind fun p =>
        if Tm.room s = 1 then (Tm.mark 41 p.2).bind fun l3 => some (s :: p.1, l3)
        else (Tm.mark 44 p.2).bind fun l3 => (Tm.rd f (m - p.1.length) l3).bind fun q => (Tm.mark 41 q.2).bind fun l5 => some (s :: (p.1 ++ q.1), l5)
theorem Tm.mark_some {c : UInt8} {l r : List UInt8} (h : Tm.mark c l = some r) : l = c :: r := by
  cases l with
  | nil => cases h
  | cons b l =>
    rw [Tm.mark] at h
    by_cases e : b = c
    · rw [if_pos e] at h; cases h; rw [e]
    · rw [if_neg e] at h; cases h
theorem Tm.mark_cons (c : UInt8) (l : List UInt8) : Tm.mark c (c :: l) = some l := by rw [Tm.mark, if_pos rfl]
theorem Tm.rd_sound : ∀ (f m : Nat) (l : List UInt8) (a : List Int) (r : List UInt8), Tm.rd f m l = some (a, r) → ∃ x : Tr, x.ok ∧ x.knows ∧ x.flat = a ∧ l = x.show ++ r ∧ a.length ≤ m := by
  intro f
  induction f with
  | zero => intro m l a r h; rw [Tm.rd] at h; cases h
  | succ f ih =>
    intro m l a r h
    cases m with
    | zero => rw [Tm.rd] at h; cases h
    | succ m =>
      cases l with
      | nil => rw [Tm.rd] at h; cases h
      | cons c l =>
        rw [Tm.rd, Option.bind_eq_some_iff] at h
        obtain ⟨s, hs, h⟩ := h
        obtain ⟨k1, k2⟩ := Tm.sgn_some hs
        have hk : ∀ z, z = s → Tm.known z = true := fun z hz => by rw [hz]; exact k1
        have c3 := Tm.known_cases k1
        by_cases h0 : Tm.room s = 0
        · rw [if_pos h0] at h
          cases h
          have : s < 2 := by
            rcases c3 with h | h | h | h | h | h | h | h | h | h | h | h | h | h <;> subst h <;> first | decide | (exfalso; revert h0; decide)
          exact ⟨.leaf s, this, fun z hz => hk z (by simpa [Tr.flat] using hz), rfl, by simp [Tr.show, k2], by simp⟩
        · rw [if_neg h0, Option.bind_eq_some_iff] at h
          obtain ⟨l1, h1, h⟩ := h
          rw [Option.bind_eq_some_iff] at h
          obtain ⟨⟨a1, r1⟩, h2, h⟩ := h
          obtain ⟨x, x1, x2, x3, x4, x5⟩ := ih _ _ _ _ h2
          have e1 := Tm.mark_some h1
          by_cases h3 : Tm.room s = 1
          · rw [if_pos h3, Option.bind_eq_some_iff] at h
            obtain ⟨l3, h4, h⟩ := h
            cases h
            have e2 := Tm.mark_some h4
            have ho : s = 2 ∨ s = 3 := by
              rcases c3 with h | h | h | h | h | h | h | h | h | h | h | h | h | h <;> subst h <;> first | exact .inl rfl | exact .inr rfl | (exfalso; revert h3; decide)
            refine ⟨.one s x, ⟨ho, x1⟩, ?_, by simp [Tr.flat, x3], ?_, by simp; omega⟩
            · intro z hz
              simp only [Tr.flat, List.mem_cons] at hz
              rcases hz with hz | hz
              · exact hk z hz
              · exact x2 z hz
            · simp only at e2
              rw [e1, x4, e2, Tr.show, k2]
              simp
          · rw [if_neg h3, Option.bind_eq_some_iff] at h
            obtain ⟨l3, h4, h⟩ := h
            rw [Option.bind_eq_some_iff] at h
            obtain ⟨⟨a2, r2⟩, h5, h⟩ := h
            rw [Option.bind_eq_some_iff] at h
            obtain ⟨l5, h6, h⟩ := h
            cases h
            obtain ⟨y, y1, y2, y3, y4, y5⟩ := ih _ _ _ _ h5
            have e2 := Tm.mark_some h4
            have e3 := Tm.mark_some h6
            have ho : s = 4 ∨ s = 5 := by
              rcases c3 with h | h | h | h | h | h | h | h | h | h | h | h | h | h <;> subst h <;> first | exact .inl rfl | exact .inr rfl | (exfalso; revert h3; decide) | (exfalso; revert h0; decide)
            refine ⟨.two s x y, ⟨ho, x1, y1⟩, ?_, by simp [Tr.flat, x3, y3], ?_, by simp at y5 ⊢; omega⟩
            · intro z hz
              simp only [Tr.flat, List.mem_cons, List.mem_append] at hz
              rcases hz with hz | hz | hz
              · exact hk z hz
              · exact x2 z hz
              · exact y2 z hz
            · simp only at e2 e3
              rw [e1, x4, e2, y4, e3, Tr.show, k2]
              simp
theorem Tm.rd_whole : ∀ (x : Tr) (f m : Nat) (r : List UInt8), x.ok → x.knows → x.flat.length ≤ m → m ≤ f → Tm.rd f m (x.show ++ r) = some (x.flat, r) := by
  intro x
  induction x with
  | leaf s =>
    intro f m r ho hk h1 h2
    obtain ⟨f, rfl⟩ : ∃ k, f = k + 1 := ⟨f - 1, by simp [Tr.flat] at h1; omega⟩
    obtain ⟨m, rfl⟩ : ∃ k, m = k + 1 := ⟨m - 1, by simp [Tr.flat] at h1; omega⟩
    rw [Tr.show, List.singleton_append, Tm.rd, Tm.sgn_letr (hk s (by simp [Tr.flat])), Option.bind_some, if_pos (room_leaf ho)]
    rfl
  | one s a ih =>
    intro f m r ho hk h1 h2
    obtain ⟨f, rfl⟩ : ∃ k, f = k + 1 := ⟨f - 1, by simp [Tr.flat] at h1; omega⟩
    obtain ⟨m, rfl⟩ : ∃ k, m = k + 1 := ⟨m - 1, by simp [Tr.flat] at h1; omega⟩
    have ha : a.knows := fun z hz => hk z (by simp [Tr.flat, hz])
    have hr := room_one ho.1
    rw [Tr.show, List.cons_append, List.cons_append, Tm.rd, Tm.sgn_letr (hk s (by simp [Tr.flat])), Option.bind_some, if_neg (by rw [hr]; omega), Tm.mark_cons, Option.bind_some, List.append_assoc, ih f m _ ho.2 ha (by simp [Tr.flat] at h1; omega) (by omega), Option.bind_some, if_pos hr, List.singleton_append, Tm.mark_cons, Option.bind_some]
    rfl
  | two s a b iha ihb =>
    intro f m r ho hk h1 h2
    obtain ⟨f, rfl⟩ : ∃ k, f = k + 1 := ⟨f - 1, by simp [Tr.flat] at h1; omega⟩
    obtain ⟨m, rfl⟩ : ∃ k, m = k + 1 := ⟨m - 1, by simp [Tr.flat] at h1; omega⟩
    have ha : a.knows := fun z hz => hk z (by simp [Tr.flat, hz])
    have hb : b.knows := fun z hz => hk z (by simp [Tr.flat, hz])
    have hr := room_two ho.1
    simp only [Tr.flat, List.length_cons, List.length_append] at h1
    rw [Tr.show, List.cons_append, List.cons_append, Tm.rd, Tm.sgn_letr (hk s (by simp [Tr.flat])), Option.bind_some, if_neg (by rw [hr]; omega), Tm.mark_cons, Option.bind_some, List.append_assoc, iha f m _ ho.2.1 ha (by omega) (by omega), Option.bind_some, if_neg (by rw [hr]; omega), List.cons_append, Tm.mark_cons, Option.bind_some, List.append_assoc, ihb f (m - a.flat.length) _ ho.2.2 hb (by omega) (by omega), Option.bind_some, List.singleton_append, Tm.mark_cons, Option.bind_some]
    rfl

/-- What is read of a text; its error. -/
def Tm.read (l : List UInt8) : List Int × Int := match Tm.rd 30 30 l with
  | some (a, []) => (a, 0)
  | _ => ([], 1)
theorem Tm.read_cases (l : List UInt8) : (∃ x : Tr, x.ok ∧ x.knows ∧ x.flat.length ≤ 30 ∧ l = x.show ∧ Tm.rd 30 30 l = some (x.flat, []) ∧ Tm.read l = (x.flat, 0)) ∨
    ((∀ x : Tr, x.ok → x.knows → x.flat.length ≤ 30 → l ≠ x.show) ∧ (∀ a, Tm.rd 30 30 l ≠ some (a, [])) ∧ Tm.read l = ([], 1)) := by
  cases h : Tm.rd 30 30 l with
  | none =>
    refine .inr ⟨fun x h1 h2 h3 e => ?_, (fun a => by simp), by unfold Tm.read; rw [h]⟩
    have := Tm.rd_whole x 30 30 [] h1 h2 h3 (Nat.le_refl _)
    rw [List.append_nil, ← e, h] at this
    cases this
  | some p =>
    obtain ⟨a, r⟩ := p
    cases r with
    | nil =>
      obtain ⟨x, x1, x2, x3, x4, x5⟩ := Tm.rd_sound _ _ _ _ _ h
      subst x3
      exact .inl ⟨x, x1, x2, x5, by rw [x4, List.append_nil], rfl, by unfold Tm.read; rw [h]⟩
    | cons c r =>
      refine .inr ⟨fun x h1 h2 h3 e => ?_, (fun a => by simp), by unfold Tm.read; rw [h]⟩
      have := Tm.rd_whole x 30 30 [] h1 h2 h3 (Nat.le_refl _)
      rw [List.append_nil, ← e, h] at this
      cases this
theorem Tr.err_of {x : Tr} (h : x.ok) (hk : x.knows) (hl : x.flat.length ≤ 30) : Tm.err x.flat = 0 := by
  unfold Tm.err
  rw [if_neg (by omega), if_neg, if_pos (Tr.run1 h)]
  rw [Bool.not_eq_false, List.all_eq_true]
  exact hk
theorem Tr.of_right {t : List Int} (h : Tm.err t = 0) : ∃ x : Tr, x.ok ∧ x.knows ∧ x.flat = t ∧ x.flat.length ≤ 30 := by
  have ha := Tm.err_all h
  rw [List.all_eq_true] at ha
  obtain ⟨xs, h1, h2, h3⟩ := Tr.parse t 1 (fun s hs => Tm.known_lt (ha s hs)) (Tm.err_run h)
  match xs, h1 with
  | [x], _ =>
    have e : x.flat = t := by simpa using h3
    exact ⟨x, h2 x (by simp), by intro s hs; exact ha s (by rw [← e]; exact hs), e, by rw [e]; exact Tm.err_len h⟩
end Go.Proofs.Ytcgljcbpcchcjaa

namespace Go.Proofs.Ytcgljcbpcchcjaa
open Go.Proofs Go.RowKit Go.Shelf Go.Maps

set_option maxRecDepth 100000 in
set_option maxHeartbeats 2000000 in
theorem letter_any (s : Int) (w : World) (hk : Tm.known s = true) : Calls Try.prog 24 #[.int .i64 s] w fun e w' => e = .returned (.string ⟨#[Tm.letr s]⟩) ∧ w' = w := by
  rcases Tm.known_cases hk with h | h | h | h | h | h | h | h | h | h | h | h | h | h <;> subst h
  all_goals
    go_enter Try.func24, Try.ntmps24
    go_wp2
    go_ret
    exact ⟨rfl, rfl⟩

/-- A text as a value. -/
abbrev sv (l : List UInt8) : Value := .string ⟨l.toArray⟩
theorem sv_cat (a b : List UInt8) : (⟨a.toArray⟩ : ByteArray) ++ ⟨b.toArray⟩ = ⟨(a ++ b).toArray⟩ := by
  apply ByteArray.ext
  rw [ByteArray.data_append]
  simp
theorem Tr.show_len (x : Tr) : x.show.length ≤ 4 * x.flat.length := by
  induction x with
  | leaf s => simp [Tr.show, Tr.flat]
  | one s a ih => simp only [Tr.show, Tr.flat, List.length_cons, List.length_append, List.length_nil]; omega
  | two s a b iha ihb => simp only [Tr.show, Tr.flat, List.length_cons, List.length_append, List.length_nil]; omega
end Go.Proofs.Ytcgljcbpcchcjaa

namespace Go.Proofs.Ytcgljcbpcchcjaa
open Go.Proofs Go.RowKit Go.Shelf Go.Maps

def Tm.sgnN (o : Option Int) : Int := o.getD 0
/-- What the reference reads of a text. -/
def Tm.fromIs (l : List UInt8) : Bool := decide ((Tm.read l).2 = 0)
end Go.Proofs.Ytcgljcbpcchcjaa

namespace Go.Proofs.Ytcgljcbpcchcjaa
open Go.Proofs Go.RowKit Go.Shelf

/-- How a round may be left; a panic goes up as it is. -/
def roundPostP (P : Program) (l : Nat) (R : Ending → World → Prop) : Exit → Act → World → Prop
  | .panic chain, a, w => a.defers = [] ∧ R (.panicked chain) w
  | e, a, w => roundPost P l R e a w

/-- One round out of its body's walk, a panic too. -/
theorem roundIn_panics {F : Fence} {n : Nat} {P : Program} {l : Nat} {f : FuncId} {tmps : Array Value} {assign body : Code} {w : World} {R : Ending → World → Prop} (hF : F.fn f) (hf : (∀ ch W, ¬ R (.panicked ch) W) ∨ ∃ fn, P.funcs[f]? = some fn)
    (h : assign.wpIn (F.inRound l) n P (Exit.then (fun a₁ w₁ => ∃ w₂, (Instr.beginRound l).run P w₁ = .ok () w₂ ∧ body.wpIn (F.inRound l) n P (roundPostP P l R) a₁ w₂) (fun _ _ _ => False)) { tmps := tmps, defers := [] } w) :
    RoundIn F n P l f tmps assign body w R := by
  refine ⟨hF, fun c cs hr => ?_⟩
  obtain ⟨b, hb⟩ : ∃ b : Frame, b = { (default : Frame) with fn := f, kind := .normal, roundOf := some l } := ⟨_, rfl⟩
  have hb0 : Frame.round l f tmps assign body .normal = b.atR { tmps := tmps, defers := [] } [.code assign, .beginRound, .code body] := by rw [hb]; simp [Frame.round, Frame.atR]
  have hbr : b.roundOf = some l := by rw [hb]
  have hbk : b.kind = .normal := by rw [hb]
  have hbf : b.fn = f := by rw [hb]
  have hr' : (F.inRound l).room ((c :: cs).length + 1 + n) := hr
  have hF' : (F.inRound l).fn b.fn := by rw [hbf]; exact hF
  obtain ⟨e, a₁, w₁, hq, harr⟩ := h b [.beginRound, .code body] (c :: cs) (by rw [hbr]; rfl) hF' hr'
  rw [← hb0] at harr
  cases e with
  | normal =>
    obtain ⟨w₂, hbeg, hbody⟩ := hq
    have s1 : StepsIn (Machine.fenced P (F.inRound l)) P (lone (b.atR a₁ [.beginRound, .code body]) (c :: cs) w₁) (lone (b.atR a₁ [.code body]) (c :: cs) w₂) :=
      .one (fenced_calm (fr := b.atR a₁ [.beginRound, .code body]) hF' hr' rfl) (stepR_beginRound hbr hbeg)
    obtain ⟨e₂, a₂, w₃, hq₂, harr₂⟩ := hbody b [] (c :: cs) (by rw [hbr]; rfl) hF' hr'
    have s2 := StepsIn.trans harr s1
    cases e₂ with
    | normal =>
      obtain ⟨v, w₄, hend, hR⟩ := hq₂
      exact ⟨.returned v, w₄, hR, s2.trans (StepsIn.trans harr₂ (.one (fenced_calm (fr := b.atR a₂ []) hF' hr' rfl) (stepR_round_end hbr hbk hend)))⟩
    | ret =>
      obtain ⟨v, w₄, hend, hR⟩ := hq₂
      obtain ⟨k₁, hs⟩ := harr₂.2 (by rw [hbr]; rfl)
      exact ⟨.returned v, w₄, hR, s2.trans (StepsIn.trans hs (.one (fenced_calm (fr := b.atR a₂ (.code .ret :: k₁)) hF' hr' rfl) (stepR_round_ret hbr hbk hend)))⟩
    | exit id =>
      obtain ⟨v, w₄, hend, hR⟩ := hq₂
      obtain ⟨k₁, hk, hs⟩ := harr₂.2 (by rw [hbr]; rfl) rfl
      exact ⟨.returned v, w₄, hR, s2.trans (StepsIn.trans hs (.one (fenced_calm (fr := b.atR a₂ (.code (.exit id) :: k₁)) hF' hr' rfl) (stepR_round_exit hbr hbk hk hend)))⟩
    | goto t =>
      obtain ⟨v, w₄, hend, hR⟩ := hq₂
      obtain ⟨k₁, hk, hs⟩ := harr₂.2 (by rw [hbr]; rfl) rfl
      exact ⟨.returned v, w₄, hR, s2.trans (StepsIn.trans hs (.one (fenced_calm (fr := b.atR a₂ (.code (.goto t) :: k₁)) hF' hr' rfl) (stepR_round_goto hbr hbk hk hend)))⟩
    | panic chain =>
      obtain ⟨hd, hR⟩ := hq₂
      obtain ⟨todo, hs⟩ := harr₂
      have hf' := hf.resolve_left (fun h => h _ _ hR)
      have hl : ({ b.atR a₂ todo with mode := .panicking chain } : Frame).leaving P w₃ (.panicked chain) := ⟨rfl, hd, by rw [← hbf] at hf'; exact hf'⟩
      exact ⟨.panicked chain, w₃, hR, s2.trans (StepsIn.trans hs (.one (fenced_leaving (F := F.inRound l) hF' hr' hl) (step_leave_panicked hl)))⟩
    | outgrown => exact hq₂.elim
  | exit id => exact hq.elim
  | goto t => exact hq.elim
  | ret => exact hq.elim
  | panic chain => exact hq.elim
  | outgrown => exact hq.elim

end Go.Proofs.Ytcgljcbpcchcjaa

namespace Go.Proofs.Ytcgljcbpcchcjaa
open Go.Proofs Go.RowKit Go.Shelf

/-- THE ITERATOR GIVES encs 0, encs 1, .. up to r, as long as what it reads ('rd') stands. -/
def SeqSteps (F : Fence) (n : Nat) (P : Program) (g : Nat) (lb : Array Value) (encs : Nat → Array Value) (r : Nat) (rd : World → Prop) : Prop :=
  ∀ (l : Nat) (J : Nat → World → Prop) (Jx : World → Prop) (Jp : List PanicEntry → World → Prop) (W : World), AbidesFrom W.heap.size J → (∀ i W, J i W → rd W) →
    (∀ i W1, J i W1 → i < r → YieldAt F (n - 1) P l (encs i) W1 fun e W' => (e = .returned (.bool true) ∧ J (i + 1) W') ∨ (e = .returned (.bool false) ∧ Jx W') ∨ ∃ ch, e = .panicked ch ∧ Jp ch W') →
    J 0 W → CallsIn F n P g (#[.func (.yield l) #[] #[]] ++ lb) W fun e W' => ((∃ v, e = .returned v) ∧ (J r W' ∨ Jx W')) ∨ ∃ ch, e = .panicked ch ∧ Jp ch W'

/-- How the body of a round may be left. -/
def stepPost (B : Nat) (I : Nat → World → Prop) (Ix : Code → World → Prop) (Ip : List PanicEntry → World → Prop) (i : Nat) (W : World) : Exit → Act → World → Prop
  | .normal, _, W' => KeepsFrom B W W' ∧ I i W'
  | .ret, _, W' => KeepsFrom B W W' ∧ Ix .ret W'
  | .exit id, _, W' => KeepsFrom B W W' ∧ Ix (.exit id) W'
  | .goto t, _, W' => KeepsFrom B W W' ∧ Ix (.goto t) W'
  | .panic ch, a, W' => a.defers = [] ∧ KeepsFrom B W W' ∧ Ip ch W'
  | .outgrown, _, _ => False

theorem wpIn_rangeSteps {F : Fence} {n : Nat} {P : Program} {g : Operand} {ps : Array Tmp} {assign body : Code} {Q : Exit → Act → World → Prop} {a : Act} {w : World}
    (hro : F.round = none) (h1 : 1 ≤ n) {gf : Nat} {lb : Array Value} (hg : a.eval g = .func (.func gf) #[] lb) (hFg : F.fn gf) (eg : ∀ args w, (callFunc gf args).run P w = .ok (.enter gf args) w)     {encs : Nat → Array Value} {r : Nat} {rd : World → Prop} (hseq : SeqSteps F (n - 1) P gf lb encs r rd) (hps : ∀ i, (encs i).size = ps.size)
    (I : Nat → World → Prop) (Ix : Code → World → Prop) (Ip : List PanicEntry → World → Prop) (hfs : (∀ ch W, ¬ Ip ch W) ∨ ∀ fn, F.fn fn → ∃ f, P.funcs[fn]? = some f) (hI : OwnFrom w.heap.size I) (hIx : OwnFrom w.heap.size Ix) (hrd : ∀ i W, I i W → rd W) (h0 : I 0 w) (a₁ : Nat → Act)
    (hassign : ∀ (l i : Nat) (W : World) (K : Act → World → Prop), K (a₁ i) W →
      assign.wpIn (F.inRound l) (n - 1 - 1) P (Exit.then K (fun _ _ _ => False)) { tmps := (ps.zip (encs i)).foldl (fun t (p, v) => t.setIfInBounds p v) a.tmps, defers := [] } W)
    (hbody : ∀ (l i : Nat) (W : World), I i W → i < r → body.wpIn (F.inRound l) (n - 1 - 1) P (stepPost w.heap.size I Ix Ip (i + 1) W) (a₁ i) W)
    (hdone : ∀ (D : Nat) (W : World), w.heap.size ≤ D → I r W → W.heap[D]? = some (.deferred (some [])) → Q .normal { a with defers := { target := .collected D, args := #[] } :: a.defers } W)
    (hstop : ∀ (D : Nat) (c : Code) (W : World), w.heap.size ≤ D → Ix c W → W.heap[D]? = some (.deferred (some [])) → c.wpIn F n P Q { a with defers := { target := .collected D, args := #[] } :: a.defers } W)
    (hpanic : ∀ (D : Nat) (ch : List PanicEntry) (W : World), w.heap.size ≤ D → Ip ch W → W.heap[D]? = some (.deferred (some [])) → Q (.panic ch) { a with defers := { target := .collected D, args := #[] } :: a.defers } W) :
    (Code.rangeFunc g ps assign body).wpIn F n P Q a w := by
  refine wpIn_rangeFunc fun fn hfn => ?_
  rw [hro]
  obtain ⟨rec, hrec⟩ : ∃ rec : LoopState → Option Code → Loop, rec = fun st pe => { state := st, pending := pe, fn, tmps := a.tmps, params := ps, assign, body, defers := w.heap.size } := ⟨_, rfl⟩
  obtain ⟨W1, hW1⟩ : ∃ W1, (w.alloc (.deferred (some []))).alloc (.loop (rec .ready none)) = W1 := ⟨_, rfl⟩
  have hL1 : W1.heap[w.heap.size + 1]? = some (.loop (rec .ready none)) := by
    have := World.alloc_heap_new (w.alloc (.deferred (some []))) (.loop (rec .ready none))
    rw [World.size_alloc, hW1] at this
    exact this
  have hD1 : W1.heap[w.heap.size]? = some (.deferred (some [])) := by rw [← hW1]; exact (Below.heap_alloc _ _ _ (by simp)).trans (World.alloc_heap_new w _)
  have hS1 : w.heap.size ≤ W1.heap.size := by rw [← hW1]; simp; omega
  have hI1 : I 0 W1 := by rw [← hW1]; exact hI.alloc _ (hI.alloc _ h0)
  refine ⟨w.heap.size + 1, [{ target := .collected w.heap.size, args := #[] }], W1, { target := .fn (.func gf) lb, args := #[.func (.yield (w.heap.size + 1)) #[] #[]] }, W1, gf, #[.func (.yield (w.heap.size + 1)) #[] #[]] ++ lb, W1,
    by rw [← hW1, hrec]; exact run_enterLoop_outer _ _ _ _ _, by simp only [resolve, hg]; simp [go_sem], fun f' hf' => by simp [Target.leads] at hf'; subst hf'; exact hFg, by simp [invoke, go_sem, eg], fun _ => h1, ?_⟩
  have hcells : ∀ {A : World} {row : Option Nat}, (∀ r, row = some r → W1.heap.size ≤ r ∧ ∃ o : Obj, A.heap[r]? = some o ∧ o.isWalk = true) → ∀ r, row = some r → w.heap.size ≤ r ∧ ∃ o : Obj, A.heap[r]? = some o ∧ o.isCells = false := fun hr q e => by
    obtain ⟨hB, o, ho, hw⟩ := hr q e
    exact ⟨by omega, o, ho, Obj.not_cells_of_walk hw⟩
  refine (hseq (w.heap.size + 1) (fun i W => I i W ∧ W.heap[w.heap.size + 1]? = some (.loop (rec .ready none)) ∧ W.heap[w.heap.size]? = some (.deferred (some [])))
    (fun W => ∃ c, Ix c W ∧ W.heap[w.heap.size + 1]? = some (.loop (rec .done (some c))) ∧ W.heap[w.heap.size]? = some (.deferred (some [])))
    (fun ch W => Ip ch W ∧ W.heap[w.heap.size]? = some (.deferred (some []))) W1
    (fun i A B row hs hgr hr => ⟨hI i A B row hs.1 hgr (hcells hr), (grownBy_keeps hgr (fun q e => (hr q e).2) hs.2.1 rfl).trans hs.2.1, (grownBy_keeps hgr (fun q e => (hr q e).2) hs.2.2 rfl).trans hs.2.2⟩)
    (fun i W h => hrd i W h.1) ?_ ⟨hI1, hL1, hD1⟩).mono ?_
  · rintro i W ⟨hi, hl, hk⟩ hlen
    have hlt : w.heap.size + 1 < W.heap.size := (Array.getElem?_eq_some_iff.1 hl).1
    have hy := run_yield (P := P) (args := encs i) hl (by rw [hrec]; exact hps i)
    rw [hrec] at hy
    refine ⟨fn, _, assign, body, hy, roundIn_panics hfn (hfs.elim (fun h => .inl fun ch W hr => by rcases hr with ⟨e, _⟩ | ⟨e, _⟩ | ⟨c, _, hp, _⟩ <;> first | cases e | exact h _ _ hp) (fun h => .inr (h fn hfn))) (hassign _ i W _ ⟨_, run_beginRound hl (by rw [hrec]), ?_⟩)⟩
    obtain ⟨W2, hW2⟩ : ∃ W2, W.putObj (w.heap.size + 1) (.loop { rec .ready none with state := .busy }) = W2 := ⟨_, rfl⟩
    have hl2 : W2.heap[w.heap.size + 1]? = some (.loop { rec .ready none with state := .busy }) := by rw [← hW2]; exact World.putObj_heap_same hlt
    have hk2 : W2.heap[w.heap.size]? = some (.deferred (some [])) := by rw [← hW2]; exact (World.putObj_heap_other (by omega)).trans hk
    have hi2 : I i W2 := by rw [← hW2]; exact hI.putObj _ hi (by omega) hl rfl
    have hgo : (W.putObj (w.heap.size + 1) (.loop { rec .ready none with state := .busy })) = W2 := hW2
    rw [hgo]
    refine wpIn_mono (hbody _ i W2 hi2 hlen) ?_
    have fin : ∀ (jump : Option Code) (W3 : World), KeepsFrom w.heap.size W2 W3 →
        (Instr.endRound (w.heap.size + 1) jump).run P W3 = .ok (.bool jump.isNone) (W3.putObj (w.heap.size + 1) (.loop (rec (if jump.isNone then .ready else .done) jump))) ∧
        W3.heap[w.heap.size + 1]? = some (.loop { rec .ready none with state := .busy }) ∧
        (W3.putObj (w.heap.size + 1) (.loop (rec (if jump.isNone then .ready else .done) jump))).heap[w.heap.size + 1]? = some (.loop (rec (if jump.isNone then .ready else .done) jump)) ∧
        (W3.putObj (w.heap.size + 1) (.loop (rec (if jump.isNone then .ready else .done) jump))).heap[w.heap.size]? = some (.deferred (some [])) := fun jump W3 hk3 => by
      have hl3 := hk3.same _ _ (by omega) hl2 rfl
      have hend := run_endRound (P := P) jump hl3
      have hk4 := (World.putObj_heap_other (w := W3) (o := .loop (rec (if jump.isNone then .ready else .done) jump)) (show w.heap.size ≠ w.heap.size + 1 by omega)).trans (hk3.same _ _ (Nat.le_refl _) hk2 rfl)
      refine ⟨?_, hl3, World.putObj_heap_same (Array.getElem?_eq_some_iff.1 hl3).1, hk4⟩
      rw [hrec] at hend ⊢
      exact hend
    intro e a3 W3 hp
    cases e with
    | normal =>
      obtain ⟨hr, hl3, hl4, hk4⟩ := fin none W3 hp.1
      exact ⟨_, _, hr, .inl ⟨rfl, hI.putObj _ hp.2 (by omega) hl3 rfl, hl4, hk4⟩⟩
    | ret =>
      obtain ⟨hr, hl3, hl4, hk4⟩ := fin (some .ret) W3 hp.1
      exact ⟨_, _, hr, .inr (.inl ⟨rfl, _, hIx.putObj _ hp.2 (by omega) hl3 rfl, hl4, hk4⟩)⟩
    | exit id =>
      obtain ⟨hr, hl3, hl4, hk4⟩ := fin (some (.exit id)) W3 hp.1
      exact ⟨_, _, hr, .inr (.inl ⟨rfl, _, hIx.putObj _ hp.2 (by omega) hl3 rfl, hl4, hk4⟩)⟩
    | goto t =>
      obtain ⟨hr, hl3, hl4, hk4⟩ := fin (some (.goto t)) W3 hp.1
      exact ⟨_, _, hr, .inr (.inl ⟨rfl, _, hIx.putObj _ hp.2 (by omega) hl3 rfl, hl4, hk4⟩)⟩
    | panic ch => exact ⟨hp.1, .inr (.inr ⟨ch, rfl, hp.2.2, hp.2.1.same _ _ (Nat.le_refl _) hk2 rfl⟩)⟩
    | outgrown => exact hp.elim
  · rintro e W2 (⟨⟨v, rfl⟩, (⟨hi, hl, hk⟩ | ⟨c, hi, hl, hk⟩)⟩ | ⟨ch, rfl, hi, hk⟩)
    · refine ⟨none, _, by have := run_endLoop (P := P) hl (by rw [hrec]; simp); rw [hrec] at this; exact this, hdone _ _ (Nat.le_refl _) (hI.putObj _ hi (by omega) hl rfl) ((World.putObj_heap_other (by omega)).trans hk)⟩
    · refine ⟨some c, _, by have := run_endLoop (P := P) hl (by rw [hrec]; simp); rw [hrec] at this; exact this, hstop _ c _ (Nat.le_refl _) (hIx.putObj _ hi (by omega) hl rfl) ((World.putObj_heap_other (by omega)).trans hk)⟩
    · exact hpanic _ ch _ (Nat.le_refl _) hi hk

end Go.Proofs.Ytcgljcbpcchcjaa

namespace Go.Proofs.Ytcgljcbpcchcjaa
open Go.Proofs Go.RowKit Go.Shelf

attribute [local go_sem] Oper.semAt_some

/-- The fence of all functions that there are. -/
def Fx : Fence := { fn := fun f => ∃ fn, Try.prog.funcs[f]? = some fn, depth := none, alive := false }
/-- A fence that bars nothing. -/
def Pl (F : Fence) : Prop := F.round = none ∧ (∀ f fn, Try.prog.funcs[f]? = some fn → F.fn f) ∧ F.depth = none
theorem wide_pl : Pl Fence.wide := ⟨rfl, fun _ _ _ => trivial, rfl⟩
theorem fx_facts {F : Fence} (hF : Pl F) : F.round = none ∧ (∀ f fn, Try.prog.funcs[f]? = some fn → F.fn f) ∧ ∀ k : Nat, (F.depth.isSome = true → 1 ≤ k) := by
  obtain ⟨h1, h2, h3⟩ := hF
  exact ⟨h1, h2, fun k h => by rw [h3] at h; simp at h⟩
set_option maxHeartbeats 400000 in
theorem room_in (F : Fence) (hF : Pl F) (n : Nat) (s : Int) (w : World) : CallsIn F n Try.prog 31 #[.int .i64 s] w fun e w' => e = .returned (.int .i64 (Tm.room s : Int)) ∧ w' = w := by
  obtain ⟨hro, hfn, hdd⟩ := fx_facts hF
  have hf := hfn _ _ Try.func31
  clear hF hfn
  by_cases h2 : s = 2
  · subst h2; refine callsIn_of_wp Try.func31 rfl hf ?_ hro; simp only [Try.ntmps31, List.size_toArray, List.length_cons, List.length_nil, Nat.reduceAdd, Nat.reduceSub, Array.replicate_succ, Array.replicate_zero, List.push_toArray, List.append_toArray, List.nil_append, List.cons_append]; gi_wp2; go_ret; exact ⟨rfl, rfl⟩
  by_cases h3 : s = 3
  · subst h3; refine callsIn_of_wp Try.func31 rfl hf ?_ hro; simp only [Try.ntmps31, List.size_toArray, List.length_cons, List.length_nil, Nat.reduceAdd, Nat.reduceSub, Array.replicate_succ, Array.replicate_zero, List.push_toArray, List.append_toArray, List.nil_append, List.cons_append]; gi_wp2; go_ret; exact ⟨rfl, rfl⟩
  by_cases h4 : s = 4
  · subst h4; refine callsIn_of_wp Try.func31 rfl hf ?_ hro; simp only [Try.ntmps31, List.size_toArray, List.length_cons, List.length_nil, Nat.reduceAdd, Nat.reduceSub, Array.replicate_succ, Array.replicate_zero, List.push_toArray, List.append_toArray, List.nil_append, List.cons_append]; gi_wp2; go_ret; exact ⟨rfl, rfl⟩
  by_cases h5 : s = 5
  · subst h5; refine callsIn_of_wp Try.func31 rfl hf ?_ hro; simp only [Try.ntmps31, List.size_toArray, List.length_cons, List.length_nil, Nat.reduceAdd, Nat.reduceSub, Array.replicate_succ, Array.replicate_zero, List.push_toArray, List.append_toArray, List.nil_append, List.cons_append]; gi_wp2; go_ret; exact ⟨rfl, rfl⟩
  have e : Tm.room s = 0 := by simp [Tm.room, h2, h3, h4, h5]
  have b2 : (s == 2) = false := by simp [h2]
  have b3 : (s == 3) = false := by simp [h3]
  have b4 : (s == 4) = false := by simp [h4]
  have b5 : (s == 5) = false := by simp [h5]
  clear h2 h3 h4 h5
  rw [e]
  clear e
  refine callsIn_of_wp Try.func31 rfl hf ?_ hro; simp only [Try.ntmps31, List.size_toArray, List.length_cons, List.length_nil, Nat.reduceAdd, Nat.reduceSub, Array.replicate_succ, Array.replicate_zero, List.push_toArray, List.append_toArray, List.nil_append, List.cons_append]
  gi_wp2
  go_ret
  exact ⟨rfl, rfl⟩

set_option maxHeartbeats 400000 in
theorem partsx_in (F : Fence) (hF : Pl F) (n : Nat) (a : Option Addr) (len cap : Nat) (k : Int) (w : World) :
    CallsIn F n Try.prog 23 #[.slice a len cap, .int .i64 k] w fun e w' => e = .returned (.func (.func 30) #[] #[.pointer (some ⟨w.heap.size + 1, 0, none⟩), .pointer (some ⟨w.heap.size, 0, none⟩)]) ∧
      w' = (w.alloc (.cells #[.slice a len cap] 23)).alloc (.cells #[.int .i64 k] 3) := by
  obtain ⟨hro, hfn, hdd⟩ := fx_facts hF
  have hf := hfn _ _ Try.func23
  clear hF hfn
  refine callsIn_of_wp Try.func23 rfl hf ?_ hro
  simp only [Try.ntmps23, List.size_toArray, List.length_cons, List.length_nil, Nat.reduceAdd, Nat.reduceSub, Array.replicate_succ, Array.replicate_zero, List.push_toArray, List.append_toArray, List.nil_append, List.cons_append]
  gi_wp2
  go_ret
  exact ⟨rfl, rfl⟩

def encPart (zs : List Int) (k i : Nat) : Array Value := #[.int .i64 (Tm.pos zs k i : Int), .int .i64 (Tm.pos zs k (i + 1) : Int)]
/-- What the iterator reads. -/
def PartsRd (Bk Bt k cap : Nat) (a : Option Addr) (zs : List Int) (W : World) : Prop := W.cell? ⟨Bk, 0, none⟩ = some (.int .i64 (k : Int)) ∧ W.cell? ⟨Bt, 0, none⟩ = some (.slice a zs.length cap) ∧ Ints W.heap.size W a zs

/-- signs.End at places beyond k. -/
def EndsBeyond (F : Fence) (a : Option Addr) (cap : Nat) (zs : List Int) (k : Nat) : Prop :=
  ∀ (n p : Nat) (W : World), k < p → p ≤ 20000 → Ints W.heap.size W a zs → CallsIn F n Try.prog 22 #[.slice a zs.length cap, .int .i64 (p : Int)] W fun e W' => e = .returned (.int .i64 (Tm.endAt zs p : Int)) ∧ Below W.heap.size W W'

set_option maxRecDepth 100000 in
set_option maxHeartbeats 1000000 in
theorem parts_steps (F : Fence) (hF : Pl F) (n Bk Bt k cap : Nat) (a : Option Addr) (zs : List Int) (hlen : zs.length ≤ 5000) (hk : k < zs.length) (hE : EndsBeyond F a cap zs k) :
    SeqSteps F n Try.prog 30 #[.pointer (some ⟨Bk, 0, none⟩), .pointer (some ⟨Bt, 0, none⟩)] (encPart zs k) (Tm.room (zs[k]?.getD 0)) (PartsRd Bk Bt k cap a zs) := by
  intro l J Jx Jp W hJ hR hY h0
  obtain ⟨hro, hfn, hdd⟩ := fx_facts hF
  have hroom : ∀ n W, CallsIn F n Try.prog 31 #[.int .i64 (zs[k]?.getD 0)] W fun e w' => e = .returned (.int .i64 (Tm.room (zs[k]?.getD 0) : Int)) ∧ w' = W := fun n W => room_in F hF n _ W
  clear hF
  have hf55 := hfn _ _ Try.func30
  have hf56 := hfn _ _ Try.func31
  have hf32 := hfn _ _ Try.func22
  have hr2 := Tm.room_le (zs[k]?.getD 0)
  obtain ⟨hbk, hbt, hI⟩ := hR 0 W h0
  obtain ⟨b, off, rfl, hb, hc⟩ := hI.at (by omega)
  have hck := hc k hk
  have hkl : (k : Int) < (zs.length : Int) := by omega
  have hl5 : (zs.length : Int) ≤ 5000 := by omega
  generalize hrdef : Tm.room (zs[k]?.getD 0) = r at *
  clear hrdef
  generalize zs[k]?.getD 0 = s at *
  have HY := hid hY
  have HE := hid hE
  have HRm := hid hroom
  have HR := hid hR
  clear hY hE hc hI hroom hR
  refine callsIn_of_wp Try.func30 rfl hf55 ?_ hro
  simp only [Try.ntmps30, List.size_toArray, List.length_cons, List.length_nil, Nat.reduceAdd, Nat.reduceSub, Array.replicate_succ, Array.replicate_zero, List.push_toArray, List.append_toArray, List.nil_append, List.cons_append]
  gi_wp2_with ((try refine ⟨hdd _, ?_⟩); gi_at_call 31; refine (HRm.out _ _).mono ?_; rintro e W ⟨rfl, rfl⟩)
  gi_loopw [4, 13] (fun p i wr => ∃ m : Nat, m ≤ r ∧ i = .int .i64 (m : Int) ∧ p = .int .i64 (Tm.pos zs k m : Int) ∧ J m wr)
    (fun _ i _ => r - (intOf i).toNat)
  case atStart => exact ⟨0, Nat.zero_le _, rfl, by rw [Tm.pos_zero]; rfl, h0⟩
  case round =>
    obtain ⟨m, hm, rfl, rfl, hJs⟩ := hrel
    obtain ⟨_, hbt', hI'⟩ := HR.out m wr hJs
    by_cases hlt : m < r
    · have hlt' : (m : Int) < (r : Int) := by omega
      have h1' := (HE.out (n - 1) (Tm.pos zs k m) wr (Tm.pos_gt _ _ _) (by have := Tm.pos_le zs k m; omega) hI').mono (R' := fun e W1 => e = .returned (.int .i64 (Tm.pos zs k (m + 1) : Int)) ∧ YieldAt F (n - 1) Try.prog l #[.int .i64 (Tm.pos zs k m : Int), .int .i64 (Tm.pos zs k (m + 1) : Int)] W1 fun e W' =>
          (e = .returned (.bool true) ∧ J (m + 1) W') ∨ (e = .returned (.bool false) ∧ Jx W') ∨ ∃ ch, e = .panicked ch ∧ Jp ch W')
        (fun e W1 ⟨he, hB⟩ => ⟨by rw [Tm.pos_succ]; exact he, by
          have hJ1 := hJ _ _ _ none hJs (grown_of_below hB) (fun r e => by cases e)
          refine YieldAt.mono (HY.out m W1 hJ1 hlt) fun e W2 h => ?_
          exact h⟩)
      gi_wp2_with (first
        | ((try refine ⟨hdd _, ?_⟩); gi_at_call 22; refine h1'.mono ?_; clear h1'; rintro e W1 ⟨rfl, fn, tmps, assign, body, hy, hR⟩)
        | ((try refine ⟨hdd _, ?_⟩); refine hR.mono ?_; clear hR; rintro e W2 (⟨rfl, hJ2⟩ | ⟨rfl, hx2⟩ | ⟨ch, rfl, hp2⟩)))
      · exact ⟨⟨m + 1, by omega, by go_num, rfl, hJ2⟩, by simp [intOf]; omega⟩
      · refine bodyPost_ret (results_none rfl _ _ _) rfl ?_
        exact .inl ⟨⟨_, rfl⟩, .inr hx2⟩
      · exact ⟨rfl, .inr ⟨ch, rfl, hp2⟩⟩
    · obtain rfl : m = r := by omega
      have hlt' : ¬ (m : Int) < (m : Int) := by omega
      gi_wp2
      go_end0
      exact .inl ⟨⟨_, rfl⟩, .inl hJs⟩

end Go.Proofs.Ytcgljcbpcchcjaa

namespace Go.Proofs.Ytcgljcbpcchcjaa
open Go.Proofs Go.RowKit Go.Shelf

attribute [local go_sem] Oper.semAt_some

set_option maxHeartbeats 400000 in
theorem endx_out (F : Fence) (hF : Pl F) (n : Nat) (a : Option Addr) (len cap k : Nat) (w : World) (hk : len ≤ k) (hk2 : k ≤ 20000) :
    CallsIn F n Try.prog 22 #[.slice a len cap, .int .i64 (k : Int)] w fun e w' => e = .returned (.int .i64 ((k : Int) + 1)) ∧ Below w.heap.size w w' := by
  have h1 : (len : Int) ≤ (k : Int) := by omega
  have h2 : (k : Int) ≤ 20000 := by omega
  have h3 : (0 : Int) ≤ (k : Int) := by omega
  obtain ⟨hro, hfn, hdd⟩ := fx_facts hF
  have hf := hfn _ _ Try.func22
  clear hF hfn
  refine callsIn_of_wp Try.func22 rfl hf ?_ hro
  simp only [Try.ntmps22, List.size_toArray, List.length_cons, List.length_nil, Nat.reduceAdd, Nat.reduceSub, Array.replicate_succ, Array.replicate_zero, List.push_toArray, List.append_toArray, List.nil_append, List.cons_append]
  gi_wp2
  go_ret
  exact ⟨rfl, (Below.refl _ _).alloc (Nat.le_refl _) _⟩

theorem partsRd_of {Bk Bt k cap : Nat} {a : Option Addr} {zs : List Int} {w W : World} (hk : Boxed W Bk 3 (.int .i64 (k : Int))) (ht : Boxed W Bt 23 (.slice a zs.length cap)) (hI : Ints w.heap.size w a zs) (hB : Below w.heap.size w W) : PartsRd Bk Bt k cap a zs W :=
  ⟨hk.cell, ht.cell, (hI.below hB).mono hB.size⟩

set_option maxRecDepth 100000 in
set_option maxHeartbeats 1000000 in
theorem endx_step (F : Fence) (hF : Pl F) (n : Nat) (a : Option Addr) (cap k : Nat) (zs : List Int) (w : World) (hn : 3 ≤ n) (hlen : zs.length ≤ 5000) (hk : k < zs.length) (hI : Ints w.heap.size w a zs) (hE : EndsBeyond F a cap zs k) :
    CallsIn F n Try.prog 22 #[.slice a zs.length cap, .int .i64 (k : Int)] w fun e w' => e = .returned (.int .i64 (Tm.endAt zs k : Int)) ∧ Below w.heap.size w w' := by
  obtain ⟨hro, hfn, hdd⟩ := fx_facts hF
  have HF : Hid (Pl F) := hF
  have HE := hid hE
  clear hF hE
  have hf32 := hfn _ _ Try.func22
  have hf49 := hfn _ _ Try.func23
  have hf55 := hfn _ _ Try.func30
  clear hfn
  have hlt : (k : Int) < (zs.length : Int) := by omega
  have h30 : (zs.length : Int) ≤ 5000 := by omega
  have hk0 : (0 : Int) ≤ (k : Int) := by omega
  rw [Tm.endAt_in zs k hk]
  refine callsIn_of_wp_marks Try.func22 rfl hf32 ?_ hro
  simp only [Try.ntmps22, List.size_toArray, List.length_cons, List.length_nil, Nat.reduceAdd, Nat.reduceSub, Array.replicate_succ, Array.replicate_zero, List.push_toArray, List.append_toArray, List.nil_append, List.cons_append]
  gi_wp2_with ((try refine ⟨hdd _, ?_⟩); gi_at_call 23; refine (partsx_in F HF.out _ _ _ _ _ _).mono ?_; rintro e w' ⟨rfl, rfl⟩)
  have bE := ((Boxed.new w 3 (.int .i64 ((k : Int) + 1))).alloc (.cells #[.slice a zs.length cap] 23)).alloc (.cells #[.int .i64 (k : Int)] 3)
  have bT := (Boxed.new (w.alloc (.cells #[.int .i64 ((k : Int) + 1)] 3)) 23 (.slice a zs.length cap)).alloc (.cells #[.int .i64 (k : Int)] 3)
  have bK := Boxed.new ((w.alloc (.cells #[.int .i64 ((k : Int) + 1)] 3)).alloc (.cells #[.slice a zs.length cap] 23)) 3 (.int .i64 (k : Int))
  rw [World.size_alloc] at bT
  rw [World.size_alloc, World.size_alloc] at bK
  have hB0 : Below w.heap.size w (((w.alloc (.cells #[.int .i64 ((k : Int) + 1)] 3)).alloc (.cells #[.slice a zs.length cap] 23)).alloc (.cells #[.int .i64 (k : Int)] 3)) := (((Below.refl _ w).alloc (Nat.le_refl _) _).alloc (by simp) _).alloc (by simp; omega) _
  refine wpIn_rangeSteps hro (by omega) (gf := 30) (lb := #[.pointer (some ⟨w.heap.size + 1 + 1, 0, none⟩), .pointer (some ⟨w.heap.size + 1, 0, none⟩)]) rfl hf55 (enters_of Try.func30 (by kernel_rfl) rfl)
    (parts_steps F HF.out _ (w.heap.size + 1 + 1) (w.heap.size + 1) k cap a zs hlen hk HE.out) (fun _ => rfl)
    (fun i W => Boxed W w.heap.size 3 (.int .i64 (Tm.pos zs k i : Int)) ∧ Boxed W (w.heap.size + 1 + 1) 3 (.int .i64 (k : Int)) ∧ Boxed W (w.heap.size + 1) 23 (.slice a zs.length cap) ∧ Below w.heap.size w W)
    (fun _ _ => False) (fun _ _ => False) (.inl fun _ _ h => h)
    (OwnFrom.and ((boxed_own w.heap.size 3 (fun i => .int .i64 (Tm.pos zs k i : Int))).from _) (OwnFrom.and ((boxed_own (w.heap.size + 1 + 1) 3 (fun _ => .int .i64 (k : Int))).from _) (OwnFrom.and ((boxed_own (w.heap.size + 1) 23 (fun _ => .slice a zs.length cap)).from _) (ownFrom_below (Nat.le_refl _) (by simp; omega)))))
    (fun _ _ _ _ h _ _ => h)
    (fun i W h => partsRd_of h.2.1 h.2.2.1 hI h.2.2.2)
    ⟨by rw [Tm.pos_zero]; exact bE, bK, bT, hB0⟩
    (fun i => { tmps := #[.slice a zs.length cap, .int .i64 (k : Int), undef, undef, .int .i64 0, .pointer (some ⟨w.heap.size, 0, none⟩), undef, .int .i64 (Tm.pos zs k (i + 1) : Int), .int .i64 (k : Int), .int .i64 ((k : Int) + 1), .int .i64 (k : Int), .slice a zs.length cap,
      .int .i64 (zs.length : Int), .bool false, undef, .slice a zs.length cap, .int .i64 (k : Int), .func (.func 30) #[] #[.pointer (some ⟨w.heap.size + 1 + 1, 0, none⟩), .pointer (some ⟨w.heap.size + 1, 0, none⟩)], .int .i64 (Tm.pos zs k i : Int), .int .i64 (Tm.pos zs k (i + 1) : Int), undef, undef], defers := [] }) ?assign ?body ?done ?stop ?panic
  case assign =>
    intro l i W K hK
    simp only [encPart]
    gi_wp2
    exact hK
  case body =>
    rintro l i W ⟨hE, hK, hT, hB⟩ _
    have hc := hE.cell
    have hf := hE.frozen
    gi_wp2
    exact ⟨(KeepsOthers.setCell _ _ _).from _, hE.set _, hK.other (by omega) _, hT.other (by omega) _, hB.setCell (p := ⟨w.heap.size, 0, none⟩) (Nat.le_refl _) _⟩
  case done =>
    rintro D W hD ⟨hE, _, _, hB⟩ hK
    have hc := hE.cell
    gi_wp2
    refine ⟨by simp, .inl ⟨_, _, rfl, run_takeDeferred hK, ?_⟩⟩
    exact ⟨_, results_tmp rfl _ _ _, by simp [hk], hB.trans (belowK_b (w := w) (Nat.le_refl _) W D _ _ (by simp at hD; omega) hK rfl rfl)⟩
  case stop => exact fun _ _ _ _ h => h.elim
  case panic => exact fun _ _ _ _ h => h.elim

end Go.Proofs.Ytcgljcbpcchcjaa

namespace Go.Proofs.Ytcgljcbpcchcjaa
open Go.Proofs Go.RowKit Go.Shelf

theorem fx_any {F : Fence} (hF : Pl F) {n m : Nat} {P : Program} {f : FuncId} {args : Array Value} {w : World} {R : Ending → World → Prop} (h : CallsIn F n P f args w R) : CallsIn F m P f args w R :=
  ⟨h.1, fun cs _ => h.2 cs (fun d hd => by rw [hF.2.2] at hd; cases hd)⟩

theorem endx_all (F : Fence) (hF : Pl F) (zs : List Int) (hlen : zs.length ≤ 5000) (a : Option Addr) (cap : Nat) : ∀ (m k n : Nat), zs.length - k ≤ m → k ≤ 20000 → ∀ w : World, Ints w.heap.size w a zs →
    CallsIn F n Try.prog 22 #[.slice a zs.length cap, .int .i64 (k : Int)] w fun e w' => e = .returned (.int .i64 (Tm.endAt zs k : Int)) ∧ Below w.heap.size w w' := by
  intro m
  induction m with
  | zero =>
    intro k n hm hk w hI
    rw [Tm.endAt_out zs k (by omega)]
    exact endx_out F hF n a zs.length cap k w (by omega) hk
  | succ m ih =>
    intro k n hm hk w hI
    by_cases hlt : k < zs.length
    · exact fx_any hF (endx_step F hF 3 a cap k zs w (by omega) hlen hlt hI (fun n p W h1 h2 h3 => ih p n (by omega) h2 W h3))
    · rw [Tm.endAt_out zs k (by omega)]
      exact endx_out F hF n a zs.length cap k w (by omega) hk
theorem ends_beyond (F : Fence) (hF : Pl F) (zs : List Int) (hlen : zs.length ≤ 5000) (a : Option Addr) (cap k : Nat) : EndsBeyond F a cap zs k :=
  fun n p W _ h2 h3 => endx_all F hF zs hlen a cap _ p n (Nat.le_refl _) h2 W h3

end Go.Proofs.Ytcgljcbpcchcjaa

namespace Go.Proofs.Ytcgljcbpcchcjaa
open Go.Proofs Go.RowKit Go.Shelf

theorem upon_round {F : Fence} {n l : Nat} {P : Program} {o : Oper} {a : Act} {next next' : Act → World → Prop} {Q : Exit → Act → World → Prop} (hm : ∀ a w, next a w → next' a w) (r : Result Next) (h : o.uponIn F n P a next Q r) : o.uponIn (F.inRound l) n P a next' Q r := by
  cases r with
  | ok x w' =>
    cases x with
    | value v => exact hm _ _ h
    | skip => exact hm _ _ h
    | defer d => exact hm _ _ h
    | enter f args =>
      refine ⟨h.1, (CallsIn.inRound l h.2).mono fun e w'' he => ?_⟩
      cases e with
      | returned v => exact hm _ _ he
      | panicked c => exact he
      | outgrown => exact he
    | row row args => exact ⟨h.1, RowsIn.mono (show RowsIn (F.inRound l) (n - 1) P row args w' _ from h.2) fun v w'' he => hm _ _ he⟩
    | round l' f tmps assign body =>
      refine ⟨h.1, RoundIn.mono (show RoundIn (F.inRound l) (n - 1) P l' f tmps assign body w' _ from h.2) fun e w'' he => ?_⟩
      cases e with
      | returned v => exact hm _ _ he
      | panicked c => exact he
      | outgrown => exact he
    | _ => exact h
  | halt x w' => cases x <;> exact h

theorem ops_round {F : Fence} {n l : Nat} {P : Program} {ops : Array Oper} {Q : Exit → Act → World → Prop} (hro : F.round = none) (hnd : ∀ (j : Nat) (o : Oper) (c : Call), ops[j]? = some o → o.op ≠ .defer c) :
    ∀ (order : List Nat) (a : Act) (w : World), wpOpsIn F n P ops Q order a w → wpOpsIn (F.inRound l) n P ops Q order a w := by
  intro order
  induction order with
  | nil => exact fun _ _ h => h
  | cons i rest ih =>
    intro a w h
    unfold wpOpsIn at h ⊢
    cases ho : ops[i]? with
    | none => rw [ho] at h; exact ih a w h
    | some o =>
      rw [ho] at h
      by_cases hw : Region.wanted o (yielded ops a.tmps) = true
      · simp only [hw, if_true] at h ⊢
        refine ⟨h.1, ?_⟩
        have h2 := h.2
        rw [hro, Oper.semAt_none] at h2
        rw [show (F.inRound l).round = some l from rfl, Oper.semAt_some l _ _ (fun c => hnd i o c ho)]
        exact upon_round ih _ h2
      · simp only [hw] at h ⊢
        exact ⟨h.1, ih _ _ h.2⟩

/-- Is no operation one that defers? -/
def noDefer (ops : Array Oper) : Bool := ops.all fun o => match o.op with | .defer _ => false | _ => true
theorem noDefer_spec {ops : Array Oper} (h : noDefer ops = true) : ∀ (j : Nat) (o : Oper) (c : Call), ops[j]? = some o → o.op ≠ .defer c := by
  intro j o c hj e
  unfold noDefer at h
  rw [Array.all_eq_true] at h
  obtain ⟨hlt, hx⟩ := Array.getElem?_eq_some_iff.1 hj
  have := h j hlt
  rw [hx, e] at this
  simp at this

/-- Within a round: from the walk over all orders outside of it. -/
theorem wpIn_region_round {F : Fence} {n l id : Nat} {P : Program} {ops : Array Oper} {Q : Exit → Act → World → Prop} {a : Act} {w : World} (hro : F.round = none) (hnd : noDefer ops = true) (hm : P.follows .mixedOrders = true)
    (h : wpAnyIn F n P .any ops Q ops.size (Array.replicate ops.size false) a w.drew) : (Code.region id ops true).wpIn (F.inRound l) n P Q a w :=
  wpIn_region_draw fun t => by
    simp only [Region.schedule, hm, Bool.true_or, if_true]
    exact ops_round hro (noDefer_spec hnd) _ _ _ (wpAnyIn_sound ops.size t _ a _ h)

end Go.Proofs.Ytcgljcbpcchcjaa
