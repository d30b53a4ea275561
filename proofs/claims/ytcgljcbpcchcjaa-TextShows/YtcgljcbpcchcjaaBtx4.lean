/-
  haspref.OverOf. · hasplaw.matchBegun. · PLAIN MATHEMATICS of what variables become: first by one list, then by another, is by After of both. · PLAIN MATHEMATICS of fitting: by what fits the one becomes the other; what was made of it fits. · PLAIN MATHEMATICS of the order: a term is its symbol and its parts; who is above stays above, whatever variables become, and wherever both stand; without variables one of two that differ is above. · PLAIN MATHEMATICS of terms of any size as trees: each is a list of signs (flat), and each list of signs that is a term is one tree's. · PLAIN MATHEMATICS OF L1 AND L2: how a term is shown, and how a text is read. · text.letter, haspref.letter: the letter of a sign. · haspref.TermText, signOf, TermFrom: the reference's side of L1. · A RANGE OVER signs.Parts, WHOSE BODY MAY PANIC: the rounds are numbered; what the body panics with goes up. · THE STATEMENT 'for .. := range it', whose rounds are numbered, whose body may leave, or panic.
-/
import Derived.Test.YtcgljcbpcchcjaaBtx3
import Derived.Test.YtcgljcbpcchcjaaBtx2
import Derived.Laws.IdiomStrings
import Derived.Test.YtcgljcbpcchcjaaBtx1
namespace Go.Proofs.Ytcgljcbpcchcjaa
open Go.Proofs Go.RowKit Go.Shelf Go.Maps

end Go.Proofs.Ytcgljcbpcchcjaa

namespace Go.Proofs.Ytcgljcbpcchcjaa
open Go.Proofs Go.RowKit Go.Shelf Go.Maps

theorem Tm.m1 : Tm.fitErr [4, -1, 2, -2] [4, 3, 0, 2, -1] = 0 := by decide +kernel
theorem Tm.m2 : Tm.fitIs [4, -1, 2, -2] [4, 3, 0, 2, -1] = true := by decide +kernel
theorem Tm.m3 : Tm.fitVal [4, -1, 2, -2] [4, 3, 0, 2, -1] = [[3, 0], [-1], [-3], [-4], [-5], [-6], [-7], [-8]] := by decide +kernel
end Go.Proofs.Ytcgljcbpcchcjaa

namespace Go.Proofs.Ytcgljcbpcchcjaa
open Go.Proofs Go.RowKit Go.Shelf

theorem Tm.applied_cons (ss : List (List Int)) (s : Int) (l : List Int) : Tm.applied ss (s :: l) = Tm.piece ss s ++ Tm.applied ss l := by simp [Tm.applied]
theorem Tm.piece_pos {ss : List (List Int)} {s : Int} (h : 0 ≤ s) : Tm.piece ss s = [s] := by unfold Tm.piece; rw [if_neg (by omega)]

/-- Each list is a term. -/
def Terms (ss : List (List Int)) : Prop := ∀ j, j < 8 → Tm.err (ss[j]?.getD []) = 0
theorem Terms.of {ss : List (List Int)} (h : Tm.subErr ss = 0) : Terms ss := fun j hj => Tm.firstErr_all (Tm.subErr_ok h).2 j (by rw [(Tm.subErr_ok h).1]; exact hj)
theorem Tm.piece_term {ss : List (List Int)} (h : Terms ss) {s : Int} (h8 : -8 ≤ s) (hs : s < 0) : Tm.err (Tm.piece ss s) = 0 := by
  unfold Tm.piece
  rw [if_pos hs]
  exact h _ (by omega)

theorem Tm.run_applied {ss : List (List Int)} (h : Terms ss) : ∀ (t : List Int) (n : Nat), t.all Tm.known = true → Tm.run t n = t.length → Tm.run (Tm.applied ss t) n = (Tm.applied ss t).length := by
  intro t
  induction t with
  | nil => intro n _ hr; rw [Tm.run_nil] at hr; subst hr; rw [List.length_nil, Tm.run_zero]; rfl
  | cons s l ih =>
    intro n hk hr
    rw [List.all_cons, Bool.and_eq_true] at hk
    cases n with
    | zero => rw [Tm.run_zero, List.length_cons] at hr; omega
    | succ n =>
      rw [Tm.run_cons, List.length_cons] at hr
      rw [Tm.applied_cons]
      by_cases hs : s < 0
      · rw [Tm.room_neg hs] at hr
        have hp := Tm.err_run (Tm.piece_term h (Tm.known_ge hk.1) hs)
        have hi := ih n hk.2 (by rw [Nat.add_zero] at hr; omega)
        rw [show n + 1 = 1 + n from by omega, Tm.run_add, Tm.run_app _ _ 1 (by omega), hp, List.drop_left, hi, List.length_append]
      · rw [Tm.piece_pos (by omega), List.singleton_append, Tm.run_cons, List.length_cons, ih _ hk.2 (by omega)]
        omega
end Go.Proofs.Ytcgljcbpcchcjaa

namespace Go.Proofs.Ytcgljcbpcchcjaa
open Go.Proofs Go.RowKit Go.Shelf

/-- What a sign becomes by what was found. -/
def Tm.found (m : Asg) (s : Int) : List Int := if s < 0 then (m s).getD [s] else [s]
theorem Tm.endAt_front {pre x post : List Int} (hx : Tm.run x 1 = x.length) : Tm.endAt (pre ++ (x ++ post)) pre.length = pre.length + x.length := by
  have h := Tm.endAt_mid (pre := pre) (t := x) (post := post) (k := 0) (by omega) (by rw [Tm.endAt_zero]; omega)
  rw [Nat.add_zero, Tm.endAt_zero, hx] at h
  exact h
theorem Tm.part_front {pre x post : List Int} (hx : Tm.run x 1 = x.length) : Tm.part (pre ++ (x ++ post)) pre.length = x := by
  unfold Tm.part
  rw [Tm.endAt_front hx, List.drop_left, show pre.length + x.length - pre.length = x.length from by omega, List.take_left]
end Go.Proofs.Ytcgljcbpcchcjaa

namespace Go.Proofs.Ytcgljcbpcchcjaa
open Go.Proofs Go.RowKit Go.Shelf

theorem Tm.pos_flat {s : Int} {zss : List (List Int)} (hz : ∀ j, j < zss.length → Tm.run (zss[j]?.getD []) 1 = (zss[j]?.getD []).length) : ∀ m, m ≤ zss.length → Tm.pos (s :: zss.flatten) 0 m = (s :: (zss.take m).flatten).length := by
  intro m
  induction m with
  | zero => intro _; simp [Tm.pos_zero]
  | succ m ih =>
    intro hm
    rw [Tm.pos_succ, ih (by omega)]
    have e : s :: zss.flatten = (s :: (zss.take m).flatten) ++ (zss[m]?.getD [] ++ (zss.drop (m + 1)).flatten) := by rw [List.cons_append, ← split_flatten (by omega)]
    rw [e, Tm.endAt_front (hz m (by omega)), List.length_cons, List.length_cons, flatten_snoc (by omega), List.length_append]
    omega
theorem Tm.kid_flat {s : Int} {zss : List (List Int)} (hz : ∀ j, j < zss.length → Tm.run (zss[j]?.getD []) 1 = (zss[j]?.getD []).length) {m : Nat} (hm : m < zss.length) : Tm.kid (s :: zss.flatten) m = zss[m]?.getD [] := by
  unfold Tm.kid
  rw [Tm.pos_flat hz m (by omega)]
  have e : s :: zss.flatten = (s :: (zss.take m).flatten) ++ (zss[m]?.getD [] ++ (zss.drop (m + 1)).flatten) := by rw [List.cons_append, ← split_flatten (by omega)]
  rw [e, Tm.part_front (hz m hm)]

def Tm.kids (x : List Int) (n : Nat) : List (List Int) := (List.range n).map (Tm.kid x)
theorem Tm.kids_len (x : List Int) (n : Nat) : (Tm.kids x n).length = n := by simp [Tm.kids]
theorem Tm.kids_succ (x : List Int) (n : Nat) : Tm.kids x (n + 1) = Tm.kids x n ++ [Tm.kid x n] := by simp [Tm.kids, List.range_succ]
theorem Tm.take_end (x : List Int) (k : Nat) : x.take (Tm.endAt x k) = x.take k ++ Tm.part x k := by
  have := Tm.endAt_gt x k
  unfold Tm.part
  rw [show Tm.endAt x k = k + (Tm.endAt x k - k) from by omega, List.take_add, show k + (Tm.endAt x k - k) - k = Tm.endAt x k - k from by omega]
theorem Tm.take_pos {x : List Int} (h : 0 < x.length) : ∀ n, x.take (Tm.pos x 0 n) = Tm.sym x :: (Tm.kids x n).flatten := by
  intro n
  induction n with
  | zero =>
    obtain ⟨s, l, rfl⟩ : ∃ s l, x = s :: l := by cases x with | nil => simp at h | cons s l => exact ⟨s, l, rfl⟩
    simp [Tm.pos_zero, Tm.sym, Tm.kids]
  | succ n ih =>
    rw [Tm.pos_succ, Tm.take_end, ih, Tm.kids_succ, List.flatten_append, List.cons_append]
    simp [Tm.kid]
theorem Tm.pos_last {x : List Int} (h : Tm.err x = 0) : Tm.pos x 0 (Tm.room (Tm.sym x)) = x.length := by
  have h1 := Tm.endAt_in x 0 (Tm.err_pos h)
  rw [Tm.endAt_zero, Tm.err_run h] at h1
  exact h1.symm
/-- A term is its symbol and its parts. -/
theorem Tm.view {x : List Int} (h : Tm.err x = 0) : x = Tm.sym x :: (Tm.kids x (Tm.room (Tm.sym x))).flatten := by
  rw [← Tm.take_pos (Tm.err_pos h), Tm.pos_last h, List.take_length]
theorem Tm.pos_step (x : List Int) (k m : Nat) : Tm.pos x k m < Tm.pos x k (m + 1) := by rw [Tm.pos_succ]; exact Tm.endAt_gt _ _
theorem Tm.pos_in {x : List Int} (h : Tm.err x = 0) {m : Nat} (hm : m < Tm.room (Tm.sym x)) : Tm.pos x 0 m < x.length := by
  have h1 := Tm.pos_step x 0 m
  have h2 := Tm.pos_mono x 0 (m + 1) (Tm.room (Tm.sym x)) (by omega)
  rw [Tm.pos_last h] at h2
  omega
theorem Tm.kid_err {x : List Int} (h : Tm.err x = 0) {m : Nat} (hm : m < Tm.room (Tm.sym x)) : Tm.err (Tm.kid x m) = 0 := Tm.part_err h (Tm.pos_in h hm)
/-- The parts of a term that stands in another one. -/
theorem Tm.sym_part {zs : List Int} (he : Tm.err zs = 0) {i : Nat} (hi : i < zs.length) : Tm.sym (Tm.part zs i) = zs[i]?.getD 0 := by
  have hl := Tm.part_length he hi
  have hg := Tm.endAt_gt zs i
  unfold Tm.sym Tm.part
  rw [List.getElem?_take_of_lt (by omega), List.getElem?_drop]
  simp
theorem Tm.pos_part {zs : List Int} (he : Tm.err zs = 0) {i : Nat} (hi : i < zs.length) : ∀ m, m ≤ Tm.room (zs[i]?.getD 0) → Tm.pos zs i m = i + Tm.pos (Tm.part zs i) 0 m := by
  have hp := Tm.part_err he hi
  have hs := Tm.sym_part he hi
  have hsp := Tm.split zs i
  have hti : (zs.take i).length = i := by simp; omega
  intro m
  induction m with
  | zero => intro _; simp [Tm.pos_zero]
  | succ m ih =>
    intro hm
    have hin := Tm.pos_in hp (m := m) (by rw [hs]; omega)
    rw [Tm.pos_succ, Tm.pos_succ, ih (by omega)]
    have h := Tm.endAt_mid (pre := zs.take i) (t := Tm.part zs i) (post := zs.drop (Tm.endAt zs i)) (k := Tm.pos (Tm.part zs i) 0 m) (by omega) (Tm.end_in hp hin)
    rw [← hsp, hti] at h
    exact h
theorem Tm.kid_part {zs : List Int} (he : Tm.err zs = 0) {i : Nat} (hi : i < zs.length) {m : Nat} (hm : m < Tm.room (zs[i]?.getD 0)) : Tm.kid (Tm.part zs i) m = Tm.part zs (Tm.pos zs i m) := by
  have hp := Tm.part_err he hi
  have hs := Tm.sym_part he hi
  have hsp := Tm.split zs i
  have hti : (zs.take i).length = i := by simp; omega
  have hin := Tm.pos_in hp (m := m) (by rw [hs]; omega)
  have h := Tm.part_mid (pre := zs.take i) (t := Tm.part zs i) (post := zs.drop (Tm.endAt zs i)) (k := Tm.pos (Tm.part zs i) 0 m) (by omega) (Tm.end_in hp hin)
  rw [← hsp, hti] at h
  rw [Tm.pos_part he hi m (by omega), h]
  rfl

/-- Who is above stays above, whatever variables become. -/
theorem Tm.applied_flatten (ss : List (List Int)) (zss : List (List Int)) : Tm.applied ss zss.flatten = (zss.map (Tm.applied ss)).flatten := by
  induction zss with
  | nil => simp [Tm.applied]
  | cons z l ih => rw [List.flatten_cons, List.map_cons, List.flatten_cons, ← ih]; simp [Tm.applied]
theorem Tm.applied_view {ss : List (List Int)} (hss : Terms ss) {a : List Int} (ha : Tm.err a = 0) (h0 : 0 ≤ Tm.sym a) : Tm.sym (Tm.applied ss a) = Tm.sym a ∧ ∀ m, m < Tm.room (Tm.sym a) → Tm.kid (Tm.applied ss a) m = Tm.applied ss (Tm.kid a m) := by
  have e : Tm.applied ss a = Tm.sym a :: ((Tm.kids a (Tm.room (Tm.sym a))).map (Tm.applied ss)).flatten := by
    conv => lhs; rw [Tm.view ha]
    rw [Tm.applied_cons, Tm.piece_pos h0, Tm.applied_flatten]; rfl
  have hr : ∀ j, j < ((Tm.kids a (Tm.room (Tm.sym a))).map (Tm.applied ss)).length → Tm.run (((Tm.kids a (Tm.room (Tm.sym a))).map (Tm.applied ss))[j]?.getD []) 1 = (((Tm.kids a (Tm.room (Tm.sym a))).map (Tm.applied ss))[j]?.getD []).length := by
    intro j hj
    rw [List.length_map, Tm.kids_len] at hj
    have ek : ((Tm.kids a (Tm.room (Tm.sym a))).map (Tm.applied ss))[j]?.getD [] = Tm.applied ss (Tm.kid a j) := by simp [Tm.kids, hj]
    rw [ek]
    have hk := Tm.kid_err ha hj
    exact Tm.run_applied hss _ 1 (Tm.err_all hk) (Tm.err_run hk)
  constructor
  · rw [e]; simp [Tm.sym]
  · intro m hm
    rw [e, Tm.kid_flat hr (by rw [List.length_map, Tm.kids_len]; exact hm)]
    simp [Tm.kids, hm]
theorem Tm.Gt.stays {r : Int → Int} {ss : List (List Int)} (hss : Terms ss) {a b : List Int} (h : Tm.Gt r a b) : Tm.err a = 0 → Tm.err b = 0 → Tm.Gt r (Tm.applied ss a) (Tm.applied ss b) := by
  induction h with
  | eq a b m hm e =>
    intro ha hb
    obtain ⟨h1, h2⟩ := Tm.applied_view hss ha (Tm.Gt.pos (r := r) (.eq a b m hm e))
    exact .eq _ _ m (by rw [h1]; exact hm) (by rw [h2 m hm, e])
  | sub a b m hm h ih =>
    intro ha hb
    obtain ⟨h1, h2⟩ := Tm.applied_view hss ha (Tm.Gt.pos (.sub a b m hm h))
    exact .sub _ _ m (by rw [h1]; exact hm) (by rw [h2 m hm]; exact ih (Tm.kid_err ha hm) hb)
  | rk a b ha0 hb0 hall hne hr ih =>
    intro ha hb
    obtain ⟨h1, h2⟩ := Tm.applied_view hss ha ha0
    obtain ⟨k1, k2⟩ := Tm.applied_view hss hb hb0
    exact .rk _ _ (by rw [h1]; exact ha0) (by rw [k1]; exact hb0) (fun m hm => by rw [k1] at hm; rw [k2 m hm]; exact ih m hm ha (Tm.kid_err hb hm)) (by rw [h1, k1]; exact hne) (by rw [h1, k1]; exact hr)
  | lex a b m ha0 hs hall hm hl hk ih ihk =>
    intro ha hb
    obtain ⟨h1, h2⟩ := Tm.applied_view hss ha ha0
    obtain ⟨k1, k2⟩ := Tm.applied_view hss hb (by omega)
    exact .lex _ _ m (by rw [h1]; exact ha0) (by rw [h1, k1]; exact hs) (fun m hm => by rw [k1] at hm; rw [k2 m hm]; exact ih m hm ha (Tm.kid_err hb hm)) (by rw [h1]; exact hm)
      (fun l hlm => by rw [h2 l (by omega), k2 l (by rw [← hs]; omega), hl l hlm]) (by rw [h2 m hm, k2 m (by rw [← hs]; exact hm)]; exact ihk (Tm.kid_err ha hm) (Tm.kid_err hb (by rw [← hs]; exact hm)))

/-- A place that is not the first lies in a part. -/
theorem Tm.place_kid {x : List Int} (h : Tm.err x = 0) {k : Nat} (h0 : 0 < k) (hk : k < x.length) : ∃ m, m < Tm.room (Tm.sym x) ∧ Tm.pos x 0 m ≤ k ∧ k < Tm.pos x 0 (m + 1) := by
  have key : ∀ n, k < Tm.pos x 0 n → ∃ m, m < n ∧ Tm.pos x 0 m ≤ k ∧ k < Tm.pos x 0 (m + 1) := by
    intro n
    induction n with
    | zero => intro hn; rw [Tm.pos_zero] at hn; omega
    | succ n ih =>
      intro hn
      by_cases hc : k < Tm.pos x 0 n
      · obtain ⟨m, h1, h2⟩ := ih hc; exact ⟨m, by omega, h2⟩
      · exact ⟨n, by omega, by omega, hn⟩
  exact key _ (by rw [Tm.pos_last h]; exact hk)
/-- Each is above its parts. -/
theorem Tm.Gt.parts {r : Int → Int} : ∀ (n : Nat) (t : List Int) (k : Nat), t.length < n → Tm.err t = 0 → 0 < k → k < t.length → Tm.Gt r t (Tm.part t k) := by
  intro n
  induction n with
  | zero => intro t k h; omega
  | succ n ih =>
    intro t k hn ht h0 hk
    obtain ⟨m, hm, h1, h2⟩ := Tm.place_kid ht h0 hk
    have hpi := Tm.pos_in ht hm
    have hke := Tm.kid_err ht hm
    have hkl : (Tm.kid t m).length = Tm.pos t 0 (m + 1) - Tm.pos t 0 m := by rw [Tm.pos_succ]; exact Tm.part_length ht hpi
    have hti : (t.take (Tm.pos t 0 m)).length = Tm.pos t 0 m := by simp; omega
    have hk' : k - Tm.pos t 0 m < (Tm.kid t m).length := by omega
    have hpk : Tm.part t k = Tm.part (Tm.kid t m) (k - Tm.pos t 0 m) := by
      have h := Tm.part_mid (pre := t.take (Tm.pos t 0 m)) (t := Tm.kid t m) (post := t.drop (Tm.endAt t (Tm.pos t 0 m))) (k := k - Tm.pos t 0 m) (by omega) (Tm.end_in hke hk')
      have hs := Tm.split t (Tm.pos t 0 m)
      rw [show Tm.part t (Tm.pos t 0 m) = Tm.kid t m from rfl] at hs
      rw [← hs, hti, show Tm.pos t 0 m + (k - Tm.pos t 0 m) = k from by omega] at h
      exact h
    rw [hpk]
    by_cases e : k - Tm.pos t 0 m = 0
    · rw [e, Tm.part_all0 (Tm.err_run hke)]; exact .eq _ _ m hm rfl
    · exact .sub _ _ m hm (ih _ _ (by have := Tm.kid_short hm; omega) hke (by omega) hk')

end Go.Proofs.Ytcgljcbpcchcjaa

namespace Go.Proofs.Ytcgljcbpcchcjaa
open Go.Proofs Go.RowKit Go.Shelf

inductive Tr
  | leaf (s : Int)
  | one (s : Int) (a : Tr)
  | two (s : Int) (a b : Tr)
def Tr.flat : Tr → List Int
  | .leaf s => [s]
  | .one s a => s :: a.flat
  | .two s a b => s :: (a.flat ++ b.flat)
def Tr.ok : Tr → Prop
  | .leaf s => s < 2
  | .one s a => (s = 2 ∨ s = 3) ∧ a.ok
  | .two s a b => (s = 4 ∨ s = 5) ∧ a.ok ∧ b.ok
def Tr.sy : Tr → Int
  | .leaf s => s
  | .one s _ => s
  | .two s _ _ => s
def Tr.kids : Tr → List Tr
  | .leaf _ => []
  | .one _ a => [a]
  | .two _ a b => [a, b]

theorem room_leaf {s : Int} (h : s < 2) : Tm.room s = 0 := by unfold Tm.room; rw [if_neg (by omega), if_neg (by omega)]
theorem room_one {s : Int} (h : s = 2 ∨ s = 3) : Tm.room s = 1 := by unfold Tm.room; rw [if_pos h]
theorem room_two {s : Int} (h : s = 4 ∨ s = 5) : Tm.room s = 2 := by unfold Tm.room; rw [if_neg (by omega), if_pos h]

theorem Tr.room {x : Tr} (h : x.ok) : Tm.room x.sy = x.kids.length := by
  cases x with
  | leaf s => exact room_leaf h
  | one s a => exact room_one h.1
  | two s a b => exact room_two h.1
theorem Tr.kids_ok {x : Tr} (h : x.ok) : ∀ c ∈ x.kids, c.ok := by
  cases x with
  | leaf s => intro c hc; cases hc
  | one s a => intro c hc; rw [List.mem_singleton.1 hc]; exact h.2
  | two s a b =>
    intro c hc
    rcases List.mem_cons.1 hc with rfl | hc
    · exact h.2.1
    · rw [List.mem_singleton.1 hc]; exact h.2.2
theorem Tr.sym (x : Tr) : Tm.sym x.flat = x.sy := by cases x <;> rfl
theorem Tr.run {x : Tr} : x.ok → ∀ (l : List Int) (n : Nat), Tm.run (x.flat ++ l) (n + 1) = x.flat.length + Tm.run l n := by
  induction x with
  | leaf s => intro h l n; rw [Tr.flat, List.singleton_append, Tm.run_cons, room_leaf h]; rfl
  | one s a ih =>
    intro h l n
    rw [Tr.flat, List.cons_append, Tm.run_cons, room_one h.1, ih h.2, List.length_cons]
    omega
  | two s a b iha ihb =>
    intro h l n
    rw [Tr.flat, List.cons_append, Tm.run_cons, room_two h.1, List.append_assoc, iha h.2.1, ihb h.2.2, List.length_cons, List.length_append]
    omega
theorem Tr.run1 {x : Tr} (h : x.ok) : Tm.run x.flat 1 = x.flat.length := by
  have := Tr.run h [] 0
  rwa [List.append_nil, Tm.run_zero] at this

theorem Tr.flat_kids (x : Tr) : x.flat = x.sy :: (x.kids.map Tr.flat).flatten := by
  cases x <;> simp [Tr.flat, Tr.sy, Tr.kids]
theorem Tr.kid {x : Tr} (h : x.ok) {m : Nat} {c : Tr} (hm : x.kids[m]? = some c) : Tm.kid x.flat m = c.flat := by
  rw [Tr.flat_kids x]
  have hlt : m < x.kids.length := by
    rcases Nat.lt_or_ge m x.kids.length with h | h
    · exact h
    · rw [List.getElem?_eq_none h] at hm; cases hm
  rw [Tm.kid_flat (zss := x.kids.map Tr.flat) ?_ (by simpa using hlt)]
  · rw [List.getElem?_map, hm]; rfl
  · intro j hj
    have hj' : j < x.kids.length := by simpa using hj
    rw [List.getElem?_map, List.getElem?_eq_getElem hj']
    exact Tr.run1 (Tr.kids_ok h _ (List.getElem_mem hj'))

theorem Tr.inj {x : Tr} : x.ok → ∀ {y : Tr} {l m : List Int}, y.ok → x.flat ++ l = y.flat ++ m → x = y ∧ l = m := by
  induction x with
  | leaf s =>
    intro h y l m hy e
    cases y with
    | leaf s' => simp only [Tr.flat, List.singleton_append, List.cons.injEq] at e; exact ⟨by rw [e.1], e.2⟩
    | one s' a => simp only [Tr.flat, List.cons_append, List.cons.injEq] at e; simp only [Tr.ok] at h hy; omega
    | two s' a b => simp only [Tr.flat, List.cons_append, List.cons.injEq] at e; simp only [Tr.ok] at h hy; omega
  | one s a ih =>
    intro h y l m hy e
    cases y with
    | leaf s' => simp only [Tr.flat, List.cons_append, List.cons.injEq] at e; simp only [Tr.ok] at h hy; omega
    | one s' a' =>
      simp only [Tr.flat, List.cons_append, List.cons.injEq] at e
      obtain ⟨h1, h2⟩ := ih h.2 hy.2 e.2
      exact ⟨by rw [e.1, h1], h2⟩
    | two s' a' b' => simp only [Tr.flat, List.cons_append, List.cons.injEq] at e; simp only [Tr.ok] at h hy; omega
  | two s a b iha ihb =>
    intro h y l m hy e
    cases y with
    | leaf s' => simp only [Tr.flat, List.cons_append, List.cons.injEq] at e; simp only [Tr.ok] at h hy; omega
    | one s' a' => simp only [Tr.flat, List.cons_append, List.cons.injEq] at e; simp only [Tr.ok] at h hy; omega
    | two s' a' b' =>
      simp only [Tr.flat, List.cons_append, List.append_assoc, List.cons.injEq] at e
      obtain ⟨h1, h2⟩ := iha h.2.1 hy.2.1 e.2
      obtain ⟨h3, h4⟩ := ihb h.2.2 hy.2.2 h2
      exact ⟨by rw [e.1, h1, h3], h4⟩
theorem Tr.flat_inj {x y : Tr} (hx : x.ok) (hy : y.ok) (e : x.flat = y.flat) : x = y := (Tr.inj hx (l := []) (m := []) hy (by rw [e])).1

/-- So many terms are so many trees. -/
theorem Tr.parse : ∀ (t : List Int) (n : Nat), (∀ s ∈ t, s < 6) → Tm.run t n = t.length → ∃ xs : List Tr, xs.length = n ∧ (∀ x ∈ xs, x.ok) ∧ (xs.map Tr.flat).flatten = t := by
  intro t
  induction t with
  | nil =>
    intro n _ h
    rw [Tm.run_nil] at h
    exact ⟨[], by simpa using h.symm, (fun _ h => by cases h), rfl⟩
  | cons s l ih =>
    intro n hs h
    cases n with
    | zero => rw [Tm.run_zero] at h; simp at h
    | succ n =>
      rw [Tm.run_cons, List.length_cons] at h
      obtain ⟨xs, h1, h2, h3⟩ := ih (n + Tm.room s) (fun x hx => hs x (List.mem_cons_of_mem _ hx)) (by omega)
      have h6 := hs s List.mem_cons_self
      by_cases c0 : s < 2
      · rw [room_leaf c0] at h1
        refine ⟨.leaf s :: xs, by simpa using h1, fun x hx => ?_, by simp [Tr.flat, h3]⟩
        rcases List.mem_cons.1 hx with rfl | hx
        · exact c0
        · exact h2 x hx
      · by_cases c1 : s = 2 ∨ s = 3
        · rw [room_one c1] at h1
          cases xs with
          | nil => simp at h1
          | cons a xs =>
            refine ⟨.one s a :: xs, by simpa using h1, fun x hx => ?_, by rw [← h3]; simp [Tr.flat]⟩
            rcases List.mem_cons.1 hx with rfl | hx
            · exact ⟨c1, h2 a List.mem_cons_self⟩
            · exact h2 x (List.mem_cons_of_mem _ hx)
        · have c2 : s = 4 ∨ s = 5 := by omega
          rw [room_two c2] at h1
          cases xs with
          | nil => simp at h1
          | cons a xs =>
            cases xs with
            | nil => simp at h1
            | cons b xs =>
              refine ⟨.two s a b :: xs, by simpa using h1, fun x hx => ?_, by rw [← h3]; simp [Tr.flat]⟩
              rcases List.mem_cons.1 hx with rfl | hx
              · exact ⟨c2, h2 a List.mem_cons_self, h2 b (List.mem_cons_of_mem _ List.mem_cons_self)⟩
              · exact h2 x (List.mem_cons_of_mem _ (List.mem_cons_of_mem _ hx))
theorem Tr.of {t : List Int} (hs : ∀ s ∈ t, s < 6) (h : Tm.run t 1 = t.length) : ∃ x : Tr, x.ok ∧ x.flat = t := by
  obtain ⟨xs, h1, h2, h3⟩ := Tr.parse t 1 hs h
  match xs, h1 with
  | [x], _ => exact ⟨x, h2 x List.mem_cons_self, by simpa using h3⟩

end Go.Proofs.Ytcgljcbpcchcjaa

namespace Go.Proofs.Ytcgljcbpcchcjaa
open Go.Proofs Go.RowKit Go.Shelf

def Tm.symL : List UInt8 := [97, 98, 103, 104, 102, 107]
def Tm.varL : List UInt8 := [120, 121, 122, 119, 112, 113, 114, 115]
/-- The letter of a sign. -/
def Tm.letr (s : Int) : UInt8 := if s < 0 then Tm.varL[(-s - 1).toNat]?.getD 0 else Tm.symL[s.toNat]?.getD 0
/-- The sign of a letter. -/
def Tm.sgnF : Nat → UInt8 → Option Int
  | 0, _ => none
  | n + 1, c => if Tm.letr (5 - (n : Int)) = c then some (5 - (n : Int)) else Tm.sgnF n c
def Tm.sgn (c : UInt8) : Option Int := Tm.sgnF 14 c

theorem byte_all {p : UInt8 → Prop} (h : ∀ n, n < 256 → p (UInt8.ofNat n)) (c : UInt8) : p c := by
  have := h c.toNat c.toNat_lt
  rwa [UInt8.ofNat_toNat] at this
theorem Tm.known_cases {s : Int} (h : Tm.known s = true) : s = -8 ∨ s = -7 ∨ s = -6 ∨ s = -5 ∨ s = -4 ∨ s = -3 ∨ s = -2 ∨ s = -1 ∨ s = 0 ∨ s = 1 ∨ s = 2 ∨ s = 3 ∨ s = 4 ∨ s = 5 := by
  unfold Tm.known at h
  simp only [Bool.and_eq_true, decide_eq_true_eq] at h
  omega
theorem Tm.sgn_letr {s : Int} (h : Tm.known s = true) : Tm.sgn (Tm.letr s) = some s := by
  rcases Tm.known_cases h with h | h | h | h | h | h | h | h | h | h | h | h | h | h <;> subst h <;> decide +kernel
theorem Tm.sgnF_some {c : UInt8} {s : Int} : ∀ {n : Nat}, n ≤ 14 → Tm.sgnF n c = some s → Tm.known s = true ∧ Tm.letr s = c := by
  intro n
  induction n with
  | zero => intro _ h; cases h
  | succ n ih =>
    intro hn h
    rw [Tm.sgnF] at h
    by_cases he : Tm.letr (5 - (n : Int)) = c
    · rw [if_pos he] at h
      cases h
      exact ⟨by unfold Tm.known; simp only [Bool.and_eq_true, decide_eq_true_eq]; omega, he⟩
    · rw [if_neg he] at h
      exact ih (by omega) h
theorem Tm.sgn_some {c : UInt8} {s : Int} (h : Tm.sgn c = some s) : Tm.known s = true ∧ Tm.letr s = c := Tm.sgnF_some (Nat.le_refl _) h
theorem Tm.sgn_marks : Tm.sgn 40 = none ∧ Tm.sgn 41 = none ∧ Tm.sgn 44 = none := by decide +kernel

/-- How a tree is shown. -/
def Tr.show : Tr → List UInt8
  | .leaf s => [Tm.letr s]
  | .one s a => Tm.letr s :: 40 :: (a.show ++ [41])
  | .two s a b => Tm.letr s :: 40 :: (a.show ++ 44 :: (b.show ++ [41]))
def Tr.knows (x : Tr) : Prop := ∀ s ∈ x.flat, Tm.known s = true

/-- The letters of a text alone. -/
def Tm.signsOf : List UInt8 → List Int
  | [] => []
  | c :: l => match Tm.sgn c with
    | some s => s :: Tm.signsOf l
    | none => Tm.signsOf l
theorem Tm.signsOf_app : ∀ (a b : List UInt8), Tm.signsOf (a ++ b) = Tm.signsOf a ++ Tm.signsOf b := by
  intro a b
  induction a with
  | nil => rfl
  | cons c l ih =>
    rw [List.cons_append, Tm.signsOf, Tm.signsOf]
    cases Tm.sgn c with
    | none => exact ih
    | some s => simp only [List.cons_append, ih]
theorem Tm.signsOf_letr {s : Int} (h : Tm.known s = true) (l : List UInt8) : Tm.signsOf (Tm.letr s :: l) = s :: Tm.signsOf l := by
  rw [Tm.signsOf, Tm.sgn_letr h]
theorem Tm.signsOf_mark {c : UInt8} (h : Tm.sgn c = none) (l : List UInt8) : Tm.signsOf (c :: l) = Tm.signsOf l := by
  rw [Tm.signsOf, h]
theorem Tr.signs {x : Tr} : x.knows → Tm.signsOf x.show = x.flat := by
  obtain ⟨m1, m2, m3⟩ := Tm.sgn_marks
  induction x with
  | leaf s => intro h; rw [Tr.show, Tm.signsOf_letr (h s (by simp [Tr.flat]))]; rfl
  | one s a ih =>
    intro h
    have ha : a.knows := fun z hz => h z (by simp [Tr.flat, hz])
    rw [Tr.show, Tm.signsOf_letr (h s (by simp [Tr.flat])), Tm.signsOf_mark m1, Tm.signsOf_app, ih ha, Tm.signsOf_mark m2]
    simp [Tr.flat, Tm.signsOf]
  | two s a b iha ihb =>
    intro h
    have ha : a.knows := fun z hz => h z (by simp [Tr.flat, hz])
    have hb : b.knows := fun z hz => h z (by simp [Tr.flat, hz])
    rw [Tr.show, Tm.signsOf_letr (h s (by simp [Tr.flat])), Tm.signsOf_mark m1, Tm.signsOf_app, iha ha, Tm.signsOf_mark m3, Tm.signsOf_app, ihb hb, Tm.signsOf_mark m2]
    simp [Tr.flat, Tm.signsOf]

/-- A mark that must stand there. -/
def Tm.mark (c : UInt8) : List UInt8 → Option (List UInt8)
  | [] => none
  | b :: l => if b = c then some l else none
/-- Reads one term, of at most m signs: its signs, and what is left. -/
def Tm.rd : Nat → Nat → List UInt8 → Option (List Int × List UInt8)
  | 0, _, _ => none
  | _ + 1, 0, _ => none
  | _ + 1, _ + 1, [] => none
  | f + 1, m + 1, c :: l => (Tm.sgn c).bind fun s =>
      if Tm.room s = 0 then some ([s], l)
      else (Tm.mark 40 l).bind fun l1 => (Tm.rd f m l1).bind fun p =>
        if Tm.room s = 1 then (Tm.mark 41 p.2).bind fun l3 => some (s :: p.1, l3)
        else (Tm.mark 44 p.2).bind fun l3 => (Tm.rd f (m - p.1.length) l3).bind fun q => (Tm.mark 41 q.2).bind fun l5 => some (s :: (p.1 ++ q.1), l5)
theorem Tm.mark_some {c : UInt8} {l r : List UInt8} (h : Tm.mark c l = some r) : l = c :: r := by
  cases l with
  | nil => cases h
  | cons b l =>
    rw [Tm.mark] at h
    by_cases e : b = c
    · rw [if_pos e] at h; cases h; rw [e]
    · rw [if_neg e] at h; cases h
theorem Tm.mark_cons (c : UInt8) (l : List UInt8) : Tm.mark c (c :: l) = some l := by rw [Tm.mark, if_pos rfl]
theorem Tm.rd_sound : ∀ (f m : Nat) (l : List UInt8) (a : List Int) (r : List UInt8), Tm.rd f m l = some (a, r) → ∃ x : Tr, x.ok ∧ x.knows ∧ x.flat = a ∧ l = x.show ++ r ∧ a.length ≤ m := by
  intro f
  induction f with
  | zero => intro m l a r h; rw [Tm.rd] at h; cases h
  | succ f ih =>
    intro m l a r h
    cases m with
    | zero => rw [Tm.rd] at h; cases h
    | succ m =>
      cases l with
      | nil => rw [Tm.rd] at h; cases h
      | cons c l =>
        rw [Tm.rd, Option.bind_eq_some_iff] at h
        obtain ⟨s, hs, h⟩ := h
        obtain ⟨k1, k2⟩ := Tm.sgn_some hs
        have hk : ∀ z, z = s → Tm.known z = true := fun z hz => by rw [hz]; exact k1
        have c3 := Tm.known_cases k1
        by_cases h0 : Tm.room s = 0
        · rw [if_pos h0] at h
          cases h
          have : s < 2 := by
            rcases c3 with h | h | h | h | h | h | h | h | h | h | h | h | h | h <;> subst h <;> first | decide | (exfalso; revert h0; decide)
          exact ⟨.leaf s, this, fun z hz => hk z (by simpa [Tr.flat] using hz), rfl, by simp [Tr.show, k2], by simp⟩
        · rw [if_neg h0, Option.bind_eq_some_iff] at h
          obtain ⟨l1, h1, h⟩ := h
          rw [Option.bind_eq_some_iff] at h
          obtain ⟨⟨a1, r1⟩, h2, h⟩ := h
          obtain ⟨x, x1, x2, x3, x4, x5⟩ := ih _ _ _ _ h2
          have e1 := Tm.mark_some h1
          by_cases h3 : Tm.room s = 1
          · rw [if_pos h3, Option.bind_eq_some_iff] at h
            obtain ⟨l3, h4, h⟩ := h
            cases h
            have e2 := Tm.mark_some h4
            have ho : s = 2 ∨ s = 3 := by
              rcases c3 with h | h | h | h | h | h | h | h | h | h | h | h | h | h <;> subst h <;> first | exact .inl rfl | exact .inr rfl | (exfalso; revert h3; decide)
            refine ⟨.one s x, ⟨ho, x1⟩, ?_, by simp [Tr.flat, x3], ?_, by simp; omega⟩
            · intro z hz
              simp only [Tr.flat, List.mem_cons] at hz
              rcases hz with hz | hz
              · exact hk z hz
              · exact x2 z hz
            · simp only at e2
              rw [e1, x4, e2, Tr.show, k2]
              simp
          · rw [if_neg h3, Option.bind_eq_some_iff] at h
            obtain ⟨l3, h4, h⟩ := h
            rw [Option.bind_eq_some_iff] at h
            obtain ⟨⟨a2, r2⟩, h5, h⟩ := h
            rw [Option.bind_eq_some_iff] at h
            obtain ⟨l5, h6, h⟩ := h
            cases h
            obtain ⟨y, y1, y2, y3, y4, y5⟩ := ih _ _ _ _ h5
            have e2 := Tm.mark_some h4
            have e3 := Tm.mark_some h6
            have ho : s = 4 ∨ s = 5 := by
              rcases c3 with h | h | h | h | h | h | h | h | h | h | h | h | h | h <;> subst h <;> first | exact .inl rfl | exact .inr rfl | (exfalso; revert h3; decide) | (exfalso; revert h0; decide)
            refine ⟨.two s x y, ⟨ho, x1, y1⟩, ?_, by simp [Tr.flat, x3, y3], ?_, by simp at y5 ⊢; omega⟩
            · intro z hz
              simp only [Tr.flat, List.mem_cons, List.mem_append] at hz
              rcases hz with hz | hz | hz
              · exact hk z hz
              · exact x2 z hz
              · exact y2 z hz
            · simp only at e2 e3
              rw [e1, x4, e2, y4, e3, Tr.show, k2]
              simp
theorem Tm.rd_whole : ∀ (x : Tr) (f m : Nat) (r : List UInt8), x.ok → x.knows → x.flat.length ≤ m → m ≤ f → Tm.rd f m (x.show ++ r) = some (x.flat, r) := by
  intro x
  induction x with
  | leaf s =>
    intro f m r ho hk h1 h2
    obtain ⟨f, rfl⟩ : ∃ k, f = k + 1 := ⟨f - 1, by simp [Tr.flat] at h1; omega⟩
    obtain ⟨m, rfl⟩ : ∃ k, m = k + 1 := ⟨m - 1, by simp [Tr.flat] at h1; omega⟩
    rw [Tr.show, List.singleton_append, Tm.rd, Tm.sgn_letr (hk s (by simp [Tr.flat])), Option.bind_some, if_pos (room_leaf ho)]
    rfl
  | one s a ih =>
    intro f m r ho hk h1 h2
    obtain ⟨f, rfl⟩ : ∃ k, f = k + 1 := ⟨f - 1, by simp [Tr.flat] at h1; omega⟩
    obtain ⟨m, rfl⟩ : ∃ k, m = k + 1 := ⟨m - 1, by simp [Tr.flat] at h1; omega⟩
    have ha : a.knows := fun z hz => hk z (by simp [Tr.flat, hz])
    have hr := room_one ho.1
    rw [Tr.show, List.cons_append, List.cons_append, Tm.rd, Tm.sgn_letr (hk s (by simp [Tr.flat])), Option.bind_some, if_neg (by rw [hr]; omega), Tm.mark_cons, Option.bind_some, List.append_assoc, ih f m _ ho.2 ha (by simp [Tr.flat] at h1; omega) (by omega), Option.bind_some, if_pos hr, List.singleton_append, Tm.mark_cons, Option.bind_some]
    rfl
  | two s a b iha ihb =>
    intro f m r ho hk h1 h2
    obtain ⟨f, rfl⟩ : ∃ k, f = k + 1 := ⟨f - 1, by simp [Tr.flat] at h1; omega⟩
    obtain ⟨m, rfl⟩ : ∃ k, m = k + 1 := ⟨m - 1, by simp [Tr.flat] at h1; omega⟩
    have ha : a.knows := fun z hz => hk z (by simp [Tr.flat, hz])
    have hb : b.knows := fun z hz => hk z (by simp [Tr.flat, hz])
    have hr := room_two ho.1
    simp only [Tr.flat, List.length_cons, List.length_append] at h1
    rw [Tr.show, List.cons_append, List.cons_append, Tm.rd, Tm.sgn_letr (hk s (by simp [Tr.flat])), Option.bind_some, if_neg (by rw [hr]; omega), Tm.mark_cons, Option.bind_some, List.append_assoc, iha f m _ ho.2.1 ha (by omega) (by omega), Option.bind_some, if_neg (by rw [hr]; omega), List.cons_append, Tm.mark_cons, Option.bind_some, List.append_assoc, ihb f (m - a.flat.length) _ ho.2.2 hb (by omega) (by omega), Option.bind_some, List.singleton_append, Tm.mark_cons, Option.bind_some]
    rfl

/-- What is read of a text; its error. -/
def Tm.read (l : List UInt8) : List Int × Int := match Tm.rd 30 30 l with
  | some (a, []) => (a, 0)
  | _ => ([], 1)
theorem Tm.read_cases (l : List UInt8) : (∃ x : Tr, x.ok ∧ x.knows ∧ x.flat.length ≤ 30 ∧ l = x.show ∧ Tm.rd 30 30 l = some (x.flat, []) ∧ Tm.read l = (x.flat, 0)) ∨
    ((∀ x : Tr, x.ok → x.knows → x.flat.length ≤ 30 → l ≠ x.show) ∧ (∀ a, Tm.rd 30 30 l ≠ some (a, [])) ∧ Tm.read l = ([], 1)) := by
  cases h : Tm.rd 30 30 l with
  | none =>
    refine .inr ⟨fun x h1 h2 h3 e => ?_, (fun a => by simp), by unfold Tm.read; rw [h]⟩
    have := Tm.rd_whole x 30 30 [] h1 h2 h3 (Nat.le_refl _)
    rw [List.append_nil, ← e, h] at this
    cases this
  | some p =>
    obtain ⟨a, r⟩ := p
    cases r with
    | nil =>
      obtain ⟨x, x1, x2, x3, x4, x5⟩ := Tm.rd_sound _ _ _ _ _ h
      subst x3
      exact .inl ⟨x, x1, x2, x5, by rw [x4, List.append_nil], rfl, by unfold Tm.read; rw [h]⟩
    | cons c r =>
      refine .inr ⟨fun x h1 h2 h3 e => ?_, (fun a => by simp), by unfold Tm.read; rw [h]⟩
      have := Tm.rd_whole x 30 30 [] h1 h2 h3 (Nat.le_refl _)
      rw [List.append_nil, ← e, h] at this
      cases this
theorem Tr.err_of {x : Tr} (h : x.ok) (hk : x.knows) (hl : x.flat.length ≤ 30) : Tm.err x.flat = 0 := by
  unfold Tm.err
  rw [if_neg (by omega), if_neg, if_pos (Tr.run1 h)]
  rw [Bool.not_eq_false, List.all_eq_true]
  exact hk
theorem Tr.of_right {t : List Int} (h : Tm.err t = 0) : ∃ x : Tr, x.ok ∧ x.knows ∧ x.flat = t ∧ x.flat.length ≤ 30 := by
  have ha := Tm.err_all h
  rw [List.all_eq_true] at ha
  obtain ⟨xs, h1, h2, h3⟩ := Tr.parse t 1 (fun s hs => Tm.known_lt (ha s hs)) (Tm.err_run h)
  match xs, h1 with
  | [x], _ =>
    have e : x.flat = t := by simpa using h3
    exact ⟨x, h2 x (by simp), by intro s hs; exact ha s (by rw [← e]; exact hs), e, by rw [e]; exact Tm.err_len h⟩
/-- What the reference reads: the letters alone, if they are shown so. -/
theorem Tm.read_ref {l : List UInt8} {x : Tr} (h1 : x.ok) (h2 : x.knows) (h3 : x.flat = Tm.signsOf l) (h4 : x.flat.length ≤ 30) : (x.show = l ∧ Tm.read l = (x.flat, 0)) ∨ (x.show ≠ l ∧ Tm.read l = ([], 1)) := by
  rcases Tm.read_cases l with ⟨y, y1, y2, y3, y4, _, y5⟩ | ⟨y1, _, y2⟩
  · have e : y = x := Tr.flat_inj y1 h1 (by rw [h3, y4, Tr.signs y2])
    subst e
    exact .inl ⟨y4.symm, y5⟩
  · exact .inr ⟨fun e => y1 x h1 h2 h4 e.symm, y2⟩
theorem Tm.read_bad {l : List UInt8} (h : Tm.err (Tm.signsOf l) ≠ 0) : Tm.read l = ([], 1) := by
  rcases Tm.read_cases l with ⟨y, y1, y2, y3, y4, _, y5⟩ | ⟨_, _, y2⟩
  · exact absurd (by rw [y4, Tr.signs y2]; exact Tr.err_of y1 y2 y3) h
  · exact y2

end Go.Proofs.Ytcgljcbpcchcjaa

namespace Go.Proofs.Ytcgljcbpcchcjaa
open Go.Proofs Go.RowKit Go.Shelf Go.Maps

set_option maxRecDepth 100000 in
set_option maxHeartbeats 2000000 in
theorem letter_any (s : Int) (w : World) (hk : Tm.known s = true) : Calls Try.prog 24 #[.int .i64 s] w fun e w' => e = .returned (.string ⟨#[Tm.letr s]⟩) ∧ w' = w := by
  rcases Tm.known_cases hk with h | h | h | h | h | h | h | h | h | h | h | h | h | h <;> subst h
  all_goals
    go_enter Try.func24, Try.ntmps24
    go_wp2
    go_ret
    exact ⟨rfl, rfl⟩

set_option maxRecDepth 100000 in
set_option maxHeartbeats 2000000 in
theorem refletter_any (s : Int) (w : World) (hk : Tm.known s = true) : Calls Try.prog 26 #[.int .i64 s] w fun e w' => e = .returned (.int .u8 ((Tm.letr s).toNat : Int)) ∧ w' = w := by
  rcases Tm.known_cases hk with h | h | h | h | h | h | h | h | h | h | h | h | h | h <;> subst h
  all_goals
    go_enter Try.func26, Try.ntmps26
    go_wp2
    go_ret
    exact ⟨rfl, rfl⟩

theorem conv_one (w : World) (b : UInt8) (t : TypeId) : Sem.run Try.prog (convert 57 9 (.slice (some ⟨w.heap.size, 0, none⟩) 1 1)) (w.alloc (.cells #[.int .u8 (b.toNat : Int)] t)) = .ok (.string ⟨#[b]⟩) (w.alloc (.cells #[.int .u8 (b.toNat : Int)] t)) := by
  have h := run_convert_bytes_back (P := Try.prog) (w.alloc (.cells #[.int .u8 (b.toNat : Int)] t)) 57 9 5 ⟨w.heap.size, 0, none⟩ 1 [b] Try.underlying57 Try.underlying5 Try.underlying9 (fun j hj => by
    obtain rfl : j = 0 := by simp at hj; omega
    exact World.cell?_alloc_mark w #[.int .u8 (b.toNat : Int)] t (0, 0) 0)
  exact h

/-- A text as a value. -/
abbrev sv (l : List UInt8) : Value := .string ⟨l.toArray⟩
theorem sv_cat (a b : List UInt8) : (⟨a.toArray⟩ : ByteArray) ++ ⟨b.toArray⟩ = ⟨(a ++ b).toArray⟩ := by
  apply ByteArray.ext
  rw [ByteArray.data_append]
  simp
theorem Tr.show_len (x : Tr) : x.show.length ≤ 4 * x.flat.length := by
  induction x with
  | leaf s => simp [Tr.show, Tr.flat]
  | one s a ih => simp only [Tr.show, Tr.flat, List.length_cons, List.length_append, List.length_nil]; omega
  | two s a b iha ihb => simp only [Tr.show, Tr.flat, List.length_cons, List.length_append, List.length_nil]; omega
theorem sv_size (x : Tr) (h : x.flat.length ≤ 1000) : x.show.length ≤ 4000 := by
  have := Tr.show_len x
  omega
theorem len_two {α : Type} {l : List α} (h : l.length = 2) : ∃ a b, l = [a, b] := by
  match l, h with
  | [a, b], _ => exact ⟨a, b, rfl⟩

set_option maxRecDepth 100000 in
set_option maxHeartbeats 2000000 in
theorem refshown_all {lo hi : Nat} {W : World} {X : Nat} {zs : List Int} (h : TreeIn lo hi W X zs) : zs.length ≤ 1000 → (∀ s ∈ zs, Tm.known s = true) → ∃ x : Tr, x.ok ∧ x.flat = zs ∧ ∀ W', (∀ k, lo ≤ k → k < hi → W'.heap[k]? = W.heap[k]?) → hi ≤ W'.heap.size →
    Calls Try.prog 16 #[ptr X] W' fun e w' => e = .returned (sv x.show) ∧ Below W'.heap.size W' w' := by
  induction h with
  | mk X s v Xs zss hX1 hX2 hN hP hr hl _ ih =>
    intro hlen hkn
    obtain ⟨a, c, rfl, hc⟩ := hP
    have hks := hkn s List.mem_cons_self
    have hL := hid (fun W => refletter_any s W hks)
    have hs6 := Tm.known_lt hks
    by_cases c0 : s < 2
    · rw [room_leaf c0] at hr
      obtain rfl := List.eq_nil_of_length_eq_zero hr
      obtain rfl := List.eq_nil_of_length_eq_zero (show zss.length = 0 by simpa using hl)
      refine ⟨.leaf s, c0, rfl, fun w hw hhi => ?_⟩
      have hN' : Node w X s (.slice a 0 c) := (hw X hX1 hX2).trans hN
      have hn0 := hN'.cell0
      have HN := hid hN'
      unfold Tr.show
      generalize Tm.letr s = b at *
      have hB1 : Below w.heap.size w (w.alloc (.cells #[.int .u8 (b.toNat : Int)] 5)) := (Below.refl _ _).alloc (Nat.le_refl _) _
      have hN1 : Node (w.alloc (.cells #[.int .u8 (b.toNat : Int)] 5)) X s (.slice a 0 c) := (hB1.block X hN'.lt).trans hN'
      have hn1 := hN1.cell1
      clear hN hN' ih hc hw hN1
      go_enter Try.func16, Try.ntmps16
      go_wp2_with (first
        | (go_at_call 26; refine (hL.out _).mono ?_; rintro e w ⟨rfl, rfl⟩)
        | (rw [conv_one]))
      refine wp_loop_rounds 1 ?_
      rw [rounds_succ]
      go_wp2
      go_ret
      exact ⟨rfl, hB1⟩
    · by_cases c1 : s = 2 ∨ s = 3
      · rw [room_one c1] at hr
        obtain ⟨X1, rfl⟩ := List.length_eq_one_iff.1 hr
        obtain ⟨z1, rfl⟩ := List.length_eq_one_iff.1 (show zss.length = 1 by simpa using hl)
        obtain ⟨x1, o1, f1, C1⟩ := ih 0 (by simp) (by simp at hlen ⊢; omega) (fun z hz => hkn z (by simp at hz; simp [hz]))
        simp only [List.getElem?_cons_zero, Option.getD_some] at f1 C1
        refine ⟨.one s x1, ⟨c1, o1⟩, by simp [Tr.flat, f1], fun w hw hhi => ?_⟩
        obtain ⟨b1, off, rfl, hb1, hb2, hcell⟩ := hc 0 (by simp)
        simp only [List.getElem?_cons_zero, Option.getD_some, Nat.add_zero] at hcell
        have hN' : Node w X s (.slice (some ⟨b1, off, none⟩) 1 c) := (hw X hX1 hX2).trans hN
        have hn0 := hN'.cell0
        have l1 := sv_size x1 (by rw [f1]; simp at hlen; omega)
        unfold Tr.show
        generalize Tm.letr s = b at *
        have hB1 : Below w.heap.size w (w.alloc (.cells #[.int .u8 (b.toNat : Int)] 5)) := (Below.refl _ _).alloc (Nat.le_refl _) _
        obtain ⟨W1, hW1⟩ : ∃ W1, w.alloc (.cells #[.int .u8 (b.toNat : Int)] 5) = W1 := ⟨_, rfl⟩
        rw [hW1] at hB1
        have HW1 := hid hW1
        have hN1 : Node W1 X s (.slice (some ⟨b1, off, none⟩) 1 c) := (hB1.block X hN'.lt).trans hN'
        have hn1 := hN1.cell1
        have hc1 : W1.cell? ⟨b1, off, none⟩ = some (ptr X1) := (World.cell?_of_block (a := ⟨b1, off, none⟩) ((hB1.block b1 (by omega)).trans (hw b1 hb1 hb2))).trans hcell
        have hC1 := hid (C1 W1 (fun k h1 h2 => (hB1.block k (by omega)).trans (hw k h1 h2)) (by have := hB1.size; omega))
        have HN1 := hid hN1
        clear hN hN' ih hc hw hN1 C1 hcell hW1
        go_enter Try.func16, Try.ntmps16
        go_wp2_with (first
          | (go_at_call 26; refine (hL.out _).mono ?_; rintro e w ⟨rfl, rfl⟩)
          | (rw [conv_one]))
        rw [HW1.out]
        refine wp_loop_rounds 2 ?_
        rw [rounds_succ]
        go_wp2_with (go_at_call 16; refine hC1.out.mono ?_; rintro e w2 ⟨rfl, b2⟩; have hn2 := (show Node w2 X s (.slice (some ⟨b1, off, none⟩) 1 c) from (b2.block X HN1.out.lt).trans HN1.out).cell1)
        rw [rounds_succ]
        go_wp2
        go_ret
        refine ⟨?_, hB1.trans (b2.mono hB1.size)⟩
        simp only [sv_cat]
        simp
      · have c2 : s = 4 ∨ s = 5 := by omega
        rw [room_two c2] at hr
        obtain ⟨X1, X2, rfl⟩ := len_two hr
        obtain ⟨z1, z2, rfl⟩ := len_two (show zss.length = 2 by simpa using hl)
        obtain ⟨x1, o1, f1, C1⟩ := ih 0 (by simp) (by simp at hlen ⊢; omega) (fun z hz => hkn z (by simp at hz; simp [hz]))
        obtain ⟨x2, o2, f2, C2⟩ := ih 1 (by simp) (by simp at hlen ⊢; omega) (fun z hz => hkn z (by simp at hz; simp [hz]))
        simp only [List.getElem?_cons_zero, List.getElem?_cons_succ, Option.getD_some] at f1 C1 f2 C2
        refine ⟨.two s x1 x2, ⟨c2, o1, o2⟩, by simp [Tr.flat, f1, f2], fun w hw hhi => ?_⟩
        obtain ⟨b1, off, rfl, hb1, hb2, hcell⟩ := hc 0 (by simp)
        obtain ⟨b1', off', e', _, _, hcell2⟩ := hc 1 (by simp)
        simp only [Option.some.injEq, Addr.mk.injEq] at e'
        obtain ⟨rfl, rfl, _⟩ := e'
        simp only [List.getElem?_cons_zero, List.getElem?_cons_succ, Option.getD_some, Nat.add_zero] at hcell hcell2
        have hN' : Node w X s (.slice (some ⟨b1, off, none⟩) 2 c) := (hw X hX1 hX2).trans hN
        have hn0 := hN'.cell0
        have l1 := sv_size x1 (by rw [f1]; simp at hlen; omega)
        have l2 := sv_size x2 (by rw [f2]; simp at hlen; omega)
        unfold Tr.show
        generalize Tm.letr s = b at *
        have hB1 : Below w.heap.size w (w.alloc (.cells #[.int .u8 (b.toNat : Int)] 5)) := (Below.refl _ _).alloc (Nat.le_refl _) _
        obtain ⟨W1, hW1⟩ : ∃ W1, w.alloc (.cells #[.int .u8 (b.toNat : Int)] 5) = W1 := ⟨_, rfl⟩
        rw [hW1] at hB1
        have HW1 := hid hW1
        have hN1 : Node W1 X s (.slice (some ⟨b1, off, none⟩) 2 c) := (hB1.block X hN'.lt).trans hN'
        have hn1 := hN1.cell1
        have hc1 : W1.cell? ⟨b1, off, none⟩ = some (ptr X1) := (World.cell?_of_block (a := ⟨b1, off, none⟩) ((hB1.block b1 (by omega)).trans (hw b1 hb1 hb2))).trans hcell
        have hc2 : W1.cell? ⟨b1, off + 1, none⟩ = some (ptr X2) := (World.cell?_of_block (a := ⟨b1, off + 1, none⟩) ((hB1.block b1 (by omega)).trans (hw b1 hb1 hb2))).trans hcell2
        have Hc2 := hid (fun W (hW : Below W1.heap.size W1 W) => (hW.cell (p := ⟨b1, off + 1, none⟩) (by simpa using lt_of_cell hc2)).trans hc2)
        have hC1 := hid (C1 W1 (fun k h1 h2 => (hB1.block k (by omega)).trans (hw k h1 h2)) (by have := hB1.size; omega))
        have hC2 := hid (fun W (hW : Below W1.heap.size W1 W) => C2 W (fun k h1 h2 => (hW.block k (by have := hB1.size; omega)).trans ((hB1.block k (by omega)).trans (hw k h1 h2))) (by have := hB1.size; have := hW.size; omega))
        have HN1 := hid hN1
        clear hN hN' ih hc hw hN1 C1 C2 hcell hcell2 hW1 hc2
        go_enter Try.func16, Try.ntmps16
        go_wp2_with (first
          | (go_at_call 26; refine (hL.out _).mono ?_; rintro e w ⟨rfl, rfl⟩)
          | (rw [conv_one]))
        rw [HW1.out]
        refine wp_loop_rounds 3 ?_
        rw [rounds_succ]
        go_wp2_with (go_at_call 16; refine hC1.out.mono ?_; rintro e w2 ⟨rfl, b2⟩; have hn2 := (show Node w2 X s (.slice (some ⟨b1, off, none⟩) 2 c) from (b2.block X HN1.out.lt).trans HN1.out).cell1; have hd2 := Hc2.out w2 b2)
        rw [rounds_succ]
        go_wp2_with (go_at_call 16; refine (hC2.out w2 b2).mono ?_; rintro e w3 ⟨rfl, b3⟩; have B3 := b2.trans (b3.mono b2.size); have hn3 := (show Node w3 X s (.slice (some ⟨b1, off, none⟩) 2 c) from (B3.block X HN1.out.lt).trans HN1.out).cell1)
        rw [rounds_succ]
        go_wp2
        go_ret
        refine ⟨?_, hB1.trans (B3.mono hB1.size)⟩
        simp only [sv_cat]
        simp

end Go.Proofs.Ytcgljcbpcchcjaa

namespace Go.Proofs.Ytcgljcbpcchcjaa
open Go.Proofs Go.RowKit Go.Shelf Go.Maps

set_option maxRecDepth 100000 in
set_option maxHeartbeats 2000000 in
theorem termText_any (x : Tr) (a : Option Addr) (cap : Nat) (w : World) (h1 : x.ok) (h2 : x.knows) (h3 : x.flat.length ≤ 30) (hcap : x.flat.length ≤ cap) (hcap2 : cap ≤ maxLen) (hI : Ints w.heap.size w a x.flat) :
    Calls Try.prog 7 #[.slice a x.flat.length cap] w fun e w' => e = .returned (sv x.show) ∧ Below w.heap.size w w' := by
  have hT := hid (treeOf_any x.flat a cap w (Tr.err_of h1 h2 h3) hcap hcap2 hI)
  clear hI
  go_enter Try.func7, Try.ntmps7
  go_wp2_with fail
  refine hT.out.mono ?_
  rintro e w1 ⟨rfl, b1, ht⟩
  obtain ⟨y, y1, y2, hC⟩ := refshown_all ht (by omega) h2
  obtain rfl : y = x := Tr.flat_inj y1 h1 y2
  have HC := hid (hC w1 (fun _ _ _ => rfl) (Nat.le_refl _))
  clear hT hC ht
  go_wp2_with fail
  refine HC.out.mono ?_
  rintro e w2 ⟨rfl, b2⟩
  go_wp2
  go_ret
  exact ⟨rfl, b1.trans (b2.mono b1.size)⟩

def Tm.sgnN (o : Option Int) : Int := o.getD 0
set_option maxRecDepth 100000 in
set_option maxHeartbeats 2000000 in
theorem refSignOf_any (c : UInt8) (w : World) : Calls Try.prog 20 #[.int .u8 (c.toNat : Int)] w fun e w' => e = .returned (.tuple #[.int .i64 (Tm.sgnN (Tm.sgn c)), .bool (Tm.sgn c).isSome]) ∧ w' = w := by
  obtain ⟨q, hq⟩ : ∃ q, Tm.sgn c = q := ⟨_, rfl⟩
  rw [hq]
  have Hq : Hid (Tm.sgnF 14 c = q) := hq
  clear hq
  go_enter Try.func20, Try.ntmps20
  go_wp2
  go_loopw [4] (fun v wr => ∃ k : Nat, k ≤ 14 ∧ v = .int .i64 (6 - (k : Int)) ∧ Hid (Tm.sgnF k c = q) ∧ wr = w) (fun v _ => (6 - intOf v).toNat)
  case atStart => exact ⟨14, by omega, rfl, Hq, rfl⟩
  case round =>
    obtain ⟨k, hk, rfl, hst, rfl⟩ := hrel
    cases k with
    | zero =>
      have hs := hst.out
      rw [Tm.sgnF] at hs
      subst hs
      go_wp2
      go_ret2
      exact ⟨rfl, rfl⟩
    | succ k =>
      have hk' : (k : Int) ≤ 13 := by omega
      have e1 : (6 - ((k + 1 : Nat) : Int)) = 5 - (k : Int) := by omega
      have hst' := hst.out
      rw [Tm.sgnF] at hst'
      rw [e1]
      have hn : Tm.known (5 - (k : Int)) = true := by unfold Tm.known; simp only [Bool.and_eq_true, decide_eq_true_eq]; omega
      have hC := hid (fun W => refletter_any (5 - (k : Int)) W hn)
      have hlt : (5 - (k : Int)) < 6 := by omega
      have hge : -8 ≤ (5 - (k : Int)) := by omega
      by_cases he : Tm.letr (5 - (k : Int)) = c
      · rw [if_pos he] at hst'
        rw [he] at hC
        have hcc : ((c.toNat : Int) == (c.toNat : Int)) = true := by simp
        obtain ⟨s, hs⟩ : ∃ s, s = 5 - (k : Int) := ⟨_, rfl⟩
        rw [← hs] at hC hlt hge hst' ⊢
        have Hst := hid hst'
        clear hn hst he Hq e1 hst' hs
        go_wp2_with (go_at_call 26; refine (hC.out _).mono ?_; rintro e wr ⟨rfl, rfl⟩)
        go_ret2
        rw [← Hst.out]
        exact ⟨rfl, rfl⟩
      · rw [if_neg he] at hst'
        have hcc : (((Tm.letr (5 - (k : Int))).toNat : Int) == (c.toNat : Int)) = false := by
          rw [beq_eq_false_iff_ne]
          intro h
          exact he (UInt8.toNat_inj.1 (by omega))
        have Hst := hid hst'
        clear hn hst he Hq hst' e1
        generalize Tm.letr (5 - (k : Int)) = b at *
        obtain ⟨s, hs⟩ : ∃ s, s = 5 - (k : Int) := ⟨_, rfl⟩
        rw [← hs] at hC hlt hge ⊢
        have Hs := hid hs
        clear hs
        go_wp2_with (go_at_call 26; refine (hC.out _).mono ?_; rintro e wr ⟨rfl, rfl⟩)
        go_roundw
        case rel => exact ⟨k, by omega, by rw [Hs.out]; go_num, Hst, by first | rfl | trivial⟩
        case measure => have := Hs.out; simp [intOf]; omega

/-- What the reference reads of a text. -/
def Tm.fromIs (l : List UInt8) : Bool := decide ((Tm.read l).2 = 0)
theorem take_byte (l : List UInt8) (k : Nat) (h : k < l.length) : l.take (k + 1) = l.take k ++ [l[k]] := List.take_succ_eq_append_getElem h
theorem Tm.signsOf_snoc (l : List UInt8) (k : Nat) (h : k < l.length) : Tm.signsOf (l.take (k + 1)) = Tm.signsOf (l.take k) ++ (Tm.sgn l[k]).toList := by
  rw [take_byte l k h, Tm.signsOf_app, Tm.signsOf]
  cases Tm.sgn l[k] <;> rfl
theorem Tm.signsOf_le (l : List UInt8) : (Tm.signsOf l).length ≤ l.length := by
  induction l with
  | nil => exact Nat.le_refl _
  | cons c l ih =>
    rw [Tm.signsOf]
    cases Tm.sgn c with
    | none => simp only [List.length_cons]; omega
    | some s => simp only [List.length_cons]; omega

set_option maxRecDepth 100000 in
set_option maxHeartbeats 2000000 in
theorem termFrom_any (l : List UInt8) (w : World) (hl : l.length ≤ 4096) : Calls Try.prog 10 #[sv l] w fun e w' => ∃ v, e = .returned (.tuple #[v, .bool (Tm.fromIs l)]) ∧ New w.heap.size w' v (Tm.read l).1 ∧ Below w.heap.size w w' := by
  have hl' : (l.length : Int) ≤ 4096 := by omega
  go_enter Try.func10, Try.ntmps10
  go_wp2
  go_loopw [4, 5] (fun tv v wr => ∃ k : Nat, k ≤ l.length ∧ v = .int .i64 (k : Int) ∧ Hid (New w.heap.size wr tv (Tm.signsOf (l.take k))) ∧ Below w.heap.size w wr) (fun _ v _ => l.length - (intOf v).toNat)
  case atStart => exact ⟨0, Nat.zero_le _, rfl, hid (New.nil _ _), Below.refl _ _⟩
  case round =>
    obtain ⟨k, hk, rfl, hN, hB⟩ := hrel
    obtain ⟨a, c, rfl, hI, hc1, hc2⟩ := New.ints hN.out
    by_cases hlt : k < l.length
    · have hlt' : (k : Int) < (l.length : Int) := by omega
      have hsn := hid (Tm.signsOf_snoc l k hlt)
      have hle := Tm.signsOf_le (l.take k)
      have hle2 : (l.take k).length ≤ k := by rw [List.length_take]; omega
      have hC := hid (refSignOf_any l[k] wr)
      cases hq : Tm.sgn l[k] with
      | none =>
        rw [hq] at hC hsn
        clear hq hI
        generalize Tm.signsOf (l.take k) = zs at *
        go_wp2_with (go_at_call 20; refine hC.out.mono ?_; rintro e wr ⟨rfl, rfl⟩)
        go_roundw
        case rel => exact ⟨k + 1, by omega, by go_num, by rw [hsn.out]; simpa [Hid] using hN, hB⟩
        case measure => simp [intOf]; omega
      | some s =>
        rw [hq] at hC hsn
        clear hq hI
        generalize Tm.signsOf (l.take k) = zs at *
        have HN := hN
        have hbs := hB.size
        have i1 : Ints (wr.alloc (.cells #[.int .i64 s] 3)).heap.size (wr.alloc (.cells #[.int .i64 s] 3)) (some ⟨wr.heap.size, 0, none⟩) [s] := fun j hj => by
          obtain rfl : j = 0 := by simp at hj; omega
          exact ⟨wr.heap.size, 0, rfl, by simp, cell_new _ _ _ _ rfl⟩
        have I1 := hid i1
        have N1 := hid (New.alloc HN.out (.cells #[.int .i64 s] 3))
        have B1 : Below w.heap.size w (wr.alloc (.cells #[.int .i64 s] 3)) := hB.alloc hbs _
        clear i1
        go_wp2_with (first
          | (go_at_call 20; refine hC.out.mono ?_; rintro e wr ⟨rfl, rfl⟩)
          | (at_builtin; go_loud (refine wp_append_ints _ rfl _ _ rfl w.heap.size _ zs rfl N1.out (some ⟨wr.heap.size, 0, none⟩) [s] 1 rfl (fun h => by cases h) I1.out (by simp; omega) B1.size ?_); intro v' w2 hN2 hB2; obtain ⟨a2, c2, rfl, _⟩ := New.ints hN2))
        go_roundw
        case rel => exact ⟨k + 1, by omega, by go_num, by rw [hsn.out]; simpa [Hid] using hN2, B1.trans hB2⟩
        case measure => simp [intOf]; omega
    · obtain rfl : k = l.length := by omega
      rw [List.take_length] at hN hI hc1
      rw [List.take_length]
      have hE := hid (fun W (hW : Below wr.heap.size wr W) => termError_any (Tm.signsOf l) a c W ((hI.below hW).mono hW.size))
      by_cases he : Tm.err (Tm.signsOf l) = 0
      · obtain ⟨x, x1, x2, x3, x4⟩ := Tr.of_right he
        rw [he] at hE
        have hC := hid (termText_any x a c wr x1 x2 x4 (by rw [x3]; exact hc1) hc2 (by rw [x3]; exact hI))
        have hcase := Tm.read_ref x1 x2 x3 x4
        rw [x3] at hC
        rw [x3] at hcase
        clear hI he x1 x2 x4 hc2
        generalize Tm.signsOf l = zs at *
        rcases hcase with ⟨h1, h2⟩ | ⟨h1, h2⟩
        · have hr1 : Hid ((Tm.read l).1 = zs ∧ Tm.fromIs l = true) := by unfold Tm.fromIs; rw [h2]; exact ⟨rfl, rfl⟩
          rw [h1] at hC
          clear h1 h2 x3
          go_wp2_with (first
            | (go_at_call 6; refine (hE.out wr (Below.refl _ _)).mono ?_; rintro e wr ⟨rfl, rfl⟩)
            | (go_at_call 7; refine hC.out.mono ?_; rintro e w2 ⟨rfl, b2⟩))
          go_ret2
          rw [hr1.out.1, hr1.out.2]
          exact ⟨_, rfl, hN.out.below b2, hB.trans (b2.mono hB.size)⟩
        · have hr1 : Hid ((Tm.read l).1 = [] ∧ Tm.fromIs l = false) := by unfold Tm.fromIs; rw [h2]; exact ⟨rfl, rfl⟩
          have hne : (x.show == l) = false := by rw [beq_eq_false_iff_ne]; exact h1
          clear h1 h2 x3
          generalize x.show = sh at *
          go_wp2_with (first
            | (go_at_call 6; refine (hE.out wr (Below.refl _ _)).mono ?_; rintro e wr ⟨rfl, rfl⟩)
            | (go_at_call 7; refine hC.out.mono ?_; rintro e w2 ⟨rfl, b2⟩))
          go_ret2
          rw [hr1.out.1, hr1.out.2]
          exact ⟨_, rfl, New.nil _ _, hB.trans (b2.mono hB.size)⟩
      · have h2 := Tm.read_bad he
        have hr1 : Hid ((Tm.read l).1 = [] ∧ Tm.fromIs l = false) := by unfold Tm.fromIs; rw [h2]; exact ⟨rfl, rfl⟩
        have hne : (Tm.err (Tm.signsOf l) != 0) = true := by simpa using he
        clear he h2 hI
        generalize Tm.err (Tm.signsOf l) = q at *
        go_wp2_with (first
          | (go_at_call 6; refine (hE.out wr (Below.refl _ _)).mono ?_; rintro e wr ⟨rfl, rfl⟩))
        go_ret2
        rw [hr1.out.1, hr1.out.2]
        exact ⟨_, rfl, New.nil _ _, hB⟩

end Go.Proofs.Ytcgljcbpcchcjaa

namespace Go.Proofs.Ytcgljcbpcchcjaa
open Go.Proofs Go.RowKit Go.Shelf

/-- How a round may be left; a panic goes up as it is. -/
def roundPostP (P : Program) (l : Nat) (R : Ending → World → Prop) : Exit → Act → World → Prop
  | .panic chain, a, w => a.defers = [] ∧ R (.panicked chain) w
  | e, a, w => roundPost P l R e a w

/-- One round out of its body's walk, a panic too. -/
theorem roundIn_panics {F : Fence} {n : Nat} {P : Program} {l : Nat} {f : FuncId} {tmps : Array Value} {assign body : Code} {w : World} {R : Ending → World → Prop} (hF : F.fn f) (hf : (∀ ch W, ¬ R (.panicked ch) W) ∨ ∃ fn, P.funcs[f]? = some fn)
    (h : assign.wpIn (F.inRound l) n P (Exit.then (fun a₁ w₁ => ∃ w₂, (Instr.beginRound l).run P w₁ = .ok () w₂ ∧ body.wpIn (F.inRound l) n P (roundPostP P l R) a₁ w₂) (fun _ _ _ => False)) { tmps := tmps, defers := [] } w) :
    RoundIn F n P l f tmps assign body w R := by
  refine ⟨hF, fun c cs hr => ?_⟩
  obtain ⟨b, hb⟩ : ∃ b : Frame, b = { (default : Frame) with fn := f, kind := .normal, roundOf := some l } := ⟨_, rfl⟩
  have hb0 : Frame.round l f tmps assign body .normal = b.atR { tmps := tmps, defers := [] } [.code assign, .beginRound, .code body] := by rw [hb]; simp [Frame.round, Frame.atR]
  have hbr : b.roundOf = some l := by rw [hb]
  have hbk : b.kind = .normal := by rw [hb]
  have hbf : b.fn = f := by rw [hb]
  have hr' : (F.inRound l).room ((c :: cs).length + 1 + n) := hr
  have hF' : (F.inRound l).fn b.fn := by rw [hbf]; exact hF
  obtain ⟨e, a₁, w₁, hq, harr⟩ := h b [.beginRound, .code body] (c :: cs) (by rw [hbr]; rfl) hF' hr'
  rw [← hb0] at harr
  cases e with
  | normal =>
    obtain ⟨w₂, hbeg, hbody⟩ := hq
    have s1 : StepsIn (Machine.fenced P (F.inRound l)) P (lone (b.atR a₁ [.beginRound, .code body]) (c :: cs) w₁) (lone (b.atR a₁ [.code body]) (c :: cs) w₂) :=
      .one (fenced_calm (fr := b.atR a₁ [.beginRound, .code body]) hF' hr' rfl) (stepR_beginRound hbr hbeg)
    obtain ⟨e₂, a₂, w₃, hq₂, harr₂⟩ := hbody b [] (c :: cs) (by rw [hbr]; rfl) hF' hr'
    have s2 := StepsIn.trans harr s1
    cases e₂ with
    | normal =>
      obtain ⟨v, w₄, hend, hR⟩ := hq₂
      exact ⟨.returned v, w₄, hR, s2.trans (StepsIn.trans harr₂ (.one (fenced_calm (fr := b.atR a₂ []) hF' hr' rfl) (stepR_round_end hbr hbk hend)))⟩
    | ret =>
      obtain ⟨v, w₄, hend, hR⟩ := hq₂
      obtain ⟨k₁, hs⟩ := harr₂.2 (by rw [hbr]; rfl)
      exact ⟨.returned v, w₄, hR, s2.trans (StepsIn.trans hs (.one (fenced_calm (fr := b.atR a₂ (.code .ret :: k₁)) hF' hr' rfl) (stepR_round_ret hbr hbk hend)))⟩
    | exit id =>
      obtain ⟨v, w₄, hend, hR⟩ := hq₂
      obtain ⟨k₁, hk, hs⟩ := harr₂.2 (by rw [hbr]; rfl) rfl
      exact ⟨.returned v, w₄, hR, s2.trans (StepsIn.trans hs (.one (fenced_calm (fr := b.atR a₂ (.code (.exit id) :: k₁)) hF' hr' rfl) (stepR_round_exit hbr hbk hk hend)))⟩
    | goto t =>
      obtain ⟨v, w₄, hend, hR⟩ := hq₂
      obtain ⟨k₁, hk, hs⟩ := harr₂.2 (by rw [hbr]; rfl) rfl
      exact ⟨.returned v, w₄, hR, s2.trans (StepsIn.trans hs (.one (fenced_calm (fr := b.atR a₂ (.code (.goto t) :: k₁)) hF' hr' rfl) (stepR_round_goto hbr hbk hk hend)))⟩
    | panic chain =>
      obtain ⟨hd, hR⟩ := hq₂
      obtain ⟨todo, hs⟩ := harr₂
      have hf' := hf.resolve_left (fun h => h _ _ hR)
      have hl : ({ b.atR a₂ todo with mode := .panicking chain } : Frame).leaving P w₃ (.panicked chain) := ⟨rfl, hd, by rw [← hbf] at hf'; exact hf'⟩
      exact ⟨.panicked chain, w₃, hR, s2.trans (StepsIn.trans hs (.one (fenced_leaving (F := F.inRound l) hF' hr' hl) (step_leave_panicked hl)))⟩
    | outgrown => exact hq₂.elim
  | exit id => exact hq.elim
  | goto t => exact hq.elim
  | ret => exact hq.elim
  | panic chain => exact hq.elim
  | outgrown => exact hq.elim

end Go.Proofs.Ytcgljcbpcchcjaa

namespace Go.Proofs.Ytcgljcbpcchcjaa
open Go.Proofs Go.RowKit Go.Shelf

/-- THE ITERATOR GIVES encs 0, encs 1, .. up to r, as long as what it reads ('rd') stands. -/
def SeqSteps (F : Fence) (n : Nat) (P : Program) (g : Nat) (lb : Array Value) (encs : Nat → Array Value) (r : Nat) (rd : World → Prop) : Prop :=
  ∀ (l : Nat) (J : Nat → World → Prop) (Jx : World → Prop) (Jp : List PanicEntry → World → Prop) (W : World), AbidesFrom W.heap.size J → (∀ i W, J i W → rd W) →
    (∀ i W1, J i W1 → i < r → YieldAt F (n - 1) P l (encs i) W1 fun e W' => (e = .returned (.bool true) ∧ J (i + 1) W') ∨ (e = .returned (.bool false) ∧ Jx W') ∨ ∃ ch, e = .panicked ch ∧ Jp ch W') →
    J 0 W → CallsIn F n P g (#[.func (.yield l) #[] #[]] ++ lb) W fun e W' => ((∃ v, e = .returned v) ∧ (J r W' ∨ Jx W')) ∨ ∃ ch, e = .panicked ch ∧ Jp ch W'

/-- How the body of a round may be left. -/
def stepPost (B : Nat) (I : Nat → World → Prop) (Ix : Code → World → Prop) (Ip : List PanicEntry → World → Prop) (i : Nat) (W : World) : Exit → Act → World → Prop
  | .normal, _, W' => KeepsFrom B W W' ∧ I i W'
  | .ret, _, W' => KeepsFrom B W W' ∧ Ix .ret W'
  | .exit id, _, W' => KeepsFrom B W W' ∧ Ix (.exit id) W'
  | .goto t, _, W' => KeepsFrom B W W' ∧ Ix (.goto t) W'
  | .panic ch, a, W' => a.defers = [] ∧ KeepsFrom B W W' ∧ Ip ch W'
  | .outgrown, _, _ => False

theorem wpIn_rangeSteps {F : Fence} {n : Nat} {P : Program} {g : Operand} {ps : Array Tmp} {assign body : Code} {Q : Exit → Act → World → Prop} {a : Act} {w : World}
    (hro : F.round = none) (h1 : 1 ≤ n) {gf : Nat} {lb : Array Value} (hg : a.eval g = .func (.func gf) #[] lb) (hFg : F.fn gf) (eg : ∀ args w, (callFunc gf args).run P w = .ok (.enter gf args) w)     {encs : Nat → Array Value} {r : Nat} {rd : World → Prop} (hseq : SeqSteps F (n - 1) P gf lb encs r rd) (hps : ∀ i, (encs i).size = ps.size)
    (I : Nat → World → Prop) (Ix : Code → World → Prop) (Ip : List PanicEntry → World → Prop) (hfs : (∀ ch W, ¬ Ip ch W) ∨ ∀ fn, F.fn fn → ∃ f, P.funcs[fn]? = some f) (hI : OwnFrom w.heap.size I) (hIx : OwnFrom w.heap.size Ix) (hrd : ∀ i W, I i W → rd W) (h0 : I 0 w) (a₁ : Nat → Act)
    (hassign : ∀ (l i : Nat) (W : World) (K : Act → World → Prop), K (a₁ i) W →
      assign.wpIn (F.inRound l) (n - 1 - 1) P (Exit.then K (fun _ _ _ => False)) { tmps := (ps.zip (encs i)).foldl (fun t (p, v) => t.setIfInBounds p v) a.tmps, defers := [] } W)
    (hbody : ∀ (l i : Nat) (W : World), I i W → i < r → body.wpIn (F.inRound l) (n - 1 - 1) P (stepPost w.heap.size I Ix Ip (i + 1) W) (a₁ i) W)
    (hdone : ∀ (D : Nat) (W : World), w.heap.size ≤ D → I r W → W.heap[D]? = some (.deferred (some [])) → Q .normal { a with defers := { target := .collected D, args := #[] } :: a.defers } W)
    (hstop : ∀ (D : Nat) (c : Code) (W : World), w.heap.size ≤ D → Ix c W → W.heap[D]? = some (.deferred (some [])) → c.wpIn F n P Q { a with defers := { target := .collected D, args := #[] } :: a.defers } W)
    (hpanic : ∀ (D : Nat) (ch : List PanicEntry) (W : World), w.heap.size ≤ D → Ip ch W → W.heap[D]? = some (.deferred (some [])) → Q (.panic ch) { a with defers := { target := .collected D, args := #[] } :: a.defers } W) :
    (Code.rangeFunc g ps assign body).wpIn F n P Q a w := by
  refine wpIn_rangeFunc fun fn hfn => ?_
  rw [hro]
  obtain ⟨rec, hrec⟩ : ∃ rec : LoopState → Option Code → Loop, rec = fun st pe => { state := st, pending := pe, fn, tmps := a.tmps, params := ps, assign, body, defers := w.heap.size } := ⟨_, rfl⟩
  obtain ⟨W1, hW1⟩ : ∃ W1, (w.alloc (.deferred (some []))).alloc (.loop (rec .ready none)) = W1 := ⟨_, rfl⟩
  have hL1 : W1.heap[w.heap.size + 1]? = some (.loop (rec .ready none)) := by
    have := World.alloc_heap_new (w.alloc (.deferred (some []))) (.loop (rec .ready none))
    rw [World.size_alloc, hW1] at this
    exact this
  have hD1 : W1.heap[w.heap.size]? = some (.deferred (some [])) := by rw [← hW1]; exact (Below.heap_alloc _ _ _ (by simp)).trans (World.alloc_heap_new w _)
  have hS1 : w.heap.size ≤ W1.heap.size := by rw [← hW1]; simp; omega
  have hI1 : I 0 W1 := by rw [← hW1]; exact hI.alloc _ (hI.alloc _ h0)
  refine ⟨w.heap.size + 1, [{ target := .collected w.heap.size, args := #[] }], W1, { target := .fn (.func gf) lb, args := #[.func (.yield (w.heap.size + 1)) #[] #[]] }, W1, gf, #[.func (.yield (w.heap.size + 1)) #[] #[]] ++ lb, W1,
    by rw [← hW1, hrec]; exact run_enterLoop_outer _ _ _ _ _, by simp only [resolve, hg]; simp [go_sem], fun f' hf' => by simp [Target.leads] at hf'; subst hf'; exact hFg, by simp [invoke, go_sem, eg], fun _ => h1, ?_⟩
  have hcells : ∀ {A : World} {row : Option Nat}, (∀ r, row = some r → W1.heap.size ≤ r ∧ ∃ o : Obj, A.heap[r]? = some o ∧ o.isWalk = true) → ∀ r, row = some r → w.heap.size ≤ r ∧ ∃ o : Obj, A.heap[r]? = some o ∧ o.isCells = false := fun hr q e => by
    obtain ⟨hB, o, ho, hw⟩ := hr q e
    exact ⟨by omega, o, ho, Obj.not_cells_of_walk hw⟩
  refine (hseq (w.heap.size + 1) (fun i W => I i W ∧ W.heap[w.heap.size + 1]? = some (.loop (rec .ready none)) ∧ W.heap[w.heap.size]? = some (.deferred (some [])))
    (fun W => ∃ c, Ix c W ∧ W.heap[w.heap.size + 1]? = some (.loop (rec .done (some c))) ∧ W.heap[w.heap.size]? = some (.deferred (some [])))
    (fun ch W => Ip ch W ∧ W.heap[w.heap.size]? = some (.deferred (some []))) W1
    (fun i A B row hs hgr hr => ⟨hI i A B row hs.1 hgr (hcells hr), (grownBy_keeps hgr (fun q e => (hr q e).2) hs.2.1 rfl).trans hs.2.1, (grownBy_keeps hgr (fun q e => (hr q e).2) hs.2.2 rfl).trans hs.2.2⟩)
    (fun i W h => hrd i W h.1) ?_ ⟨hI1, hL1, hD1⟩).mono ?_
  · rintro i W ⟨hi, hl, hk⟩ hlen
    have hlt : w.heap.size + 1 < W.heap.size := (Array.getElem?_eq_some_iff.1 hl).1
    have hy := run_yield (P := P) (args := encs i) hl (by rw [hrec]; exact hps i)
    rw [hrec] at hy
    refine ⟨fn, _, assign, body, hy, roundIn_panics hfn (hfs.elim (fun h => .inl fun ch W hr => by rcases hr with ⟨e, _⟩ | ⟨e, _⟩ | ⟨c, _, hp, _⟩ <;> first | cases e | exact h _ _ hp) (fun h => .inr (h fn hfn))) (hassign _ i W _ ⟨_, run_beginRound hl (by rw [hrec]), ?_⟩)⟩
    obtain ⟨W2, hW2⟩ : ∃ W2, W.putObj (w.heap.size + 1) (.loop { rec .ready none with state := .busy }) = W2 := ⟨_, rfl⟩
    have hl2 : W2.heap[w.heap.size + 1]? = some (.loop { rec .ready none with state := .busy }) := by rw [← hW2]; exact World.putObj_heap_same hlt
    have hk2 : W2.heap[w.heap.size]? = some (.deferred (some [])) := by rw [← hW2]; exact (World.putObj_heap_other (by omega)).trans hk
    have hi2 : I i W2 := by rw [← hW2]; exact hI.putObj _ hi (by omega) hl rfl
    have hgo : (W.putObj (w.heap.size + 1) (.loop { rec .ready none with state := .busy })) = W2 := hW2
    rw [hgo]
    refine wpIn_mono (hbody _ i W2 hi2 hlen) ?_
    have fin : ∀ (jump : Option Code) (W3 : World), KeepsFrom w.heap.size W2 W3 →
        (Instr.endRound (w.heap.size + 1) jump).run P W3 = .ok (.bool jump.isNone) (W3.putObj (w.heap.size + 1) (.loop (rec (if jump.isNone then .ready else .done) jump))) ∧
        W3.heap[w.heap.size + 1]? = some (.loop { rec .ready none with state := .busy }) ∧
        (W3.putObj (w.heap.size + 1) (.loop (rec (if jump.isNone then .ready else .done) jump))).heap[w.heap.size + 1]? = some (.loop (rec (if jump.isNone then .ready else .done) jump)) ∧
        (W3.putObj (w.heap.size + 1) (.loop (rec (if jump.isNone then .ready else .done) jump))).heap[w.heap.size]? = some (.deferred (some [])) := fun jump W3 hk3 => by
      have hl3 := hk3.same _ _ (by omega) hl2 rfl
      have hend := run_endRound (P := P) jump hl3
      have hk4 := (World.putObj_heap_other (w := W3) (o := .loop (rec (if jump.isNone then .ready else .done) jump)) (show w.heap.size ≠ w.heap.size + 1 by omega)).trans (hk3.same _ _ (Nat.le_refl _) hk2 rfl)
      refine ⟨?_, hl3, World.putObj_heap_same (Array.getElem?_eq_some_iff.1 hl3).1, hk4⟩
      rw [hrec] at hend ⊢
      exact hend
    intro e a3 W3 hp
    cases e with
    | normal =>
      obtain ⟨hr, hl3, hl4, hk4⟩ := fin none W3 hp.1
      exact ⟨_, _, hr, .inl ⟨rfl, hI.putObj _ hp.2 (by omega) hl3 rfl, hl4, hk4⟩⟩
    | ret =>
      obtain ⟨hr, hl3, hl4, hk4⟩ := fin (some .ret) W3 hp.1
      exact ⟨_, _, hr, .inr (.inl ⟨rfl, _, hIx.putObj _ hp.2 (by omega) hl3 rfl, hl4, hk4⟩)⟩
    | exit id =>
      obtain ⟨hr, hl3, hl4, hk4⟩ := fin (some (.exit id)) W3 hp.1
      exact ⟨_, _, hr, .inr (.inl ⟨rfl, _, hIx.putObj _ hp.2 (by omega) hl3 rfl, hl4, hk4⟩)⟩
    | goto t =>
      obtain ⟨hr, hl3, hl4, hk4⟩ := fin (some (.goto t)) W3 hp.1
      exact ⟨_, _, hr, .inr (.inl ⟨rfl, _, hIx.putObj _ hp.2 (by omega) hl3 rfl, hl4, hk4⟩)⟩
    | panic ch => exact ⟨hp.1, .inr (.inr ⟨ch, rfl, hp.2.2, hp.2.1.same _ _ (Nat.le_refl _) hk2 rfl⟩)⟩
    | outgrown => exact hp.elim
  · rintro e W2 (⟨⟨v, rfl⟩, (⟨hi, hl, hk⟩ | ⟨c, hi, hl, hk⟩)⟩ | ⟨ch, rfl, hi, hk⟩)
    · refine ⟨none, _, by have := run_endLoop (P := P) hl (by rw [hrec]; simp); rw [hrec] at this; exact this, hdone _ _ (Nat.le_refl _) (hI.putObj _ hi (by omega) hl rfl) ((World.putObj_heap_other (by omega)).trans hk)⟩
    · refine ⟨some c, _, by have := run_endLoop (P := P) hl (by rw [hrec]; simp); rw [hrec] at this; exact this, hstop _ c _ (Nat.le_refl _) (hIx.putObj _ hi (by omega) hl rfl) ((World.putObj_heap_other (by omega)).trans hk)⟩
    · exact hpanic _ ch _ (Nat.le_refl _) hi hk

end Go.Proofs.Ytcgljcbpcchcjaa
