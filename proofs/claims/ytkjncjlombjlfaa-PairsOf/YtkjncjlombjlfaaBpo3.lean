/-
  haspref.OverOf. · hasplaw.matchBegun. · PLAIN MATHEMATICS of what variables become: first by one list, then by another, is by After of both. · PLAIN MATHEMATICS of fitting: by what fits the one becomes the other; what was made of it fits. · PLAIN MATHEMATICS of the order: a term is its symbol and its parts; who is above stays above, whatever variables become, and wherever both stand; without variables one of two that differ is above. · A RANGE OVER signs.Parts, WHOSE BODY MAY PANIC: the rounds are numbered; what the body panics with goes up. · THE STATEMENT 'for .. := range it', whose rounds are numbered, whose body may leave, or panic. · signs.Room, signs.Parts, signs.End within a fence that holds all functions that there are; lists of up to 5000 signs. · signs.End, of lists of up to 5000 signs, within the fence. · signs.End, of lists of up to 5000 signs, at every place. · PLAIN MATHEMATICS of the order at places of two terms; a map whose keys are two numbers. · (*sides).same; what stands while it is asked which is above. · (*sides).same. · (*sides).above, one step. · (*sides).byPart. · (*sides).byFirstThatDiffers.
-/
import Derived.Test.YtkjncjlombjlfaaBpo2
import Derived.Test.YtkjncjlombjlfaaBpo1
import Derived.DeepKeys4
import Derived.Deep.RegionHeld3
import Derived.Deep.QuietTactic
import Derived.BigQuiet
import Derived.Deep.DrawnRows
import Derived.Shelf.RegionOpen
namespace Go.Proofs.Ytkjncjlombjlfaa
open Go.Proofs Go.RowKit Go.Shelf Go.Maps

end Go.Proofs.Ytkjncjlombjlfaa

namespace Go.Proofs.Ytkjncjlombjlfaa
open Go.Proofs Go.RowKit Go.Shelf Go.Maps

theorem Tm.m1 : Tm.fitErr [4, -1, 2, -2] [4, 3, 0, 2, -1] = 0 := by decide +kernel
theorem Tm.m2 : Tm.fitIs [4, -1, 2, -2] [4, 3, 0, 2, -1] = true := by decide +kernel
end Go.Proofs.Ytkjncjlombjlfaa

namespace Go.Proofs.Ytkjncjlombjlfaa
open Go.Proofs Go.RowKit Go.Shelf

theorem Tm.applied_cons (ss : List (List Int)) (s : Int) (l : List Int) : Tm.applied ss (s :: l) = Tm.piece ss s ++ Tm.applied ss l := by simp [Tm.applied]
theorem Tm.piece_pos {ss : List (List Int)} {s : Int} (h : 0 ≤ s) : Tm.piece ss s = [s] := by unfold Tm.piece; rw [if_neg (by omega)]

/-- Each list is a term. -/
def Terms (ss : List (List Int)) : Prop := ∀ j, j < 8 → Tm.err (ss[j]?.getD []) = 0
theorem Terms.of {ss : List (List Int)} (h : Tm.subErr ss = 0) : Terms ss := fun j hj => Tm.firstErr_all (Tm.subErr_ok h).2 j (by rw [(Tm.subErr_ok h).1]; exact hj)
theorem Tm.piece_term {ss : List (List Int)} (h : Terms ss) {s : Int} (h8 : -8 ≤ s) (hs : s < 0) : Tm.err (Tm.piece ss s) = 0 := by
  unfold Tm.piece
  rw [if_pos hs]
  exact h _ (by omega)

theorem Tm.run_applied {ss : List (List Int)} (h : Terms ss) : ∀ (t : List Int) (n : Nat), t.all Tm.known = true → Tm.run t n = t.length → Tm.run (Tm.applied ss t) n = (Tm.applied ss t).length := by
  intro t
  induction t with
  | nil => intro n _ hr; rw [Tm.run_nil] at hr; subst hr; rw [List.length_nil, Tm.run_zero]; rfl
  | cons s l ih =>
    intro n hk hr
    rw [List.all_cons, Bool.and_eq_true] at hk
    cases n with
    | zero => rw [Tm.run_zero, List.length_cons] at hr; omega
    | succ n =>
      rw [Tm.run_cons, List.length_cons] at hr
      rw [Tm.applied_cons]
      by_cases hs : s < 0
      · rw [Tm.room_neg hs] at hr
        have hp := Tm.err_run (Tm.piece_term h (Tm.known_ge hk.1) hs)
        have hi := ih n hk.2 (by rw [Nat.add_zero] at hr; omega)
        rw [show n + 1 = 1 + n from by omega, Tm.run_add, Tm.run_app _ _ 1 (by omega), hp, List.drop_left, hi, List.length_append]
      · rw [Tm.piece_pos (by omega), List.singleton_append, Tm.run_cons, List.length_cons, ih _ hk.2 (by omega)]
        omega
theorem Tm.all_applied {ss : List (List Int)} (h : Terms ss) : ∀ (t : List Int), t.all Tm.known = true → (Tm.applied ss t).all Tm.known = true := by
  intro t
  induction t with
  | nil => intro _; rfl
  | cons s l ih =>
    intro hk
    rw [List.all_cons, Bool.and_eq_true] at hk
    rw [Tm.applied_cons, List.all_append, ih hk.2]
    by_cases hs : s < 0
    · rw [Tm.err_all (Tm.piece_term h (Tm.known_ge hk.1) hs)]; rfl
    · rw [Tm.piece_pos (by omega)]; simp [hk.1]
/-- What a term becomes is a term. -/
theorem Tm.err_applied {ss : List (List Int)} (h : Terms ss) {t : List Int} (ht : Tm.err t = 0) (hl : (Tm.applied ss t).length ≤ 30) : Tm.err (Tm.applied ss t) = 0 :=
  Tm.err_ok hl (Tm.all_applied h t (Tm.err_all ht)) (Tm.run_applied h t 1 (Tm.err_all ht) (Tm.err_run ht))

end Go.Proofs.Ytkjncjlombjlfaa

namespace Go.Proofs.Ytkjncjlombjlfaa
open Go.Proofs Go.RowKit Go.Shelf

/-- What a sign becomes by what was found. -/
def Tm.found (m : Asg) (s : Int) : List Int := if s < 0 then (m s).getD [s] else [s]
theorem Tm.piece_fitL {m : Asg} {s : Int} (h8 : -8 ≤ s) : Tm.piece (Tm.fitL m 8) s = Tm.found m s := by
  unfold Tm.piece Tm.found
  by_cases hs : s < 0
  · rw [if_pos hs, if_pos hs]
    have hj : (-1 - s).toNat < 8 := by omega
    simp only [Tm.fitL, List.getElem?_map]
    rw [List.getElem?_range hj]
    simp only [Option.map_some, Option.getD_some]
    rw [if_pos hj, show -1 - (((-1 - s).toNat : Nat) : Int) = s from by omega]
  · rw [if_neg hs, if_neg hs]
theorem Tm.applied_fitL {m : Asg} : ∀ (p : List Int), p.all Tm.known = true → Tm.applied (Tm.fitL m 8) p = p.flatMap (Tm.found m) := by
  intro p
  induction p with
  | nil => intro _; rfl
  | cons s l ih =>
    intro hk
    rw [List.all_cons, Bool.and_eq_true] at hk
    rw [Tm.applied_cons, ih hk.2, Tm.piece_fitL (Tm.known_ge hk.1), List.flatMap_cons]
theorem Tm.part_drop (t : List Int) (k : Nat) : Tm.part t k ++ t.drop (Tm.endAt t k) = t.drop k := by
  have h := Tm.endAt_gt t k
  unfold Tm.part
  rw [show t.drop (Tm.endAt t k) = (t.drop k).drop (Tm.endAt t k - k) from by rw [List.drop_drop]; congr 1; omega, List.take_append_drop]

theorem Tm.fit_sound (p t : List Int) : ∀ (n i k : Nat) (m m' : Asg), p.length - i = n → i ≤ p.length → Against p t i k → Tm.fitGo t (p.drop i) k m = some m' →
    (∀ x z, m x = some z → m' x = some z) ∧ (p.drop i).flatMap (Tm.found m') = t.drop k := by
  intro n
  induction n with
  | zero =>
    intro i k m m' hn hi ha h
    obtain rfl : i = p.length := by omega
    rw [List.drop_length, Tm.fitGo_nil] at h
    cases h
    rw [List.drop_length, ha.fin, List.drop_length]
    exact ⟨fun _ _ h => h, rfl⟩
  | succ n ih =>
    intro i k m m' hn hi ha h
    have hlt : i < p.length := by omega
    have hk := ha.pos hlt
    rw [List.drop_eq_getElem_cons hlt, Tm.fitGo] at h
    rw [List.drop_eq_getElem_cons hlt, List.flatMap_cons]
    by_cases hs : p[i] < 0
    · rw [if_pos hs] at h
      by_cases hc : (m p[i]).isSome = true ∧ m p[i] ≠ some (Tm.part t k)
      · rw [if_pos hc] at h; cases h
      · rw [if_neg hc] at h
        obtain ⟨h1, h2⟩ := ih (i + 1) (Tm.endAt t k) _ m' (by omega) (by omega) (ha.var hlt (by simpa [hlt] using hs)) h
        have hp := h1 p[i] (Tm.part t k) (upd_same _ _ _)
        refine ⟨fun x z hx => ?_, ?_⟩
        · by_cases e : x = p[i]
          · subst e
            have : m p[i] = some (Tm.part t k) := by
              by_cases hq : m p[i] = some (Tm.part t k)
              · exact hq
              · exact absurd ⟨by rw [hx]; rfl, hq⟩ hc
            rw [this] at hx
            cases hx
            exact hp
          · exact h1 x z (by rw [upd_other _ _ e]; exact hx)
        · rw [h2, show Tm.found m' p[i] = Tm.part t k from by unfold Tm.found; rw [if_pos hs, hp]; rfl, Tm.part_drop]
    · rw [if_neg hs] at h
      by_cases hu : t[k]?.getD 0 = p[i]
      · rw [if_pos hu] at h
        obtain ⟨h1, h2⟩ := ih (i + 1) (k + 1) m m' (by omega) (by omega) (ha.sym hlt (by simpa [hlt] using hu)) h
        refine ⟨h1, ?_⟩
        rw [h2, show Tm.found m' p[i] = [p[i]] from by unfold Tm.found; rw [if_neg hs], List.drop_eq_getElem_cons hk]
        simp [hk] at hu
        rw [hu]; rfl
      · rw [if_neg hu] at h; cases h
/-- By what fits the one becomes the other. -/
theorem Tm.fit_makes {p t : List Int} {m : Asg} (hp : Tm.err p = 0) (ht : Tm.err t = 0) (h : Tm.fit p t = some m) : Tm.applied (Tm.fitL m 8) p = t := by
  rw [Tm.applied_fitL p (Tm.err_all hp)]
  have := (Tm.fit_sound p t _ 0 0 _ m rfl (by omega) (Against.start hp ht) (by simpa [Tm.fit] using h)).2
  simpa using this

theorem Tm.endAt_front {pre x post : List Int} (hx : Tm.run x 1 = x.length) : Tm.endAt (pre ++ (x ++ post)) pre.length = pre.length + x.length := by
  have h := Tm.endAt_mid (pre := pre) (t := x) (post := post) (k := 0) (by omega) (by rw [Tm.endAt_zero]; omega)
  rw [Nat.add_zero, Tm.endAt_zero, hx] at h
  exact h
theorem Tm.part_front {pre x post : List Int} (hx : Tm.run x 1 = x.length) : Tm.part (pre ++ (x ++ post)) pre.length = x := by
  unfold Tm.part
  rw [Tm.endAt_front hx, List.drop_left, show pre.length + x.length - pre.length = x.length from by omega, List.take_left]
end Go.Proofs.Ytkjncjlombjlfaa

namespace Go.Proofs.Ytkjncjlombjlfaa
open Go.Proofs Go.RowKit Go.Shelf

theorem Tm.pos_flat {s : Int} {zss : List (List Int)} (hz : ∀ j, j < zss.length → Tm.run (zss[j]?.getD []) 1 = (zss[j]?.getD []).length) : ∀ m, m ≤ zss.length → Tm.pos (s :: zss.flatten) 0 m = (s :: (zss.take m).flatten).length := by
  intro m
  induction m with
  | zero => intro _; simp [Tm.pos_zero]
  | succ m ih =>
    intro hm
    rw [Tm.pos_succ, ih (by omega)]
    have e : s :: zss.flatten = (s :: (zss.take m).flatten) ++ (zss[m]?.getD [] ++ (zss.drop (m + 1)).flatten) := by rw [List.cons_append, ← split_flatten (by omega)]
    rw [e, Tm.endAt_front (hz m (by omega)), List.length_cons, List.length_cons, flatten_snoc (by omega), List.length_append]
    omega
theorem Tm.kid_flat {s : Int} {zss : List (List Int)} (hz : ∀ j, j < zss.length → Tm.run (zss[j]?.getD []) 1 = (zss[j]?.getD []).length) {m : Nat} (hm : m < zss.length) : Tm.kid (s :: zss.flatten) m = zss[m]?.getD [] := by
  unfold Tm.kid
  rw [Tm.pos_flat hz m (by omega)]
  have e : s :: zss.flatten = (s :: (zss.take m).flatten) ++ (zss[m]?.getD [] ++ (zss.drop (m + 1)).flatten) := by rw [List.cons_append, ← split_flatten (by omega)]
  rw [e, Tm.part_front (hz m hm)]

def Tm.kids (x : List Int) (n : Nat) : List (List Int) := (List.range n).map (Tm.kid x)
theorem Tm.kids_len (x : List Int) (n : Nat) : (Tm.kids x n).length = n := by simp [Tm.kids]
theorem Tm.kids_at (x : List Int) {n m : Nat} (h : m < n) : (Tm.kids x n)[m]?.getD [] = Tm.kid x m := by simp [Tm.kids, h]
theorem Tm.kids_succ (x : List Int) (n : Nat) : Tm.kids x (n + 1) = Tm.kids x n ++ [Tm.kid x n] := by simp [Tm.kids, List.range_succ]
theorem Tm.take_end (x : List Int) (k : Nat) : x.take (Tm.endAt x k) = x.take k ++ Tm.part x k := by
  have := Tm.endAt_gt x k
  unfold Tm.part
  rw [show Tm.endAt x k = k + (Tm.endAt x k - k) from by omega, List.take_add, show k + (Tm.endAt x k - k) - k = Tm.endAt x k - k from by omega]
theorem Tm.take_pos {x : List Int} (h : 0 < x.length) : ∀ n, x.take (Tm.pos x 0 n) = Tm.sym x :: (Tm.kids x n).flatten := by
  intro n
  induction n with
  | zero =>
    obtain ⟨s, l, rfl⟩ : ∃ s l, x = s :: l := by cases x with | nil => simp at h | cons s l => exact ⟨s, l, rfl⟩
    simp [Tm.pos_zero, Tm.sym, Tm.kids]
  | succ n ih =>
    rw [Tm.pos_succ, Tm.take_end, ih, Tm.kids_succ, List.flatten_append, List.cons_append]
    simp [Tm.kid]
theorem Tm.pos_last {x : List Int} (h : Tm.err x = 0) : Tm.pos x 0 (Tm.room (Tm.sym x)) = x.length := by
  have h1 := Tm.endAt_in x 0 (Tm.err_pos h)
  rw [Tm.endAt_zero, Tm.err_run h] at h1
  exact h1.symm
/-- A term is its symbol and its parts. -/
theorem Tm.view {x : List Int} (h : Tm.err x = 0) : x = Tm.sym x :: (Tm.kids x (Tm.room (Tm.sym x))).flatten := by
  rw [← Tm.take_pos (Tm.err_pos h), Tm.pos_last h, List.take_length]
theorem Tm.pos_step (x : List Int) (k m : Nat) : Tm.pos x k m < Tm.pos x k (m + 1) := by rw [Tm.pos_succ]; exact Tm.endAt_gt _ _
theorem Tm.pos_in {x : List Int} (h : Tm.err x = 0) {m : Nat} (hm : m < Tm.room (Tm.sym x)) : Tm.pos x 0 m < x.length := by
  have h1 := Tm.pos_step x 0 m
  have h2 := Tm.pos_mono x 0 (m + 1) (Tm.room (Tm.sym x)) (by omega)
  rw [Tm.pos_last h] at h2
  omega
theorem Tm.kid_err {x : List Int} (h : Tm.err x = 0) {m : Nat} (hm : m < Tm.room (Tm.sym x)) : Tm.err (Tm.kid x m) = 0 := Tm.part_err h (Tm.pos_in h hm)
theorem Tm.kids_run {x : List Int} (h : Tm.err x = 0) : ∀ j, j < (Tm.kids x (Tm.room (Tm.sym x))).length → Tm.run ((Tm.kids x (Tm.room (Tm.sym x)))[j]?.getD []) 1 = ((Tm.kids x (Tm.room (Tm.sym x)))[j]?.getD []).length := by
  intro j hj
  rw [Tm.kids_len] at hj
  rw [Tm.kids_at x hj]
  exact Tm.err_run (Tm.kid_err h hj)
/-- The parts of a term that stands in another one. -/
theorem Tm.sym_part {zs : List Int} (he : Tm.err zs = 0) {i : Nat} (hi : i < zs.length) : Tm.sym (Tm.part zs i) = zs[i]?.getD 0 := by
  have hl := Tm.part_length he hi
  have hg := Tm.endAt_gt zs i
  unfold Tm.sym Tm.part
  rw [List.getElem?_take_of_lt (by omega), List.getElem?_drop]
  simp
theorem Tm.pos_part {zs : List Int} (he : Tm.err zs = 0) {i : Nat} (hi : i < zs.length) : ∀ m, m ≤ Tm.room (zs[i]?.getD 0) → Tm.pos zs i m = i + Tm.pos (Tm.part zs i) 0 m := by
  have hp := Tm.part_err he hi
  have hs := Tm.sym_part he hi
  have hsp := Tm.split zs i
  have hti : (zs.take i).length = i := by simp; omega
  intro m
  induction m with
  | zero => intro _; simp [Tm.pos_zero]
  | succ m ih =>
    intro hm
    have hin := Tm.pos_in hp (m := m) (by rw [hs]; omega)
    rw [Tm.pos_succ, Tm.pos_succ, ih (by omega)]
    have h := Tm.endAt_mid (pre := zs.take i) (t := Tm.part zs i) (post := zs.drop (Tm.endAt zs i)) (k := Tm.pos (Tm.part zs i) 0 m) (by omega) (Tm.end_in hp hin)
    rw [← hsp, hti] at h
    exact h
/-- Who is above stays above, whatever variables become. -/
theorem Tm.applied_flatten (ss : List (List Int)) (zss : List (List Int)) : Tm.applied ss zss.flatten = (zss.map (Tm.applied ss)).flatten := by
  induction zss with
  | nil => simp [Tm.applied]
  | cons z l ih => rw [List.flatten_cons, List.map_cons, List.flatten_cons, ← ih]; simp [Tm.applied]
theorem Tm.applied_view {ss : List (List Int)} (hss : Terms ss) {a : List Int} (ha : Tm.err a = 0) (h0 : 0 ≤ Tm.sym a) : Tm.sym (Tm.applied ss a) = Tm.sym a ∧ ∀ m, m < Tm.room (Tm.sym a) → Tm.kid (Tm.applied ss a) m = Tm.applied ss (Tm.kid a m) := by
  have e : Tm.applied ss a = Tm.sym a :: ((Tm.kids a (Tm.room (Tm.sym a))).map (Tm.applied ss)).flatten := by
    conv => lhs; rw [Tm.view ha]
    rw [Tm.applied_cons, Tm.piece_pos h0, Tm.applied_flatten]; rfl
  have hr : ∀ j, j < ((Tm.kids a (Tm.room (Tm.sym a))).map (Tm.applied ss)).length → Tm.run (((Tm.kids a (Tm.room (Tm.sym a))).map (Tm.applied ss))[j]?.getD []) 1 = (((Tm.kids a (Tm.room (Tm.sym a))).map (Tm.applied ss))[j]?.getD []).length := by
    intro j hj
    rw [List.length_map, Tm.kids_len] at hj
    have ek : ((Tm.kids a (Tm.room (Tm.sym a))).map (Tm.applied ss))[j]?.getD [] = Tm.applied ss (Tm.kid a j) := by simp [Tm.kids, hj]
    rw [ek]
    have hk := Tm.kid_err ha hj
    exact Tm.run_applied hss _ 1 (Tm.err_all hk) (Tm.err_run hk)
  constructor
  · rw [e]; simp [Tm.sym]
  · intro m hm
    rw [e, Tm.kid_flat hr (by rw [List.length_map, Tm.kids_len]; exact hm)]
    simp [Tm.kids, hm]
theorem Tm.Gt.stays {r : Int → Int} {ss : List (List Int)} (hss : Terms ss) {a b : List Int} (h : Tm.Gt r a b) : Tm.err a = 0 → Tm.err b = 0 → Tm.Gt r (Tm.applied ss a) (Tm.applied ss b) := by
  induction h with
  | eq a b m hm e =>
    intro ha hb
    obtain ⟨h1, h2⟩ := Tm.applied_view hss ha (Tm.Gt.pos (r := r) (.eq a b m hm e))
    exact .eq _ _ m (by rw [h1]; exact hm) (by rw [h2 m hm, e])
  | sub a b m hm h ih =>
    intro ha hb
    obtain ⟨h1, h2⟩ := Tm.applied_view hss ha (Tm.Gt.pos (.sub a b m hm h))
    exact .sub _ _ m (by rw [h1]; exact hm) (by rw [h2 m hm]; exact ih (Tm.kid_err ha hm) hb)
  | rk a b ha0 hb0 hall hne hr ih =>
    intro ha hb
    obtain ⟨h1, h2⟩ := Tm.applied_view hss ha ha0
    obtain ⟨k1, k2⟩ := Tm.applied_view hss hb hb0
    exact .rk _ _ (by rw [h1]; exact ha0) (by rw [k1]; exact hb0) (fun m hm => by rw [k1] at hm; rw [k2 m hm]; exact ih m hm ha (Tm.kid_err hb hm)) (by rw [h1, k1]; exact hne) (by rw [h1, k1]; exact hr)
  | lex a b m ha0 hs hall hm hl hk ih ihk =>
    intro ha hb
    obtain ⟨h1, h2⟩ := Tm.applied_view hss ha ha0
    obtain ⟨k1, k2⟩ := Tm.applied_view hss hb (by omega)
    exact .lex _ _ m (by rw [h1]; exact ha0) (by rw [h1, k1]; exact hs) (fun m hm => by rw [k1] at hm; rw [k2 m hm]; exact ih m hm ha (Tm.kid_err hb hm)) (by rw [h1]; exact hm)
      (fun l hlm => by rw [h2 l (by omega), k2 l (by rw [← hs]; omega), hl l hlm]) (by rw [h2 m hm, k2 m (by rw [← hs]; exact hm)]; exact ihk (Tm.kid_err ha hm) (Tm.kid_err hb (by rw [← hs]; exact hm)))

/-- A place that is not the first lies in a part. -/
theorem Tm.place_kid {x : List Int} (h : Tm.err x = 0) {k : Nat} (h0 : 0 < k) (hk : k < x.length) : ∃ m, m < Tm.room (Tm.sym x) ∧ Tm.pos x 0 m ≤ k ∧ k < Tm.pos x 0 (m + 1) := by
  have key : ∀ n, k < Tm.pos x 0 n → ∃ m, m < n ∧ Tm.pos x 0 m ≤ k ∧ k < Tm.pos x 0 (m + 1) := by
    intro n
    induction n with
    | zero => intro hn; rw [Tm.pos_zero] at hn; omega
    | succ n ih =>
      intro hn
      by_cases hc : k < Tm.pos x 0 n
      · obtain ⟨m, h1, h2⟩ := ih hc; exact ⟨m, by omega, h2⟩
      · exact ⟨n, by omega, by omega, hn⟩
  exact key _ (by rw [Tm.pos_last h]; exact hk)
/-- What is put at a place of a part. -/
theorem Tm.put_view {x u : List Int} (h : Tm.err x = 0) (hu : Tm.err u = 0) {k m : Nat} (hm : m < Tm.room (Tm.sym x)) (h1 : Tm.pos x 0 m ≤ k) (h2 : k < Tm.pos x 0 (m + 1)) :
    Tm.sym (Tm.put x k u) = Tm.sym x ∧ k - Tm.pos x 0 m < (Tm.kid x m).length ∧ ∀ l, l < Tm.room (Tm.sym x) → Tm.kid (Tm.put x k u) l = if l = m then Tm.put (Tm.kid x m) (k - Tm.pos x 0 m) u else Tm.kid x l := by
  have hpi := Tm.pos_in h hm
  have hkl : (Tm.kid x m).length = Tm.pos x 0 (m + 1) - Tm.pos x 0 m := by rw [Tm.pos_succ]; exact Tm.part_length h hpi
  have hke := Tm.kid_err h hm
  have hk' : k - Tm.pos x 0 m < (Tm.kid x m).length := by omega
  have hml : m < (Tm.kids x (Tm.room (Tm.sym x))).length := by rw [Tm.kids_len]; exact hm
  obtain ⟨zss, hz⟩ : ∃ zss, Tm.kids x (Tm.room (Tm.sym x)) = zss := ⟨_, rfl⟩
  have hrun := Tm.kids_run h
  have hv := Tm.view h
  have hat := fun l (hl : l < Tm.room (Tm.sym x)) => Tm.kids_at x hl
  have hlen := Tm.kids_len x (Tm.room (Tm.sym x))
  rw [hz] at hml hrun hv hat hlen
  have hpos := Tm.pos_flat (s := Tm.sym x) hrun m (by omega)
  rw [← hv] at hpos
  have e : x = (Tm.sym x :: (zss.take m).flatten) ++ (Tm.kid x m ++ (zss.drop (m + 1)).flatten) := by rw [← hat m hm, List.cons_append, ← split_flatten hml]; exact hv
  have hput : Tm.put x k u = Tm.sym x :: (zss.set m (Tm.put (Tm.kid x m) (k - Tm.pos x 0 m) u)).flatten := by
    have hend := Tm.endAt_mid (pre := Tm.sym x :: (zss.take m).flatten) (t := Tm.kid x m) (post := (zss.drop (m + 1)).flatten) (k := k - Tm.pos x 0 m) (by omega) (Tm.end_in hke hk')
    rw [← e, ← hpos, show Tm.pos x 0 m + (k - Tm.pos x 0 m) = k from by omega] at hend
    have hset : (zss.set m (Tm.put (Tm.kid x m) (k - Tm.pos x 0 m) u)).flatten = (zss.take m).flatten ++ (Tm.put (Tm.kid x m) (k - Tm.pos x 0 m) u ++ (zss.drop (m + 1)).flatten) := by
      rw [List.set_eq_take_append_cons_drop, if_pos hml, List.flatten_append, List.flatten_cons]
    have hee := Tm.end_in hke hk'
    rw [hset, Tm.put_eq, Tm.put_eq, hend]
    have t1 : x.take k = (Tm.sym x :: (zss.take m).flatten) ++ (Tm.kid x m).take (k - Tm.pos x 0 m) := by
      conv => lhs; rw [e]
      rw [List.take_append, ← hpos, List.take_of_length_le (by rw [← hpos]; omega), List.take_append_of_le_length (by omega)]
    have t2 : ∀ q, q = Tm.pos x 0 m + Tm.endAt (Tm.kid x m) (k - Tm.pos x 0 m) → x.drop q = (Tm.kid x m).drop (Tm.endAt (Tm.kid x m) (k - Tm.pos x 0 m)) ++ (zss.drop (m + 1)).flatten := by
      intro q hq
      have hq2 : q - (Tm.sym x :: (zss.take m).flatten).length = Tm.endAt (Tm.kid x m) (k - Tm.pos x 0 m) := by omega
      conv => lhs; rw [e]
      rw [List.drop_append, List.drop_of_length_le (by omega), List.nil_append, hq2, List.drop_append_of_le_length hee]
    rw [t1, t2 _ rfl]
    simp
  have hrun2 : ∀ j, j < (zss.set m (Tm.put (Tm.kid x m) (k - Tm.pos x 0 m) u)).length → Tm.run ((zss.set m (Tm.put (Tm.kid x m) (k - Tm.pos x 0 m) u))[j]?.getD []) 1 = ((zss.set m (Tm.put (Tm.kid x m) (k - Tm.pos x 0 m) u))[j]?.getD []).length := by
    intro j hj
    rw [List.length_set] at hj
    by_cases ej : j = m
    · subst ej; rw [List.getElem?_set_self hj]; exact Tm.put_run hke (Tm.err_run hu) hk'
    · rw [List.getElem?_set_ne (by omega)]; exact hrun j hj
  refine ⟨by rw [hput]; simp [Tm.sym], hk', fun l hl => ?_⟩
  rw [hput, Tm.kid_flat hrun2 (by rw [List.length_set]; omega)]
  by_cases el : l = m
  · subst el; rw [if_pos rfl, List.getElem?_set_self hml]; rfl
  · rw [if_neg el, List.getElem?_set_ne (by omega)]; exact hat l hl

theorem Tm.put_zero {x u : List Int} (h : Tm.err x = 0) : Tm.put x 0 u = u := by
  rw [Tm.put_eq, Tm.endAt_zero, Tm.err_run h]; simp
/-- Who is above stays above, wherever both stand. -/
theorem Tm.Gt.within {r : Int → Int} {a b : List Int} (hab : Tm.Gt r a b) (ha : Tm.err a = 0) (hb : Tm.err b = 0) : ∀ (n : Nat) (t : List Int) (k : Nat), t.length < n → Tm.err t = 0 → k < t.length → Tm.Gt r (Tm.put t k a) (Tm.put t k b) := by
  intro n
  induction n with
  | zero => intro t k h; omega
  | succ n ih =>
    intro t k hn ht hk
    by_cases h0 : k = 0
    · subst h0; rw [Tm.put_zero ht, Tm.put_zero ht]; exact hab
    obtain ⟨m, hm, h1, h2⟩ := Tm.place_kid ht (by omega) hk
    obtain ⟨sa, hkl, ka⟩ := Tm.put_view ht ha hm h1 h2
    obtain ⟨sb, _, kb⟩ := Tm.put_view ht hb hm h1 h2
    have hs0 : 0 ≤ Tm.sym t := Tm.Gt.pos (r := r) (.eq t _ m hm rfl)
    have hsub := ih (Tm.kid t m) (k - Tm.pos t 0 m) (by have := Tm.kid_short hm; omega) (Tm.kid_err ht hm) hkl
    have hkm : Tm.Gt r (Tm.kid (Tm.put t k a) m) (Tm.kid (Tm.put t k b) m) := by rw [ka m hm, kb m hm, if_pos rfl, if_pos rfl]; exact hsub
    refine .lex _ _ m (by rw [sa]; exact hs0) (by rw [sa, sb]) (fun l hl => ?_) (by rw [sa]; exact hm) (fun l hl => by rw [ka l (by omega), kb l (by omega), if_neg (by omega), if_neg (by omega)]) hkm
    rw [sb] at hl
    by_cases el : l = m
    · subst el; exact .sub _ _ l (by rw [sa]; exact hl) hkm
    · refine .eq _ _ l (by rw [sa]; exact hl) ?_
      rw [ka l hl, kb l hl, if_neg el, if_neg el]

/-- Each is above its parts. -/
theorem Tm.Gt.parts {r : Int → Int} : ∀ (n : Nat) (t : List Int) (k : Nat), t.length < n → Tm.err t = 0 → 0 < k → k < t.length → Tm.Gt r t (Tm.part t k) := by
  intro n
  induction n with
  | zero => intro t k h; omega
  | succ n ih =>
    intro t k hn ht h0 hk
    obtain ⟨m, hm, h1, h2⟩ := Tm.place_kid ht h0 hk
    have hpi := Tm.pos_in ht hm
    have hke := Tm.kid_err ht hm
    have hkl : (Tm.kid t m).length = Tm.pos t 0 (m + 1) - Tm.pos t 0 m := by rw [Tm.pos_succ]; exact Tm.part_length ht hpi
    have hti : (t.take (Tm.pos t 0 m)).length = Tm.pos t 0 m := by simp; omega
    have hk' : k - Tm.pos t 0 m < (Tm.kid t m).length := by omega
    have hpk : Tm.part t k = Tm.part (Tm.kid t m) (k - Tm.pos t 0 m) := by
      have h := Tm.part_mid (pre := t.take (Tm.pos t 0 m)) (t := Tm.kid t m) (post := t.drop (Tm.endAt t (Tm.pos t 0 m))) (k := k - Tm.pos t 0 m) (by omega) (Tm.end_in hke hk')
      have hs := Tm.split t (Tm.pos t 0 m)
      rw [show Tm.part t (Tm.pos t 0 m) = Tm.kid t m from rfl] at hs
      rw [← hs, hti, show Tm.pos t 0 m + (k - Tm.pos t 0 m) = k from by omega] at h
      exact h
    rw [hpk]
    by_cases e : k - Tm.pos t 0 m = 0
    · rw [e, Tm.part_all0 (Tm.err_run hke)]; exact .eq _ _ m hm rfl
    · exact .sub _ _ m hm (ih _ _ (by have := Tm.kid_short hm; omega) hke (by omega) hk')

end Go.Proofs.Ytkjncjlombjlfaa

namespace Go.Proofs.Ytkjncjlombjlfaa
open Go.Proofs Go.RowKit Go.Shelf

/-- How a round may be left; a panic goes up as it is. -/
def roundPostP (P : Program) (l : Nat) (R : Ending → World → Prop) : Exit → Act → World → Prop
  | .panic chain, a, w => a.defers = [] ∧ R (.panicked chain) w
  | e, a, w => roundPost P l R e a w

end Go.Proofs.Ytkjncjlombjlfaa

namespace Go.Proofs.Ytkjncjlombjlfaa
open Go.Proofs Go.RowKit Go.Shelf

/-- THE ITERATOR GIVES encs 0, encs 1, .. up to r, as long as what it reads ('rd') stands. -/
def SeqSteps (F : Fence) (n : Nat) (P : Program) (g : Nat) (lb : Array Value) (encs : Nat → Array Value) (r : Nat) (rd : World → Prop) : Prop :=
  ∀ (l : Nat) (J : Nat → World → Prop) (Jx : World → Prop) (Jp : List PanicEntry → World → Prop) (W : World), AbidesFrom W.heap.size J → (∀ i W, J i W → rd W) →
    (∀ i W1, J i W1 → i < r → YieldAt F (n - 1) P l (encs i) W1 fun e W' => (e = .returned (.bool true) ∧ J (i + 1) W') ∨ (e = .returned (.bool false) ∧ Jx W') ∨ ∃ ch, e = .panicked ch ∧ Jp ch W') →
    J 0 W → CallsIn F n P g (#[.func (.yield l) #[] #[]] ++ lb) W fun e W' => ((∃ v, e = .returned v) ∧ (J r W' ∨ Jx W')) ∨ ∃ ch, e = .panicked ch ∧ Jp ch W'

/-- How the body of a round may be left. -/
def stepPost (B : Nat) (I : Nat → World → Prop) (Ix : Code → World → Prop) (Ip : List PanicEntry → World → Prop) (i : Nat) (W : World) : Exit → Act → World → Prop
  | .normal, _, W' => KeepsFrom B W W' ∧ I i W'
  | .ret, _, W' => KeepsFrom B W W' ∧ Ix .ret W'
  | .exit id, _, W' => KeepsFrom B W W' ∧ Ix (.exit id) W'
  | .goto t, _, W' => KeepsFrom B W W' ∧ Ix (.goto t) W'
  | .panic ch, a, W' => a.defers = [] ∧ KeepsFrom B W W' ∧ Ip ch W'
  | .outgrown, _, _ => False

end Go.Proofs.Ytkjncjlombjlfaa

namespace Go.Proofs.Ytkjncjlombjlfaa
open Go.Proofs Go.RowKit Go.Shelf

attribute [local go_sem] Oper.semAt_some

/-- The fence of all functions that there are. -/
def Fx : Fence := { fn := fun f => ∃ fn, Try.prog.funcs[f]? = some fn, depth := none, alive := false }
/-- A fence that bars nothing. -/
def Pl (F : Fence) : Prop := F.round = none ∧ (∀ f fn, Try.prog.funcs[f]? = some fn → F.fn f) ∧ F.depth = none
def encPart (zs : List Int) (k i : Nat) : Array Value := #[.int .i64 (Tm.pos zs k i : Int), .int .i64 (Tm.pos zs k (i + 1) : Int)]
/-- What the iterator reads. -/
def PartsRd (Bk Bt k cap : Nat) (a : Option Addr) (zs : List Int) (W : World) : Prop := W.cell? ⟨Bk, 0, none⟩ = some (.int .i64 (k : Int)) ∧ W.cell? ⟨Bt, 0, none⟩ = some (.slice a zs.length cap) ∧ Ints W.heap.size W a zs

/-- signs.End at places beyond k. -/
def EndsBeyond (F : Fence) (a : Option Addr) (cap : Nat) (zs : List Int) (k : Nat) : Prop :=
  ∀ (n p : Nat) (W : World), k < p → p ≤ 20000 → Ints W.heap.size W a zs → CallsIn F n Try.prog 56 #[.slice a zs.length cap, .int .i64 (p : Int)] W fun e W' => e = .returned (.int .i64 (Tm.endAt zs p : Int)) ∧ Below W.heap.size W W'

end Go.Proofs.Ytkjncjlombjlfaa

namespace Go.Proofs.Ytkjncjlombjlfaa
open Go.Proofs Go.RowKit Go.Shelf

attribute [local go_sem] Oper.semAt_some

end Go.Proofs.Ytkjncjlombjlfaa

namespace Go.Proofs.Ytkjncjlombjlfaa
open Go.Proofs Go.RowKit Go.Shelf

end Go.Proofs.Ytkjncjlombjlfaa

namespace Go.Proofs.Ytkjncjlombjlfaa
open Go.Proofs Go.RowKit Go.Shelf Go.Maps

/-- E2, reckoned. -/
def Tm.gtB (r : Int → Int) : Nat → List Int → List Int → Bool
  | 0, _, _ => false
  | n + 1, a, b => ((List.range (Tm.room (Tm.sym a))).any fun m => decide (Tm.kid a m = b) || Tm.gtB r n (Tm.kid a m) b) ||
    (decide (0 ≤ Tm.sym a) && (decide (0 ≤ Tm.sym b) && (((List.range (Tm.room (Tm.sym b))).all fun m => Tm.gtB r n a (Tm.kid b m)) && ((decide (Tm.sym a ≠ Tm.sym b) && decide (r (Tm.sym b) < r (Tm.sym a))) ||
      (decide (Tm.sym a = Tm.sym b) && (List.range (Tm.room (Tm.sym a))).any fun m => ((List.range m).all fun l => decide (Tm.kid a l = Tm.kid b l)) && Tm.gtB r n (Tm.kid a m) (Tm.kid b m))))))
def Tm.above (r : Int → Int) (a b : List Int) : Bool := Tm.gtB r (a.length + b.length + 1) a b
/-- The ranks that a list tells. -/
def Tm.rankOf (rk : List Int) (s : Int) : Int := rk[s.toNat]?.getD 0
/-- At places. -/
def Tm.ab (rk za zb : List Int) (i j : Nat) : Bool := Tm.above (Tm.rankOf rk) (Tm.part za i) (Tm.part zb j)
def Tm.sm (za zb : List Int) (i j : Nat) : Bool := decide (Tm.part za i = Tm.part zb j)
/-- By a part, the first n parts held. -/
def Tm.bp (rk za zb : List Int) (i j n : Nat) : Bool := (List.range n).any fun m => Tm.sm za zb (Tm.pos za i m) j || Tm.ab rk za zb (Tm.pos za i m) j
/-- Above the first n parts. -/
def Tm.ov (rk za zb : List Int) (i j n : Nat) : Bool := (List.range n).all fun m => Tm.ab rk za zb i (Tm.pos zb j m)
/-- The first n parts are the same. -/
def Tm.sms (za zb : List Int) (i j n : Nat) : Bool := (List.range n).all fun m => Tm.sm za zb (Tm.pos za i m) (Tm.pos zb j m)
/-- By the first parts that differ. -/
def Tm.fd (rk za zb : List Int) (i j n : Nat) : Bool := (List.range n).any fun m => Tm.sms za zb i j m && Tm.ab rk za zb (Tm.pos za i m) (Tm.pos zb j m)
/-- By the symbol. -/
def Tm.sy (rk za zb : List Int) (i j : Nat) : Bool :=
  decide (0 ≤ za[i]?.getD 0) && (decide (0 ≤ zb[j]?.getD 0) && (Tm.ov rk za zb i j (Tm.room (zb[j]?.getD 0)) && (if za[i]?.getD 0 = zb[j]?.getD 0 then Tm.fd rk za zb i j (Tm.room (za[i]?.getD 0)) else decide (Tm.rankOf rk (zb[j]?.getD 0) < Tm.rankOf rk (za[i]?.getD 0)))))
/-- BLOCK b IS THE MAP M, from keys of type K. -/
def KMap (K : TypeId) (W : World) (b n : Nat) (M : Value → Option Value) : Prop :=
  ∃ D : DataW Value, W.ownsMap Try.prog K heldElem b n D ∧ ∀ (v : Value) (l : Lit), keyOf Try.prog K v = some l → Maps.has D l = (M v).isSome ∧ ∀ u, M v = some u → ∀ z, D.atKey l z = .held u
theorem KMap.made (K : TypeId) (w : World) : KMap K (w.alloc (.map #[] 0)) w.heap.size 0 (fun _ => none) :=
  ⟨_, World.ownsMap_made w _ _ _, fun _ _ _ => ⟨rfl, fun _ h => by cases h⟩⟩
theorem KMap.lt {K : TypeId} {W : World} {b n : Nat} {m : Value → Option Value} (h : KMap K W b n m) : b < W.heap.size := by
  obtain ⟨D, hD, _⟩ := h; exact hD.lt
theorem KMap.keep {K : TypeId} {W W' : World} {b n : Nat} {m : Value → Option Value} (h : KMap K W b n m) (hb : W'.heap[b]? = W.heap[b]?) : KMap K W' b n m := by
  obtain ⟨D, ⟨es, clock, hes, r⟩, r2⟩ := h
  exact ⟨D, ⟨es, clock, hb.trans hes, r⟩, r2⟩
theorem KMap.map {K : TypeId} {W : World} {b n : Nat} {m : Value → Option Value} (h : KMap K W b n m) : ∃ es clock, W.heap[b]? = some (.map es clock) := by
  obtain ⟨D, ⟨es, clock, hes, r⟩, r2⟩ := h; exact ⟨es, clock, hes⟩
theorem KMap.set {K : TypeId} (law : Keyed Try.prog K) {w : World} {b n : Nat} {M : Value → Option Value} (h : KMap K w b n M) {t e : TypeId} (ht : Try.prog.underlying t = some (.map K e)) (hn : n < maxLen) {key : Value} {l : Lit} (hkey : keyOf Try.prog K key = some l) (v : Value) :
    ∃ w' M', (Instr.mapUpdate t (.map (some b)) key v).run Try.prog w = .ok () w' ∧ KMap K w' b (n + 1) M' ∧ M' key = some v ∧ (∀ x, x ≠ key → M' x = M x) ∧ w.grownBy w' (some b) := by
  classical
  obtain ⟨D, hD, hh⟩ := h
  obtain ⟨w', hrun, h1, h2⟩ := hD.update (R := heldElem) law ht hn hkey (val := v) (d := .held v) (ps := []) rfl
  have hk : WideAt.IsKeyLit l := law.key hkey
  refine ⟨w', fun x => if x = key then some v else M x, hrun, ⟨_, h1, fun x lx hx => ?_⟩, by simp, fun x hx => by simp [hx], h2⟩
  by_cases e : x = key
  · subst e
    rw [hkey] at hx
    cases hx
    simp only [if_true]
    exact ⟨has_put_same (hD.tidy law).isMap hk _, fun u hu z => by cases hu; exact atKey_put_same (hD.tidy law).isMap hk _ _⟩
  · have hne : lx ≠ l := fun el => e (law.inj (by rw [el] at hx; exact hx) hkey)
    simp only [e, if_false]
    exact ⟨by rw [has_put_other hne]; exact (hh x lx hx).1, fun u hu z => by rw [atKey_put_other hne]; exact (hh x lx hx).2 u hu z⟩

section
variable (w : World) {ops : Array Oper} {rest : List Oper} {o : Oper} {a : Act} {Q : Exit → Act → World → Prop}
end

end Go.Proofs.Ytkjncjlombjlfaa
namespace Go.Proofs.Ytkjncjlombjlfaa
open Go.Proofs Go.RowKit Go.Shelf Go.Maps

end Go.Proofs.Ytkjncjlombjlfaa

namespace Go.Proofs.Ytkjncjlombjlfaa
open Go.Proofs Go.RowKit Go.Shelf Go.Maps

attribute [local go_sem ↓] Go.wp_at_zero Go.wp_at_succ

end Go.Proofs.Ytkjncjlombjlfaa

namespace Go.Proofs.Ytkjncjlombjlfaa
open Go.Proofs Go.RowKit Go.Shelf Go.Maps

attribute [local go_sem ↓] Go.wp_at_zero Go.wp_at_succ

end Go.Proofs.Ytkjncjlombjlfaa

namespace Go.Proofs.Ytkjncjlombjlfaa
open Go.Proofs Go.RowKit Go.Shelf Go.Maps

attribute [local go_sem] Oper.semAt_some
attribute [local go_sem ↓] Go.wp_at_zero Go.wp_at_succ

theorem cells_own {X Y : World} {row : Option Nat} {B C : Nat} {cs : Array Value} {t : TypeId} {p : Nat × Nat} (h : X.heap[C]? = some (.cells cs t p)) (hg : X.grownBy Y row) (hr : ∀ r, row = some r → B ≤ r ∧ ∃ o : Obj, X.heap[r]? = some o ∧ o.isCells = false) : Y.heap[C]? = some (.cells cs t p) :=
  (hg.block C (Array.getElem?_eq_some_iff.1 h).1 (fun e => by
    obtain ⟨_, o, ho, hc⟩ := hr C e.symm
    rw [h] at ho
    cases ho
    simp [Obj.isCells] at hc)).trans h
end Go.Proofs.Ytkjncjlombjlfaa

namespace Go.Proofs.Ytkjncjlombjlfaa
open Go.Proofs Go.RowKit Go.Shelf Go.Maps

attribute [local go_sem] Oper.semAt_some
attribute [local go_sem ↓] Go.wp_at_zero Go.wp_at_succ

end Go.Proofs.Ytkjncjlombjlfaa
