/-
  (*sides).above, wherever it is asked; order.Check; order.Above. · slices.Index, slices.Contains of a list of numbers; order.Check; order.Above. · order.Above. · hasplaw.rank, orderBegun. · hasplaw.choose: of n things, one. · PLAIN MATHEMATICS of OrderTrue and OrderKeeps: of right ones no error comes; what Above answers is an order. · PLAIN MATHEMATICS of fitting: what comes is a list of terms; by it the one becomes the other, without an error. · hasplaw.choose, which number it is; PLAIN MATHEMATICS of OrderKeeps: ranks differ; without variables one of two that differ is above; who is above stays above. · rules.checkOne's two tests, slices.ContainsFunc of them; slices.Contains of a term. · rules.checkOne; rules.Check. · Rules in memory. · Rules in memory; rules.Check. · From the frame's word on a slice of rules (or of pairs) that came in to ours. · PLAIN MATHEMATICS of places that are tied: which place stands for which. · THE WEB IN MEMORY; (*web).head. · PLAIN MATHEMATICS: what places hold, what becomes of it, and what tying does. · PLAIN MATHEMATICS: what one tie does.
-/
import Derived.Test.YtloealnfbpegnabBun8
import Derived.Test.YtloealnfbpegnabBun3
import Derived.Test.YtloealnfbpegnabBun6
import Derived.Test.YtloealnfbpegnabBun2
import Derived.Deep.SlicePairs
import Derived.ChangeOld
import Derived.Test.YtloealnfbpegnabBun7
namespace Go.Proofs.Ytloealnfbpegnab
open Go.Proofs Go.RowKit Go.Shelf Go.Maps

end Go.Proofs.Ytloealnfbpegnab

namespace Go.Proofs.Ytloealnfbpegnab
open Go.Proofs Go.RowKit Go.Shelf Go.Maps

/-- Is a number among them? -/
def Tm.hasB (zs : List Int) (x : Int) : Bool := decide (x ∈ zs)
theorem has_no {zs : List Int} {x : Int} {k : Nat} (h : ∀ j, j < k → zs[j]?.getD 0 ≠ x) (hx : zs[k]?.getD 0 ≠ x) : ∀ j, j < k + 1 → zs[j]?.getD 0 ≠ x := fun j hj => by
  by_cases e : j = k
  · rw [e]; exact hx
  · exact h j (by omega)
theorem has_yes {zs : List Int} {x : Int} {k : Nat} (hk : k < zs.length) (hx : zs[k]?.getD 0 = x) : Tm.hasB zs x = true := by
  unfold Tm.hasB
  rw [decide_eq_true_eq, ← hx]
  simp [hk]
theorem has_none {zs : List Int} {x : Int} (h : ∀ j, j < zs.length → zs[j]?.getD 0 ≠ x) : Tm.hasB zs x = false := by
  unfold Tm.hasB
  rw [decide_eq_false_iff_not]
  intro hm
  obtain ⟨j, hj, e⟩ := List.mem_iff_getElem.1 hm
  exact h j hj (by simp [hj, e])

/-- E1. -/
def Tm.rankErr (rk : List Int) : Int := if rk.length = 6 then (if (List.range 6).all (fun n => Tm.hasB rk (n : Int)) = true then 0 else 3) else 1
theorem rank_bad {rk : List Int} (h6 : rk.length = 6) {n : Nat} (hn : n < 6) (h : Tm.hasB rk (n : Int) = false) : Tm.rankErr rk = 3 := by
  unfold Tm.rankErr
  rw [if_pos h6, if_neg]
  intro e
  rw [List.all_eq_true] at e
  have := e n (List.mem_range.2 hn)
  rw [h] at this
  cases this
theorem rank_good {rk : List Int} (h6 : rk.length = 6) (h : ∀ n : Nat, n < 6 → Tm.hasB rk (n : Int) = true) : Tm.rankErr rk = 0 := by
  unfold Tm.rankErr
  rw [if_pos h6, if_pos]
  rw [List.all_eq_true]
  exact fun n hn => h n (List.mem_range.1 hn)

end Go.Proofs.Ytloealnfbpegnab

namespace Go.Proofs.Ytloealnfbpegnab
open Go.Proofs Go.RowKit Go.Shelf Go.Maps

/-- E1, E2: Above's error and answer. -/
def Tm.aboveErr (rk za zb : List Int) : Int := if Tm.rankErr rk = 0 then (if Tm.err za = 0 then Tm.err zb else Tm.err za) else Tm.rankErr rk
def Tm.aboveVal (rk za zb : List Int) : Bool := if Tm.aboveErr rk za zb = 0 then Tm.above (Tm.rankOf rk) za zb else false
theorem rank_six {rk : List Int} (h : Tm.rankErr rk = 0) : rk.length = 6 := by
  unfold Tm.rankErr at h
  by_cases h6 : rk.length = 6
  · exact h6
  · rw [if_neg h6] at h; omega

end Go.Proofs.Ytloealnfbpegnab

namespace Go.Proofs.Ytloealnfbpegnab
open Go.Proofs Go.RowKit Go.Shelf Go.Maps

def rk6 : List Int := [0, 1, 2, 3, 4, 5]
theorem Tm.o1 : Tm.aboveErr rk6 [4, -1, 2, 0] [2, 0] = 0 := by decide +kernel
theorem Tm.o2 : Tm.aboveVal rk6 [4, -1, 2, 0] [2, 0] = true := by decide +kernel
theorem Tm.o3 : Tm.aboveErr rk6 [4, 4, -1, -2, -3] [4, -1, 4, -2, -3] = 0 := by decide +kernel
theorem Tm.o4 : Tm.aboveVal rk6 [4, 4, -1, -2, -3] [4, -1, 4, -2, -3] = true := by decide +kernel
theorem Tm.o5 : Tm.aboveErr rk6 [4, -1, -2] [4, -2, -1] = 0 := by decide +kernel
theorem Tm.o6 : Tm.aboveVal rk6 [4, -1, -2] [4, -2, -1] = false := by decide +kernel
theorem Tm.o7 : Tm.aboveErr rk6 [2, -1] [-2] = 0 := by decide +kernel
theorem Tm.o8 : Tm.aboveVal rk6 [2, -1] [-2] = false := by decide +kernel
theorem Tm.o9 : Tm.aboveErr [] [4, -1, 2, 0] [4, -1, 2, 0] = 1 := by decide +kernel
theorem Tm.o10 : Tm.aboveVal [] [4, -1, 2, 0] [4, -1, 2, 0] = false := by decide +kernel
theorem Tm.o11 : Tm.rankErr rk6 = 0 := by decide +kernel
theorem Tm.o12 : Tm.rankErr [0, 1, 2, 3, 4, 4] = 3 := by decide +kernel

/-- Two literals, one behind the other. -/
theorem o_lits (w : World) (p t : List Int) : Ints (w.heap.size + 2) ((w.alloc (.cells (p.map (Value.int .i64)).toArray 3)).alloc (.cells (t.map (Value.int .i64)).toArray 3)) (some ⟨w.heap.size, 0, none⟩) p ∧
    Ints (w.heap.size + 2) ((w.alloc (.cells (p.map (Value.int .i64)).toArray 3)).alloc (.cells (t.map (Value.int .i64)).toArray 3)) (some ⟨w.heap.size + 1, 0, none⟩) t ∧
    Below w.heap.size w ((w.alloc (.cells (p.map (Value.int .i64)).toArray 3)).alloc (.cells (t.map (Value.int .i64)).toArray 3)) := by
  have h1 := ints_lit w p (w.heap.size + 1) rfl
  have h2 := ints_lit (w.alloc (.cells (p.map (Value.int .i64)).toArray 3)) t (w.heap.size + 2) (by simp)
  simp only [World.size_alloc] at h2
  exact ⟨(h1.below ((Below.refl _ _).alloc (by simp) _)).mono (by omega), h2, ((Below.refl _ w).alloc (Nat.le_refl _) _).alloc (by simp) _⟩

end Go.Proofs.Ytloealnfbpegnab

namespace Go.Proofs.Ytloealnfbpegnab
open Go.Proofs Go.RowKit Go.Shelf

end Go.Proofs.Ytloealnfbpegnab

namespace Go.Proofs.Ytloealnfbpegnab
open Go.Proofs Go.RowKit Go.Shelf Go.Maps

theorem Tm.aboveErr_of {rk za zb : List Int} (h1 : Tm.rankErr rk = 0) (h2 : Tm.err za = 0) (h3 : Tm.err zb = 0) : Tm.aboveErr rk za zb = 0 := by unfold Tm.aboveErr; rw [if_pos h1, if_pos h2, h3]
theorem Tm.aboveErr_ok {rk za zb : List Int} (h : Tm.aboveErr rk za zb = 0) : Tm.rankErr rk = 0 ∧ Tm.err za = 0 ∧ Tm.err zb = 0 := by
  unfold Tm.aboveErr at h
  by_cases h1 : Tm.rankErr rk = 0
  · rw [if_pos h1] at h
    by_cases h2 : Tm.err za = 0
    · rw [if_pos h2] at h; exact ⟨h1, h2, h⟩
    · rw [if_neg h2] at h; exact absurd h h2
  · rw [if_neg h1] at h; exact absurd h h1
theorem Tm.aboveVal_iff {rk za zb : List Int} (h : Tm.aboveErr rk za zb = 0) : Tm.aboveVal rk za zb = true ↔ Tm.Gt (Tm.rankOf rk) za zb := by
  unfold Tm.aboveVal; rw [if_pos h]; exact Tm.above_iff
theorem Tm.aboveVal_self (rk za : List Int) : Tm.aboveVal rk za za = false := by
  rw [Bool.eq_false_iff]
  intro h
  unfold Tm.aboveVal at h
  split at h
  · exact Tm.Gt.self _ (Tm.above_iff.1 h)
  · cases h
theorem Tm.aboveVal_part {rk za : List Int} (h1 : Tm.rankErr rk = 0) (h2 : Tm.err za = 0) {j : Nat} (hj : j < za.length) : Tm.aboveVal rk za (Tm.part za j) = decide ((0 : Int) < (j : Int)) := by
  by_cases e : j = 0
  · subst e; rw [Tm.part_all0 (Tm.err_run h2), Tm.aboveVal_self]; rfl
  · rw [(Tm.aboveVal_iff (Tm.aboveErr_of h1 h2 (Tm.part_err h2 hj))).2 (Tm.Gt.parts _ za j (Nat.lt_succ_self _) h2 (by omega) hj)]
    symm
    simp
    omega
theorem Tm.aboveVal_anti {rk za zb : List Int} (h : Tm.aboveErr rk za zb = 0) : (Tm.aboveVal rk za zb && Tm.aboveVal rk zb za) = false := by
  obtain ⟨h1, h2, h3⟩ := Tm.aboveErr_ok h
  rw [Bool.eq_false_iff]
  intro e
  rw [Bool.and_eq_true] at e
  exact Tm.Gt.self _ (((Tm.aboveVal_iff h).1 e.1).trans ((Tm.aboveVal_iff (Tm.aboveErr_of h1 h3 h2)).1 e.2))
theorem Tm.aboveVal_trans {rk za zb zc : List Int} (h : Tm.aboveErr rk za zb = 0) (h' : Tm.aboveErr rk zb zc = 0) (e1 : Tm.aboveVal rk za zb = true) (e2 : Tm.aboveVal rk zb zc = true) : Tm.aboveVal rk za zc = true := by
  obtain ⟨h1, h2, h3⟩ := Tm.aboveErr_ok h
  obtain ⟨_, _, h4⟩ := Tm.aboveErr_ok h'
  exact (Tm.aboveVal_iff (Tm.aboveErr_of h1 h2 h4)).2 (((Tm.aboveVal_iff h).1 e1).trans ((Tm.aboveVal_iff h').1 e2))

end Go.Proofs.Ytloealnfbpegnab

namespace Go.Proofs.Ytloealnfbpegnab
open Go.Proofs Go.RowKit Go.Shelf

theorem Tm.fit_terms (p t : List Int) (ht : Tm.err t = 0) : ∀ (n i k : Nat) (m m' : Asg), p.length - i = n → i ≤ p.length → Against p t i k → (∀ x z, m x = some z → Tm.err z = 0) → Tm.fitGo t (p.drop i) k m = some m' → ∀ x z, m' x = some z → Tm.err z = 0 := by
  intro n
  induction n with
  | zero =>
    intro i k m m' hn hi ha hm h
    obtain rfl : i = p.length := by omega
    rw [List.drop_length, Tm.fitGo_nil] at h
    cases h
    exact hm
  | succ n ih =>
    intro i k m m' hn hi ha hm h
    have hlt : i < p.length := by omega
    have hk := ha.pos hlt
    rw [List.drop_eq_getElem_cons hlt, Tm.fitGo] at h
    by_cases hs : p[i] < 0
    · rw [if_pos hs] at h
      by_cases hc : (m p[i]).isSome = true ∧ m p[i] ≠ some (Tm.part t k)
      · rw [if_pos hc] at h; cases h
      · rw [if_neg hc] at h
        refine ih (i + 1) (Tm.endAt t k) _ m' (by omega) (by omega) (ha.var hlt (by simpa [hlt] using hs)) (fun x z hx => ?_) h
        by_cases e : x = p[i]
        · subst e; rw [upd_same] at hx; cases hx; exact Tm.part_err ht hk
        · rw [upd_other _ _ e] at hx; exact hm x z hx
    · rw [if_neg hs] at h
      by_cases hu : t[k]?.getD 0 = p[i]
      · rw [if_pos hu] at h
        exact ih (i + 1) (k + 1) m m' (by omega) (by omega) (ha.sym hlt (by simpa [hlt] using hu)) hm h
      · rw [if_neg hu] at h; cases h
theorem Tm.firstErr_zero : ∀ (l : List (List Int)), (∀ t ∈ l, Tm.err t = 0) → Tm.firstErr l = 0 := by
  intro l
  induction l with
  | nil => intro _; rfl
  | cons t l ih =>
    intro h
    unfold Tm.firstErr
    rw [if_pos (h t (by simp))]
    exact ih (fun x hx => h x (by simp [hx]))
theorem Tm.err_var (i : Nat) (h : i < 8) : Tm.err [-1 - (i : Int)] = 0 := by
  refine Tm.err_ok (by simp) ?_ ?_
  · simp [Tm.known]; omega
  · rw [show (1 : Nat) = 0 + 1 from rfl, Tm.run_cons, Tm.room_neg (by omega), Tm.run_zero]; rfl
theorem Tm.subErr_fitL {p t : List Int} {m : Asg} (hp : Tm.err p = 0) (ht : Tm.err t = 0) (h : Tm.fit p t = some m) : Tm.subErr (Tm.fitL m 8) = 0 := by
  have hm := Tm.fit_terms p t ht _ 0 0 (fun _ => none) m rfl (by omega) (Against.start hp ht) (fun x z hx => by cases hx) (by simpa [Tm.fit] using h)
  unfold Tm.subErr
  rw [if_pos (Tm.fitL_length _ _)]
  refine Tm.firstErr_zero _ fun x hx => ?_
  unfold Tm.fitL at hx
  rw [List.mem_map] at hx
  obtain ⟨i, hi, rfl⟩ := hx
  rw [List.mem_range] at hi
  rw [if_pos hi]
  cases e : m (-1 - (i : Int)) with
  | none => exact Tm.err_var i hi
  | some z => exact hm _ z e
/-- By what comes p becomes t, without an error. -/
theorem Tm.fit_apply {p t : List Int} {m : Asg} (hp : Tm.err p = 0) (ht : Tm.err t = 0) (h : Tm.fit p t = some m) : Tm.applyErr (Tm.fitL m 8) p = 0 ∧ Tm.applyVal (Tm.fitL m 8) p = t := by
  obtain ⟨e1, e2⟩ := Tm.apply_ok (Tm.subErr_fitL hp ht h) hp
  have hl := Tm.err_len ht
  rw [Tm.fit_makes hp ht h, if_neg (by omega)] at e1 e2
  exact ⟨e1, e2⟩
theorem Tm.apply_zero {ss : List (List Int)} {p : List Int} (h : Tm.applyErr ss p = 0) : Tm.subErr ss = 0 ∧ Tm.err p = 0 ∧ (Tm.applied ss p).length ≤ 30 ∧ Tm.applyVal ss p = Tm.applied ss p := by
  by_cases hs : Tm.subErr ss = 0
  · by_cases hp : Tm.err p = 0
    · obtain ⟨e1, e2⟩ := Tm.apply_ok hs hp
      rw [h] at e1
      by_cases hl : 30 < (Tm.applied ss p).length
      · rw [if_pos hl] at e1; omega
      · rw [if_neg hl] at e2; exact ⟨hs, hp, by omega, e2⟩
    · rw [(Tm.apply_t hs hp).1] at h; exact absurd h hp
  · rw [(Tm.apply_s hs).1] at h; exact absurd h hs

end Go.Proofs.Ytloealnfbpegnab

namespace Go.Proofs.Ytloealnfbpegnab
open Go.Proofs Go.RowKit Go.Shelf Go.Maps

theorem nodup_le : ∀ (n : Nat) (l : List Nat), l.Nodup → (∀ x ∈ l, x < n) → l.length ≤ n := by
  intro n
  induction n with
  | zero =>
    intro l _ h
    cases l with
    | nil => simp
    | cons x l => exact absurd (h x (by simp)) (by omega)
  | succ n ih =>
    intro l hn h
    by_cases hm : n ∈ l
    · have h1 := ih (l.erase n) (hn.erase n) (fun x hx => by
        have := (hn.mem_erase_iff).1 hx
        have := h x this.2
        omega)
      rw [List.length_erase_of_mem hm] at h1
      omega
    · have := ih l hn (fun x hx => by
        have h1 := h x hx
        have h2 : x ≠ n := fun e => hm (e ▸ hx)
        omega)
      omega
theorem nodup_all {n : Nat} {l : List Nat} (hn : l.Nodup) (h : ∀ x ∈ l, x < n) (hl : l.length = n) {k : Nat} (hk : k < n) : k ∈ l := by
  by_cases hm : k ∈ l
  · exact hm
  · have := nodup_le n (k :: l) (List.nodup_cons.2 ⟨hm, hn⟩) (fun x hx => by
      rcases List.mem_cons.1 hx with rfl | hx
      · exact hk
      · exact h x hx)
    simp at this
    omega
theorem rank_inj {rk : List Int} (h : Tm.rankErr rk = 0) : ∀ s t : Int, 0 ≤ s → s < 6 → 0 ≤ t → t < 6 → Tm.rankOf rk s = Tm.rankOf rk t → s = t := by
  have h6 := rank_six h
  have hall : ∀ n : Nat, n < 6 → Tm.hasB rk (n : Int) = true := fun n hn => by
    unfold Tm.rankErr at h
    rw [if_pos h6] at h
    by_cases ha : (List.range 6).all (fun n => Tm.hasB rk (n : Int)) = true
    · rw [List.all_eq_true] at ha; exact ha n (List.mem_range.2 hn)
    · rw [if_neg ha] at h; omega
  have hex : ∀ n : Nat, n < 6 → ∃ i, i < 6 ∧ rk[i]?.getD 0 = (n : Int) := fun n hn => by
    have := hall n hn
    unfold Tm.hasB at this
    rw [decide_eq_true_eq] at this
    obtain ⟨i, hi, e⟩ := List.mem_iff_getElem.1 this
    exact ⟨i, by omega, by simp [hi, e]⟩
  classical
  let f : Nat → Nat := fun n => if hn : n < 6 then Classical.choose (hex n hn) else 0
  have hf : ∀ n, n < 6 → f n < 6 ∧ rk[f n]?.getD 0 = (n : Int) := fun n hn => by
    simp only [f, hn, dif_pos]
    exact Classical.choose_spec (hex n hn)
  have hnd : ((List.range 6).map f).Nodup := by
    rw [List.Nodup, List.pairwise_map]
    refine List.Pairwise.imp_of_mem ?_ List.nodup_range
    intro a b ha hb hab e
    have h1 := (hf a (List.mem_range.1 ha)).2
    have h2 := (hf b (List.mem_range.1 hb)).2
    rw [e, h2] at h1
    omega
  have hon : ∀ k, k < 6 → ∃ n, n < 6 ∧ f n = k := fun k hk => by
    have := nodup_all hnd (n := 6) (fun x hx => by
      obtain ⟨n, hn, rfl⟩ := List.mem_map.1 hx
      exact (hf n (List.mem_range.1 hn)).1) (by simp) hk
    obtain ⟨n, hn, e⟩ := List.mem_map.1 this
    exact ⟨n, List.mem_range.1 hn, e⟩
  intro s t s0 s6 t0 t6 e
  obtain ⟨n, hn, en⟩ := hon s.toNat (by omega)
  obtain ⟨m, hm, em⟩ := hon t.toNat (by omega)
  have h1 := (hf n hn).2
  have h2 := (hf m hm).2
  rw [en] at h1
  rw [em] at h2
  unfold Tm.rankOf at e
  rw [h1, h2] at e
  have : n = m := by omega
  subst this
  omega

/-- No variable in it. -/
def Tm.freeB (x : List Int) : Bool := x.all fun s => decide (0 ≤ s)
theorem free_snoc {x : List Int} {k : Nat} (h : k < x.length) : Tm.freeB (x.take (k + 1)) = (Tm.freeB (x.take k) && decide (0 ≤ x[k]?.getD 0)) := by
  unfold Tm.freeB
  rw [take_snoc h, List.all_append]
  simp
theorem keeps_total {rk x y : List Int} (h : Tm.aboveErr rk x y = 0) (hx : Tm.freeB x = true) (hy : Tm.freeB y = true) (hs : sameB x y = false) (h1 : Tm.aboveVal rk x y = false) : Tm.aboveVal rk y x = true := by
  obtain ⟨k1, k2, k3⟩ := Tm.aboveErr_ok h
  have gx : ∀ s ∈ x, 0 ≤ s := fun s hs => by simpa using List.all_eq_true.1 hx s hs
  have gy : ∀ s ∈ y, 0 ≤ s := fun s hs => by simpa using List.all_eq_true.1 hy s hs
  rcases Tm.Gt.total (rank_inj k1) _ x y (Nat.lt_succ_self _) k2 k3 gx gy with e | g | g
  · rw [e] at hs; simp [sameB] at hs
  · rw [(Tm.aboveVal_iff h).2 g] at h1; cases h1
  · exact (Tm.aboveVal_iff (Tm.aboveErr_of k1 k3 k2)).2 g
theorem keeps_apply {rk x y : List Int} {ss : List (List Int)} (h : Tm.aboveErr rk x y = 0) (hq : Tm.aboveVal rk x y = true) (hx : Tm.applyErr ss x = 0) (hy : Tm.applyErr ss y = 0) : Tm.aboveErr rk (Tm.applyVal ss x) (Tm.applyVal ss y) = 0 ∧ Tm.aboveVal rk (Tm.applyVal ss x) (Tm.applyVal ss y) = true := by
  obtain ⟨k1, k2, k3⟩ := Tm.aboveErr_ok h
  obtain ⟨s1, _, lx, ex⟩ := Tm.apply_zero hx
  obtain ⟨_, _, ly, ey⟩ := Tm.apply_zero hy
  have hT := Terms.of s1
  rw [ex, ey]
  have he := Tm.aboveErr_of k1 (Tm.err_applied hT k2 lx) (Tm.err_applied hT k3 ly)
  exact ⟨he, (Tm.aboveVal_iff he).2 (((Tm.aboveVal_iff h).1 hq).stays hT k2 k3)⟩
theorem put_zero_ok {t u : List Int} {j : Nat} (ht : Tm.err t = 0) (hu : Tm.err u = 0) (hj : j < t.length) (h : Tm.putErr t (j : Int) u = 0) : Tm.putVal t (j : Int) u = Tm.put t j u ∧ Tm.err (Tm.put t j u) = 0 := by
  have hp : insideB (j : Int) 0 ((t.length : Int) - 1) = true := (insideB_iff _ _ _).2 ⟨by omega, by omega⟩
  have h' := h
  rw [Tm.putErr_in ht hu hp] at h'
  have hl : (Tm.put t j u).length ≤ 30 := by
    by_cases hb : 30 < (Tm.put t j u).length
    · rw [if_pos hb] at h'; omega
    · omega
  refine ⟨?_, Tm.put_err ht hu hj hl⟩
  unfold Tm.putVal
  rw [if_pos h]; rfl
theorem keeps_put {rk x y t : List Int} {j : Nat} (h : Tm.aboveErr rk x y = 0) (hq : Tm.aboveVal rk x y = true) (ht : Tm.err t = 0) (hj : j < t.length) (hx : Tm.putErr t (j : Int) x = 0) (hy : Tm.putErr t (j : Int) y = 0) : Tm.aboveErr rk (Tm.putVal t (j : Int) x) (Tm.putVal t (j : Int) y) = 0 ∧ Tm.aboveVal rk (Tm.putVal t (j : Int) x) (Tm.putVal t (j : Int) y) = true := by
  obtain ⟨k1, k2, k3⟩ := Tm.aboveErr_ok h
  obtain ⟨ex, lx⟩ := put_zero_ok ht k2 hj hx
  obtain ⟨ey, ly⟩ := put_zero_ok ht k3 hj hy
  rw [ex, ey]
  have he := Tm.aboveErr_of k1 lx ly
  exact ⟨he, (Tm.aboveVal_iff he).2 (((Tm.aboveVal_iff h).1 hq).within k2 k3 _ t j (Nat.lt_succ_self _) ht hj)⟩

end Go.Proofs.Ytloealnfbpegnab

namespace Go.Proofs.Ytloealnfbpegnab
open Go.Proofs Go.RowKit Go.Shelf Go.Maps

theorem any_snoc {zs : List Int} {p : Int → Bool} {k : Nat} (hk : k < zs.length) (h : (zs.take k).any p = false) (hs : p (zs[k]?.getD 0) = false) : (zs.take (k + 1)).any p = false := by
  rw [take_snoc hk, List.any_append, h]
  simpa using hs
theorem any_yes {zs : List Int} {p : Int → Bool} {k : Nat} (hk : k < zs.length) (hs : p (zs[k]?.getD 0) = true) : zs.any p = true := by
  rw [List.any_eq_true]
  exact ⟨zs[k], List.getElem_mem hk, by simpa [hk] using hs⟩

/-- Is the sign a variable below those of rules? -/
def foreignB (s : Int) : Bool := decide (s < -4)
/-- Is the sign a variable that does not stand in L? -/
def freeIn (L : List Int) (s : Int) : Bool := decide (s < 0) && !Tm.hasB L s

end Go.Proofs.Ytloealnfbpegnab

namespace Go.Proofs.Ytloealnfbpegnab
open Go.Proofs Go.RowKit Go.Shelf Go.Maps

/-- F1, of one rule. -/
def Tm.ruleErr (L R : List Int) : Int :=
  if Tm.err L = 0 then (if Tm.err R = 0 then (if L.any foreignB = true then 3 else if R.any foreignB = true then 3 else if L[0]?.getD 0 < 0 then 1 else if R.any (freeIn L) = true then 4 else 0) else Tm.err R) else Tm.err L

end Go.Proofs.Ytloealnfbpegnab

namespace Go.Proofs.Ytloealnfbpegnab
open Go.Proofs Go.RowKit Go.Shelf Go.Maps

abbrev RuleL := List (List Int × List Int)
/-- A SLICE OF RULES THAT CAN BE READ. -/
def RulesAt (n : Nat) (W : World) (a : Option Addr) (rs : RuleL) : Prop :=
  ∀ k, k < rs.length → ∃ b off, a = some ⟨b, off, none⟩ ∧ b < n ∧ ∃ aL cL aR cR, W.cell? ⟨b, off + k * 2, none⟩ = some (.slice aL (rs[k]?.getD ([], [])).1.length cL) ∧ W.cell? ⟨b, off + k * 2 + 1, none⟩ = some (.slice aR (rs[k]?.getD ([], [])).2.length cR) ∧
    Ints n W aL (rs[k]?.getD ([], [])).1 ∧ Ints n W aR (rs[k]?.getD ([], [])).2 ∧ (rs[k]?.getD ([], [])).1.length ≤ cL ∧ cL ≤ maxLen ∧ (rs[k]?.getD ([], [])).2.length ≤ cR ∧ cR ≤ maxLen
theorem RulesAt.below {n : Nat} {A B : World} (h : Below n A B) {a : Option Addr} {rs : RuleL} (hi : RulesAt n A a rs) : RulesAt n B a rs := fun k hk => by
  obtain ⟨b, off, e, hb, aL, cL, aR, cR, h1, h2, h3, h4, r⟩ := hi k hk
  exact ⟨b, off, e, hb, aL, cL, aR, cR, (h.cell (p := ⟨b, off + k * 2, none⟩) hb).trans h1, (h.cell (p := ⟨b, off + k * 2 + 1, none⟩) hb).trans h2, h3.below h, h4.below h, r⟩
theorem RulesAt.mono {n m : Nat} (h : n ≤ m) {W : World} {a : Option Addr} {rs : RuleL} (hi : RulesAt n W a rs) : RulesAt m W a rs := fun k hk => by
  obtain ⟨b, off, e, hb, aL, cL, aR, cR, h1, h2, h3, h4, r⟩ := hi k hk
  exact ⟨b, off, e, by omega, aL, cL, aR, cR, h1, h2, h3.mono h, h4.mono h, r⟩

end Go.Proofs.Ytloealnfbpegnab

namespace Go.Proofs.Ytloealnfbpegnab
open Go.Proofs Go.RowKit Go.Shelf Go.Maps

/-- The first error of rules. -/
def Tm.firstRule : RuleL → Int
  | [] => 0
  | r :: l => if Tm.ruleErr r.1 r.2 = 0 then Tm.firstRule l else Tm.ruleErr r.1 r.2
/-- F1. -/
def Tm.rulesErr (rs : RuleL) : Int := if 8 < rs.length then 2 else Tm.firstRule rs
theorem Tm.firstRule_step {rs : RuleL} {k : Nat} (hk : k < rs.length) (he : Tm.ruleErr (rs[k]?.getD ([], [])).1 (rs[k]?.getD ([], [])).2 = 0) : Tm.firstRule (rs.drop k) = Tm.firstRule (rs.drop (k + 1)) := by
  rw [List.drop_eq_getElem_cons hk, Tm.firstRule]
  simp only [hk, List.getElem?_eq_getElem, Option.getD_some] at he
  rw [if_pos he]
theorem Tm.firstRule_at {rs : RuleL} {k : Nat} (hk : k < rs.length) (he : Tm.ruleErr (rs[k]?.getD ([], [])).1 (rs[k]?.getD ([], [])).2 ≠ 0) : Tm.firstRule (rs.drop k) = Tm.ruleErr (rs[k]?.getD ([], [])).1 (rs[k]?.getD ([], [])).2 := by
  rw [List.drop_eq_getElem_cons hk, Tm.firstRule]
  simp only [hk, List.getElem?_eq_getElem, Option.getD_some] at he ⊢
  rw [if_neg he]

end Go.Proofs.Ytloealnfbpegnab

namespace Go.Proofs.Ytloealnfbpegnab
open Go.Proofs Go.RowKit Go.Shelf Go.Deep Go.ChangeShapes Go.WideShapes

def RulesIn (w : World) (a : Option Addr) (len cap : Nat) : Prop := ∃ rs : RuleL, rs.length = len ∧ RulesAt w.heap.size w a rs ∧ len ≤ cap ∧ cap ≤ maxLen
theorem term_open {H : Type} {enc : TypeId × Value → H} {w : World} {fuel : Nat} {v : Value} {x : DataW H × List MemPlace} (h : DataW.trod enc Try.prog w 0 (fun _ => true) true fuel 23 [v] = some x) :
    ∃ y : List Int × Option Addr × Nat, v = .slice y.2.1 y.1.length y.2.2 ∧ Ints w.heap.size w y.2.1 y.1 ∧ y.1.length ≤ y.2.2 ∧ y.2.2 ≤ maxLen := by
  rcases open_ints Try.underlying23 Try.underlying3 (by kernel_rfl) h with ⟨hcs, _⟩ | ⟨a, l, c, zs, hcs, _, hl, hm, hz, _, hcell, hwz⟩
  · simp only [List.cons.injEq, and_true] at hcs
    subst hcs
    exact ⟨([], none, 0), rfl, Ints.nil _ _ _, Nat.le_refl _, Nat.zero_le _⟩
  · simp only [List.cons.injEq, and_true] at hcs
    subst hcs
    simp only [if_true] at hz
    have hI := ints_of_cells (w := w) (a := some a) (L := l) (C := c) (Z := zs) hl hz (fun y hy k hk => by cases hy; exact hcell k (by omega)) (fun e => by cases e)
    have hlen : (zs.take l).length = l := by rw [List.length_take]; omega
    exact ⟨(zs.take l, some a, c), by rw [hlen], hI, by rw [hlen]; exact hl, hm⟩
theorem rulesIn_open {H : Type} {enc : TypeId × Value → H} {w : World} {fuel : Nat} {a : Option Addr} {len cap : Nat} {cs : List Value} {x : DataW H × List MemPlace} {t e : TypeId} {f0 f1 : Field} (ht : Try.prog.underlying t = some (.slice e)) (he : Try.prog.underlying e = some (.struct #[f0, f1]))
    (ce : Try.prog.cellsOf e = 2) (o0 : f0.offset = 0) (o1 : f1.offset = 1) (t0 : f0.type = 23) (t1 : f1.type = 23) (hcs : cs = [.slice a len cap]) (h : DataW.trod enc Try.prog w 0 (fun _ => true) true fuel t cs = some x) : RulesIn w a len cap := by
  have c1 : Try.prog.cellsOf 23 = 1 := by kernel_rfl
  rcases open_slice_pairs ht he ce o0 o1 (by rw [t0]; exact c1) (by rw [t1]; exact c1) h with ⟨hc, _⟩ | ⟨ad, l, c, m, n, V0, V1, D0, D1, P0, P1, hc, _, hl, hm, hmm, _, hrow⟩
  · rw [hcs] at hc
    simp only [List.cons.injEq, Value.slice.injEq, and_true] at hc
    obtain ⟨rfl, rfl, rfl⟩ := hc
    exact ⟨[], rfl, fun k hk => by simp at hk, Nat.le_refl _, Nat.zero_le _⟩
  · rw [hcs] at hc
    simp only [List.cons.injEq, Value.slice.injEq, and_true] at hc
    obtain ⟨rfl, rfl, rfl⟩ := hc
    simp only [if_true] at hmm
    rw [t0, t1] at hrow
    have each : ∀ i, i < m → ∃ y : (List Int × Option Addr × Nat) × (List Int × Option Addr × Nat), (V0 i = .slice y.1.2.1 y.1.1.length y.1.2.2 ∧ Ints w.heap.size w y.1.2.1 y.1.1 ∧ y.1.1.length ≤ y.1.2.2 ∧ y.1.2.2 ≤ maxLen) ∧ (V1 i = .slice y.2.2.1 y.2.1.length y.2.2.2 ∧ Ints w.heap.size w y.2.2.1 y.2.1 ∧ y.2.1.length ≤ y.2.2.2 ∧ y.2.2.2 ≤ maxLen) := fun i hi => by
      obtain ⟨_, _, h0, h1⟩ := hrow i hi
      obtain ⟨y0, hy0⟩ := term_open h0
      obtain ⟨y1, hy1⟩ := term_open h1
      exact ⟨(y0, y1), hy0, hy1⟩
    obtain ⟨y, hy⟩ := choose_lt each
    refine ⟨(List.range len).map fun i => ((y i).1.1, (y i).2.1), by simp, fun k hk => ?_, hl, hm⟩
    have hk' : k < len := by simpa using hk
    obtain ⟨c0, c1', _, _⟩ := hrow k (by omega)
    obtain ⟨⟨e0, i0, q0, r0⟩, ⟨e1, i1, q1, r1⟩⟩ := hy k (by omega)
    have hsp := World.cell?_spot (hrow 0 (by omega)).1
    obtain ⟨b, off, spot⟩ := ad
    have hspot : spot = none := by simpa [Addr.add] using hsp
    subst hspot
    rw [add_plain] at c0 c1'
    have e : ((List.range len).map fun i => ((y i).1.1, (y i).2.1))[k]?.getD ([], []) = ((y k).1.1, (y k).2.1) := by simp [hk']
    rw [e]
    exact ⟨b, off, rfl, by simpa using lt_of_cell c0, _, _, _, _, by rw [← e0]; exact c0, by rw [← e1, Nat.add_assoc]; exact c1', i0, i1, q0, r0, q1, r1⟩

end Go.Proofs.Ytloealnfbpegnab

namespace Go.Proofs.Ytloealnfbpegnab
open Go.Proofs Go.RowKit Go.Shelf

namespace Wb
def sg (zs : List Int) (p : Nat) : Int := zs[p]?.getD 0
/-- Each variable stands at its own place first of all; behind them terms. -/
structure Good (zs : List Int) : Prop where
  len : zs.length ≤ 5000
  eight : 8 ≤ zs.length
  known : ∀ p, p < zs.length → -8 ≤ sg zs p ∧ sg zs p < 6
  vars : ∀ i, i < 8 → sg zs i = -1 - (i : Int)
  ends : ∀ p, p < zs.length → Tm.endAt zs p ≤ zs.length
/-- The place that a place is looked up at. -/
def can (zs : List Int) (p : Nat) : Nat := if sg zs p < 0 then (-1 - sg zs p).toNat else p
theorem can_pos {zs : List Int} {p : Nat} (h : 0 ≤ sg zs p) : can zs p = p := by unfold can; rw [if_neg (by omega)]
theorem can_lt {zs : List Int} (G : Good zs) {p : Nat} (h : p < zs.length) : can zs p < zs.length := by
  have := G.known p h
  have := G.eight
  unfold can
  split <;> omega
theorem sg_can {zs : List Int} (G : Good zs) {p : Nat} (h : p < zs.length) : sg zs (can zs p) = sg zs p := by
  by_cases hs : sg zs p < 0
  · unfold can
    rw [if_pos hs]
    have := G.known p h
    rw [G.vars _ (by omega)]
    omega
  · rw [can_pos (by omega)]
theorem can_can {zs : List Int} (G : Good zs) {p : Nat} (h : p < zs.length) : can zs (can zs p) = can zs p := by
  have e := sg_can G h
  by_cases hs : sg zs p < 0
  · rw [show can zs (can zs p) = (-1 - sg zs (can zs p)).toNat from by conv => lhs; rw [can]
                                                                       rw [if_pos (by rw [e]; exact hs)], e]
    unfold can; rw [if_pos hs]
  · rw [can_pos (p := can zs p) (by rw [e]; omega)]

/-- T: which place each is tied to; h: which place stands for each (of places that are looked up at). -/
structure St (zs : List Int) (T : Nat → Option Nat) (h : Nat → Nat) : Prop where
  root : ∀ p, p < zs.length → can zs p = p → h p < zs.length ∧ can zs (h p) = h p ∧ h (h p) = h p
  free : ∀ p, p < zs.length → can zs p = p → (T p = none ↔ h p = p)
  next : ∀ p q, p < zs.length → can zs p = p → T p = some q → q < zs.length ∧ can zs q = q ∧ h q = h p
  down : ∃ st : Nat → Nat, ∀ p q, p < zs.length → can zs p = p → T p = some q → st q < st p
  up : ∀ p, p < zs.length → can zs p = p → sg zs p ≤ sg zs (h p)
  out : ∀ p, zs.length ≤ p → h p = p ∧ T p = none
theorem St.start (zs : List Int) : St zs (fun _ => none) (fun p => p) :=
  ⟨fun p h1 h2 => ⟨h1, h2, rfl⟩, fun p _ _ => by simp, fun p q _ _ h => by simp at h, ⟨fun _ => 0, fun p q _ _ h => by simp at h⟩, fun p _ _ => Int.le_refl _, fun _ _ => ⟨rfl, rfl⟩⟩
def updN (T : Nat → Option Nat) (o n : Nat) : Nat → Option Nat := fun p => if p = o then some n else T p
def mg (h : Nat → Nat) (o n : Nat) : Nat → Nat := fun p => if h p = o then n else h p
theorem St.merge {zs : List Int} {T : Nat → Option Nat} {h : Nat → Nat} (S : St zs T h) {o n : Nat} (ho : o < zs.length) (hn : n < zs.length) (co : can zs o = o) (cn : can zs n = n) (ro : h o = o) (rn : h n = n) (hne : o ≠ n) (hs : sg zs o ≤ sg zs n) :
    St zs (updN T o n) (mg h o n) := by
  have hmn : mg h o n n = n := by unfold mg; rw [rn, if_neg (fun e => hne e.symm)]
  have hmo : mg h o n o = n := by unfold mg; rw [if_pos ro]
  refine ⟨fun p h1 h2 => ?_, fun p h1 h2 => ?_, fun p q h1 h2 h3 => ?_, ?_, fun p h1 h2 => ?_, fun p hp => ?_⟩
  · obtain ⟨a, b, c⟩ := S.root p h1 h2
    by_cases e : h p = o
    · have : mg h o n p = n := by unfold mg; rw [if_pos e]
      rw [this]; exact ⟨hn, cn, hmn⟩
    · have : mg h o n p = h p := by unfold mg; rw [if_neg e]
      rw [this]
      refine ⟨a, b, ?_⟩
      unfold mg; rw [c, if_neg e]
  · by_cases e : p = o
    · subst e
      rw [hmo]
      simp [updN]
      exact fun e => hne e.symm
    · have hT : updN T o n p = T p := by simp [updN, e]
      rw [hT, S.free p h1 h2]
      unfold mg
      by_cases e2 : h p = o
      · rw [if_pos e2]
        constructor
        · intro e3; exact absurd (e3.symm.trans e2) e
        · intro e3; subst e3; rw [rn] at e2; exact absurd e2.symm hne
      · rw [if_neg e2]
  · by_cases e : p = o
    · subst e
      simp [updN] at h3
      subst h3
      exact ⟨hn, cn, by rw [hmn, hmo]⟩
    · have hT : updN T o n p = T p := by simp [updN, e]
      rw [hT] at h3
      obtain ⟨a, b, c⟩ := S.next p q h1 h2 h3
      exact ⟨a, b, by unfold mg; rw [c]⟩
  · obtain ⟨st, hst⟩ := S.down
    refine ⟨fun p => if h p = o then st p + (st n + 1) else st p, fun p q h1 h2 h3 => ?_⟩
    show (if h q = o then st q + (st n + 1) else st q) < (if h p = o then st p + (st n + 1) else st p)
    by_cases e : p = o
    · subst e
      simp [updN] at h3
      subst h3
      rw [if_neg (by rw [rn]; exact fun e => hne e.symm), if_pos ro]
      omega
    · have hT : updN T o n p = T p := by simp [updN, e]
      rw [hT] at h3
      have hc := (S.next p q h1 h2 h3).2.2
      have hl := hst p q h1 h2 h3
      rw [hc]
      by_cases e2 : h p = o
      · rw [if_pos e2, if_pos e2]; omega
      · rw [if_neg e2, if_neg e2]; exact hl
  · have := S.up p h1 h2
    unfold mg
    by_cases e : h p = o
    · rw [if_pos e]; rw [e] at this; omega
    · rw [if_neg e]; exact this
  · obtain ⟨e1, e2⟩ := S.out p hp
    refine ⟨by unfold mg; rw [e1, if_neg (by omega)], ?_⟩
    unfold updN
    rw [if_neg (by omega)]
    exact e2
/-- How many places stand for themselves. -/
def rt (zs : List Int) (h : Nat → Nat) : Nat := ((List.range zs.length).filter fun p => decide (can zs p = p ∧ h p = p)).length
theorem filter_lt {α : Type} (l : List α) (f g : α → Bool) (hle : ∀ x ∈ l, f x = true → g x = true) (x : α) (hx : x ∈ l) (h1 : f x = false) (h2 : g x = true) : (l.filter f).length < (l.filter g).length := by
  have hmono : ∀ (l : List α), (∀ x ∈ l, f x = true → g x = true) → (l.filter f).length ≤ (l.filter g).length := by
    intro l
    induction l with
    | nil => intro _; simp
    | cons y l ih =>
      intro h
      have := ih (fun x hx => h x (by simp [hx]))
      rw [List.filter_cons, List.filter_cons]
      by_cases hf : f y = true
      · rw [if_pos hf, if_pos (h y (by simp) hf)]; simp; omega
      · rw [if_neg hf]; split <;> (try simp) <;> omega
  induction l with
  | nil => simp at hx
  | cons y l ih =>
    rw [List.filter_cons, List.filter_cons]
    rcases List.mem_cons.1 hx with e | hm
    · subst e
      have := hmono l (fun x hx => hle x (by simp [hx]))
      rw [if_neg (by rw [h1]; decide), if_pos h2]
      simp; omega
    · have := ih (fun x hx => hle x (by simp [hx])) hm
      by_cases hf : f y = true
      · rw [if_pos hf, if_pos (hle y (by simp) hf)]; simp; omega
      · rw [if_neg hf]; split <;> (try simp) <;> omega
theorem rt_merge {zs : List Int} {h : Nat → Nat} {o n : Nat} (ho : o < zs.length) (co : can zs o = o) (ro : h o = o) (rn : h n = n) (hne : o ≠ n) : rt zs (mg h o n) < rt zs h := by
  refine filter_lt _ _ _ (fun p _ hp => ?_) o (List.mem_range.2 ho) ?_ ?_
  · simp only [decide_eq_true_eq] at hp ⊢
    refine ⟨hp.1, ?_⟩
    have h2 := hp.2
    unfold mg at h2
    by_cases e : h p = o
    · rw [if_pos e] at h2; subst h2; exact rn
    · rw [if_neg e] at h2; exact h2
  · simp only [decide_eq_false_iff_not]
    rintro ⟨_, h2⟩
    unfold mg at h2
    rw [if_pos ro] at h2
    exact hne h2.symm
  · simp [co, ro]

/-- Which place stands for a place. -/
def hd (zs : List Int) (h : Nat → Nat) (p : Nat) : Nat := h (can zs p)
theorem hd_lt {zs : List Int} (G : Good zs) {T : Nat → Option Nat} {h : Nat → Nat} (S : St zs T h) {p : Nat} (hp : p < zs.length) : hd zs h p < zs.length ∧ can zs (hd zs h p) = hd zs h p ∧ h (hd zs h p) = hd zs h p :=
  S.root _ (can_lt G hp) (can_can G hp)
theorem hd_up {zs : List Int} (G : Good zs) {T : Nat → Option Nat} {h : Nat → Nat} (S : St zs T h) {p : Nat} (hp : p < zs.length) : sg zs p ≤ sg zs (hd zs h p) := by
  have := S.up _ (can_lt G hp) (can_can G hp)
  rw [sg_can G hp] at this
  exact this
end Wb

end Go.Proofs.Ytloealnfbpegnab

namespace Go.Proofs.Ytloealnfbpegnab
open Go.Proofs Go.RowKit Go.Shelf Go.Maps

section
variable {F : Fence} {nF : Nat} (w : World) {ops : Array Oper} {rest : List Oper} {o : Oper} {a : Act} {Q : Exit → Act → World → Prop}
theorem wpi_look_ok (hg : o.guard = none) (m x : Operand) (t : TypeId) (hop : o.op = Op.lookup t m x true) (e : TypeId) (ht : Try.prog.underlying t = some (.map 3 e)) {z : Value} (hz : (zeroValue e).run Try.prog w = .ok z w) (b n : Nat) (M : Int → Option Value)
    (hm : a.eval m = .map (some b)) (hI : IntMap w b n M) (key : Int) (hx : a.eval x = .int .i64 key) (hwf : (Lit.int .i64 key).wf = true) (v : Value) (q : Bool) (hv : (M key).getD z = v) (hq : (M key).isSome = q)
    (hK : wpListIn F nF Try.prog ops Q rest (a.put o.dst (.tuple #[v, .bool q])) w) : wpListIn F nF Try.prog ops Q (o :: rest) a w := by
  refine wpListIn_plain hg fun K' hK' => ?_
  have hrun := (hI.look ht hz hwf).1
  rw [hv, hq] at hrun
  unfold Oper.wpIn
  refine ⟨by simp [Oper.about, hop], ?_⟩
  rw [Oper.semAt_plain F _ _ (by rw [hop]; intro c hc'; cases hc')]
  simp [execOp, hop, hm, hx, hrun, Result.andThen]
  exact hK' _ _ hK
end

/-- BLOCK Bw IS A WEB: its signs zs at a, its ties T in block Bm. -/
structure WebAt (W : World) (Bw Bm : Nat) (a : Option Addr) (cap : Nat) (zs : List Int) (N : Nat) (T : Nat → Option Nat) : Prop where
  web : W.heap[Bw]? = some (.cells #[.slice a zs.length cap, .map (some Bm)] 91 (0, 0))
  ints : Ints W.heap.size W a zs
  ties : ∃ M, IntMap W Bm N M ∧ ∀ p : Nat, M (p : Int) = (T p).map fun q => .int .i64 (q : Int)
theorem WebAt.cell0 {W : World} {Bw Bm : Nat} {a : Option Addr} {cap : Nat} {zs : List Int} {N : Nat} {T : Nat → Option Nat} (h : WebAt W Bw Bm a cap zs N T) : W.cell? ⟨Bw, 0, none⟩ = some (.slice a zs.length cap) := (cell_at h.web 0).trans rfl
theorem WebAt.cell1 {W : World} {Bw Bm : Nat} {a : Option Addr} {cap : Nat} {zs : List Int} {N : Nat} {T : Nat → Option Nat} (h : WebAt W Bw Bm a cap zs N T) : W.cell? ⟨Bw, 1, none⟩ = some (.map (some Bm)) := (cell_at h.web 1).trans rfl
theorem WebAt.below {W W' : World} {Bw Bm : Nat} {a : Option Addr} {cap : Nat} {zs : List Int} {N : Nat} {T : Nat → Option Nat} (h : WebAt W Bw Bm a cap zs N T) (hB : Below W.heap.size W W') : WebAt W' Bw Bm a cap zs N T := by
  refine ⟨(hB.block Bw (Array.getElem?_eq_some_iff.1 h.web).1).trans h.web, (h.ints.below hB).mono hB.size, ?_⟩
  obtain ⟨M, hM, hT⟩ := h.ties
  exact ⟨M, hM.keep (hB.block Bm hM.lt), hT⟩
theorem WebAt.lt {W : World} {Bw Bm : Nat} {a : Option Addr} {cap : Nat} {zs : List Int} {N : Nat} {T : Nat → Option Nat} (h : WebAt W Bw Bm a cap zs N T) : Bw < W.heap.size ∧ Bm < W.heap.size := by
  obtain ⟨M, hM, hT⟩ := h.ties
  exact ⟨(Array.getElem?_eq_some_iff.1 h.web).1, hM.lt⟩
theorem wfN {n : Nat} (h : n ≤ 100000) : (Lit.int .i64 (n : Int)).wf = true := by
  simp [Lit.wf, IntKind.min, IntKind.max, IntKind.signed, IntKind.bits]
  omega

attribute [local go_sem] Oper.semAt_some

set_option maxRecDepth 100000 in
set_option maxHeartbeats 1000000 in
/-- (*web).head. -/
theorem head_in (F : Fence) (hF : Pl F) (n : Nat) (zs : List Int) (T : Nat → Option Nat) (h : Nat → Nat) (G : Wb.Good zs) (S : Wb.St zs T h) (Bw Bm : Nat) (a : Option Addr) (cap N p : Nat) (hp : p < zs.length) (w : World) (hW : WebAt w Bw Bm a cap zs N T) :
    CallsIn F n Try.prog 63 #[.pointer (some ⟨Bw, 0, none⟩), .int .i64 (p : Int)] w fun e w' => e = .returned (.int .i64 (Wb.hd zs h p : Int)) ∧ w' = w := by
  obtain ⟨hro, hfn, hdd⟩ := fx_facts hF
  have hf := hfn _ _ Try.func63
  clear hF hfn
  have hl5 := G.len
  have hl5' : (zs.length : Int) ≤ 5000 := by omega
  have hp' : (p : Int) < (zs.length : Int) := by omega
  have hw0 := hW.cell0
  have hw1 := hW.cell1
  obtain ⟨M, hM, hT⟩ := hW.ties
  obtain ⟨b, off, rfl, hb, hc⟩ := hW.ints.at (by omega)
  have hcp : w.cell? ⟨b, off + p, none⟩ = some (.int .i64 (Wb.sg zs p)) := hc p hp
  obtain ⟨st, hst⟩ := S.down
  have hcl := Wb.can_lt G hp
  have hcc := Wb.can_can G hp
  have hkn := G.known p hp
  have HS := hid S
  have Hst := hid hst
  have HM := hid hM
  have HT := hid hT
  have hcan : Hid (Wb.can zs p = if Wb.sg zs p < 0 then (-1 - Wb.sg zs p).toNat else p) := rfl
  have hhd : Hid (Wb.hd zs h p = h (Wb.can zs p)) := rfl
  clear S hst hM hT hc hW G
  generalize Wb.hd zs h p = r at *
  generalize Wb.sg zs p = s at *
  generalize Wb.can zs p = c at *
  by_cases hs : s < 0
  · have hce : (-1 : Int) - s = (c : Int) := by rw [hcan.out, if_pos hs]; omega
    refine callsIn_of_wp Try.func63 rfl hf ?_ hro
    simp only [Try.ntmps63, List.size_toArray, List.length_cons, List.length_nil, Nat.reduceAdd, Nat.reduceSub, Array.replicate_succ, Array.replicate_zero, List.push_toArray, List.append_toArray, List.nil_append, List.cons_append]
    gi_wp2
    gi_loopw [1] (fun x wr => ∃ q : Nat, x = .int .i64 (q : Int) ∧ q < zs.length ∧ Wb.can zs q = q ∧ Hid (h q = h c) ∧ wr = w) (fun x _ => st (intOf x).toNat)
    case atStart => exact ⟨c, by rw [← hce], hcl, hcc, rfl, rfl⟩
    case round =>
      obtain ⟨q, rfl, hq, hcq, hhq, rfl⟩ := hrel
      have hwf := wfN (n := q) (by omega)
      cases hTq : T q with
      | none =>
        have hMq : (M (q : Int)) = none := by rw [HT.out, hTq]; rfl
        have hroot := hid ((HS.out.free q hq hcq).1 hTq)
        clear hTq
        gi_wp2_with (gi_at_lookup; (refine wpi_look_ok _ rfl _ _ 89 rfl 3 Try.underlying89 (zeroInt _) Bm N M rfl HM.out (q : Int) rfl hwf (.int .i64 0) false (by rw [hMq]; rfl) (by rw [hMq]; rfl) ?_))
        go_ret
        exact ⟨by rw [hhd.out, ← hhq.out, hroot.out]; rfl, rfl⟩
      | some q2 =>
        have hMq : (M (q : Int)) = some (.int .i64 (q2 : Int)) := by rw [HT.out, hTq]; rfl
        obtain ⟨g1, g2, g3⟩ := HS.out.next q q2 hq hcq hTq
        have hlt := Hst.out q q2 hq hcq hTq
        have g3' := hid (g3.trans hhq.out)
        clear hTq g3
        gi_wp2_with (gi_at_lookup; (refine wpi_look_ok _ rfl _ _ 89 rfl 3 Try.underlying89 (zeroInt _) Bm N M rfl HM.out (q : Int) rfl hwf (.int .i64 (q2 : Int)) true (by rw [hMq]; rfl) (by rw [hMq]; rfl) ?_))
        exact ⟨⟨q2, rfl, g1, g2, g3', by first | rfl | trivial⟩, by simpa [intOf] using hlt⟩
  · have hce : Hid ((p : Int) = (c : Int)) := by show _ = _; rw [hcan.out, if_neg hs]
    have hs0 : (0 : Int) ≤ s := by omega
    have hsd : decide (s < 0) = false := by simpa using hs
    clear hs
    refine callsIn_of_wp Try.func63 rfl hf ?_ hro
    simp only [Try.ntmps63, List.size_toArray, List.length_cons, List.length_nil, Nat.reduceAdd, Nat.reduceSub, Array.replicate_succ, Array.replicate_zero, List.push_toArray, List.append_toArray, List.nil_append, List.cons_append]
    gi_wp2
    gi_loopw [1] (fun x wr => ∃ q : Nat, x = .int .i64 (q : Int) ∧ q < zs.length ∧ Wb.can zs q = q ∧ Hid (h q = h c) ∧ wr = w) (fun x _ => st (intOf x).toNat)
    case atStart => exact ⟨c, by rw [← hce.out], hcl, hcc, rfl, rfl⟩
    case round =>
      obtain ⟨q, rfl, hq, hcq, hhq, rfl⟩ := hrel
      have hwf := wfN (n := q) (by omega)
      cases hTq : T q with
      | none =>
        have hMq : (M (q : Int)) = none := by rw [HT.out, hTq]; rfl
        have hroot := hid ((HS.out.free q hq hcq).1 hTq)
        clear hTq
        gi_wp2_with (gi_at_lookup; (refine wpi_look_ok _ rfl _ _ 89 rfl 3 Try.underlying89 (zeroInt _) Bm N M rfl HM.out (q : Int) rfl hwf (.int .i64 0) false (by rw [hMq]; rfl) (by rw [hMq]; rfl) ?_))
        go_ret
        exact ⟨by rw [hhd.out, ← hhq.out, hroot.out]; rfl, rfl⟩
      | some q2 =>
        have hMq : (M (q : Int)) = some (.int .i64 (q2 : Int)) := by rw [HT.out, hTq]; rfl
        obtain ⟨g1, g2, g3⟩ := HS.out.next q q2 hq hcq hTq
        have hlt := Hst.out q q2 hq hcq hTq
        have g3' := hid (g3.trans hhq.out)
        clear hTq g3
        gi_wp2_with (gi_at_lookup; (refine wpi_look_ok _ rfl _ _ 89 rfl 3 Try.underlying89 (zeroInt _) Bm N M rfl HM.out (q : Int) rfl hwf (.int .i64 (q2 : Int)) true (by rw [hMq]; rfl) (by rw [hMq]; rfl) ?_))
        exact ⟨⟨q2, rfl, g1, g2, g3', by first | rfl | trivial⟩, by simpa [intOf] using hlt⟩

end Go.Proofs.Ytloealnfbpegnab

namespace Go.Proofs.Ytloealnfbpegnab
open Go.Proofs Go.RowKit Go.Shelf

namespace Wb
abbrev Sb := Int → List Int
def App (θ : Sb) (t : List Int) : List Int := t.flatMap fun s => if s < 0 then θ s else [s]
/-- Each variable becomes a term. -/
def TermSb (θ : Sb) : Prop := ∀ s, s < 0 → Tm.run (θ s) 1 = (θ s).length
theorem App_nil (θ : Sb) : App θ [] = [] := rfl
theorem App_cons (θ : Sb) (s : Int) (l : List Int) : App θ (s :: l) = (if s < 0 then θ s else [s]) ++ App θ l := by simp [App]
theorem App_append (θ : Sb) (l r : List Int) : App θ (l ++ r) = App θ l ++ App θ r := by simp [App]
theorem App_flatten (θ : Sb) (l : List (List Int)) : App θ l.flatten = (l.map (App θ)).flatten := by
  induction l with
  | nil => rfl
  | cons x l ih => rw [List.flatten_cons, App_append, ih, List.map_cons, List.flatten_cons]
theorem room_var {s : Int} (h : s < 0) : Tm.room s = 0 := by unfold Tm.room; rw [if_neg (by omega), if_neg (by omega)]
theorem App_run {θ : Sb} (hθ : TermSb θ) : ∀ (t : List Int) (n : Nat), Tm.run t n = t.length → Tm.run (App θ t) n = (App θ t).length := by
  intro t
  induction t with
  | nil => intro n hr; rw [Tm.run_nil] at hr; subst hr; rw [List.length_nil, Tm.run_zero]; rfl
  | cons s l ih =>
    intro n hr
    cases n with
    | zero => rw [Tm.run_zero, List.length_cons] at hr; omega
    | succ n =>
      rw [Tm.run_cons, List.length_cons] at hr
      rw [App_cons]
      by_cases hs : s < 0
      · rw [room_var hs, Nat.add_zero] at hr
        rw [if_pos hs, show n + 1 = 1 + n from by omega, Tm.run_add, Tm.run_app _ _ 1 (by rw [hθ s hs]; omega), hθ s hs, List.drop_left, ih n (by omega), List.length_append]
      · rw [if_neg hs, List.singleton_append, Tm.run_cons, List.length_cons, ih _ (by omega)]
        omega

/-- What stands at a place; the places of its parts. -/
def cont (zs : List Int) (p : Nat) : List Int := Tm.part zs p
def kids (zs : List Int) (p : Nat) : List Nat := (List.range (Tm.room (sg zs p))).map (Tm.pos zs p)
theorem kids_length (zs : List Int) (p : Nat) : (kids zs p).length = Tm.room (sg zs p) := by simp [kids]
theorem pos_end {zs : List Int} {p : Nat} (hp : p < zs.length) : Tm.endAt zs p = Tm.pos zs p (Tm.room (sg zs p)) := Tm.endAt_in zs p hp
theorem pos_lt {zs : List Int} (k : Nat) {i j : Nat} (h : i < j) : Tm.pos zs k i < Tm.pos zs k j := by
  have h1 := Tm.pos_mono zs k (i + 1) j h
  have h2 := Tm.pos_succ zs k i
  have h3 := Tm.endAt_gt zs (Tm.pos zs k i)
  omega
theorem kid_lt {zs : List Int} (G : Good zs) {p i : Nat} (hp : p < zs.length) (hi : i < Tm.room (sg zs p)) : Tm.pos zs p i < zs.length := by
  have h1 := G.ends p hp
  rw [pos_end hp] at h1
  have := pos_lt (zs := zs) p hi
  omega
theorem kids_flat {zs : List Int} {p : Nat} : ∀ m, Tm.pos zs p m ≤ zs.length → (zs.drop (p + 1)).take (Tm.pos zs p m - (p + 1)) = (((List.range m).map (Tm.pos zs p)).map (cont zs)).flatten := by
  intro m
  induction m with
  | zero => intro _; rw [Tm.pos_zero]; simp
  | succ m ih =>
    intro h
    have h1 := Tm.pos_succ zs p m
    have h2 := Tm.pos_gt zs p m
    have h3 := Tm.endAt_gt zs (Tm.pos zs p m)
    rw [List.range_succ, List.map_append, List.map_append, List.flatten_append, ← ih (by omega)]
    simp only [List.map_cons, List.map_nil, List.flatten_cons, List.flatten_nil, List.append_nil]
    unfold cont Tm.part
    rw [h1, show Tm.endAt zs (Tm.pos zs p m) - (p + 1) = (Tm.pos zs p m - (p + 1)) + (Tm.endAt zs (Tm.pos zs p m) - Tm.pos zs p m) from by omega, List.take_add, List.drop_drop, show p + 1 + (Tm.pos zs p m - (p + 1)) = Tm.pos zs p m from by omega]
theorem cont_eq {zs : List Int} (G : Good zs) {p : Nat} (hp : p < zs.length) : cont zs p = sg zs p :: ((kids zs p).map (cont zs)).flatten := by
  have h1 := G.ends p hp
  have h2 := Tm.endAt_gt zs p
  rw [show ((kids zs p).map (cont zs)).flatten = (zs.drop (p + 1)).take (Tm.pos zs p (Tm.room (sg zs p)) - (p + 1)) from (kids_flat _ (by rw [← pos_end hp]; exact h1)).symm, ← pos_end hp]
  unfold cont Tm.part
  rw [show Tm.endAt zs p - p = (Tm.endAt zs p - (p + 1)) + 1 from by omega, List.drop_eq_getElem_cons hp, List.take_succ_cons]
  congr 1
  simp [sg, hp]
theorem cont_run {zs : List Int} (G : Good zs) {p : Nat} (hp : p < zs.length) : Tm.run (cont zs p) 1 = (cont zs p).length := by
  have h1 := G.ends p hp
  unfold Tm.endAt at h1
  have hl : Tm.run (zs.drop p) 1 ≤ (zs.drop p).length := by rw [List.length_drop]; omega
  have := Tm.run_take (zs.drop p) 1 hl
  unfold cont Tm.part Tm.endAt
  rw [show p + Tm.run (zs.drop p) 1 - p = Tm.run (zs.drop p) 1 from by omega, this, List.length_take]
  omega
theorem cont_var {zs : List Int} (G : Good zs) {p : Nat} (hp : p < zs.length) (hs : sg zs p < 0) : cont zs p = [sg zs p] := by
  rw [cont_eq G hp, show kids zs p = [] from by unfold kids; rw [room_var hs]; rfl]; rfl
theorem cont_can {zs : List Int} (G : Good zs) {p : Nat} (hp : p < zs.length) : cont zs (can zs p) = cont zs p := by
  by_cases hs : sg zs p < 0
  · rw [cont_var G hp hs, cont_var G (can_lt G hp) (by rw [sg_can G hp]; exact hs), sg_can G hp]
  · rw [can_pos (by omega)]

theorem flatten_inj : ∀ (l l' : List (List Int)), (∀ x ∈ l, Tm.run x 1 = x.length) → (∀ x ∈ l', Tm.run x 1 = x.length) → l.length = l'.length → l.flatten = l'.flatten → l = l' := by
  intro l
  induction l with
  | nil => intro l' _ _ h _; cases l' with
    | nil => rfl
    | cons x l' => simp at h
  | cons x l ih =>
    intro l' h1 h2 h3 h4
    cases l' with
    | nil => simp at h3
    | cons y l' =>
      rw [List.flatten_cons, List.flatten_cons] at h4
      have hx := h1 x (by simp)
      have hy := h2 y (by simp)
      have e1 := Tm.run_app x l.flatten 1 (by omega)
      have e2 := Tm.run_app y l'.flatten 1 (by omega)
      rw [h4, e2] at e1
      obtain ⟨a, b⟩ := List.append_inj h4 (by omega)
      subst a
      rw [ih l' (fun z hz => h1 z (by simp [hz])) (fun z hz => h2 z (by simp [hz])) (by simpa using h3) b]

theorem App_cont {zs : List Int} (G : Good zs) (θ : Sb) {p : Nat} (hp : p < zs.length) (hs : 0 ≤ sg zs p) : App θ (cont zs p) = sg zs p :: ((kids zs p).map fun k => App θ (cont zs k)).flatten := by
  rw [cont_eq G hp, App_cons, if_neg (by omega), App_flatten, List.map_map]
  rfl
theorem kids_get {zs : List Int} {p i : Nat} (hi : i < Tm.room (sg zs p)) : (kids zs p)[i]? = some (Tm.pos zs p i) := by simp [kids, hi]
/-- What becomes the same of two symbols has the same symbol, and parts that become the same. -/
theorem kids_eq {zs : List Int} (G : Good zs) {θ : Sb} (hθ : TermSb θ) {p q : Nat} (hp : p < zs.length) (hq : q < zs.length) (sp : 0 ≤ sg zs p) (sq : 0 ≤ sg zs q) (h : App θ (cont zs p) = App θ (cont zs q)) :
    sg zs p = sg zs q ∧ ∀ i, i < Tm.room (sg zs p) → App θ (cont zs (Tm.pos zs p i)) = App θ (cont zs (Tm.pos zs q i)) := by
  rw [App_cont G θ hp sp, App_cont G θ hq sq] at h
  obtain ⟨e, h2⟩ := List.cons.inj h
  have hrun : ∀ r, r < zs.length → ∀ x ∈ (kids zs r).map (fun k => App θ (cont zs k)), Tm.run x 1 = x.length := fun r hr x hx => by
    rw [List.mem_map] at hx
    obtain ⟨k, hk, rfl⟩ := hx
    unfold kids at hk
    rw [List.mem_map] at hk
    obtain ⟨i, hi, rfl⟩ := hk
    exact App_run hθ _ 1 (cont_run G (kid_lt G hr (List.mem_range.1 hi)))
  have h3 := flatten_inj _ _ (hrun p hp) (hrun q hq) (by simp [kids, e]) h2
  refine ⟨e, fun i hi => ?_⟩
  have h4 := congrArg (fun l => l[i]?) h3
  simp only [List.getElem?_map] at h4
  rw [kids_get hi, kids_get (by rw [← e]; exact hi)] at h4
  simpa using h4
theorem kids_make {zs : List Int} (G : Good zs) (θ : Sb) {p q : Nat} (hp : p < zs.length) (hq : q < zs.length) (sp : 0 ≤ sg zs p) (e : sg zs p = sg zs q) (h : ∀ i, i < Tm.room (sg zs p) → App θ (cont zs (Tm.pos zs p i)) = App θ (cont zs (Tm.pos zs q i))) :
    App θ (cont zs p) = App θ (cont zs q) := by
  rw [App_cont G θ hp sp, App_cont G θ hq (by omega), e]
  congr 2
  unfold kids
  rw [← e, List.map_map, List.map_map]
  exact List.map_congr_left fun i hi => h i (List.mem_range.1 hi)

/-- What a list makes the same of all that is tied. -/
def Resp (zs : List Int) (h : Nat → Nat) (θ : Sb) : Prop := ∀ p, p < zs.length → can zs p = p → App θ (cont zs p) = App θ (cont zs (h p))
theorem Resp.hd {zs : List Int} (G : Good zs) {h : Nat → Nat} {θ : Sb} (R : Resp zs h θ) {p : Nat} (hp : p < zs.length) : App θ (cont zs p) = App θ (cont zs (hd zs h p)) := by
  rw [← cont_can G hp]
  exact R _ (can_lt G hp) (can_can G hp)
/-- What is the same by ties and by pairs. -/
inductive Eqv (zs : List Int) (h : Nat → Nat) (P : List (Nat × Nat)) : Nat → Nat → Prop
  | base (p q : Nat) : p < zs.length → q < zs.length → hd zs h p = hd zs h q → Eqv zs h P p q
  | pair (p q : Nat) : (p, q) ∈ P → Eqv zs h P p q
  | symm (p q : Nat) : Eqv zs h P p q → Eqv zs h P q p
  | trans (p q r : Nat) : Eqv zs h P p q → Eqv zs h P q r → Eqv zs h P p r
def Closed (zs : List Int) (h : Nat → Nat) (P : List (Nat × Nat)) : Prop :=
  ∀ p q, p < zs.length → q < zs.length → 0 ≤ sg zs p → 0 ≤ sg zs q → h p = h q → sg zs p = sg zs q ∧ ∀ i, i < Tm.room (sg zs p) → Eqv zs h P (Tm.pos zs p i) (Tm.pos zs q i)
theorem Eqv.move {zs : List Int} {h h' : Nat → Nat} {P P' : List (Nat × Nat)} (hc : ∀ p q, p < zs.length → q < zs.length → hd zs h p = hd zs h q → hd zs h' p = hd zs h' q) (hP : ∀ p q, (p, q) ∈ P → Eqv zs h' P' p q) {p q : Nat} (e : Eqv zs h P p q) : Eqv zs h' P' p q := by
  induction e with
  | base p q h1 h2 h3 => exact .base p q h1 h2 (hc p q h1 h2 h3)
  | pair p q h1 => exact hP p q h1
  | symm p q _ ih => exact .symm _ _ ih
  | trans p q r _ _ i1 i2 => exact .trans _ _ _ i1 i2

/-- What tying pairs has done. -/
structure TieL (zs : List Int) (h h' : Nat → Nat) (ps : List (Nat × Nat)) : Prop where
  coarse : ∀ p q, p < zs.length → q < zs.length → hd zs h p = hd zs h q → hd zs h' p = hd zs h' q
  sound : ∀ θ, TermSb θ → Resp zs h θ → (∀ p q, (p, q) ∈ ps → App θ (cont zs p) = App θ (cont zs q)) → Resp zs h' θ
  tied : ∀ p q, (p, q) ∈ ps → hd zs h' p = hd zs h' q
  close : ∀ P, Closed zs h (ps ++ P) → Closed zs h' P
theorem TieL.nil (zs : List Int) (h : Nat → Nat) : TieL zs h h [] := ⟨fun _ _ _ _ h => h, fun _ _ R _ => R, fun p q h => by simp at h, fun _ h => h⟩
theorem TieL.snoc {zs : List Int} {h h1 h2 : Nat → Nat} {ps : List (Nat × Nat)} {a b : Nat} (A : TieL zs h h1 ps) (B : TieL zs h1 h2 [(a, b)]) (hps : ∀ p q, (p, q) ∈ ps → p < zs.length ∧ q < zs.length) : TieL zs h h2 (ps ++ [(a, b)]) := by
  refine ⟨fun p q hp hq e => B.coarse p q hp hq (A.coarse p q hp hq e), fun θ hθ R hq => ?_, fun p q hm => ?_, fun P hC => ?_⟩
  · exact B.sound θ hθ (A.sound θ hθ R fun p q hm => hq p q (List.mem_append_left _ hm)) fun p q hm => hq p q (List.mem_append_right _ hm)
  · rcases List.mem_append.1 hm with hm | hm
    · exact B.coarse p q (hps p q hm).1 (hps p q hm).2 (A.tied p q hm)
    · exact B.tied p q hm
  · exact B.close P (A.close ([(a, b)] ++ P) (by rw [← List.append_assoc]; exact hC))

theorem TieL.same {zs : List Int} {h : Nat → Nat} {a b : Nat} (ha : a < zs.length) (hb : b < zs.length) (e : hd zs h a = hd zs h b) : TieL zs h h [(a, b)] := by
  refine ⟨fun _ _ _ _ h => h, fun _ _ R _ => R, fun p q hm => by simp at hm; obtain ⟨rfl, rfl⟩ := hm; exact e, fun P hC p q hp hq sp sq ep => ?_⟩
  obtain ⟨e1, e2⟩ := hC p q hp hq sp sq ep
  refine ⟨e1, fun i hi => (e2 i hi).move (fun _ _ _ _ h => h) fun x y hm => ?_⟩
  simp at hm
  rcases hm with ⟨rfl, rfl⟩ | hm
  · exact .base _ _ ha hb e
  · exact .pair _ _ hm
end Wb

end Go.Proofs.Ytloealnfbpegnab

namespace Go.Proofs.Ytloealnfbpegnab
open Go.Proofs Go.RowKit Go.Shelf

namespace Wb
theorem hd_mg (zs : List Int) (h : Nat → Nat) (o n p : Nat) : hd zs (mg h o n) p = if hd zs h p = o then n else hd zs h p := rfl
theorem mg_coarse (zs : List Int) (h : Nat → Nat) (o n : Nat) : ∀ p q, p < zs.length → q < zs.length → hd zs h p = hd zs h q → hd zs (mg h o n) p = hd zs (mg h o n) q := fun p q _ _ e => by rw [hd_mg, hd_mg, e]
/-- o and n stand for a and b, one for each. -/
def Ends (zs : List Int) (h : Nat → Nat) (a b o n : Nat) : Prop := (hd zs h a = n ∧ hd zs h b = o) ∨ (hd zs h a = o ∧ hd zs h b = n)
theorem Ends.tied {zs : List Int} {h : Nat → Nat} {a b o n : Nat} (E : Ends zs h a b o n) (hne : o ≠ n) : hd zs (mg h o n) a = hd zs (mg h o n) b := by
  rw [hd_mg, hd_mg]
  rcases E with ⟨e1, e2⟩ | ⟨e1, e2⟩
  · rw [e1, e2, if_pos rfl, if_neg (fun e => hne e.symm)]
  · rw [e1, e2, if_pos rfl, if_neg (fun e => hne e.symm)]
theorem Ends.app {zs : List Int} (G : Good zs) {h : Nat → Nat} {a b o n : Nat} (E : Ends zs h a b o n) (ha : a < zs.length) (hb : b < zs.length) {θ : Sb} (R : Resp zs h θ) (e : App θ (cont zs a) = App θ (cont zs b)) : App θ (cont zs o) = App θ (cont zs n) := by
  have h1 := R.hd G ha
  have h2 := R.hd G hb
  rcases E with ⟨e1, e2⟩ | ⟨e1, e2⟩
  · rw [e1] at h1; rw [e2] at h2; rw [← h2, ← h1, e]
  · rw [e1] at h1; rw [e2] at h2; rw [← h1, ← h2, e]
theorem Resp.mg {zs : List Int} {h : Nat → Nat} {o n : Nat} {θ : Sb} (R : Resp zs h θ) (e : App θ (cont zs o) = App θ (cont zs n)) : Resp zs (mg h o n) θ := fun p hp cp => by
  have := R p hp cp
  unfold Wb.mg
  by_cases ep : h p = o
  · rw [if_pos ep, this, ep, e]
  · rw [if_neg ep, this]
/-- A variable is tied. -/
theorem TieL.var {zs : List Int} (G : Good zs) {T : Nat → Option Nat} {h : Nat → Nat} (S : St zs T h) {a b o n : Nat} (ha : a < zs.length) (hb : b < zs.length) (E : Ends zs h a b o n) (hne : o ≠ n) (ov : sg zs o < 0) : TieL zs h (Wb.mg h o n) [(a, b)] := by
  refine ⟨mg_coarse zs h o n, fun θ _ R hq => R.mg (E.app G ha hb R (hq a b (by simp))), fun p q hm => by simp at hm; obtain ⟨rfl, rfl⟩ := hm; exact E.tied hne, fun P hC p q hp hq sp sq e => ?_⟩
  have hno : ∀ x, x < zs.length → 0 ≤ sg zs x → h x ≠ o := fun x hx sx ex => by
    have := S.up x hx (can_pos sx)
    rw [ex] at this
    omega
  have e' : h p = h q := by
    unfold Wb.mg at e
    rw [if_neg (hno p hp sp), if_neg (hno q hq sq)] at e
    exact e
  obtain ⟨e1, e2⟩ := hC p q hp hq sp sq e'
  refine ⟨e1, fun i hi => (e2 i hi).move (mg_coarse zs h o n) fun x y hm => ?_⟩
  simp at hm
  rcases hm with ⟨rfl, rfl⟩ | hm
  · exact .base _ _ ha hb (E.tied hne)
  · exact .pair _ _ hm
/-- The parts of two places, one against the other. -/
def pairsTo (zs : List Int) (n o : Nat) (m : Nat) : List (Nat × Nat) := (List.range m).map fun i => (Tm.pos zs n i, Tm.pos zs o i)
theorem pairsTo_succ (zs : List Int) (n o m : Nat) : pairsTo zs n o (m + 1) = pairsTo zs n o m ++ [(Tm.pos zs n m, Tm.pos zs o m)] := by simp [pairsTo, List.range_succ]
theorem mem_pairsTo {zs : List Int} {n o m p q : Nat} (h : (p, q) ∈ pairsTo zs n o m) : ∃ i, i < m ∧ p = Tm.pos zs n i ∧ q = Tm.pos zs o i := by
  unfold pairsTo at h
  rw [List.mem_map] at h
  obtain ⟨i, hi, e⟩ := h
  cases e
  exact ⟨i, List.mem_range.1 hi, rfl, rfl⟩
theorem pairsTo_mem {zs : List Int} {n o m i : Nat} (h : i < m) : (Tm.pos zs n i, Tm.pos zs o i) ∈ pairsTo zs n o m := by
  unfold pairsTo
  rw [List.mem_map]
  exact ⟨i, List.mem_range.2 h, rfl⟩
/-- Two symbols are tied, and their parts behind that. -/
theorem TieL.sym {zs : List Int} (G : Good zs) {h h2 : Nat → Nat} {a b o n : Nat} (ha : a < zs.length) (hb : b < zs.length) (E : Ends zs h a b o n) (hne : o ≠ n) (ho : o < zs.length) (hn : n < zs.length) (ro : h o = o) (rn : h n = n) (so : 0 ≤ sg zs o)
    (es : sg zs o = sg zs n) (K : TieL zs (Wb.mg h o n) h2 (pairsTo zs n o (Tm.room (sg zs n)))) : TieL zs h h2 [(a, b)] := by
  refine ⟨fun p q hp hq e => K.coarse p q hp hq (mg_coarse zs h o n p q hp hq e), fun θ hθ R hq => ?_, fun p q hm => by simp at hm; obtain ⟨rfl, rfl⟩ := hm; exact K.coarse _ _ ha hb (E.tied hne), fun P hC => K.close P fun p q hp hq sp sq e => ?_⟩
  · have e := E.app G ha hb R (hq a b (by simp))
    refine K.sound θ hθ (R.mg e) fun p q hm => ?_
    obtain ⟨i, hi, rfl, rfl⟩ := mem_pairsTo hm
    exact (kids_eq G hθ hn ho (by omega) so e.symm).2 i hi
  · have mv : ∀ x y, Eqv zs h ([(a, b)] ++ P) x y → Eqv zs (Wb.mg h o n) (pairsTo zs n o (Tm.room (sg zs n)) ++ P) x y := fun x y hxy => hxy.move (mg_coarse zs h o n) fun u v hm => by
      simp at hm
      rcases hm with ⟨rfl, rfl⟩ | hm
      · exact .base _ _ ha hb (E.tied hne)
      · exact .pair _ _ (List.mem_append_right _ hm)
    have on : ∀ i, i < Tm.room (sg zs n) → Eqv zs (Wb.mg h o n) (pairsTo zs n o (Tm.room (sg zs n)) ++ P) (Tm.pos zs o i) (Tm.pos zs n i) := fun i hi => .symm _ _ (.pair _ _ (List.mem_append_left _ (pairsTo_mem hi)))
    have cross : ∀ x y, x < zs.length → y < zs.length → 0 ≤ sg zs x → 0 ≤ sg zs y → h x = o → h y = n → sg zs x = sg zs y ∧ ∀ i, i < Tm.room (sg zs x) → Eqv zs (Wb.mg h o n) (pairsTo zs n o (Tm.room (sg zs n)) ++ P) (Tm.pos zs x i) (Tm.pos zs y i) := fun x y hx hy sx sy ex ey => by
      obtain ⟨e1, e2⟩ := hC x o hx ho sx so (by rw [ex, ro])
      obtain ⟨e3, e4⟩ := hC y n hy hn sy (by omega) (by rw [ey, rn])
      refine ⟨by omega, fun i hi => ?_⟩
      exact .trans _ _ _ (mv _ _ (e2 i hi)) (.trans _ _ _ (on i (by rw [← es, ← e1]; exact hi)) (.symm _ _ (mv _ _ (e4 i (by rw [e3, ← es, ← e1]; exact hi)))))
    have same : h p = h q → sg zs p = sg zs q ∧ ∀ i, i < Tm.room (sg zs p) → Eqv zs (Wb.mg h o n) (pairsTo zs n o (Tm.room (sg zs n)) ++ P) (Tm.pos zs p i) (Tm.pos zs q i) := fun e' => by
      obtain ⟨e1, e2⟩ := hC p q hp hq sp sq e'
      exact ⟨e1, fun i hi => mv _ _ (e2 i hi)⟩
    unfold Wb.mg at e
    by_cases ep : h p = o
    · by_cases eq : h q = o
      · exact same (by rw [ep, eq])
      · rw [if_pos ep, if_neg eq] at e
        exact cross p q hp hq sp sq ep e.symm
    · by_cases eq : h q = o
      · rw [if_neg ep, if_pos eq] at e
        obtain ⟨e1, e2⟩ := cross q p hq hp sq sp eq e
        exact ⟨e1.symm, fun i hi => .symm _ _ (e2 i (by rw [e1]; exact hi))⟩
      · rw [if_neg ep, if_neg eq] at e
        exact same e

/-- Nothing that respects the ties makes them the same. -/
def No (zs : List Int) (h : Nat → Nat) (ps : List (Nat × Nat)) : Prop := ∀ θ, TermSb θ → Resp zs h θ → (∀ p q, (p, q) ∈ ps → App θ (cont zs p) = App θ (cont zs q)) → False
theorem No.clash {zs : List Int} (G : Good zs) {h : Nat → Nat} {a b o n : Nat} (ha : a < zs.length) (hb : b < zs.length) (E : Ends zs h a b o n) (ho : o < zs.length) (hn : n < zs.length) (so : 0 ≤ sg zs o) (sn : 0 ≤ sg zs n) (es : sg zs o ≠ sg zs n) : No zs h [(a, b)] := fun θ hθ R hq =>
  es (kids_eq G hθ ho hn so sn (E.app G ha hb R (hq a b (by simp)))).1
theorem No.sym {zs : List Int} (G : Good zs) {h : Nat → Nat} {a b o n : Nat} (ha : a < zs.length) (hb : b < zs.length) (E : Ends zs h a b o n) (ho : o < zs.length) (hn : n < zs.length) (so : 0 ≤ sg zs o) (sn : 0 ≤ sg zs n)
    (K : No zs (Wb.mg h o n) (pairsTo zs n o (Tm.room (sg zs n)))) : No zs h [(a, b)] := fun θ hθ R hq => by
  have e := E.app G ha hb R (hq a b (by simp))
  refine K θ hθ (R.mg e) fun p q hm => ?_
  obtain ⟨i, hi, rfl, rfl⟩ := mem_pairsTo hm
  exact (kids_eq G hθ hn ho sn so e.symm).2 i hi
theorem No.later {zs : List Int} {h h1 : Nat → Nat} {ps qs rs : List (Nat × Nat)} (A : TieL zs h h1 ps) (B : No zs h1 qs) (hs : ∀ x, x ∈ ps → x ∈ rs) (ht : ∀ x, x ∈ qs → x ∈ rs) : No zs h rs := fun θ hθ R hq =>
  B θ hθ (A.sound θ hθ R fun p q hm => hq p q (hs _ hm)) fun p q hm => hq p q (ht _ hm)
end Wb

end Go.Proofs.Ytloealnfbpegnab
