/-
  A whole struct read out of its box, where the reading stands behind '&&' or '||'. · PLAIN MATHEMATICS: two terms made plain are both what one list of variables makes of them; pairs hold wherever the rules do. · PLAIN MATHEMATICS: pairs hold wherever the rules do; how many there are; in which order their variables stand. · An append of signs in a region that draws its order. · haspref.own, stands, RulesError. · haspref.RulesError.
-/
import Derived.Test.YtgeknojpcjadkaaBpm23
import Derived.Test.YtgeknojpcjadkaaBpm17
import Derived.Deep.AppendLies
import Derived.Deep.RegionHeld3
import Derived.BigRegion
import Derived.Deep.QuietTactic
import Derived.BigQuiet
import Derived.Test.YtgeknojpcjadkaaBpm12
namespace Go.Proofs.Ytgeknojpcjadkaa
open Go.Proofs Go.RowKit Go.Shelf Go.Maps

theorem wpList_row_wanted {P : Program} {ops : Array Oper} {rest : List Oper} {o : Oper} {a : Act} {w : World} {Q : Exit → Act → World → Prop} (hw : Region.wanted o (yielded ops a.tmps) = true) (ty : TypeId) (x : Operand) (ho : o.op = .load ty x)
    (g : Nat) (hx : a.eval x = .pointer (some ⟨g, 0, none⟩)) (t : TypeId) (cs : Array Value) (fr : Nat × Nat) (d : TypeDesc) (hg : w.heap[g]? = some (.cells cs t fr))
    (hu : P.underlying ty = some d) (hd : (match d with | .struct _ | .array _ _ => true | _ => false) = true) (hi : (P.info? ty).map (·.size) = some cs.size)
    (h : wpList P ops Q rest (a.put o.dst (.agg cs)) w) : wpList P ops Q (o :: rest) a w :=
  wpList_step fun _ hK => by rw [if_pos hw]; exact wp_load_row ty x ho g hx t cs fr d hg hu hd hi (hK _ _ h)

end Go.Proofs.Ytgeknojpcjadkaa

namespace Go.Proofs.Ytgeknojpcjadkaa
open Go.Proofs Go.RowKit Go.Shelf Go.Maps

namespace Sn
theorem pigeon : ∀ (n : Nat) (l : List Int), l.Nodup → (∀ x ∈ l, -(n : Int) ≤ x ∧ x < 0) → l.length ≤ n := by
  intro n
  induction n with
  | zero =>
    intro l _ h
    cases l with
    | nil => simp
    | cons x l => have := h x (by simp); omega
  | succ n ih =>
    intro l hn h
    by_cases hm : -((n : Int) + 1) ∈ l
    · have h1 := ih (l.erase (-((n : Int) + 1))) (hn.erase _) (fun x hx => by
        have h2 := (hn.mem_erase_iff).1 hx
        have h3 := h x h2.2
        have h4 := h2.1
        omega)
      rw [List.length_erase_of_mem hm] at h1
      omega
    · have h1 := ih l hn (fun x hx => by
        have h3 := h x hx
        refine ⟨?_, h3.2⟩
        by_cases e : x = -((n : Int) + 1)
        · subst e; exact absurd hx hm
        · omega)
      omega
theorem see_cases (seen : List Int) (s : Int) : (0 ≤ s ∧ Tm.see seen s = seen) ∨ (s < 0 ∧ seen.contains s = true ∧ Tm.see seen s = seen) ∨ (s < 0 ∧ seen.contains s = false ∧ Tm.see seen s = seen ++ [s]) := by
  unfold Tm.see
  by_cases hs : s < 0
  · rw [if_pos hs]
    cases hc : seen.contains s with
    | true => exact .inr (.inl ⟨hs, rfl, by rw [if_pos rfl]⟩)
    | false => exact .inr (.inr ⟨hs, rfl, by rw [if_neg (by simp)]⟩)
  · rw [if_neg hs]; exact .inl ⟨by omega, rfl⟩
theorem see_pre (seen : List Int) (s : Int) : ∃ r, Tm.see seen s = seen ++ r := by
  rcases see_cases seen s with ⟨_, h⟩ | ⟨_, _, h⟩ | ⟨_, _, h⟩
  · exact ⟨[], by rw [h, List.append_nil]⟩
  · exact ⟨[], by rw [h, List.append_nil]⟩
  · exact ⟨[s], h⟩
theorem seen_cons (seen : List Int) (s : Int) (l : List Int) : Tm.seenFrom seen (s :: l) = Tm.seenFrom (Tm.see seen s) l := rfl
theorem seen_app (seen l r : List Int) : Tm.seenFrom seen (l ++ r) = Tm.seenFrom (Tm.seenFrom seen l) r := by simp [Tm.seenFrom, List.foldl_append]
theorem seen_pre : ∀ (t seen : List Int), ∃ r, Tm.seenFrom seen t = seen ++ r := by
  intro t
  induction t with
  | nil => intro seen; exact ⟨[], by rw [List.append_nil]; rfl⟩
  | cons s l ih =>
    intro seen
    obtain ⟨r1, h1⟩ := see_pre seen s
    obtain ⟨r2, h2⟩ := ih (Tm.see seen s)
    exact ⟨r1 ++ r2, by rw [seen_cons, h2, h1, List.append_assoc]⟩
theorem see_mem (seen : List Int) {s : Int} (hs : s < 0) : (Tm.see seen s).contains s = true := by
  rcases see_cases seen s with ⟨h, _⟩ | ⟨_, h, e⟩ | ⟨_, _, e⟩
  · omega
  · rw [e]; exact h
  · rw [e]; simp
theorem see_nodup {seen : List Int} (h : seen.Nodup) (s : Int) : (Tm.see seen s).Nodup := by
  rcases see_cases seen s with ⟨_, e⟩ | ⟨_, _, e⟩ | ⟨_, hc, e⟩
  · rw [e]; exact h
  · rw [e]; exact h
  · rw [e]
    have hn : ¬ s ∈ seen := by simpa using hc
    rw [List.nodup_append]
    exact ⟨h, by simp, fun a ha b hb => by simp at hb; subst hb; rintro rfl; exact hn ha⟩
theorem seen_nodup : ∀ (t seen : List Int), seen.Nodup → (Tm.seenFrom seen t).Nodup := by
  intro t
  induction t with
  | nil => intro seen h; exact h
  | cons s l ih => intro seen h; exact ih _ (see_nodup h s)
theorem see_neg {seen : List Int} (h : ∀ x ∈ seen, -8 ≤ x ∧ x < 0) {s : Int} (h8 : -8 ≤ s) : ∀ x ∈ Tm.see seen s, -8 ≤ x ∧ x < 0 := by
  rcases see_cases seen s with ⟨_, e⟩ | ⟨_, _, e⟩ | ⟨hs, _, e⟩
  · rw [e]; exact h
  · rw [e]; exact h
  · rw [e]
    intro x hx
    rw [List.mem_append] at hx
    rcases hx with hx | hx
    · exact h x hx
    · simp at hx; subst hx; exact ⟨h8, hs⟩
theorem seen_neg : ∀ (t seen : List Int), t.all Tm.known = true → (∀ x ∈ seen, -8 ≤ x ∧ x < 0) → ∀ x ∈ Tm.seenFrom seen t, -8 ≤ x ∧ x < 0 := by
  intro t
  induction t with
  | nil => intro seen _ h; exact h
  | cons s l ih =>
    intro seen hk h
    rw [List.all_cons, Bool.and_eq_true] at hk
    exact ih _ hk.2 (see_neg h (Tm.known_ge hk.1))
theorem idx_lt {seen : List Int} {s : Int} (h : seen.contains s = true) : Tm.idx seen s < seen.length := by
  unfold Tm.idx
  rw [List.findIdx_lt_length]
  exact ⟨s, by simpa using h, by simp⟩
theorem idx_last {seen : List Int} {s : Int} (h : seen.contains s = false) : Tm.idx (seen ++ [s]) s = seen.length := by
  unfold Tm.idx
  rw [List.findIdx_append, if_neg]
  · simp
  · rw [List.findIdx_lt_length]
    rintro ⟨y, hy, e⟩
    have e' : y = s := by simpa using e
    subst e'
    have : ¬ y ∈ seen := by simpa using h
    exact this hy
/-- A variable's new name, by all that are seen in the end. -/
def ren (S : List Int) (s : Int) : Int := if s < 0 then -1 - (Tm.idx S s : Int) else s
theorem name_ren (seen r : List Int) (s : Int) : Tm.name seen s = ren (Tm.see seen s ++ r) s := by
  unfold Tm.name ren
  by_cases hs : s < 0
  · rw [if_pos hs, if_pos hs, Tm.idx_app (see_mem seen hs)]
    rcases see_cases seen s with ⟨h, _⟩ | ⟨_, _, e⟩ | ⟨_, hc, e⟩
    · omega
    · rw [e]
    · rw [e, idx_last hc, Tm.idx_new hc]
  · rw [if_neg hs, if_neg hs]
theorem plain_map (t seen r : List Int) : Tm.plainTo seen t t.length = t.map (ren (Tm.seenFrom seen t ++ r)) := by
  refine List.ext_getElem (by simp [Tm.plainTo_length]) fun i h1 h2 => ?_
  rw [Tm.plainTo_length] at h1
  have hl : (Tm.plainTo seen t t.length)[i]'(by rw [Tm.plainTo_length]; exact h1) = Tm.name (Tm.seenFrom seen (t.take i)) t[i] := by simp [Tm.plainTo, h1]
  rw [List.getElem_map, hl]
  have hd : t = t.take i ++ (t[i] :: t.drop (i + 1)) := by rw [← List.drop_eq_getElem_cons h1, List.take_append_drop]
  obtain ⟨r', hr'⟩ := seen_pre (t.drop (i + 1)) (Tm.see (Tm.seenFrom seen (t.take i)) t[i])
  have hS : Tm.seenFrom seen t ++ r = Tm.see (Tm.seenFrom seen (t.take i)) t[i] ++ (r' ++ r) := by
    conv => lhs; rw [hd]
    rw [seen_app, seen_cons, hr', List.append_assoc]
  have hf := name_ren (Tm.seenFrom seen (t.take i)) (r' ++ r) t[i]
  rw [← hS] at hf
  exact hf
def renL (S : List Int) : List (List Int) := (List.range 8).map fun i : Nat => if S.contains (-1 - (i : Int)) = true then [-1 - (Tm.idx S (-1 - (i : Int)) : Int)] else [-1]
theorem renL_at (S : List Int) {i : Nat} (h : i < 8) : (renL S)[i]?.getD [] = if S.contains (-1 - (i : Int)) = true then [-1 - (Tm.idx S (-1 - (i : Int)) : Int)] else [-1] := by
  unfold renL
  rw [List.getElem?_map, List.getElem?_range h]
  rfl
theorem err_var {v : Int} (h1 : -8 ≤ v) (h2 : v < 0) : Tm.err [v] = 0 := by
  refine Tm.err_ok (by simp) (by simp only [List.all_cons, List.all_nil, Bool.and_true]; exact Tm.known_of h1 (by omega)) ?_
  rw [show (1 : Nat) = 0 + 1 from rfl, Tm.run_cons, Wb.room_var h2, Tm.run_zero]
  rfl
theorem renL_err {S : List Int} (h8 : S.length ≤ 8) : Tm.subErr (renL S) = 0 := by
  unfold Tm.subErr
  rw [if_pos (by simp [renL])]
  refine Tm.firstErr_of fun i hi => ?_
  have hi8 : i < 8 := by simpa [renL] using hi
  rw [renL_at S hi8]
  by_cases hc : S.contains (-1 - (i : Int)) = true
  · rw [if_pos hc]
    have := idx_lt hc
    exact err_var (by omega) (by omega)
  · rw [if_neg hc]; exact err_var (by omega) (by omega)
theorem applied_ren {S : List Int} : ∀ (t : List Int), t.all Tm.known = true → (∀ s ∈ t, s < 0 → S.contains s = true) → Tm.applied (renL S) t = t.map (ren S) := by
  intro t
  induction t with
  | nil => intro _ _; rfl
  | cons s l ih =>
    intro hk hm
    rw [List.all_cons, Bool.and_eq_true] at hk
    rw [Tm.applied_cons, ih hk.2 (fun x hx => hm x (by simp [hx])), List.map_cons]
    have h8 := Tm.known_ge hk.1
    have : Tm.piece (renL S) s = [ren S s] := by
      unfold Tm.piece ren
      by_cases hs : s < 0
      · rw [if_pos hs, if_pos hs, renL_at S (by omega), show -1 - (((-1 - s).toNat : Nat) : Int) = s from by omega, if_pos (hm s (by simp) hs)]
      · rw [if_neg hs, if_neg hs]
    rw [this]
    rfl
theorem seen_has : ∀ (t seen : List Int) (s : Int), s < 0 → (s ∈ t ∨ seen.contains s = true) → (Tm.seenFrom seen t).contains s = true := by
  intro t
  induction t with
  | nil =>
    intro seen s _ h
    rcases h with h | h
    · simp at h
    · exact h
  | cons x l ih =>
    intro seen s hs h
    rw [seen_cons]
    refine ih _ s hs ?_
    rcases h with h | h
    · rcases List.mem_cons.1 h with rfl | h
      · exact .inr (see_mem seen hs)
      · exact .inl h
    · obtain ⟨r, e⟩ := see_pre seen x
      rw [e]
      right
      simp at h ⊢
      exact .inl h
end Sn

/-- Two terms made plain. -/
theorem Tm.plain_ren {X Y : List Int} (eX : Tm.err X = 0) (eY : Tm.err Y = 0) : ∃ ss, Tm.subErr ss = 0 ∧ Tm.plain X = Tm.applied ss X ∧ Tm.plain2 X Y = Tm.applied ss Y ∧ Tm.err (Tm.plain X) = 0 ∧ Tm.err (Tm.plain2 X Y) = 0 := by
  have kX := Tm.err_all eX
  have kY := Tm.err_all eY
  have hneg : ∀ x ∈ Tm.seenFrom (Tm.seenFrom [] X) Y, -8 ≤ x ∧ x < 0 := Sn.seen_neg Y _ kY (Sn.seen_neg X [] kX (fun x hx => by simp at hx))
  have hnd : (Tm.seenFrom (Tm.seenFrom [] X) Y).Nodup := Sn.seen_nodup Y _ (Sn.seen_nodup X [] List.nodup_nil)
  have h8 := Sn.pigeon 8 _ hnd hneg
  have hss := Sn.renL_err h8
  obtain ⟨r, hr⟩ := Sn.seen_pre Y (Tm.seenFrom [] X)
  have pX : Tm.plain X = Tm.applied (Sn.renL (Tm.seenFrom (Tm.seenFrom [] X) Y)) X := by
    rw [Sn.applied_ren X kX (fun s hs h => Sn.seen_has Y _ s h (.inr (Sn.seen_has X [] s h (.inl hs))))]
    have := Sn.plain_map X [] r
    rw [← hr] at this
    exact this
  have pY : Tm.plain2 X Y = Tm.applied (Sn.renL (Tm.seenFrom (Tm.seenFrom [] X) Y)) Y := by
    rw [Sn.applied_ren Y kY (fun s hs h => Sn.seen_has Y _ s h (.inl hs))]
    have := Sn.plain_map Y (Tm.seenFrom [] X) []
    rw [List.append_nil] at this
    exact this
  refine ⟨_, hss, pX, pY, ?_, ?_⟩
  · rw [pX]
    refine Tm.err_applied (Terms.of hss) eX ?_
    rw [← pX]
    show (Tm.plainTo [] X X.length).length ≤ 30
    rw [Tm.plainTo_length]
    exact Tm.err_len eX
  · rw [pY]
    refine Tm.err_applied (Terms.of hss) eY ?_
    rw [← pY]
    show (Tm.plainTo (Tm.seenFrom [] X) Y Y.length).length ≤ 30
    rw [Tm.plainTo_length]
    exact Tm.err_len eY

/-- A rule with its variables made others. -/
def Tm.othL : List (List Int) := [[-5], [-6], [-7], [-8], [-1], [-1], [-1], [-1]]
theorem Tm.others_applied : ∀ (t : List Int), (∀ s ∈ t, -4 ≤ s ∧ s < 6) → Tm.others t = Tm.applied Tm.othL t := by
  intro t
  induction t with
  | nil => intro _; rfl
  | cons s l ih =>
    intro h
    rw [Tm.applied_cons, ← ih (fun x hx => h x (by simp [hx]))]
    have hs := h s (by simp)
    have : Tm.piece Tm.othL s = [Tm.oth s] := by
      have : s = -4 ∨ s = -3 ∨ s = -2 ∨ s = -1 ∨ 0 ≤ s := by omega
      rcases this with rfl | rfl | rfl | rfl | h0
      · decide
      · decide
      · decide
      · decide
      · unfold Tm.piece Tm.oth
        rw [if_neg (by omega), if_neg (by omega)]
    rw [this]
    rfl
theorem Tm.othL_err : Tm.subErr Tm.othL = 0 := by decide +kernel

end Go.Proofs.Ytgeknojpcjadkaa

namespace Go.Proofs.Ytgeknojpcjadkaa
open Go.Proofs Go.RowKit Go.Shelf Go.Maps

/-- The variables stand in their order. -/
def Ordered (B : List Int) : Prop := ∃ nx : Nat → Int, nx 0 = -1 ∧ ∀ n, n < B.length → ¬ B[n]?.getD 0 < nx n ∧ nx (n + 1) = (if B[n]?.getD 0 = nx n then nx n - 1 else nx n) ∧ -100000 ≤ nx n
theorem Sn.both (X Y : List Int) : Tm.plain X ++ Tm.plain2 X Y = Tm.plainTo [] (X ++ Y) (X ++ Y).length := by
  obtain ⟨r, hr⟩ := Sn.seen_pre Y (Tm.seenFrom [] X)
  have h1 := Sn.plain_map X [] r
  have h2 := Sn.plain_map Y (Tm.seenFrom [] X) []
  have h3 := Sn.plain_map (X ++ Y) [] []
  rw [← hr] at h1
  rw [List.append_nil] at h2 h3
  rw [Sn.seen_app] at h3
  show Tm.plainTo [] X X.length ++ Tm.plainTo (Tm.seenFrom [] X) Y Y.length = _
  rw [h1, h2, h3, List.map_append]
theorem Sn.step (S : List Int) (s : Int) (h : S.length ≤ 1000) : ¬ Tm.name S s < -1 - (S.length : Int) ∧ -1 - ((Tm.see S s).length : Int) = (if Tm.name S s = -1 - (S.length : Int) then -1 - (S.length : Int) - 1 else -1 - (S.length : Int)) ∧ -100000 ≤ -1 - (S.length : Int) := by
  rcases Sn.see_cases S s with ⟨h0, e⟩ | ⟨hs, hc, e⟩ | ⟨hs, hc, e⟩
  · have hn : Tm.name S s = s := by unfold Tm.name; rw [if_neg (by omega)]
    rw [hn, e]
    refine ⟨by omega, by rw [if_neg (by omega)], by omega⟩
  · have hn : Tm.name S s = -1 - (Tm.idx S s : Int) := by unfold Tm.name; rw [if_pos hs]
    have := Sn.idx_lt hc
    rw [hn, e]
    refine ⟨by omega, by rw [if_neg (by omega)], by omega⟩
  · have hn : Tm.name S s = -1 - (S.length : Int) := by unfold Tm.name; rw [if_pos hs, Tm.idx_new hc]
    rw [hn, e, List.length_append]
    refine ⟨by omega, by rw [if_pos rfl]; simp; omega, by omega⟩
theorem Tm.plain_ordered (X Y : List Int) (h : (X ++ Y).length ≤ 1000) : Ordered (Tm.plain X ++ Tm.plain2 X Y) := by
  rw [Sn.both]
  generalize X ++ Y = Z at *
  refine ⟨fun n => -1 - ((Tm.seenFrom [] (Z.take n)).length : Int), by simp [Tm.seenFrom], fun n hn => ?_⟩
  rw [Tm.plainTo_length] at hn
  have hb : (Tm.plainTo [] Z Z.length)[n]?.getD 0 = Tm.name (Tm.seenFrom [] (Z.take n)) (Z[n]?.getD 0) := by simp [Tm.plainTo, hn]
  have hle := Tm.seen_len (Z.take n) []
  dsimp only
  rw [hb, Tm.seen_succ [] hn]
  simp only [List.length_take, List.length_nil] at hle
  exact Sn.step _ _ (by omega)

/-- How many symbols. -/
def symN (L : List Int) : Nat := (L.filter fun s => decide (0 ≤ s)).length
theorem symN_snoc {L : List Int} {k : Nat} (h : k < L.length) : symN (L.take (k + 1)) = symN (L.take k) + if (0 : Int) ≤ L[k]?.getD 0 then 1 else 0 := by
  rw [take_snoc h]
  unfold symN
  rw [List.filter_append, List.length_append]
  by_cases h0 : (0 : Int) ≤ L[k]?.getD 0
  · rw [if_pos h0]; simp [h0]
  · rw [if_neg h0]; simp [h0]
theorem Tm.Laps.count {L1 R1 L2 R2 : List Int} {i j : Int} {m : Nat} {l : PairL} (h0 : (0 : Int) ≤ L1[0]?.getD 0) (h : Tm.Laps L1 R1 L2 R2 (Tm.passB L1 i j) m l) : m ≤ L1.length → l.length + (if i = j ∧ 0 < m then 1 else 0) ≤ symN (L1.take m) := by
  induction h with
  | zero => intro _; simp
  | @pass k l h hp ih =>
    intro hk
    have := ih (by omega)
    rw [symN_snoc (by omega)]
    unfold Tm.passB at hp
    simp only [Bool.or_eq_true, Bool.and_eq_true, decide_eq_true_eq] at hp
    by_cases hij : i = j
    · by_cases hk0 : 0 < k
      · rw [if_pos ⟨hij, hk0⟩] at this
        rw [if_pos ⟨hij, by omega⟩]
        omega
      · obtain rfl : k = 0 := by omega
        rw [if_neg (by omega)] at this
        rw [if_pos ⟨hij, by omega⟩, if_pos h0]
        omega
    · rw [if_neg (fun e => hij e.1)] at this ⊢
      omega
  | @no k l val h hp hs ih =>
    intro hk
    have := ih (by omega)
    rw [symN_snoc (by omega)]
    unfold Tm.passB at hp
    simp only [Bool.or_eq_false_iff, Bool.and_eq_false_iff, decide_eq_false_iff_not] at hp
    rw [if_pos (show (0 : Int) ≤ L1[k]?.getD 0 by omega)]
    by_cases hij : i = j
    · have hk0 : 0 < k := by
        rcases hp.2 with e | e
        · omega
        · exact absurd hij e
      rw [if_pos ⟨hij, hk0⟩] at this
      rw [if_pos ⟨hij, by omega⟩]
      omega
    · rw [if_neg (fun e => hij e.1)] at this ⊢
      omega
  | @yes k l val h hp hs he ih =>
    intro hk
    have := ih (by omega)
    rw [symN_snoc (by omega)]
    unfold Tm.passB at hp
    simp only [Bool.or_eq_false_iff, Bool.and_eq_false_iff, decide_eq_false_iff_not] at hp
    rw [if_pos (show (0 : Int) ≤ L1[k]?.getD 0 by omega), List.length_append]
    simp only [List.length_cons, List.length_nil]
    by_cases hij : i = j
    · have hk0 : 0 < k := by
        rcases hp.2 with e | e
        · omega
        · exact absurd hij e
      rw [if_pos ⟨hij, hk0⟩] at this
      rw [if_pos ⟨hij, by omega⟩]
      omega
    · rw [if_neg (fun e => hij e.1)] at this ⊢
      omega

/-- A pair is of two terms, in order, and holds wherever both rules do. -/
def PairGood (L1 R1 L2 R2 : List Int) (x : List Int × List Int) : Prop := Tm.err x.1 = 0 ∧ Tm.err x.2 = 0 ∧ Ordered (x.1 ++ x.2) ∧ ∀ A : Int → Nat → Nat → Nat, (∀ s x y, A s x y < 3) → Tm.Holds A L1 R1 → Tm.Holds A L2 R2 → Tm.Holds A x.1 x.2
theorem Tm.prt_good {L1 R1 L2 R2 : List Int} {m : Nat} {val : List (List Int)} (hm : m < L1.length) (eL : Tm.err L1 = 0) (eR : Tm.err R1 = 0) (eL2 : Tm.err L2 = 0) (eR2 : Tm.err R2 = 0) (fL : ∀ s ∈ L2, -4 ≤ s ∧ s < 6) (fR : ∀ s ∈ R2, -4 ≤ s ∧ s < 6)
    (hs : Tm.MeetSays [(Tm.part L1 m, Tm.others L2)] 0 true val) (he : Tm.prtErr val L1 R1 (m : Int) (Tm.others R2) = 0) : PairGood L1 R1 L2 R2 (Tm.prtVal val L1 R1 (m : Int) (Tm.others R2)) := by
  obtain ⟨hsub, ep, eo, happ, _⟩ := Tm.meet_true hs
  have hv : Tm.prtVal val L1 R1 (m : Int) (Tm.others R2) = (Tm.plain (Tm.applyVal val (Tm.putVal L1 (m : Int) (Tm.others R2))), Tm.plain2 (Tm.applyVal val (Tm.putVal L1 (m : Int) (Tm.others R2))) (Tm.applyVal val R1)) := by unfold Tm.prtVal; rw [if_pos he]
  have hput : Tm.putErr L1 (m : Int) (Tm.others R2) = 0 := by
    by_cases h : Tm.putErr L1 (m : Int) (Tm.others R2) = 0
    · exact h
    · unfold Tm.prtErr at he; rw [if_neg h] at he; exact absurd he h
  have hX : Tm.applyErr val (Tm.putVal L1 (m : Int) (Tm.others R2)) = 0 := by
    by_cases h : Tm.applyErr val (Tm.putVal L1 (m : Int) (Tm.others R2)) = 0
    · exact h
    · unfold Tm.prtErr at he; rw [if_pos hput, if_neg h] at he; exact absurd he h
  have hY : Tm.applyErr val R1 = 0 := by unfold Tm.prtErr at he; rw [if_pos hput, if_pos hX] at he; exact he
  have hpv : Tm.putVal L1 (m : Int) (Tm.others R2) = Tm.put L1 m (Tm.others R2) := by unfold Tm.putVal; rw [if_pos hput]; rfl
  have eo2 : Tm.err (Tm.others R2) = 0 := by
    by_cases h : Tm.err (Tm.others R2) = 0
    · exact h
    · unfold Tm.putErr at hput; rw [if_pos eL, if_neg h] at hput; exact absurd hput h
  obtain ⟨_, eput, lX, vX⟩ := Tm.apply_zero hX
  obtain ⟨_, _, lY, vY⟩ := Tm.apply_zero hY
  have eX := Tm.applyVal_err hX
  have eY := Tm.applyVal_err hY
  rw [hv]
  obtain ⟨ss, hss, pX, pY, e1, e2⟩ := Tm.plain_ren eX eY
  refine ⟨e1, e2, Tm.plain_ordered _ _ (by rw [List.length_append]; have := Tm.err_len eX; have := Tm.err_len eY; omega), fun A hA h1 h2 vs hvs => ?_⟩
  have T := Terms.of hss
  have U := Terms.of hsub
  have O := Terms.of Tm.othL_err
  show Tm.val A vs (Tm.plain _) = Tm.val A vs (Tm.plain2 _ _)
  rw [pX, pY, Tm.val_applied T _ _ (Nat.lt_succ_self _) eX, Tm.val_applied T _ _ (Nat.lt_succ_self _) eY, vX, vY, hpv]
  rw [hpv] at eput
  generalize hus : (fun i : Nat => Tm.val A vs (ss[i]?.getD [])) = us
  have husl : ∀ i, us i < 3 := fun i => by rw [← hus]; exact Tm.val_lt hA hvs _
  rw [Tm.val_applied U _ _ (Nat.lt_succ_self _) eput, Tm.val_applied U _ _ (Nat.lt_succ_self _) eR]
  have hq : Tm.val A us (Tm.applied val (Tm.part L1 m)) = Tm.val A us (Tm.applied val (Tm.others L2)) := by rw [happ]
  rw [Tm.val_applied U _ _ (Nat.lt_succ_self _) ep, Tm.val_applied U _ _ (Nat.lt_succ_self _) eo] at hq
  generalize hts : (fun i : Nat => Tm.val A us (val[i]?.getD [])) = ts at *
  have htsl : ∀ i, ts i < 3 := fun i => by rw [← hts]; exact Tm.val_lt hA husl _
  have hr : Tm.val A ts (Tm.others R2) = Tm.val A ts (Tm.part L1 m) := by
    rw [hq, Tm.others_applied R2 fR, Tm.others_applied L2 fL, Tm.val_applied O _ _ (Nat.lt_succ_self _) eR2, Tm.val_applied O _ _ (Nat.lt_succ_self _) eL2]
    exact (h2 _ (fun i => Tm.val_lt hA htsl _)).symm
  have h3 := Tm.val_put hr eo2 ep _ L1 m (Nat.lt_succ_self _) eL hm
  rw [Tm.put_self] at h3
  rw [h3]
  exact h1 ts htsl
theorem Tm.rule_vars {L R : List Int} (h : Tm.ruleErr L R = 0) : (∀ s ∈ L, -4 ≤ s ∧ s < 6) ∧ (∀ s ∈ R, -4 ≤ s ∧ s < 6) := by
  obtain ⟨eL, eR, fL, fR, _⟩ := Tm.ruleErr_ok h
  have kL := Tm.err_all eL
  have kR := Tm.err_all eR
  rw [List.all_eq_true] at kL kR
  rw [List.any_eq_false] at fL fR
  refine ⟨fun s hs => ⟨?_, Tm.known_lt (kL s hs)⟩, fun s hs => ⟨?_, Tm.known_lt (kR s hs)⟩⟩
  · have := fL s hs
    simp [foreignB] at this
    omega
  · have := fR s hs
    simp [foreignB] at this
    omega
theorem Tm.Laps.good {L1 R1 L2 R2 : List Int} {pass : Nat → Bool} (h1 : Tm.ruleErr L1 R1 = 0) (h2 : Tm.ruleErr L2 R2 = 0) {m : Nat} {l : PairL} (h : Tm.Laps L1 R1 (Tm.others L2) (Tm.others R2) pass m l) : m ≤ L1.length → ∀ x ∈ l, PairGood L1 R1 L2 R2 x := by
  induction h with
  | zero => intro _ x hx; simp at hx
  | pass _ _ ih => intro hm; exact ih (by omega)
  | no _ _ _ ih => intro hm; exact ih (by omega)
  | yes _ _ hs he ih =>
    intro hm x hx
    rcases List.mem_append.1 hx with hx | hx
    · exact ih (by omega) x hx
    · simp at hx
      subst hx
      obtain ⟨eL, eR, _⟩ := Tm.ruleErr_ok h1
      obtain ⟨eL2, eR2, _⟩ := Tm.ruleErr_ok h2
      obtain ⟨fL, fR⟩ := Tm.rule_vars h2
      exact Tm.prt_good (by omega) eL eR eL2 eR2 fL fR hs he
/-- What PairsModel asks of pairs.Of's answer. -/
theorem Tm.of_good {rs : RuleL} {i j : Int} {ps : PairL} (h : Tm.OfSays rs i j 0 ps) : Tm.rulesErr rs = 0 ∧ ∃ a : Nat, a < rs.length ∧ i = (a : Int) ∧ ps.length ≤ symN (rs[a]?.getD ([], [])).1 ∧ (i = j → ps.length < symN (rs[a]?.getD ([], [])).1) ∧
    ∀ k, k < ps.length → Tm.err (ps[k]?.getD ([], [])).1 = 0 ∧ Tm.err (ps[k]?.getD ([], [])).2 = 0 ∧ Ordered ((ps[k]?.getD ([], [])).1 ++ (ps[k]?.getD ([], [])).2) ∧ ∀ zs, worldB zs rs = true → Tm.Holds (mo zs) (ps[k]?.getD ([], [])).1 (ps[k]?.getD ([], [])).2 := by
  rcases h with ⟨h1, h2, _⟩ | ⟨_, _, h2, _⟩ | ⟨hr, a, b, ha, hb, rfl, rfl, h3⟩
  · exact absurd h2.symm h1
  · omega
  · obtain ⟨h8, hall⟩ := Tm.rulesErr_ok hr
    rcases h3 with ⟨_, hl⟩ | ⟨hbad, _⟩
    · have r1 := hall a ha
      have r2 := hall b hb
      obtain ⟨eL, _, _, _, h0, _⟩ := Tm.ruleErr_ok r1
      have hc := hl.count h0 (Nat.le_refl _)
      rw [List.take_length] at hc
      have hpos := Tm.err_pos eL
      refine ⟨hr, a, ha, rfl, by omega, fun e => by rw [if_pos ⟨e, hpos⟩] at hc; omega, fun k hk => ?_⟩
      have hx : (ps[k]?.getD ([], [])) ∈ ps := by rw [List.getElem?_eq_getElem hk]; exact List.getElem_mem hk
      obtain ⟨g1, g2, g3, g4⟩ := hl.good r1 r2 (Nat.le_refl _) _ hx
      refine ⟨g1, g2, g3, fun zs hw => ?_⟩
      have hh := worldB_holds hr hw
      exact g4 (mo zs) (mo_lt zs) (hh a ha) (hh b hb)
    · exact absurd rfl hbad.1

end Go.Proofs.Ytgeknojpcjadkaa

namespace Go.Proofs.Ytgeknojpcjadkaa
open Go.Proofs Go.RowKit Go.Shelf Go.Maps

theorem step_append_new {ops : Array Oper} {o : Oper} {a : Act} {K : Act → World → Prop} {Q : Exit → Act → World → Prop} {E : Prop} (w : World) (hgd : o.guard = none) (s x : Operand)
    (ho : o.op = .call { callee := .builtin .append, args := #[s, x], argTypes := #[37, 37] }) (base : Nat) (v : Value) (xs : List Int) (hs : a.eval s = v) (hN : New base w v xs)
    (ad : Addr) (ys : List Int) (c : Nat) (hx : a.eval x = .slice (some ad) ys.length c) (hp : 0 < ys.length) (hI : Ints w.heap.size w (some ad) ys) (hlen : xs.length + ys.length ≤ 1000000) (hbase : base ≤ w.heap.size)
    (h : ∀ g c' w', New base w' (.slice (some ⟨g, 0, none⟩) (xs.length + ys.length) c') (xs ++ ys) → Below base w w' → K (a.put o.dst (.slice (some ⟨g, 0, none⟩) (xs.length + ys.length) c')) w') :
    if Region.wanted o (yielded ops a.tmps) = true then Oper.wp Try.prog o a w K Q else E := by
  obtain ⟨i0, hi, hz0, hz1, hz2⟩ := info_parts Try.info3
  refine step_append_lies w hgd s x 37 ho base 3 i0 (.int .i64 0) 1 8 Try.underlying37 hi hz0 hz1 hz2 rfl (by decide) v xs.length (xs.map (Value.int .i64)) hs hN ad ys.length c (ys.map (Value.int .i64)) hx (by simp) hI.news
    (by intro u hu; simp at hu; obtain ⟨z, _, rfl⟩ := hu; rfl) hp (by unfold maxLen; omega) (by omega) hbase w.heap.size rfl ?_
  intro g c' w' hown hg _ _
  refine h g c' w' ?_ ((Below.refl base w).grown hg hbase (fun k e => (World.ownsRow.lt hN k e).1))
  show w'.ownsRow base 3 1 _ (xs ++ ys).length ((xs ++ ys).map (Value.int .i64))
  rw [List.length_append, List.map_append]
  exact hown

end Go.Proofs.Ytgeknojpcjadkaa

namespace Go.Proofs.Ytgeknojpcjadkaa
open Go.Proofs Go.RowKit Go.Shelf Go.Maps

set_option maxRecDepth 100000 in
set_option maxHeartbeats 400000 in
theorem refOwn_any (zs : List Int) (a : Option Addr) (cap : Nat) (w : World) (hI : Ints w.heap.size w a zs) (hm : zs.length ≤ maxLen) :
    Calls Try.prog 42 #[.slice a zs.length cap] w fun e w' => e = .returned (.bool (!zs.any foreignB)) ∧ w' = w := by
  unfold maxLen at hm
  go_enter Try.func42, Try.ntmps42
  go_wp2
  go_loop [3] (fun i => ∃ k : Nat, k ≤ zs.length ∧ i = .int .i64 (k : Int) ∧ (zs.take k).any foreignB = false) (fun i => zs.length - (intOf i).toNat)
  case atStart => exact ⟨0, Nat.zero_le _, rfl, by simp⟩
  case round =>
    obtain ⟨k, hk, rfl, hno⟩ := hrel
    by_cases hlt : k < zs.length
    · have hlt' : (k : Int) < (zs.length : Int) := by omega
      obtain ⟨b, off, rfl, hb, hc⟩ := hI.at (by omega)
      have hck := hc k hlt
      have hsn := hid (any_snoc (p := foreignB) hlt hno)
      have hye := hid (any_yes (p := foreignB) hlt)
      clear hc hI hno
      generalize zs[k]?.getD 0 = s at *
      by_cases hq : s < -4
      · have Hy := hid (hye.out (decide_eq_true hq))
        clear hsn
        go_wp2
        go_ret
        exact ⟨by rw [Hy.out]; rfl, rfl⟩
      · have hq' : decide (s < -4) = false := by simpa using hq
        have Hn := hid (hsn.out hq')
        clear hye hq
        go_wp2
        go_round
        case rel => exact ⟨k + 1, by omega, by go_num, Hn.out⟩
        case measure => simp [intOf]; omega
    · obtain rfl : k = zs.length := by omega
      rw [List.take_length] at hno
      have hn := hid hno
      clear hno
      go_wp2
      go_ret
      exact ⟨by rw [hn.out]; rfl, rfl⟩

set_option maxRecDepth 100000 in
set_option maxHeartbeats 400000 in
theorem refStands_any (zs : List Int) (x : Int) (a : Option Addr) (cap : Nat) (w : World) (hI : Ints w.heap.size w a zs) (hm : zs.length ≤ maxLen) :
    Calls Try.prog 43 #[.slice a zs.length cap, .int .i64 x] w fun e w' => e = .returned (.bool (Tm.hasB zs x)) ∧ w' = w := by
  unfold maxLen at hm
  go_enter Try.func43, Try.ntmps43
  go_wp2
  go_loop [5] (fun i => ∃ k : Nat, k ≤ zs.length ∧ i = .int .i64 (k : Int) ∧ ∀ j, j < k → zs[j]?.getD 0 ≠ x) (fun i => zs.length - (intOf i).toNat)
  case atStart => exact ⟨0, Nat.zero_le _, rfl, fun j hj => by omega⟩
  case round =>
    obtain ⟨k, hk, rfl, hno⟩ := hrel
    by_cases hlt : k < zs.length
    · have hlt' : (k : Int) < (zs.length : Int) := by omega
      obtain ⟨b, off, rfl, hb, hc⟩ := hI.at (by omega)
      have hck := hc k hlt
      have hsn := hid (has_no hno)
      have hye := hid (@has_yes zs x k hlt)
      clear hc hI hno
      generalize zs[k]?.getD 0 = s at *
      by_cases he : s = x
      · have hb1 : (s == x) = true := by simp [he]
        have He := hid (hye.out he)
        clear he
        go_wp2
        go_ret
        exact ⟨by rw [He.out]; rfl, rfl⟩
      · have hb1 : (s == x) = false := by simpa using he
        have He := hid (hsn.out he)
        clear he
        go_wp2
        go_round
        case rel => exact ⟨k + 1, by omega, by go_num, He.out⟩
        case measure => simp [intOf]; omega
    · obtain rfl : k = zs.length := by omega
      have hn := hid (has_none hno)
      clear hno
      go_wp2
      go_ret
      exact ⟨by rw [hn.out]; rfl, rfl⟩

end Go.Proofs.Ytgeknojpcjadkaa

namespace Go.Proofs.Ytgeknojpcjadkaa
open Go.Proofs Go.RowKit Go.Shelf Go.Maps

theorem ruleErr_fit {L R : List Int} (h : Tm.fitErr L R ≠ 0) : Tm.ruleErr L R = Tm.fitErr L R := by
  unfold Tm.fitErr at h ⊢
  unfold Tm.ruleErr
  simp only [Tm.firstErr] at h ⊢
  by_cases h1 : Tm.err L = 0
  · rw [if_pos h1] at h ⊢
    rw [if_pos h1]
    by_cases h2 : Tm.err R = 0
    · rw [if_pos h2] at h; exact absurd rfl h
    · rw [if_neg h2, if_neg h2]
  · rw [if_neg h1, if_neg h1]
theorem ruleErr_fit0 {L R : List Int} (h : Tm.fitErr L R = 0) : Tm.ruleErr L R = (if L.any foreignB = true then 3 else if R.any foreignB = true then 3 else if L[0]?.getD 0 < 0 then 1 else if R.any (freeIn L) = true then 4 else 0) := by
  obtain ⟨h1, h2⟩ := Tm.fitErr_ok h
  unfold Tm.ruleErr
  rw [if_pos h1, if_pos h2]
theorem below_drewO {n : Nat} {a b : World} (h : Below n a b) (d : Nat) : Below n a (b.drewN d) := ⟨h.os, h.tape, h.output, h.size, h.block⟩

set_option maxRecDepth 100000 in
set_option maxHeartbeats 2000000 in
theorem rulesError_any (rs : RuleL) (a : Option Addr) (cap : Nat) (w : World) (hI : RulesAt w.heap.size w a rs) :
    Calls Try.prog 13 #[.slice a rs.length cap] w fun e w' => e = .returned (.int .i64 (Tm.rulesErr rs)) ∧ Below w.heap.size w w' := by
  by_cases h8 : 8 < rs.length
  · have h8' : (8 : Int) < (rs.length : Int) := by omega
    have hv : Tm.rulesErr rs = 2 := by unfold Tm.rulesErr; rw [if_pos h8]
    rw [hv]
    clear h8 hv hI
    go_enter Try.func13, Try.ntmps13
    go_wp2
    go_ret
    exact ⟨rfl, Below.refl _ _⟩
  · have h8' : (rs.length : Int) ≤ 8 := by omega
    have hv : Tm.rulesErr rs = Tm.firstRule rs := by unfold Tm.rulesErr; rw [if_neg h8]
    rw [hv]
    clear hv h8
    go_enter Try.func13, Try.ntmps13
    go_wp2
    go_loopw [3] (fun v wr => ∃ k : Nat, k ≤ rs.length ∧ v = .int .i64 (k : Int) ∧ Hid (Tm.firstRule rs = Tm.firstRule (rs.drop k)) ∧ Below w.heap.size w wr) (fun v _ => rs.length - (intOf v).toNat)
    case atStart => exact ⟨0, Nat.zero_le _, rfl, hid rfl, Below.refl _ _⟩
    case round =>
      obtain ⟨k, hk, rfl, hst, hB⟩ := hrel
      obtain ⟨u0, rfl⟩ : ∃ u0, u0 = wr := ⟨wr, rfl⟩
      by_cases hlt : k < rs.length
      · have hlt' : (k : Int) < (rs.length : Int) := by omega
        obtain ⟨b, off, rfl, hb, aL, cL, aR, cR, h1, h2, h3, h4, _⟩ := (hI.below hB) k hlt
        have hs1 := hid (Tm.firstRule_step hlt)
        have hs2 := hid (Tm.firstRule_at hlt)
        obtain ⟨L, hL⟩ : ∃ L, (rs[k]?.getD ([], [])).1 = L := ⟨_, rfl⟩
        obtain ⟨R, hR⟩ : ∃ R, (rs[k]?.getD ([], [])).2 = R := ⟨_, rfl⟩
        rw [hL] at h1 h3 hs1 hs2
        rw [hR] at h2 h4 hs1 hs2
        have hBa : Below u0.heap.size u0 (u0.alloc (.cells #[.slice aL L.length cL, .slice aR R.length cR] 39)) := (Below.refl _ u0).alloc (Nat.le_refl _) _
        have hblk := World.alloc_heap_new u0 (.cells #[.slice aL L.length cL, .slice aR R.length cR] 39)
        have d0 : (u0.alloc (.cells #[.slice aL L.length cL, .slice aR R.length cR] 39)).cell? ⟨u0.heap.size, 0, none⟩ = some (.slice aL L.length cL) := by rw [cell_at hblk]; rfl
        have d1 : (u0.alloc (.cells #[.slice aL L.length cL, .slice aR R.length cR] 39)).cell? ⟨u0.heap.size, 1, none⟩ = some (.slice aR R.length cR) := by rw [cell_at hblk]; rfl
        have hltB : u0.heap.size < (u0.alloc (.cells #[.slice aL L.length cL, .slice aR R.length cR] 39)).heap.size := by simp
        have iL := ((h3.mono hB.size).below hBa).mono hBa.size
        have iR := ((h4.mono hB.size).below hBa).mono hBa.size
        have hBw := hB.trans (hBa.mono hB.size)
        have C1 := hid (twoErrors_any L R aL aR cL cR (u0.alloc (.cells #[.slice aL L.length cL, .slice aR R.length cR] 39)) iL iR)
        clear hL hR h3 h4 hI hblk
        by_cases hf : Tm.fitErr L R = 0
        · obtain ⟨k1, k2⟩ := Tm.fitErr_ok hf
          have lL := Tm.err_len k1
          have lR := Tm.err_len k2
          have pL := Tm.err_pos k1
          have pL' : (0 : Int) < (L.length : Int) := by omega
          have lR' : (R.length : Int) ≤ 30 := by omega
          have hre := ruleErr_fit0 hf
          rw [hf] at C1
          have C3 := hid (refOwn_any L aL cL (u0.alloc (.cells #[.slice aL L.length cL, .slice aR R.length cR] 39)) iL (by unfold maxLen; omega))
          have C4 := hid (refOwn_any R aR cR (u0.alloc (.cells #[.slice aL L.length cL, .slice aR R.length cR] 39)) iR (by unfold maxLen; omega))
          obtain ⟨bl, ol, rfl, _, cl⟩ := iL.at pL
          have c0 := cl 0 pL
          simp only [Nat.add_zero] at c0
          clear cl hf k1 k2
          have HL := hid (fun W (hW : Below (u0.alloc (.cells #[.slice (some ⟨bl, ol, none⟩) L.length cL, .slice aR R.length cR] 39)).heap.size (u0.alloc (.cells #[.slice (some ⟨bl, ol, none⟩) L.length cL, .slice aR R.length cR] 39)) W) => (iL.below hW).mono hW.size)
          have HR := hid (fun W (hW : Below (u0.alloc (.cells #[.slice (some ⟨bl, ol, none⟩) L.length cL, .slice aR R.length cR] 39)).heap.size (u0.alloc (.cells #[.slice (some ⟨bl, ol, none⟩) L.length cL, .slice aR R.length cR] 39)) W) => (iR.below hW).mono hW.size)
          have D0 := hid (fun W (hW : Below (u0.alloc (.cells #[.slice (some ⟨bl, ol, none⟩) L.length cL, .slice aR R.length cR] 39)).heap.size (u0.alloc (.cells #[.slice (some ⟨bl, ol, none⟩) L.length cL, .slice aR R.length cR] 39)) W) => (hW.cell (p := ⟨u0.heap.size, 0, none⟩) hltB).trans d0)
          have D1 := hid (fun W (hW : Below (u0.alloc (.cells #[.slice (some ⟨bl, ol, none⟩) L.length cL, .slice aR R.length cR] 39)).heap.size (u0.alloc (.cells #[.slice (some ⟨bl, ol, none⟩) L.length cL, .slice aR R.length cR] 39)) W) => (hW.cell (p := ⟨u0.heap.size, 1, none⟩) hltB).trans d1)
          clear iL iR
          cases q1 : L.any foreignB with
          | true =>
            rw [q1, if_pos rfl] at hre
            rw [q1] at C3
            have Hs := hid ((hs2.out (by rw [hre]; decide)).trans hre)
            clear q1 hre hs1 hs2 C4
            go_wp2_with (first
              | (go_at_call 41; refine C1.out.mono ?_; clear C1; rintro e w2 ⟨rfl, rfl⟩)
              | (go_at_call 42; refine C3.out.mono ?_; clear C3; rintro e w2 ⟨rfl, rfl⟩))
            go_ret
            exact ⟨ret_int (hst.out.trans Hs.out).symm, hBw⟩
          | false =>
            rw [q1, if_neg (by decide)] at hre
            rw [q1] at C3
            cases q2 : R.any foreignB with
            | true =>
              rw [q2, if_pos rfl] at hre
              rw [q2] at C4
              have Hs := hid ((hs2.out (by rw [hre]; decide)).trans hre)
              clear q1 q2 hre hs1 hs2
              go_wp2_with (first
                | (go_at_call 41; refine C1.out.mono ?_; clear C1; rintro e w2 ⟨rfl, rfl⟩)
                | (go_at_call_of 42 (Value.slice (some ⟨bl, ol, none⟩) L.length cL); refine C3.out.mono ?_; clear C3; rintro e w2 ⟨rfl, rfl⟩)
                | (go_at_call_of 42 (Value.slice aR R.length cR); refine C4.out.mono ?_; clear C4; rintro e w2 ⟨rfl, rfl⟩))
              go_ret
              exact ⟨ret_int (hst.out.trans Hs.out).symm, hBw⟩
            | false =>
              rw [q2, if_neg (by decide)] at hre
              rw [q2] at C4
              clear q1 q2
              generalize L[0]?.getD 0 = s0 at *
              by_cases hs : s0 < 0
              · rw [if_pos hs] at hre
                have Hs := hid ((hs2.out (by rw [hre]; decide)).trans hre)
                clear hre hs1 hs2
                go_wp2_with (first
                  | (go_at_call 41; refine C1.out.mono ?_; clear C1; rintro e w2 ⟨rfl, rfl⟩)
                  | (go_at_call_of 42 (Value.slice (some ⟨bl, ol, none⟩) L.length cL); refine C3.out.mono ?_; clear C3; rintro e w2 ⟨rfl, rfl⟩)
                  | (go_at_call_of 42 (Value.slice aR R.length cR); refine C4.out.mono ?_; clear C4; rintro e w2 ⟨rfl, rfl⟩))
                go_ret
                exact ⟨ret_int (hst.out.trans Hs.out).symm, hBw⟩
              · rw [if_neg hs] at hre
                have hs' : decide (s0 < 0) = false := by simpa using hs
                have Hre := hid hre
                clear hre hs
                go_wp2_with (first
                  | (go_at_call 41; refine C1.out.mono ?_; clear C1; rintro e w2 ⟨rfl, rfl⟩)
                  | (go_at_call_of 42 (Value.slice (some ⟨bl, ol, none⟩) L.length cL); refine C3.out.mono ?_; clear C3; rintro e w2 ⟨rfl, rfl⟩)
                  | (go_at_call_of 42 (Value.slice aR R.length cR); refine C4.out.mono ?_; clear C4; rintro e w2 ⟨rfl, rfl⟩))
                go_loopw [6] (fun v W => ∃ m : Nat, m ≤ R.length ∧ v = .int .i64 (m : Int) ∧ Hid ((R.take m).any (freeIn L) = false) ∧ Below (u0.alloc (.cells #[.slice (some ⟨bl, ol, none⟩) L.length cL, .slice aR R.length cR] 39)).heap.size (u0.alloc (.cells #[.slice (some ⟨bl, ol, none⟩) L.length cL, .slice aR R.length cR] 39)) W) (fun v _ => R.length - (intOf v).toNat)
                case atStart => exact ⟨0, Nat.zero_le _, rfl, hid (by simp), Below.refl _ _⟩
                case round =>
                  obtain ⟨m, hm, rfl, hfr, hBm⟩ := hrel
                  have d0 := D0.out wr hBm
                  have d1 := D1.out wr hBm
                  by_cases hm2 : m < R.length
                  · have hm2' : (m : Int) < (R.length : Int) := by omega
                    obtain ⟨br, or', eR, _, cr⟩ := (HR.out wr hBm) m hm2
                    rw [eR] at d1
                    have hsn := hid (any_snoc (p := freeIn L) hm2 hfr.out)
                    have hye := hid (any_yes (p := freeIn L) hm2)
                    have hSt := hid (fun W (hW : Below (u0.alloc (.cells #[.slice (some ⟨bl, ol, none⟩) L.length cL, .slice aR R.length cR] 39)).heap.size (u0.alloc (.cells #[.slice (some ⟨bl, ol, none⟩) L.length cL, .slice aR R.length cR] 39)) W) => refStands_any L (R[m]?.getD 0) (some ⟨bl, ol, none⟩) cL W (HL.out W hW) (by unfold maxLen; omega))
                    generalize R[m]?.getD 0 = x at *
                    by_cases hx : x < 0
                    · cases hq : Tm.hasB L x with
                      | true =>
                        rw [hq] at hSt
                        have hz : freeIn L x = false := by unfold freeIn; rw [hq]; simp
                        have Hn := hid (hsn.out hz)
                        clear hz hq hsn hye
                        go_wp2_with fail
                        go_quiet ((go_at_call 43; exact Calls.quiet_of_same (hSt.out _ (below_drewO hBm _))))
                        go_wp2
                        go_roundw
                        case rel => exact ⟨m + 1, by omega, by go_num, hid Hn.out, below_drewO hBm _⟩
                        case measure => simp [intOf]; omega
                      | false =>
                        rw [hq] at hSt
                        have hz : freeIn L x = true := by unfold freeIn; rw [hq, decide_eq_true hx]; rfl
                        have hre := Hre.out
                        rw [hye.out hz, if_pos rfl] at hre
                        have Hs := hid ((hs2.out (by rw [hre]; decide)).trans hre)
                        clear hz hq hsn hye hre
                        go_wp2_with fail
                        go_quiet ((go_at_call 43; exact Calls.quiet_of_same (hSt.out _ (below_drewO hBm _))))
                        go_wp2
                        go_ret
                        exact ⟨ret_int (hst.out.trans Hs.out).symm, hBw.trans ((below_drewO hBm _).mono hBw.size)⟩
                    · have hx' : decide (x < 0) = false := by simpa using hx
                      have hz : freeIn L x = false := by unfold freeIn; rw [hx']; rfl
                      have Hn := hid (hsn.out hz)
                      clear hz hsn hye hx
                      go_wp2_with fail
                      go_quiet (fail)
                      go_wp2
                      go_roundw
                      case rel => exact ⟨m + 1, by omega, by go_num, hid Hn.out, below_drewO hBm _⟩
                      case measure => simp [intOf]; omega
                  · obtain rfl : m = R.length := by omega
                    rw [List.take_length] at hfr
                    have hre := Hre.out
                    rw [hfr.out, if_neg (by decide)] at hre
                    have Hs := hid (hs1.out hre)
                    clear hre
                    go_wp2
                    go_roundw
                    case rel => exact ⟨k + 1, by omega, by go_num, hid (hst.out.trans Hs.out), hBw.trans (hBm.mono hBw.size)⟩
                    case measure => simp [intOf]; omega
        · have hn : (Tm.fitErr L R != 0) = true := by simpa using hf
          have hre := ruleErr_fit hf
          have Hs := hid ((hs2.out (by rw [hre]; exact hf)).trans hre)
          clear hf hre hs1 hs2
          generalize Tm.fitErr L R = q at *
          go_wp2_with (first
            | (go_at_call 41; refine C1.out.mono ?_; clear C1; rintro e w2 ⟨rfl, rfl⟩))
          go_ret
          exact ⟨ret_int (hst.out.trans Hs.out).symm, hBw⟩
      · obtain rfl : k = rs.length := by omega
        go_wp2
        go_ret
        exact ⟨by rw [hst.out, List.drop_length]; rfl, hB⟩

end Go.Proofs.Ytgeknojpcjadkaa
