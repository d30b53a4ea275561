/-
  A whole struct read out of its box, where the reading stands behind '&&' or '||'. · PLAIN MATHEMATICS: two terms made plain are both what one list of variables makes of them; pairs hold wherever the rules do. · PLAIN MATHEMATICS: pairs hold wherever the rules do; how many there are; in which order their variables stand. · PLAIN MATHEMATICS: two terms made plain, and back again; trees whose variables change their names; terms of any size by what variables become. · join.Pair, join.All. · PLAIN MATHEMATICS: which pairs there are, and that they meet, read off what pairs and join answer. · PLAIN MATHEMATICS: trees with a hole, and what variables become, read back. · PLAIN MATHEMATICS: if join says that all pairs meet, all that lap over meet. · PLAIN MATHEMATICS: RULES THAT FALL AND ALL OF WHOSE PAIRS MEET: two that meet have one form. · PLAIN MATHEMATICS OF JoinTrue AND JoinSame: whatever steps are taken, the form is one; what has one form has one form whatever variables become. · hasplaw.joinBegun. · How many steps there may be.
-/
import Derived.Test.YtgeknojpcjadkaaBjt27
import Derived.Test.YtgeknojpcjadkaaBjt23
import Derived.Test.YtgeknojpcjadkaaBjt17
import Derived.Test.YtgeknojpcjadkaaBjt15
import Derived.Test.YtgeknojpcjadkaaBjt10
namespace Go.Proofs.Ytgeknojpcjadkaa
open Go.Proofs Go.RowKit Go.Shelf Go.Maps

end Go.Proofs.Ytgeknojpcjadkaa

namespace Go.Proofs.Ytgeknojpcjadkaa
open Go.Proofs Go.RowKit Go.Shelf Go.Maps

namespace Sn
theorem pigeon : ∀ (n : Nat) (l : List Int), l.Nodup → (∀ x ∈ l, -(n : Int) ≤ x ∧ x < 0) → l.length ≤ n := by
  intro n
  induction n with
  | zero =>
    intro l _ h
    cases l with
    | nil => simp
    | cons x l => have := h x (by simp); omega
  | succ n ih =>
    intro l hn h
    by_cases hm : -((n : Int) + 1) ∈ l
    · have h1 := ih (l.erase (-((n : Int) + 1))) (hn.erase _) (fun x hx => by
        have h2 := (hn.mem_erase_iff).1 hx
        have h3 := h x h2.2
        have h4 := h2.1
        omega)
      rw [List.length_erase_of_mem hm] at h1
      omega
    · have h1 := ih l hn (fun x hx => by
        have h3 := h x hx
        refine ⟨?_, h3.2⟩
        by_cases e : x = -((n : Int) + 1)
        · subst e; exact absurd hx hm
        · omega)
      omega
theorem see_cases (seen : List Int) (s : Int) : (0 ≤ s ∧ Tm.see seen s = seen) ∨ (s < 0 ∧ seen.contains s = true ∧ Tm.see seen s = seen) ∨ (s < 0 ∧ seen.contains s = false ∧ Tm.see seen s = seen ++ [s]) := by
  unfold Tm.see
  by_cases hs : s < 0
  · rw [if_pos hs]
    cases hc : seen.contains s with
    | true => exact .inr (.inl ⟨hs, rfl, by rw [if_pos rfl]⟩)
    | false => exact .inr (.inr ⟨hs, rfl, by rw [if_neg (by simp)]⟩)
  · rw [if_neg hs]; exact .inl ⟨by omega, rfl⟩
theorem see_pre (seen : List Int) (s : Int) : ∃ r, Tm.see seen s = seen ++ r := by
  rcases see_cases seen s with ⟨_, h⟩ | ⟨_, _, h⟩ | ⟨_, _, h⟩
  · exact ⟨[], by rw [h, List.append_nil]⟩
  · exact ⟨[], by rw [h, List.append_nil]⟩
  · exact ⟨[s], h⟩
theorem seen_cons (seen : List Int) (s : Int) (l : List Int) : Tm.seenFrom seen (s :: l) = Tm.seenFrom (Tm.see seen s) l := rfl
theorem seen_app (seen l r : List Int) : Tm.seenFrom seen (l ++ r) = Tm.seenFrom (Tm.seenFrom seen l) r := by simp [Tm.seenFrom, List.foldl_append]
theorem seen_pre : ∀ (t seen : List Int), ∃ r, Tm.seenFrom seen t = seen ++ r := by
  intro t
  induction t with
  | nil => intro seen; exact ⟨[], by rw [List.append_nil]; rfl⟩
  | cons s l ih =>
    intro seen
    obtain ⟨r1, h1⟩ := see_pre seen s
    obtain ⟨r2, h2⟩ := ih (Tm.see seen s)
    exact ⟨r1 ++ r2, by rw [seen_cons, h2, h1, List.append_assoc]⟩
theorem see_mem (seen : List Int) {s : Int} (hs : s < 0) : (Tm.see seen s).contains s = true := by
  rcases see_cases seen s with ⟨h, _⟩ | ⟨_, h, e⟩ | ⟨_, _, e⟩
  · omega
  · rw [e]; exact h
  · rw [e]; simp
theorem see_nodup {seen : List Int} (h : seen.Nodup) (s : Int) : (Tm.see seen s).Nodup := by
  rcases see_cases seen s with ⟨_, e⟩ | ⟨_, _, e⟩ | ⟨_, hc, e⟩
  · rw [e]; exact h
  · rw [e]; exact h
  · rw [e]
    have hn : ¬ s ∈ seen := by simpa using hc
    rw [List.nodup_append]
    exact ⟨h, by simp, fun a ha b hb => by simp at hb; subst hb; rintro rfl; exact hn ha⟩
theorem seen_nodup : ∀ (t seen : List Int), seen.Nodup → (Tm.seenFrom seen t).Nodup := by
  intro t
  induction t with
  | nil => intro seen h; exact h
  | cons s l ih => intro seen h; exact ih _ (see_nodup h s)
theorem see_neg {seen : List Int} (h : ∀ x ∈ seen, -8 ≤ x ∧ x < 0) {s : Int} (h8 : -8 ≤ s) : ∀ x ∈ Tm.see seen s, -8 ≤ x ∧ x < 0 := by
  rcases see_cases seen s with ⟨_, e⟩ | ⟨_, _, e⟩ | ⟨hs, _, e⟩
  · rw [e]; exact h
  · rw [e]; exact h
  · rw [e]
    intro x hx
    rw [List.mem_append] at hx
    rcases hx with hx | hx
    · exact h x hx
    · simp at hx; subst hx; exact ⟨h8, hs⟩
theorem seen_neg : ∀ (t seen : List Int), t.all Tm.known = true → (∀ x ∈ seen, -8 ≤ x ∧ x < 0) → ∀ x ∈ Tm.seenFrom seen t, -8 ≤ x ∧ x < 0 := by
  intro t
  induction t with
  | nil => intro seen _ h; exact h
  | cons s l ih =>
    intro seen hk h
    rw [List.all_cons, Bool.and_eq_true] at hk
    exact ih _ hk.2 (see_neg h (Tm.known_ge hk.1))
theorem idx_lt {seen : List Int} {s : Int} (h : seen.contains s = true) : Tm.idx seen s < seen.length := by
  unfold Tm.idx
  rw [List.findIdx_lt_length]
  exact ⟨s, by simpa using h, by simp⟩
theorem idx_last {seen : List Int} {s : Int} (h : seen.contains s = false) : Tm.idx (seen ++ [s]) s = seen.length := by
  unfold Tm.idx
  rw [List.findIdx_append, if_neg]
  · simp
  · rw [List.findIdx_lt_length]
    rintro ⟨y, hy, e⟩
    have e' : y = s := by simpa using e
    subst e'
    have : ¬ y ∈ seen := by simpa using h
    exact this hy
/-- A variable's new name, by all that are seen in the end. -/
def ren (S : List Int) (s : Int) : Int := if s < 0 then -1 - (Tm.idx S s : Int) else s
theorem name_ren (seen r : List Int) (s : Int) : Tm.name seen s = ren (Tm.see seen s ++ r) s := by
  unfold Tm.name ren
  by_cases hs : s < 0
  · rw [if_pos hs, if_pos hs, Tm.idx_app (see_mem seen hs)]
    rcases see_cases seen s with ⟨h, _⟩ | ⟨_, _, e⟩ | ⟨_, hc, e⟩
    · omega
    · rw [e]
    · rw [e, idx_last hc, Tm.idx_new hc]
  · rw [if_neg hs, if_neg hs]
theorem plain_map (t seen r : List Int) : Tm.plainTo seen t t.length = t.map (ren (Tm.seenFrom seen t ++ r)) := by
  refine List.ext_getElem (by simp [Tm.plainTo_length]) fun i h1 h2 => ?_
  rw [Tm.plainTo_length] at h1
  have hl : (Tm.plainTo seen t t.length)[i]'(by rw [Tm.plainTo_length]; exact h1) = Tm.name (Tm.seenFrom seen (t.take i)) t[i] := by simp [Tm.plainTo, h1]
  rw [List.getElem_map, hl]
  have hd : t = t.take i ++ (t[i] :: t.drop (i + 1)) := by rw [← List.drop_eq_getElem_cons h1, List.take_append_drop]
  obtain ⟨r', hr'⟩ := seen_pre (t.drop (i + 1)) (Tm.see (Tm.seenFrom seen (t.take i)) t[i])
  have hS : Tm.seenFrom seen t ++ r = Tm.see (Tm.seenFrom seen (t.take i)) t[i] ++ (r' ++ r) := by
    conv => lhs; rw [hd]
    rw [seen_app, seen_cons, hr', List.append_assoc]
  have hf := name_ren (Tm.seenFrom seen (t.take i)) (r' ++ r) t[i]
  rw [← hS] at hf
  exact hf
def renL (S : List Int) : List (List Int) := (List.range 8).map fun i : Nat => if S.contains (-1 - (i : Int)) = true then [-1 - (Tm.idx S (-1 - (i : Int)) : Int)] else [-1]
theorem renL_at (S : List Int) {i : Nat} (h : i < 8) : (renL S)[i]?.getD [] = if S.contains (-1 - (i : Int)) = true then [-1 - (Tm.idx S (-1 - (i : Int)) : Int)] else [-1] := by
  unfold renL
  rw [List.getElem?_map, List.getElem?_range h]
  rfl
theorem err_var {v : Int} (h1 : -8 ≤ v) (h2 : v < 0) : Tm.err [v] = 0 := by
  refine Tm.err_ok (by simp) (by simp only [List.all_cons, List.all_nil, Bool.and_true]; exact Tm.known_of h1 (by omega)) ?_
  rw [show (1 : Nat) = 0 + 1 from rfl, Tm.run_cons, Wb.room_var h2, Tm.run_zero]
  rfl
theorem renL_err {S : List Int} (h8 : S.length ≤ 8) : Tm.subErr (renL S) = 0 := by
  unfold Tm.subErr
  rw [if_pos (by simp [renL])]
  refine Tm.firstErr_of fun i hi => ?_
  have hi8 : i < 8 := by simpa [renL] using hi
  rw [renL_at S hi8]
  by_cases hc : S.contains (-1 - (i : Int)) = true
  · rw [if_pos hc]
    have := idx_lt hc
    exact err_var (by omega) (by omega)
  · rw [if_neg hc]; exact err_var (by omega) (by omega)
theorem applied_ren {S : List Int} : ∀ (t : List Int), t.all Tm.known = true → (∀ s ∈ t, s < 0 → S.contains s = true) → Tm.applied (renL S) t = t.map (ren S) := by
  intro t
  induction t with
  | nil => intro _ _; rfl
  | cons s l ih =>
    intro hk hm
    rw [List.all_cons, Bool.and_eq_true] at hk
    rw [Tm.applied_cons, ih hk.2 (fun x hx => hm x (by simp [hx])), List.map_cons]
    have h8 := Tm.known_ge hk.1
    have : Tm.piece (renL S) s = [ren S s] := by
      unfold Tm.piece ren
      by_cases hs : s < 0
      · rw [if_pos hs, if_pos hs, renL_at S (by omega), show -1 - (((-1 - s).toNat : Nat) : Int) = s from by omega, if_pos (hm s (by simp) hs)]
      · rw [if_neg hs, if_neg hs]
    rw [this]
    rfl
theorem seen_has : ∀ (t seen : List Int) (s : Int), s < 0 → (s ∈ t ∨ seen.contains s = true) → (Tm.seenFrom seen t).contains s = true := by
  intro t
  induction t with
  | nil =>
    intro seen s _ h
    rcases h with h | h
    · simp at h
    · exact h
  | cons x l ih =>
    intro seen s hs h
    rw [seen_cons]
    refine ih _ s hs ?_
    rcases h with h | h
    · rcases List.mem_cons.1 h with rfl | h
      · exact .inr (see_mem seen hs)
      · exact .inl h
    · obtain ⟨r, e⟩ := see_pre seen x
      rw [e]
      right
      simp at h ⊢
      exact .inl h
end Sn

/-- Two terms made plain. -/
theorem Tm.plain_ren {X Y : List Int} (eX : Tm.err X = 0) (eY : Tm.err Y = 0) : ∃ ss, Tm.subErr ss = 0 ∧ Tm.plain X = Tm.applied ss X ∧ Tm.plain2 X Y = Tm.applied ss Y ∧ Tm.err (Tm.plain X) = 0 ∧ Tm.err (Tm.plain2 X Y) = 0 := by
  have kX := Tm.err_all eX
  have kY := Tm.err_all eY
  have hneg : ∀ x ∈ Tm.seenFrom (Tm.seenFrom [] X) Y, -8 ≤ x ∧ x < 0 := Sn.seen_neg Y _ kY (Sn.seen_neg X [] kX (fun x hx => by simp at hx))
  have hnd : (Tm.seenFrom (Tm.seenFrom [] X) Y).Nodup := Sn.seen_nodup Y _ (Sn.seen_nodup X [] List.nodup_nil)
  have h8 := Sn.pigeon 8 _ hnd hneg
  have hss := Sn.renL_err h8
  obtain ⟨r, hr⟩ := Sn.seen_pre Y (Tm.seenFrom [] X)
  have pX : Tm.plain X = Tm.applied (Sn.renL (Tm.seenFrom (Tm.seenFrom [] X) Y)) X := by
    rw [Sn.applied_ren X kX (fun s hs h => Sn.seen_has Y _ s h (.inr (Sn.seen_has X [] s h (.inl hs))))]
    have := Sn.plain_map X [] r
    rw [← hr] at this
    exact this
  have pY : Tm.plain2 X Y = Tm.applied (Sn.renL (Tm.seenFrom (Tm.seenFrom [] X) Y)) Y := by
    rw [Sn.applied_ren Y kY (fun s hs h => Sn.seen_has Y _ s h (.inl hs))]
    have := Sn.plain_map Y (Tm.seenFrom [] X) []
    rw [List.append_nil] at this
    exact this
  refine ⟨_, hss, pX, pY, ?_, ?_⟩
  · rw [pX]
    refine Tm.err_applied (Terms.of hss) eX ?_
    rw [← pX]
    show (Tm.plainTo [] X X.length).length ≤ 30
    rw [Tm.plainTo_length]
    exact Tm.err_len eX
  · rw [pY]
    refine Tm.err_applied (Terms.of hss) eY ?_
    rw [← pY]
    show (Tm.plainTo (Tm.seenFrom [] X) Y Y.length).length ≤ 30
    rw [Tm.plainTo_length]
    exact Tm.err_len eY

/-- A rule with its variables made others. -/
def Tm.othL : List (List Int) := [[-5], [-6], [-7], [-8], [-1], [-1], [-1], [-1]]
theorem Tm.others_applied : ∀ (t : List Int), (∀ s ∈ t, -4 ≤ s ∧ s < 6) → Tm.others t = Tm.applied Tm.othL t := by
  intro t
  induction t with
  | nil => intro _; rfl
  | cons s l ih =>
    intro h
    rw [Tm.applied_cons, ← ih (fun x hx => h x (by simp [hx]))]
    have hs := h s (by simp)
    have : Tm.piece Tm.othL s = [Tm.oth s] := by
      have : s = -4 ∨ s = -3 ∨ s = -2 ∨ s = -1 ∨ 0 ≤ s := by omega
      rcases this with rfl | rfl | rfl | rfl | h0
      · decide
      · decide
      · decide
      · decide
      · unfold Tm.piece Tm.oth
        rw [if_neg (by omega), if_neg (by omega)]
    rw [this]
    rfl
theorem Tm.othL_err : Tm.subErr Tm.othL = 0 := by decide +kernel

end Go.Proofs.Ytgeknojpcjadkaa

namespace Go.Proofs.Ytgeknojpcjadkaa
open Go.Proofs Go.RowKit Go.Shelf Go.Maps

/-- The variables stand in their order. -/
def Ordered (B : List Int) : Prop := ∃ nx : Nat → Int, nx 0 = -1 ∧ ∀ n, n < B.length → ¬ B[n]?.getD 0 < nx n ∧ nx (n + 1) = (if B[n]?.getD 0 = nx n then nx n - 1 else nx n) ∧ -100000 ≤ nx n
theorem Sn.both (X Y : List Int) : Tm.plain X ++ Tm.plain2 X Y = Tm.plainTo [] (X ++ Y) (X ++ Y).length := by
  obtain ⟨r, hr⟩ := Sn.seen_pre Y (Tm.seenFrom [] X)
  have h1 := Sn.plain_map X [] r
  have h2 := Sn.plain_map Y (Tm.seenFrom [] X) []
  have h3 := Sn.plain_map (X ++ Y) [] []
  rw [← hr] at h1
  rw [List.append_nil] at h2 h3
  rw [Sn.seen_app] at h3
  show Tm.plainTo [] X X.length ++ Tm.plainTo (Tm.seenFrom [] X) Y Y.length = _
  rw [h1, h2, h3, List.map_append]
theorem Sn.step (S : List Int) (s : Int) (h : S.length ≤ 1000) : ¬ Tm.name S s < -1 - (S.length : Int) ∧ -1 - ((Tm.see S s).length : Int) = (if Tm.name S s = -1 - (S.length : Int) then -1 - (S.length : Int) - 1 else -1 - (S.length : Int)) ∧ -100000 ≤ -1 - (S.length : Int) := by
  rcases Sn.see_cases S s with ⟨h0, e⟩ | ⟨hs, hc, e⟩ | ⟨hs, hc, e⟩
  · have hn : Tm.name S s = s := by unfold Tm.name; rw [if_neg (by omega)]
    rw [hn, e]
    refine ⟨by omega, by rw [if_neg (by omega)], by omega⟩
  · have hn : Tm.name S s = -1 - (Tm.idx S s : Int) := by unfold Tm.name; rw [if_pos hs]
    have := Sn.idx_lt hc
    rw [hn, e]
    refine ⟨by omega, by rw [if_neg (by omega)], by omega⟩
  · have hn : Tm.name S s = -1 - (S.length : Int) := by unfold Tm.name; rw [if_pos hs, Tm.idx_new hc]
    rw [hn, e, List.length_append]
    refine ⟨by omega, by rw [if_pos rfl]; simp; omega, by omega⟩
theorem Tm.plain_ordered (X Y : List Int) (h : (X ++ Y).length ≤ 1000) : Ordered (Tm.plain X ++ Tm.plain2 X Y) := by
  rw [Sn.both]
  generalize X ++ Y = Z at *
  refine ⟨fun n => -1 - ((Tm.seenFrom [] (Z.take n)).length : Int), by simp [Tm.seenFrom], fun n hn => ?_⟩
  rw [Tm.plainTo_length] at hn
  have hb : (Tm.plainTo [] Z Z.length)[n]?.getD 0 = Tm.name (Tm.seenFrom [] (Z.take n)) (Z[n]?.getD 0) := by simp [Tm.plainTo, hn]
  have hle := Tm.seen_len (Z.take n) []
  dsimp only
  rw [hb, Tm.seen_succ [] hn]
  simp only [List.length_take, List.length_nil] at hle
  exact Sn.step _ _ (by omega)

/-- How many symbols. -/
def symN (L : List Int) : Nat := (L.filter fun s => decide (0 ≤ s)).length
/-- A pair is of two terms, in order, and holds wherever both rules do. -/
def PairGood (L1 R1 L2 R2 : List Int) (x : List Int × List Int) : Prop := Tm.err x.1 = 0 ∧ Tm.err x.2 = 0 ∧ Ordered (x.1 ++ x.2) ∧ ∀ A : Int → Nat → Nat → Nat, (∀ s x y, A s x y < 3) → Tm.Holds A L1 R1 → Tm.Holds A L2 R2 → Tm.Holds A x.1 x.2
theorem Tm.prt_good {L1 R1 L2 R2 : List Int} {m : Nat} {val : List (List Int)} (hm : m < L1.length) (eL : Tm.err L1 = 0) (eR : Tm.err R1 = 0) (eL2 : Tm.err L2 = 0) (eR2 : Tm.err R2 = 0) (fL : ∀ s ∈ L2, -4 ≤ s ∧ s < 6) (fR : ∀ s ∈ R2, -4 ≤ s ∧ s < 6)
    (hs : Tm.MeetSays [(Tm.part L1 m, Tm.others L2)] 0 true val) (he : Tm.prtErr val L1 R1 (m : Int) (Tm.others R2) = 0) : PairGood L1 R1 L2 R2 (Tm.prtVal val L1 R1 (m : Int) (Tm.others R2)) := by
  obtain ⟨hsub, ep, eo, happ, _⟩ := Tm.meet_true hs
  have hv : Tm.prtVal val L1 R1 (m : Int) (Tm.others R2) = (Tm.plain (Tm.applyVal val (Tm.putVal L1 (m : Int) (Tm.others R2))), Tm.plain2 (Tm.applyVal val (Tm.putVal L1 (m : Int) (Tm.others R2))) (Tm.applyVal val R1)) := by unfold Tm.prtVal; rw [if_pos he]
  have hput : Tm.putErr L1 (m : Int) (Tm.others R2) = 0 := by
    by_cases h : Tm.putErr L1 (m : Int) (Tm.others R2) = 0
    · exact h
    · unfold Tm.prtErr at he; rw [if_neg h] at he; exact absurd he h
  have hX : Tm.applyErr val (Tm.putVal L1 (m : Int) (Tm.others R2)) = 0 := by
    by_cases h : Tm.applyErr val (Tm.putVal L1 (m : Int) (Tm.others R2)) = 0
    · exact h
    · unfold Tm.prtErr at he; rw [if_pos hput, if_neg h] at he; exact absurd he h
  have hY : Tm.applyErr val R1 = 0 := by unfold Tm.prtErr at he; rw [if_pos hput, if_pos hX] at he; exact he
  have hpv : Tm.putVal L1 (m : Int) (Tm.others R2) = Tm.put L1 m (Tm.others R2) := by unfold Tm.putVal; rw [if_pos hput]; rfl
  have eo2 : Tm.err (Tm.others R2) = 0 := by
    by_cases h : Tm.err (Tm.others R2) = 0
    · exact h
    · unfold Tm.putErr at hput; rw [if_pos eL, if_neg h] at hput; exact absurd hput h
  obtain ⟨_, eput, lX, vX⟩ := Tm.apply_zero hX
  obtain ⟨_, _, lY, vY⟩ := Tm.apply_zero hY
  have eX := Tm.applyVal_err hX
  have eY := Tm.applyVal_err hY
  rw [hv]
  obtain ⟨ss, hss, pX, pY, e1, e2⟩ := Tm.plain_ren eX eY
  refine ⟨e1, e2, Tm.plain_ordered _ _ (by rw [List.length_append]; have := Tm.err_len eX; have := Tm.err_len eY; omega), fun A hA h1 h2 vs hvs => ?_⟩
  have T := Terms.of hss
  have U := Terms.of hsub
  have O := Terms.of Tm.othL_err
  show Tm.val A vs (Tm.plain _) = Tm.val A vs (Tm.plain2 _ _)
  rw [pX, pY, Tm.val_applied T _ _ (Nat.lt_succ_self _) eX, Tm.val_applied T _ _ (Nat.lt_succ_self _) eY, vX, vY, hpv]
  rw [hpv] at eput
  generalize hus : (fun i : Nat => Tm.val A vs (ss[i]?.getD [])) = us
  have husl : ∀ i, us i < 3 := fun i => by rw [← hus]; exact Tm.val_lt hA hvs _
  rw [Tm.val_applied U _ _ (Nat.lt_succ_self _) eput, Tm.val_applied U _ _ (Nat.lt_succ_self _) eR]
  have hq : Tm.val A us (Tm.applied val (Tm.part L1 m)) = Tm.val A us (Tm.applied val (Tm.others L2)) := by rw [happ]
  rw [Tm.val_applied U _ _ (Nat.lt_succ_self _) ep, Tm.val_applied U _ _ (Nat.lt_succ_self _) eo] at hq
  generalize hts : (fun i : Nat => Tm.val A us (val[i]?.getD [])) = ts at *
  have htsl : ∀ i, ts i < 3 := fun i => by rw [← hts]; exact Tm.val_lt hA husl _
  have hr : Tm.val A ts (Tm.others R2) = Tm.val A ts (Tm.part L1 m) := by
    rw [hq, Tm.others_applied R2 fR, Tm.others_applied L2 fL, Tm.val_applied O _ _ (Nat.lt_succ_self _) eR2, Tm.val_applied O _ _ (Nat.lt_succ_self _) eL2]
    exact (h2 _ (fun i => Tm.val_lt hA htsl _)).symm
  have h3 := Tm.val_put hr eo2 ep _ L1 m (Nat.lt_succ_self _) eL hm
  rw [Tm.put_self] at h3
  rw [h3]
  exact h1 ts htsl
theorem Tm.rule_vars {L R : List Int} (h : Tm.ruleErr L R = 0) : (∀ s ∈ L, -4 ≤ s ∧ s < 6) ∧ (∀ s ∈ R, -4 ≤ s ∧ s < 6) := by
  obtain ⟨eL, eR, fL, fR, _⟩ := Tm.ruleErr_ok h
  have kL := Tm.err_all eL
  have kR := Tm.err_all eR
  rw [List.all_eq_true] at kL kR
  rw [List.any_eq_false] at fL fR
  refine ⟨fun s hs => ⟨?_, Tm.known_lt (kL s hs)⟩, fun s hs => ⟨?_, Tm.known_lt (kR s hs)⟩⟩
  · have := fL s hs
    simp [foreignB] at this
    omega
  · have := fR s hs
    simp [foreignB] at this
    omega
theorem Tm.Laps.good {L1 R1 L2 R2 : List Int} {pass : Nat → Bool} (h1 : Tm.ruleErr L1 R1 = 0) (h2 : Tm.ruleErr L2 R2 = 0) {m : Nat} {l : PairL} (h : Tm.Laps L1 R1 (Tm.others L2) (Tm.others R2) pass m l) : m ≤ L1.length → ∀ x ∈ l, PairGood L1 R1 L2 R2 x := by
  induction h with
  | zero => intro _ x hx; simp at hx
  | pass _ _ ih => intro hm; exact ih (by omega)
  | no _ _ _ ih => intro hm; exact ih (by omega)
  | yes _ _ hs he ih =>
    intro hm x hx
    rcases List.mem_append.1 hx with hx | hx
    · exact ih (by omega) x hx
    · simp at hx
      subst hx
      obtain ⟨eL, eR, _⟩ := Tm.ruleErr_ok h1
      obtain ⟨eL2, eR2, _⟩ := Tm.ruleErr_ok h2
      obtain ⟨fL, fR⟩ := Tm.rule_vars h2
      exact Tm.prt_good (by omega) eL eR eL2 eR2 fL fR hs he
end Go.Proofs.Ytgeknojpcjadkaa

namespace Go.Proofs.Ytgeknojpcjadkaa
open Go.Proofs Go.RowKit Go.Shelf

/-- Other names for variables. -/
def Tr.nm (q : Int → Int) (s : Int) : Int := if s < 0 then q s else s
theorem Tr.sub_names {q : Int → Int} : ∀ (x : Tr), x.ok → (x.sub (fun s => .leaf (q s))).flat = x.flat.map (Tr.nm q) := by
  intro x
  induction x with
  | leaf s =>
    intro _
    rw [Tr.sub]
    by_cases hs : s < 0
    · rw [if_pos hs]; simp [Tr.flat, Tr.nm, hs]
    · rw [if_neg hs]; simp [Tr.flat, Tr.nm, hs]
  | one s a ih =>
    intro ho
    have hs : ¬ s < 0 := by have := ho.1; omega
    rw [Tr.sub, Tr.flat, ih ho.2, Tr.flat, List.map_cons, Tr.nm, if_neg hs]
  | two s a b iha ihb =>
    intro ho
    have hs : ¬ s < 0 := by have := ho.1; omega
    rw [Tr.sub, Tr.flat, iha ho.2.1, ihb ho.2.2, Tr.flat, List.map_cons, List.map_append, Tr.nm, if_neg hs]
theorem Tr.sub_app {θ : Wb.Sb} {f : Int → Tr} : ∀ (x : Tr), x.ok → (∀ s ∈ x.flat, s < 0 → (f s).flat = θ s) → (x.sub f).flat = Wb.App θ x.flat := by
  intro x
  induction x with
  | leaf s =>
    intro _ h
    rw [Tr.sub]
    by_cases hs : s < 0
    · rw [if_pos hs, h s (by simp [Tr.flat]) hs]; simp [Tr.flat, Wb.App, hs]
    · rw [if_neg hs]; simp [Tr.flat, Wb.App, hs]
  | one s a ih =>
    intro ho h
    have hs : ¬ s < 0 := by have := ho.1; omega
    rw [Tr.sub, Tr.flat, ih ho.2 (fun x hx => h x (List.mem_cons_of_mem _ hx)), Tr.flat]
    simp [Wb.App, hs]
  | two s a b iha ihb =>
    intro ho h
    have hs : ¬ s < 0 := by have := ho.1; omega
    rw [Tr.sub, Tr.flat, iha ho.2.1 (fun x hx => h x (List.mem_cons_of_mem _ (List.mem_append_left _ hx))), ihb ho.2.2 (fun x hx => h x (List.mem_cons_of_mem _ (List.mem_append_right _ hx))), Tr.flat]
    simp [Wb.App, hs]

/-- Two terms made plain, and back. -/
theorem Tm.plain_back {X Y : List Int} (eX : Tm.err X = 0) (eY : Tm.err Y = 0) : ∃ q : Int → Int, (∀ s, q s < 0) ∧ X = (Tm.plain X).map (Tr.nm q) ∧ Y = (Tm.plain2 X Y).map (Tr.nm q) := by
  have kX := Tm.err_all eX
  have kY := Tm.err_all eY
  obtain ⟨S, hS⟩ : ∃ S, S = Tm.seenFrom (Tm.seenFrom [] X) Y := ⟨_, rfl⟩
  have hneg : ∀ x ∈ S, -8 ≤ x ∧ x < 0 := by rw [hS]; exact Sn.seen_neg Y _ kY (Sn.seen_neg X [] kX (fun x hx => by simp at hx))
  obtain ⟨r, hr⟩ := Sn.seen_pre Y (Tm.seenFrom [] X)
  have pX : Tm.plain X = X.map (Sn.ren S) := by
    have := Sn.plain_map X [] r
    rw [← hr, ← hS] at this
    exact this
  have pY : Tm.plain2 X Y = Y.map (Sn.ren S) := by
    have := Sn.plain_map Y (Tm.seenFrom [] X) []
    rw [List.append_nil, ← hS] at this
    exact this
  have back : ∀ s, (s < 0 → S.contains s = true) → Tr.nm (fun v => S[(-1 - v).toNat]?.getD (-1)) (Sn.ren S s) = s := fun s h => by
    unfold Sn.ren Tr.nm
    by_cases hs : s < 0
    · have hlt := Sn.idx_lt (h hs)
      rw [if_pos hs, if_pos (by omega)]
      show S[(-1 - (-1 - (Tm.idx S s : Int))).toNat]?.getD (-1) = s
      rw [show (-1 - (-1 - (Tm.idx S s : Int))).toNat = Tm.idx S s from by omega, List.getElem?_eq_getElem hlt, Option.getD_some]
      exact eq_of_beq (List.findIdx_getElem (xs := S) (p := fun x => x == s) (w := hlt))
    · rw [if_neg hs, if_neg hs]
  refine ⟨fun v => S[(-1 - v).toNat]?.getD (-1), fun s => ?_, ?_, ?_⟩
  · show S[(-1 - s).toNat]?.getD (-1) < 0
    cases hg : S[(-1 - s).toNat]? with
    | none => simp
    | some x => exact (hneg x (List.mem_of_getElem? hg)).2
  · rw [pX, List.map_map]
    refine (List.map_id X).symm.trans (List.map_congr_left fun s hs => ?_)
    exact (back s fun h => by rw [hS]; exact Sn.seen_has Y _ s h (.inr (Sn.seen_has X [] s h (.inl hs)))).symm
  · rw [pY, List.map_map]
    refine (List.map_id Y).symm.trans (List.map_congr_left fun s hs => ?_)
    exact (back s fun h => by rw [hS]; exact Sn.seen_has Y _ s h (.inl hs)).symm

end Go.Proofs.Ytgeknojpcjadkaa

namespace Go.Proofs.Ytgeknojpcjadkaa
open Go.Proofs Go.RowKit Go.Shelf Go.Maps

/-- I1: the error of two terms' forms; have they one form? -/
def Tm.joinErr (rs : RuleL) (P Q : List Int) : Int := if (Tm.form rs P).2.2 = 0 then (Tm.form rs Q).2.2 else (Tm.form rs P).2.2
def Tm.joinIs (rs : RuleL) (P Q : List Int) : Bool := decide (Tm.joinErr rs P Q = 0) && sameB (Tm.form rs P).1 (Tm.form rs Q).1

set_option maxRecDepth 100000 in
set_option maxHeartbeats 2000000 in
theorem joinPair_any (rs : RuleL) (P Q : List Int) (al aP aQ : Option Addr) (cl cP cQ : Nat) (w : World) (hR : RulesAt w.heap.size w al rs) (hP : Ints w.heap.size w aP P) (hQ : Ints w.heap.size w aQ Q) (p1 : P.length ≤ cP) (p2 : cP ≤ maxLen) (q1 : Q.length ≤ cQ) (q2 : cQ ≤ maxLen) :
    Calls Try.prog 25 #[.slice al rs.length cl, .agg #[.slice aP P.length cP, .slice aQ Q.length cQ]] w fun e w' => e = .returned (.tuple #[.bool (Tm.joinIs rs P Q), .int .i64 (Tm.joinErr rs P Q)]) ∧ Below w.heap.size w w' := by
  obtain ⟨W1, hW1⟩ : ∃ W1, w.alloc (.cells #[.slice aP P.length cP, .slice aQ Q.length cQ] 42) = W1 := ⟨_, rfl⟩
  have hB1 : Below w.heap.size w W1 := by rw [← hW1]; exact (Below.refl _ _).alloc (Nat.le_refl _) _
  have bx : Box2 W1 w.heap.size 42 (.slice aP P.length cP) (.slice aQ Q.length cQ) := by rw [← hW1]; exact Box2.new w _ _ _
  have c0 := bx.cell0
  have C1 := hid (form_any rs P al aP cl cP W1 ((hR.below hB1).mono hB1.size) ((hP.below hB1).mono hB1.size) p1 p2)
  have C2 := hid (fun W (hW : Below W1.heap.size W1 W) => form_any rs Q al aQ cl cQ W (by have h := hB1.trans (hW.mono hB1.size); exact (hR.below h).mono h.size) (by have h := hB1.trans (hW.mono hB1.size); exact (hQ.below h).mono h.size) q1 q2)
  have hE : Hid (Tm.joinErr rs P Q = if (Tm.form rs P).2.2 = 0 then (Tm.form rs Q).2.2 else (Tm.form rs P).2.2) := rfl
  have hI : Hid (Tm.joinIs rs P Q = (decide (Tm.joinErr rs P Q = 0) && sameB (Tm.form rs P).1 (Tm.form rs Q).1)) := rfl
  have HW1 := hid hW1
  clear hW1 hR hP hQ p1 p2 q1 q2
  generalize Tm.form rs P = f at *
  generalize Tm.form rs Q = g at *
  obtain ⟨x, n, er⟩ := f
  obtain ⟨y, m, er2⟩ := g
  dsimp only at C1 C2 hE hI
  by_cases he : er = 0
  · subst he
    rw [if_pos rfl] at hE
    by_cases he2 : er2 = 0
    · subst he2
      have hs := hid (show Tm.joinIs rs P Q = sameB x y by rw [hI.out, hE.out]; simp)
      rw [hE.out, hs.out]
      clear hI hE hs
      go_enter Try.func25, Try.ntmps25
      go_wp2_with fail
      rw [HW1.out]
      go_wp2_with fail
      refine C1.out.mono ?_
      rintro e w1 ⟨v1, rfl, n1, b1⟩
      obtain ⟨x1, c1, rfl, i1, l1, l1'⟩ := New.ints n1
      have c1' := (bx.below b1 bx.lt).cell1
      clear C1 n1
      go_wp2_with fail
      refine (C2.out w1 b1).mono ?_
      rintro e w2 ⟨v2, rfl, n2, b2⟩
      obtain ⟨x2, c2, rfl, i2, _⟩ := New.ints n2
      have B2 := b1.trans (b2.mono b1.size)
      have hEq := equal_any x y x1 x2 c1 c2 w2 ((i1.below b2).mono b2.size) i2 (by omega)
      clear C2 n2 i1 i2 c1'
      go_wp2_with fail
      refine hEq.mono ?_
      rintro e w3 ⟨rfl, b3⟩
      go_wp2
      go_ret2
      have B3 := B2.trans (b3.mono B2.size)
      exact ⟨rfl, hB1.trans (B3.mono hB1.size)⟩
    · have hs := hid (show Tm.joinIs rs P Q = false by rw [hI.out, hE.out]; simp [he2])
      have hne : (er2 != 0) = true := by simpa using he2
      rw [hE.out, hs.out]
      clear hI hE hs he2
      go_enter Try.func25, Try.ntmps25
      go_wp2_with fail
      rw [HW1.out]
      go_wp2_with fail
      refine C1.out.mono ?_
      rintro e w1 ⟨v1, rfl, n1, b1⟩
      obtain ⟨x1, c1, rfl, i1, l1, l1'⟩ := New.ints n1
      have c1' := (bx.below b1 bx.lt).cell1
      clear C1 n1
      go_wp2_with fail
      refine (C2.out w1 b1).mono ?_
      rintro e w2 ⟨v2, rfl, n2, b2⟩
      obtain ⟨x2, c2, rfl, i2, _⟩ := New.ints n2
      have B2 := b1.trans (b2.mono b1.size)
      clear C2 n2 i1 i2 c1'
      go_wp2
      go_ret2
      exact ⟨rfl, hB1.trans (B2.mono hB1.size)⟩
  · have hs := hid (show Tm.joinIs rs P Q = false by rw [hI.out, hE.out, if_neg he]; simp [he])
    rw [if_neg he] at hE
    have hne : (er != 0) = true := by simpa using he
    rw [hE.out, hs.out]
    clear hI hE hs he
    go_enter Try.func25, Try.ntmps25
    go_wp2_with fail
    rw [HW1.out]
    go_wp2_with fail
    refine C1.out.mono ?_
    rintro e w1 ⟨v1, rfl, n1, b1⟩
    obtain ⟨x1, c1, rfl, i1, l1, l1'⟩ := New.ints n1
    clear C1 n1
    go_wp2
    go_ret2
    exact ⟨rfl, hB1.trans (b1.mono hB1.size)⟩

/-- Do all pairs of a list meet? -/
def Tm.joinL (rs : RuleL) : PairL → Bool × Int
  | [] => (true, 0)
  | p :: l => if Tm.joinIs rs p.1 p.2 = true then Tm.joinL rs l else (false, Tm.joinErr rs p.1 p.2)
theorem Tm.joinL_step {rs : RuleL} {ps : PairL} {k : Nat} (hk : k < ps.length) (h : Tm.joinIs rs (ps[k]?.getD ([], [])).1 (ps[k]?.getD ([], [])).2 = true) : Tm.joinL rs (ps.drop k) = Tm.joinL rs (ps.drop (k + 1)) := by
  rw [List.drop_eq_getElem_cons hk, Tm.joinL]
  simp only [hk, List.getElem?_eq_getElem, Option.getD_some] at h
  rw [if_pos h]
theorem Tm.joinL_at {rs : RuleL} {ps : PairL} {k : Nat} (hk : k < ps.length) (h : Tm.joinIs rs (ps[k]?.getD ([], [])).1 (ps[k]?.getD ([], [])).2 = false) : Tm.joinL rs (ps.drop k) = (false, Tm.joinErr rs (ps[k]?.getD ([], [])).1 (ps[k]?.getD ([], [])).2) := by
  rw [List.drop_eq_getElem_cons hk, Tm.joinL]
  simp only [hk, List.getElem?_eq_getElem, Option.getD_some] at h ⊢
  rw [if_neg (by simp [h])]
theorem Tm.joinIs_err {rs : RuleL} {P Q : List Int} (h : Tm.joinIs rs P Q = true) : Tm.joinErr rs P Q = 0 := by
  unfold Tm.joinIs at h
  simp only [Bool.and_eq_true, decide_eq_true_eq] at h
  exact h.1
/-- What join.All answers. -/
def Tm.JoinSays (rs : RuleL) (is : Bool) (er : Int) : Prop := ∃ er' ps, Tm.AllPSays rs er' ps ∧ ((er' ≠ 0 ∧ is = false ∧ er = er') ∨ (er' = 0 ∧ (is, er) = Tm.joinL rs ps))
theorem Tm.AllPSays.len {rs : RuleL} {er : Int} {ps : PairL} (h : Tm.AllPSays rs er ps) : ps.length ≤ 40 := by
  rcases h with ⟨l, _, ⟨h1, _, rfl⟩ | ⟨_, _, rfl⟩⟩ | ⟨_, _, _, _, _, _, _, _, _, rfl⟩
  · exact h1
  · simp
  · simp

set_option maxRecDepth 100000 in
set_option maxHeartbeats 2000000 in
theorem joinAll_any (rs : RuleL) (a : Option Addr) (cap : Nat) (w : World) (hR : RulesAt w.heap.size w a rs) (hcl : rs.length ≤ maxLen) :
    Calls Try.prog 19 #[.slice a rs.length cap] w fun e w' => ∃ is er, Tm.JoinSays rs is er ∧ e = .returned (.tuple #[.bool is, .int .i64 er]) ∧ Below w.heap.size w w' := by
  have hA := hid (AllP_any rs a cap w hR hcl)
  have HR := hid hR
  clear hR
  go_enter Try.func19, Try.ntmps19
  go_wp2_with fail
  refine hA.out.mono ?_
  rintro e w1 ⟨er, ps, v, hsay, rfl, hN, B1⟩
  obtain ⟨pa, pc, rfl, hP, _⟩ := hN.at
  clear hA hN
  by_cases he : er = 0
  · subst he
    have h40 := hsay.len
    have h40' : (ps.length : Int) ≤ 40 := by omega
    have HP := hid hP
    have Hsay := hid (fun is er h => (⟨0, ps, hsay, .inr ⟨rfl, h⟩⟩ : Tm.JoinSays rs is er))
    clear hsay hP
    go_wp2
    go_loopw [20] (fun x wr => ∃ k : Nat, k ≤ ps.length ∧ x = .int .i64 (k : Int) ∧ Hid (Tm.joinL rs ps = Tm.joinL rs (ps.drop k)) ∧ Below w1.heap.size w1 wr) (fun x _ => ps.length - (intOf x).toNat)
    case atStart => exact ⟨0, Nat.zero_le _, rfl, hid rfl, Below.refl _ _⟩
    case round =>
      obtain ⟨k, hk, rfl, hst, hB⟩ := hrel
      have BW := B1.trans (hB.mono B1.size)
      by_cases hlt : k < ps.length
      · have hlt' : (k : Int) < (ps.length : Int) := by omega
        obtain ⟨b, off, rfl, hb, aL, cL, aR, cR, g1, g2, g3, g4, g5, g6, g7, g8⟩ := (HP.out.below hB) k hlt
        have hs1 := hid (Tm.joinL_step (rs := rs) hlt)
        have hs2 := hid (Tm.joinL_at (rs := rs) hlt)
        generalize (ps[k]?.getD ([], [])).1 = P at *
        generalize (ps[k]?.getD ([], [])).2 = Q at *
        have hBa : Below wr.heap.size wr (wr.alloc (.cells #[.slice aL P.length cL, .slice aR Q.length cR] 42)) := (Below.refl _ _).alloc (Nat.le_refl _) _
        have bx := Box2.new wr 42 (.slice aL P.length cL) (.slice aR Q.length cR)
        have y0 := bx.cell0
        have y1 := bx.cell1
        have BWa := BW.trans (hBa.mono BW.size)
        have BBa := hB.trans (hBa.mono hB.size)
        have hC := hid (joinPair_any rs P Q a aL aR cap cL cR (wr.alloc (.cells #[.slice aL P.length cL, .slice aR Q.length cR] 42)) ((HR.out.below BWa).mono BWa.size) ((((g3.mono hB.size).below hBa)).mono hBa.size) ((((g4.mono hB.size).below hBa)).mono hBa.size) g5 g6 g7 g8)
        clear g3 g4 bx
        by_cases hj : Tm.joinIs rs P Q = true
        · rw [hj, Tm.joinIs_err hj] at hC
          have Hs := hid (hs1.out hj)
          clear hj hs1 hs2
          go_wp2_with fail
          refine hC.out.mono ?_
          rintro e w2 ⟨rfl, b2⟩
          clear hC
          go_wp2
          go_roundw
          case rel => exact ⟨k + 1, by omega, by go_num, hid (hst.out.trans Hs.out), BBa.trans (b2.mono BBa.size)⟩
          case measure => simp [intOf]; omega
        · have hj' : Tm.joinIs rs P Q = false := by simpa using hj
          rw [hj'] at hC
          have Hs := hid (hs2.out hj')
          clear hj hj' hs1 hs2
          generalize Tm.joinErr rs P Q = q at *
          go_wp2_with fail
          refine hC.out.mono ?_
          rintro e w2 ⟨rfl, b2⟩
          clear hC
          go_wp2
          go_ret2
          exact ⟨false, q, Hsay.out _ _ (by rw [hst.out, Hs.out]), rfl, BWa.trans (b2.mono BWa.size)⟩
      · obtain rfl : k = ps.length := by omega
        have Hs := hid (hst.out.trans (by rw [List.drop_length]; rfl : Tm.joinL rs (ps.drop ps.length) = (true, 0)))
        go_wp2
        go_ret2
        exact ⟨true, 0, Hsay.out _ _ Hs.out.symm, rfl, BW⟩
  · have hne : (er != 0) = true := by simpa using he
    have Hsay : Hid (Tm.JoinSays rs false er) := ⟨er, ps, hsay, .inl ⟨he, rfl, rfl⟩⟩
    clear he hsay
    go_wp2
    go_ret2
    exact ⟨false, er, Hsay.out, rfl, B1⟩

end Go.Proofs.Ytgeknojpcjadkaa

namespace Go.Proofs.Ytgeknojpcjadkaa
open Go.Proofs Go.RowKit Go.Shelf

/-- At each place: passed over, no meeting, or a pair in the list. -/
theorem Tm.Laps.each {L1 R1 L2 R2 : List Int} {pass : Nat → Bool} {n : Nat} {l : PairL} (h : Tm.Laps L1 R1 L2 R2 pass n l) : ∀ m, m < n → pass m = true ∨ (∃ val, Tm.MeetSays [(Tm.part L1 m, L2)] 0 false val) ∨
    (∃ val, Tm.MeetSays [(Tm.part L1 m, L2)] 0 true val ∧ Tm.prtErr val L1 R1 (m : Int) R2 = 0 ∧ Tm.prtVal val L1 R1 (m : Int) R2 ∈ l) := by
  induction h with
  | zero => intro m hm; omega
  | @pass k l _ hp ih =>
    intro m hm
    rcases Nat.lt_or_ge m k with h1 | h1
    · exact ih m h1
    · obtain rfl : m = k := by omega
      exact .inl hp
  | @no k l val _ _ hs ih =>
    intro m hm
    rcases Nat.lt_or_ge m k with h1 | h1
    · exact ih m h1
    · obtain rfl : m = k := by omega
      exact .inr (.inl ⟨val, hs⟩)
  | @yes k l val _ _ hs he ih =>
    intro m hm
    rcases Nat.lt_or_ge m k with h1 | h1
    · rcases ih m h1 with h | h | ⟨v, a, b, c⟩
      · exact .inl h
      · exact .inr (.inl h)
      · exact .inr (.inr ⟨v, a, b, List.mem_append_left _ c⟩)
    · obtain rfl : m = k := by omega
      exact .inr (.inr ⟨val, hs, he, List.mem_append_right _ (List.mem_singleton.2 rfl)⟩)

/-- The pairs of each two rules are in the list of all. -/
theorem Tm.AllTo.has {rs : RuleL} {n j : Nat} {l : PairL} (h : Tm.AllTo rs n j l) : ∀ a b, b < rs.length → (a < n ∨ (a = n ∧ b < j)) → ∃ ps, Tm.OfSays rs (a : Int) (b : Int) 0 ps ∧ ∀ x ∈ ps, x ∈ l := by
  induction h with
  | zero => intro a b _ h; omega
  | @next i j l ps _ _ hs ih =>
    intro a b hb h
    by_cases e : a = i ∧ b = j
    · obtain ⟨rfl, rfl⟩ := e
      exact ⟨ps, hs, fun x hx => List.mem_append_right _ hx⟩
    · obtain ⟨qs, h1, h2⟩ := ih a b hb (by omega)
      exact ⟨qs, h1, fun x hx => List.mem_append_left _ (h2 x hx)⟩
  | @row i l _ ih =>
    intro a b hb h
    exact ih a b hb (by omega)

theorem Tm.joinL_all {rs : RuleL} : ∀ {ps : PairL} {er : Int}, Tm.joinL rs ps = (true, er) → ∀ p ∈ ps, Tm.joinIs rs p.1 p.2 = true := by
  intro ps
  induction ps with
  | nil => intro er _ p hp; cases hp
  | cons q l ih =>
    intro er h p hp
    rw [Tm.joinL] at h
    by_cases hq : Tm.joinIs rs q.1 q.2 = true
    · rw [if_pos hq] at h
      rcases List.mem_cons.1 hp with rfl | hp
      · exact hq
      · exact ih h p hp
    · rw [if_neg hq] at h
      cases h

/-- If all pairs meet: each pair of each two rules does. -/
theorem Tm.JoinSays.all {rs : RuleL} {er : Int} (h : Tm.JoinSays rs true er) : ∀ a b, a < rs.length → b < rs.length → ∃ ps, Tm.OfSays rs (a : Int) (b : Int) 0 ps ∧ ∀ p ∈ ps, Tm.joinIs rs p.1 p.2 = true := by
  intro a b ha hb
  obtain ⟨er', ps, h1, ⟨_, h2, _⟩ | ⟨rfl, h2⟩⟩ := h
  · cases h2
  · rcases h1 with ⟨l, hA, ⟨_, _, rfl⟩ | ⟨_, e, _⟩⟩ | ⟨_, _, _, _, _, _, _, _, h3, _⟩
    · obtain ⟨qs, q1, q2⟩ := hA.has a b hb (by omega)
      exact ⟨qs, q1, fun p hp => Tm.joinL_all h2.symm p (q2 p hp)⟩
    · omega
    · exact absurd rfl h3

end Go.Proofs.Ytgeknojpcjadkaa

namespace Go.Proofs.Ytgeknojpcjadkaa
open Go.Proofs Go.RowKit Go.Shelf

theorem Cx.fill_ok {C : Cx} {u : Tr} (h : (C.fill u).ok) : u.ok := by
  induction C with
  | hole => exact h
  | one s C ih => exact ih h.2
  | twoL s C b ih => exact ih h.2.1
  | twoR s a C ih => exact ih h.2.2
theorem Cx.fill_len (C : Cx) (u : Tr) : C = .hole ∨ u.flat.length < (C.fill u).flat.length := by
  induction C with
  | hole => exact .inl rfl
  | one s C ih =>
    right
    rcases ih with rfl | h
    · simp [Cx.fill, Tr.flat]
    · simp [Cx.fill, Tr.flat]; omega
  | twoL s C b ih =>
    right
    rcases ih with rfl | h
    · simp [Cx.fill, Tr.flat]; omega
    · simp [Cx.fill, Tr.flat]; omega
  | twoR s a C ih =>
    right
    rcases ih with rfl | h
    · simp [Cx.fill, Tr.flat]; omega
    · simp [Cx.fill, Tr.flat]; omega
theorem Cx.hole_of {C : Cx} {u : Tr} (h : C.fill u = u) : C = .hole := by
  rcases C.fill_len u with h' | h'
  · exact h'
  · rw [h] at h'; omega
theorem Tr.sub_back {f g : Int → Tr} : ∀ {x : Tr}, x.ok → x.sub f = x.sub g → ∀ s ∈ x.flat, s < 0 → f s = g s := by
  intro x
  induction x with
  | leaf s =>
    intro _ h x hx h0
    rw [Tr.flat, List.mem_singleton] at hx
    subst hx
    simpa only [Tr.sub, if_pos h0] using h
  | one s a ih =>
    intro ho h x hx h0
    simp only [Tr.sub, Tr.one.injEq, true_and] at h
    rcases List.mem_cons.1 hx with rfl | hx
    · have := ho.1; omega
    · exact ih ho.2 h x hx h0
  | two s a b iha ihb =>
    intro ho h x hx h0
    simp only [Tr.sub, Tr.two.injEq, true_and] at h
    rcases List.mem_cons.1 hx with rfl | hx
    · have := ho.1; omega
    · rcases List.mem_append.1 hx with hx | hx
      · exact iha ho.2.1 h.1 x hx h0
      · exact ihb ho.2.2 h.2 x hx h0

/-- Two right terms of which join says that they have one form meet, as trees. -/
theorem Tr.join_meets {rs : RuleL} {Rs : List (Tr × Tr)} (hR : Tr.Rules rs Rs) {x y : Tr} (hx : x.ok) (hy : y.ok) (h : Tm.joinIs rs x.flat y.flat = true) : Tr.Meets Rs x y := by
  unfold Tm.joinIs Tm.joinErr at h
  rw [Bool.and_eq_true, decide_eq_true_eq] at h
  obtain ⟨h1, h2⟩ := h
  by_cases h0 : (Tm.form rs x.flat).2.2 = 0
  · rw [if_pos h0] at h1
    obtain ⟨u, u1, u2, u3, _⟩ := Tr.form hR hx h0
    obtain ⟨v, v1, v2, v3, _⟩ := Tr.form hR hy h1
    have e : u.flat = v.flat := by
      rw [u2, v2]
      simpa [sameB] using h2
    rw [Tr.flat_inj u1 v1 e] at u3
    exact ⟨v, u3, v3⟩
  · rw [if_neg h0] at h1
    exact absurd h1 h0

end Go.Proofs.Ytgeknojpcjadkaa

namespace Go.Proofs.Ytgeknojpcjadkaa
open Go.Proofs Go.RowKit Go.Shelf

theorem Cx.sub_congr {f h : Int → Tr} {u : Tr} : ∀ (C : Cx), (∀ s ∈ (C.fill u).flat, s < 0 → f s = h s) → C.sub f = C.sub h := by
  intro C
  induction C with
  | hole => intro _; rfl
  | one s C ih => intro H; simp only [Cx.sub, ih (fun s hs => H s (List.mem_cons_of_mem _ hs))]
  | twoL s C b ih => intro H; simp only [Cx.sub, ih (fun s hs => H s (List.mem_cons_of_mem _ (List.mem_append_left _ hs))), Tr.sub_congr (x := b) (fun s hs => H s (List.mem_cons_of_mem _ (List.mem_append_right _ hs)))]
  | twoR s a C ih => intro H; simp only [Cx.sub, ih (fun s hs => H s (List.mem_cons_of_mem _ (List.mem_append_right _ hs))), Tr.sub_congr (x := a) (fun s hs => H s (List.mem_cons_of_mem _ (List.mem_append_left _ hs)))]
theorem Tr.Rules.idx {rs : RuleL} {Rs : List (Tr × Tr)} (hR : Tr.Rules rs Rs) {l r : Tr} (hm : (l, r) ∈ Rs) : ∃ k, k < rs.length ∧ rs[k]?.getD ([], []) = (l.flat, r.flat) ∧ Rs[k]? = some (l, r) := by
  obtain ⟨k, hk, e⟩ := List.getElem_of_mem hm
  refine ⟨k, by rw [← hR.1]; simpa using hk, ?_, by rw [List.getElem?_eq_getElem hk, e]⟩
  rw [← hR.1, List.getElem?_map, List.getElem?_eq_getElem hk, e]
  rfl
theorem Cx.fill_in {C : Cx} {u v : Tr} (h : (C.fill u).ok) (hv : v.ok) : (C.fill v).ok := by
  induction C with
  | hole => exact hv
  | one s C ih => exact ⟨h.1, ih h.2⟩
  | twoL s C b ih => exact ⟨h.1, ih h.2.1, h.2.2⟩
  | twoR s a C ih => exact ⟨h.1, h.2.1, ih h.2.2⟩
theorem Tr.rule_in {L R : List Int} (h : R.any (freeIn L) = false) : ∀ s ∈ R, s < 0 → s ∈ L := fun s hs h0 => by
  rw [List.any_eq_false] at h
  have := h s hs
  unfold freeIn at this
  rw [decide_eq_true h0] at this
  exact Tm.hasB_mem (by simpa using this)
/-- The other names. -/
def Tr.far (x : Tr) : Tr := x.sub (fun s => .leaf (s - 4))
theorem Tr.far_ok {x : Tr} (h : x.ok) : x.far.ok := Tr.sub_ok (fun s hs => by show s - 4 < 2; omega) h
theorem Tr.far_flat {x : Tr} (h : x.ok) : x.far.flat = Tm.others x.flat := (Tr.sub_names (q := fun s => s - 4) x h).trans rfl
theorem Tr.far_sub {f g : Int → Tr} {x : Tr} (hv : ∀ s ∈ x.flat, -4 ≤ s ∧ s < 6) : x.far.sub (fun v => if -4 ≤ v then f v else g (v + 4)) = x.sub g := by
  unfold Tr.far
  rw [Tr.sub_sub]
  refine Tr.sub_congr fun s hs h0 => ?_
  have := hv s hs
  rw [Tr.sub, if_pos (by omega)]
  show (if -4 ≤ s - 4 then f (s - 4) else g (s - 4 + 4)) = g s
  rw [if_neg (by omega), show s - 4 + 4 = s from by omega]

theorem Tr.lap_meet {rs : RuleL} {Rs : List (Tr × Tr)} (hR : Tr.Rules rs Rs) (hr : Tm.rulesErr rs = 0) (hj : ∀ a b, a < rs.length → b < rs.length → ∃ ps, Tm.OfSays rs (a : Int) (b : Int) 0 ps ∧ ∀ p ∈ ps, Tm.joinIs rs p.1 p.2 = true) : Tr.LapMeet Rs := by
  intro l1 r1 l2 r2 hm1 hm2 C u f g hC hu hf hg he
  obtain ⟨a, ha, ea, ga⟩ := hR.idx hm1
  obtain ⟨b, hb, eb, gb⟩ := hR.idx hm2
  obtain ⟨_, hall⟩ := Tm.rulesErr_ok hr
  have ra := hall a ha
  have rb := hall b hb
  rw [ea] at ra
  rw [eb] at rb
  obtain ⟨eL1, eR1, hv1⟩ := Tm.ruleErr_ok ra
  obtain ⟨eL2, eR2, _⟩ := Tm.ruleErr_ok rb
  obtain ⟨vL1, vR1⟩ := Tm.rule_vars ra
  obtain ⟨vL2, vR2⟩ := Tm.rule_vars rb
  have o1 := hR.2 _ hm1
  have o2 := hR.2 _ hm2
  have hu' : u.ok := Cx.fill_ok (C := C) (by rw [hC]; exact o1.1)
  obtain ⟨pre, suf, hpre⟩ := C.flat
  have eL : l1.flat = pre ++ (u.flat ++ suf) := by rw [← hC, hpre]
  have hpart : Tm.part l1.flat pre.length = u.flat := by rw [eL]; exact (Tr.part_of hu' pre suf).2
  have hmlt : pre.length < l1.flat.length := by rw [eL]; have := u.flat_pos; simp; omega
  obtain ⟨H, hH⟩ : ∃ H : Int → Tr, H = fun v => if -4 ≤ v then f v else g (v + 4) := ⟨_, rfl⟩
  have okH : Tr.Oks H := fun v hv => by
    rw [hH]
    show (if -4 ≤ v then f v else g (v + 4)).ok
    split
    · exact hf v hv
    · exact hg _ (by omega)
  have nearH : ∀ s, -4 ≤ s → f s = H s := fun s h4 => by rw [hH]; exact (if_pos h4).symm
  have memu : ∀ s ∈ u.flat, s ∈ l1.flat := fun s hs => by rw [eL]; exact List.mem_append_right _ (List.mem_append_left _ hs)
  have uH : u.sub f = u.sub H := Tr.sub_congr fun s hs _ => nearH s (vL1 s (memu s hs)).1
  have CH : C.sub f = C.sub H := Cx.sub_congr (u := u) C fun s hs _ => nearH s (vL1 s (by rw [← hC]; exact hs)).1
  have rH : r1.sub f = r1.sub H := Tr.sub_congr fun s hs _ => nearH s (vR1 s hs).1
  have l2H : l2.far.sub H = l2.sub g := by rw [hH]; exact Tr.far_sub vL2
  have r2H : r2.far.sub H = r2.sub g := by rw [hH]; exact Tr.far_sub vR2
  obtain ⟨θ, hθ⟩ : ∃ θ : Wb.Sb, θ = fun v => (H v).flat := ⟨_, rfl⟩
  have tθ : Wb.TermSb θ := fun s hs => by rw [hθ]; exact Tr.run1 (okH s hs)
  have appH : ∀ x : Tr, x.ok → (x.sub H).flat = Wb.App θ x.flat := fun x hx => Tr.sub_app x hx fun s _ _ => by rw [hθ]
  have hSame : Wb.Same [(Tm.part l1.flat pre.length, Tm.others l2.flat)] 1 θ := fun j hj' => by
    obtain rfl : j = 0 := by omega
    show Wb.App θ (Tm.part l1.flat pre.length) = Wb.App θ (Tm.others l2.flat)
    rw [hpart, ← appH u hu', ← uH, he, ← l2H, appH _ (Tr.far_ok o2.1), Tr.far_flat o2.1]
  obtain ⟨ps, hO, hjo⟩ := hj a b ha hb
  rcases hO with ⟨h1, _⟩ | ⟨_, h2, _⟩ | ⟨_, a', b', _, _, ea', eb', hL⟩
  · exact absurd hr h1
  · exact absurd ⟨by omega, by omega, by omega, by omega⟩ h2
  · obtain rfl : a = a' := by omega
    obtain rfl : b = b' := by omega
    rw [ea, eb] at hL
    rcases hL with ⟨_, hL⟩ | ⟨hL, _⟩
    · rcases hL.each pre.length hmlt with hp | ⟨val, hno⟩ | ⟨val, hyes, hpe, hin⟩
      · have hs : l1.flat[pre.length]?.getD 0 = u.sy := by
          rw [eL, List.getElem?_append_right (Nat.le_refl _), Nat.sub_self, List.getElem?_append_left u.flat_pos]
          exact Tr.sym u
        unfold Tm.passB at hp
        rw [hs, decide_eq_false (by omega), Bool.false_or, Bool.and_eq_true, decide_eq_true_eq, decide_eq_true_eq] at hp
        obtain ⟨hp0, hab⟩ := hp
        obtain rfl : a = b := by omega
        obtain rfl : pre = [] := List.eq_nil_of_length_eq_zero hp0
        obtain rfl : l1 = u := (Tr.inj o1.1 (l := []) (m := suf) hu' (by rw [List.append_nil, eL]; rfl)).1
        obtain rfl : C = .hole := Cx.hole_of hC
        rw [ga] at gb
        cases gb
        have hb' := Tr.sub_back o1.1 he
        have : r1.sub f = r1.sub g := Tr.sub_congr fun s hs h0 => hb' s (Tr.rule_in hv1.2.2.2 s hs h0) h0
        rw [this]
        exact ⟨_, .refl _, .refl _⟩
      · rcases hno with ⟨h1, h2, _⟩ | ⟨_, h2, _⟩ | ⟨_, _, _, _, _, h2, _⟩ | ⟨_, _, _, _, h2, _⟩
        · exact absurd h2.symm h1
        · exact absurd hSame (h2 θ tθ)
        · cases h2
        · omega
      · rcases hyes with ⟨h1, h2, _⟩ | ⟨_, _, _, h2, _⟩ | ⟨_, σ, hM, _, _, _, rfl⟩ | ⟨_, _, _, _, h2, _⟩
        · exact absurd h2.symm h1
        · cases h2
        · have key : ∀ v : Int, ∃ y : Tr, y.ok ∧ (-8 ≤ v → v < 0 → y.flat = σ v) := fun v => by
            by_cases hv : -8 ≤ v ∧ v < 0
            · obtain ⟨y, y1, y2⟩ := Tr.of (fun s hs => (hM.vars v hv.1 hv.2 s hs).2) (hM.term v hv.2)
              exact ⟨y, y1, fun _ _ => y2⟩
            · exact ⟨.leaf 0, by simp [Tr.ok], fun h1 h2 => absurd ⟨h1, h2⟩ hv⟩
          obtain ⟨K, hK⟩ := Classical.axiomOfChoice key
          have okK : Tr.Oks K := fun v _ => (hK v).1
          have KH : ∀ v, -8 ≤ v → v < 0 → (K v).sub H = H v := fun v h8 h0 => by
            refine Tr.flat_inj (Tr.sub_ok okH (hK v).1) (okH v h0) ?_
            rw [appH _ (hK v).1, (hK v).2 h8 h0, ← hM.most θ tθ hSame v h8 h0, hθ]
          have subKH : ∀ x : Tr, (∀ s ∈ x.flat, -8 ≤ s) → (x.sub K).sub H = x.sub H := fun x hx => by
            rw [Tr.sub_sub]
            exact Tr.sub_congr fun s hs h0 => KH s (hx s hs) h0
          have flatK : ∀ x : Tr, x.ok → (∀ s ∈ x.flat, -8 ≤ s) → (x.sub K).flat = Tm.applied (Tm.sbL σ) x.flat := fun x hx h8 => by
            refine Tr.sub_flat x hx fun s hs h0 => ?_
            have := h8 s hs
            rw [(hK s).2 this h0]
            unfold Tm.piece
            rw [if_pos h0, Tm.sbL_at σ (by omega), show (-1 - ((-1 - s).toNat : Int)) = s from by omega]
          have farge : ∀ s ∈ r2.far.flat, -8 ≤ s := fun s hs => by
            rw [Tr.far_flat o2.2] at hs
            unfold Tm.others at hs
            obtain ⟨x, hx, rfl⟩ := List.mem_map.1 hs
            have := vR2 x hx
            unfold Tm.oth
            split <;> omega
          have fillf : (C.fill r2.far).flat = Tm.put l1.flat pre.length (Tm.others r2.flat) := by rw [hpre, eL, Tr.put_of hu', Tr.far_flat o2.2]
          have fillge : ∀ s ∈ (C.fill r2.far).flat, -8 ≤ s := fun s hs => by
            rw [hpre] at hs
            rcases List.mem_append.1 hs with hs | hs
            · have := vL1 s (by rw [eL]; exact List.mem_append_left _ hs); omega
            · rcases List.mem_append.1 hs with hs | hs
              · exact farge s hs
              · have := vL1 s (by rw [eL]; exact List.mem_append_right _ (List.mem_append_right _ hs)); omega
          have fillok : (C.fill r2.far).ok := Cx.fill_in (by rw [hC]; exact o1.1) (Tr.far_ok o2.2)
          have hgoal1 : ((C.fill r2.far).sub K).sub H = (C.sub f).fill (r2.sub g) := by rw [subKH _ fillge, Cx.fill_sub, CH, r2H]
          have hgoal2 : (r1.sub K).sub H = r1.sub f := by rw [subKH _ (fun s hs => by have := vR1 s hs; omega), rH]
          rw [← hgoal1, ← hgoal2]
          refine (Tr.Meets.sub okH ?_).symm
          have hj1 := hjo _ hin
          unfold Tm.prtVal at hj1
          rw [if_pos hpe] at hj1
          unfold Tm.prtErr at hpe
          have p0 : Tm.putErr l1.flat (pre.length : Int) (Tm.others r2.flat) = 0 := by
            by_cases h : Tm.putErr l1.flat (pre.length : Int) (Tm.others r2.flat) = 0
            · exact h
            · rw [if_neg h] at hpe; exact hpe
          rw [if_pos p0] at hpe
          have p1 : Tm.applyErr (Tm.sbL σ) (Tm.putVal l1.flat (pre.length : Int) (Tm.others r2.flat)) = 0 := by
            by_cases h : Tm.applyErr (Tm.sbL σ) (Tm.putVal l1.flat (pre.length : Int) (Tm.others r2.flat)) = 0
            · exact h
            · rw [if_neg h] at hpe; exact hpe
          rw [if_pos p1] at hpe
          have vA : Tm.applyVal (Tm.sbL σ) (Tm.putVal l1.flat (pre.length : Int) (Tm.others r2.flat)) = ((C.fill r2.far).sub K).flat := by
            unfold Tm.applyVal
            rw [if_pos p1, flatK _ fillok fillge, fillf]
            unfold Tm.putVal
            rw [if_pos p0]
            rfl
          have vB : Tm.applyVal (Tm.sbL σ) r1.flat = (r1.sub K).flat := by
            unfold Tm.applyVal
            rw [if_pos hpe, flatK _ o1.2 (fun s hs => by have := vR1 s hs; omega)]
          have eA := Tm.applyVal_err p1
          have eB := Tm.applyVal_err hpe
          rw [vA] at eA
          rw [vB] at eB
          rw [vA, vB] at hj1
          obtain ⟨_, _, _, _, e3, e4⟩ := Tm.plain_ren eA eB
          obtain ⟨q, q0, q1, q2⟩ := Tm.plain_back eA eB
          obtain ⟨xP, x1, x2⟩ := Tr.of_err e3
          obtain ⟨xQ, y1, y2⟩ := Tr.of_err e4
          have okq : Tr.Oks (fun s => .leaf (q s)) := fun s _ => by show q s < 2; have := q0 s; omega
          have hx : xP.sub (fun s => .leaf (q s)) = (C.fill r2.far).sub K := Tr.flat_inj (Tr.sub_ok okq x1) (Tr.sub_ok okK fillok) (by rw [Tr.sub_names xP x1, x2]; exact q1.symm)
          have hy : xQ.sub (fun s => .leaf (q s)) = r1.sub K := Tr.flat_inj (Tr.sub_ok okq y1) (Tr.sub_ok okK o1.2) (by rw [Tr.sub_names xQ y1, y2]; exact q2.symm)
          rw [← hx, ← hy]
          refine Tr.Meets.sub okq (Tr.join_meets hR x1 y1 ?_)
          rw [x2, y2]
          exact hj1
        · omega
    · exact absurd rfl hL.1

end Go.Proofs.Ytgeknojpcjadkaa

namespace Go.Proofs.Ytgeknojpcjadkaa
open Go.Proofs Go.RowKit Go.Shelf

theorem low_of (rk : List Int) : ∃ B : Int, ∀ k : Nat, B ≤ rk[k]?.getD 0 := by
  induction rk with
  | nil => exact ⟨0, fun k => by simp⟩
  | cons x l ih =>
    obtain ⟨B, h⟩ := ih
    refine ⟨min x B, fun k => ?_⟩
    cases k with
    | zero => simp only [List.getElem?_cons_zero, Option.getD_some]; omega
    | succ k => have := h k; simp only [List.getElem?_cons_succ]; omega
theorem Tm.conf {rk : List Int} {rs : RuleL} {er : Int} (hf : Tm.fallsErr rk rs = 0) (hv : Tm.fallsVal rk rs = true) (hj : Tm.JoinSays rs true er) : ∃ Rs, Tr.Rules rs Rs ∧
    (∀ x y z : Tr, x.ok → Tr.Sts Rs x y → Tr.Sts Rs x z → Tr.Meets Rs y z) ∧ ∀ x y u v : Tr, x.ok → y.ok → Tr.Meets Rs x y → Tr.Sts Rs x u → (∀ z, ¬ Tr.St Rs u z) → Tr.Sts Rs y v → (∀ z, ¬ Tr.St Rs v z) → u = v := by
  have hrk : Tm.rankErr rk = 0 := by
    by_cases h : Tm.rankErr rk = 0
    · exact h
    · unfold Tm.fallsErr at hf; rw [if_neg h] at hf; exact hf
  have hr : Tm.rulesErr rs = 0 := by unfold Tm.fallsErr at hf; rw [if_pos hrk] at hf; exact hf
  obtain ⟨Rs, hR⟩ := Tr.Rules.err hr
  obtain ⟨B, hB⟩ := low_of rk
  have h0 : ∀ s, 0 ≤ s → B ≤ Tm.rankOf rk s := fun s _ => hB _
  have hg : ∀ p ∈ Rs, Tr.G (Tm.rankOf rk) p.1 p.2 := fun p hp => by
    obtain ⟨k, hk, e, _⟩ := hR.idx (l := p.1) (r := p.2) hp
    unfold Tm.fallsVal at hv
    rw [if_pos hf] at hv
    unfold Tm.fallsB at hv
    rw [List.all_eq_true] at hv
    have hm : (p.1.flat, p.2.flat) ∈ rs := by
      rw [← e, List.getElem?_eq_getElem hk, Option.getD_some]
      exact List.getElem_mem hk
    obtain ⟨_, hall⟩ := Tm.rulesErr_ok hr
    have ra := hall k hk
    rw [e] at ra
    obtain ⟨e1, e2, _⟩ := Tm.ruleErr_ok ra
    exact (Tm.aboveVal_iff (Tm.aboveErr_of hrk e1 e2)).1 (hv _ hm)
  have hl := Tr.lap_meet hR hr hj.all
  exact ⟨Rs, hR, fun x y z hx hy hz => Tr.meet_all h0 hR.2 hg hl hx hy hz, fun x y u v hx hy hm hu hu' hv hv' => Tr.one_form h0 hR.2 hg hl hx hy hm hu hu' hv hv'⟩

end Go.Proofs.Ytgeknojpcjadkaa

namespace Go.Proofs.Ytgeknojpcjadkaa
open Go.Proofs Go.RowKit Go.Shelf

theorem Tm.form_err {rs : RuleL} {t : List Int} (h : (Tm.form rs t).2.2 = 0) : Tm.rulesErr rs = 0 ∧ Tm.err t = 0 := by
  obtain ⟨n, _, hr, _⟩ := Tm.form_runs h
  generalize (Tm.form rs t).1 = v at hr
  cases hr with
  | stop h1 h2 => exact ⟨(Tm.stepErr_term h1).1, (Tm.stepErr_term h1).2.1⟩
  | go h1 h2 h3 => exact ⟨(Tm.stepErr_term h1).1, (Tm.stepErr_term h1).2.1⟩
theorem Tm.form_ok {rs : RuleL} {t : List Int} (h : (Tm.form rs t).2.2 = 0) : Tm.err (Tm.form rs t).1 = 0 := by
  obtain ⟨n, _, hr, _⟩ := Tm.form_runs h
  exact (Tm.stepErr_term (Tm.runs_end hr).1).2.1
theorem Tm.join_true {rk : List Int} {rs : RuleL} {er : Int} (hf : Tm.fallsErr rk rs = 0) (hv : Tm.fallsVal rk rs = true) (hj : Tm.JoinSays rs true er) {t : List Int} (he : (Tm.form rs t).2.2 = 0) :
    ∃ P : List Int → Prop, P t ∧ (∀ u s, P u → Tm.stepErr rs u = 0 → s ∈ Tm.stepVal rs u → P s.2.2) ∧ ∀ u, P u → (Tm.form rs u).2.2 = 0 → (Tm.form rs t).1 = (Tm.form rs u).1 := by
  obtain ⟨Rs, hR, _, hone⟩ := Tm.conf hf hv hj
  obtain ⟨x, hx, rfl⟩ := Tr.of_err (Tm.form_err he).2
  obtain ⟨x', _, e1, s1, n1⟩ := Tr.form hR hx he
  refine ⟨fun u => ∃ y : Tr, y.ok ∧ y.flat = u ∧ Tr.Sts Rs x y, ⟨x, hx, rfl, .refl _⟩, ?_, ?_⟩
  · rintro u s ⟨y, hy, rfl, hs⟩ h0 hm
    obtain ⟨z, hz, ez, st⟩ := Tr.step_in hR hy h0 hm
    exact ⟨z, hz, ez, hs.trans st.many⟩
  · rintro u ⟨y, hy, rfl, hs⟩ h0
    obtain ⟨y', _, e2, s2, n2⟩ := Tr.form hR hy h0
    rw [← e1, ← e2, hone x y x' y' hx hy ⟨y, hs, .refl _⟩ s1 n1 s2 n2]
end Go.Proofs.Ytgeknojpcjadkaa

namespace Go.Proofs.Ytgeknojpcjadkaa
open Go.Proofs Go.RowKit Go.Shelf Go.Maps

def Tm.grpP : PairL := [([4, -1, -2], [4, 0, 4, -1, -2]), ([4, 0, -1], [4, 2, -2, 4, -2, -1]), ([4, 4, -1, 4, -2, -3, -4], [4, 4, -1, -2, 4, -3, -4])]
theorem Tm.grp21x : Tm.GrpLaps 2 1 [([4, 0, -1], [4, 2, -2, 4, -2, -1])] := Tm.grp_yes 1 Tm.pv1 _ Tm.pm1 (by decide +kernel) (by decide +kernel) (by decide +kernel) (by decide +kernel) (by decide +kernel)
theorem Tm.grp_list : ∀ a b, a < 3 → b < 3 → Tm.GrpLaps a b (if a = 2 then (Tm.grpP.drop b).take 1 else [])
  | 0, 0, _, _ => Tm.grp_no 0 0 (by decide +kernel)
  | 0, 1, _, _ => Tm.grp_no 0 1 (by decide +kernel)
  | 0, 2, _, _ => Tm.grp_no 0 2 (by decide +kernel)
  | 1, 0, _, _ => Tm.grp_no 1 0 (by decide +kernel)
  | 1, 1, _, _ => Tm.grp_no 1 1 (by decide +kernel)
  | 1, 2, _, _ => Tm.grp_no 1 2 (by decide +kernel)
  | 2, 0, _, _ => Tm.grp20
  | 2, 1, _, _ => Tm.grp21x
  | 2, 2, _, _ => Tm.grp22
theorem Tm.grp_tox {i j : Nat} {l : PairL} (h : Tm.AllTo groupL i j l) : i ≤ 3 → l = if i = 2 then Tm.grpP.take j else if i = 3 then Tm.grpP else [] := by
  induction h with
  | zero => intro _; rfl
  | @next i j l ps h hj hs ih =>
    intro hi
    have hj3 : j < 3 := hj
    have q3 := ih hi
    by_cases hi3 : i = 3
    · subst hi3
      rcases hs with ⟨h1, _⟩ | ⟨_, _, h2, _⟩ | ⟨_, a, b, ha, _, ea, _⟩
      · exact absurd Tm.g7 h1
      · omega
      · have : a < 3 := ha
        omega
    · have g1 := Tm.grp_list i j (by omega) hj3
      obtain ⟨_, rfl⟩ := Tm.grp_of (by omega) hj3 g1 hs
      rw [q3]
      by_cases h2 : i = 2
      · rw [if_pos h2, if_pos h2, if_pos h2]
        match j, hj3 with
        | 0, _ => rfl
        | 1, _ => rfl
        | 2, _ => rfl
      · rw [if_neg h2, if_neg h2, if_neg h2, if_neg hi3]
        rfl
  | @row i l h ih =>
    intro hi
    have q3 := ih (by omega)
    rw [q3]
    by_cases h2 : i = 2
    · subst h2; rfl
    · rw [if_neg h2, if_neg (show ¬ i = 3 by omega)]
      by_cases h1 : i + 1 = 2
      · rw [if_pos h1]; rfl
      · rw [if_neg h1, if_neg (by omega)]
theorem Tm.grp_join {is : Bool} {er : Int} (h : Tm.JoinSays groupL is er) : is = false ∧ er = 0 := by
  obtain ⟨er', ps, hs, h⟩ := h
  obtain ⟨rfl, _⟩ := Tm.grp_all hs
  rcases h with ⟨h, _⟩ | ⟨_, h⟩
  · exact absurd rfl h
  · have hp : ps = Tm.grpP := by
      rcases hs with ⟨l, hl, ⟨_, _, rfl⟩ | ⟨_, h2, _⟩⟩ | ⟨_, _, _, _, _, _, _, _, h0, _⟩
      · exact Tm.grp_tox (i := 3) hl (Nat.le_refl _)
      · cases h2
      · exact absurd rfl h0
    rw [hp, show Tm.joinL groupL Tm.grpP = (false, 0) from by decide +kernel] at h
    cases h
    exact ⟨rfl, rfl⟩

def grp1 : RuleL := [([4, 0, -1], [-1])]
theorem Tm.grp1_of {e : Int} {ps : PairL} (h : Tm.OfSays grp1 0 0 e ps) : e = 0 ∧ ps = [] := by
  refine Tm.OfSays.right (rs := grp1) (a := 0) (b := 0) (by decide +kernel) (by decide) (by decide) ?_ h
  have := Tm.Laps.run (.zero : Tm.Laps [4, 0, -1] [-1] (Tm.others [4, 0, -1]) (Tm.others [-1]) (Tm.passB [4, 0, -1] 0 0) 0 []) 3 (by decide +kernel)
  exact this
theorem Tm.grp1_to {i j : Nat} {l : PairL} (h : Tm.AllTo grp1 i j l) : i ≤ 1 → l = [] := by
  induction h with
  | zero => intro _; rfl
  | @next i j l ps h hj hs ih =>
    intro hi
    have hj1 : j < 1 := hj
    obtain rfl : j = 0 := by omega
    have hi1 : i = 0 ∨ i = 1 := by omega
    rcases hi1 with rfl | rfl
    · obtain ⟨_, rfl⟩ := Tm.grp1_of hs
      rw [ih hi]
      rfl
    · rcases hs with ⟨h1, _⟩ | ⟨_, _, h2, _⟩ | ⟨_, a, b, ha, _, ea, _⟩
      · exact absurd (by decide +kernel) h1
      · omega
      · have : a < 1 := ha
        omega
  | @row i l h ih => intro hi; exact ih (by omega)
theorem Tm.grp1_join {is : Bool} {er : Int} (h : Tm.JoinSays grp1 is er) : is = true ∧ er = 0 := by
  obtain ⟨er', ps, hs, h⟩ := h
  rcases hs with ⟨l, hl, ⟨_, rfl, rfl⟩ | ⟨h2, _⟩⟩ | ⟨i, j, l, qs, hi, hj, hl, hs, h0, _⟩
  · have hp := Tm.grp1_to (i := 1) hl (Nat.le_refl _)
    rcases h with ⟨h, _⟩ | ⟨_, h⟩
    · exact absurd rfl h
    · rw [hp] at h
      cases h
      exact ⟨rfl, rfl⟩
  · have hp := Tm.grp1_to (i := 1) hl (Nat.le_refl _)
    rw [hp] at h2
    simp at h2
  · have hi1 : i < 1 := hi
    have hj1 : j < 1 := hj
    obtain rfl : i = 0 := by omega
    obtain rfl : j = 0 := by omega
    exact absurd (Tm.grp1_of hs).1 h0

theorem g_joinAll (ar : Option Addr) (w : World) (hR : RulesAt w.heap.size w ar groupL) : Calls Try.prog 19 #[.slice ar 3 3] w fun e w' => e = .returned (.tuple #[.bool false, .int .i64 0]) ∧ Below w.heap.size w w' := by
  refine (joinAll_any groupL ar 3 w hR (by decide)).mono ?_
  rintro e w' ⟨is, er, hs, rfl, B⟩
  obtain ⟨rfl, rfl⟩ := Tm.grp_join hs
  exact ⟨rfl, B⟩
theorem g_joinAll1 (ar : Option Addr) (w : World) (hR : RulesAt w.heap.size w ar groupL) : Calls Try.prog 19 #[.slice ar 1 3] w fun e w' => e = .returned (.tuple #[.bool true, .int .i64 0]) ∧ Below w.heap.size w w' := by
  have hR1 : RulesAt w.heap.size w ar grp1 := fun k hk => by
    obtain rfl : k = 0 := by simp [grp1] at hk; omega
    exact hR 0 (by decide)
  refine (joinAll_any grp1 ar 3 w hR1 (by decide)).mono ?_
  rintro e w' ⟨is, er, hs, rfl, B⟩
  obtain ⟨rfl, rfl⟩ := Tm.grp1_join hs
  exact ⟨rfl, B⟩
/-- Two literals, do they meet? -/
theorem g_joinPair (P Q : List Int) (nP nQ : Nat) (is : Bool) (er : Int) (ar : Option Addr) (w : World) (hP : nP = P.length) (hQ : nQ = Q.length) (kP : P.length ≤ 1000) (kQ : Q.length ≤ 1000) (h1 : Tm.joinIs groupL P Q = is) (h2 : Tm.joinErr groupL P Q = er) (hR : RulesAt w.heap.size w ar groupL) :
    Calls Try.prog 25 #[.slice ar 3 3, .agg #[.slice (some ⟨w.heap.size, 0, none⟩) nP nP, .slice (some ⟨w.heap.size + 1, 0, none⟩) nQ nQ]] ((w.alloc (.cells (P.map (Value.int .i64)).toArray 3)).alloc (.cells (Q.map (Value.int .i64)).toArray 3)) fun e w' => e = .returned (.tuple #[.bool is, .int .i64 er]) ∧ Below w.heap.size w w' := by
  subst hP hQ h1 h2
  have hb := allocs_below [P, Q] w
  have hi := allocs_ints [P, Q] w
  have hs := allocs_size [P, Q] w
  have i1 := hi 0 (by simp)
  have i2 := hi 1 (by simp)
  rw [show w.heap.size + [P, Q].length = (allocs w [P, Q]).heap.size from hs.symm] at i1 i2
  refine (joinPair_any groupL P Q ar _ _ 3 P.length Q.length (allocs w [P, Q]) ((hR.below hb).mono hb.size) i1 i2 (Nat.le_refl _) (by unfold maxLen; omega) (Nat.le_refl _) (by unfold maxLen; omega)).mono ?_
  rintro e w' ⟨rfl, hB⟩
  exact ⟨rfl, hb.trans (hB.mono hb.size)⟩

set_option maxRecDepth 100000 in
set_option maxHeartbeats 4000000 in
theorem joinBegun_any (w : World) : Calls Try.prog 21 #[] w fun e w' => e = .returned (.bool true) ∧ Below w.heap.size w w' := by
  have h2 := hid (fun ar w hR => g_joinPair [4, 4, -1, -2, -3] [4, -1, 4, -2, -3] 5 5 true 0 ar w rfl rfl (by simp) (by simp) (by decide +kernel) (by decide +kernel) hR)
  have h3 := hid (fun ar w hR => g_joinPair [0] [1] 1 1 false 0 ar w rfl rfl (by simp) (by simp) (by decide +kernel) (by decide +kernel) hR)
  simp only [List.map_cons, List.map_nil] at h2 h3
  go_enter Try.func21, Try.ntmps21
  go_wp2_with fail
  refine (group_any _).mono ?_
  rintro e w1 ⟨a1, rfl, hg1, b1⟩
  go_wp2_with fail
  refine (g_joinAll a1 w1 hg1).mono ?_
  rintro e w2 ⟨rfl, b2⟩
  have B2 := b1.trans (b2.mono b1.size)
  clear hg1 b1 b2
  go_wp2_with fail
  refine (group_any _).mono ?_
  rintro e w3 ⟨a3, rfl, hg3, b3⟩
  have B3 := B2.trans (b3.mono B2.size)
  go_wp2_with fail
  refine (h2.out a3 w3 hg3).mono ?_
  rintro e w4 ⟨rfl, b4⟩
  have B4 := B3.trans (b4.mono B3.size)
  clear hg3 b3 b4 B2 B3 h2
  go_wp2_with fail
  refine (group_any _).mono ?_
  rintro e w5 ⟨a5, rfl, hg5, b5⟩
  have B5 := B4.trans (b5.mono B4.size)
  go_wp2_with fail
  refine (h3.out a5 w5 hg5).mono ?_
  rintro e w6 ⟨rfl, b6⟩
  have B6 := B5.trans (b6.mono B5.size)
  clear hg5 b5 b6 B4 B5 h3
  go_wp2_with fail
  refine (group_any _).mono ?_
  rintro e w7 ⟨a7, rfl, hg7, b7⟩
  have B7 := B6.trans (b7.mono B6.size)
  obtain ⟨b, off, rfl, _⟩ := hg7 0 (by decide)
  go_wp2_with fail
  refine (g_joinAll1 _ w7 hg7).mono ?_
  rintro e w8 ⟨rfl, b8⟩
  go_wp2
  go_ret
  exact ⟨rfl, B7.trans (b8.mono B7.size)⟩

end Go.Proofs.Ytgeknojpcjadkaa

namespace Go.Proofs.Ytgeknojpcjadkaa
open Go.Proofs Go.RowKit Go.Shelf Go.Maps

theorem Tm.stepVal_le (rs : RuleL) (t : List Int) : (Tm.stepVal rs t).length ≤ 1000 := by
  unfold Tm.stepVal
  by_cases h : Tm.stepErr rs t = 0
  · rw [if_pos h]
    unfold Tm.stepErr at h
    by_cases h1 : Tm.rulesErr rs = 0
    · rw [if_pos h1] at h
      by_cases h2 : Tm.err t = 0
      · have h3 := Tm.allL_le rs t t.length
        have h4 := Tm.err_len h2
        have h5 := (Tm.rulesErr_ok h1).1
        have h6 : t.length * rs.length ≤ 30 * 8 := Nat.mul_le_mul h4 h5
        omega
      · rw [if_neg h2] at h; exact absurd h h2
    · rw [if_neg h1] at h; exact absurd h h1
  · rw [if_neg h]; simp

end Go.Proofs.Ytgeknojpcjadkaa
