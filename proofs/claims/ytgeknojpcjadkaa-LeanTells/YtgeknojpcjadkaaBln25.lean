/-
  A whole struct read out of its box, where the reading stands behind '&&' or '||'. · PLAIN MATHEMATICS: two terms made plain are both what one list of variables makes of them; pairs hold wherever the rules do. · PLAIN MATHEMATICS: pairs hold wherever the rules do; how many there are; in which order their variables stand. · PLAIN MATHEMATICS of haspref.met: nodes that are tied in classes; what a class becomes. · TIES IN MEMORY: haspref's (*ties).node of what is there, symbol, round. · haspref's (*ties).round.
-/
import Derived.Test.YtgeknojpcjadkaaBln24
import Derived.Test.YtgeknojpcjadkaaBln18
import Derived.Test.YtgeknojpcjadkaaBln11
import Derived.Deep.QuietTactic
import Derived.BigQuiet
import Derived.LaidEqlPtr
namespace Go.Proofs.Ytgeknojpcjadkaa
open Go.Proofs Go.RowKit Go.Shelf Go.Maps

end Go.Proofs.Ytgeknojpcjadkaa

namespace Go.Proofs.Ytgeknojpcjadkaa
open Go.Proofs Go.RowKit Go.Shelf Go.Maps

namespace Sn
theorem pigeon : ∀ (n : Nat) (l : List Int), l.Nodup → (∀ x ∈ l, -(n : Int) ≤ x ∧ x < 0) → l.length ≤ n := by
  intro n
  induction n with
  | zero =>
    intro l _ h
    cases l with
    | nil => simp
    | cons x l => have := h x (by simp); omega
  | succ n ih =>
    intro l hn h
    by_cases hm : -((n : Int) + 1) ∈ l
    · have h1 := ih (l.erase (-((n : Int) + 1))) (hn.erase _) (fun x hx => by
        have h2 := (hn.mem_erase_iff).1 hx
        have h3 := h x h2.2
        have h4 := h2.1
        omega)
      rw [List.length_erase_of_mem hm] at h1
      omega
    · have h1 := ih l hn (fun x hx => by
        have h3 := h x hx
        refine ⟨?_, h3.2⟩
        by_cases e : x = -((n : Int) + 1)
        · subst e; exact absurd hx hm
        · omega)
      omega
theorem see_cases (seen : List Int) (s : Int) : (0 ≤ s ∧ Tm.see seen s = seen) ∨ (s < 0 ∧ seen.contains s = true ∧ Tm.see seen s = seen) ∨ (s < 0 ∧ seen.contains s = false ∧ Tm.see seen s = seen ++ [s]) := by
  unfold Tm.see
  by_cases hs : s < 0
  · rw [if_pos hs]
    cases hc : seen.contains s with
    | true => exact .inr (.inl ⟨hs, rfl, by rw [if_pos rfl]⟩)
    | false => exact .inr (.inr ⟨hs, rfl, by rw [if_neg (by simp)]⟩)
  · rw [if_neg hs]; exact .inl ⟨by omega, rfl⟩
theorem see_pre (seen : List Int) (s : Int) : ∃ r, Tm.see seen s = seen ++ r := by
  rcases see_cases seen s with ⟨_, h⟩ | ⟨_, _, h⟩ | ⟨_, _, h⟩
  · exact ⟨[], by rw [h, List.append_nil]⟩
  · exact ⟨[], by rw [h, List.append_nil]⟩
  · exact ⟨[s], h⟩
theorem seen_cons (seen : List Int) (s : Int) (l : List Int) : Tm.seenFrom seen (s :: l) = Tm.seenFrom (Tm.see seen s) l := rfl
theorem seen_app (seen l r : List Int) : Tm.seenFrom seen (l ++ r) = Tm.seenFrom (Tm.seenFrom seen l) r := by simp [Tm.seenFrom, List.foldl_append]
theorem seen_pre : ∀ (t seen : List Int), ∃ r, Tm.seenFrom seen t = seen ++ r := by
  intro t
  induction t with
  | nil => intro seen; exact ⟨[], by rw [List.append_nil]; rfl⟩
  | cons s l ih =>
    intro seen
    obtain ⟨r1, h1⟩ := see_pre seen s
    obtain ⟨r2, h2⟩ := ih (Tm.see seen s)
    exact ⟨r1 ++ r2, by rw [seen_cons, h2, h1, List.append_assoc]⟩
theorem see_mem (seen : List Int) {s : Int} (hs : s < 0) : (Tm.see seen s).contains s = true := by
  rcases see_cases seen s with ⟨h, _⟩ | ⟨_, h, e⟩ | ⟨_, _, e⟩
  · omega
  · rw [e]; exact h
  · rw [e]; simp
theorem see_nodup {seen : List Int} (h : seen.Nodup) (s : Int) : (Tm.see seen s).Nodup := by
  rcases see_cases seen s with ⟨_, e⟩ | ⟨_, _, e⟩ | ⟨_, hc, e⟩
  · rw [e]; exact h
  · rw [e]; exact h
  · rw [e]
    have hn : ¬ s ∈ seen := by simpa using hc
    rw [List.nodup_append]
    exact ⟨h, by simp, fun a ha b hb => by simp at hb; subst hb; rintro rfl; exact hn ha⟩
theorem seen_nodup : ∀ (t seen : List Int), seen.Nodup → (Tm.seenFrom seen t).Nodup := by
  intro t
  induction t with
  | nil => intro seen h; exact h
  | cons s l ih => intro seen h; exact ih _ (see_nodup h s)
theorem see_neg {seen : List Int} (h : ∀ x ∈ seen, -8 ≤ x ∧ x < 0) {s : Int} (h8 : -8 ≤ s) : ∀ x ∈ Tm.see seen s, -8 ≤ x ∧ x < 0 := by
  rcases see_cases seen s with ⟨_, e⟩ | ⟨_, _, e⟩ | ⟨hs, _, e⟩
  · rw [e]; exact h
  · rw [e]; exact h
  · rw [e]
    intro x hx
    rw [List.mem_append] at hx
    rcases hx with hx | hx
    · exact h x hx
    · simp at hx; subst hx; exact ⟨h8, hs⟩
theorem seen_neg : ∀ (t seen : List Int), t.all Tm.known = true → (∀ x ∈ seen, -8 ≤ x ∧ x < 0) → ∀ x ∈ Tm.seenFrom seen t, -8 ≤ x ∧ x < 0 := by
  intro t
  induction t with
  | nil => intro seen _ h; exact h
  | cons s l ih =>
    intro seen hk h
    rw [List.all_cons, Bool.and_eq_true] at hk
    exact ih _ hk.2 (see_neg h (Tm.known_ge hk.1))
theorem idx_lt {seen : List Int} {s : Int} (h : seen.contains s = true) : Tm.idx seen s < seen.length := by
  unfold Tm.idx
  rw [List.findIdx_lt_length]
  exact ⟨s, by simpa using h, by simp⟩
theorem idx_last {seen : List Int} {s : Int} (h : seen.contains s = false) : Tm.idx (seen ++ [s]) s = seen.length := by
  unfold Tm.idx
  rw [List.findIdx_append, if_neg]
  · simp
  · rw [List.findIdx_lt_length]
    rintro ⟨y, hy, e⟩
    have e' : y = s := by simpa using e
    subst e'
    have : ¬ y ∈ seen := by simpa using h
    exact this hy
/-- A variable's new name, by all that are seen in the end. -/
def ren (S : List Int) (s : Int) : Int := if s < 0 then -1 - (Tm.idx S s : Int) else s
theorem name_ren (seen r : List Int) (s : Int) : Tm.name seen s = ren (Tm.see seen s ++ r) s := by
  unfold Tm.name ren
  by_cases hs : s < 0
  · rw [if_pos hs, if_pos hs, Tm.idx_app (see_mem seen hs)]
    rcases see_cases seen s with ⟨h, _⟩ | ⟨_, _, e⟩ | ⟨_, hc, e⟩
    · omega
    · rw [e]
    · rw [e, idx_last hc, Tm.idx_new hc]
  · rw [if_neg hs, if_neg hs]
theorem plain_map (t seen r : List Int) : Tm.plainTo seen t t.length = t.map (ren (Tm.seenFrom seen t ++ r)) := by
  refine List.ext_getElem (by simp [Tm.plainTo_length]) fun i h1 h2 => ?_
  rw [Tm.plainTo_length] at h1
  have hl : (Tm.plainTo seen t t.length)[i]'(by rw [Tm.plainTo_length]; exact h1) = Tm.name (Tm.seenFrom seen (t.take i)) t[i] := by simp [Tm.plainTo, h1]
  rw [List.getElem_map, hl]
  have hd : t = t.take i ++ (t[i] :: t.drop (i + 1)) := by rw [← List.drop_eq_getElem_cons h1, List.take_append_drop]
  obtain ⟨r', hr'⟩ := seen_pre (t.drop (i + 1)) (Tm.see (Tm.seenFrom seen (t.take i)) t[i])
  have hS : Tm.seenFrom seen t ++ r = Tm.see (Tm.seenFrom seen (t.take i)) t[i] ++ (r' ++ r) := by
    conv => lhs; rw [hd]
    rw [seen_app, seen_cons, hr', List.append_assoc]
  have hf := name_ren (Tm.seenFrom seen (t.take i)) (r' ++ r) t[i]
  rw [← hS] at hf
  exact hf
def renL (S : List Int) : List (List Int) := (List.range 8).map fun i : Nat => if S.contains (-1 - (i : Int)) = true then [-1 - (Tm.idx S (-1 - (i : Int)) : Int)] else [-1]
theorem renL_at (S : List Int) {i : Nat} (h : i < 8) : (renL S)[i]?.getD [] = if S.contains (-1 - (i : Int)) = true then [-1 - (Tm.idx S (-1 - (i : Int)) : Int)] else [-1] := by
  unfold renL
  rw [List.getElem?_map, List.getElem?_range h]
  rfl
theorem err_var {v : Int} (h1 : -8 ≤ v) (h2 : v < 0) : Tm.err [v] = 0 := by
  refine Tm.err_ok (by simp) (by simp only [List.all_cons, List.all_nil, Bool.and_true]; exact Tm.known_of h1 (by omega)) ?_
  rw [show (1 : Nat) = 0 + 1 from rfl, Tm.run_cons, Wb.room_var h2, Tm.run_zero]
  rfl
theorem renL_err {S : List Int} (h8 : S.length ≤ 8) : Tm.subErr (renL S) = 0 := by
  unfold Tm.subErr
  rw [if_pos (by simp [renL])]
  refine Tm.firstErr_of fun i hi => ?_
  have hi8 : i < 8 := by simpa [renL] using hi
  rw [renL_at S hi8]
  by_cases hc : S.contains (-1 - (i : Int)) = true
  · rw [if_pos hc]
    have := idx_lt hc
    exact err_var (by omega) (by omega)
  · rw [if_neg hc]; exact err_var (by omega) (by omega)
theorem applied_ren {S : List Int} : ∀ (t : List Int), t.all Tm.known = true → (∀ s ∈ t, s < 0 → S.contains s = true) → Tm.applied (renL S) t = t.map (ren S) := by
  intro t
  induction t with
  | nil => intro _ _; rfl
  | cons s l ih =>
    intro hk hm
    rw [List.all_cons, Bool.and_eq_true] at hk
    rw [Tm.applied_cons, ih hk.2 (fun x hx => hm x (by simp [hx])), List.map_cons]
    have h8 := Tm.known_ge hk.1
    have : Tm.piece (renL S) s = [ren S s] := by
      unfold Tm.piece ren
      by_cases hs : s < 0
      · rw [if_pos hs, if_pos hs, renL_at S (by omega), show -1 - (((-1 - s).toNat : Nat) : Int) = s from by omega, if_pos (hm s (by simp) hs)]
      · rw [if_neg hs, if_neg hs]
    rw [this]
    rfl
theorem seen_has : ∀ (t seen : List Int) (s : Int), s < 0 → (s ∈ t ∨ seen.contains s = true) → (Tm.seenFrom seen t).contains s = true := by
  intro t
  induction t with
  | nil =>
    intro seen s _ h
    rcases h with h | h
    · simp at h
    · exact h
  | cons x l ih =>
    intro seen s hs h
    rw [seen_cons]
    refine ih _ s hs ?_
    rcases h with h | h
    · rcases List.mem_cons.1 h with rfl | h
      · exact .inr (see_mem seen hs)
      · exact .inl h
    · obtain ⟨r, e⟩ := see_pre seen x
      rw [e]
      right
      simp at h ⊢
      exact .inl h
end Sn

/-- Two terms made plain. -/
theorem Tm.plain_ren {X Y : List Int} (eX : Tm.err X = 0) (eY : Tm.err Y = 0) : ∃ ss, Tm.subErr ss = 0 ∧ Tm.plain X = Tm.applied ss X ∧ Tm.plain2 X Y = Tm.applied ss Y ∧ Tm.err (Tm.plain X) = 0 ∧ Tm.err (Tm.plain2 X Y) = 0 := by
  have kX := Tm.err_all eX
  have kY := Tm.err_all eY
  have hneg : ∀ x ∈ Tm.seenFrom (Tm.seenFrom [] X) Y, -8 ≤ x ∧ x < 0 := Sn.seen_neg Y _ kY (Sn.seen_neg X [] kX (fun x hx => by simp at hx))
  have hnd : (Tm.seenFrom (Tm.seenFrom [] X) Y).Nodup := Sn.seen_nodup Y _ (Sn.seen_nodup X [] List.nodup_nil)
  have h8 := Sn.pigeon 8 _ hnd hneg
  have hss := Sn.renL_err h8
  obtain ⟨r, hr⟩ := Sn.seen_pre Y (Tm.seenFrom [] X)
  have pX : Tm.plain X = Tm.applied (Sn.renL (Tm.seenFrom (Tm.seenFrom [] X) Y)) X := by
    rw [Sn.applied_ren X kX (fun s hs h => Sn.seen_has Y _ s h (.inr (Sn.seen_has X [] s h (.inl hs))))]
    have := Sn.plain_map X [] r
    rw [← hr] at this
    exact this
  have pY : Tm.plain2 X Y = Tm.applied (Sn.renL (Tm.seenFrom (Tm.seenFrom [] X) Y)) Y := by
    rw [Sn.applied_ren Y kY (fun s hs h => Sn.seen_has Y _ s h (.inl hs))]
    have := Sn.plain_map Y (Tm.seenFrom [] X) []
    rw [List.append_nil] at this
    exact this
  refine ⟨_, hss, pX, pY, ?_, ?_⟩
  · rw [pX]
    refine Tm.err_applied (Terms.of hss) eX ?_
    rw [← pX]
    show (Tm.plainTo [] X X.length).length ≤ 30
    rw [Tm.plainTo_length]
    exact Tm.err_len eX
  · rw [pY]
    refine Tm.err_applied (Terms.of hss) eY ?_
    rw [← pY]
    show (Tm.plainTo (Tm.seenFrom [] X) Y Y.length).length ≤ 30
    rw [Tm.plainTo_length]
    exact Tm.err_len eY

/-- A rule with its variables made others. -/
def Tm.othL : List (List Int) := [[-5], [-6], [-7], [-8], [-1], [-1], [-1], [-1]]
theorem Tm.others_applied : ∀ (t : List Int), (∀ s ∈ t, -4 ≤ s ∧ s < 6) → Tm.others t = Tm.applied Tm.othL t := by
  intro t
  induction t with
  | nil => intro _; rfl
  | cons s l ih =>
    intro h
    rw [Tm.applied_cons, ← ih (fun x hx => h x (by simp [hx]))]
    have hs := h s (by simp)
    have : Tm.piece Tm.othL s = [Tm.oth s] := by
      have : s = -4 ∨ s = -3 ∨ s = -2 ∨ s = -1 ∨ 0 ≤ s := by omega
      rcases this with rfl | rfl | rfl | rfl | h0
      · decide
      · decide
      · decide
      · decide
      · unfold Tm.piece Tm.oth
        rw [if_neg (by omega), if_neg (by omega)]
    rw [this]
    rfl
theorem Tm.othL_err : Tm.subErr Tm.othL = 0 := by decide +kernel

end Go.Proofs.Ytgeknojpcjadkaa

namespace Go.Proofs.Ytgeknojpcjadkaa
open Go.Proofs Go.RowKit Go.Shelf Go.Maps

/-- The variables stand in their order. -/
def Ordered (B : List Int) : Prop := ∃ nx : Nat → Int, nx 0 = -1 ∧ ∀ n, n < B.length → ¬ B[n]?.getD 0 < nx n ∧ nx (n + 1) = (if B[n]?.getD 0 = nx n then nx n - 1 else nx n) ∧ -100000 ≤ nx n
theorem Sn.both (X Y : List Int) : Tm.plain X ++ Tm.plain2 X Y = Tm.plainTo [] (X ++ Y) (X ++ Y).length := by
  obtain ⟨r, hr⟩ := Sn.seen_pre Y (Tm.seenFrom [] X)
  have h1 := Sn.plain_map X [] r
  have h2 := Sn.plain_map Y (Tm.seenFrom [] X) []
  have h3 := Sn.plain_map (X ++ Y) [] []
  rw [← hr] at h1
  rw [List.append_nil] at h2 h3
  rw [Sn.seen_app] at h3
  show Tm.plainTo [] X X.length ++ Tm.plainTo (Tm.seenFrom [] X) Y Y.length = _
  rw [h1, h2, h3, List.map_append]
theorem Sn.step (S : List Int) (s : Int) (h : S.length ≤ 1000) : ¬ Tm.name S s < -1 - (S.length : Int) ∧ -1 - ((Tm.see S s).length : Int) = (if Tm.name S s = -1 - (S.length : Int) then -1 - (S.length : Int) - 1 else -1 - (S.length : Int)) ∧ -100000 ≤ -1 - (S.length : Int) := by
  rcases Sn.see_cases S s with ⟨h0, e⟩ | ⟨hs, hc, e⟩ | ⟨hs, hc, e⟩
  · have hn : Tm.name S s = s := by unfold Tm.name; rw [if_neg (by omega)]
    rw [hn, e]
    refine ⟨by omega, by rw [if_neg (by omega)], by omega⟩
  · have hn : Tm.name S s = -1 - (Tm.idx S s : Int) := by unfold Tm.name; rw [if_pos hs]
    have := Sn.idx_lt hc
    rw [hn, e]
    refine ⟨by omega, by rw [if_neg (by omega)], by omega⟩
  · have hn : Tm.name S s = -1 - (S.length : Int) := by unfold Tm.name; rw [if_pos hs, Tm.idx_new hc]
    rw [hn, e, List.length_append]
    refine ⟨by omega, by rw [if_pos rfl]; simp; omega, by omega⟩
theorem Tm.plain_ordered (X Y : List Int) (h : (X ++ Y).length ≤ 1000) : Ordered (Tm.plain X ++ Tm.plain2 X Y) := by
  rw [Sn.both]
  generalize X ++ Y = Z at *
  refine ⟨fun n => -1 - ((Tm.seenFrom [] (Z.take n)).length : Int), by simp [Tm.seenFrom], fun n hn => ?_⟩
  rw [Tm.plainTo_length] at hn
  have hb : (Tm.plainTo [] Z Z.length)[n]?.getD 0 = Tm.name (Tm.seenFrom [] (Z.take n)) (Z[n]?.getD 0) := by simp [Tm.plainTo, hn]
  have hle := Tm.seen_len (Z.take n) []
  dsimp only
  rw [hb, Tm.seen_succ [] hn]
  simp only [List.length_take, List.length_nil] at hle
  exact Sn.step _ _ (by omega)

/-- How many symbols. -/
def symN (L : List Int) : Nat := (L.filter fun s => decide (0 ≤ s)).length
/-- A pair is of two terms, in order, and holds wherever both rules do. -/
def PairGood (L1 R1 L2 R2 : List Int) (x : List Int × List Int) : Prop := Tm.err x.1 = 0 ∧ Tm.err x.2 = 0 ∧ Ordered (x.1 ++ x.2) ∧ ∀ A : Int → Nat → Nat → Nat, (∀ s x y, A s x y < 3) → Tm.Holds A L1 R1 → Tm.Holds A L2 R2 → Tm.Holds A x.1 x.2
theorem Tm.prt_good {L1 R1 L2 R2 : List Int} {m : Nat} {val : List (List Int)} (hm : m < L1.length) (eL : Tm.err L1 = 0) (eR : Tm.err R1 = 0) (eL2 : Tm.err L2 = 0) (eR2 : Tm.err R2 = 0) (fL : ∀ s ∈ L2, -4 ≤ s ∧ s < 6) (fR : ∀ s ∈ R2, -4 ≤ s ∧ s < 6)
    (hs : Tm.MeetSays [(Tm.part L1 m, Tm.others L2)] 0 true val) (he : Tm.prtErr val L1 R1 (m : Int) (Tm.others R2) = 0) : PairGood L1 R1 L2 R2 (Tm.prtVal val L1 R1 (m : Int) (Tm.others R2)) := by
  obtain ⟨hsub, ep, eo, happ, _⟩ := Tm.meet_true hs
  have hv : Tm.prtVal val L1 R1 (m : Int) (Tm.others R2) = (Tm.plain (Tm.applyVal val (Tm.putVal L1 (m : Int) (Tm.others R2))), Tm.plain2 (Tm.applyVal val (Tm.putVal L1 (m : Int) (Tm.others R2))) (Tm.applyVal val R1)) := by unfold Tm.prtVal; rw [if_pos he]
  have hput : Tm.putErr L1 (m : Int) (Tm.others R2) = 0 := by
    by_cases h : Tm.putErr L1 (m : Int) (Tm.others R2) = 0
    · exact h
    · unfold Tm.prtErr at he; rw [if_neg h] at he; exact absurd he h
  have hX : Tm.applyErr val (Tm.putVal L1 (m : Int) (Tm.others R2)) = 0 := by
    by_cases h : Tm.applyErr val (Tm.putVal L1 (m : Int) (Tm.others R2)) = 0
    · exact h
    · unfold Tm.prtErr at he; rw [if_pos hput, if_neg h] at he; exact absurd he h
  have hY : Tm.applyErr val R1 = 0 := by unfold Tm.prtErr at he; rw [if_pos hput, if_pos hX] at he; exact he
  have hpv : Tm.putVal L1 (m : Int) (Tm.others R2) = Tm.put L1 m (Tm.others R2) := by unfold Tm.putVal; rw [if_pos hput]; rfl
  have eo2 : Tm.err (Tm.others R2) = 0 := by
    by_cases h : Tm.err (Tm.others R2) = 0
    · exact h
    · unfold Tm.putErr at hput; rw [if_pos eL, if_neg h] at hput; exact absurd hput h
  obtain ⟨_, eput, lX, vX⟩ := Tm.apply_zero hX
  obtain ⟨_, _, lY, vY⟩ := Tm.apply_zero hY
  have eX := Tm.applyVal_err hX
  have eY := Tm.applyVal_err hY
  rw [hv]
  obtain ⟨ss, hss, pX, pY, e1, e2⟩ := Tm.plain_ren eX eY
  refine ⟨e1, e2, Tm.plain_ordered _ _ (by rw [List.length_append]; have := Tm.err_len eX; have := Tm.err_len eY; omega), fun A hA h1 h2 vs hvs => ?_⟩
  have T := Terms.of hss
  have U := Terms.of hsub
  have O := Terms.of Tm.othL_err
  show Tm.val A vs (Tm.plain _) = Tm.val A vs (Tm.plain2 _ _)
  rw [pX, pY, Tm.val_applied T _ _ (Nat.lt_succ_self _) eX, Tm.val_applied T _ _ (Nat.lt_succ_self _) eY, vX, vY, hpv]
  rw [hpv] at eput
  generalize hus : (fun i : Nat => Tm.val A vs (ss[i]?.getD [])) = us
  have husl : ∀ i, us i < 3 := fun i => by rw [← hus]; exact Tm.val_lt hA hvs _
  rw [Tm.val_applied U _ _ (Nat.lt_succ_self _) eput, Tm.val_applied U _ _ (Nat.lt_succ_self _) eR]
  have hq : Tm.val A us (Tm.applied val (Tm.part L1 m)) = Tm.val A us (Tm.applied val (Tm.others L2)) := by rw [happ]
  rw [Tm.val_applied U _ _ (Nat.lt_succ_self _) ep, Tm.val_applied U _ _ (Nat.lt_succ_self _) eo] at hq
  generalize hts : (fun i : Nat => Tm.val A us (val[i]?.getD [])) = ts at *
  have htsl : ∀ i, ts i < 3 := fun i => by rw [← hts]; exact Tm.val_lt hA husl _
  have hr : Tm.val A ts (Tm.others R2) = Tm.val A ts (Tm.part L1 m) := by
    rw [hq, Tm.others_applied R2 fR, Tm.others_applied L2 fL, Tm.val_applied O _ _ (Nat.lt_succ_self _) eR2, Tm.val_applied O _ _ (Nat.lt_succ_self _) eL2]
    exact (h2 _ (fun i => Tm.val_lt hA htsl _)).symm
  have h3 := Tm.val_put hr eo2 ep _ L1 m (Nat.lt_succ_self _) eL hm
  rw [Tm.put_self] at h3
  rw [h3]
  exact h1 ts htsl
theorem Tm.rule_vars {L R : List Int} (h : Tm.ruleErr L R = 0) : (∀ s ∈ L, -4 ≤ s ∧ s < 6) ∧ (∀ s ∈ R, -4 ≤ s ∧ s < 6) := by
  obtain ⟨eL, eR, fL, fR, _⟩ := Tm.ruleErr_ok h
  have kL := Tm.err_all eL
  have kR := Tm.err_all eR
  rw [List.all_eq_true] at kL kR
  rw [List.any_eq_false] at fL fR
  refine ⟨fun s hs => ⟨?_, Tm.known_lt (kL s hs)⟩, fun s hs => ⟨?_, Tm.known_lt (kR s hs)⟩⟩
  · have := fL s hs
    simp [foreignB] at this
    omega
  · have := fR s hs
    simp [foreignB] at this
    omega
theorem Tm.Laps.good {L1 R1 L2 R2 : List Int} {pass : Nat → Bool} (h1 : Tm.ruleErr L1 R1 = 0) (h2 : Tm.ruleErr L2 R2 = 0) {m : Nat} {l : PairL} (h : Tm.Laps L1 R1 (Tm.others L2) (Tm.others R2) pass m l) : m ≤ L1.length → ∀ x ∈ l, PairGood L1 R1 L2 R2 x := by
  induction h with
  | zero => intro _ x hx; simp at hx
  | pass _ _ ih => intro hm; exact ih (by omega)
  | no _ _ _ ih => intro hm; exact ih (by omega)
  | yes _ _ hs he ih =>
    intro hm x hx
    rcases List.mem_append.1 hx with hx | hx
    · exact ih (by omega) x hx
    · simp at hx
      subst hx
      obtain ⟨eL, eR, _⟩ := Tm.ruleErr_ok h1
      obtain ⟨eL2, eR2, _⟩ := Tm.ruleErr_ok h2
      obtain ⟨fL, fR⟩ := Tm.rule_vars h2
      exact Tm.prt_good (by omega) eL eR eL2 eR2 fL fR hs he
end Go.Proofs.Ytgeknojpcjadkaa

namespace Go.Proofs.Ytgeknojpcjadkaa
open Go.Proofs Go.RowKit Go.Shelf Go.Maps

namespace Mt
open Wb (App TermSb Same Sb App_cons App_flatten)

/-- n nodes; each has a sign, parts (nodes, too) and signs that stand there; a variable is one node. -/
structure Gph (n : Nat) (S : Nat → Int) (K : Nat → List Nat) (Z : Nat → List Int) : Prop where
  known : ∀ k, k < n → -8 ≤ S k ∧ S k < 6
  room : ∀ k, k < n → (K k).length = Tm.room (S k)
  kids : ∀ k, k < n → ∀ i ∈ K k, i < n
  sign : ∀ k, k < n → Z k = S k :: ((K k).map Z).flatten
  vars : ∀ i j, i < n → j < n → S i < 0 → S i = S j → i = j

theorem mem_len {l : List (List Int)} {x : List Int} (h : x ∈ l) : x.length ≤ l.flatten.length := by
  induction l with
  | nil => simp at h
  | cons y l ih =>
    rw [List.flatten_cons, List.length_append]
    rcases List.mem_cons.1 h with e | h
    · subst e; omega
    · have := ih h; omega
theorem Gph.kid_len {n : Nat} {S : Nat → Int} {K : Nat → List Nat} {Z : Nat → List Int} (G : Gph n S K Z) {k i : Nat} (hk : k < n) (hi : i ∈ K k) : (Z i).length < (Z k).length := by
  rw [G.sign k hk, List.length_cons]
  have := mem_len (List.mem_map_of_mem (f := Z) hi)
  omega
theorem run_kids {l : List (List Int)} (h : ∀ x ∈ l, Tm.run x 1 = x.length) : Tm.run l.flatten l.length = l.flatten.length :=
  Tm.run_flatten l fun j hj => by
    rw [List.getElem?_eq_getElem hj]
    exact h _ (List.getElem_mem hj)
theorem Gph.run {n : Nat} {S : Nat → Int} {K : Nat → List Nat} {Z : Nat → List Int} (G : Gph n S K Z) : ∀ (m k : Nat), (Z k).length ≤ m → k < n → Tm.run (Z k) 1 = (Z k).length := by
  intro m
  induction m with
  | zero => intro k h hk; rw [G.sign k hk, List.length_cons] at h; omega
  | succ m ih =>
    intro k h hk
    have e := G.sign k hk
    have hr : Tm.run ((K k).map Z).flatten ((K k).map Z).length = ((K k).map Z).flatten.length := run_kids fun x hx => by
      obtain ⟨i, hi, rfl⟩ := List.mem_map.1 hx
      exact ih i (by have := G.kid_len hk hi; omega) (G.kids k hk i hi)
    rw [List.length_map, G.room k hk] at hr
    rw [e, show (1 : Nat) = 0 + 1 from rfl, Tm.run_cons, Nat.zero_add, hr, List.length_cons]
    omega
theorem Gph.app {n : Nat} {S : Nat → Int} {K : Nat → List Nat} {Z : Nat → List Int} (G : Gph n S K Z) (θ : Sb) {k : Nat} (hk : k < n) (hs : 0 ≤ S k) : App θ (Z k) = S k :: ((K k).map fun i => App θ (Z i)).flatten := by
  rw [G.sign k hk, App_cons, if_neg (by omega), App_flatten, List.map_map]
  rfl
theorem Gph.var {n : Nat} {S : Nat → Int} {K : Nat → List Nat} {Z : Nat → List Int} (G : Gph n S K Z) {k : Nat} (hk : k < n) (hs : S k < 0) : K k = [] ∧ Z k = [S k] := by
  have h := G.room k hk
  rw [Wb.room_var hs] at h
  have e := List.eq_nil_of_length_eq_zero h
  exact ⟨e, by rw [G.sign k hk, e]; rfl⟩
/-- What becomes the same of two symbols has the same symbol, and parts that become the same. -/
theorem Gph.eq {n : Nat} {S : Nat → Int} {K : Nat → List Nat} {Z : Nat → List Int} (G : Gph n S K Z) {θ : Sb} (hθ : TermSb θ) {p q : Nat} (hp : p < n) (hq : q < n) (sp : 0 ≤ S p) (sq : 0 ≤ S q) (h : App θ (Z p) = App θ (Z q)) :
    S p = S q ∧ ∀ i, i < Tm.room (S p) → App θ (Z ((K p)[i]?.getD 0)) = App θ (Z ((K q)[i]?.getD 0)) := by
  rw [G.app θ hp sp, G.app θ hq sq] at h
  obtain ⟨e, h2⟩ := List.cons.inj h
  have hrun : ∀ r, r < n → ∀ x ∈ (K r).map (fun k => App θ (Z k)), Tm.run x 1 = x.length := fun r hr x hx => by
    obtain ⟨i, hi, rfl⟩ := List.mem_map.1 hx
    exact Wb.App_run hθ _ 1 (G.run _ i (Nat.le_refl _) (G.kids r hr i hi))
  have h3 := Wb.flatten_inj _ _ (hrun p hp) (hrun q hq) (by rw [List.length_map, List.length_map, G.room p hp, G.room q hq, e]) h2
  refine ⟨e, fun i hi => ?_⟩
  have h4 := congrArg (fun l : List (List Int) => l[i]?.getD []) h3
  simp only [List.getElem?_map] at h4
  have l1 : i < (K p).length := by rw [G.room p hp]; exact hi
  have l2 : i < (K q).length := by rw [G.room q hq, ← e]; exact hi
  rw [List.getElem?_eq_getElem l1, List.getElem?_eq_getElem l2] at h4 ⊢
  exact h4

/-- Does what variables become keep to the classes? -/
def Resp (n : Nat) (Z : Nat → List Int) (C : Nat → Nat) (θ : Sb) : Prop := ∀ i j, i < n → j < n → C i = C j → App θ (Z i) = App θ (Z j)
/-- Two classes are made one. -/
def tied (C : Nat → Nat) (a b : Nat) : Nat → Nat := fun k => if C k = C a then C b else C k
theorem tied_same (C : Nat → Nat) (a b : Nat) : tied C a b a = tied C a b b := by
  unfold tied
  rw [if_pos rfl]
  by_cases e : C b = C a
  · rw [if_pos e]
  · rw [if_neg e]
theorem tied_mono {C : Nat → Nat} {i j : Nat} (a b : Nat) (h : C i = C j) : tied C a b i = tied C a b j := by unfold tied; rw [h]
theorem Resp.tie {n : Nat} {Z : Nat → List Int} {C : Nat → Nat} {θ : Sb} (R : Resp n Z C θ) {a b : Nat} (ha : a < n) (hb : b < n) (h : App θ (Z a) = App θ (Z b)) : Resp n Z (tied C a b) θ := fun i j hi hj e => by
  unfold tied at e
  by_cases h1 : C i = C a
  · rw [if_pos h1] at e
    by_cases h2 : C j = C a
    · rw [R i a hi ha h1, R j a hj ha h2]
    · rw [if_neg h2] at e
      rw [R i a hi ha h1, h, R b j hb hj e]
  · rw [if_neg h1] at e
    by_cases h2 : C j = C a
    · rw [if_pos h2] at e
      rw [R i b hi hb e, ← h, R j a hj ha h2]
    · rw [if_neg h2] at e
      exact R i j hi hj e
/-- How many classes there are. -/
def cls (n : Nat) (C : Nat → Nat) : Nat := ((List.range n).filter fun c => (List.range n).any fun k => C k == c).length
theorem used_iff {n : Nat} {C : Nat → Nat} {c : Nat} : ((List.range n).any fun k => C k == c) = true ↔ ∃ k, k < n ∧ C k = c := by simp
theorem cls_tie {n : Nat} {C : Nat → Nat} {a b : Nat} (hC : ∀ k, k < n → C k < n) (ha : a < n) (hb : b < n) (hne : C a ≠ C b) : cls n (tied C a b) < cls n C := by
  refine Wb.filter_lt _ _ _ (fun c _ h => ?_) (C a) (List.mem_range.2 (hC a ha)) ?_ (used_iff.2 ⟨a, ha, rfl⟩)
  · obtain ⟨k, hk, e⟩ := used_iff.1 h
    unfold tied at e
    by_cases h1 : C k = C a
    · rw [if_pos h1] at e; exact used_iff.2 ⟨b, hb, e⟩
    · rw [if_neg h1] at e; exact used_iff.2 ⟨k, hk, e⟩
  · rw [Bool.eq_false_iff]
    intro h
    obtain ⟨k, hk, e⟩ := used_iff.1 h
    unfold tied at e
    by_cases h1 : C k = C a
    · rw [if_pos h1] at e; exact hne e.symm
    · rw [if_neg h1] at e; exact h1 e
theorem tied_lt {n : Nat} {C : Nat → Nat} {a b : Nat} (hC : ∀ k, k < n → C k < n) (hb : b < n) : ∀ k, k < n → tied C a b k < n := fun k hk => by
  unfold tied
  split
  · exact hC b hb
  · exact hC k hk

/-- Are two nodes closed: if they are tied, and are symbols, these are the same, and all parts are tied? -/
def Shut (S : Nat → Int) (K : Nat → List Nat) (C : Nat → Nat) (a b : Nat) : Prop := C a = C b → 0 ≤ S a → 0 ≤ S b → S a = S b ∧ ∀ i, i < Tm.room (S a) → C ((K a)[i]?.getD 0) = C ((K b)[i]?.getD 0)
/-- The first symbol of a class. -/
def sym (n : Nat) (S : Nat → Int) (C : Nat → Nat) (c : Nat) : Option Nat := (List.range n).find? fun k => decide (C k = c) && decide (0 ≤ S k)
theorem sym_some {n : Nat} {S : Nat → Int} {C : Nat → Nat} {c k : Nat} (h : sym n S C c = some k) : k < n ∧ C k = c ∧ 0 ≤ S k := by
  have h1 := List.find?_some h
  have h2 := List.mem_of_find?_eq_some h
  simp only [Bool.and_eq_true, decide_eq_true_eq] at h1
  exact ⟨List.mem_range.1 h2, h1.1, h1.2⟩
theorem sym_none {n : Nat} {S : Nat → Int} {C : Nat → Nat} {c : Nat} (h : sym n S C c = none) : ∀ k, k < n → C k = c → S k < 0 := fun k hk e => by
  have h1 := List.find?_eq_none.1 h k (List.mem_range.2 hk)
  simp only [Bool.and_eq_true, decide_eq_true_eq, not_and] at h1
  have := h1 e
  omega
/-- Does a class stand in itself, as far as it is looked? -/
def rnd (n : Nat) (S : Nat → Int) (K : Nat → List Nat) (C : Nat → Nat) : Nat → Nat → Bool
  | 0, _ => true
  | f + 1, c => match sym n S C c with
    | none => false
    | some k => (K k).any fun i => rnd n S K C f (C i)
theorem rnd_none {n : Nat} {S : Nat → Int} {K : Nat → List Nat} {C : Nat → Nat} {f c : Nat} (h : sym n S C c = none) : rnd n S K C (f + 1) c = false := by rw [rnd, h]
theorem rnd_some {n : Nat} {S : Nat → Int} {K : Nat → List Nat} {C : Nat → Nat} {f c k : Nat} (h : sym n S C c = some k) : rnd n S K C (f + 1) c = (K k).any fun i => rnd n S K C f (C i) := by rw [rnd, h]
/-- The greatest variable of a class, of the first m nodes. -/
def bst (S : Nat → Int) (C : Nat → Nat) (c : Nat) : Nat → Int
  | 0 => -9
  | m + 1 => if C m = c ∧ bst S C c m < S m then S m else bst S C c m
theorem bst_ge {S : Nat → Int} {C : Nat → Nat} {c : Nat} : ∀ (m k : Nat), k < m → C k = c → S k ≤ bst S C c m := by
  intro m
  induction m with
  | zero => intro k h; omega
  | succ m ih =>
    intro k hk e
    rw [bst]
    by_cases h : C m = c ∧ bst S C c m < S m
    · rw [if_pos h]
      by_cases e2 : k = m
      · subst e2; exact Int.le_refl _
      · have := ih k (by omega) e; omega
    · rw [if_neg h]
      by_cases e2 : k = m
      · subst e2
        have : ¬ bst S C c k < S k := fun h2 => h ⟨e, h2⟩
        omega
      · exact ih k (by omega) e
theorem bst_is {S : Nat → Int} {C : Nat → Nat} {c : Nat} : ∀ (m : Nat), bst S C c m = -9 ∨ ∃ k, k < m ∧ C k = c ∧ bst S C c m = S k := by
  intro m
  induction m with
  | zero => exact .inl rfl
  | succ m ih =>
    rw [bst]
    by_cases h : C m = c ∧ bst S C c m < S m
    · rw [if_pos h]; exact .inr ⟨m, by omega, h.1, rfl⟩
    · rw [if_neg h]
      rcases ih with e | ⟨k, hk, h1, h2⟩
      · exact .inl e
      · exact .inr ⟨k, by omega, h1, h2⟩
theorem Gph.best {n : Nat} {S : Nat → Int} {K : Nat → List Nat} {Z : Nat → List Int} (G : Gph n S K Z) {C : Nat → Nat} {k : Nat} (hk : k < n) : ∃ j, j < n ∧ C j = C k ∧ bst S C (C k) n = S j := by
  rcases bst_is (S := S) (C := C) (c := C k) n with e | h
  · have := bst_ge (S := S) (C := C) n k hk rfl
    have := (G.known k hk).1
    omega
  · exact h
/-- What a class becomes. -/
def bec (n : Nat) (S : Nat → Int) (K : Nat → List Nat) (C : Nat → Nat) : Nat → Nat → List Int
  | 0, _ => []
  | f + 1, c => match sym n S C c with
    | none => [bst S C c n]
    | some k => S k :: ((K k).map fun i => bec n S K C f (C i)).flatten
theorem bec_none {n : Nat} {S : Nat → Int} {K : Nat → List Nat} {C : Nat → Nat} {f c : Nat} (h : sym n S C c = none) : bec n S K C (f + 1) c = [bst S C c n] := by rw [bec, h]
theorem bec_some {n : Nat} {S : Nat → Int} {K : Nat → List Nat} {C : Nat → Nat} {f c k : Nat} (h : sym n S C c = some k) : bec n S K C (f + 1) c = S k :: ((K k).map fun i => bec n S K C f (C i)).flatten := by rw [bec, h]
theorem rnd_kid {n : Nat} {S : Nat → Int} {K : Nat → List Nat} {C : Nat → Nat} {f c k : Nat} (h : sym n S C c = some k) (hr : rnd n S K C (f + 1) c = false) : ∀ i ∈ K k, rnd n S K C f (C i) = false := fun i hi => by
  rw [rnd_some h] at hr
  have := List.any_eq_false.1 hr i hi
  simpa using this
/-- It does not matter how far it is looked, if it ends. -/
theorem bec_more {n : Nat} {S : Nat → Int} {K : Nat → List Nat} {C : Nat → Nat} : ∀ (f c : Nat), rnd n S K C f c = false → bec n S K C (f + 1) c = bec n S K C f c := by
  intro f
  induction f with
  | zero => intro c h; simp [rnd] at h
  | succ f ih =>
    intro c h
    cases hs : sym n S C c with
    | none => rw [bec_none hs, bec_none hs]
    | some k =>
      rw [bec_some hs, bec_some hs]
      congr 2
      refine List.map_congr_left fun i hi => ?_
      exact ih _ (rnd_kid hs h i hi)
theorem bec_run {n : Nat} {S : Nat → Int} {K : Nat → List Nat} {Z : Nat → List Int} (G : Gph n S K Z) {C : Nat → Nat} : ∀ (f k : Nat), k < n → rnd n S K C f (C k) = false → Tm.run (bec n S K C f (C k)) 1 = (bec n S K C f (C k)).length := by
  intro f
  induction f with
  | zero => intro k _ h; simp [rnd] at h
  | succ f ih =>
    intro k hk h
    cases hs : sym n S C (C k) with
    | none =>
      rw [bec_none hs]
      obtain ⟨j, hj, e1, e2⟩ := G.best (C := C) hk
      have := sym_none hs j hj e1
      rw [show (1 : Nat) = 0 + 1 from rfl, Tm.run_cons, Wb.room_var (by omega), Tm.run_zero]
      rfl
    | some q =>
      obtain ⟨hq, e1, e2⟩ := sym_some hs
      rw [bec_some hs]
      have hr := run_kids (l := (K q).map fun i => bec n S K C f (C i)) fun x hx => by
        obtain ⟨i, hi, rfl⟩ := List.mem_map.1 hx
        exact ih i (G.kids q hq i hi) (rnd_kid hs h i hi)
      rw [List.length_map, G.room q hq] at hr
      rw [show (1 : Nat) = 0 + 1 from rfl, Tm.run_cons, Nat.zero_add, hr, List.length_cons]
      omega
theorem bec_vars {n : Nat} {S : Nat → Int} {K : Nat → List Nat} {Z : Nat → List Int} (G : Gph n S K Z) {C : Nat → Nat} : ∀ (f k : Nat), k < n → ∀ s ∈ bec n S K C f (C k), -8 ≤ s ∧ s < 6 := by
  intro f
  induction f with
  | zero => intro k _ s h; simp [bec] at h
  | succ f ih =>
    intro k hk s h
    cases hs : sym n S C (C k) with
    | none =>
      rw [bec_none hs] at h
      obtain ⟨j, hj, e1, e2⟩ := G.best (C := C) hk
      simp only [List.mem_cons, List.not_mem_nil, or_false] at h
      rw [h, e2]
      exact G.known j hj
    | some q =>
      obtain ⟨hq, e1, e2⟩ := sym_some hs
      rw [bec_some hs] at h
      rcases List.mem_cons.1 h with e | h
      · rw [e]; exact G.known q hq
      · obtain ⟨l, hl, hsl⟩ := List.mem_flatten.1 h
        obtain ⟨i, hi, rfl⟩ := List.mem_map.1 hl
        exact ih i (G.kids q hq i hi) s hsl
theorem bec_most {n : Nat} {S : Nat → Int} {K : Nat → List Nat} {Z : Nat → List Int} (G : Gph n S K Z) {C : Nat → Nat} {θ : Sb} (R : Resp n Z C θ) : ∀ (f k : Nat), k < n → rnd n S K C f (C k) = false → App θ (Z k) = App θ (bec n S K C f (C k)) := by
  intro f
  induction f with
  | zero => intro k _ h; simp [rnd] at h
  | succ f ih =>
    intro k hk h
    cases hs : sym n S C (C k) with
    | none =>
      obtain ⟨j, hj, e1, e2⟩ := G.best (C := C) hk
      have := sym_none hs j hj e1
      rw [bec_none hs, e2, R k j hk hj e1.symm, (G.var hj this).2]
    | some q =>
      obtain ⟨hq, e1, e2⟩ := sym_some hs
      rw [bec_some hs, R k q hk hq e1.symm, G.app θ hq e2, App_cons, if_neg (by omega), App_flatten, List.map_map]
      show S q :: _ = S q :: _
      congr 2
      refine List.map_congr_left fun i hi => ?_
      exact ih i (G.kids q hq i hi) (rnd_kid hs h i hi)

/-- Where something makes all the same nothing stands in itself. -/
theorem rnd_no {n : Nat} {S : Nat → Int} {K : Nat → List Nat} {Z : Nat → List Int} (G : Gph n S K Z) {C : Nat → Nat} (hC : ∀ k, k < n → C k < n) {θ : Sb} (R : Resp n Z C θ) {k : Nat} (hk : k < n) : rnd n S K C (n + 1) (C k) = false := by
  let ln : Nat → Nat := fun c => match (List.range n).find? fun j => decide (C j = c) with
    | some j => (App θ (Z j)).length
    | none => 0
  have hln : ∀ j, j < n → ln (C j) = (App θ (Z j)).length := fun j hj => by
    show (match (List.range n).find? fun i => decide (C i = C j) with
      | some j => (App θ (Z j)).length
      | none => 0) = _
    cases hf : (List.range n).find? fun i => decide (C i = C j) with
    | none => exact absurd (List.find?_eq_none.1 hf j (List.mem_range.2 hj)) (by simp)
    | some i =>
      have h1 := List.find?_some hf
      have h2 := List.mem_range.1 (List.mem_of_find?_eq_some hf)
      simp only [decide_eq_true_eq] at h1
      show (App θ (Z i)).length = _
      rw [R i j h2 hj h1]
  let g : Nat → Nat := fun c => ((List.range n).filter fun d => ((List.range n).any fun k => C k == d) && decide (ln d < ln c)).length
  have hle : ∀ f k, k < n → rnd n S K C f (C k) = true → f ≤ g (C k) := by
    intro f
    induction f with
    | zero => intro k _ _; omega
    | succ f ih =>
      intro k hk h
      cases hs : sym n S C (C k) with
      | none => rw [rnd_none hs] at h; cases h
      | some q =>
        obtain ⟨hq, e1, e2⟩ := sym_some hs
        rw [rnd_some hs] at h
        obtain ⟨i, hi, h⟩ := List.any_eq_true.1 h
        have hin := G.kids q hq i hi
        have h1 := ih i hin h
        have hlt : ln (C i) < ln (C k) := by
          rw [hln i hin, hln k hk, R k q hk hq e1.symm, G.app θ hq e2, List.length_cons]
          have := mem_len (List.mem_map_of_mem (f := fun i => App θ (Z i)) hi)
          omega
        have h2 : g (C i) < g (C k) := by
          refine Wb.filter_lt _ _ _ (fun d _ h => ?_) (C i) (List.mem_range.2 (hC i hin)) ?_ ?_
          · simp only [Bool.and_eq_true, decide_eq_true_eq] at h ⊢
            exact ⟨h.1, by omega⟩
          · simp
          · simp only [Bool.and_eq_true, decide_eq_true_eq]
            exact ⟨used_iff.2 ⟨i, hin, rfl⟩, hlt⟩
        omega
  rw [Bool.eq_false_iff]
  intro h
  have h1 := hle _ k hk h
  have h2 : g (C k) ≤ n := by
    refine Nat.le_trans (List.length_filter_le _ _) ?_
    simp
  omega

/-- What variables become by the classes. -/
def sig (n : Nat) (S : Nat → Int) (K : Nat → List Nat) (C : Nat → Nat) : Sb := fun v => match (List.range n).find? fun k => decide (S k = v) with
  | some k => bec n S K C (n + 1) (C k)
  | none => [v]
theorem sig_at {n : Nat} {S : Nat → Int} {K : Nat → List Nat} {Z : Nat → List Int} (G : Gph n S K Z) (C : Nat → Nat) {k : Nat} (hk : k < n) (hs : S k < 0) : sig n S K C (S k) = bec n S K C (n + 1) (C k) := by
  unfold sig
  cases hf : (List.range n).find? fun i => decide (S i = S k) with
  | none => exact absurd (List.find?_eq_none.1 hf k (List.mem_range.2 hk)) (by simp)
  | some i =>
    have h1 := List.find?_some hf
    have h2 := List.mem_range.1 (List.mem_of_find?_eq_some hf)
    simp only [decide_eq_true_eq] at h1
    have := G.vars i k h2 hk (by omega) h1
    subst this
    rfl
theorem sig_no {n : Nat} {S : Nat → Int} {K : Nat → List Nat} {C : Nat → Nat} {v : Int} (h : ∀ k, k < n → S k ≠ v) : sig n S K C v = [v] := by
  unfold sig
  rw [List.find?_eq_none.2 fun k hk => by simpa using h k (List.mem_range.1 hk)]
theorem sig_or {n : Nat} {S : Nat → Int} {K : Nat → List Nat} {Z : Nat → List Int} (G : Gph n S K Z) (C : Nat → Nat) (v : Int) (hv : v < 0) : (∃ k, k < n ∧ S k = v ∧ sig n S K C v = bec n S K C (n + 1) (C k)) ∨ ((∀ k, k < n → S k ≠ v) ∧ sig n S K C v = [v]) := by
  by_cases h : ∃ k, k < n ∧ S k = v
  · obtain ⟨k, hk, rfl⟩ := h
    exact .inl ⟨k, hk, rfl, sig_at G C hk hv⟩
  · have h' : ∀ k, k < n → S k ≠ v := fun k hk e => h ⟨k, hk, e⟩
    exact .inr ⟨h', sig_no h'⟩
/-- Each node becomes what its class does. -/
theorem sig_app {n : Nat} {S : Nat → Int} {K : Nat → List Nat} {Z : Nat → List Int} (G : Gph n S K Z) {C : Nat → Nat} (hS : ∀ a b, a < n → b < n → Shut S K C a b) (hr : ∀ k, k < n → rnd n S K C (n + 1) (C k) = false) : ∀ (m k : Nat), (Z k).length ≤ m → k < n → App (sig n S K C) (Z k) = bec n S K C (n + 1) (C k) := by
  intro m
  induction m with
  | zero => intro k h hk; rw [G.sign k hk, List.length_cons] at h; omega
  | succ m ih =>
    intro k h hk
    by_cases hs : S k < 0
    · rw [(G.var hk hs).2, App_cons, if_pos hs, sig_at G C hk hs, Wb.App_nil, List.append_nil]
    · cases hy : sym n S C (C k) with
      | none => exact absurd (sym_none hy k hk rfl) hs
      | some q =>
        obtain ⟨hq, e1, e2⟩ := sym_some hy
        obtain ⟨e3, e4⟩ := hS k q hk hq e1.symm (by omega) e2
        rw [bec_some hy, G.app _ hk (by omega), e3]
        congr 2
        refine List.ext_getElem (by rw [List.length_map, List.length_map, G.room k hk, G.room q hq, e3]) fun i h1 h2 => ?_
        rw [List.length_map] at h1 h2
        rw [List.getElem_map, List.getElem_map]
        have hi1 := List.getElem_mem h1
        have hi2 := List.getElem_mem h2
        rw [ih _ (by have := G.kid_len hk hi1; omega) (G.kids k hk _ hi1)]
        have e5 := e4 i (by rw [← G.room k hk]; exact h1)
        rw [List.getElem?_eq_getElem h1, List.getElem?_eq_getElem h2] at e5
        simp only [Option.getD_some] at e5
        rw [e5]
        exact bec_more n _ (rnd_kid hy (hr k hk) _ hi2)
/-- WHAT IS SO FOUND. -/
theorem sig_mgu {n : Nat} {S : Nat → Int} {K : Nat → List Nat} {Z : Nat → List Int} (G : Gph n S K Z) {C : Nat → Nat} (hS : ∀ a b, a < n → b < n → Shut S K C a b) (hr : ∀ k, k < n → rnd n S K C (n + 1) (C k) = false) {ps : PairL}
    (hsound : ∀ θ, TermSb θ → Same ps ps.length θ → Resp n Z C θ) (htied : ∀ j, j < ps.length → ∃ a b, a < n ∧ b < n ∧ Z a = (ps[j]?.getD ([], [])).1 ∧ Z b = (ps[j]?.getD ([], [])).2 ∧ C a = C b) : Wb.Mgu ps (sig n S K C) := by
  refine ⟨fun s hs => ?_, fun v h1 h2 s hs => ?_, fun j hj => ?_, fun θ hθ H v h1 h2 => ?_, fun v u h1 h2 e hu => ?_⟩
  · rcases sig_or (K := K) G C s hs with ⟨k, hk, rfl, e⟩ | ⟨_, e⟩
    · rw [e]; exact bec_run G _ k hk (hr k hk)
    · rw [e, show (1 : Nat) = 0 + 1 from rfl, Tm.run_cons, Wb.room_var hs, Tm.run_zero]; rfl
  · rcases sig_or (K := K) G C v h2 with ⟨k, hk, rfl, e⟩ | ⟨_, e⟩
    · rw [e] at hs; exact bec_vars G _ k hk s hs
    · rw [e] at hs
      simp only [List.mem_cons, List.not_mem_nil, or_false] at hs
      omega
  · obtain ⟨a, b, ha, hb, e1, e2, e3⟩ := htied j hj
    rw [← e1, ← e2, sig_app G hS hr _ a (Nat.le_refl _) ha, sig_app G hS hr _ b (Nat.le_refl _) hb, e3]
  · rcases sig_or (K := K) G C v h2 with ⟨k, hk, rfl, e⟩ | ⟨_, e⟩
    · rw [e, ← bec_most G (hsound θ hθ H) _ k hk (hr k hk), (G.var hk h2).2, App_cons, if_pos h2, Wb.App_nil, List.append_nil]
    · rw [e, App_cons, if_pos h2, Wb.App_nil, List.append_nil]
  · rcases sig_or (K := K) G C v h2 with ⟨k, hk, rfl, e2⟩ | ⟨_, e2⟩
    · rw [e2] at e
      cases hy : sym n S C (C k) with
      | none =>
        rw [bec_none hy] at e
        have := bst_ge (S := S) (C := C) n k hk rfl
        simp only [List.cons.injEq, and_true] at e
        omega
      | some q =>
        obtain ⟨hq, e1, e3⟩ := sym_some hy
        rw [bec_some hy] at e
        have := (List.cons.inj e).1
        omega
    · rw [e2] at e
      simp only [List.cons.injEq, and_true] at e
      omega
end Mt

end Go.Proofs.Ytgeknojpcjadkaa

namespace Go.Proofs.Ytgeknojpcjadkaa
open Go.Proofs Go.RowKit Go.Shelf Go.Maps

/-- Node j is the one that is found for the tree at p, whose sign is S j. -/
def Fnd (n : Nat) (N : Nat → Nat) (S : Nat → Int) (p j : Nat) : Prop := j < n ∧ (S j < 0 → ∀ k, k < j → S k ≠ S j) ∧ (0 ≤ S j → N j = p ∧ ∀ k, k < j → N k ≠ p)
/-- Block x holds ties: nodes N, classes C; the nodes' signs S, parts P, and the nodes K that are found for these. -/
structure Ties (W : World) (x n : Nat) (aN : Option Addr) (cN : Nat) (aC : Option Addr) (cC : Nat) (N : Nat → Nat) (C : Nat → Nat) (S : Nat → Int) (K : Nat → List Nat) (P : Nat → Nat → Nat) : Prop where
  c0 : W.cell? ⟨x, 0, none⟩ = some (.slice aN n cN)
  c1 : W.cell? ⟨x, 1, none⟩ = some (.slice aC n cC)
  nd : ∀ k, k < n → ∃ b off, aN = some ⟨b, off, none⟩ ∧ W.cell? ⟨b, off + k, none⟩ = some (ptr (N k))
  cl : ∀ k, k < n → ∃ b off, aC = some ⟨b, off, none⟩ ∧ W.cell? ⟨b, off + k, none⟩ = some (.int .i64 (C k : Int))
  tr : ∀ k, k < n → ∃ a c, Node W (N k) (S k) (.slice a (Tm.room (S k)) c) ∧ ∀ i, i < Tm.room (S k) → ∃ b off, a = some ⟨b, off, none⟩ ∧ W.cell? ⟨b, off + i, none⟩ = some (ptr (P k i))
  ps : ∀ k i, k < n → i < Tm.room (S k) → ∃ v, Node W (P k i) (S ((K k)[i]?.getD 0)) v
  fd : ∀ k i, k < n → i < Tm.room (S k) → Fnd n N S (P k i) ((K k)[i]?.getD 0)
  le : n ≤ 5000
theorem Ties.drewN {W : World} {x n : Nat} {aN : Option Addr} {cN : Nat} {aC : Option Addr} {cC : Nat} {N : Nat → Nat} {C : Nat → Nat} {S : Nat → Int} {K : Nat → List Nat} {P : Nat → Nat → Nat} (h : Ties W x n aN cN aC cC N C S K P) (d : Nat) : Ties (W.drewN d) x n aN cN aC cC N C S K P :=
  ⟨h.c0, h.c1, h.nd, h.cl, h.tr, h.ps, h.fd, h.le⟩

theorem Try.infoTree : ∃ j, Try.prog.info? 165 = some j ∧ j.size ≠ 0 := by
  have h : (Try.prog.info? 165).map (fun i => i.size) = some 2 := by kernel_rfl
  cases hi : Try.prog.info? 165 with
  | none => rw [hi] at h; cases h
  | some j =>
    rw [hi] at h
    simp only [Option.map_some, Option.some.injEq] at h
    exact ⟨j, rfl, by omega⟩

set_option maxRecDepth 100000 in
set_option maxHeartbeats 1000000 in
/-- (*ties).node of a tree that is there. -/
theorem node_fd {x n : Nat} {aN : Option Addr} {cN : Nat} {N : Nat → Nat} {S : Nat → Int} (w : World) (p j : Nat) (hc0 : w.cell? ⟨x, 0, none⟩ = some (.slice aN n cN)) (hnd : ∀ k, k < n → ∃ b off, aN = some ⟨b, off, none⟩ ∧ w.cell? ⟨b, off + k, none⟩ = some (ptr (N k))) (hsg : ∀ k, k < n → ∃ v, Node w (N k) (S k) v) (hn : n ≤ 5000)
    {vp : Value} (hpN : Node w p (S j) vp) (F : Fnd n N S p j) :
    Calls Try.prog 104 #[ptr x, ptr p] w fun e w' => e = .returned (.int .i64 (j : Int)) ∧ ∃ m, w' = w.drewN m := by
  obtain ⟨hj, F1, F2⟩ := F
  obtain ⟨ti, hti, htz⟩ := Try.infoTree
  have hn' : (n : Int) ≤ 5000 := by omega
  have Hnd := hid hnd
  have hp := hpN.cell0
  have HpN := hid hpN
  clear hpN
  have Hsg := hid hsg
  clear hnd hsg
  by_cases hs : S j < 0
  · have F1' := hid (F1 hs)
    clear F1 F2
    have Hd : Hid (S j = S j) := rfl
    generalize hsd : S j = s at *
    have HS := hid hsd
    clear hsd Hd
    go_enter Try.func104, Try.ntmps104
    go_wp2
    go_loopw [5] (fun i wr => ∃ k : Nat, k ≤ j ∧ i = .int .i64 (k : Int) ∧ ∃ d, wr = w.drewN d) (fun i _ => j - (intOf i).toNat)
    case atStart => exact ⟨0, Nat.zero_le _, rfl, 0, rfl⟩
    case round =>
      obtain ⟨k, hk, rfl, d, rfl⟩ := hrel
      have hkn : (k : Int) < (n : Int) := by omega
      obtain ⟨b, off, rfl, hck⟩ := Hnd.out k (by omega)
      obtain ⟨vk, hNk⟩ := Hsg.out k (by omega)
      have hsk := hNk.cell0
      clear hNk
      by_cases hlt : k < j
      · have hne : (S k == s) = false := by simpa using F1'.out k hlt
        generalize S k = sk at *
        go_wp2
        go_quiet (fail)
        go_wp2
        go_roundw
        case rel => exact ⟨k + 1, by omega, by go_num, _, rfl⟩
        case measure => simp [intOf]; omega
      · obtain rfl : k = j := by omega
        rw [HS.out] at hsk
        go_wp2
        go_quiet (fail)
        go_wp2
        go_ret
        exact ⟨rfl, _, World.drewN_drewN _ _ _⟩
  · obtain ⟨F3, F4⟩ := F2 (by omega)
    have F4' := hid F4
    have F3' := hid F3
    have hs0 : decide (S j < 0) = false := by simpa using hs
    clear F1 F2 F3 F4 hs
    generalize S j = s at *
    have h0n : (0 : Int) < (n : Int) := by omega
    go_enter Try.func104, Try.ntmps104
    go_wp2
    refine wp_loop_rounds 1 ?_
    rw [rounds_succ]
    go_wp2
    go_loopw [6] (fun i wr => ∃ k : Nat, k ≤ j ∧ i = .int .i64 (k : Int) ∧ ∃ d, wr = w.drewN d) (fun i _ => j - (intOf i).toNat)
    case atStart => exact ⟨0, Nat.zero_le _, rfl, 0, rfl⟩
    case round =>
      obtain ⟨k, hk, rfl, d, rfl⟩ := hrel
      have hkn : (k : Int) < (n : Int) := by omega
      obtain ⟨b, off, rfl, hck⟩ := Hnd.out k (by omega)
      by_cases hlt : k < j
      · obtain ⟨vk, hNk⟩ := Hsg.out k (by omega)
        have hrun := run_eql_ptr_other (P := Try.prog) (w.drewN d) (a := ⟨N k, 0, none⟩) (b := ⟨p, 0, none⟩) Try.underlying161 hti htz (fun e => F4'.out k hlt (by cases e; rfl)) hNk HpN.out
        clear hNk
        generalize N k = q at *
        go_wp2
        go_roundw
        case rel => exact ⟨k + 1, by omega, by go_num, _, rfl⟩
        case measure => simp [intOf]; omega
      · obtain rfl : k = j := by omega
        rw [F3'.out] at hck
        have hrun := run_eql_ptr_same (P := Try.prog) (w.drewN d) ⟨p, 0, none⟩ Try.underlying161 hti
        go_wp2
        go_ret
        exact ⟨rfl, _, rfl⟩

namespace Mt
theorem sym_of {n : Nat} {S : Nat → Int} {C : Nat → Nat} {c k : Nat} (hk : k < n) (h1 : C k = c) (h2 : 0 ≤ S k) (h : ∀ j, j < k → ¬ (C j = c ∧ 0 ≤ S j)) : sym n S C c = some k := by
  unfold sym
  rw [List.find?_range_eq_some]
  refine ⟨by simp [h1, h2], List.mem_range.2 hk, fun j hj => ?_⟩
  have := h j hj
  simp only [Bool.not_eq_true', Bool.and_eq_false_iff, decide_eq_false_iff_not]
  by_cases e : C j = c
  · exact .inr fun h3 => this ⟨e, h3⟩
  · exact .inl e
theorem sym_not {n : Nat} {S : Nat → Int} {C : Nat → Nat} {c : Nat} (h : ∀ j, j < n → ¬ (C j = c ∧ 0 ≤ S j)) : sym n S C c = none := by
  unfold sym
  rw [List.find?_eq_none]
  intro j hj
  have := h j (List.mem_range.1 hj)
  simpa using this
/-- As (*ties).symbol tells it. -/
def symI (n : Nat) (S : Nat → Int) (C : Nat → Nat) (c : Nat) : Int := match sym n S C c with
  | some k => (k : Int)
  | none => -1
end Mt

set_option maxRecDepth 100000 in
set_option maxHeartbeats 1000000 in
/-- (*ties).symbol. -/
theorem symbol_any {x n : Nat} {aN : Option Addr} {cN : Nat} {aC : Option Addr} {cC : Nat} {N : Nat → Nat} {C : Nat → Nat} {S : Nat → Int} {K : Nat → List Nat} {P : Nat → Nat → Nat} (w : World) (H : Ties w x n aN cN aC cC N C S K P) (c : Nat) :
    Calls Try.prog 136 #[ptr x, .int .i64 (c : Int)] w fun e w' => e = .returned (.int .i64 (Mt.symI n S C c)) ∧ ∃ m, w' = w.drewN m := by
  have hn := H.le
  have hn' : (n : Int) ≤ 5000 := by omega
  have hc0 := H.c0
  have hc1 := H.c1
  have HH := hid H
  clear H
  have Hs := hid (fun k (hk : k < n) h1 h2 h => (by unfold Mt.symI; rw [Mt.sym_of (S := S) (C := C) (c := c) hk h1 h2 h] : Mt.symI n S C c = (k : Int)))
  have Hn := hid (fun h => (by unfold Mt.symI; rw [Mt.sym_not (n := n) (S := S) (C := C) (c := c) h] : Mt.symI n S C c = -1))
  generalize Mt.symI n S C c = r at *
  go_enter Try.func136, Try.ntmps136
  go_wp2
  go_loopw [5] (fun i wr => ∃ k : Nat, k ≤ n ∧ i = .int .i64 (k : Int) ∧ Hid (∀ j, j < k → ¬ (C j = c ∧ 0 ≤ S j)) ∧ ∃ d, wr = w.drewN d) (fun i _ => n - (intOf i).toNat)
  case atStart => exact ⟨0, Nat.zero_le _, rfl, fun j hj => by omega, 0, rfl⟩
  case round =>
    obtain ⟨k, hk, rfl, hno, d, rfl⟩ := hrel
    by_cases hlt : k < n
    · have hkn : (k : Int) < (n : Int) := by omega
      obtain ⟨b, off, rfl, hck⟩ := HH.out.cl k hlt
      by_cases hC : C k = c
      · obtain ⟨b', off', rfl, hnk⟩ := HH.out.nd k hlt
        obtain ⟨a1, c1, hNk, _⟩ := HH.out.tr k hlt
        have hsk := hNk.cell0
        clear hNk
        have HC := hid hC
        have heq : ((C k : Int) == (c : Int)) = true := by rw [hC]; simp
        clear hC
        by_cases hs : 0 ≤ S k
        · have hr := Hs.out k hlt HC.out hs hno.out
          have Hr := hid hr
          clear hr
          generalize S k = s at *
          generalize C k = ck at *
          generalize N k = q at *
          go_wp2
          go_ret
          exact ⟨by rw [Hr.out]; rfl, _, rfl⟩
        · have hs' : decide (0 ≤ S k) = false := by simpa using hs
          have Hno' : Hid (∀ j, j < k + 1 → ¬ (C j = c ∧ 0 ≤ S j)) := fun j hj h => by
            by_cases e : j = k
            · subst e; exact hs h.2
            · exact hno.out j (by omega) h
          clear hs
          generalize S k = s at *
          generalize C k = ck at *
          generalize N k = q at *
          go_wp2
          go_roundw
          case rel => exact ⟨k + 1, by omega, by go_num, Hno', _, rfl⟩
          case measure => simp [intOf]; omega
      · have hne : ((C k : Int) == (c : Int)) = false := by simp; omega
        have Hno' : Hid (∀ j, j < k + 1 → ¬ (C j = c ∧ 0 ≤ S j)) := fun j hj h => by
            by_cases e : j = k
            · subst e; exact hC h.1
            · exact hno.out j (by omega) h
        clear hC
        generalize C k = ck at *
        go_wp2
        go_roundw
        case rel => exact ⟨k + 1, by omega, by go_num, Hno', _, rfl⟩
        case measure => simp [intOf]; omega
    · obtain rfl : k = n := by omega
      have Hr := hid (Hn.out hno.out)
      go_wp2
      go_ret
      exact ⟨by rw [Hr.out]; rfl, _, rfl⟩

end Go.Proofs.Ytgeknojpcjadkaa

namespace Go.Proofs.Ytgeknojpcjadkaa
open Go.Proofs Go.RowKit Go.Shelf Go.Maps

theorem mt_any_snoc (l : List Nat) (f : Nat → Bool) (i : Nat) (hi : i < l.length) (h : (l.take i).any f = false) (h2 : f (l[i]?.getD 0) = false) : (l.take (i + 1)).any f = false := by
  rw [List.take_succ_eq_append_getElem hi, List.any_append, h]
  rw [List.getElem?_eq_getElem hi] at h2
  simpa using h2
theorem mt_any_hit (l : List Nat) (f : Nat → Bool) (i : Nat) (hi : i < l.length) (h2 : f (l[i]?.getD 0) = true) : l.any f = true := by
  rw [List.getElem?_eq_getElem hi] at h2
  exact List.any_eq_true.2 ⟨_, List.getElem_mem hi, h2⟩

set_option maxRecDepth 100000 in
set_option maxHeartbeats 1000000 in
theorem round_step {x n : Nat} {aN : Option Addr} {cN : Nat} {aC : Option Addr} {cC : Nat} {N : Nat → Nat} {C : Nat → Nat} {S : Nat → Int} {K : Nat → List Nat} {P : Nat → Nat → Nat} (hroom : ∀ k, k < n → (K k).length = Tm.room (S k)) (w : World) (H : Ties w x n aN cN aC cC N C S K P) (f deep c : Nat) (hf : f + 1 + deep = n + 1)
    (ih : ∀ (c' d : Nat), Calls Try.prog 108 #[ptr x, .int .i64 (c' : Int), .int .i64 ((deep : Int) + 1)] (w.drewN d) fun e w' => e = .returned (.bool (Mt.rnd n S K C f c')) ∧ ∃ m, w' = (w.drewN d).drewN m) :
    Calls Try.prog 108 #[ptr x, .int .i64 (c : Int), .int .i64 (deep : Int)] w fun e w' => e = .returned (.bool (Mt.rnd n S K C (f + 1) c)) ∧ ∃ m, w' = w.drewN m := by
  have hn := H.le
  have hn' : (n : Int) ≤ 5000 := by omega
  have hc0 := H.c0
  have hc1 := H.c1
  have hdn : (deep : Int) ≤ (n : Int) := by omega
  have hsy := symbol_any w H c
  have HH := hid H
  have IH := hid ih
  clear H ih
  cases hy : Mt.sym n S C c with
  | none =>
    have hr := hid (Mt.rnd_none (K := K) (f := f) hy)
    have hsi : Mt.symI n S C c = -1 := by unfold Mt.symI; rw [hy]
    rw [hsi] at hsy
    clear hsi hy
    generalize Mt.rnd n S K C (f + 1) c = r at *
    go_enter Try.func108, Try.ntmps108
    go_wp2_with (first
      | (go_at_call 136; refine hsy.mono ?_; clear hsy; rintro e w1 ⟨rfl, d, rfl⟩))
    go_ret
    exact ⟨by rw [hr.out]; rfl, _, rfl⟩
  | some k =>
    obtain ⟨hk, e1, e2⟩ := Mt.sym_some hy
    have hr := hid (Mt.rnd_some (K := K) (f := f) hy)
    have hsi : Mt.symI n S C c = (k : Int) := by unfold Mt.symI; rw [hy]
    rw [hsi] at hsy
    clear hsi hy e1 e2
    generalize Mt.rnd n S K C (f + 1) c = r at *
    have hkn : (k : Int) < (n : Int) := by omega
    obtain ⟨b', off', rfl, hnk⟩ := HH.out.nd k hk
    obtain ⟨a1, c1, hNk, hparts⟩ := HH.out.tr k hk
    have hp1 := hNk.cell1
    have Hp := hid hparts
    have hr2 := Tm.room_le (S k)
    have hrK := hid (hroom k hk)
    clear hNk hparts
    obtain ⟨bC, offC, rfl, _⟩ := HH.out.cl k hk
    have Hps := hid (fun i hi => HH.out.ps k i hk hi)
    have Hfd := hid (fun i hi => HH.out.fd k i hk hi)
    have Hnd := hid (fun d i hi => by
      obtain ⟨v, hv⟩ := HH.out.ps k i hk hi
      exact node_fd (x := x) (w.drewN d) (P k i) ((K k)[i]?.getD 0) HH.out.c0 HH.out.nd (fun k hk => by obtain ⟨a, c, h, _⟩ := HH.out.tr k hk; exact ⟨_, h⟩) HH.out.le hv (HH.out.fd k i hk hi))
    generalize hrm : Tm.room (S k) = rm at *
    clear hrm
    have hrm2 : (rm : Int) ≤ 2 := by omega
    generalize hKk : K k = Kk at *
    clear hKk
    go_enter Try.func108, Try.ntmps108
    go_wp2_with (first
      | (go_at_call 136; refine hsy.mono ?_; clear hsy; rintro e w1 ⟨rfl, d, rfl⟩))
    go_loopw [8] (fun i wr => ∃ j : Nat, j ≤ rm ∧ i = .int .i64 (j : Int) ∧ Hid ((Kk.take j).any (fun i => Mt.rnd n S K C f (C i)) = false) ∧ Hid (∃ d, wr = w.drewN d)) (fun i _ => rm - (intOf i).toNat)
    case atStart => exact ⟨0, Nat.zero_le _, rfl, by simp [Hid], _, rfl⟩
    case round =>
      obtain ⟨j, hj, rfl, hno, hwr⟩ := hrel
      have h0r : wr.cell? ⟨x, 0, none⟩ = some (.slice (some ⟨b', off', none⟩) n cN) := by obtain ⟨d, e⟩ := hwr; rw [e]; exact hc0
      have h1r : wr.cell? ⟨x, 1, none⟩ = some (.slice (some ⟨bC, offC, none⟩) n cC) := by obtain ⟨d, e⟩ := hwr; rw [e]; exact hc1
      have hnr : wr.cell? ⟨b', off' + k, none⟩ = some (ptr (N k)) := by obtain ⟨d, e⟩ := hwr; rw [e]; exact hnk
      have hpr : wr.cell? ⟨N k, 1, none⟩ = some (.slice a1 rm c1) := by obtain ⟨d, e⟩ := hwr; rw [e]; exact hp1
      by_cases hlt : j < rm
      · have hjr : (j : Int) < (rm : Int) := by omega
        obtain ⟨b, off, rfl, hcj⟩ := Hp.out j hlt
        obtain ⟨hin, _⟩ := Hfd.out j hlt
        obtain ⟨_, _, e, hcl⟩ := HH.out.cl _ hin
        cases e
        have hin' : ((Kk[j]?.getD 0 : Nat) : Int) < (n : Int) := by omega
        have Hhit := hid (mt_any_hit Kk (fun i => Mt.rnd n S K C f (C i)) j (by rw [hrK.out]; exact hlt))
        have Hmiss := hid (mt_any_snoc Kk (fun i => Mt.rnd n S K C f (C i)) j (by rw [hrK.out]; exact hlt) hno.out)
        have hcjr : wr.cell? ⟨b, off + j, none⟩ = some (ptr (P k j)) := by obtain ⟨d, e⟩ := hwr; rw [e]; exact hcj
        have hclr : wr.cell? ⟨bC, offC + (Kk[j]?.getD 0), none⟩ = some (.int .i64 (C (Kk[j]?.getD 0) : Int)) := by obtain ⟨d, e⟩ := hwr; rw [e]; exact hcl
        have hnode : Hid (∀ m, Calls Try.prog 104 #[ptr x, ptr (P k j)] (wr.drewN m) fun e w' => e = .returned (.int .i64 ((Kk[j]?.getD 0 : Nat) : Int)) ∧ ∃ m', w' = (wr.drewN m).drewN m') := fun m => by obtain ⟨d, e⟩ := hwr; have := Hnd.out (d + m) j hlt; rw [← World.drewN_drewN, ← e] at this; exact this
        generalize Kk[j]?.getD 0 = q at *
        have hrec : Hid (∀ m, Calls Try.prog 108 #[ptr x, .int .i64 (C q : Int), .int .i64 ((deep : Int) + 1)] (wr.drewN m) fun e w' => e = .returned (.bool (Mt.rnd n S K C f (C q))) ∧ ∃ m', w' = (wr.drewN m).drewN m') := fun m => by obtain ⟨d, e⟩ := hwr; have := IH.out (C q) (d + m); rw [← World.drewN_drewN, ← e] at this; exact this
        have HQ : Hid (∀ m, ∃ d, wr.drewN m = w.drewN d) := fun m => by obtain ⟨d, e⟩ := hwr; exact ⟨_, by rw [e]; exact World.drewN_drewN _ _ _⟩
        clear hc0 hc1 hnk hp1 hcj hcl
        cases hq : Mt.rnd n S K C f (C q) with
        | true =>
          rw [hq] at hrec
          have hh := hid (Hhit.out hq)
          clear Hhit Hmiss hq
          generalize C q = cq at *
          generalize P k j = pj at *
          go_wp2
          go_quiet ((first
            | (go_at_call 104; exact Calls.quiet_of (hnode.out _))
            | (go_at_call 108; exact Calls.quiet_of (hrec.out _))))
          go_wp2
          go_ret
          exact ⟨by rw [hr.out, hh.out]; rfl, HQ.out _⟩
        | false =>
          rw [hq] at hrec
          have hh := hid (Hmiss.out hq)
          clear Hhit Hmiss hq
          generalize C q = cq at *
          generalize P k j = pj at *
          go_wp2
          go_quiet ((first
            | (go_at_call 104; exact Calls.quiet_of (hnode.out _))
            | (go_at_call 108; exact Calls.quiet_of (hrec.out _))))
          go_wp2
          go_roundw
          case rel => exact ⟨j + 1, by omega, by go_num, hh, HQ.out _⟩
          case measure => simp [intOf]; omega
      · obtain rfl : j = rm := by omega
        have hall := hid (show (Kk.any fun i => Mt.rnd n S K C f (C i)) = false by have := hno.out; rw [← hrK.out, List.take_length] at this; exact this)
        go_wp2
        go_ret
        exact ⟨by rw [hr.out, hall.out]; rfl, hwr⟩

set_option maxRecDepth 100000 in
set_option maxHeartbeats 1000000 in
/-- (*ties).round. -/
theorem round_any {x n : Nat} {aN : Option Addr} {cN : Nat} {aC : Option Addr} {cC : Nat} {N : Nat → Nat} {C : Nat → Nat} {S : Nat → Int} {K : Nat → List Nat} {P : Nat → Nat → Nat} (hroom : ∀ k, k < n → (K k).length = Tm.room (S k)) : ∀ (f deep c : Nat) (w : World), Ties w x n aN cN aC cC N C S K P → f + deep = n + 1 →
    Calls Try.prog 108 #[ptr x, .int .i64 (c : Int), .int .i64 (deep : Int)] w fun e w' => e = .returned (.bool (Mt.rnd n S K C f c)) ∧ ∃ m, w' = w.drewN m := by
  intro f
  induction f with
  | zero =>
    intro deep c w H hf
    have hn := H.le
    have hc0 := H.c0
    have hd : (n : Int) < (deep : Int) := by omega
    clear H
    rw [show Mt.rnd n S K C 0 c = true from rfl]
    go_enter Try.func108, Try.ntmps108
    go_wp2
    go_ret
    exact ⟨rfl, 0, rfl⟩
  | succ f ih =>
    intro deep c w H hf
    refine round_step hroom w H f deep c hf fun c' d => ?_
    have := ih (deep + 1) c' (w.drewN d) (H.drewN d) (by omega)
    rw [show ((deep + 1 : Nat) : Int) = (deep : Int) + 1 from by omega] at this
    exact this

end Go.Proofs.Ytgeknojpcjadkaa
