/-
  Parts of the proof: Prs11, Prs12, Met1, Met2, Met4, Met5, Met6, Met7, Met8, Met9, Met10, PRef1, Lea11, Lea0, Lea13.
-/
import Derived.Test.YtgeknojpcjadkaaBlt18
import Derived.Test.YtgeknojpcjadkaaBlt20
import Derived.Test.YtgeknojpcjadkaaBlt11
import Derived.Deep.QuietTactic
import Derived.BigQuiet
import Derived.LaidEqlPtr
import Derived.Deep.RegionHeld3
import Derived.Deep.DrawnRows
import Derived.Deep.AppendLies
import Derived.Deep.RegionLaw
import Derived.Test.YtgeknojpcjadkaaBlt7
import Derived.Test.YtgeknojpcjadkaaBlt2
import Derived.Test.YtgeknojpcjadkaaBlt1
import Derived.Test.YtgeknojpcjadkaaBlt10
import Derived.Test.YtgeknojpcjadkaaBlt12
import Derived.Test.YtgeknojpcjadkaaBlt13
namespace Go.Proofs.Ytgeknojpcjadkaa
open Go.Proofs Go.RowKit Go.Shelf Go.Maps
namespace Sn
theorem pigeon : ∀ (n : Nat) (l : List Int), l.Nodup → (∀ x ∈ l, -(n : Int) ≤ x ∧ x < 0) → l.length ≤ n := by
  intro n
  induction n with
  | zero =>
    intro l _ h
    cases l with
    | nil => simp
    | cons x l => have := h x (by simp); omega
  | succ n ih =>
    intro l hn h
    by_cases hm : -((n : Int) + 1) ∈ l
    · have h1 := ih (l.erase (-((n : Int) + 1))) (hn.erase _) (fun x hx => by
        have h2 := (hn.mem_erase_iff).1 hx
        have h3 := h x h2.2
        have h4 := h2.1
        omega)
      rw [List.length_erase_of_mem hm] at h1
      omega
    · have h1 := ih l hn (fun x hx => by
        have h3 := h x hx
        refine ⟨?_, h3.2⟩
        by_cases e : x = -((n : Int) + 1)
        · subst e; exact absurd hx hm
        · omega)
      omega
theorem see_cases (seen : List Int) (s : Int) : (0 ≤ s ∧ Tm.see seen s = seen) ∨ (s < 0 ∧ seen.contains s = true ∧ Tm.see seen s = seen) ∨ (s < 0 ∧ seen.contains s = false ∧ Tm.see seen s = seen ++ [s]) := by
  unfold Tm.see
  by_cases hs : s < 0
  · rw [if_pos hs]
    cases hc : seen.contains s with
    | true => exact .inr (.inl ⟨hs, rfl, by rw [if_pos rfl]⟩)
    | false => exact .inr (.inr ⟨hs, rfl, by rw [if_neg (by simp)]⟩)
  · rw [if_neg hs]; exact .inl ⟨by omega, rfl⟩
theorem see_pre (seen : List Int) (s : Int) : ∃ r, Tm.see seen s = seen ++ r := by
  rcases see_cases seen s with ⟨_, h⟩ | ⟨_, _, h⟩ | ⟨_, _, h⟩
  · exact ⟨[], by rw [h, List.append_nil]⟩
  · exact ⟨[], by rw [h, List.append_nil]⟩
  · exact ⟨[s], h⟩
theorem seen_cons (seen : List Int) (s : Int) (l : List Int) : Tm.seenFrom seen (s :: l) = Tm.seenFrom (Tm.see seen s) l := rfl
theorem seen_app (seen l r : List Int) : Tm.seenFrom seen (l ++ r) = Tm.seenFrom (Tm.seenFrom seen l) r := by simp [Tm.seenFrom, List.foldl_append]
theorem seen_pre : ∀ (t seen : List Int), ∃ r, Tm.seenFrom seen t = seen ++ r := by
  intro t
  induction t with
  | nil => intro seen; exact ⟨[], by rw [List.append_nil]; rfl⟩
  | cons s l ih =>
    intro seen
    obtain ⟨r1, h1⟩ := see_pre seen s
    obtain ⟨r2, h2⟩ := ih (Tm.see seen s)
    exact ⟨r1 ++ r2, by rw [seen_cons, h2, h1, List.append_assoc]⟩
theorem see_mem (seen : List Int) {s : Int} (hs : s < 0) : (Tm.see seen s).contains s = true := by
  rcases see_cases seen s with ⟨h, _⟩ | ⟨_, h, e⟩ | ⟨_, _, e⟩
  · omega
  · rw [e]; exact h
  · rw [e]; simp
theorem see_nodup {seen : List Int} (h : seen.Nodup) (s : Int) : (Tm.see seen s).Nodup := by
  rcases see_cases seen s with ⟨_, e⟩ | ⟨_, _, e⟩ | ⟨_, hc, e⟩
  · rw [e]; exact h
  · rw [e]; exact h
  · rw [e]
    have hn : ¬ s ∈ seen := by simpa using hc
    rw [List.nodup_append]
    exact ⟨h, by simp, fun a ha b hb => by simp at hb; subst hb; rintro rfl; exact hn ha⟩
theorem seen_nodup : ∀ (t seen : List Int), seen.Nodup → (Tm.seenFrom seen t).Nodup := by
  intro t
  induction t with
  | nil => intro seen h; exact h
  | cons s l ih => intro seen h; exact ih _ (see_nodup h s)
theorem see_neg {seen : List Int} (h : ∀ x ∈ seen, -8 ≤ x ∧ x < 0) {s : Int} (h8 : -8 ≤ s) : ∀ x ∈ Tm.see seen s, -8 ≤ x ∧ x < 0 := by
  rcases see_cases seen s with ⟨_, e⟩ | ⟨_, _, e⟩ | ⟨hs, _, e⟩
  · rw [e]; exact h
  · rw [e]; exact h
  · rw [e]
    intro x hx
    rw [List.mem_append] at hx
    rcases hx with hx | hx
    · exact h x hx
    · simp at hx; subst hx; exact ⟨h8, hs⟩
theorem seen_neg : ∀ (t seen : List Int), t.all Tm.known = true → (∀ x ∈ seen, -8 ≤ x ∧ x < 0) → ∀ x ∈ Tm.seenFrom seen t, -8 ≤ x ∧ x < 0 := by
  intro t
  induction t with
  | nil => intro seen _ h; exact h
  | cons s l ih =>
    intro seen hk h
    rw [List.all_cons, Bool.and_eq_true] at hk
    exact ih _ hk.2 (see_neg h (Tm.known_ge hk.1))
theorem idx_lt {seen : List Int} {s : Int} (h : seen.contains s = true) : Tm.idx seen s < seen.length := by
  unfold Tm.idx
  rw [List.findIdx_lt_length]
  exact ⟨s, by simpa using h, by simp⟩
theorem idx_last {seen : List Int} {s : Int} (h : seen.contains s = false) : Tm.idx (seen ++ [s]) s = seen.length := by
  unfold Tm.idx
  rw [List.findIdx_append, if_neg]
  · simp
  · rw [List.findIdx_lt_length]
    rintro ⟨y, hy, e⟩
    have e' : y = s := by simpa using e
    subst e'
    have : ¬ y ∈ seen := by simpa using h
    exact this hy
def ren (S : List Int) (s : Int) : Int := if s < 0 then -1 - (Tm.idx S s : Int) else s
theorem name_ren (seen r : List Int) (s : Int) : Tm.name seen s = ren (Tm.see seen s ++ r) s := by
  unfold Tm.name ren
  by_cases hs : s < 0
  · rw [if_pos hs, if_pos hs, Tm.idx_app (see_mem seen hs)]
    rcases see_cases seen s with ⟨h, _⟩ | ⟨_, _, e⟩ | ⟨_, hc, e⟩
    · omega
    · rw [e]
    · rw [e, idx_last hc, Tm.idx_new hc]
  · rw [if_neg hs, if_neg hs]
theorem plain_map (t seen r : List Int) : Tm.plainTo seen t t.length = t.map (ren (Tm.seenFrom seen t ++ r)) := by
  refine List.ext_getElem (by simp [Tm.plainTo_length]) fun i h1 h2 => ?_
  rw [Tm.plainTo_length] at h1
  have hl : (Tm.plainTo seen t t.length)[i]'(by rw [Tm.plainTo_length]; exact h1) = Tm.name (Tm.seenFrom seen (t.take i)) t[i] := by simp [Tm.plainTo, h1]
  rw [List.getElem_map, hl]
  have hd : t = t.take i ++ (t[i] :: t.drop (i + 1)) := by rw [← List.drop_eq_getElem_cons h1, List.take_append_drop]
  obtain ⟨r', hr'⟩ := seen_pre (t.drop (i + 1)) (Tm.see (Tm.seenFrom seen (t.take i)) t[i])
  have hS : Tm.seenFrom seen t ++ r = Tm.see (Tm.seenFrom seen (t.take i)) t[i] ++ (r' ++ r) := by
    conv => lhs; rw [hd]
    rw [seen_app, seen_cons, hr', List.append_assoc]
  have hf := name_ren (Tm.seenFrom seen (t.take i)) (r' ++ r) t[i]
  rw [← hS] at hf
  exact hf
def renL (S : List Int) : List (List Int) := (List.range 8).map fun i : Nat => if S.contains (-1 - (i : Int)) = true then [-1 - (Tm.idx S (-1 - (i : Int)) : Int)] else [-1]
theorem renL_at (S : List Int) {i : Nat} (h : i < 8) : (renL S)[i]?.getD [] = if S.contains (-1 - (i : Int)) = true then [-1 - (Tm.idx S (-1 - (i : Int)) : Int)] else [-1] := by
  unfold renL
  rw [List.getElem?_map, List.getElem?_range h]
  rfl
theorem err_var {v : Int} (h1 : -8 ≤ v) (h2 : v < 0) : Tm.err [v] = 0 := by
  refine Tm.err_ok (by simp) (by simp only [List.all_cons, List.all_nil, Bool.and_true]; exact Tm.known_of h1 (by omega)) ?_
  rw [show (1 : Nat) = 0 + 1 from rfl, Tm.run_cons, Wb.room_var h2, Tm.run_zero]
  rfl
theorem renL_err {S : List Int} (h8 : S.length ≤ 8) : Tm.subErr (renL S) = 0 := by
  unfold Tm.subErr
  rw [if_pos (by simp [renL])]
  refine Tm.firstErr_of fun i hi => ?_
  have hi8 : i < 8 := by simpa [renL] using hi
  rw [renL_at S hi8]
  by_cases hc : S.contains (-1 - (i : Int)) = true
  · rw [if_pos hc]
    have := idx_lt hc
    exact err_var (by omega) (by omega)
  · rw [if_neg hc]; exact err_var (by omega) (by omega)
theorem applied_ren {S : List Int} : ∀ (t : List Int), t.all Tm.known = true → (∀ s ∈ t, s < 0 → S.contains s = true) → Tm.applied (renL S) t = t.map (ren S) := by
  intro t
  induction t with
  | nil => intro _ _; rfl
  | cons s l ih =>
    intro hk hm
    rw [List.all_cons, Bool.and_eq_true] at hk
    rw [Tm.applied_cons, ih hk.2 (fun x hx => hm x (by simp [hx])), List.map_cons]
    have h8 := Tm.known_ge hk.1
    have : Tm.piece (renL S) s = [ren S s] := by
      unfold Tm.piece ren
      by_cases hs : s < 0
      · rw [if_pos hs, if_pos hs, renL_at S (by omega), show -1 - (((-1 - s).toNat : Nat) : Int) = s from by omega, if_pos (hm s (by simp) hs)]
      · rw [if_neg hs, if_neg hs]
    rw [this]
    rfl
theorem seen_has : ∀ (t seen : List Int) (s : Int), s < 0 → (s ∈ t ∨ seen.contains s = true) → (Tm.seenFrom seen t).contains s = true := by
  intro t
  induction t with
  | nil =>
    intro seen s _ h
    rcases h with h | h
    · simp at h
    · exact h
  | cons x l ih =>
    intro seen s hs h
    rw [seen_cons]
    refine ih _ s hs ?_
    rcases h with h | h
    · rcases List.mem_cons.1 h with rfl | h
      · exact .inr (see_mem seen hs)
      · exact .inl h
    · obtain ⟨r, e⟩ := see_pre seen x
      rw [e]
      right
      simp at h ⊢
      exact .inl h
end Sn
theorem Tm.plain_ren {X Y : List Int} (eX : Tm.err X = 0) (eY : Tm.err Y = 0) : ∃ ss, Tm.subErr ss = 0 ∧ Tm.plain X = Tm.applied ss X ∧ Tm.plain2 X Y = Tm.applied ss Y ∧ Tm.err (Tm.plain X) = 0 ∧ Tm.err (Tm.plain2 X Y) = 0 := by
  have kX := Tm.err_all eX
  have kY := Tm.err_all eY
  have hneg : ∀ x ∈ Tm.seenFrom (Tm.seenFrom [] X) Y, -8 ≤ x ∧ x < 0 := Sn.seen_neg Y _ kY (Sn.seen_neg X [] kX (fun x hx => by simp at hx))
  have hnd : (Tm.seenFrom (Tm.seenFrom [] X) Y).Nodup := Sn.seen_nodup Y _ (Sn.seen_nodup X [] List.nodup_nil)
  have h8 := Sn.pigeon 8 _ hnd hneg
  have hss := Sn.renL_err h8
  obtain ⟨r, hr⟩ := Sn.seen_pre Y (Tm.seenFrom [] X)
  have pX : Tm.plain X = Tm.applied (Sn.renL (Tm.seenFrom (Tm.seenFrom [] X) Y)) X := by
    rw [Sn.applied_ren X kX (fun s hs h => Sn.seen_has Y _ s h (.inr (Sn.seen_has X [] s h (.inl hs))))]
    have := Sn.plain_map X [] r
    rw [← hr] at this
    exact this
  have pY : Tm.plain2 X Y = Tm.applied (Sn.renL (Tm.seenFrom (Tm.seenFrom [] X) Y)) Y := by
    rw [Sn.applied_ren Y kY (fun s hs h => Sn.seen_has Y _ s h (.inl hs))]
    have := Sn.plain_map Y (Tm.seenFrom [] X) []
    rw [List.append_nil] at this
    exact this
  refine ⟨_, hss, pX, pY, ?_, ?_⟩
  · rw [pX]
    refine Tm.err_applied (Terms.of hss) eX ?_
    rw [← pX]
    show (Tm.plainTo [] X X.length).length ≤ 30
    rw [Tm.plainTo_length]
    exact Tm.err_len eX
  · rw [pY]
    refine Tm.err_applied (Terms.of hss) eY ?_
    rw [← pY]
    show (Tm.plainTo (Tm.seenFrom [] X) Y Y.length).length ≤ 30
    rw [Tm.plainTo_length]
    exact Tm.err_len eY
def Tm.othL : List (List Int) := [[-5], [-6], [-7], [-8], [-1], [-1], [-1], [-1]]
theorem Tm.others_applied : ∀ (t : List Int), (∀ s ∈ t, -4 ≤ s ∧ s < 6) → Tm.others t = Tm.applied Tm.othL t := by
  intro t
  induction t with
  | nil => intro _; rfl
  | cons s l ih =>
    intro h
    rw [Tm.applied_cons, ← ih (fun x hx => h x (by simp [hx]))]
    have hs := h s (by simp)
    have : Tm.piece Tm.othL s = [Tm.oth s] := by
      have : s = -4 ∨ s = -3 ∨ s = -2 ∨ s = -1 ∨ 0 ≤ s := by omega
      rcases this with rfl | rfl | rfl | rfl | h0
      · decide
      · decide
      · decide
      · decide
      · unfold Tm.piece Tm.oth
        rw [if_neg (by omega), if_neg (by omega)]
    rw [this]
    rfl
theorem Tm.othL_err : Tm.subErr Tm.othL = 0 := by decide +kernel
end Go.Proofs.Ytgeknojpcjadkaa
namespace Go.Proofs.Ytgeknojpcjadkaa
open Go.Proofs Go.RowKit Go.Shelf Go.Maps
def Ordered (B : List Int) : Prop := ∃ nx : Nat → Int, nx 0 = -1 ∧ ∀ n, n < B.length → ¬ B[n]?.getD 0 < nx n ∧ nx (n + 1) = (if B[n]?.getD 0 = nx n then nx n - 1 else nx n) ∧ -100000 ≤ nx n
theorem Sn.both (X Y : List Int) : Tm.plain X ++ Tm.plain2 X Y = Tm.plainTo [] (X ++ Y) (X ++ Y).length := by
  obtain ⟨r, hr⟩ := Sn.seen_pre Y (Tm.seenFrom [] X)
  have h1 := Sn.plain_map X [] r
  have h2 := Sn.plain_map Y (Tm.seenFrom [] X) []
  have h3 := Sn.plain_map (X ++ Y) [] []
  rw [← hr] at h1
  rw [List.append_nil] at h2 h3
  rw [Sn.seen_app] at h3
  show Tm.plainTo [] X X.length ++ Tm.plainTo (Tm.seenFrom [] X) Y Y.length = _
  rw [h1, h2, h3, List.map_append]
theorem Sn.step (S : List Int) (s : Int) (h : S.length ≤ 1000) : ¬ Tm.name S s < -1 - (S.length : Int) ∧ -1 - ((Tm.see S s).length : Int) = (if Tm.name S s = -1 - (S.length : Int) then -1 - (S.length : Int) - 1 else -1 - (S.length : Int)) ∧ -100000 ≤ -1 - (S.length : Int) := by
  rcases Sn.see_cases S s with ⟨h0, e⟩ | ⟨hs, hc, e⟩ | ⟨hs, hc, e⟩
  · have hn : Tm.name S s = s := by unfold Tm.name; rw [if_neg (by omega)]
    rw [hn, e]
    refine ⟨by omega, by rw [if_neg (by omega)], by omega⟩
  · have hn : Tm.name S s = -1 - (Tm.idx S s : Int) := by unfold Tm.name; rw [if_pos hs]
    have := Sn.idx_lt hc
    rw [hn, e]
    refine ⟨by omega, by rw [if_neg (by omega)], by omega⟩
  · have hn : Tm.name S s = -1 - (S.length : Int) := by unfold Tm.name; rw [if_pos hs, Tm.idx_new hc]
    rw [hn, e, List.length_append]
    refine ⟨by omega, by rw [if_pos rfl]; simp; omega, by omega⟩
theorem Tm.plain_ordered (X Y : List Int) (h : (X ++ Y).length ≤ 1000) : Ordered (Tm.plain X ++ Tm.plain2 X Y) := by
  rw [Sn.both]
  generalize X ++ Y = Z at *
  refine ⟨fun n => -1 - ((Tm.seenFrom [] (Z.take n)).length : Int), by simp [Tm.seenFrom], fun n hn => ?_⟩
  rw [Tm.plainTo_length] at hn
  have hb : (Tm.plainTo [] Z Z.length)[n]?.getD 0 = Tm.name (Tm.seenFrom [] (Z.take n)) (Z[n]?.getD 0) := by simp [Tm.plainTo, hn]
  have hle := Tm.seen_len (Z.take n) []
  dsimp only
  rw [hb, Tm.seen_succ [] hn]
  simp only [List.length_take, List.length_nil] at hle
  exact Sn.step _ _ (by omega)
def PairGood (L1 R1 L2 R2 : List Int) (x : List Int × List Int) : Prop := Tm.err x.1 = 0 ∧ Tm.err x.2 = 0 ∧ Ordered (x.1 ++ x.2) ∧ ∀ A : Int → Nat → Nat → Nat, (∀ s x y, A s x y < 3) → Tm.Holds A L1 R1 → Tm.Holds A L2 R2 → Tm.Holds A x.1 x.2
theorem Tm.prt_good {L1 R1 L2 R2 : List Int} {m : Nat} {val : List (List Int)} (hm : m < L1.length) (eL : Tm.err L1 = 0) (eR : Tm.err R1 = 0) (eL2 : Tm.err L2 = 0) (eR2 : Tm.err R2 = 0) (fL : ∀ s ∈ L2, -4 ≤ s ∧ s < 6) (fR : ∀ s ∈ R2, -4 ≤ s ∧ s < 6)
    (hs : Tm.MeetSays [(Tm.part L1 m, Tm.others L2)] 0 true val) (he : Tm.prtErr val L1 R1 (m : Int) (Tm.others R2) = 0) : PairGood L1 R1 L2 R2 (Tm.prtVal val L1 R1 (m : Int) (Tm.others R2)) := by
  obtain ⟨hsub, ep, eo, happ, _⟩ := Tm.meet_true hs
  have hv : Tm.prtVal val L1 R1 (m : Int) (Tm.others R2) = (Tm.plain (Tm.applyVal val (Tm.putVal L1 (m : Int) (Tm.others R2))), Tm.plain2 (Tm.applyVal val (Tm.putVal L1 (m : Int) (Tm.others R2))) (Tm.applyVal val R1)) := by unfold Tm.prtVal; rw [if_pos he]
  have hput : Tm.putErr L1 (m : Int) (Tm.others R2) = 0 := by
    by_cases h : Tm.putErr L1 (m : Int) (Tm.others R2) = 0
    · exact h
    · unfold Tm.prtErr at he; rw [if_neg h] at he; exact absurd he h
  have hX : Tm.applyErr val (Tm.putVal L1 (m : Int) (Tm.others R2)) = 0 := by
    by_cases h : Tm.applyErr val (Tm.putVal L1 (m : Int) (Tm.others R2)) = 0
    · exact h
    · unfold Tm.prtErr at he; rw [if_pos hput, if_neg h] at he; exact absurd he h
  have hY : Tm.applyErr val R1 = 0 := by unfold Tm.prtErr at he; rw [if_pos hput, if_pos hX] at he; exact he
  have hpv : Tm.putVal L1 (m : Int) (Tm.others R2) = Tm.put L1 m (Tm.others R2) := by unfold Tm.putVal; rw [if_pos hput]; rfl
  have eo2 : Tm.err (Tm.others R2) = 0 := by
    by_cases h : Tm.err (Tm.others R2) = 0
    · exact h
    · unfold Tm.putErr at hput; rw [if_pos eL, if_neg h] at hput; exact absurd hput h
  obtain ⟨_, eput, lX, vX⟩ := Tm.apply_zero hX
  obtain ⟨_, _, lY, vY⟩ := Tm.apply_zero hY
  have eX := Tm.applyVal_err hX
  have eY := Tm.applyVal_err hY
  rw [hv]
  obtain ⟨ss, hss, pX, pY, e1, e2⟩ := Tm.plain_ren eX eY
  refine ⟨e1, e2, Tm.plain_ordered _ _ (by rw [List.length_append]; have := Tm.err_len eX; have := Tm.err_len eY; omega), fun A hA h1 h2 vs hvs => ?_⟩
  have T := Terms.of hss
  have U := Terms.of hsub
  have O := Terms.of Tm.othL_err
  show Tm.val A vs (Tm.plain _) = Tm.val A vs (Tm.plain2 _ _)
  rw [pX, pY, Tm.val_applied T _ _ (Nat.lt_succ_self _) eX, Tm.val_applied T _ _ (Nat.lt_succ_self _) eY, vX, vY, hpv]
  rw [hpv] at eput
  generalize hus : (fun i : Nat => Tm.val A vs (ss[i]?.getD [])) = us
  have husl : ∀ i, us i < 3 := fun i => by rw [← hus]; exact Tm.val_lt hA hvs _
  rw [Tm.val_applied U _ _ (Nat.lt_succ_self _) eput, Tm.val_applied U _ _ (Nat.lt_succ_self _) eR]
  have hq : Tm.val A us (Tm.applied val (Tm.part L1 m)) = Tm.val A us (Tm.applied val (Tm.others L2)) := by rw [happ]
  rw [Tm.val_applied U _ _ (Nat.lt_succ_self _) ep, Tm.val_applied U _ _ (Nat.lt_succ_self _) eo] at hq
  generalize hts : (fun i : Nat => Tm.val A us (val[i]?.getD [])) = ts at *
  have htsl : ∀ i, ts i < 3 := fun i => by rw [← hts]; exact Tm.val_lt hA husl _
  have hr : Tm.val A ts (Tm.others R2) = Tm.val A ts (Tm.part L1 m) := by
    rw [hq, Tm.others_applied R2 fR, Tm.others_applied L2 fL, Tm.val_applied O _ _ (Nat.lt_succ_self _) eR2, Tm.val_applied O _ _ (Nat.lt_succ_self _) eL2]
    exact (h2 _ (fun i => Tm.val_lt hA htsl _)).symm
  have h3 := Tm.val_put hr eo2 ep _ L1 m (Nat.lt_succ_self _) eL hm
  rw [Tm.put_self] at h3
  rw [h3]
  exact h1 ts htsl
theorem Tm.rule_vars {L R : List Int} (h : Tm.ruleErr L R = 0) : (∀ s ∈ L, -4 ≤ s ∧ s < 6) ∧ (∀ s ∈ R, -4 ≤ s ∧ s < 6) := by
  obtain ⟨eL, eR, fL, fR, _⟩ := Tm.ruleErr_ok h
  have kL := Tm.err_all eL
  have kR := Tm.err_all eR
  rw [List.all_eq_true] at kL kR
  rw [List.any_eq_false] at fL fR
  refine ⟨fun s hs => ⟨?_, Tm.known_lt (kL s hs)⟩, fun s hs => ⟨?_, Tm.known_lt (kR s hs)⟩⟩
  · have := fL s hs
    simp [foreignB] at this
    omega
  · have := fR s hs
    simp [foreignB] at this
    omega
theorem Tm.Laps.good {L1 R1 L2 R2 : List Int} {pass : Nat → Bool} (h1 : Tm.ruleErr L1 R1 = 0) (h2 : Tm.ruleErr L2 R2 = 0) {m : Nat} {l : PairL} (h : Tm.Laps L1 R1 (Tm.others L2) (Tm.others R2) pass m l) : m ≤ L1.length → ∀ x ∈ l, PairGood L1 R1 L2 R2 x := by
  induction h with
  | zero => intro _ x hx; simp at hx
  | pass _ _ ih => intro hm; exact ih (by omega)
  | no _ _ _ ih => intro hm; exact ih (by omega)
  | yes _ _ hs he ih =>
    intro hm x hx
    rcases List.mem_append.1 hx with hx | hx
    · exact ih (by omega) x hx
    · simp at hx
      subst hx
      obtain ⟨eL, eR, _⟩ := Tm.ruleErr_ok h1
      obtain ⟨eL2, eR2, _⟩ := Tm.ruleErr_ok h2
      obtain ⟨fL, fR⟩ := Tm.rule_vars h2
      exact Tm.prt_good (by omega) eL eR eL2 eR2 fL fR hs he
end Go.Proofs.Ytgeknojpcjadkaa
namespace Go.Proofs.Ytgeknojpcjadkaa
open Go.Proofs Go.RowKit Go.Shelf Go.Maps
namespace Mt
open Wb (App TermSb Same Sb App_cons App_flatten)
structure Gph (n : Nat) (S : Nat → Int) (K : Nat → List Nat) (Z : Nat → List Int) : Prop where
  known : ∀ k, k < n → -8 ≤ S k ∧ S k < 6
  room : ∀ k, k < n → (K k).length = Tm.room (S k)
  kids : ∀ k, k < n → ∀ i ∈ K k, i < n
  sign : ∀ k, k < n → Z k = S k :: ((K k).map Z).flatten
  vars : ∀ i j, i < n → j < n → S i < 0 → S i = S j → i = j
theorem mem_len {l : List (List Int)} {x : List Int} (h : x ∈ l) : x.length ≤ l.flatten.length := by
  induction l with
  | nil => simp at h
  | cons y l ih =>
    rw [List.flatten_cons, List.length_append]
    rcases List.mem_cons.1 h with e | h
    · subst e; omega
    · have := ih h; omega
theorem Gph.kid_len {n : Nat} {S : Nat → Int} {K : Nat → List Nat} {Z : Nat → List Int} (G : Gph n S K Z) {k i : Nat} (hk : k < n) (hi : i ∈ K k) : (Z i).length < (Z k).length := by
  rw [G.sign k hk, List.length_cons]
  have := mem_len (List.mem_map_of_mem (f := Z) hi)
  omega
theorem run_kids {l : List (List Int)} (h : ∀ x ∈ l, Tm.run x 1 = x.length) : Tm.run l.flatten l.length = l.flatten.length :=
  Tm.run_flatten l fun j hj => by
    rw [List.getElem?_eq_getElem hj]
    exact h _ (List.getElem_mem hj)
theorem Gph.run {n : Nat} {S : Nat → Int} {K : Nat → List Nat} {Z : Nat → List Int} (G : Gph n S K Z) : ∀ (m k : Nat), (Z k).length ≤ m → k < n → Tm.run (Z k) 1 = (Z k).length := by
  intro m
  induction m with
  | zero => intro k h hk; rw [G.sign k hk, List.length_cons] at h; omega
  | succ m ih =>
    intro k h hk
    have e := G.sign k hk
    have hr : Tm.run ((K k).map Z).flatten ((K k).map Z).length = ((K k).map Z).flatten.length := run_kids fun x hx => by
      obtain ⟨i, hi, rfl⟩ := List.mem_map.1 hx
      exact ih i (by have := G.kid_len hk hi; omega) (G.kids k hk i hi)
    rw [List.length_map, G.room k hk] at hr
    rw [e, show (1 : Nat) = 0 + 1 from rfl, Tm.run_cons, Nat.zero_add, hr, List.length_cons]
    omega
theorem Gph.app {n : Nat} {S : Nat → Int} {K : Nat → List Nat} {Z : Nat → List Int} (G : Gph n S K Z) (θ : Sb) {k : Nat} (hk : k < n) (hs : 0 ≤ S k) : App θ (Z k) = S k :: ((K k).map fun i => App θ (Z i)).flatten := by
  rw [G.sign k hk, App_cons, if_neg (by omega), App_flatten, List.map_map]
  rfl
theorem Gph.var {n : Nat} {S : Nat → Int} {K : Nat → List Nat} {Z : Nat → List Int} (G : Gph n S K Z) {k : Nat} (hk : k < n) (hs : S k < 0) : K k = [] ∧ Z k = [S k] := by
  have h := G.room k hk
  rw [Wb.room_var hs] at h
  have e := List.eq_nil_of_length_eq_zero h
  exact ⟨e, by rw [G.sign k hk, e]; rfl⟩
theorem Gph.eq {n : Nat} {S : Nat → Int} {K : Nat → List Nat} {Z : Nat → List Int} (G : Gph n S K Z) {θ : Sb} (hθ : TermSb θ) {p q : Nat} (hp : p < n) (hq : q < n) (sp : 0 ≤ S p) (sq : 0 ≤ S q) (h : App θ (Z p) = App θ (Z q)) :
    S p = S q ∧ ∀ i, i < Tm.room (S p) → App θ (Z ((K p)[i]?.getD 0)) = App θ (Z ((K q)[i]?.getD 0)) := by
  rw [G.app θ hp sp, G.app θ hq sq] at h
  obtain ⟨e, h2⟩ := List.cons.inj h
  have hrun : ∀ r, r < n → ∀ x ∈ (K r).map (fun k => App θ (Z k)), Tm.run x 1 = x.length := fun r hr x hx => by
    obtain ⟨i, hi, rfl⟩ := List.mem_map.1 hx
    exact Wb.App_run hθ _ 1 (G.run _ i (Nat.le_refl _) (G.kids r hr i hi))
  have h3 := Wb.flatten_inj _ _ (hrun p hp) (hrun q hq) (by rw [List.length_map, List.length_map, G.room p hp, G.room q hq, e]) h2
  refine ⟨e, fun i hi => ?_⟩
  have h4 := congrArg (fun l : List (List Int) => l[i]?.getD []) h3
  simp only [List.getElem?_map] at h4
  have l1 : i < (K p).length := by rw [G.room p hp]; exact hi
  have l2 : i < (K q).length := by rw [G.room q hq, ← e]; exact hi
  rw [List.getElem?_eq_getElem l1, List.getElem?_eq_getElem l2] at h4 ⊢
  exact h4
def Resp (n : Nat) (Z : Nat → List Int) (C : Nat → Nat) (θ : Sb) : Prop := ∀ i j, i < n → j < n → C i = C j → App θ (Z i) = App θ (Z j)
def tied (C : Nat → Nat) (a b : Nat) : Nat → Nat := fun k => if C k = C a then C b else C k
def cls (n : Nat) (C : Nat → Nat) : Nat := ((List.range n).filter fun c => (List.range n).any fun k => C k == c).length
def Shut (S : Nat → Int) (K : Nat → List Nat) (C : Nat → Nat) (a b : Nat) : Prop := C a = C b → 0 ≤ S a → 0 ≤ S b → S a = S b ∧ ∀ i, i < Tm.room (S a) → C ((K a)[i]?.getD 0) = C ((K b)[i]?.getD 0)
def sym (n : Nat) (S : Nat → Int) (C : Nat → Nat) (c : Nat) : Option Nat := (List.range n).find? fun k => decide (C k = c) && decide (0 ≤ S k)
end Mt
end Go.Proofs.Ytgeknojpcjadkaa
namespace Go.Proofs.Ytgeknojpcjadkaa
open Go.Proofs Go.RowKit Go.Shelf Go.Maps
def Fnd (n : Nat) (N : Nat → Nat) (S : Nat → Int) (p j : Nat) : Prop := j < n ∧ (S j < 0 → ∀ k, k < j → S k ≠ S j) ∧ (0 ≤ S j → N j = p ∧ ∀ k, k < j → N k ≠ p)
structure Ties (W : World) (x n : Nat) (aN : Option Addr) (cN : Nat) (aC : Option Addr) (cC : Nat) (N : Nat → Nat) (C : Nat → Nat) (S : Nat → Int) (K : Nat → List Nat) (P : Nat → Nat → Nat) : Prop where
  c0 : W.cell? ⟨x, 0, none⟩ = some (.slice aN n cN)
  c1 : W.cell? ⟨x, 1, none⟩ = some (.slice aC n cC)
  nd : ∀ k, k < n → ∃ b off, aN = some ⟨b, off, none⟩ ∧ W.cell? ⟨b, off + k, none⟩ = some (ptr (N k))
  cl : ∀ k, k < n → ∃ b off, aC = some ⟨b, off, none⟩ ∧ W.cell? ⟨b, off + k, none⟩ = some (.int .i64 (C k : Int))
  tr : ∀ k, k < n → ∃ a c, Node W (N k) (S k) (.slice a (Tm.room (S k)) c) ∧ ∀ i, i < Tm.room (S k) → ∃ b off, a = some ⟨b, off, none⟩ ∧ W.cell? ⟨b, off + i, none⟩ = some (ptr (P k i))
  ps : ∀ k i, k < n → i < Tm.room (S k) → ∃ v, Node W (P k i) (S ((K k)[i]?.getD 0)) v
  fd : ∀ k i, k < n → i < Tm.room (S k) → Fnd n N S (P k i) ((K k)[i]?.getD 0)
  le : n ≤ 5000
theorem Ties.drewN {W : World} {x n : Nat} {aN : Option Addr} {cN : Nat} {aC : Option Addr} {cC : Nat} {N : Nat → Nat} {C : Nat → Nat} {S : Nat → Int} {K : Nat → List Nat} {P : Nat → Nat → Nat} (h : Ties W x n aN cN aC cC N C S K P) (d : Nat) : Ties (W.drewN d) x n aN cN aC cC N C S K P :=
  ⟨h.c0, h.c1, h.nd, h.cl, h.tr, h.ps, h.fd, h.le⟩
namespace Mt
end Mt
end Go.Proofs.Ytgeknojpcjadkaa
namespace Go.Proofs.Ytgeknojpcjadkaa
open Go.Proofs Go.RowKit Go.Shelf Go.Maps
theorem Node.heap {W W' : World} {X : Nat} {s : Int} {v : Value} (h : Node W X s v) (e : W'.heap = W.heap) : Node W' X s v := by unfold Node; rw [e]; exact h
theorem Ties.keep {W W' : World} {x n : Nat} {aN : Option Addr} {cN : Nat} {aC : Option Addr} {cC : Nat} {N : Nat → Nat} {C : Nat → Nat} {S : Nat → Int} {K : Nat → List Nat} {P : Nat → Nat → Nat} (h : Ties W x n aN cN aC cC N C S K P) (hk : ∀ k, k < W.heap.size → W'.heap[k]? = W.heap[k]?) : Ties W' x n aN cN aC cC N C S K P := by
  have hc : ∀ (p : Addr) v, W.cell? p = some v → W'.cell? p = some v := fun p v hv => by
    have hlt : p.block < W.heap.size := lt_of_cell hv
    rw [World.cell?_of_block (hk p.block hlt), hv]
  refine ⟨hc _ _ h.c0, hc _ _ h.c1, fun k hk' => ?_, fun k hk' => ?_, fun k hk' => ?_, fun k i hk' hi => ?_, h.fd, h.le⟩
  · obtain ⟨b, off, e, h1⟩ := h.nd k hk'; exact ⟨b, off, e, hc _ _ h1⟩
  · obtain ⟨b, off, e, h1⟩ := h.cl k hk'; exact ⟨b, off, e, hc _ _ h1⟩
  · obtain ⟨a, c, h1, h2⟩ := h.tr k hk'
    exact ⟨a, c, (hk _ h1.lt).trans h1, fun i hi => by obtain ⟨b, off, e, h3⟩ := h2 i hi; exact ⟨b, off, e, hc _ _ h3⟩⟩
  · obtain ⟨v, h1⟩ := h.ps k i hk' hi; exact ⟨v, (hk _ h1.lt).trans h1⟩
theorem Ties.heap {W W' : World} {x n : Nat} {aN : Option Addr} {cN : Nat} {aC : Option Addr} {cC : Nat} {N : Nat → Nat} {C : Nat → Nat} {S : Nat → Int} {K : Nat → List Nat} {P : Nat → Nat → Nat} (h : Ties W x n aN cN aC cC N C S K P) (e : W'.heap = W.heap) : Ties W' x n aN cN aC cC N C S K P := h.keep fun k _ => by rw [e]
theorem Ties.below {W W' : World} {x n : Nat} {aN : Option Addr} {cN : Nat} {aC : Option Addr} {cC : Nat} {N : Nat → Nat} {C : Nat → Nat} {S : Nat → Int} {K : Nat → List Nat} {P : Nat → Nat → Nat} (h : Ties W x n aN cN aC cC N C S K P) (hB : Below W.heap.size W W') : Ties W' x n aN cN aC cC N C S K P := h.keep hB.block
attribute [local go_sem ↓] Go.wp_at_zero Go.wp_at_succ
namespace Mt
end Mt
end Go.Proofs.Ytgeknojpcjadkaa
namespace Go.Proofs.Ytgeknojpcjadkaa
open Go.Proofs Go.RowKit Go.Shelf Go.Maps
namespace Mt
def clL (n : Nat) (C : Nat → Nat) : List Int := (List.range n).map fun k => (C k : Int)
theorem clL_length (n : Nat) (C : Nat → Nat) : (clL n C).length = n := by simp [clL]
theorem clL_at {n : Nat} (C : Nat → Nat) {k : Nat} (h : k < n) : (clL n C)[k]?.getD 0 = (C k : Int) := by simp [clL, h]
end Mt
def TiesO (W : World) (x n : Nat) (aN : Option Addr) (cN g cC : Nat) (N : Nat → Nat) (C : Nat → Nat) (S : Nat → Int) (K : Nat → List Nat) (P : Nat → Nat → Nat) : Prop :=
  g < W.heap.size ∧ (∀ W', Keep W.heap.size g W W' → ∀ C', (∀ k, k < n → W'.cell? ⟨g, k, none⟩ = some (.int .i64 (C' k : Int))) → Ties W' x n aN cN (some ⟨g, 0, none⟩) cC N C' S K P) ∧ New 0 W (.slice (some ⟨g, 0, none⟩) n cC) (Mt.clL n C)
theorem New.atG {base : Nat} {W : World} {g n c : Nat} {zs : List Int} (h : New base W (.slice (some ⟨g, 0, none⟩) n c) zs) (hn : n = zs.length) : (∀ j, j < n → W.cell? ⟨g, j, none⟩ = some (.int .i64 (zs[j]?.getD 0))) ∧ ∀ j, W.frozen? ⟨g, j, none⟩ = false := by
  by_cases h0 : 0 < zs.length
  · obtain ⟨g', c', e, h1, h2⟩ := New.at0 h h0
    cases e
    exact ⟨fun j hj => h1 j (by omega), h2⟩
  · refine ⟨fun j hj => by omega, fun j => ?_⟩
    rcases h.2 with ⟨e, _⟩ | ⟨g', c', cur, e, _, hg, _⟩
    · cases e
    · cases e
      simp [World.frozen?, hg]
theorem TiesO.ties {W : World} {x n : Nat} {aN : Option Addr} {cN g cC : Nat} {N : Nat → Nat} {C : Nat → Nat} {S : Nat → Int} {K : Nat → List Nat} {P : Nat → Nat → Nat} (h : TiesO W x n aN cN g cC N C S K P) : Ties W x n aN cN (some ⟨g, 0, none⟩) cC N C S K P := by
  obtain ⟨_, h1, h2⟩ := h
  refine h1 W (Keep.refl _ _ _) C fun k hk => ?_
  rw [(New.atG h2 (Mt.clL_length n C).symm).1 k hk, Mt.clL_at C hk]
theorem TiesO.keep {W W' : World} {x n : Nat} {aN : Option Addr} {cN g cC : Nat} {N : Nat → Nat} {C C' : Nat → Nat} {S : Nat → Int} {K : Nat → List Nat} {P : Nat → Nat → Nat} (h : TiesO W x n aN cN g cC N C S K P) (hK : Keep W.heap.size g W W') (hN : New 0 W' (.slice (some ⟨g, 0, none⟩) n cC) (Mt.clL n C')) : TiesO W' x n aN cN g cC N C' S K P :=
  ⟨by have := h.1; have := hK.size; omega, fun W2 hK2 C2 hC2 => h.2.1 W2 (hK.trans (hK2.mono hK.size)) C2 hC2, hN⟩
end Go.Proofs.Ytgeknojpcjadkaa
namespace Go.Proofs.Ytgeknojpcjadkaa
open Go.Proofs Go.RowKit Go.Shelf Go.Maps
namespace Mt
open Wb (App TermSb Same Sb)
structure CInv (n : Nat) (Z : Nat → List Int) (C0 C1 : Nat → Nat) (ag : Bool) (C : Nat → Nat) : Prop where
  lt : ∀ k, k < n → C k < n
  coarse : ∀ i j, i < n → j < n → C0 i = C0 j → C i = C j
  sound : ∀ θ, TermSb θ → Resp n Z C0 θ → Resp n Z C θ
  same : ag = false → C = C1
  less : ag = true → cls n C < cls n C1
theorem CInv.le {n : Nat} {Z : Nat → List Int} {C0 C1 : Nat → Nat} {ag : Bool} {C : Nat → Nat} (H : CInv n Z C0 C1 ag C) : cls n C ≤ cls n C1 := by
  cases ag with
  | false => rw [H.same rfl]; exact Nat.le_refl _
  | true => have := H.less rfl; omega
theorem CInv.start {n : Nat} (Z : Nat → List Int) {C : Nat → Nat} (h : ∀ k, k < n → C k < n) : CInv n Z C C false C := ⟨h, fun _ _ _ _ e => e, fun _ _ R => R, fun _ => rfl, fun h => by cases h⟩
theorem CInv.parts {n : Nat} {S : Nat → Int} {K : Nat → List Nat} {Z : Nat → List Int} (G : Gph n S K Z) {C0 C1 : Nat → Nat} {ag : Bool} {C : Nat → Nat} (H : CInv n Z C0 C1 ag C) {a b : Nat} (ha : a < n) (hb : b < n) (sa : 0 ≤ S a) (sb : 0 ≤ S b) (e : C a = C b) : ∀ θ, TermSb θ → Resp n Z C0 θ → S a = S b ∧ ∀ i, i < Tm.room (S a) → App θ (Z ((K a)[i]?.getD 0)) = App θ (Z ((K b)[i]?.getD 0)) :=
  fun θ hθ R => G.eq hθ ha hb sa sb (H.sound θ hθ R a b ha hb e)
def rdC (g : Nat) (W : World) (k : Nat) : Nat := match W.cell? ⟨g, k, none⟩ with
  | some (.int _ z) => z.toNat
  | _ => 0
def left (n g : Nat) (v : Value) (W : World) : Nat := 2 * cls n (rdC g W) + (match v with | .bool true => 1 | _ => 0)
end Mt
theorem TiesO.drewN {W : World} {x n : Nat} {aN : Option Addr} {cN g cC : Nat} {N : Nat → Nat} {C : Nat → Nat} {S : Nat → Int} {K : Nat → List Nat} {P : Nat → Nat → Nat} (h : TiesO W x n aN cN g cC N C S K P) (d : Nat) : TiesO (W.drewN d) x n aN cN g cC N C S K P := h.keep (keep_drewN (Keep.refl _ _ _) d) (h.2.2.drewN d)
theorem Mt.Shut.symm {S : Nat → Int} {K : Nat → List Nat} {C : Nat → Nat} {a b : Nat} (h : Mt.Shut S K C a b) : Mt.Shut S K C b a := fun e h1 h2 => by
  obtain ⟨e1, e2⟩ := h e.symm h2 h1
  exact ⟨e1.symm, fun i hi => (e2 i (by rw [e1]; exact hi)).symm⟩
theorem Mt.Shut.all {n : Nat} {S : Nat → Int} {K : Nat → List Nat} {C : Nat → Nat} (h : ∀ a b, a < n → b < a → Mt.Shut S K C a b) : ∀ a b, a < n → b < n → Mt.Shut S K C a b := fun a b ha hb => by
  rcases Nat.lt_trichotomy b a with h1 | rfl | h1
  · exact h a b ha h1
  · exact fun _ _ _ => ⟨rfl, fun _ _ => rfl⟩
  · exact (h b a hb h1).symm
end Go.Proofs.Ytgeknojpcjadkaa
namespace Go.Proofs.Ytgeknojpcjadkaa
open Go.Proofs Go.RowKit Go.Shelf Go.Maps
structure Nd where
  X : Nat
  s : Int
  Xs : List Nat
  zss : List (List Int)
def Nd.z (d : Nd) : List Int := d.s :: d.zss.flatten
def nd0 : Nd := ⟨0, 0, [], []⟩
abbrev ndAt (L : List Nd) (k : Nat) : Nd := L[k]?.getD nd0
def hd0 (z : List Int) : Int := z[0]?.getD 0
theorem Nd.hd (d : Nd) : hd0 d.z = d.s := rfl
def FndL (L : List Nd) (p : Nat) (z : List Int) (i : Nat) : Prop := i < L.length ∧ (ndAt L i).z = z ∧ (hd0 z < 0 → ∀ k, k < i → (ndAt L k).s ≠ hd0 z) ∧ (0 ≤ hd0 z → (ndAt L i).X = p ∧ ∀ k, k < i → (ndAt L k).X ≠ p)
def FullL (L : List Nd) (d : Nd) : Prop := ∀ j, j < d.Xs.length → ∃ i, FndL L (d.Xs[j]?.getD 0) (d.zss[j]?.getD []) i
def OneL (L : List Nd) : Prop := ∀ i j, i < L.length → j < L.length → (ndAt L i).s < 0 → (ndAt L i).s = (ndAt L j).s → i = j
theorem ndAt_app {L : List Nd} (M : List Nd) {k : Nat} (h : k < L.length) : ndAt (L ++ M) k = ndAt L k := by unfold ndAt; rw [List.getElem?_append_left h]
theorem ndAt_last (L : List Nd) (d : Nd) : ndAt (L ++ [d]) L.length = d := by unfold ndAt; simp
theorem ndAt_mem {L : List Nd} {k : Nat} (h : k < L.length) : ndAt L k ∈ L := by unfold ndAt; rw [List.getElem?_eq_getElem h]; exact List.getElem_mem h
theorem FndL.app {L : List Nd} {p : Nat} {z : List Int} {i : Nat} (h : FndL L p z i) (M : List Nd) : FndL (L ++ M) p z i := by
  obtain ⟨h1, h2, h3, h4⟩ := h
  refine ⟨by rw [List.length_append]; omega, by rw [ndAt_app M h1]; exact h2, fun hs k hk => by rw [ndAt_app M (by omega)]; exact h3 hs k hk, fun hs => ?_⟩
  obtain ⟨h5, h6⟩ := h4 hs
  exact ⟨by rw [ndAt_app M h1]; exact h5, fun k hk => by rw [ndAt_app M (by omega)]; exact h6 k hk⟩
theorem FullL.app {L : List Nd} {d : Nd} (h : FullL L d) (M : List Nd) : FullL (L ++ M) d := fun j hj => by
  obtain ⟨i, hi⟩ := h j hj
  exact ⟨i, hi.app M⟩
theorem OneL.snoc {L : List Nd} (h : OneL L) {d : Nd} (hd : d.s < 0 → ∀ k, k < L.length → (ndAt L k).s ≠ d.s) : OneL (L ++ [d]) := fun i j hi hj hs e => by
  rw [List.length_append, List.length_singleton] at hi hj
  by_cases h1 : i < L.length
  · rw [ndAt_app _ h1] at hs e
    by_cases h2 : j < L.length
    · rw [ndAt_app _ h2] at e
      exact h i j h1 h2 hs e
    · obtain rfl : j = L.length := by omega
      rw [ndAt_last] at e
      exact absurd e (hd (by omega) i h1)
  · obtain rfl : i = L.length := by omega
    rw [ndAt_last] at hs e
    by_cases h2 : j < L.length
    · rw [ndAt_app _ h2] at e
      exact absurd e.symm (hd hs j h2)
    · omega
def Far (vN vC : Value) (lo hi : Nat) : Prop := ∀ q, (vN.ownBlock = some q ∨ vC.ownBlock = some q) → q < lo ∨ hi ≤ q
def NdAt (W : World) (x : Nat) (vN vC : Value) (d : Nd) : Prop := ∃ lo hi v, x < lo ∧ hi ≤ W.heap.size ∧ Far vN vC lo hi ∧ lo ≤ d.X ∧ d.X < hi ∧ Node W d.X d.s v ∧ PartsAt lo hi W v d.Xs ∧ d.Xs.length = Tm.room d.s ∧ d.zss.length = d.Xs.length ∧ (∀ s ∈ d.z, -8 ≤ s ∧ s < 6) ∧ ∀ j, j < d.Xs.length → TreeIn lo hi W (d.Xs[j]?.getD 0) (d.zss[j]?.getD [])
structure WK (W W' : World) (x : Nat) (vN vC vN' vC' : Value) : Prop where
  os : W'.os = W.os
  tape : W'.tape = W.tape
  output : W'.output = W.output
  size : W.heap.size ≤ W'.heap.size
  block : ∀ k, k < W.heap.size → k ≠ x → some k ≠ vN.ownBlock → some k ≠ vC.ownBlock → W'.heap[k]? = W.heap[k]?
  ownN : ∀ k, vN'.ownBlock = some k → vN.ownBlock = some k ∨ W.heap.size ≤ k
  ownC : ∀ k, vC'.ownBlock = some k → vC.ownBlock = some k ∨ W.heap.size ≤ k
theorem WK.refl (W : World) (x : Nat) (vN vC : Value) : WK W W x vN vC vN vC := ⟨rfl, rfl, rfl, Nat.le_refl _, fun _ _ _ _ _ => rfl, fun _ h => .inl h, fun _ h => .inl h⟩
theorem WK.drewN {W W' : World} {x : Nat} {vN vC vN' vC' : Value} (h : WK W W' x vN vC vN' vC') (d : Nat) : WK W (W'.drewN d) x vN vC vN' vC' := ⟨h.os, h.tape, h.output, h.size, h.block, h.ownN, h.ownC⟩
theorem WK.trans {W1 W2 W3 : World} {x : Nat} {vN1 vC1 vN2 vC2 vN3 vC3 : Value} (h : WK W1 W2 x vN1 vC1 vN2 vC2) (k : WK W2 W3 x vN2 vC2 vN3 vC3) : WK W1 W3 x vN1 vC1 vN3 vC3 := by
  refine ⟨k.os.trans h.os, k.tape.trans h.tape, k.output.trans h.output, Nat.le_trans h.size k.size, fun q hq h1 h2 h3 => ?_, fun q hq => ?_, fun q hq => ?_⟩
  · have e1 := h.block q hq h1 h2 h3
    refine (k.block q (by have := h.size; omega) h1 (fun e => ?_) (fun e => ?_)).trans e1
    · rcases h.ownN q e.symm with e2 | e2
      · exact h2 e2.symm
      · omega
    · rcases h.ownC q e.symm with e2 | e2
      · exact h3 e2.symm
      · omega
  · rcases k.ownN q hq with e | e
    · exact h.ownN q e
    · have := h.size; exact .inr (by omega)
  · rcases k.ownC q hq with e | e
    · exact h.ownC q e
    · have := h.size; exact .inr (by omega)
theorem WK.far {W W' : World} {x : Nat} {vN vC vN' vC' : Value} (h : WK W W' x vN vC vN' vC') {lo hi : Nat} (hF : Far vN vC lo hi) (hh : hi ≤ W.heap.size) : Far vN' vC' lo hi := fun q hq => by
  rcases hq with e | e
  · rcases h.ownN q e with e | e
    · exact hF q (.inl e)
    · exact .inr (by omega)
  · rcases h.ownC q e with e | e
    · exact hF q (.inr e)
    · exact .inr (by omega)
theorem WK.keeps {W W' : World} {x : Nat} {vN vC vN' vC' : Value} (h : WK W W' x vN vC vN' vC') {lo hi : Nat} (hF : Far vN vC lo hi) (hx : x < lo) (hh : hi ≤ W.heap.size) : ∀ k, lo ≤ k → k < hi → W'.heap[k]? = W.heap[k]? := fun k h1 h2 =>
  h.block k (by omega) (by omega) (fun e => by have := hF k (.inl e.symm); omega) (fun e => by have := hF k (.inr e.symm); omega)
theorem NdAt.keep {W W' : World} {x : Nat} {vN vC vN' vC' : Value} {d : Nd} (H : NdAt W x vN vC d) (h : WK W W' x vN vC vN' vC') : NdAt W' x vN' vC' d := by
  obtain ⟨lo, hi, v, h1, h2, h3, h4, h5, h6, h7, h8, h9, h10, h11⟩ := H
  have hk := h.keeps h3 h1 h2
  exact ⟨lo, hi, v, h1, by have := h.size; omega, h.far h3 h2, h4, h5, (hk _ h4 h5).trans h6, h7.keep (Nat.le_refl _) (Nat.le_refl _) hk, h8, h9, h10, fun j hj => (h11 j hj).keep (Nat.le_refl _) (Nat.le_refl _) hk⟩
theorem parts_one {lo hi lo' hi' : Nat} {W : World} {v : Value} {Xs Ys : List Nat} (h : PartsAt lo hi W v Xs) (k : PartsAt lo' hi' W v Ys) : Xs = Ys := by
  obtain ⟨a, c, rfl, h1⟩ := h
  obtain ⟨a', c', e, h2⟩ := k
  simp only [Value.slice.injEq] at e
  obtain ⟨rfl, hl, rfl⟩ := e
  refine List.ext_getElem hl fun j j1 j2 => ?_
  obtain ⟨b, off, e1, _, _, c1⟩ := h1 j j1
  obtain ⟨b', off', e2, _, _, c2⟩ := h2 j j2
  rw [e1] at e2
  simp only [Option.some.injEq, Addr.mk.injEq] at e2
  obtain ⟨rfl, rfl, _⟩ := e2
  rw [c1] at c2
  simp only [Option.some.injEq, Value.pointer.injEq, Addr.mk.injEq] at c2
  have := c2.1
  rw [List.getElem?_eq_getElem j1, List.getElem?_eq_getElem j2] at this
  exact this
theorem TreeIn.one {lo hi : Nat} {W : World} {X : Nat} {zs : List Int} (h : TreeIn lo hi W X zs) : ∀ {lo' hi' : Nat} {zs' : List Int}, TreeIn lo' hi' W X zs' → zs = zs' := by
  induction h with
  | mk X s v Xs zss hX1 hX2 hN hP hr hl _ ih =>
    intro lo' hi' zs' h'
    cases h' with
    | mk _ s' v' Xs' zss' _ _ hN' hP' hr' hl' hT' =>
      have e : some (Obj.cells #[Value.int .i64 s, v] 165 (0, 0)) = some (Obj.cells #[Value.int .i64 s', v'] 165 (0, 0)) := (show W.heap[X]? = _ from hN).symm.trans (show W.heap[X]? = _ from hN')
      simp only [Option.some.injEq, Obj.cells.injEq, and_true] at e
      have e2 := congrArg Array.toList e
      simp only [List.cons.injEq, and_true, Value.int.injEq, true_and] at e2
      obtain ⟨rfl, rfl⟩ := e2
      obtain rfl := parts_one hP hP'
      congr 2
      refine List.ext_getElem (by omega) fun j j1 j2 => ?_
      have := ih j (by omega) (hT' j (by omega))
      rw [List.getElem?_eq_getElem j1, List.getElem?_eq_getElem j2] at this
      exact this
structure TB (W : World) (x : Nat) (vN vC : Value) (L : List Nd) (m : Nat) (C : Nat → Nat) : Prop where
  cell : W.heap[x]? = some (.cells #[vN, vC] 159 (0, 0))
  rowN : W.ownsRow (x + 1) 161 1 vN L.length (L.map fun d => ptr d.X)
  rowC : New (x + 1) W vC (Mt.clL m C)
  nds : ∀ d ∈ L, NdAt W x vN vC d
  one : OneL L
theorem TB.lt {W : World} {x : Nat} {vN vC : Value} {L : List Nd} {m : Nat} {C : Nat → Nat} (h : TB W x vN vC L m C) : x < W.heap.size := (Array.getElem?_eq_some_iff.1 h.cell).1
theorem TB.drewN {W : World} {x : Nat} {vN vC : Value} {L : List Nd} {m : Nat} {C : Nat → Nat} (h : TB W x vN vC L m C) (d : Nat) : TB (W.drewN d) x vN vC L m C := ⟨h.cell, h.rowN, h.rowC, fun q hq => (h.nds q hq).keep ((WK.refl W x vN vC).drewN d), h.one⟩
theorem TB.form {W : World} {x : Nat} {vN vC : Value} {L : List Nd} {m : Nat} {C : Nat → Nat} (h : TB W x vN vC L m C) : ∃ aN cN, vN = .slice aN L.length cN ∧ ∀ k, k < L.length → ∃ b off, aN = some ⟨b, off, none⟩ ∧ W.cell? ⟨b, off + k, none⟩ = some (ptr (ndAt L k).X) := by
  rcases h.rowN.2 with ⟨e, hn⟩ | ⟨g, cap, cur, e, _⟩
  · exact ⟨none, 0, by rw [e, hn], fun k hk => by omega⟩
  · refine ⟨_, cap, e, fun k hk => ⟨g, 0, rfl, ?_⟩⟩
    have hr := h.rowN
    rw [e] at hr
    have := World.ownsRow.cellAt hr k (by omega)
    rw [Nat.zero_add, this]
    simp [ndAt, hk]
theorem ownsRow_keep {W W' : World} {base : Nat} {e : TypeId} {size : Nat} {v : Value} {n : Nat} {xs : List Value} (h : W.ownsRow base e size v n xs) (hk : ∀ q, v.ownBlock = some q → W'.heap[q]? = W.heap[q]?) : W'.ownsRow base e size v n xs := by
  refine ⟨h.1, ?_⟩
  rcases h.2 with h1 | ⟨g, cap, cur, rfl, h2, h3, h4⟩
  · exact .inl h1
  · exact .inr ⟨g, cap, cur, rfl, h2, (hk g rfl).trans h3, h4⟩
theorem row_type {W : World} {base : Nat} {e : TypeId} {size : Nat} {v : Value} {n : Nat} {xs : List Value} (h : W.ownsRow base e size v n xs) {q : Nat} (hq : v.ownBlock = some q) : ∃ cur, W.heap[q]? = some (.cells cur e (0, 0)) := by
  rcases h.2 with ⟨rfl, _⟩ | ⟨g, cap, cur, rfl, h2, h3, h4⟩
  · cases hq
  · cases hq; exact ⟨cur, h3⟩
theorem TB.apart {W : World} {x : Nat} {vN vC : Value} {L : List Nd} {m : Nat} {C : Nat → Nat} (h : TB W x vN vC L m C) {q : Nat} (h1 : vN.ownBlock = some q) (h2 : vC.ownBlock = some q) : False := by
  obtain ⟨c1, e1⟩ := row_type h.rowN h1
  obtain ⟨c2, e2⟩ := row_type h.rowC h2
  rw [e1] at e2
  simp only [Option.some.injEq, Obj.cells.injEq] at e2
  exact absurd e2.2.1 (by decide)
theorem least {P : Nat → Prop} : ∀ n, (∃ k, k < n ∧ P k) → ∃ k, k < n ∧ P k ∧ ∀ j, j < k → ¬ P j := by
  intro n
  induction n with
  | zero => rintro ⟨k, h, _⟩; omega
  | succ n ih =>
    intro h
    by_cases h1 : ∃ k, k < n ∧ P k
    · obtain ⟨k, hk, h2, h3⟩ := ih h1
      exact ⟨k, by omega, h2, h3⟩
    · obtain ⟨k, hk, h2⟩ := h
      have : k = n := by
        by_cases e : k = n
        · exact e
        · exact absurd ⟨k, by omega, h2⟩ h1
      subst this
      exact ⟨k, by omega, h2, fun j hj hp => h1 ⟨j, hj, hp⟩⟩
theorem Nd.var {W : World} {x : Nat} {vN vC : Value} {d : Nd} (h : NdAt W x vN vC d) (hs : d.s < 0) : d.z = [d.s] := by
  obtain ⟨lo, hi, v, h1, h2, h3, h4, h5, h6, h7, h8, h9, h10, h11⟩ := h
  rw [Wb.room_var hs] at h8
  have : d.zss = [] := List.eq_nil_of_length_eq_zero (by omega)
  unfold Nd.z
  rw [this]
  rfl
def ndN (L : List Nd) (k : Nat) : Nat := (ndAt L k).X
def ndS (L : List Nd) (k : Nat) : Int := (ndAt L k).s
def ndZ (L : List Nd) (k : Nat) : List Int := (ndAt L k).z
def ndP (L : List Nd) (k i : Nat) : Nat := (ndAt L k).Xs[i]?.getD 0
def KidsL (L : List Nd) (K : Nat → List Nat) : Prop := ∀ k, k < L.length → (K k).length = (ndAt L k).Xs.length ∧ ∀ j, j < (ndAt L k).Xs.length → FndL L (ndP L k j) ((ndAt L k).zss[j]?.getD []) ((K k)[j]?.getD 0)
theorem tree_head {lo hi : Nat} {W : World} {X : Nat} {zs : List Int} (h : TreeIn lo hi W X zs) : lo ≤ X ∧ X < hi ∧ ∃ v, Node W X (hd0 zs) v := by
  cases h with
  | mk _ s v Xs zss h1 h2 hN => exact ⟨h1, h2, v, hN⟩
theorem TB.ties {W : World} {x : Nat} {vN vC : Value} {L : List Nd} {C : Nat → Nat} (H : TB W x vN vC L L.length C) {K : Nat → List Nat} (hK : KidsL L K) (h5 : L.length ≤ 5000) (h0 : 0 < L.length) : ∃ aN cN g cC, vN = .slice aN L.length cN ∧ vC = .slice (some ⟨g, 0, none⟩) L.length cC ∧ TiesO W x L.length aN cN g cC (ndN L) C (ndS L) K (ndP L) := by
  obtain ⟨gC, cC, rfl, _⟩ := New.at0 H.rowC (by rw [Mt.clL_length]; exact h0)
  rw [Mt.clL_length] at H
  obtain ⟨gN, cN, rfl, hgN, _⟩ := World.ownsRow.form H.rowN h0
  refine ⟨some ⟨gN, 0, none⟩, cN, gC, cC, rfl, by rw [Mt.clL_length], (World.ownsRow.lt H.rowC gC rfl).2, fun W' hk C' hC' => ?_, ?_⟩
  · have hgC := (World.ownsRow.lt H.rowC gC rfl).1
    have hx : W'.heap[x]? = W.heap[x]? := hk.block x H.lt (by omega)
    have hN' : W'.heap[gN]? = W.heap[gN]? := hk.block gN (World.ownsRow.lt H.rowN gN rfl).2 fun e => H.apart (q := gC) (by rw [e]; rfl) rfl
    refine ⟨(World.cell?_of_block (a := ⟨x, 0, none⟩) hx).trans ((cell_at H.cell 0).trans rfl), (World.cell?_of_block (a := ⟨x, 1, none⟩) hx).trans ((cell_at H.cell 1).trans rfl), fun k hk' => ?_, fun k hk' => ⟨gC, 0, rfl, by rw [Nat.zero_add]; exact hC' k hk'⟩, fun k hk' => ?_, fun k i hk' hi => ?_, fun k i hk' hi => ?_, h5⟩
    · obtain ⟨aN, cN', e, hf⟩ := H.form
      simp only [Value.slice.injEq, true_and] at e
      obtain ⟨rfl, rfl⟩ := e
      obtain ⟨b, off, e, hc⟩ := hf k hk'
      simp only [Option.some.injEq, Addr.mk.injEq] at e
      obtain ⟨rfl, rfl, _⟩ := e
      exact ⟨gN, 0, rfl, (World.cell?_of_block (a := ⟨gN, 0 + k, none⟩) hN').trans hc⟩
    · obtain ⟨lo, hi, v, h1, h2, h3, h4, h5', h6, ⟨a, c, rfl, h7⟩, h8, h9, h10, h11⟩ := H.nds _ (ndAt_mem hk')
      have hfar : ∀ q, lo ≤ q → q < hi → W'.heap[q]? = W.heap[q]? := fun q q1 q2 => hk.block q (by omega) fun e => by have := h3 gC (.inr rfl); omega
      rw [h8] at h6 h7
      refine ⟨a, c, (hfar _ h4 h5').trans h6, fun i hi => ?_⟩
      obtain ⟨b, off, e, b1, b2, hc⟩ := h7 i hi
      exact ⟨b, off, e, (World.cell?_of_block (a := ⟨b, off + i, none⟩) (hfar b b1 b2)).trans hc⟩
    · obtain ⟨lo, hi', v, h1, h2, h3, h4, h5', h6, h7, h8, h9, h10, h11⟩ := H.nds _ (ndAt_mem hk')
      have hfar : ∀ q, lo ≤ q → q < hi' → W'.heap[q]? = W.heap[q]? := fun q q1 q2 => hk.block q (by omega) fun e => by have := h3 gC (.inr rfl); omega
      have hi2 : i < (ndAt L k).Xs.length := by rw [h8]; exact hi
      obtain ⟨t1, t2, v', t3⟩ := tree_head (h11 i hi2)
      have hF := (hK k hk').2 i hi2
      have es : ndS L ((K k)[i]?.getD 0) = hd0 ((ndAt L k).zss[i]?.getD []) := by rw [← hF.2.1]; rfl
      rw [es]
      exact ⟨v', (hfar _ t1 t2).trans t3⟩
    · obtain ⟨lo, hi', v, h1, h2, h3, h4, h5', h6, h7, h8, h9, h10, h11⟩ := H.nds _ (ndAt_mem hk')
      obtain ⟨f1, f2, f3, f4⟩ := (hK k hk').2 i (by rw [h8]; exact hi)
      have es : ndS L ((K k)[i]?.getD 0) = hd0 ((ndAt L k).zss[i]?.getD []) := by rw [← f2]; rfl
      exact ⟨f1, fun h q hq => by rw [es]; exact f3 (by rw [← es]; exact h) q hq, fun h => f4 (by rw [← es]; exact h)⟩
  · exact H.rowC.mono (Nat.zero_le _)
theorem New.rebase {base base' : Nat} {W : World} {g n c : Nat} {zs : List Int} (h : New base W (.slice (some ⟨g, 0, none⟩) n c) zs) (hb : base' ≤ g) : New base' W (.slice (some ⟨g, 0, none⟩) n c) zs := by
  refine ⟨h.1, ?_⟩
  rcases h.2 with ⟨e, _⟩ | ⟨g', c', cur, e, _, h3⟩
  · cases e
  · cases e
    exact .inr ⟨_, _, cur, rfl, hb, h3⟩
theorem TB.tied {W W' : World} {x : Nat} {vN : Value} {L : List Nd} {m g cC : Nat} {C C' : Nat → Nat} (H : TB W x vN (.slice (some ⟨g, 0, none⟩) m cC) L m C) (hk : Keep W.heap.size g W W') (hN : New 0 W' (.slice (some ⟨g, 0, none⟩) m cC) (Mt.clL m C')) : TB W' x vN (.slice (some ⟨g, 0, none⟩) m cC) L m C' ∧ WK W W' x vN (.slice (some ⟨g, 0, none⟩) m cC) vN (.slice (some ⟨g, 0, none⟩) m cC) := by
  have hgC := (World.ownsRow.lt H.rowC g rfl).1
  have hwk : WK W W' x vN (.slice (some ⟨g, 0, none⟩) m cC) vN (.slice (some ⟨g, 0, none⟩) m cC) := ⟨hk.os, hk.tape, hk.output, hk.size, fun k h1 _ _ h4 => hk.block k h1 fun e => h4 (by rw [e]; rfl), fun _ h => .inl h, fun _ h => .inl h⟩
  refine ⟨⟨(hk.block x H.lt (by omega)).trans H.cell, ownsRow_keep H.rowN fun q hq => hk.block q (World.ownsRow.lt H.rowN q hq).2 fun e => H.apart hq (by rw [e]; rfl), hN.rebase hgC, fun d hd => (H.nds d hd).keep hwk, H.one⟩, hwk⟩
theorem WK.below {W W' : World} {x : Nat} {vN vC vN' vC' : Value} {L : List Nd} {m : Nat} {C : Nat → Nat} (h : WK W W' x vN vC vN' vC') (H : TB W x vN vC L m C) : Below x W W' :=
  ⟨h.os, h.tape, h.output, h.size, fun k hk => h.block k (by have := H.lt; omega) (by omega) (fun e => by have := (World.ownsRow.lt H.rowN k e.symm).1; omega) (fun e => by have := (World.ownsRow.lt H.rowC k e.symm).1; omega)⟩
structure MI (ps : PairL) (k : Nat) (L : List Nd) (C : Nat → Nat) : Prop where
  lt : ∀ q, q < L.length → C q < L.length
  out : ∀ q, L.length ≤ q → C q = q
  sound : ∀ θ, Wb.TermSb θ → Wb.Same ps k θ → Mt.Resp L.length (ndZ L) C θ
  tied : ∀ j, j < k → ∃ a b, a < L.length ∧ b < L.length ∧ ndZ L a = (ps[j]?.getD ([], [])).1 ∧ ndZ L b = (ps[j]?.getD ([], [])).2 ∧ C a = C b
  full : ∀ d ∈ L, FullL L d
theorem MI.start (ps : PairL) : MI ps 0 [] (fun q => q) := ⟨fun q h => by simp at h, fun _ _ => rfl, fun _ _ _ i _ h => by simp at h, fun j hj => by omega, fun d h => by simp at h⟩
theorem ndZ_app {L : List Nd} (M : List Nd) {k : Nat} (h : k < L.length) : ndZ (L ++ M) k = ndZ L k := by unfold ndZ; rw [ndAt_app M h]
theorem MI.ext {ps : PairL} {k : Nat} {L : List Nd} {C : Nat → Nat} (H : MI ps k L C) {M : List Nd} (hM : ∀ d ∈ M, FullL (L ++ M) d) : MI ps k (L ++ M) C := by
  refine ⟨fun q hq => ?_, fun q hq => H.out q (by rw [List.length_append] at hq; omega), fun θ hθ hs i j hi hj e => ?_, fun j hj => ?_, fun d hd => ?_⟩
  · rw [List.length_append] at hq ⊢
    by_cases h : q < L.length
    · have := H.lt q h; omega
    · rw [H.out q (by omega)]; exact hq
  · by_cases h1 : i < L.length
    · by_cases h2 : j < L.length
      · rw [ndZ_app M h1, ndZ_app M h2]; exact H.sound θ hθ hs i j h1 h2 e
      · rw [H.out j (by omega)] at e; have := H.lt i h1; omega
    · rw [H.out i (by omega)] at e
      by_cases h2 : j < L.length
      · have := H.lt j h2; omega
      · rw [H.out j (by omega)] at e; rw [e]
  · obtain ⟨a, b, ha, hb, e1, e2, e3⟩ := H.tied j hj
    exact ⟨a, b, by rw [List.length_append]; omega, by rw [List.length_append]; omega, by rw [ndZ_app M ha]; exact e1, by rw [ndZ_app M hb]; exact e2, e3⟩
  · rcases List.mem_append.1 hd with h | h
    · exact (H.full d h).app M
    · exact hM d h
theorem TB.below {W W1 : World} {x : Nat} {vN vC : Value} {L : List Nd} {m : Nat} {C : Nat → Nat} (H : TB W x vN vC L m C) (hB : Below W.heap.size W W1) : TB W1 x vN vC L m C ∧ WK W W1 x vN vC vN vC := by
  have hwk : WK W W1 x vN vC vN vC := ⟨hB.os, hB.tape, hB.output, hB.size, fun k hk _ _ _ => hB.block k hk, fun _ h => .inl h, fun _ h => .inl h⟩
  exact ⟨⟨(hB.block x H.lt).trans H.cell, ownsRow_keep H.rowN fun q hq => hB.block q (World.ownsRow.lt H.rowN q hq).2, ownsRow_keep H.rowC fun q hq => hB.block q (World.ownsRow.lt H.rowC q hq).2, fun d hd => (H.nds d hd).keep hwk, H.one⟩, hwk⟩
theorem TB.start (w : World) : TB (w.alloc (.cells #[.slice none 0 0, .slice none 0 0] 159)) w.heap.size (.slice none 0 0) (.slice none 0 0) [] 0 (fun q => q) :=
  ⟨World.alloc_heap_new w _, World.ownsRow_nil _ _ _ _, New.nil _ _, fun d hd => by simp at hd, fun i j hi => by simp at hi⟩
namespace Mt
end Mt
def IntRow (base : Nat) (W : World) (a : Option Addr) (zs : List Int) : Prop := ∀ j, j < zs.length → ∃ b off, a = some ⟨b, off, none⟩ ∧ base ≤ b ∧ (∃ cs p, W.heap[b]? = some (.cells cs 3 p)) ∧ W.cell? ⟨b, off + j, none⟩ = some (.int .i64 (zs[j]?.getD 0))
theorem IntRow.ints {base : Nat} {W : World} {a : Option Addr} {zs : List Int} (h : IntRow base W a zs) : Ints W.heap.size W a zs := fun j hj => by
  obtain ⟨b, off, e, _, ⟨cs, p, hb⟩, hc⟩ := h j hj
  exact ⟨b, off, e, (Array.getElem?_eq_some_iff.1 hb).1, hc⟩
theorem IntRow.of {base : Nat} {W : World} {v : Value} {zs : List Int} (h : New base W v zs) : ∃ a c, v = .slice a zs.length c ∧ IntRow base W a zs ∧ zs.length ≤ c ∧ c ≤ maxLen := by
  rcases h.2 with ⟨rfl, hn⟩ | ⟨g, cap, cur, rfl, hb, hg, h1, h2, h3, h4⟩
  · exact ⟨none, 0, by rw [hn], fun j hj => by omega, by omega, by unfold maxLen; omega⟩
  · refine ⟨_, cap, rfl, fun j hj => ⟨g, 0, rfl, hb, ⟨cur, _, hg⟩, ?_⟩, h1, h2⟩
    have := World.ownsRow.cellAt (xs := zs.map (Value.int .i64)) h j (by omega)
    rw [Nat.zero_add, this]
    simp [hj]
theorem IntRow.keep {base : Nat} {W W' : World} {a : Option Addr} {zs : List Int} (h : IntRow base W a zs) (hk : ∀ b, base ≤ b → (∃ cs p, W.heap[b]? = some (.cells cs 3 p)) → W'.heap[b]? = W.heap[b]?) : IntRow base W' a zs := fun j hj => by
  obtain ⟨b, off, e, hb, hc, hcell⟩ := h j hj
  refine ⟨b, off, e, hb, ?_, (World.cell?_of_block (a := ⟨b, off + j, none⟩) (hk b hb hc)).trans hcell⟩
  obtain ⟨cs, p, hc'⟩ := hc
  exact ⟨cs, p, (hk b hb ⟨cs, p, hc'⟩).trans hc'⟩
theorem IntRow.below {base : Nat} {W W' : World} {a : Option Addr} {zs : List Int} (h : IntRow base W a zs) (hB : Below W.heap.size W W') : IntRow base W' a zs := h.keep fun b _ ⟨_, _, hc⟩ => hB.block b (Array.getElem?_eq_some_iff.1 hc).1
theorem IntRow.mono {base base' : Nat} {W : World} {a : Option Addr} {zs : List Int} (h : IntRow base W a zs) (hb : base' ≤ base) : IntRow base' W a zs := fun j hj => by
  obtain ⟨b, off, e, h1, r⟩ := h j hj
  exact ⟨b, off, e, by omega, r⟩
def NewQ (base : Nat) (W : World) (v : Value) (ps : PairL) : Prop :=
  ∃ us : List Value, W.ownsRow base 42 2 v ps.length us ∧ ∀ j, j < ps.length → ∃ aL cL aR cR, us[j * 2]? = some (.slice aL (ps[j]?.getD ([], [])).1.length cL) ∧ us[j * 2 + 1]? = some (.slice aR (ps[j]?.getD ([], [])).2.length cR) ∧ IntRow base W aL (ps[j]?.getD ([], [])).1 ∧ IntRow base W aR (ps[j]?.getD ([], [])).2 ∧ (ps[j]?.getD ([], [])).1.length ≤ cL ∧ cL ≤ maxLen ∧ (ps[j]?.getD ([], [])).2.length ≤ cR ∧ cR ≤ maxLen
theorem NewQ.nil (base : Nat) (W : World) : NewQ base W (.slice none 0 0) [] := ⟨[], World.ownsRow_nil _ _ _ _, fun j hj => by simp at hj⟩
theorem NewQ.below {base : Nat} {W W' : World} {v : Value} {ps : PairL} (h : NewQ base W v ps) (hB : Below W.heap.size W W') : NewQ base W' v ps := by
  obtain ⟨us, h1, h2⟩ := h
  refine ⟨us, ownsRow_keep h1 fun q hq => hB.block q (World.ownsRow.lt h1 q hq).2, fun j hj => ?_⟩
  obtain ⟨aL, cL, aR, cR, a, b, c, d, r⟩ := h2 j hj
  exact ⟨aL, cL, aR, cR, a, b, c.below hB, d.below hB, r⟩
theorem NewQ.mono {base base' : Nat} {W : World} {v : Value} {ps : PairL} (h : NewQ base W v ps) (hb : base' ≤ base) : NewQ base' W v ps := by
  obtain ⟨us, h1, h2⟩ := h
  refine ⟨us, ⟨h1.1, h1.2.elim .inl (fun ⟨g, cap, cur, e1, e2, e3⟩ => .inr ⟨g, cap, cur, e1, Nat.le_trans hb e2, e3⟩)⟩, fun j hj => ?_⟩
  obtain ⟨aL, cL, aR, cR, a, b, c, d, r⟩ := h2 j hj
  exact ⟨aL, cL, aR, cR, a, b, c.mono hb, d.mono hb, r⟩
theorem NewQ.at {base : Nat} {W : World} {v : Value} {ps : PairL} (h : NewQ base W v ps) : ∃ a cap, v = .slice a ps.length cap ∧ RulesAt W.heap.size W a ps ∧ ps.length ≤ cap ∧ cap ≤ maxLen := by
  obtain ⟨us, h1, h2⟩ := h
  have hl : us.length = ps.length * 2 := h1.1
  rcases h1.2 with ⟨rfl, hn⟩ | ⟨g, cap, cur, rfl, hb, hgb, q1, q2, _⟩
  · refine ⟨none, 0, by rw [hn], fun k hk => by omega, by omega, by unfold maxLen; omega⟩
  · refine ⟨_, cap, rfl, fun j hj => ?_, q1, q2⟩
    obtain ⟨a1, c1, a2, c2, p1, p2, i1, i2, m1, m1', m2, m2'⟩ := h2 j hj
    have cc := fun k hk => World.ownsRow.cellAt h1 k hk
    exact ⟨g, 0, rfl, (Array.getElem?_eq_some_iff.1 hgb).1, a1, c1, a2, c2, by rw [Nat.zero_add, cc _ (by omega), p1], by rw [Nat.zero_add, cc _ (by omega), p2], i1.ints, i2.ints, m1, m1', m2, m2'⟩
theorem NewQ.snoc {base : Nat} {w w' : World} {v v' : Value} {ps : PairL} {aL aR : Option Addr} {cL cR : Nat} {t t2 : List Int} (hg : w.grownBy w' v.ownBlock) (h1 : IntRow base w aL t) (h2 : IntRow base w aR t2) (c1 : t.length ≤ cL) (c2 : cL ≤ maxLen) (c3 : t2.length ≤ cR) (c4 : cR ≤ maxLen)
    {us : List Value} (hus : w.ownsRow base 42 2 v ps.length us) (hcl : ∀ j, j < ps.length → ∃ aL cL aR cR, us[j * 2]? = some (.slice aL (ps[j]?.getD ([], [])).1.length cL) ∧ us[j * 2 + 1]? = some (.slice aR (ps[j]?.getD ([], [])).2.length cR) ∧ IntRow base w aL (ps[j]?.getD ([], [])).1 ∧ IntRow base w aR (ps[j]?.getD ([], [])).2 ∧ (ps[j]?.getD ([], [])).1.length ≤ cL ∧ cL ≤ maxLen ∧ (ps[j]?.getD ([], [])).2.length ≤ cR ∧ cR ≤ maxLen)
    (hown : w'.ownsRow base 42 2 v' (ps.length + 1) (us ++ [.slice aL t.length cL, .slice aR t2.length cR])) : NewQ base w' v' (ps ++ [(t, t2)]) := by
  have hul : us.length = ps.length * 2 := hus.1
  have hk : ∀ b, base ≤ b → (∃ cs p, w.heap[b]? = some (.cells cs 3 p)) → w'.heap[b]? = w.heap[b]? := fun b _ ⟨cs, p, hb⟩ => hg.block b (Array.getElem?_eq_some_iff.1 hb).1 fun e => by
    obtain ⟨cur, h⟩ := row_type hus e.symm
    rw [hb] at h
    simp only [Option.some.injEq, Obj.cells.injEq] at h
    exact absurd h.2.1 (by decide)
  refine ⟨us ++ [.slice aL t.length cL, .slice aR t2.length cR], by simpa using hown, fun j hj => ?_⟩
  by_cases hjl : j < ps.length
  · obtain ⟨y, yc, y', yc', q1, q2, n1, n2, r⟩ := hcl j hjl
    rw [List.getElem?_append_left hjl, List.getElem?_append_left (by omega), List.getElem?_append_left (by omega)]
    exact ⟨y, yc, y', yc', q1, q2, n1.keep hk, n2.keep hk, r⟩
  · have hje : j = ps.length := by simp at hj; omega
    subst hje
    rw [List.getElem?_append_right (Nat.le_refl _), List.getElem?_append_right (by omega), List.getElem?_append_right (by omega), hul]
    exact ⟨aL, cL, aR, cR, by simp, by simp, by simpa using h1.keep hk, by simpa using h2.keep hk, by simpa using c1, c2, by simpa using c3, c4⟩
def Tm.LrOn (rs : RuleL) (t : List Int) (P : Nat → Nat → Prop) (l : LeanL) : Prop :=
  (∀ k i, P k i → ∃ o, Tm.LnAt t k (Tm.others (rs[k]?.getD ([], [])).1) (Tm.others (rs[k]?.getD ([], [])).2) i o) ∧ l.Pairwise LnLt ∧
  ∀ x, x ∈ l ↔ ∃ k i o, P k i ∧ Tm.LnAt t k (Tm.others (rs[k]?.getD ([], [])).1) (Tm.others (rs[k]?.getD ([], [])).2) i o ∧ x ∈ o
theorem Tm.LrOn.next {rs : RuleL} {t : List Int} {P : Nat → Nat → Prop} {l o : LeanL} {j m : Nat} (h : Tm.LrOn rs t P l) (hP : ∀ k i, P k i → i < m ∨ (i = m ∧ k < j)) (ho : Tm.LnAt t j (Tm.others (rs[j]?.getD ([], [])).1) (Tm.others (rs[j]?.getD ([], [])).2) m o) : Tm.LrOn rs t (fun k i => P k i ∨ (k = j ∧ i = m)) (l ++ o) := by
  refine ⟨fun k i hk => ?_, ?_, fun x => ?_⟩
  · rcases hk with hk | ⟨rfl, rfl⟩
    · exact h.1 k i hk
    · exact ⟨o, ho⟩
  · rw [List.pairwise_append]
    refine ⟨h.2.1, ?_, fun x hx y hy => ?_⟩
    · have hl := ho.len
      match o, hl with
      | [], _ => exact List.Pairwise.nil
      | [a], _ => exact List.pairwise_singleton _ _
    · obtain ⟨k, i, o', hk, ho', hx⟩ := (h.2.2 x).1 hx
      obtain ⟨a1, a2, _⟩ := ho'.mem x hx
      obtain ⟨b1, b2, _⟩ := ho.mem y hy
      have := hP k i hk
      unfold LnLt
      omega
  · rw [List.mem_append, h.2.2 x]
    constructor
    · rintro (⟨k, i, o', hk, ho', hx⟩ | hx)
      · exact ⟨k, i, o', .inl hk, ho', hx⟩
      · exact ⟨j, m, o, .inr ⟨rfl, rfl⟩, ho, hx⟩
    · rintro ⟨k, i, o', hk | ⟨rfl, rfl⟩, ho', hx⟩
      · exact .inl ⟨k, i, o', hk, ho', hx⟩
      · rw [ho'.one ho] at hx
        exact .inr hx
theorem Tm.LrOn.pass {rs : RuleL} {t : List Int} {l : LeanL} {m : Nat} (h : Tm.LrOn rs t (fun k i => k < rs.length ∧ i < m) l) (ht : t[m]?.getD 0 < 0) : Tm.LrOn rs t (fun k i => k < rs.length ∧ i < m + 1) l := by
  have hp : ∀ k, Tm.LnAt t k (Tm.others (rs[k]?.getD ([], [])).1) (Tm.others (rs[k]?.getD ([], [])).2) m [] := fun k => .inl ⟨ht, rfl⟩
  refine ⟨fun k i hk => ?_, h.2.1, fun x => (h.2.2 x).trans ⟨fun ⟨k, i, o, hk, ho⟩ => ⟨k, i, o, ⟨hk.1, by omega⟩, ho⟩, fun ⟨k, i, o, hk, ho, hx⟩ => ?_⟩⟩
  · by_cases e : i = m
    · subst e; exact ⟨[], hp k⟩
    · exact h.1 k i ⟨hk.1, by omega⟩
  · by_cases e : i = m
    · subst e
      rw [ho.one (hp k)] at hx
      cases hx
    · exact ⟨k, i, o, ⟨hk.1, by omega⟩, ho, hx⟩
theorem Tm.LrOn.ok {rs : RuleL} {t : List Int} {l : LeanL} (h : Tm.LrOn rs t (fun k i => k < rs.length ∧ i < t.length) l) : Tm.LeanOk rs t l :=
  ⟨fun k hk i hi => h.1 k i ⟨hk, hi⟩, h.2.1, fun x => (h.2.2 x).trans ⟨fun ⟨k, i, o, hk, ho⟩ => ⟨k, i, o, hk.1, hk.2, ho⟩, fun ⟨k, i, o, hk, hi, ho⟩ => ⟨k, i, o, ⟨hk, hi⟩, ho⟩⟩⟩
theorem Tm.LrOn.len {rs : RuleL} {t : List Int} {P : Nat → Nat → Prop} {l : LeanL} (h : Tm.LrOn rs t P l) (hP : ∀ k i, P k i → k < 8 ∧ i < 30) : l.length ≤ 240 := by
  have key : ∀ (l : LeanL), l.Pairwise LnLt → (∀ x ∈ l, x.1 < 8 ∧ x.2.1 < 30) → ∀ b, (∀ x ∈ l, b ≤ x.2.1 * 8 + x.1) → b + l.length ≤ 240 ∨ l = [] := by
    intro l
    induction l with
    | nil => exact fun _ _ _ _ => .inr rfl
    | cons x l ih =>
      intro hp hb b hbx
      rw [List.pairwise_cons] at hp
      have h0 := hbx x (by simp)
      have h1 := hb x (by simp)
      rcases ih hp.2 (fun y hy => hb y (by simp [hy])) (b + 1) (fun y hy => by
        have h2 := hp.1 y hy
        have h3 := hb y (by simp [hy])
        unfold LnLt at h2
        omega) with h | h
      · left; simp; omega
      · left; subst h; simp; omega
  have hb : ∀ x ∈ l, x.1 < 8 ∧ x.2.1 < 30 := fun x hx => by
    obtain ⟨k, i, o, hk, ho, hx⟩ := (h.2.2 x).1 hx
    obtain ⟨a1, a2, _⟩ := ho.mem x hx
    have := hP k i hk
    omega
  rcases key l h.2.1 hb 0 (fun _ _ => Nat.zero_le _) with h | h
  · omega
  · subst h; simp
theorem Tm.oth_run (t : List Int) : ∀ n, Tm.run (Tm.others t) n = Tm.run t n := by
  induction t with
  | nil => intro n; rfl
  | cons s l ih =>
    intro n
    cases n with
    | zero => rw [Tm.run_zero, Tm.run_zero]
    | succ n =>
      show Tm.run (Tm.oth s :: Tm.others l) (n + 1) = _
      have hr : Tm.room (Tm.oth s) = Tm.room s := by
        unfold Tm.oth
        by_cases hs : s < 0
        · rw [if_pos hs, Wb.room_var hs, Wb.room_var (by omega)]
        · rw [if_neg hs]
      rw [Tm.run_cons, Tm.run_cons, hr, ih]
theorem Tm.oth_err {t : List Int} (h : Tm.err t = 0) (hf : t.any foreignB = false) : Tm.err (Tm.others t) = 0 := by
  refine Tm.err_ok (by rw [Tm.others_length]; exact Tm.err_len h) ?_ (by rw [Tm.oth_run, Tm.others_length]; exact Tm.err_run h)
  rw [List.all_eq_true]
  intro s hs
  obtain ⟨q, hq, rfl⟩ := List.mem_map.1 hs
  obtain ⟨h1, h2⟩ := Tm.known_mem h hq
  have h3 := List.any_eq_false.1 hf q hq
  simp only [foreignB, decide_eq_true_eq] at h3
  refine Tm.known_of ?_ ?_ <;> (unfold Tm.oth; split <;> omega)
theorem Tm.MeetSays.bad2 {ps : PairL} {er : Int} {is : Bool} {val : List (List Int)} (h : Tm.MeetSays ps er is val) (h0 : Tm.firstPair ps = 0) (he : er ≠ 0) : er = 2 := by
  rcases h with ⟨h1, _⟩ | ⟨_, _, h, _⟩ | ⟨_, _, _, _, h, _⟩ | ⟨_, _, _, _, h, _⟩
  · exact absurd h0 h1
  · exact absurd h he
  · exact absurd h he
  · exact h
theorem Tm.LeanBad.two {rs : RuleL} {t : List Int} {e : Int} (h : Tm.LeanBad rs t e) (h0 : Tm.leanErr rs t = 0) : e = 2 := by
  obtain ⟨e1, e2, _⟩ := Tm.leanErr_zero h0
  obtain ⟨k, i, hk, hi, he, _, ⟨is, val, hs⟩ | ⟨val, hs, hb⟩⟩ := h
  · obtain ⟨_, hall⟩ := Tm.rulesErr_ok e1
    obtain ⟨eL, eR, fL, fR, _⟩ := Tm.ruleErr_ok (hall k hk)
    exact hs.bad2 (by rw [Tm.firstPair_one, Tm.pairErr_zero]; exact ⟨Tm.part_err e2 hi, Tm.oth_err eL fL⟩) he
  · obtain ⟨_, hall⟩ := Tm.rulesErr_ok e1
    obtain ⟨eL, eR, fL, fR, _⟩ := Tm.ruleErr_ok (hall k hk)
    obtain ⟨hsub, _⟩ := Tm.meet_true hs
    rcases Tm.ln_ref (val := val) (m := i) hsub e2 (Tm.oth_err eR fR) hi with ⟨_, h3, _⟩ | ⟨_, h3⟩
    · rw [h3] at hb; exact absurd hb.symm he
    · rw [h3] at hb; exact hb.symm
theorem Tm.LeanSays.one {rs : RuleL} {t : List Int} {er er' : Int} {l l' : LeanL} (h : Tm.LeanSays rs t er l) (h' : Tm.LeanSays rs t er' l') : er = er' ∧ l = l' := by
  rcases h with ⟨h0, rfl, rfl⟩ | ⟨h0, ⟨rfl, h⟩ | ⟨h, rfl⟩⟩ <;> rcases h' with ⟨g0, rfl, rfl⟩ | ⟨g0, ⟨rfl, g⟩ | ⟨g, rfl⟩⟩
  · exact ⟨rfl, rfl⟩
  · exact absurd g0 h0
  · exact absurd g0 h0
  · exact absurd h0 g0
  · exact ⟨rfl, lnLt_sorted h.2.1 g.2.1 fun x => (h.2.2 x).trans (g.2.2 x).symm⟩
  · obtain ⟨k, i, hk, hi, hb⟩ := g
    obtain ⟨o, ho⟩ := h.1 k hk i hi
    exact (ho.not hb).elim
  · exact absurd h0 g0
  · obtain ⟨k, i, hk, hi, hb⟩ := h
    obtain ⟨o, ho⟩ := g.1 k hk i hi
    exact (ho.not hb).elim
  · exact ⟨(h.two h0).trans (g.two g0).symm, rfl⟩
theorem Tm.LeanSays.lens {rs : RuleL} {t : List Int} {er : Int} {l : LeanL} (h : Tm.LeanSays rs t er l) : l.length ≤ 1000 ∧ ∀ x ∈ l, x.2.2.1.length ≤ 1000 := by
  rcases h with ⟨_, _, rfl⟩ | ⟨h0, ⟨_, h⟩ | ⟨_, rfl⟩⟩
  · exact ⟨by simp, fun x hx => by cases hx⟩
  · obtain ⟨e1, e2, _⟩ := Tm.leanErr_zero h0
    obtain ⟨h8, _⟩ := Tm.rulesErr_ok e1
    have l30 := Tm.err_len e2
    refine ⟨?_, fun x hx => ?_⟩
    · have hr : Tm.LrOn rs t (fun k i => k < rs.length ∧ i < t.length) l := ⟨fun k i hk => h.1 k hk.1 i hk.2, h.2.1, fun x => (h.2.2 x).trans ⟨fun ⟨k, i, o, hk, hi, ho⟩ => ⟨k, i, o, ⟨hk, hi⟩, ho⟩, fun ⟨k, i, o, hk, ho⟩ => ⟨k, i, o, hk.1, hk.2, ho⟩⟩⟩
      have := hr.len fun k i hk => by omega
      omega
    · obtain ⟨k, i, o, hk, hi, ho, hx⟩ := (h.2.2 x).1 hx
      obtain ⟨_, _, _, hs, _⟩ := ho.mem x hx
      obtain ⟨hsub, _⟩ := Tm.meet_true hs
      have := (Tm.subErr_ok hsub).1
      omega
  · exact ⟨by simp, fun x hx => by cases hx⟩
end Go.Proofs.Ytgeknojpcjadkaa
