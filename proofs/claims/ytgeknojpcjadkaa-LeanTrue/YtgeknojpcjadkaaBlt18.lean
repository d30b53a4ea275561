/-
  Parts of the proof: Prs9, Lea9, Lea10, RTrue1, RTrue2, Nor1, Mod1.
-/
import Derived.Test.YtgeknojpcjadkaaBlt14
import Derived.Test.YtgeknojpcjadkaaBlt17
import Derived.Test.YtgeknojpcjadkaaBlt13
import Derived.Test.YtgeknojpcjadkaaBlt12
import Derived.Test.YtgeknojpcjadkaaBlt7
namespace Go.Proofs.Ytgeknojpcjadkaa
open Go.Proofs Go.RowKit Go.Shelf Go.Maps
section
variable {L1 R1 L2 R2 : List Int} {pass : Nat → Bool}
theorem Tm.Laps.at {n : Nat} {l : PairL} (h : Tm.Laps L1 R1 L2 R2 pass n l) : ∀ m, m < n → ∃ l', Tm.Laps L1 R1 L2 R2 pass m l' ∧ (pass m = true ∨ (∃ val, Tm.MeetSays [(Tm.part L1 m, L2)] 0 false val) ∨ (∃ val, Tm.MeetSays [(Tm.part L1 m, L2)] 0 true val ∧ Tm.prtErr val L1 R1 (m : Int) R2 = 0)) := by
  induction h with
  | zero => intro m hm; omega
  | @pass k l h hp ih =>
    intro m hm
    by_cases e : m = k
    · subst e; exact ⟨l, h, .inl hp⟩
    · exact ih m (by omega)
  | @no k l val h hp hs ih =>
    intro m hm
    by_cases e : m = k
    · subst e; exact ⟨l, h, .inr (.inl ⟨val, hs⟩)⟩
    · exact ih m (by omega)
  | @yes k l val h hp hs he ih =>
    intro m hm
    by_cases e : m = k
    · subst e; exact ⟨l, h, .inr (.inr ⟨val, hs, he⟩)⟩
    · exact ih m (by omega)
theorem Tm.Laps.one {n : Nat} {l l' : PairL} (h : Tm.Laps L1 R1 L2 R2 pass n l) (h' : Tm.Laps L1 R1 L2 R2 pass n l') : l = l' := by
  induction h generalizing l' with
  | zero => cases h'; rfl
  | pass h hp ih =>
    cases h' with
    | pass h2 _ => exact ih h2
    | no _ hq _ => rw [hp] at hq; cases hq
    | yes _ hq _ _ => rw [hp] at hq; cases hq
  | no h hp hs ih =>
    cases h' with
    | pass _ hq => rw [hp] at hq; cases hq
    | no h2 _ _ => exact ih h2
    | yes _ _ hs2 _ => have := (hs.one hs2).2.1; cases this
  | yes h hp hs he ih =>
    cases h' with
    | pass _ hq => rw [hp] at hq; cases hq
    | no _ _ hs2 => have := (hs.one hs2).2.1; cases this
    | yes h2 _ hs2 _ =>
      obtain ⟨_, _, rfl⟩ := hs.one hs2
      rw [ih h2]
theorem Tm.LapsSays.right {l ps : PairL} {e : Int} (h : Tm.Laps L1 R1 L2 R2 pass L1.length l) (h' : Tm.LapsSays L1 R1 L2 R2 pass e ps) : e = 0 ∧ ps = l := by
  rcases h' with ⟨rfl, h2⟩ | ⟨⟨h0, m, l', hm, hl', hp, hs⟩, rfl⟩
  · exact ⟨rfl, h2.one h⟩
  · obtain ⟨_, _, q | ⟨val, q⟩ | ⟨val, q, q'⟩⟩ := h.at m hm
    · rw [hp] at q; cases q
    · rcases hs with ⟨is, v, hs⟩ | ⟨v, hs, _⟩
      · exact absurd (q.one hs).1.symm h0
      · have := (q.one hs).2.1; cases this
    · rcases hs with ⟨is, v, hs⟩ | ⟨v, hs, he⟩
      · exact absurd (q.one hs).1.symm h0
      · obtain ⟨_, _, rfl⟩ := q.one hs
        rw [q'] at he
        exact absurd he.symm h0
end
theorem Tm.OfSays.right {rs : RuleL} {a b : Nat} {l ps : PairL} {e : Int} (hr : Tm.rulesErr rs = 0) (ha : a < rs.length) (hb : b < rs.length) (h : Tm.Laps (rs[a]?.getD ([], [])).1 (rs[a]?.getD ([], [])).2 (Tm.others (rs[b]?.getD ([], [])).1) (Tm.others (rs[b]?.getD ([], [])).2) (Tm.passB (rs[a]?.getD ([], [])).1 (a : Int) (b : Int)) (rs[a]?.getD ([], [])).1.length l) (h' : Tm.OfSays rs (a : Int) (b : Int) e ps) : e = 0 ∧ ps = l := by
  rcases h' with ⟨h1, _⟩ | ⟨_, h2, _⟩ | ⟨_, a', b', _, _, ea, eb, h3⟩
  · exact absurd hr h1
  · exact absurd ⟨by omega, by omega, by omega, by omega⟩ h2
  · obtain rfl : a = a' := by omega
    obtain rfl : b = b' := by omega
    exact h3.right h
def Tm.clash : List Int → List Int → Bool
  | s :: x, t :: y => if s < 0 ∨ t < 0 then false else if s = t then Tm.clash x y else true
  | _, _ => false
theorem Tm.clash_no (θ : Wb.Sb) : ∀ (x y : List Int), Tm.clash x y = true → Wb.App θ x ≠ Wb.App θ y := by
  intro x
  induction x with
  | nil => intro y h; simp [Tm.clash] at h
  | cons s x ih =>
    intro y h
    cases y with
    | nil => simp [Tm.clash] at h
    | cons t y =>
      rw [Tm.clash] at h
      by_cases h1 : s < 0 ∨ t < 0
      · rw [if_pos h1] at h; cases h
      · rw [if_neg h1] at h
        rw [Wb.App_cons, Wb.App_cons, if_neg (by omega), if_neg (by omega), List.singleton_append, List.singleton_append]
        by_cases e : s = t
        · rw [if_pos e] at h
          intro hh
          exact ih y h (List.cons.inj hh).2
        · intro hh
          exact e (List.cons.inj hh).1
theorem Tm.no_of {x y : List Int} (h : Tm.firstPair [(x, y)] = 0) (hc : Tm.clash x y = true) : Tm.MeetSays [(x, y)] 0 false [] :=
  .inr (.inl ⟨h, fun θ _ H => Tm.clash_no θ x y hc (H 0 (by simp)), rfl, rfl, rfl⟩)
def Tm.leastB (vs : List (List Int)) : Bool := (List.range 8).all fun i : Nat => (vs[i]?.getD []).length != 1 || decide (0 ≤ (vs[i]?.getD []).headD 0) || decide (-1 - (i : Int) ≤ (vs[i]?.getD []).headD 0)
theorem Tm.mguOf {ps : PairL} {vs : List (List Int)} (h1 : Tm.subErr vs = 0) (hs : Wb.Same ps ps.length (Tm.ofL vs)) (hl : Tm.leastB vs = true) (hm : ∀ θ, Wb.TermSb θ → Wb.Same ps ps.length θ → ∀ i : Nat, i < 8 → θ (-1 - (i : Int)) = Wb.App θ (vs[i]?.getD [])) : Wb.Mgu ps (Tm.ofL vs) := by
  have h8 := (Tm.subErr_ok h1).1
  have hi : ∀ v : Int, -8 ≤ v → v < 0 → ∃ i : Nat, i < 8 ∧ v = -1 - (i : Int) := fun v a b => ⟨(-1 - v).toNat, by omega, by omega⟩
  refine ⟨Tm.ofL_term h1, fun v a b s hs' => ?_, hs, fun θ hθ H v a b => ?_, fun v u a b e hu => ?_⟩
  · obtain ⟨i, hi8, rfl⟩ := hi v a b
    rw [Tm.ofL_at vs hi8] at hs'
    have hk := Tm.err_all (Tm.firstErr_all (Tm.subErr_ok h1).2 i (by omega))
    rw [List.all_eq_true] at hk
    exact ⟨Tm.known_ge (hk s hs'), Tm.known_lt (hk s hs')⟩
  · obtain ⟨i, hi8, rfl⟩ := hi v a b
    rw [Tm.ofL_at vs hi8]
    exact hm θ hθ H i hi8
  · obtain ⟨i, hi8, rfl⟩ := hi v a b
    rw [Tm.ofL_at vs hi8] at e
    unfold Tm.leastB at hl
    rw [List.all_eq_true] at hl
    have := hl i (List.mem_range.2 hi8)
    rw [e] at this
    simp at this
    omega
theorem Wb.split2 {θ : Wb.Sb} (hθ : Wb.TermSb θ) {a b c d : List Int} (ha : Tm.run a 1 = a.length) (hc : Tm.run c 1 = c.length) (h : Wb.App θ (4 :: (a ++ b)) = Wb.App θ (4 :: (c ++ d))) : Wb.App θ a = Wb.App θ c ∧ Wb.App θ b = Wb.App θ d := by
  rw [Wb.App_cons, Wb.App_cons, if_neg (by omega), Wb.App_append, Wb.App_append] at h
  exact Wb.split (Wb.App_run hθ a 1 ha) (Wb.App_run hθ c 1 hc) (List.cons.inj h).2
theorem Tm.yes_of {ps : PairL} {vs : List (List Int)} (h0 : Tm.firstPair ps = 0) (h1 : Tm.subErr vs = 0) (M : Wb.Mgu ps (Tm.ofL vs)) : Tm.MeetSays ps 0 true vs := by
  have h8 := (Tm.subErr_ok h1).1
  refine .inr (.inr (.inl ⟨h0, _, M, fun i hi => ?_, rfl, rfl, (Tm.sbL_ofL h8).symm⟩))
  rw [Tm.ofL_at _ hi]
  exact Tm.err_len (Tm.firstErr_all (Tm.subErr_ok h1).2 i (by omega))
theorem Tm.Laps.clash {L1 R1 L2 R2 : List Int} {pass : Nat → Bool} {m : Nat} {l : PairL} (h : Tm.Laps L1 R1 L2 R2 pass m l) (hc : pass m = true ∨ (pass m = false ∧ Tm.firstPair [(Tm.part L1 m, L2)] = 0 ∧ Tm.clash (Tm.part L1 m) L2 = true)) : Tm.Laps L1 R1 L2 R2 pass (m + 1) l := by
  rcases hc with hp | ⟨hp, h1, h2⟩
  · exact .pass h hp
  · exact .no h hp (Tm.no_of h1 h2)
def Tm.allClash (L1 L2 : List Int) (pass : Nat → Bool) (from' upto : Nat) : Bool := (List.range (upto - from')).all fun k => pass (from' + k) || (decide (Tm.firstPair [(Tm.part L1 (from' + k), L2)] = 0) && Tm.clash (Tm.part L1 (from' + k)) L2)
theorem Tm.Laps.run {L1 R1 L2 R2 : List Int} {pass : Nat → Bool} {m : Nat} {l : PairL} (h : Tm.Laps L1 R1 L2 R2 pass m l) : ∀ n, Tm.allClash L1 L2 pass m (m + n) = true → Tm.Laps L1 R1 L2 R2 pass (m + n) l := by
  intro n
  induction n with
  | zero => intro _; exact h
  | succ n ih =>
    intro hc
    unfold Tm.allClash at hc ih
    rw [Nat.add_sub_cancel_left] at hc ih
    rw [List.range_succ, List.all_append, Bool.and_eq_true] at hc
    refine (ih hc.1).clash ?_
    have h2 := hc.2
    simp at h2
    cases hp : pass (m + n) with
    | true => exact .inl rfl
    | false =>
      rw [hp] at h2
      simp at h2
      exact .inr ⟨rfl, h2.1, h2.2⟩
end Go.Proofs.Ytgeknojpcjadkaa
namespace Go.Proofs.Ytgeknojpcjadkaa
open Go.Proofs Go.RowKit Go.Shelf
def Tm.lv0 : List (List Int) := [[0], [-2], [-3], [-4], [0], [-6], [-7], [-8]]
def Tm.lv1 : List (List Int) := [[2, 0], [-2], [-3], [-4], [0], [-6], [-7], [-8]]
def Tm.lv2 : List (List Int) := [[4, -5, -6], [-2], [-3], [-4], [-5], [-6], [0], [-8]]
theorem Tm.lm0 : Tm.MeetSays [([4, -1, 0], [4, 0, -5])] 0 true Tm.lv0 := by
  refine Tm.yes_of (by decide +kernel) (by decide +kernel) (Tm.mguOf (by decide +kernel) (fun j hj => ?_) (by decide +kernel) fun θ hθ H i hi => ?_)
  · obtain rfl : j = 0 := by simp at hj; omega
    decide +kernel
  · obtain ⟨e1, e2⟩ := Wb.split2 (a := [-1]) (b := [0]) (c := [0]) (d := [-5]) hθ (by decide +kernel) (by decide +kernel) (H 0 (by simp))
    rw [Wb.App1 θ (by omega)] at e1
    match i, hi with
    | 0, _ => exact e1
    | 1, _ => exact (Wb.App1 θ (by omega)).symm
    | 2, _ => exact (Wb.App1 θ (by omega)).symm
    | 3, _ => exact (Wb.App1 θ (by omega)).symm
    | 4, _ => exact (Wb.App1 θ (by omega)).symm.trans e2.symm
    | 5, _ => exact (Wb.App1 θ (by omega)).symm
    | 6, _ => exact (Wb.App1 θ (by omega)).symm
    | 7, _ => exact (Wb.App1 θ (by omega)).symm
theorem Tm.lm1 : Tm.MeetSays [([4, -1, 0], [4, 2, -5, -5])] 0 true Tm.lv1 := by
  refine Tm.yes_of (by decide +kernel) (by decide +kernel) (Tm.mguOf (by decide +kernel) (fun j hj => ?_) (by decide +kernel) fun θ hθ H i hi => ?_)
  · obtain rfl : j = 0 := by simp at hj; omega
    decide +kernel
  · obtain ⟨e1, e2⟩ := Wb.split2 (a := [-1]) (b := [0]) (c := [2, -5]) (d := [-5]) hθ (by decide +kernel) (by decide +kernel) (H 0 (by simp))
    rw [Wb.App1 θ (by omega)] at e1
    have e3 : Wb.App θ [2, -5] = Wb.App θ [2, 0] := by
      rw [Wb.App_cons θ 2 [-5], Wb.App_cons θ 2 [0], e2]
    match i, hi with
    | 0, _ => exact e1.trans e3
    | 1, _ => exact (Wb.App1 θ (by omega)).symm
    | 2, _ => exact (Wb.App1 θ (by omega)).symm
    | 3, _ => exact (Wb.App1 θ (by omega)).symm
    | 4, _ => exact (Wb.App1 θ (by omega)).symm.trans e2.symm
    | 5, _ => exact (Wb.App1 θ (by omega)).symm
    | 6, _ => exact (Wb.App1 θ (by omega)).symm
    | 7, _ => exact (Wb.App1 θ (by omega)).symm
theorem Tm.lm2 : Tm.MeetSays [([4, -1, 0], [4, 4, -5, -6, -7])] 0 true Tm.lv2 := by
  refine Tm.yes_of (by decide +kernel) (by decide +kernel) (Tm.mguOf (by decide +kernel) (fun j hj => ?_) (by decide +kernel) fun θ hθ H i hi => ?_)
  · obtain rfl : j = 0 := by simp at hj; omega
    decide +kernel
  · obtain ⟨e1, e2⟩ := Wb.split2 (a := [-1]) (b := [0]) (c := [4, -5, -6]) (d := [-7]) hθ (by decide +kernel) (by decide +kernel) (H 0 (by simp))
    rw [Wb.App1 θ (by omega)] at e1
    match i, hi with
    | 0, _ => exact e1
    | 1, _ => exact (Wb.App1 θ (by omega)).symm
    | 2, _ => exact (Wb.App1 θ (by omega)).symm
    | 3, _ => exact (Wb.App1 θ (by omega)).symm
    | 4, _ => exact (Wb.App1 θ (by omega)).symm
    | 5, _ => exact (Wb.App1 θ (by omega)).symm
    | 6, _ => exact (Wb.App1 θ (by omega)).symm.trans e2.symm
    | 7, _ => exact (Wb.App1 θ (by omega)).symm
def Tm.lt0 : List Int := [4, -1, 0]
def Tm.lo (k i : Nat) : LeanL := if i = 0 then (match k with | 0 => [(0, 0, Tm.lv0, [0])] | 1 => [(1, 0, Tm.lv1, [0])] | _ => [(2, 0, Tm.lv2, [4, -5, 4, -6, 0])]) else []
theorem Tm.lo_at : ∀ k, k < 3 → ∀ i, i < 3 → Tm.LnAt Tm.lt0 k (Tm.others (groupL[k]?.getD ([], [])).1) (Tm.others (groupL[k]?.getD ([], [])).2) i (Tm.lo k i) := by
  intro k hk i hi
  match k, hk, i, hi with
  | 0, _, 0, _ => exact .inr (.inr ⟨by decide, Tm.lv0, Tm.lm0, by decide +kernel, by decide +kernel⟩)
  | 1, _, 0, _ => exact .inr (.inr ⟨by decide, Tm.lv1, Tm.lm1, by decide +kernel, by decide +kernel⟩)
  | 2, _, 0, _ => exact .inr (.inr ⟨by decide, Tm.lv2, Tm.lm2, by decide +kernel, by decide +kernel⟩)
  | 0, _, 1, _ => exact .inl ⟨by decide, rfl⟩
  | 1, _, 1, _ => exact .inl ⟨by decide, rfl⟩
  | 2, _, 1, _ => exact .inl ⟨by decide, rfl⟩
  | 0, _, 2, _ => exact .inr (.inl ⟨by decide, ⟨[], Tm.no_of (by decide +kernel) (by decide +kernel)⟩, rfl⟩)
  | 1, _, 2, _ => exact .inr (.inl ⟨by decide, ⟨[], Tm.no_of (by decide +kernel) (by decide +kernel)⟩, rfl⟩)
  | 2, _, 2, _ => exact .inr (.inl ⟨by decide, ⟨[], Tm.no_of (by decide +kernel) (by decide +kernel)⟩, rfl⟩)
def Tm.lans : LeanL := [(0, 0, Tm.lv0, [0]), (1, 0, Tm.lv1, [0]), (2, 0, Tm.lv2, [4, -5, 4, -6, 0])]
theorem Tm.lok : Tm.LeanOk groupL Tm.lt0 Tm.lans := by
  refine ⟨fun k hk i hi => ⟨_, Tm.lo_at k hk i hi⟩, ?_, fun x => ?_⟩
  · unfold Tm.lans
    simp [LnLt]
  · constructor
    · intro hx
      unfold Tm.lans at hx
      simp only [List.mem_cons, List.not_mem_nil, or_false] at hx
      rcases hx with rfl | rfl | rfl
      · exact ⟨0, 0, _, by decide, by decide, Tm.lo_at 0 (by decide) 0 (by decide), by simp [Tm.lo]⟩
      · exact ⟨1, 0, _, by decide, by decide, Tm.lo_at 1 (by decide) 0 (by decide), by simp [Tm.lo]⟩
      · exact ⟨2, 0, _, by decide, by decide, Tm.lo_at 2 (by decide) 0 (by decide), by simp [Tm.lo]⟩
    · rintro ⟨k, i, o, hk, hi, ho, hx⟩
      rw [ho.one (Tm.lo_at k hk i hi)] at hx
      unfold Tm.lo at hx
      by_cases h0 : i = 0
      · rw [if_pos h0] at hx
        have hk3 : k < 3 := hk
        match k, hk3 with
        | 0, _ => simp only [List.mem_cons, List.not_mem_nil, or_false] at hx; subst hx; simp [Tm.lans]
        | 1, _ => simp only [List.mem_cons, List.not_mem_nil, or_false] at hx; subst hx; simp [Tm.lans]
        | 2, _ => simp only [List.mem_cons, List.not_mem_nil, or_false] at hx; subst hx; simp [Tm.lans]
      · rw [if_neg h0] at hx
        cases hx
theorem Tm.LeanSays.right {rs : RuleL} {t : List Int} {er : Int} {l l0 : LeanL} (h : Tm.LeanSays rs t er l) (he : Tm.leanErr rs t = 0) (h0 : Tm.LeanOk rs t l0) : er = 0 ∧ l = l0 := by
  rcases h with ⟨h, _⟩ | ⟨_, ⟨rfl, h⟩ | ⟨⟨k, i, hk, hi, hb⟩, rfl⟩⟩
  · exact absurd he h
  · exact ⟨rfl, lnLt_sorted h.2.1 h0.2.1 fun x => (h.2.2 x).trans (h0.2.2 x).symm⟩
  · obtain ⟨o, ho⟩ := h0.1 k hk i hi
    exact (ho.not hb).elim
theorem Tm.lfirst {er : Int} {l : LeanL} (h : Tm.LeanSays groupL Tm.lt0 er l) : er = 0 ∧ l = Tm.lans := h.right (by decide +kernel) Tm.lok
theorem Tm.lsecond {er : Int} {l : LeanL} (h : Tm.LeanSays groupL [2, -5] er l) : er = 3 ∧ l = [] := by
  rcases h with ⟨_, h, h'⟩ | ⟨h, _⟩
  · exact ⟨h.trans (by decide +kernel), h'⟩
  · exact absurd h (by decide +kernel)
end Go.Proofs.Ytgeknojpcjadkaa
namespace Go.Proofs.Ytgeknojpcjadkaa
open Go.Proofs Go.RowKit Go.Shelf Go.Maps
theorem g_lean1 (ar : Option Addr) (w : World) (hR : RulesAt w.heap.size w ar groupL) :
    Calls Try.prog 31 #[.slice ar 3 3, .slice (some ⟨w.heap.size, 0, none⟩) 3 3] (w.alloc (.cells #[.int .i64 4, .int .i64 (-1), .int .i64 0] 3)) fun e w' => ∃ v, e = .returned (.tuple #[v, .int .i64 0]) ∧ NewL w.heap.size w' v Tm.lans ∧ Below w.heap.size w w' := by
  have hB : Below w.heap.size w (w.alloc (.cells #[.int .i64 4, .int .i64 (-1), .int .i64 0] 3)) := (Below.refl _ _).alloc (Nat.le_refl _) _
  refine (leanAll_any groupL Tm.lt0 ar (some ⟨w.heap.size, 0, none⟩) 3 3 _ ((hR.below hB).mono hB.size) (ints_lit w Tm.lt0 _ (by simp)) (by decide) (by decide)).mono ?_
  rintro e w' ⟨er, l, v, hs, rfl, n, B⟩
  obtain ⟨rfl, rfl⟩ := Tm.lfirst hs
  exact ⟨v, rfl, n.mono hB.size, hB.trans (B.mono hB.size)⟩
theorem g_lean2 (ar : Option Addr) (w : World) (hR : RulesAt w.heap.size w ar groupL) :
    Calls Try.prog 31 #[.slice ar 3 3, .slice (some ⟨w.heap.size, 0, none⟩) 2 2] (w.alloc (.cells #[.int .i64 2, .int .i64 (-5)] 3)) fun e w' => (∃ a c, e = .returned (.tuple #[.slice a 0 c, .int .i64 3])) ∧ Below w.heap.size w w' := by
  have hB : Below w.heap.size w (w.alloc (.cells #[.int .i64 2, .int .i64 (-5)] 3)) := (Below.refl _ _).alloc (Nat.le_refl _) _
  refine (leanAll_any groupL [2, -5] ar (some ⟨w.heap.size, 0, none⟩) 3 2 _ ((hR.below hB).mono hB.size) (ints_lit w [2, -5] _ (by simp)) (by decide) (by decide)).mono ?_
  rintro e w' ⟨er, l, v, hs, rfl, n, B⟩
  obtain ⟨rfl, rfl⟩ := Tm.lsecond hs
  obtain ⟨a, c, rfl⟩ := n.slice
  exact ⟨⟨a, c, rfl⟩, hB.trans (B.mono hB.size)⟩
theorem l_first {base : Nat} {w : World} {v : Value} (h : NewL base w v Tm.lans) : ∃ g cap aS bS cS aT cT aS2 bS2 cS2 aT2 cT2 a1 k1 a2 k2, v = .slice (some ⟨g, 0, none⟩) 3 cap ∧
    w.cell? ⟨g, 0, none⟩ = some (.int .i64 0) ∧ w.cell? ⟨g, 1, none⟩ = some (.int .i64 0) ∧ w.cell? ⟨g, 2, none⟩ = some (.slice (some ⟨aS, bS, none⟩) 8 cS) ∧ w.cell? ⟨g, 3, none⟩ = some (.slice aT 1 cT) ∧
    w.cell? ⟨g, 4, none⟩ = some (.int .i64 1) ∧ w.cell? ⟨g, 6, none⟩ = some (.slice (some ⟨aS2, bS2, none⟩) 8 cS2) ∧ w.cell? ⟨g, 7, none⟩ = some (.slice aT2 1 cT2) ∧ w.cell? ⟨g, 8, none⟩ = some (.int .i64 2) ∧
    w.cell? ⟨aS, bS, none⟩ = some (.slice a1 1 k1) ∧ Ints w.heap.size w a1 [0] ∧ w.cell? ⟨aS2, bS2, none⟩ = some (.slice a2 2 k2) ∧ Ints w.heap.size w a2 [2, 0] ∧ Ints w.heap.size w aT [0] ∧ Ints w.heap.size w aT2 [0] := by
  obtain ⟨g, cap, x0, y0, x1, y1, e, _, c0, c1, c2, c3, hS, hI, _⟩ := h.elem (k := 0) (by decide)
  obtain ⟨_, _, x2, y2, x3, y3, e', _, d0, _, d2, d3, hS', hI', _⟩ := h.elem (k := 1) (by decide)
  obtain ⟨_, _, _, _, _, _, e'', _, f0, _⟩ := h.elem (k := 2) (by decide)
  rw [e] at e' e''
  cases e'
  cases e''
  obtain ⟨b, off, aj, cj, rfl, _, hc, hj, _⟩ := hS.subs 0 (by decide)
  obtain ⟨b2, off2, aj2, cj2, rfl, _, hc2, hj2, _⟩ := hS'.subs 0 (by decide)
  exact ⟨g, cap, b, off, y0, x1, y1, b2, off2, y2, x3, y3, aj, cj, aj2, cj2, e, c0, c1, c2, c3, d0, d2, d3, f0, hc, hj, hc2, hj2, hI.ints, hI'.ints⟩
set_option maxRecDepth 100000 in
set_option maxHeartbeats 4000000 in
theorem leanBegun_any (w : World) : Calls Try.prog 33 #[] w fun e w' => e = .returned (.bool true) ∧ Below w.heap.size w w' := by
  have s1 := hid (fun w a c hI => g_same [0] [0] 1 1 c a w rfl rfl (by simp) hI (by simp [sameB]))
  have s2 := hid (fun w a c hI => g_same [2, 0] [2, 0] 2 2 c a w rfl rfl (by simp) hI (by simp [sameB]))
  simp only [List.map_cons, List.map_nil] at s1 s2
  go_enter Try.func33, Try.ntmps33
  go_wp2_with fail
  refine (group_any _).mono ?_
  rintro e w1 ⟨a1, rfl, hg1, b1⟩
  go_wp2_with fail
  refine (g_lean1 a1 w1 hg1).mono ?_
  rintro e w2 ⟨v2, rfl, n2, b2⟩
  obtain ⟨x2, c2, rfl⟩ := n2.slice
  have B2 := b1.trans (b2.mono b1.size)
  clear hg1 b1 b2
  go_wp2_with fail
  refine (group_any _).mono ?_
  rintro e w3 ⟨a3, rfl, hg3, b3⟩
  go_wp2_with fail
  refine (g_lean2 a3 w3 hg3).mono ?_
  rintro e w4 ⟨⟨x4, c4, rfl⟩, b4⟩
  have N4 := hid ((n2.below b3).below b4)
  have B3 := B2.trans (b3.mono B2.size)
  have B4 := B3.trans (b4.mono B3.size)
  clear hg3 b3 b4 n2 B2 B3
  obtain ⟨g, cap, aS, bS, cS, aT, cT, aS2, bS2, cS2, aT2, cT2, q1, r1, q2, r2, e, k0, k1, k2, k3, k4, k6, k7, k8, m1, i1, m2, i2, i3, i4⟩ := l_first N4.out
  simp only [Value.slice.injEq] at e
  obtain ⟨rfl, _, rfl⟩ := e
  have e3 : Hid (List.length Tm.lans = 3) := rfl
  rw [e3.out] at N4 ⊢
  go_wp2_with fail
  refine (s1.out w4 q1 r1 i1).mono ?_
  rintro e w5 ⟨rfl, b5⟩
  have N5 := hid (N4.out.below b5)
  have B5 := B4.trans (b5.mono B4.size)
  clear N4 B4 b5 k0 k1 k2 k3 k4 k6 k7 k8 m1 i1 m2 i2 i3 i4
  obtain ⟨_, _, aS, bS, cS, aT, cT, aS2, bS2, cS2, aT2, cT2, q1, r1, q2, r2, e, k0, k1, k2, k3, k4, k6, k7, k8, m1, i1, m2, i2, i3, i4⟩ := l_first N5.out
  cases e
  go_wp2_with fail
  refine (s1.out w5 aT cT i3).mono ?_
  rintro e w6 ⟨rfl, b6⟩
  have N6 := hid (N5.out.below b6)
  have B6 := B5.trans (b6.mono B5.size)
  clear N5 B5 b6 k0 k1 k2 k3 k4 k6 k7 k8 m1 i1 m2 i2 i3 i4
  obtain ⟨_, _, aS, bS, cS, aT, cT, aS2, bS2, cS2, aT2, cT2, q1, r1, q2, r2, e, k0, k1, k2, k3, k4, k6, k7, k8, m1, i1, m2, i2, i3, i4⟩ := l_first N6.out
  cases e
  go_wp2_with fail
  refine (s2.out w6 q2 r2 i2).mono ?_
  rintro e w7 ⟨rfl, b7⟩
  have N7 := hid (N6.out.below b7)
  have B7 := B6.trans (b7.mono B6.size)
  clear N6 B6 b7 k0 k1 k2 k3 k4 k6 k7 k8 m1 i1 m2 i2 i3 i4
  obtain ⟨_, _, aS, bS, cS, aT, cT, aS2, bS2, cS2, aT2, cT2, q1, r1, q2, r2, e, k0, k1, k2, k3, k4, k6, k7, k8, m1, i1, m2, i2, i3, i4⟩ := l_first N7.out
  cases e
  go_wp2_with fail
  refine (s1.out w7 aT2 cT2 i4).mono ?_
  rintro e w8 ⟨rfl, b8⟩
  have N8 := hid (N7.out.below b8)
  have B8 := B7.trans (b8.mono B7.size)
  clear N7 B7 b8 k0 k1 k2 k3 k4 k6 k7 k8 m1 i1 m2 i2 i3 i4
  obtain ⟨_, _, aS, bS, cS, aT, cT, aS2, bS2, cS2, aT2, cT2, q1, r1, q2, r2, e, k0, k1, k2, k3, k4, k6, k7, k8, m1, i1, m2, i2, i3, i4⟩ := l_first N8.out
  cases e
  go_wp2
  go_ret
  exact ⟨rfl, B8⟩
def Tm.sum (g : Nat → Nat) : Nat → Nat
  | 0 => 0
  | n + 1 => Tm.sum g n + g n
structure Tm.Step1 (L R t u : List Int) (a : Nat) (m : Asg) : Prop where
  fit : Tm.fit L (Tm.part t a) = some m
  goes : u = Tm.put t a (Tm.applied (Tm.fitL m 8) R)
  small : u.length ≤ 30
theorem Tm.put_self (t : List Int) (a : Nat) : Tm.put t a (Tm.part t a) = t := by rw [Tm.put_eq]; exact (Tm.split t a).symm
theorem Tm.Step1.parts {L R t u : List Int} {a : Nat} {m : Asg} (h : Tm.Step1 L R t u a m) (hL : Tm.err L = 0) (hR : Tm.err R = 0) (ht : Tm.err t = 0) (ha : a < t.length) :
    Terms (Tm.fitL m 8) ∧ Tm.applied (Tm.fitL m 8) L = Tm.part t a ∧ Tm.err (Tm.applied (Tm.fitL m 8) R) = 0 ∧ Tm.err u = 0 := by
  have hs := Terms.of (Tm.subErr_fitL hL (Tm.part_err ht ha) h.fit)
  have hl := h.small
  have hle := Tm.applied_put_le (t := t) (u := Tm.applied (Tm.fitL m 8) R) (a := a)
  rw [← h.goes] at hle
  have hu := Tm.err_applied hs hR (by omega)
  refine ⟨hs, Tm.fit_makes hL (Tm.part_err ht ha) h.fit, hu, ?_⟩
  rw [h.goes]
  exact Tm.put_err ht hu ha (by rw [← h.goes]; exact hl)
theorem Tm.Step1.below {r : Int → Int} {L R t u : List Int} {a : Nat} {m : Asg} (h : Tm.Step1 L R t u a m) (hL : Tm.err L = 0) (hR : Tm.err R = 0) (ht : Tm.err t = 0) (ha : a < t.length) (hg : Tm.Gt r L R) : Tm.Gt r t u := by
  obtain ⟨hs, e1, e2, _⟩ := h.parts hL hR ht ha
  have h1 := Tm.Gt.stays hs hg hL hR
  have h2 := Tm.Gt.within h1 (by rw [e1]; exact Tm.part_err ht ha) e2 _ t a (Nat.lt_succ_self _) ht ha
  rw [e1, Tm.put_self, ← h.goes] at h2
  exact h2
theorem Tm.hasB_mem {zs : List Int} {x : Int} (h : Tm.hasB zs x = true) : x ∈ zs := by
  unfold Tm.hasB at h
  simpa using h
theorem len_no {n : Nat} (h : n ≠ 0) : ((n : Int) == 0) = false := by rw [beq_eq_false_iff_ne]; omega
theorem len_yes {n : Nat} (h : n = 0) : ((n : Int) == 0) = true := by rw [beq_iff_eq]; omega
def Tm.fm (rs : RuleL) : Nat → List Int → Nat → List Int × Nat × Int
  | 0, _, _ => ([], 0, 2)
  | f + 1, t, k => if Tm.stepErr rs t = 0 then (match Tm.stepVal rs t with | [] => (t, k, 0) | s :: _ => Tm.fm rs f s.2.2 (k + 1)) else ([], 0, Tm.stepErr rs t)
def Tm.form (rs : RuleL) (t : List Int) : List Int × Nat × Int := Tm.fm rs 61 t 0
def Tm.vl (A : Int → Nat → Nat → Nat) (vs : Nat → Nat) : Nat → List Int → Nat
  | 0, x => if Tm.sym x < 0 then vs (-1 - Tm.sym x).toNat else A (Tm.sym x) 0 0
  | n + 1, x => if Tm.sym x < 0 then vs (-1 - Tm.sym x).toNat else A (Tm.sym x) (if 0 < Tm.room (Tm.sym x) then Tm.vl A vs n (Tm.kid x 0) else 0) (if 1 < Tm.room (Tm.sym x) then Tm.vl A vs n (Tm.kid x 1) else 0)
theorem Tm.no_kid {x : List Int} (h : x.length = 0) (m : Nat) : ¬ m < Tm.room (Tm.sym x) := fun hm => by
  have := Tm.kid_short hm
  omega
theorem Tm.vl_more {A : Int → Nat → Nat → Nat} {vs : Nat → Nat} : ∀ (n m : Nat) (x : List Int), x.length ≤ n → x.length ≤ m → Tm.vl A vs n x = Tm.vl A vs m x := by
  intro n
  induction n with
  | zero =>
    intro m x h _
    cases m with
    | zero => rfl
    | succ m => rw [Tm.vl, Tm.vl, if_neg (Tm.no_kid (by omega) 0), if_neg (Tm.no_kid (by omega) 1)]
  | succ n ih =>
    intro m x h h'
    cases m with
    | zero => rw [Tm.vl, Tm.vl, if_neg (Tm.no_kid (by omega) 0), if_neg (Tm.no_kid (by omega) 1)]
    | succ m =>
      rw [Tm.vl, Tm.vl]
      by_cases hs : Tm.sym x < 0
      · rw [if_pos hs, if_pos hs]
      · rw [if_neg hs, if_neg hs]
        have hk : ∀ i, i < Tm.room (Tm.sym x) → Tm.vl A vs n (Tm.kid x i) = Tm.vl A vs m (Tm.kid x i) := fun i hi => by
          have := Tm.kid_short hi
          exact ih m _ (by omega) (by omega)
        congr 1
        · by_cases h0 : 0 < Tm.room (Tm.sym x)
          · rw [if_pos h0, if_pos h0, hk 0 h0]
          · rw [if_neg h0, if_neg h0]
        · by_cases h0 : 1 < Tm.room (Tm.sym x)
          · rw [if_pos h0, if_pos h0, hk 1 h0]
          · rw [if_neg h0, if_neg h0]
def Tm.val (A : Int → Nat → Nat → Nat) (vs : Nat → Nat) (x : List Int) : Nat := Tm.vl A vs x.length x
theorem Tm.val_var {A : Int → Nat → Nat → Nat} {vs : Nat → Nat} {x : List Int} (h : Tm.sym x < 0) : Tm.val A vs x = vs (-1 - Tm.sym x).toNat := by
  unfold Tm.val
  cases x.length with
  | zero => rw [Tm.vl, if_pos h]
  | succ n => rw [Tm.vl, if_pos h]
theorem Tm.val_sym {A : Int → Nat → Nat → Nat} {vs : Nat → Nat} {x : List Int} (h : ¬ Tm.sym x < 0) : Tm.val A vs x = A (Tm.sym x) (if 0 < Tm.room (Tm.sym x) then Tm.val A vs (Tm.kid x 0) else 0) (if 1 < Tm.room (Tm.sym x) then Tm.val A vs (Tm.kid x 1) else 0) := by
  have e : Tm.val A vs x = Tm.vl A vs (x.length + 1) x := Tm.vl_more _ _ x (Nat.le_refl _) (by omega)
  rw [e, Tm.vl, if_neg h]
  have hk : ∀ i, i < Tm.room (Tm.sym x) → Tm.vl A vs x.length (Tm.kid x i) = Tm.val A vs (Tm.kid x i) := fun i hi => by
    have := Tm.kid_short hi
    exact Tm.vl_more _ _ _ (by omega) (Nat.le_refl _)
  congr 1
  · by_cases h0 : 0 < Tm.room (Tm.sym x)
    · rw [if_pos h0, if_pos h0, hk 0 h0]
    · rw [if_neg h0, if_neg h0]
  · by_cases h0 : 1 < Tm.room (Tm.sym x)
    · rw [if_pos h0, if_pos h0, hk 1 h0]
    · rw [if_neg h0, if_neg h0]
theorem Tm.val_same {A : Int → Nat → Nat → Nat} {vs us : Nat → Nat} {x y : List Int} (h0 : ¬ Tm.sym x < 0) (hs : Tm.sym x = Tm.sym y) (hk : ∀ m, m < Tm.room (Tm.sym x) → Tm.val A vs (Tm.kid x m) = Tm.val A us (Tm.kid y m)) : Tm.val A vs x = Tm.val A us y := by
  rw [Tm.val_sym (x := x) h0, Tm.val_sym (x := y) (vs := us) (by rw [← hs]; exact h0), ← hs]
  congr 1
  · by_cases h : 0 < Tm.room (Tm.sym x)
    · rw [if_pos h, if_pos h, hk 0 h]
    · rw [if_neg h, if_neg h]
  · by_cases h : 1 < Tm.room (Tm.sym x)
    · rw [if_pos h, if_pos h, hk 1 h]
    · rw [if_neg h, if_neg h]
theorem Tm.val_lt {A : Int → Nat → Nat → Nat} {vs : Nat → Nat} (hA : ∀ s x y, A s x y < 3) (hv : ∀ i, vs i < 3) (x : List Int) : Tm.val A vs x < 3 := by
  by_cases h : Tm.sym x < 0
  · rw [Tm.val_var h]; exact hv _
  · rw [Tm.val_sym h]; exact hA _ _ _
theorem Tm.var_only {a : List Int} (ha : Tm.err a = 0) (h : Tm.sym a < 0) : a = [Tm.sym a] := by
  have hv := Tm.view ha
  rw [Tm.room_neg h] at hv
  simpa [Tm.kids] using hv
theorem Tm.val_applied {A : Int → Nat → Nat → Nat} {vs : Nat → Nat} {ss : List (List Int)} (hss : Terms ss) : ∀ (n : Nat) (a : List Int), a.length < n → Tm.err a = 0 → Tm.val A vs (Tm.applied ss a) = Tm.val A (fun i => Tm.val A vs (ss[i]?.getD [])) a := by
  intro n
  induction n with
  | zero => intro a h; omega
  | succ n ih =>
    intro a hn ha
    by_cases h0 : Tm.sym a < 0
    · rw [Tm.val_var h0]
      have e : Tm.applied ss a = ss[(-1 - Tm.sym a).toNat]?.getD [] := by
        conv => lhs; rw [Tm.var_only ha h0]
        rw [Tm.applied_cons]
        unfold Tm.piece
        rw [if_pos h0]
        simp [Tm.applied]
      rw [e]
    · obtain ⟨e1, e2⟩ := Tm.applied_view hss ha (by omega)
      refine Tm.val_same (by rw [e1]; exact h0) e1 fun m hm => ?_
      rw [e1] at hm
      rw [e2 m hm]
      exact ih _ (by have := Tm.kid_short hm; omega) (Tm.kid_err ha hm)
theorem Tm.val_put {A : Int → Nat → Nat → Nat} {vs : Nat → Nat} {u v : List Int} (huv : Tm.val A vs u = Tm.val A vs v) (hu : Tm.err u = 0) (hv : Tm.err v = 0) : ∀ (n : Nat) (t : List Int) (k : Nat), t.length < n → Tm.err t = 0 → k < t.length → Tm.val A vs (Tm.put t k u) = Tm.val A vs (Tm.put t k v) := by
  intro n
  induction n with
  | zero => intro t k h; omega
  | succ n ih =>
    intro t k hn ht hk
    by_cases h0 : k = 0
    · subst h0; rw [Tm.put_zero ht, Tm.put_zero ht]; exact huv
    · obtain ⟨m, hm, h1, h2⟩ := Tm.place_kid ht (by omega) hk
      obtain ⟨su, hkl, ku⟩ := Tm.put_view ht hu hm h1 h2
      obtain ⟨sv, _, kv⟩ := Tm.put_view ht hv hm h1 h2
      have hs0 : 0 ≤ Tm.sym t := Tm.Gt.pos (r := fun _ => 0) (.eq t _ m hm rfl)
      refine Tm.val_same (by rw [su]; omega) (by rw [su, sv]) fun l hl => ?_
      rw [su] at hl
      rw [ku l hl, kv l hl]
      by_cases el : l = m
      · rw [if_pos el, if_pos el]
        exact ih _ _ (by have := Tm.kid_short hm; omega) (Tm.kid_err ht hm) hkl
      · rw [if_neg el, if_neg el]
def Tm.Holds (A : Int → Nat → Nat → Nat) (a b : List Int) : Prop := ∀ vs : Nat → Nat, (∀ i, vs i < 3) → Tm.val A vs a = Tm.val A vs b
theorem Tm.Step1.val {A : Int → Nat → Nat → Nat} {vs : Nat → Nat} {L R t u : List Int} {a : Nat} {m : Asg} (h : Tm.Step1 L R t u a m) (hL : Tm.err L = 0) (hR : Tm.err R = 0) (ht : Tm.err t = 0) (ha : a < t.length) (hA : ∀ s x y, A s x y < 3) (hv : ∀ i, vs i < 3) (hh : Tm.Holds A L R) : Tm.val A vs t = Tm.val A vs u := by
  obtain ⟨hs, e1, e2, _⟩ := h.parts hL hR ht ha
  have h1 : Tm.val A vs (Tm.applied (Tm.fitL m 8) L) = Tm.val A vs (Tm.applied (Tm.fitL m 8) R) := by
    rw [Tm.val_applied hs _ L (Nat.lt_succ_self _) hL, Tm.val_applied hs _ R (Nat.lt_succ_self _) hR]
    exact hh _ (fun i => Tm.val_lt hA hv _)
  have h2 := Tm.val_put h1 (by rw [e1]; exact Tm.part_err ht ha) e2 _ t a (Nat.lt_succ_self _) ht ha
  rw [e1, Tm.put_self, ← h.goes] at h2
  exact h2
end Go.Proofs.Ytgeknojpcjadkaa
