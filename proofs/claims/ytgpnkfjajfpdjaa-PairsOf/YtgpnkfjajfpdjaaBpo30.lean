/-
  haspref.SamePairs; haspref.PairsOf.
-/
import Derived.Test.YtgpnkfjajfpdjaaBpo29
import Derived.Test.YtgpnkfjajfpdjaaBpo18
namespace Go.Proofs.Ytgpnkfjajfpdjaa
open Go.Proofs Go.RowKit Go.Shelf Go.Maps

theorem Tm.others_run (t : List Int) : ∀ n, Tm.run (Tm.others t) n = Tm.run t n := by
  induction t with
  | nil => intro n; rfl
  | cons s l ih =>
    intro n
    cases n with
    | zero => rw [Tm.run_zero, Tm.run_zero]
    | succ n =>
      show Tm.run (Tm.oth s :: Tm.others l) (n + 1) = _
      have hr : Tm.room (Tm.oth s) = Tm.room s := by
        unfold Tm.oth
        by_cases hs : s < 0
        · rw [if_pos hs, Wb.room_var hs, Wb.room_var (by omega)]
        · rw [if_neg hs]
      rw [Tm.run_cons, Tm.run_cons, hr, ih]
theorem Tm.others_err {t : List Int} (h : Tm.err t = 0) (hf : t.any foreignB = false) : Tm.err (Tm.others t) = 0 := by
  refine Tm.err_ok (by rw [Tm.others_length]; exact Tm.err_len h) ?_ (by rw [Tm.others_run, Tm.others_length]; exact Tm.err_run h)
  rw [List.all_eq_true]
  intro s hs
  obtain ⟨q, hq, rfl⟩ := List.mem_map.1 hs
  obtain ⟨h1, h2⟩ := Tm.known_mem h hq
  have h3 := List.any_eq_false.1 hf q hq
  simp only [foreignB, decide_eq_true_eq] at h3
  refine Tm.known_of ?_ ?_ <;> (unfold Tm.oth; split <;> omega)

theorem Tm.MeetSays.bad {ps : PairL} {er : Int} {is : Bool} {val : List (List Int)} (h : Tm.MeetSays ps er is val) (h0 : Tm.firstPair ps = 0) (he : er ≠ 0) : er = 2 := by
  rcases h with ⟨h1, _⟩ | ⟨_, _, h, _⟩ | ⟨_, _, _, _, h, _⟩ | ⟨_, _, _, _, h, _⟩
  · exact absurd h0 h1
  · exact absurd h he
  · exact absurd h he
  · exact h
theorem Tm.LapsErr.two {L1 R1 L2 R2 : List Int} {pass : Nat → Bool} {e : Int} (h : Tm.LapsErr L1 R1 L2 R2 pass e) (e1 : Tm.err L1 = 0) (eR : Tm.err R1 = 0) (e2 : Tm.err L2 = 0) (eR2 : Tm.err R2 = 0) : e = 2 := by
  obtain ⟨h0, m, l, hm, hl, hp, ⟨is, val, hs⟩ | ⟨val, hs, he⟩⟩ := h
  · exact hs.bad (by rw [Tm.firstPair_one, Tm.pairErr_zero]; exact ⟨Tm.part_err e1 hm, e2⟩) h0
  · obtain ⟨hsub, _⟩ := Tm.meet_true hs
    rcases Tm.prt_ref (val := val) hsub e1 eR eR2 hm with ⟨_, _, h3, _⟩ | ⟨_, h3⟩
    · rw [h3] at he; exact absurd he.symm h0
    · rw [h3] at he; exact he.symm
theorem Tm.LapsSays.one {L1 R1 L2 R2 : List Int} {pass : Nat → Bool} {e e' : Int} {ps ps' : PairL} (h : Tm.LapsSays L1 R1 L2 R2 pass e ps) (h' : Tm.LapsSays L1 R1 L2 R2 pass e' ps') (e1 : Tm.err L1 = 0) (eR : Tm.err R1 = 0) (e2 : Tm.err L2 = 0) (eR2 : Tm.err R2 = 0) : e = e' ∧ ps = ps' := by
  have h2 := h
  rcases h with ⟨rfl, hl⟩ | ⟨hb, rfl⟩
  · obtain ⟨a, b⟩ := h'.right hl
    exact ⟨a.symm, b.symm⟩
  · have h3 := h'
    rcases h' with ⟨rfl, hl⟩ | ⟨hb', rfl⟩
    · obtain ⟨a, b⟩ := h2.right hl
      exact absurd a hb.1
    · rw [hb.two e1 eR e2 eR2, hb'.two e1 eR e2 eR2]
      exact ⟨rfl, rfl⟩
theorem Tm.OfSays.one {rs : RuleL} {i j er er' : Int} {ps ps' : PairL} (h : Tm.OfSays rs i j er ps) (h' : Tm.OfSays rs i j er' ps') : er = er' ∧ ps = ps' := by
  rcases h with ⟨h1, rfl, rfl⟩ | ⟨h1, h2, rfl, rfl⟩ | ⟨h1, a, b, ha, hb, rfl, rfl, h2⟩ <;> rcases h' with ⟨k1, rfl, rfl⟩ | ⟨k1, k2, rfl, rfl⟩ | ⟨k1, c, d, hc, hd, e1, e2, k2⟩
  · exact ⟨rfl, rfl⟩
  · exact absurd k1 h1
  · exact absurd k1 h1
  · exact absurd h1 k1
  · exact ⟨rfl, rfl⟩
  · exact absurd ⟨by omega, by omega, by omega, by omega⟩ h2
  · exact absurd h1 k1
  · exact absurd ⟨by omega, by omega, by omega, by omega⟩ k2
  · obtain rfl : a = c := by omega
    obtain rfl : b = d := by omega
    obtain ⟨_, hall⟩ := Tm.rulesErr_ok h1
    obtain ⟨eL, eR, _⟩ := Tm.ruleErr_ok (hall a ha)
    obtain ⟨eL2, eR2, fL, fR, _⟩ := Tm.ruleErr_ok (hall b hb)
    exact h2.one k2 eL eR (Tm.others_err eL2 fL) (Tm.others_err eR2 fR)
theorem Tm.OfSays.empty {rs : RuleL} {i j er : Int} {ps : PairL} (h : Tm.OfSays rs i j er ps) (he : er ≠ 0) : ps = [] := by
  rcases h with ⟨_, _, h⟩ | ⟨_, _, _, h⟩ | ⟨_, a, b, ha, hb, _, _, ⟨h, _⟩ | ⟨_, h⟩⟩
  · exact h
  · exact h
  · exact absurd h he
  · exact h
theorem Tm.OfSays.lens {rs : RuleL} {i j er : Int} {ps : PairL} (h : Tm.OfSays rs i j er ps) : ps.length ≤ 1000 ∧ ∀ k, k < ps.length → (ps[k]?.getD ([], [])).1.length ≤ 1000 ∧ (ps[k]?.getD ([], [])).2.length ≤ 1000 := by
  by_cases he : er = 0
  · subst he
    obtain ⟨hr, a, ha, rfl, hl, _, hg⟩ := Tm.of_good h
    obtain ⟨_, hall⟩ := Tm.rulesErr_ok hr
    have e1 := Tm.err_len (Tm.ruleErr_ok (hall a ha)).1
    have e2 : symN (rs[a]?.getD ([], [])).1 ≤ (rs[a]?.getD ([], [])).1.length := by unfold symN; exact List.length_filter_le _ _
    refine ⟨by omega, fun k hk => ?_⟩
    obtain ⟨g1, g2, _⟩ := hg k hk
    have := Tm.err_len g1
    have := Tm.err_len g2
    omega
  · rw [h.empty he]
    exact ⟨by simp, fun k hk => by simp at hk⟩

set_option maxRecDepth 100000 in
set_option maxHeartbeats 1000000 in
/-- haspref.SamePairs, of the same ones. -/
theorem samePairs_yes (ps : PairL) (a b : Option Addr) (ca cb : Nat) (w : World) (hA : RulesAt w.heap.size w a ps) (hB : RulesAt w.heap.size w b ps) (hl : ps.length ≤ 1000) (h30 : ∀ k, k < ps.length → (ps[k]?.getD ([], [])).1.length ≤ 1000 ∧ (ps[k]?.getD ([], [])).2.length ≤ 1000) :
    Calls Try.prog 16 #[.slice a ps.length ca, .slice b ps.length cb] w fun e w' => e = .returned (.bool true) ∧ Below w.heap.size w w' := by
  have hl' : (ps.length : Int) ≤ 1000 := by omega
  have hne : ((ps.length : Int) != (ps.length : Int)) = false := by simp
  have HA := hid hA
  have HB := hid hB
  have H30 := hid h30
  clear hA hB h30
  go_enter Try.func16, Try.ntmps16
  go_wp2
  go_loopw [5] (fun i wr => ∃ k : Nat, k ≤ ps.length ∧ i = .int .i64 (k : Int) ∧ Below w.heap.size w wr) (fun i _ => ps.length - (intOf i).toNat)
  case atStart => exact ⟨0, Nat.zero_le _, rfl, Below.refl _ _⟩
  case round =>
    obtain ⟨k, hk, rfl, hBk⟩ := hrel
    by_cases hlt : k < ps.length
    · have hlt' : (k : Int) < (ps.length : Int) := by omega
      obtain ⟨b1, o1, rfl, _, aL, cL, aR, cR, c1, c2, i1, i2, _⟩ := (HA.out.below hBk) k hlt
      obtain ⟨b2, o2, rfl, _, aL2, cL2, aR2, cR2, d1, d2, j1, j2, _⟩ := (HB.out.below hBk) k hlt
      obtain ⟨l1, l2⟩ := H30.out k hlt
      have HS1 := hid (fun n : Nat => same_quiet (ps[k]?.getD ([], [])).1 (ps[k]?.getD ([], [])).1 aL aL2 cL cL2 w.heap.size (wr.drewN n) i1 j1 (by omega))
      have HS2 := hid (fun n : Nat => same_quiet (ps[k]?.getD ([], [])).2 (ps[k]?.getD ([], [])).2 aR aR2 cR cR2 w.heap.size (wr.drewN n) i2 j2 (by omega))
      rw [show sameB (ps[k]?.getD ([], [])).1 (ps[k]?.getD ([], [])).1 = true by simp [sameB]] at HS1
      rw [show sameB (ps[k]?.getD ([], [])).2 (ps[k]?.getD ([], [])).2 = true by simp [sameB]] at HS2
      clear i1 i2 j1 j2 l1 l2
      generalize (ps[k]?.getD ([], [])).1.length = n1 at *
      generalize (ps[k]?.getD ([], [])).2.length = n2 at *
      go_wp2
      go_quiet ((first
        | (go_at_call_of 12 (Value.slice aL n1 cL); exact Calls.quiet_of (HS1.out _))
        | (go_at_call_of 12 (Value.slice aR n2 cR); exact Calls.quiet_of (HS2.out _))))
      go_wp2
      go_roundw
      case rel => exact ⟨k + 1, by omega, by go_num, below_drewN hBk _⟩
      case measure => simp [intOf]; omega
    · obtain rfl : k = ps.length := by omega
      go_wp2
      go_ret
      exact ⟨rfl, hBk⟩

/-- What haspref.PairsOf answers. -/
def RefOfAns (rs : RuleL) (i j : Int) (w : World) (e : Ending) (w' : World) : Prop := Below w.heap.size w w' ∧ ∃ er ps v, Tm.OfSays rs i j er ps ∧ e = .returned (.tuple #[v, .int .i64 er]) ∧ NewQ w.heap.size w' v ps
theorem refof_idx (rs : RuleL) (i j : Nat) (hi : i < rs.length) (hj : j < rs.length) (a : Option Addr) (cap : Nat) (w : World) (hr : Tm.rulesErr rs = 0) (hR : RulesAt w.heap.size w a rs) :
    Calls Try.prog 42 #[.slice a rs.length cap, .int .i64 (i : Int), .int .i64 (j : Int)] w fun e w' => RefOfAns rs (i : Int) (j : Int) w e w' := by
  obtain ⟨h8, hall⟩ := Tm.rulesErr_ok hr
  obtain ⟨eL, eR, _⟩ := Tm.ruleErr_ok (hall i hi)
  obtain ⟨eL2, eR2, fL, fR, _⟩ := Tm.ruleErr_ok (hall j hj)
  refine (refof_right (rs[i]?.getD ([], [])).1 (rs[i]?.getD ([], [])).2 (rs[j]?.getD ([], [])).1 (rs[j]?.getD ([], [])).2 rs i j hi hj a cap w h8 hR rfl rfl eL eR eL2 eR2 (Tm.others_err eL2 fL) (Tm.others_err eR2 fR)).mono ?_
  rintro e w' ⟨hB, er, ps, v, hs, rfl, hN⟩
  exact ⟨hB, er, ps, v, .inr (.inr ⟨hr, i, j, hi, hj, rfl, rfl, hs⟩), rfl, hN⟩

set_option maxRecDepth 100000 in
set_option maxHeartbeats 1000000 in
/-- haspref.PairsOf. -/
theorem refPairsOf_any (rs : RuleL) (i j : Int) (a : Option Addr) (cap : Nat) (w : World) (hR : RulesAt w.heap.size w a rs) (hcl : rs.length ≤ maxLen) :
    Calls Try.prog 14 #[.slice a rs.length cap, .int .i64 i, .int .i64 j] w fun e w' => RefOfAns rs i j w e w' := by
  have hcl' : (rs.length : Int) ≤ 9223372036854775807 := by unfold maxLen at hcl; omega
  have hE := hid (rulesError_any rs a cap w hR)
  by_cases he : Tm.rulesErr rs = 0
  · rw [he] at hE
    by_cases hij : 0 ≤ i ∧ i < (rs.length : Int) ∧ 0 ≤ j ∧ j < (rs.length : Int)
    · obtain ⟨i', hi'⟩ : ∃ i' : Nat, i = (i' : Int) := ⟨i.toNat, by omega⟩
      obtain ⟨j', hj'⟩ : ∃ j' : Nat, j = (j' : Int) := ⟨j.toNat, by omega⟩
      subst hi' hj'
      have hC := hid (fun W (hW : Below w.heap.size w W) => refof_idx rs i' j' (by omega) (by omega) a cap W he ((hR.below hW).mono hW.size))
      have hw1 : insideB (i' : Int) 0 ((rs.length : Int) - 1) = true := by rw [insideB_iff]; omega
      have hw2 : insideB (j' : Int) 0 ((rs.length : Int) - 1) = true := by rw [insideB_iff]; omega
      have h0 : (0 : Int) < (rs.length : Int) := by omega
      clear hij he hR
      go_enter Try.func14, Try.ntmps14
      go_wp2_with fail
      refine hE.out.mono ?_
      rintro e w1 ⟨rfl, hB1⟩
      clear hE
      go_wp2_with (first
        | (go_at_call_of 41 (Value.int .i64 (i' : Int)); refine (within_any _ _ _ _).mono ?_; rw [hw1]; rintro e w1 ⟨rfl, rfl⟩)
        | (go_at_call_of 41 (Value.int .i64 (j' : Int)); refine (within_any _ _ _ _).mono ?_; rw [hw2]; rintro e w1 ⟨rfl, rfl⟩))
      refine (hC.out _ hB1).mono ?_
      rintro e w2 ⟨hB2, er, ps, v, hs, rfl, hN⟩
      obtain ⟨x, c, rfl, _⟩ := hN.at
      have Hs := hid hs
      have HN := hid hN
      clear hC hs hN
      go_wp2
      go_ret2
      exact ⟨hB1.trans (hB2.mono hB1.size), er, ps, _, Hs.out, rfl, HN.out.mono hB1.size⟩
    · have hs : Hid (Tm.OfSays rs i j 5 []) := .inr (.inl ⟨he, hij, rfl, rfl⟩)
      by_cases hi : 0 ≤ i ∧ i < (rs.length : Int)
      · have hw1 : insideB i 0 ((rs.length : Int) - 1) = true := by rw [insideB_iff]; omega
        have hw2 : insideB j 0 ((rs.length : Int) - 1) = false := by rw [Bool.eq_false_iff]; intro h; rw [insideB_iff] at h; omega
        have h0 : (0 : Int) < (rs.length : Int) := by omega
        clear hij he hR hi
        go_enter Try.func14, Try.ntmps14
        go_wp2_with fail
        refine hE.out.mono ?_
        rintro e w1 ⟨rfl, hB1⟩
        clear hE
        go_wp2_with fail
        refine (within_any _ _ _ _).mono ?_
        rw [hw1]
        rintro e w1 ⟨rfl, rfl⟩
        go_wp2_with fail
        refine (within_any _ _ _ _).mono ?_
        rw [hw2]
        rintro e w1 ⟨rfl, rfl⟩
        go_wp2
        go_ret2
        exact ⟨hB1, 5, [], _, hs.out, rfl, NewQ.nil _ _⟩
      · have hw1 : insideB i 0 ((rs.length : Int) - 1) = false := by rw [Bool.eq_false_iff]; intro h; rw [insideB_iff] at h; omega
        have h0 : (0 : Int) ≤ (rs.length : Int) := by omega
        clear hij he hR hi
        go_enter Try.func14, Try.ntmps14
        go_wp2_with fail
        refine hE.out.mono ?_
        rintro e w1 ⟨rfl, hB1⟩
        clear hE
        go_wp2_with fail
        refine (within_any _ _ _ _).mono ?_
        rw [hw1]
        rintro e w1 ⟨rfl, rfl⟩
        go_wp2
        go_ret2
        exact ⟨hB1, 5, [], _, hs.out, rfl, NewQ.nil _ _⟩
  · have hne : (Tm.rulesErr rs != 0) = true := by simpa using he
    have hs : Hid (Tm.OfSays rs i j (Tm.rulesErr rs) []) := .inl ⟨he, rfl, rfl⟩
    clear he hR
    generalize Tm.rulesErr rs = q at *
    go_enter Try.func14, Try.ntmps14
    go_wp2_with fail
    refine hE.out.mono ?_
    rintro e w1 ⟨rfl, hB1⟩
    clear hE
    go_wp2
    go_ret2
    exact ⟨hB1, q, [], _, hs.out, rfl, NewQ.nil _ _⟩

end Go.Proofs.Ytgpnkfjajfpdjaa
