/-
  haspref.SamePairs; haspref.PairsOf. · haspref.allPairs, haspref.PairsAll.
-/
import Derived.Test.YtgpnkfjajfpdjaaBpa29
import Derived.Test.YtgpnkfjajfpdjaaBpa18
namespace Go.Proofs.Ytgpnkfjajfpdjaa
open Go.Proofs Go.RowKit Go.Shelf Go.Maps

theorem Tm.others_run (t : List Int) : ∀ n, Tm.run (Tm.others t) n = Tm.run t n := by
  induction t with
  | nil => intro n; rfl
  | cons s l ih =>
    intro n
    cases n with
    | zero => rw [Tm.run_zero, Tm.run_zero]
    | succ n =>
      show Tm.run (Tm.oth s :: Tm.others l) (n + 1) = _
      have hr : Tm.room (Tm.oth s) = Tm.room s := by
        unfold Tm.oth
        by_cases hs : s < 0
        · rw [if_pos hs, Wb.room_var hs, Wb.room_var (by omega)]
        · rw [if_neg hs]
      rw [Tm.run_cons, Tm.run_cons, hr, ih]
theorem Tm.others_err {t : List Int} (h : Tm.err t = 0) (hf : t.any foreignB = false) : Tm.err (Tm.others t) = 0 := by
  refine Tm.err_ok (by rw [Tm.others_length]; exact Tm.err_len h) ?_ (by rw [Tm.others_run, Tm.others_length]; exact Tm.err_run h)
  rw [List.all_eq_true]
  intro s hs
  obtain ⟨q, hq, rfl⟩ := List.mem_map.1 hs
  obtain ⟨h1, h2⟩ := Tm.known_mem h hq
  have h3 := List.any_eq_false.1 hf q hq
  simp only [foreignB, decide_eq_true_eq] at h3
  refine Tm.known_of ?_ ?_ <;> (unfold Tm.oth; split <;> omega)

theorem Tm.MeetSays.bad {ps : PairL} {er : Int} {is : Bool} {val : List (List Int)} (h : Tm.MeetSays ps er is val) (h0 : Tm.firstPair ps = 0) (he : er ≠ 0) : er = 2 := by
  rcases h with ⟨h1, _⟩ | ⟨_, _, h, _⟩ | ⟨_, _, _, _, h, _⟩ | ⟨_, _, _, _, h, _⟩
  · exact absurd h0 h1
  · exact absurd h he
  · exact absurd h he
  · exact h
theorem Tm.LapsErr.two {L1 R1 L2 R2 : List Int} {pass : Nat → Bool} {e : Int} (h : Tm.LapsErr L1 R1 L2 R2 pass e) (e1 : Tm.err L1 = 0) (eR : Tm.err R1 = 0) (e2 : Tm.err L2 = 0) (eR2 : Tm.err R2 = 0) : e = 2 := by
  obtain ⟨h0, m, l, hm, hl, hp, ⟨is, val, hs⟩ | ⟨val, hs, he⟩⟩ := h
  · exact hs.bad (by rw [Tm.firstPair_one, Tm.pairErr_zero]; exact ⟨Tm.part_err e1 hm, e2⟩) h0
  · obtain ⟨hsub, _⟩ := Tm.meet_true hs
    rcases Tm.prt_ref (val := val) hsub e1 eR eR2 hm with ⟨_, _, h3, _⟩ | ⟨_, h3⟩
    · rw [h3] at he; exact absurd he.symm h0
    · rw [h3] at he; exact he.symm
theorem Tm.LapsSays.one {L1 R1 L2 R2 : List Int} {pass : Nat → Bool} {e e' : Int} {ps ps' : PairL} (h : Tm.LapsSays L1 R1 L2 R2 pass e ps) (h' : Tm.LapsSays L1 R1 L2 R2 pass e' ps') (e1 : Tm.err L1 = 0) (eR : Tm.err R1 = 0) (e2 : Tm.err L2 = 0) (eR2 : Tm.err R2 = 0) : e = e' ∧ ps = ps' := by
  have h2 := h
  rcases h with ⟨rfl, hl⟩ | ⟨hb, rfl⟩
  · obtain ⟨a, b⟩ := h'.right hl
    exact ⟨a.symm, b.symm⟩
  · have h3 := h'
    rcases h' with ⟨rfl, hl⟩ | ⟨hb', rfl⟩
    · obtain ⟨a, b⟩ := h2.right hl
      exact absurd a hb.1
    · rw [hb.two e1 eR e2 eR2, hb'.two e1 eR e2 eR2]
      exact ⟨rfl, rfl⟩
theorem Tm.OfSays.one {rs : RuleL} {i j er er' : Int} {ps ps' : PairL} (h : Tm.OfSays rs i j er ps) (h' : Tm.OfSays rs i j er' ps') : er = er' ∧ ps = ps' := by
  rcases h with ⟨h1, rfl, rfl⟩ | ⟨h1, h2, rfl, rfl⟩ | ⟨h1, a, b, ha, hb, rfl, rfl, h2⟩ <;> rcases h' with ⟨k1, rfl, rfl⟩ | ⟨k1, k2, rfl, rfl⟩ | ⟨k1, c, d, hc, hd, e1, e2, k2⟩
  · exact ⟨rfl, rfl⟩
  · exact absurd k1 h1
  · exact absurd k1 h1
  · exact absurd h1 k1
  · exact ⟨rfl, rfl⟩
  · exact absurd ⟨by omega, by omega, by omega, by omega⟩ h2
  · exact absurd h1 k1
  · exact absurd ⟨by omega, by omega, by omega, by omega⟩ k2
  · obtain rfl : a = c := by omega
    obtain rfl : b = d := by omega
    obtain ⟨_, hall⟩ := Tm.rulesErr_ok h1
    obtain ⟨eL, eR, _⟩ := Tm.ruleErr_ok (hall a ha)
    obtain ⟨eL2, eR2, fL, fR, _⟩ := Tm.ruleErr_ok (hall b hb)
    exact h2.one k2 eL eR (Tm.others_err eL2 fL) (Tm.others_err eR2 fR)
theorem Tm.OfSays.empty {rs : RuleL} {i j er : Int} {ps : PairL} (h : Tm.OfSays rs i j er ps) (he : er ≠ 0) : ps = [] := by
  rcases h with ⟨_, _, h⟩ | ⟨_, _, _, h⟩ | ⟨_, a, b, ha, hb, _, _, ⟨h, _⟩ | ⟨_, h⟩⟩
  · exact h
  · exact h
  · exact absurd h he
  · exact h
theorem Tm.OfSays.lens {rs : RuleL} {i j er : Int} {ps : PairL} (h : Tm.OfSays rs i j er ps) : ps.length ≤ 1000 ∧ ∀ k, k < ps.length → (ps[k]?.getD ([], [])).1.length ≤ 1000 ∧ (ps[k]?.getD ([], [])).2.length ≤ 1000 := by
  by_cases he : er = 0
  · subst he
    obtain ⟨hr, a, ha, rfl, hl, _, hg⟩ := Tm.of_good h
    obtain ⟨_, hall⟩ := Tm.rulesErr_ok hr
    have e1 := Tm.err_len (Tm.ruleErr_ok (hall a ha)).1
    have e2 : symN (rs[a]?.getD ([], [])).1 ≤ (rs[a]?.getD ([], [])).1.length := by unfold symN; exact List.length_filter_le _ _
    refine ⟨by omega, fun k hk => ?_⟩
    obtain ⟨g1, g2, _⟩ := hg k hk
    have := Tm.err_len g1
    have := Tm.err_len g2
    omega
  · rw [h.empty he]
    exact ⟨by simp, fun k hk => by simp at hk⟩

set_option maxRecDepth 100000 in
set_option maxHeartbeats 1000000 in
/-- haspref.SamePairs, of the same ones. -/
theorem samePairs_yes (ps : PairL) (a b : Option Addr) (ca cb : Nat) (w : World) (hA : RulesAt w.heap.size w a ps) (hB : RulesAt w.heap.size w b ps) (hl : ps.length ≤ 1000) (h30 : ∀ k, k < ps.length → (ps[k]?.getD ([], [])).1.length ≤ 1000 ∧ (ps[k]?.getD ([], [])).2.length ≤ 1000) :
    Calls Try.prog 16 #[.slice a ps.length ca, .slice b ps.length cb] w fun e w' => e = .returned (.bool true) ∧ Below w.heap.size w w' := by
  have hl' : (ps.length : Int) ≤ 1000 := by omega
  have hne : ((ps.length : Int) != (ps.length : Int)) = false := by simp
  have HA := hid hA
  have HB := hid hB
  have H30 := hid h30
  clear hA hB h30
  go_enter Try.func16, Try.ntmps16
  go_wp2
  go_loopw [5] (fun i wr => ∃ k : Nat, k ≤ ps.length ∧ i = .int .i64 (k : Int) ∧ Below w.heap.size w wr) (fun i _ => ps.length - (intOf i).toNat)
  case atStart => exact ⟨0, Nat.zero_le _, rfl, Below.refl _ _⟩
  case round =>
    obtain ⟨k, hk, rfl, hBk⟩ := hrel
    by_cases hlt : k < ps.length
    · have hlt' : (k : Int) < (ps.length : Int) := by omega
      obtain ⟨b1, o1, rfl, _, aL, cL, aR, cR, c1, c2, i1, i2, _⟩ := (HA.out.below hBk) k hlt
      obtain ⟨b2, o2, rfl, _, aL2, cL2, aR2, cR2, d1, d2, j1, j2, _⟩ := (HB.out.below hBk) k hlt
      obtain ⟨l1, l2⟩ := H30.out k hlt
      have HS1 := hid (fun n : Nat => same_quiet (ps[k]?.getD ([], [])).1 (ps[k]?.getD ([], [])).1 aL aL2 cL cL2 w.heap.size (wr.drewN n) i1 j1 (by omega))
      have HS2 := hid (fun n : Nat => same_quiet (ps[k]?.getD ([], [])).2 (ps[k]?.getD ([], [])).2 aR aR2 cR cR2 w.heap.size (wr.drewN n) i2 j2 (by omega))
      rw [show sameB (ps[k]?.getD ([], [])).1 (ps[k]?.getD ([], [])).1 = true by simp [sameB]] at HS1
      rw [show sameB (ps[k]?.getD ([], [])).2 (ps[k]?.getD ([], [])).2 = true by simp [sameB]] at HS2
      clear i1 i2 j1 j2 l1 l2
      generalize (ps[k]?.getD ([], [])).1.length = n1 at *
      generalize (ps[k]?.getD ([], [])).2.length = n2 at *
      go_wp2
      go_quiet ((first
        | (go_at_call_of 12 (Value.slice aL n1 cL); exact Calls.quiet_of (HS1.out _))
        | (go_at_call_of 12 (Value.slice aR n2 cR); exact Calls.quiet_of (HS2.out _))))
      go_wp2
      go_roundw
      case rel => exact ⟨k + 1, by omega, by go_num, below_drewN hBk _⟩
      case measure => simp [intOf]; omega
    · obtain rfl : k = ps.length := by omega
      go_wp2
      go_ret
      exact ⟨rfl, hBk⟩

/-- What haspref.PairsOf answers. -/
def RefOfAns (rs : RuleL) (i j : Int) (w : World) (e : Ending) (w' : World) : Prop := Below w.heap.size w w' ∧ ∃ er ps v, Tm.OfSays rs i j er ps ∧ e = .returned (.tuple #[v, .int .i64 er]) ∧ NewQ w.heap.size w' v ps
theorem refof_idx (rs : RuleL) (i j : Nat) (hi : i < rs.length) (hj : j < rs.length) (a : Option Addr) (cap : Nat) (w : World) (hr : Tm.rulesErr rs = 0) (hR : RulesAt w.heap.size w a rs) :
    Calls Try.prog 42 #[.slice a rs.length cap, .int .i64 (i : Int), .int .i64 (j : Int)] w fun e w' => RefOfAns rs (i : Int) (j : Int) w e w' := by
  obtain ⟨h8, hall⟩ := Tm.rulesErr_ok hr
  obtain ⟨eL, eR, _⟩ := Tm.ruleErr_ok (hall i hi)
  obtain ⟨eL2, eR2, fL, fR, _⟩ := Tm.ruleErr_ok (hall j hj)
  refine (refof_right (rs[i]?.getD ([], [])).1 (rs[i]?.getD ([], [])).2 (rs[j]?.getD ([], [])).1 (rs[j]?.getD ([], [])).2 rs i j hi hj a cap w h8 hR rfl rfl eL eR eL2 eR2 (Tm.others_err eL2 fL) (Tm.others_err eR2 fR)).mono ?_
  rintro e w' ⟨hB, er, ps, v, hs, rfl, hN⟩
  exact ⟨hB, er, ps, v, .inr (.inr ⟨hr, i, j, hi, hj, rfl, rfl, hs⟩), rfl, hN⟩

end Go.Proofs.Ytgpnkfjajfpdjaa

namespace Go.Proofs.Ytgpnkfjajfpdjaa
open Go.Proofs Go.RowKit Go.Shelf Go.Maps

theorem Tm.AllTo.pre {rs : RuleL} {n m : Nat} {L : PairL} (h : Tm.AllTo rs n m L) : (∀ i j, j ≤ rs.length → (i < n ∨ (i = n ∧ j ≤ m)) → ∃ l, Tm.AllTo rs i j l ∧ l.length ≤ L.length) ∧ (∀ i j, j < rs.length → (i < n ∨ (i = n ∧ j < m)) → ∃ ps, Tm.OfSays rs (i : Int) (j : Int) 0 ps) := by
  induction h with
  | zero =>
    refine ⟨fun i j _ h => ?_, fun i j _ h => by omega⟩
    obtain ⟨rfl, rfl⟩ : i = 0 ∧ j = 0 := by omega
    exact ⟨[], .zero, Nat.le_refl _⟩
  | @next n m L0 ps h hm hs ih =>
    refine ⟨fun i j hj hb => ?_, fun i j hj hb => ?_⟩
    · by_cases e : i = n ∧ j = m + 1
      · obtain ⟨rfl, rfl⟩ := e
        exact ⟨_, .next h hm hs, Nat.le_refl _⟩
      · obtain ⟨l, h1, h2⟩ := ih.1 i j hj (by omega)
        exact ⟨l, h1, by rw [List.length_append]; omega⟩
    · by_cases e : i = n ∧ j = m
      · obtain ⟨rfl, rfl⟩ := e
        exact ⟨ps, hs⟩
      · exact ih.2 i j hj (by omega)
  | @row n L0 h ih =>
    refine ⟨fun i j hj hb => ?_, fun i j hj hb => ?_⟩
    · by_cases e : i = n + 1
      · subst e
        obtain rfl : j = 0 := by omega
        exact ⟨_, .row h, Nat.le_refl _⟩
      · exact ih.1 i j hj (by omega)
    · exact ih.2 i j hj (by omega)
theorem Tm.OfSays.bad {rs : RuleL} {i j : Nat} {er : Int} {ps : PairL} (h : Tm.OfSays rs (i : Int) (j : Int) er ps) (hi : i < rs.length) (hj : j < rs.length) (he : er ≠ 0) : er = if Tm.rulesErr rs = 0 then 2 else Tm.rulesErr rs := by
  rcases h with ⟨h1, rfl, _⟩ | ⟨h1, h2, _, _⟩ | ⟨h1, a, b, ha, hb, ea, eb, h2⟩
  · rw [if_neg h1]
  · exact absurd ⟨by omega, by omega, by omega, by omega⟩ h2
  · rw [if_pos h1]
    obtain ⟨_, hall⟩ := Tm.rulesErr_ok h1
    obtain ⟨eL, eR, _⟩ := Tm.ruleErr_ok (hall a ha)
    obtain ⟨eL2, eR2, fL, fR, _⟩ := Tm.ruleErr_ok (hall b hb)
    rcases h2 with ⟨h3, _⟩ | ⟨h3, _⟩
    · exact absurd h3 he
    · exact h3.two eL eR (Tm.others_err eL2 fL) (Tm.others_err eR2 fR)
theorem Tm.AllTo.one {rs : RuleL} {n m : Nat} {L : PairL} (h : Tm.AllTo rs n m L) : n ≤ rs.length → ∀ {L'}, Tm.AllTo rs n m L' → L = L' := by
  induction h with
  | zero => intro _ L' h'; cases h'; rfl
  | @next n m L0 ps h hm hs ih =>
    intro hn L' h'
    cases h' with
    | next h2 _ hs2 => rw [ih hn h2, (hs.one hs2).2]
  | @row n L0 h ih =>
    intro hn L' h'
    cases h' with
    | row h2 => exact ih (by omega) h2
/-- What the reference's answer to all pairs may be. -/
def Tm.RefAll (rs : RuleL) (er : Int) (ps : PairL) : Prop := Tm.AllPSays rs er ps ∨ (Tm.rulesErr rs = 0 ∧ er = 2 ∧ ps = [] ∧ ∃ i j l, i < rs.length ∧ j ≤ rs.length ∧ Tm.AllTo rs i j l ∧ 40 < l.length)
theorem Tm.AllPSays.one {rs : RuleL} {er er' : Int} {ps ps' : PairL} (h : Tm.AllPSays rs er ps) (h' : Tm.AllPSays rs er' ps') : er = er' ∧ ps = ps' := by
  have key : ∀ {L : PairL} {i j : Nat} {er : Int} {qs : PairL}, Tm.AllTo rs rs.length 0 L → i < rs.length → j < rs.length → Tm.OfSays rs (i : Int) (j : Int) er qs → er ≠ 0 → False := fun hL hi hj hs he => by
    obtain ⟨ps, h⟩ := hL.pre.2 _ _ hj (.inl hi)
    exact he (hs.one h).1
  rcases h with ⟨l, hl, hc⟩ | ⟨i, j, l, qs, hi, hj, hl, hs, he, rfl⟩ <;> rcases h' with ⟨l', hl', hc'⟩ | ⟨i', j', l', qs', hi', hj', hl', hs', he', rfl⟩
  · obtain rfl := hl.one (Nat.le_refl _) hl'
    rcases hc with ⟨h1, rfl, rfl⟩ | ⟨h1, rfl, rfl⟩ <;> rcases hc' with ⟨h2, rfl, rfl⟩ | ⟨h2, rfl, rfl⟩
    · exact ⟨rfl, rfl⟩
    · omega
    · omega
    · exact ⟨rfl, rfl⟩
  · exact (key hl hi' hj' hs' he').elim
  · exact (key hl' hi hj hs he).elim
  · exact ⟨by rw [hs.bad hi hj he, hs'.bad hi' hj' he'], rfl⟩
theorem Tm.AllPSays.ref {rs : RuleL} {er er' : Int} {ps ps' : PairL} (h : Tm.AllPSays rs er ps) (h' : Tm.RefAll rs er' ps') : er = er' ∧ ps = ps' := by
  rcases h' with h' | ⟨hr, rfl, rfl, i, j, l, hi, hj, hl, h40⟩
  · exact h.one h'
  · rcases h with ⟨L, hL, ⟨h1, rfl, rfl⟩ | ⟨h1, rfl, rfl⟩⟩ | ⟨a, b, l2, qs, ha, hb, hl2, hs, he, rfl⟩
    · obtain ⟨l', h2, h3⟩ := hL.pre.1 i j hj (.inl hi)
      obtain rfl := hl.one (by omega) h2
      omega
    · exact ⟨rfl, rfl⟩
    · exact ⟨by rw [hs.bad ha hb he, if_pos hr], rfl⟩
theorem Tm.AllTo.lens {rs : RuleL} {n m : Nat} {L : PairL} (h : Tm.AllTo rs n m L) : ∀ x ∈ L, x.1.length ≤ 1000 ∧ x.2.length ≤ 1000 := by
  induction h with
  | zero => intro x hx; cases hx
  | @next n m L0 ps h hm hs ih =>
    intro x hx
    rcases List.mem_append.1 hx with h1 | h1
    · exact ih x h1
    · obtain ⟨k, hk, e⟩ := List.getElem_of_mem h1
      have := hs.lens.2 k hk
      rw [List.getElem?_eq_getElem hk, e] at this
      exact this
  | row h ih => exact ih
theorem Tm.AllPSays.lens {rs : RuleL} {er : Int} {ps : PairL} (h : Tm.AllPSays rs er ps) : ps.length ≤ 1000 ∧ ∀ k, k < ps.length → (ps[k]?.getD ([], [])).1.length ≤ 1000 ∧ (ps[k]?.getD ([], [])).2.length ≤ 1000 := by
  rcases h with ⟨l, hl, ⟨h1, _, rfl⟩ | ⟨_, _, rfl⟩⟩ | ⟨_, _, _, _, _, _, _, _, _, rfl⟩
  · refine ⟨by omega, fun k hk => ?_⟩
    rw [List.getElem?_eq_getElem hk]
    exact hl.lens _ (List.getElem_mem hk)
  · exact ⟨by simp, fun k hk => by simp at hk⟩
  · exact ⟨by simp, fun k hk => by simp at hk⟩

/-- 'append(out, p...)'. -/
theorem wp_append_q {ops : Array Oper} {rest : List Oper} {o : Oper} {a : Act} {Q : Exit → Act → World → Prop} (w : World) (hgd : o.guard = none) (s x : Operand)
    (ho : o.op = .call { callee := .builtin .append, args := #[s, x], argTypes := #[34, 34] }) (base : Nat) (v : Value) (ps : PairL) (hs : a.eval s = v) (hN : NewQ base w v ps)
    (v2 : Value) (qs : PairL) (hx : a.eval x = v2) (hM : NewQ base w v2 qs) (hlen : ps.length + qs.length ≤ 100000) (hbase : base ≤ w.heap.size)
    (h : ∀ v' w', NewQ base w' v' (ps ++ qs) → Below base w w' → wpList Try.prog ops Q rest (a.put o.dst v') w') : wpList Try.prog ops Q (o :: rest) a w := by
  obtain ⟨i0, hi, hz0, hz1, hz2⟩ := info_parts Try.info53
  obtain ⟨us, h1, h2⟩ := hN
  obtain ⟨us', m1, m2⟩ := hM
  have hul : us.length = ps.length * 2 := h1.1
  have hul' : us'.length = qs.length * 2 := m1.1
  have hcell : ∀ u ∈ us', ∃ a n c, u = .slice a n c := fun u hu => by
    obtain ⟨k, hk, e⟩ := List.getElem_of_mem hu
    have hk2 : k / 2 < qs.length := by omega
    obtain ⟨y, yc, y', yc', q1, q2, _⟩ := m2 (k / 2) hk2
    rcases Nat.mod_two_eq_zero_or_one k with h0 | h0
    · rw [show k / 2 * 2 = k by omega, List.getElem?_eq_getElem hk, e] at q1
      cases q1
      exact ⟨_, _, _, rfl⟩
    · rw [show k / 2 * 2 + 1 = k by omega, List.getElem?_eq_getElem hk, e] at q2
      cases q2
      exact ⟨_, _, _, rfl⟩
  rcases m1.2 with ⟨rfl, hn⟩ | ⟨g, cap, cur, rfl, hb, hgb, r1, r2, r3⟩
  · obtain rfl : qs = [] := List.eq_nil_of_length_eq_zero hn
    refine wpList_append_own_none hgd s x 34 ho base 53 i0 2 Try.infoPairs hi v ps.length us hs h1 hx (h v w (by rw [List.append_nil]; exact ⟨us, h1, h2⟩) (Below.refl _ _))
  · refine wpList_append_own w hgd s x 34 ho base 53 i0 (.agg #[.slice none 0 0, .slice none 0 0]) 2 48 Try.infoPairs hi hz0 hz1 hz2 rfl (by decide) v ps.length us hs h1 ⟨g, 0, none⟩ qs.length cap us' hx (by omega)
      (by intro j z hj
          have hjl : j < qs.length * 2 := by
            have := (List.getElem?_eq_some_iff.1 hj).1
            omega
          rw [Go.WideShapes.add_plain]
          have := World.ownsRow.cellAt m1 j hjl
          rw [hj] at this
          simpa using this)
      (by intro u hu; obtain ⟨_, _, _, rfl⟩ := hcell u hu; rfl) (by unfold maxLen; omega) (by omega) hbase ?_
    intro v' w' hown hg _
    have hk : ∀ b, base ≤ b → (∃ cs p, w.heap[b]? = some (.cells cs 3 p)) → w'.heap[b]? = w.heap[b]? := fun b _ ⟨cs, p, hb⟩ => hg.block b (Array.getElem?_eq_some_iff.1 hb).1 fun e => by
      obtain ⟨cur, h⟩ := row_type h1 e.symm
      rw [hb] at h
      simp only [Option.some.injEq, Obj.cells.injEq] at h
      exact absurd h.2.1 (by decide)
    refine h v' w' ⟨us ++ us', by simpa using hown, fun j hj => ?_⟩ ((Below.refl base w).grown hg hbase (fun k e => (World.ownsRow.lt h1 k e).1))
    by_cases hjl : j < ps.length
    · obtain ⟨y, yc, y', yc', q1, q2, n1, n2, r⟩ := h2 j hjl
      rw [List.getElem?_append_left hjl, List.getElem?_append_left (by omega), List.getElem?_append_left (by omega)]
      exact ⟨y, yc, y', yc', q1, q2, n1.keep hk, n2.keep hk, r⟩
    · have hj2 : j - ps.length < qs.length := by rw [List.length_append] at hj; omega
      obtain ⟨y, yc, y', yc', q1, q2, n1, n2, r⟩ := m2 (j - ps.length) hj2
      rw [List.getElem?_append_right (by omega), List.getElem?_append_right (by omega), List.getElem?_append_right (by omega), hul]
      rw [show j * 2 - ps.length * 2 = (j - ps.length) * 2 by omega, show j * 2 + 1 - ps.length * 2 = (j - ps.length) * 2 + 1 by omega]
      exact ⟨y, yc, y', yc', q1, q2, n1.keep hk, n2.keep hk, r⟩

set_option maxRecDepth 100000 in
set_option maxHeartbeats 2000000 in
/-- haspref.allPairs, of right rules. -/
theorem refAllPairs_any (rs : RuleL) (a : Option Addr) (cap : Nat) (w : World) (hr : Tm.rulesErr rs = 0) (hR : RulesAt w.heap.size w a rs) :
    Calls Try.prog 43 #[.slice a rs.length cap] w fun e w' => Below w.heap.size w w' ∧ ∃ er ps v, Tm.RefAll rs er ps ∧ e = .returned (.tuple #[v, .int .i64 er]) ∧ NewQ w.heap.size w' v ps := by
  have h8 := (Tm.rulesErr_ok hr).1
  have h8' : (rs.length : Int) ≤ 8 := by omega
  have HR := hid hR
  have Hr := hid hr
  clear hR hr
  go_enter Try.func43, Try.ntmps43
  go_wp2
  go_loopw [4, 5] (fun v x wr => ∃ (i : Nat) (l : PairL), i ≤ rs.length ∧ x = .int .i64 (i : Int) ∧ l.length ≤ 40 ∧ Hid (Tm.AllTo rs i 0 l) ∧ Hid (NewQ w.heap.size wr v l) ∧ Hid (Below w.heap.size w wr)) (fun _ x _ => rs.length - (intOf x).toNat)
  case atStart => exact ⟨0, [], Nat.zero_le _, rfl, by simp, .zero, NewQ.nil _ _, Below.refl _ _⟩
  case round =>
    obtain ⟨i, l, hi, rfl, hl40, hA, hN, hB⟩ := hrel
    by_cases hil : i < rs.length
    · have hil' : (i : Int) < (rs.length : Int) := by omega
      obtain ⟨va, vc, rfl, _⟩ := hN.out.at
      go_wp2
      go_loopw [4, 6] (fun v x wr => ∃ (j : Nat) (l : PairL), j ≤ rs.length ∧ x = .int .i64 (j : Int) ∧ l.length ≤ 40 ∧ Hid (Tm.AllTo rs i j l) ∧ Hid (NewQ w.heap.size wr v l) ∧ Hid (Below w.heap.size w wr)) (fun _ x _ => rs.length - (intOf x).toNat)
      case atStart => exact ⟨0, l, Nat.zero_le _, rfl, hl40, hA, hN, hB⟩
      case round =>
        clear hA hN hB hl40
        obtain ⟨j, l, hj, rfl, hl40, hA, hN, hB⟩ := hrel
        obtain ⟨va, vc, rfl, _⟩ := hN.out.at
        by_cases hjl : j < rs.length
        · have hjl' : (j : Int) < (rs.length : Int) := by omega
          have hC := hid (refof_idx rs i j hil hjl a cap wr Hr.out ((HR.out.below hB.out).mono hB.out.size))
          go_wp2_with fail
          refine hC.out.mono ?_
          rintro e w1 ⟨hB1, er, ps, v1, hs, rfl, hN1⟩
          clear hC
          obtain ⟨xa, xc, rfl, _⟩ := hN1.at
          have hBw := hid (hB.out.trans (hB1.mono hB.out.size))
          have hNw := hid (hN.out.below hB1)
          have hN1' := hid (hN1.mono hB.out.size)
          clear hN hN1
          by_cases he : er = 0
          · subst he
            have hA' := hid (Tm.AllTo.next hA.out hjl hs)
            have hpl := hs.lens.1
            obtain ⟨q, hq⟩ : ∃ q, l ++ ps = q := ⟨_, rfl⟩
            rw [hq] at hA'
            have Hq := hid hq
            have hqI : (q.length : Int) ≤ 2000 := by rw [← hq, List.length_append]; omega
            clear hs hq
            by_cases h40 : 40 < q.length
            · have h40' : (40 : Int) < (q.length : Int) := by omega
              go_wp2_with (at_builtin; refine wp_append_q _ rfl _ _ rfl w.heap.size _ l rfl hNw.out _ ps rfl hN1'.out (by omega) hBw.out.size ?_; intro v2 w2 hN2 hB2; rw [Hq.out] at hN2; obtain ⟨ya, yc, rfl, _⟩ := hN2.at; have hBw2 := hid (hBw.out.trans hB2); clear hN2 hB2)
              go_ret2
              exact ⟨hBw2.out, 2, [], _, .inr ⟨Hr.out, rfl, rfl, i, j + 1, q, hil, hjl, hA'.out, h40⟩, rfl, NewQ.nil _ _⟩
            · have h40' : decide ((40 : Int) < (q.length : Int)) = false := by simp; omega
              have h40n : decide (40 < q.length) = false := by simp; omega
              go_wp2_with (at_builtin; refine wp_append_q _ rfl _ _ rfl w.heap.size _ l rfl hNw.out _ ps rfl hN1'.out (by omega) hBw.out.size ?_; intro v2 w2 hN2 hB2; rw [Hq.out] at hN2; obtain ⟨ya, yc, rfl, _⟩ := hN2.at; have HN2 := hid hN2; have hBw2 := hid (hBw.out.trans hB2); clear hN2 hB2)
              go_roundw
              case rel => exact ⟨j + 1, q, by omega, by go_num, by omega, hA', HN2, hBw2⟩
              case measure => simp [intOf]; omega
          · have hne : (er != 0) = true := by simpa using he
            have hs' : Hid (Tm.RefAll rs er []) := .inl (.inr ⟨i, j, l, ps, hil, hjl, hA.out, hs, he, rfl⟩)
            clear he hs
            go_wp2
            go_ret2
            exact ⟨hBw.out, er, [], _, hs'.out, rfl, NewQ.nil _ _⟩
        · obtain rfl : j = rs.length := by omega
          go_wp2
          go_roundw
          case rel => exact ⟨i + 1, l, by omega, by go_num, hl40, .row hA.out, hN, hB⟩
          case measure => simp [intOf]; omega
    · obtain rfl : i = rs.length := by omega
      obtain ⟨va, vc, rfl, _⟩ := hN.out.at
      go_wp2
      go_ret2
      exact ⟨hB.out, 0, l, _, .inl (.inl ⟨l, hA.out, .inl ⟨hl40, rfl, rfl⟩⟩), rfl, hN.out⟩

set_option maxRecDepth 100000 in
set_option maxHeartbeats 1000000 in
/-- haspref.PairsAll. -/
theorem refPairsAll_any (rs : RuleL) (a : Option Addr) (cap : Nat) (w : World) (hR : RulesAt w.heap.size w a rs) :
    Calls Try.prog 18 #[.slice a rs.length cap] w fun e w' => Below w.heap.size w w' ∧ ∃ er ps v, Tm.RefAll rs er ps ∧ e = .returned (.tuple #[v, .int .i64 er]) ∧ NewQ w.heap.size w' v ps := by
  have hE := hid (rulesError_any rs a cap w hR)
  by_cases he : Tm.rulesErr rs = 0
  · rw [he] at hE
    have hC := hid (fun W (hW : Below w.heap.size w W) => refAllPairs_any rs a cap W he ((hR.below hW).mono hW.size))
    clear he hR
    go_enter Try.func18, Try.ntmps18
    go_wp2_with fail
    refine hE.out.mono ?_
    rintro e w1 ⟨rfl, hB1⟩
    clear hE
    go_wp2_with fail
    refine (hC.out _ hB1).mono ?_
    rintro e w2 ⟨hB2, er, ps, v, hs, rfl, hN⟩
    obtain ⟨x, c, rfl, _⟩ := hN.at
    have Hs := hid hs
    have HN := hid hN
    clear hC hs hN
    go_wp2
    go_ret2
    exact ⟨hB1.trans (hB2.mono hB1.size), er, ps, _, Hs.out, rfl, HN.out.mono hB1.size⟩
  · have hne : (Tm.rulesErr rs != 0) = true := by simpa using he
    have h0 : 0 < rs.length := by
      cases rs with
      | nil => exact absurd rfl he
      | cons r l => simp
    have hs : Hid (Tm.RefAll rs (Tm.rulesErr rs) []) := .inl (.inr ⟨0, 0, [], [], h0, h0, .zero, .inl ⟨he, rfl, rfl⟩, he, rfl⟩)
    clear he hR h0
    generalize Tm.rulesErr rs = q at *
    go_enter Try.func18, Try.ntmps18
    go_wp2_with fail
    refine hE.out.mono ?_
    rintro e w1 ⟨rfl, hB1⟩
    clear hE
    go_wp2
    go_ret2
    exact ⟨hB1, q, [], _, hs.out, rfl, NewQ.nil _ _⟩

end Go.Proofs.Ytgpnkfjajfpdjaa
