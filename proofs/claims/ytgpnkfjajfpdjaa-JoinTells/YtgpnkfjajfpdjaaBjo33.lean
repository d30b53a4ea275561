/-
  haspref.form, FormOf, IsOf. · haspref.JoinPair, haspref.JoinAll.
-/
import Derived.Test.YtgpnkfjajfpdjaaBjo20
import Derived.Test.YtgpnkfjajfpdjaaBjo32
import Derived.Test.YtgpnkfjajfpdjaaBjo31
import Derived.Test.YtgpnkfjajfpdjaaBjo19
namespace Go.Proofs.Ytgpnkfjajfpdjaa
open Go.Proofs Go.RowKit Go.Shelf Go.Maps

theorem Tm.step_err {rs : RuleL} {t : List Int} (h2 : Tm.stepErr rs t = 0) {j : Nat} (hj : j < (Tm.stepVal rs t).length) : Tm.err ((Tm.stepVal rs t)[j]?.getD (0, 0, [])).2.2 = 0 := by
  obtain ⟨hru, ht, hall⟩ := Tm.stepErr_term h2
  have hv : Tm.stepVal rs t = Tm.allL rs t t.length := by unfold Tm.stepVal; rw [if_pos h2]
  rw [hv] at hj ⊢
  obtain ⟨x, hx⟩ : ∃ x, (Tm.allL rs t t.length)[j]?.getD (0, 0, []) = x := ⟨_, rfl⟩
  have hm : x ∈ Tm.allL rs t t.length := by rw [← hx, List.getElem?_eq_getElem hj, Option.getD_some]; exact List.getElem_mem hj
  rw [hx]
  obtain ⟨ha, hk, hb, hu⟩ := Tm.allL_mem _ hm
  have he := Tm.allE_all _ hall _ ha _ hk hb
  obtain ⟨eL, eR, _⟩ := Tm.ruleErr_ok ((Tm.rulesErr_ok hru).2 _ hk)
  obtain ⟨m, hs⟩ := Tm.hit_step hru ht ha hk hb he
  rw [← hu] at hs
  exact (hs.parts eL eR ht ha).2.2.2

set_option maxRecDepth 100000 in
set_option maxHeartbeats 2000000 in
theorem refForm_any (rs : RuleL) (t : List Int) (al at' : Option Addr) (cl ct : Nat) (w : World) (hr : Tm.rulesErr rs = 0) (ht : Tm.err t = 0) (hR : RulesAt w.heap.size w al rs) (hT : Ints w.heap.size w at' t) (h1 : t.length ≤ ct) (h2 : ct ≤ maxLen) :
    Calls Try.prog 73 #[.slice al rs.length cl, .slice at' t.length ct] w fun e w' => ∃ v, e = .returned (.tuple #[v, .int .i64 ((Tm.form rs t).2.1 : Int), .int .i64 (Tm.form rs t).2.2]) ∧ New w.heap.size w' v (Tm.form rs t).1 ∧ Below w.heap.size w w' := by
  unfold Tm.form
  generalize hg : Tm.fm rs 61 t 0 = res
  have HR := hid hR
  have Hr := hid hr
  clear hR hr
  go_enter Try.func73, Try.ntmps73
  go_wp2
  go_loopw [1, 7] (fun tv v wr => ∃ (k : Nat) (u : List Int) (a : Option Addr) (c : Nat), k ≤ 60 ∧ v = .int .i64 (k : Int) ∧ tv = .slice a u.length c ∧ Hid (Ints wr.heap.size wr a u) ∧ Hid (Tm.err u = 0) ∧ u.length ≤ c ∧ c ≤ maxLen ∧ Hid (Tm.fm rs (61 - k) u k = res) ∧ Below w.heap.size w wr) (fun _ v _ => 61 - (intOf v).toNat)
  case atStart => exact ⟨0, t, at', ct, by omega, rfl, rfl, hid hT, hid ht, h1, h2, hid hg, Below.refl _ _⟩
  case round =>
    obtain ⟨k, u, a, c, hk, rfl, rfl, hI, hu, hc1, hc2, hst, hB⟩ := hrel
    have hC := hid (refSteps_any rs u al a cl c wr Hr.out hu.out ((HR.out.below hB).mono hB.size) hI.out hc1 hc2)
    obtain ⟨f, hf⟩ : ∃ f, 61 - k = f + 1 := ⟨60 - k, by omega⟩
    rw [hf] at hst
    have hki : (k : Int) ≤ 60 := by omega
    unfold StepsAns at hC
    by_cases he : Tm.stepErr rs u = 0
    · by_cases hn : (Tm.stepVal rs u).length = 0
      · have hr := hid ((Tm.fm_end (f := f) (k := k) he hn).symm.trans hst.out)
        have h30 := Tm.err_len hu.out
        have hpos := Tm.err_pos hu.out
        obtain ⟨b, off, ea, _, _⟩ := hI.out.at hpos
        subst ea
        rw [he, List.eq_nil_of_length_eq_zero hn] at hC
        have Hn := hid hn
        clear he hn hst
        go_wp2_with (first
          | (go_at_call 98; refine hC.out.mono ?_; clear hC; rintro e w1 ⟨v1, rfl, hN1, b1⟩; obtain ⟨va, vc, rfl⟩ := hN1.slice; clear hN1; have hl : New w1.heap.size (w1.alloc (.cells #[] 3)) (.slice (some ⟨w1.heap.size, 0, none⟩) 0 0) [] := New.lit w1.heap.size w1 [] (Nat.le_refl _) (by unfold maxLen; simp); have hBn : Below w1.heap.size w1 (w1.alloc (.cells #[] 3)) := (Below.refl _ _).alloc (Nat.le_refl _) _; have i1 := (hI.out.below b1).mono b1.size; have i2 := (i1.below hBn).mono hBn.size)
          | (at_builtin; go_loud (refine wp_append_ints _ rfl _ _ rfl w1.heap.size _ [] rfl hl (some ⟨b, off, none⟩) u c rfl (fun h => by cases h) i2 (by simp; omega) (by simp) ?_); intro v' w2 hN hB2; obtain ⟨xa, xc, rfl, _⟩ := New.ints hN))
        go_ret3
        have B1 := hB.trans (b1.mono hB.size)
        rw [← hr.out]
        exact ⟨_, rfl, New.mono hN B1.size, B1.trans ((hBn.trans hB2).mono B1.size)⟩
      · have hp : 0 < (Tm.stepVal rs u).length := by omega
        have hr := hid ((Tm.fm_go (f := f) (k := k) he hp).symm.trans hst.out)
        have hue := hid (Tm.step_err he hp)
        rw [he] at hC
        clear he hn hst hI hu
        generalize Tm.stepVal rs u = sts at *
        have hpi : (0 : Int) < (sts.length : Int) := by omega
        have hne : ((sts.length : Int) == 0) = false := len_no (by omega)
        by_cases h60 : k = 60
        · subst h60
          obtain rfl : f = 0 := by omega
          rw [Tm.fm] at hr
          go_wp2_with (first
            | (go_at_call 98; refine hC.out.mono ?_; clear hC; rintro e w1 ⟨v1, rfl, hN1, b1⟩; obtain ⟨g, cg, rfl⟩ := hN1.slice; clear hN1))
          go_ret3
          rw [← hr.out]
          exact ⟨_, rfl, New.nil _ _, hB.trans (b1.mono hB.size)⟩
        · have hk60 : ((k : Int) == 60) = false := by rw [beq_eq_false_iff_ne]; omega
          have hff : f = 61 - (k + 1) := by omega
          rw [hff] at hr
          clear hf hff
          go_wp2_with (first
            | (go_at_call 98; refine hC.out.mono ?_; clear hC; rintro e w1 ⟨v1, rfl, hN1, b1⟩; obtain ⟨g, cg, rfl, hat⟩ := hN1.at hp; obtain ⟨x0, y0, _, _, c02, i0, q0, q1⟩ := hat 0 hp; clear hat; simp only [Nat.zero_mul, Nat.zero_add] at c02; have HN := hid hN1; clear hN1; generalize (sts[0]?.getD (0, 0, [])).2.2 = u1 at *))
          go_roundw
          case rel => exact ⟨k + 1, u1, x0, y0, by omega, by go_num, rfl, hid i0, hid hue.out, q0, q1, hid hr.out, hB.trans (b1.mono hB.size)⟩
          case measure => simp [intOf]; omega
    · have hr := hid ((Tm.fm_bad (f := f) (k := k) he).symm.trans hst.out)
      have hne : (Tm.stepErr rs u != 0) = true := by simpa using he
      clear he hst hI hu
      generalize Tm.stepErr rs u = q at *
      go_wp2_with (first
        | (go_at_call 98; refine hC.out.mono ?_; clear hC; rintro e w1 ⟨v1, rfl, hN1, b1⟩; obtain ⟨va, vc, rfl⟩ := hN1.slice; clear hN1))
      go_ret3
      rw [← hr.out]
      exact ⟨_, rfl, New.nil _ _, hB.trans (b1.mono hB.size)⟩

set_option maxRecDepth 100000 in
set_option maxHeartbeats 1000000 in
theorem formOf_any (rs : RuleL) (t : List Int) (al at' : Option Addr) (cl ct : Nat) (w : World) (hR : RulesAt w.heap.size w al rs) (hT : Ints w.heap.size w at' t) (h1 : t.length ≤ ct) (h2 : ct ≤ maxLen) :
    Calls Try.prog 51 #[.slice al rs.length cl, .slice at' t.length ct] w fun e w' => ∃ v, e = .returned (.tuple #[v, .int .i64 ((Tm.form rs t).2.1 : Int), .int .i64 (Tm.form rs t).2.2]) ∧ New w.heap.size w' v (Tm.form rs t).1 ∧ Below w.heap.size w w' := by
  have C1 := stepsOf_any rs t al at' cl ct w hR hT h1 h2
  unfold StepsAns at C1
  by_cases he : Tm.stepErr rs t = 0
  · obtain ⟨k1, k2, _⟩ := Tm.stepErr_term he
    have C2 := hid (fun W (hW : Below w.heap.size w W) => refForm_any rs t al at' cl ct W k1 k2 ((hR.below hW).mono hW.size) ((hT.below hW).mono hW.size) h1 h2)
    rw [he] at C1
    clear he k1 k2 hR hT
    generalize Tm.form rs t = res at *
    go_enter Try.func51, Try.ntmps51
    go_wp2_with fail
    refine C1.mono ?_
    rintro e w1 ⟨v1, rfl, hN1, b1⟩
    obtain ⟨x1, c1, rfl⟩ := hN1.slice
    go_wp2_with fail
    refine (C2.out w1 b1).mono ?_
    rintro e w2 ⟨v2, rfl, hN2, b2⟩
    obtain ⟨x2, c2, rfl, _⟩ := New.ints hN2
    go_wp2
    go_ret3
    exact ⟨_, rfl, hN2.mono b1.size, b1.trans (b2.mono b1.size)⟩
  · have hf : Tm.form rs t = ([], 0, Tm.stepErr rs t) := Tm.fm_bad (f := 60) (k := 0) he
    have hne : (Tm.stepErr rs t != 0) = true := by simpa using he
    rw [hf]
    clear he hf hR hT
    generalize Tm.stepErr rs t = q at *
    go_enter Try.func51, Try.ntmps51
    go_wp2_with fail
    refine C1.mono ?_
    rintro e w1 ⟨v1, rfl, hN1, b1⟩
    obtain ⟨x1, c1, rfl⟩ := hN1.slice
    go_wp2
    go_ret3
    exact ⟨_, rfl, New.nil _ _, b1⟩

end Go.Proofs.Ytgpnkfjajfpdjaa

namespace Go.Proofs.Ytgpnkfjajfpdjaa
open Go.Proofs Go.RowKit Go.Shelf Go.Maps

theorem Tm.RefAll.len {rs : RuleL} {er : Int} {ps : PairL} (h : Tm.RefAll rs er ps) : ps.length ≤ 40 := by
  rcases h with h | ⟨_, _, rfl, _⟩
  · exact h.len
  · simp
/-- What haspref.JoinAll answers. -/
def Tm.RefJoin (rs : RuleL) (is : Bool) (er : Int) : Prop := ∃ er' ps, Tm.RefAll rs er' ps ∧ ((er' ≠ 0 ∧ is = false ∧ er = er') ∨ (er' = 0 ∧ (is, er) = Tm.joinL rs ps))
theorem Tm.JoinSays.ref {rs : RuleL} {is is' : Bool} {er er' : Int} (h : Tm.JoinSays rs is er) (h' : Tm.RefJoin rs is' er') : is = is' ∧ er = er' := by
  obtain ⟨e1, ps, h1, h2⟩ := h
  obtain ⟨e2, ps', h3, h4⟩ := h'
  obtain ⟨rfl, rfl⟩ := h1.ref h3
  rcases h2 with ⟨a, rfl, rfl⟩ | ⟨a, b⟩ <;> rcases h4 with ⟨c, rfl, rfl⟩ | ⟨c, d⟩
  · exact ⟨rfl, rfl⟩
  · exact absurd c a
  · exact absurd a c
  · rw [← b] at d
    cases d
    exact ⟨rfl, rfl⟩

set_option maxRecDepth 100000 in
set_option maxHeartbeats 2000000 in
/-- haspref.JoinPair. -/
theorem refJoinPair_any (rs : RuleL) (P Q : List Int) (al aP aQ : Option Addr) (cl cP cQ : Nat) (w : World) (hR : RulesAt w.heap.size w al rs) (hP : Ints w.heap.size w aP P) (hQ : Ints w.heap.size w aQ Q) (p1 : P.length ≤ cP) (p2 : cP ≤ maxLen) (q1 : Q.length ≤ cQ) (q2 : cQ ≤ maxLen) :
    Calls Try.prog 25 #[.slice al rs.length cl, .agg #[.slice aP P.length cP, .slice aQ Q.length cQ]] w fun e w' => e = .returned (.tuple #[.bool (Tm.joinIs rs P Q), .int .i64 (Tm.joinErr rs P Q)]) ∧ Below w.heap.size w w' := by
  obtain ⟨W1, hW1⟩ : ∃ W1, w.alloc (.cells #[.slice aP P.length cP, .slice aQ Q.length cQ] 53) = W1 := ⟨_, rfl⟩
  have hB1 : Below w.heap.size w W1 := by rw [← hW1]; exact (Below.refl _ _).alloc (Nat.le_refl _) _
  have bx : Box2 W1 w.heap.size 53 (.slice aP P.length cP) (.slice aQ Q.length cQ) := by rw [← hW1]; exact Box2.new w _ _ _
  have c0 := bx.cell0
  have C1 := hid (formOf_any rs P al aP cl cP W1 ((hR.below hB1).mono hB1.size) ((hP.below hB1).mono hB1.size) p1 p2)
  have C2 := hid (fun W (hW : Below W1.heap.size W1 W) => formOf_any rs Q al aQ cl cQ W (by have h := hB1.trans (hW.mono hB1.size); exact (hR.below h).mono h.size) (by have h := hB1.trans (hW.mono hB1.size); exact (hQ.below h).mono h.size) q1 q2)
  have hE : Hid (Tm.joinErr rs P Q = if (Tm.form rs P).2.2 = 0 then (Tm.form rs Q).2.2 else (Tm.form rs P).2.2) := rfl
  have hI : Hid (Tm.joinIs rs P Q = (decide (Tm.joinErr rs P Q = 0) && sameB (Tm.form rs P).1 (Tm.form rs Q).1)) := rfl
  have HW1 := hid hW1
  clear hW1 hR hP hQ p1 p2 q1 q2
  generalize Tm.form rs P = f at *
  generalize Tm.form rs Q = g at *
  obtain ⟨x, n, er⟩ := f
  obtain ⟨y, m, er2⟩ := g
  dsimp only at C1 C2 hE hI
  by_cases he : er = 0
  · subst he
    rw [if_pos rfl] at hE
    by_cases he2 : er2 = 0
    · subst he2
      have hs := hid (show Tm.joinIs rs P Q = sameB x y by rw [hI.out, hE.out]; simp)
      rw [hE.out, hs.out]
      clear hI hE hs
      go_enter Try.func25, Try.ntmps25
      go_wp2_with fail
      rw [HW1.out]
      go_wp2_with fail
      refine C1.out.mono ?_
      rintro e w1 ⟨v1, rfl, n1, b1⟩
      obtain ⟨x1, c1, rfl, i1, l1, l1'⟩ := New.ints n1
      have c1' := (bx.below b1 bx.lt).cell1
      clear C1 n1
      go_wp2_with fail
      refine (C2.out w1 b1).mono ?_
      rintro e w2 ⟨v2, rfl, n2, b2⟩
      obtain ⟨x2, c2, rfl, i2, _⟩ := New.ints n2
      have B2 := b1.trans (b2.mono b1.size)
      have hEq := same_any x y x1 x2 c1 c2 w2 ((i1.below b2).mono b2.size) i2 (by unfold maxLen at *; omega)
      clear C2 n2 i1 i2 c1'
      go_wp2_with fail
      refine hEq.mono ?_
      rintro e w3 ⟨rfl, b3⟩
      go_wp2
      go_ret2
      have B3 := B2.trans (b3.mono B2.size)
      exact ⟨rfl, hB1.trans (B3.mono hB1.size)⟩
    · have hs := hid (show Tm.joinIs rs P Q = false by rw [hI.out, hE.out]; simp [he2])
      have hne : (er2 != 0) = true := by simpa using he2
      rw [hE.out, hs.out]
      clear hI hE hs he2
      go_enter Try.func25, Try.ntmps25
      go_wp2_with fail
      rw [HW1.out]
      go_wp2_with fail
      refine C1.out.mono ?_
      rintro e w1 ⟨v1, rfl, n1, b1⟩
      obtain ⟨x1, c1, rfl, i1, l1, l1'⟩ := New.ints n1
      have c1' := (bx.below b1 bx.lt).cell1
      clear C1 n1
      go_wp2_with fail
      refine (C2.out w1 b1).mono ?_
      rintro e w2 ⟨v2, rfl, n2, b2⟩
      obtain ⟨x2, c2, rfl, i2, _⟩ := New.ints n2
      have B2 := b1.trans (b2.mono b1.size)
      clear C2 n2 i1 i2 c1'
      go_wp2
      go_ret2
      exact ⟨rfl, hB1.trans (B2.mono hB1.size)⟩
  · have hs := hid (show Tm.joinIs rs P Q = false by rw [hI.out, hE.out, if_neg he]; simp [he])
    rw [if_neg he] at hE
    have hne : (er != 0) = true := by simpa using he
    rw [hE.out, hs.out]
    clear hI hE hs he
    go_enter Try.func25, Try.ntmps25
    go_wp2_with fail
    rw [HW1.out]
    go_wp2_with fail
    refine C1.out.mono ?_
    rintro e w1 ⟨v1, rfl, n1, b1⟩
    obtain ⟨x1, c1, rfl, i1, l1, l1'⟩ := New.ints n1
    clear C1 n1
    go_wp2
    go_ret2
    exact ⟨rfl, hB1.trans (b1.mono hB1.size)⟩


set_option maxRecDepth 100000 in
set_option maxHeartbeats 2000000 in
/-- haspref.JoinAll. -/
theorem refJoinAll_any (rs : RuleL) (a : Option Addr) (cap : Nat) (w : World) (hR : RulesAt w.heap.size w a rs) :
    Calls Try.prog 26 #[.slice a rs.length cap] w fun e w' => ∃ is er, Tm.RefJoin rs is er ∧ e = .returned (.tuple #[.bool is, .int .i64 er]) ∧ Below w.heap.size w w' := by
  have hA := hid (refPairsAll_any rs a cap w hR)
  have HR := hid hR
  clear hR
  go_enter Try.func26, Try.ntmps26
  go_wp2_with fail
  refine hA.out.mono ?_
  rintro e w1 ⟨B1, er, ps, v, hsay, rfl, hN⟩
  obtain ⟨pa, pc, rfl, hP, _⟩ := hN.at
  clear hA hN
  by_cases he : er = 0
  · subst he
    have h40 := hsay.len
    have h40' : (ps.length : Int) ≤ 40 := by omega
    have HP := hid hP
    have Hsay := hid (fun is er h => (⟨0, ps, hsay, .inr ⟨rfl, h⟩⟩ : Tm.RefJoin rs is er))
    clear hsay hP
    go_wp2
    go_loopw [6] (fun x wr => ∃ k : Nat, k ≤ ps.length ∧ x = .int .i64 (k : Int) ∧ Hid (Tm.joinL rs ps = Tm.joinL rs (ps.drop k)) ∧ Below w1.heap.size w1 wr) (fun x _ => ps.length - (intOf x).toNat)
    case atStart => exact ⟨0, Nat.zero_le _, rfl, hid rfl, Below.refl _ _⟩
    case round =>
      obtain ⟨k, hk, rfl, hst, hB⟩ := hrel
      have BW := B1.trans (hB.mono B1.size)
      by_cases hlt : k < ps.length
      · have hlt' : (k : Int) < (ps.length : Int) := by omega
        obtain ⟨b, off, rfl, hb, aL, cL, aR, cR, g1, g2, g3, g4, g5, g6, g7, g8⟩ := (HP.out.below hB) k hlt
        have hs1 := hid (Tm.joinL_step (rs := rs) hlt)
        have hs2 := hid (Tm.joinL_at (rs := rs) hlt)
        generalize (ps[k]?.getD ([], [])).1 = P at *
        generalize (ps[k]?.getD ([], [])).2 = Q at *
        have hC := hid (refJoinPair_any rs P Q a aL aR cap cL cR wr ((HR.out.below BW).mono BW.size) (g3.mono hB.size) (g4.mono hB.size) g5 g6 g7 g8)
        clear g3 g4
        by_cases hj : Tm.joinIs rs P Q = true
        · rw [hj, Tm.joinIs_err hj] at hC
          have Hs := hid (hs1.out hj)
          clear hj hs1 hs2
          go_wp2_with fail
          refine hC.out.mono ?_
          rintro e w2 ⟨rfl, b2⟩
          clear hC
          go_wp2
          go_roundw
          case rel => exact ⟨k + 1, by omega, by go_num, hid (hst.out.trans Hs.out), hB.trans (b2.mono hB.size)⟩
          case measure => simp [intOf]; omega
        · have hj' : Tm.joinIs rs P Q = false := by simpa using hj
          rw [hj'] at hC
          have Hs := hid (hs2.out hj')
          clear hj hj' hs1 hs2
          generalize Tm.joinErr rs P Q = q at *
          go_wp2_with fail
          refine hC.out.mono ?_
          rintro e w2 ⟨rfl, b2⟩
          clear hC
          by_cases hq : q = 0
          · subst hq
            go_wp2
            go_ret2
            exact ⟨false, 0, Hsay.out _ _ (by rw [hst.out, Hs.out]), rfl, BW.trans (b2.mono BW.size)⟩
          · have hq' : (q != 0) = true := by simpa using hq
            clear hq
            go_wp2
            go_ret2
            exact ⟨false, q, Hsay.out _ _ (by rw [hst.out, Hs.out]), rfl, BW.trans (b2.mono BW.size)⟩
      · obtain rfl : k = ps.length := by omega
        have Hs := hid (hst.out.trans (by rw [List.drop_length]; rfl : Tm.joinL rs (ps.drop ps.length) = (true, 0)))
        go_wp2
        go_ret2
        exact ⟨true, 0, Hsay.out _ _ Hs.out.symm, rfl, BW⟩
  · have hne : (er != 0) = true := by simpa using he
    have Hsay : Hid (Tm.RefJoin rs false er) := ⟨er, ps, hsay, .inl ⟨he, rfl, rfl⟩⟩
    clear he hsay
    go_wp2
    go_ret2
    exact ⟨false, er, Hsay.out, rfl, B1⟩

end Go.Proofs.Ytgpnkfjajfpdjaa
