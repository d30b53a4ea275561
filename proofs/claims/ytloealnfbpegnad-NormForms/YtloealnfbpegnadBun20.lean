/-
  haspref.form, FormOf, IsOf.
-/
import Derived.Test.YtloealnfbpegnadBun17
import Derived.Test.YtloealnfbpegnadBun19
namespace Go.Proofs.Ytloealnfbpegnad
open Go.Proofs Go.RowKit Go.Shelf Go.Maps

theorem Tm.step_err {rs : RuleL} {t : List Int} (h2 : Tm.stepErr rs t = 0) {j : Nat} (hj : j < (Tm.stepVal rs t).length) : Tm.err ((Tm.stepVal rs t)[j]?.getD (0, 0, [])).2.2 = 0 := by
  obtain ⟨hru, ht, hall⟩ := Tm.stepErr_term h2
  have hv : Tm.stepVal rs t = Tm.allL rs t t.length := by unfold Tm.stepVal; rw [if_pos h2]
  rw [hv] at hj ⊢
  obtain ⟨x, hx⟩ : ∃ x, (Tm.allL rs t t.length)[j]?.getD (0, 0, []) = x := ⟨_, rfl⟩
  have hm : x ∈ Tm.allL rs t t.length := by rw [← hx, List.getElem?_eq_getElem hj, Option.getD_some]; exact List.getElem_mem hj
  rw [hx]
  obtain ⟨ha, hk, hb, hu⟩ := Tm.allL_mem _ hm
  have he := Tm.allE_all _ hall _ ha _ hk hb
  obtain ⟨eL, eR, _⟩ := Tm.ruleErr_ok ((Tm.rulesErr_ok hru).2 _ hk)
  obtain ⟨m, hs⟩ := Tm.hit_step hru ht ha hk hb he
  rw [← hu] at hs
  exact (hs.parts eL eR ht ha).2.2.2

set_option maxRecDepth 100000 in
set_option maxHeartbeats 2000000 in
theorem refForm_any (rs : RuleL) (t : List Int) (al at' : Option Addr) (cl ct : Nat) (w : World) (hr : Tm.rulesErr rs = 0) (ht : Tm.err t = 0) (hR : RulesAt w.heap.size w al rs) (hT : Ints w.heap.size w at' t) (h1 : t.length ≤ ct) (h2 : ct ≤ maxLen) :
    Calls Try.prog 42 #[.slice al rs.length cl, .slice at' t.length ct] w fun e w' => ∃ v, e = .returned (.tuple #[v, .int .i64 ((Tm.form rs t).2.1 : Int), .int .i64 (Tm.form rs t).2.2]) ∧ New w.heap.size w' v (Tm.form rs t).1 ∧ Below w.heap.size w w' := by
  unfold Tm.form
  generalize hg : Tm.fm rs 61 t 0 = res
  have HR := hid hR
  have Hr := hid hr
  clear hR hr
  go_enter Try.func42, Try.ntmps42
  go_wp2
  go_loopw [1, 7] (fun tv v wr => ∃ (k : Nat) (u : List Int) (a : Option Addr) (c : Nat), k ≤ 60 ∧ v = .int .i64 (k : Int) ∧ tv = .slice a u.length c ∧ Hid (Ints wr.heap.size wr a u) ∧ Hid (Tm.err u = 0) ∧ u.length ≤ c ∧ c ≤ maxLen ∧ Hid (Tm.fm rs (61 - k) u k = res) ∧ Below w.heap.size w wr) (fun _ v _ => 61 - (intOf v).toNat)
  case atStart => exact ⟨0, t, at', ct, by omega, rfl, rfl, hid hT, hid ht, h1, h2, hid hg, Below.refl _ _⟩
  case round =>
    obtain ⟨k, u, a, c, hk, rfl, rfl, hI, hu, hc1, hc2, hst, hB⟩ := hrel
    have hC := hid (refSteps_any rs u al a cl c wr Hr.out hu.out ((HR.out.below hB).mono hB.size) hI.out hc1 hc2)
    obtain ⟨f, hf⟩ : ∃ f, 61 - k = f + 1 := ⟨60 - k, by omega⟩
    rw [hf] at hst
    have hki : (k : Int) ≤ 60 := by omega
    unfold StepsAns at hC
    by_cases he : Tm.stepErr rs u = 0
    · by_cases hn : (Tm.stepVal rs u).length = 0
      · have hr := hid ((Tm.fm_end (f := f) (k := k) he hn).symm.trans hst.out)
        have h30 := Tm.err_len hu.out
        have hpos := Tm.err_pos hu.out
        obtain ⟨b, off, ea, _, _⟩ := hI.out.at hpos
        subst ea
        rw [he, List.eq_nil_of_length_eq_zero hn] at hC
        have Hn := hid hn
        clear he hn hst
        go_wp2_with (first
          | (go_at_call 68; refine hC.out.mono ?_; clear hC; rintro e w1 ⟨v1, rfl, hN1, b1⟩; obtain ⟨va, vc, rfl⟩ := hN1.slice; clear hN1; have hl : New w1.heap.size (w1.alloc (.cells #[] 3)) (.slice (some ⟨w1.heap.size, 0, none⟩) 0 0) [] := New.lit w1.heap.size w1 [] (Nat.le_refl _) (by unfold maxLen; simp); have hBn : Below w1.heap.size w1 (w1.alloc (.cells #[] 3)) := (Below.refl _ _).alloc (Nat.le_refl _) _; have i1 := (hI.out.below b1).mono b1.size; have i2 := (i1.below hBn).mono hBn.size)
          | (at_builtin; go_loud (refine wp_append_ints _ rfl _ _ rfl w1.heap.size _ [] rfl hl (some ⟨b, off, none⟩) u c rfl (fun h => by cases h) i2 (by simp; omega) (by simp) ?_); intro v' w2 hN hB2; obtain ⟨xa, xc, rfl, _⟩ := New.ints hN))
        go_ret3
        have B1 := hB.trans (b1.mono hB.size)
        rw [← hr.out]
        exact ⟨_, rfl, New.mono hN B1.size, B1.trans ((hBn.trans hB2).mono B1.size)⟩
      · have hp : 0 < (Tm.stepVal rs u).length := by omega
        have hr := hid ((Tm.fm_go (f := f) (k := k) he hp).symm.trans hst.out)
        have hue := hid (Tm.step_err he hp)
        rw [he] at hC
        clear he hn hst hI hu
        generalize Tm.stepVal rs u = sts at *
        have hpi : (0 : Int) < (sts.length : Int) := by omega
        have hne : ((sts.length : Int) == 0) = false := len_no (by omega)
        by_cases h60 : k = 60
        · subst h60
          obtain rfl : f = 0 := by omega
          rw [Tm.fm] at hr
          go_wp2_with (first
            | (go_at_call 68; refine hC.out.mono ?_; clear hC; rintro e w1 ⟨v1, rfl, hN1, b1⟩; obtain ⟨g, cg, rfl⟩ := hN1.slice; clear hN1))
          go_ret3
          rw [← hr.out]
          exact ⟨_, rfl, New.nil _ _, hB.trans (b1.mono hB.size)⟩
        · have hk60 : ((k : Int) == 60) = false := by rw [beq_eq_false_iff_ne]; omega
          have hff : f = 61 - (k + 1) := by omega
          rw [hff] at hr
          clear hf hff
          go_wp2_with (first
            | (go_at_call 68; refine hC.out.mono ?_; clear hC; rintro e w1 ⟨v1, rfl, hN1, b1⟩; obtain ⟨g, cg, rfl, hat⟩ := hN1.at hp; obtain ⟨x0, y0, _, _, c02, i0, q0, q1⟩ := hat 0 hp; clear hat; simp only [Nat.zero_mul, Nat.zero_add] at c02; have HN := hid hN1; clear hN1; generalize (sts[0]?.getD (0, 0, [])).2.2 = u1 at *))
          go_roundw
          case rel => exact ⟨k + 1, u1, x0, y0, by omega, by go_num, rfl, hid i0, hid hue.out, q0, q1, hid hr.out, hB.trans (b1.mono hB.size)⟩
          case measure => simp [intOf]; omega
    · have hr := hid ((Tm.fm_bad (f := f) (k := k) he).symm.trans hst.out)
      have hne : (Tm.stepErr rs u != 0) = true := by simpa using he
      clear he hst hI hu
      generalize Tm.stepErr rs u = q at *
      go_wp2_with (first
        | (go_at_call 68; refine hC.out.mono ?_; clear hC; rintro e w1 ⟨v1, rfl, hN1, b1⟩; obtain ⟨va, vc, rfl⟩ := hN1.slice; clear hN1))
      go_ret3
      rw [← hr.out]
      exact ⟨_, rfl, New.nil _ _, hB.trans (b1.mono hB.size)⟩

set_option maxRecDepth 100000 in
set_option maxHeartbeats 1000000 in
theorem formOf_any (rs : RuleL) (t : List Int) (al at' : Option Addr) (cl ct : Nat) (w : World) (hR : RulesAt w.heap.size w al rs) (hT : Ints w.heap.size w at' t) (h1 : t.length ≤ ct) (h2 : ct ≤ maxLen) :
    Calls Try.prog 17 #[.slice al rs.length cl, .slice at' t.length ct] w fun e w' => ∃ v, e = .returned (.tuple #[v, .int .i64 ((Tm.form rs t).2.1 : Int), .int .i64 (Tm.form rs t).2.2]) ∧ New w.heap.size w' v (Tm.form rs t).1 ∧ Below w.heap.size w w' := by
  have C1 := stepsOf_any rs t al at' cl ct w hR hT h1 h2
  unfold StepsAns at C1
  by_cases he : Tm.stepErr rs t = 0
  · obtain ⟨k1, k2, _⟩ := Tm.stepErr_term he
    have C2 := hid (fun W (hW : Below w.heap.size w W) => refForm_any rs t al at' cl ct W k1 k2 ((hR.below hW).mono hW.size) ((hT.below hW).mono hW.size) h1 h2)
    rw [he] at C1
    clear he k1 k2 hR hT
    generalize Tm.form rs t = res at *
    go_enter Try.func17, Try.ntmps17
    go_wp2_with fail
    refine C1.mono ?_
    rintro e w1 ⟨v1, rfl, hN1, b1⟩
    obtain ⟨x1, c1, rfl⟩ := hN1.slice
    go_wp2_with fail
    refine (C2.out w1 b1).mono ?_
    rintro e w2 ⟨v2, rfl, hN2, b2⟩
    obtain ⟨x2, c2, rfl, _⟩ := New.ints hN2
    go_wp2
    go_ret3
    exact ⟨_, rfl, hN2.mono b1.size, b1.trans (b2.mono b1.size)⟩
  · have hf : Tm.form rs t = ([], 0, Tm.stepErr rs t) := Tm.fm_bad (f := 60) (k := 0) he
    have hne : (Tm.stepErr rs t != 0) = true := by simpa using he
    rw [hf]
    clear he hf hR hT
    generalize Tm.stepErr rs t = q at *
    go_enter Try.func17, Try.ntmps17
    go_wp2_with fail
    refine C1.mono ?_
    rintro e w1 ⟨v1, rfl, hN1, b1⟩
    obtain ⟨x1, c1, rfl⟩ := hN1.slice
    go_wp2
    go_ret3
    exact ⟨_, rfl, New.nil _ _, b1⟩

set_option maxRecDepth 100000 in
set_option maxHeartbeats 1000000 in
theorem isOf_any (rs : RuleL) (t : List Int) (al at' : Option Addr) (cl ct : Nat) (w : World) (hR : RulesAt w.heap.size w al rs) (hT : Ints w.heap.size w at' t) (h1 : t.length ≤ ct) (h2 : ct ≤ maxLen) :
    Calls Try.prog 18 #[.slice al rs.length cl, .slice at' t.length ct] w fun e w' => e = .returned (.tuple #[.bool (Tm.isForm rs t), .int .i64 (Tm.stepErr rs t)]) ∧ Below w.heap.size w w' := by
  have hC := hid (stepsOf_any rs t al at' cl ct w hR hT h1 h2)
  unfold StepsAns at hC
  unfold Tm.isForm
  clear hR hT h1 h2
  by_cases he : Tm.stepErr rs t = 0
  · rw [he] at hC ⊢
    clear he
    generalize Tm.stepVal rs t = sts at *
    by_cases hn : sts.length = 0
    · obtain rfl := List.eq_nil_of_length_eq_zero hn
      clear hn
      go_enter Try.func18, Try.ntmps18
      go_wp2_with (first
        | (go_at_call 41; refine hC.out.mono ?_; clear hC; rintro e w1 ⟨v1, rfl, hN1, b1⟩; obtain ⟨va, vc, rfl⟩ := hN1.slice; clear hN1))
      go_ret2
      exact ⟨rfl, b1⟩
    · have hne : ((sts.length : Int) == 0) = false := len_no hn
      rw [decide_eq_false hn]
      clear hn
      go_enter Try.func18, Try.ntmps18
      go_wp2_with (first
        | (go_at_call 41; refine hC.out.mono ?_; clear hC; rintro e w1 ⟨v1, rfl, hN1, b1⟩; obtain ⟨va, vc, rfl⟩ := hN1.slice; clear hN1))
      go_ret2
      exact ⟨rfl, b1⟩
  · have hne : (Tm.stepErr rs t == 0) = false := by simpa using he
    rw [decide_eq_false he, Bool.false_and]
    clear he
    generalize Tm.stepErr rs t = q at *
    go_enter Try.func18, Try.ntmps18
    go_wp2_with (first
      | (go_at_call 41; refine hC.out.mono ?_; clear hC; rintro e w1 ⟨v1, rfl, hN1, b1⟩; obtain ⟨va, vc, rfl⟩ := hN1.slice; clear hN1))
    go_ret2
    exact ⟨rfl, b1⟩

theorem Tm.fm_le {rs : RuleL} : ∀ (f : Nat) (t : List Int) (k : Nat), (Tm.fm rs f t k).1.length ≤ 30 := by
  intro f
  induction f with
  | zero => intro t k; simp [Tm.fm]
  | succ f ih =>
    intro t k
    by_cases he : Tm.stepErr rs t = 0
    · by_cases hn : (Tm.stepVal rs t).length = 0
      · rw [Tm.fm_end he hn]; exact Tm.err_len (Tm.stepErr_term he).2.1
      · rw [Tm.fm_go he (by omega)]; exact ih _ _
    · rw [Tm.fm_bad he]; simp

end Go.Proofs.Ytloealnfbpegnad
