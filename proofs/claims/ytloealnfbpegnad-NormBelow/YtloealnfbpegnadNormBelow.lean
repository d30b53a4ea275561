/-
  Of rules that fall the Form is below the term, just where a step was taken; else it is the term itself (rules.Falls, norm.Form, order.Above). No conditions.
-/
import Derived.Test.YtloealnfbpegnadRows
import Derived.WalkKit
import Derived.ProofKit
import Derived.OpenShut
import Derived.ChangeOld
import Derived.Below
import Derived.Deep.Matrix
import Derived.Test.YtloealnfbpegnadBun3
import Derived.Test.YtloealnfbpegnadBun11
import Derived.Test.YtloealnfbpegnadBun17
namespace Go.Proofs.Ytloealnfbpegnad.normBelow
open Go.ChangeShapes Go.WideShapes Go.ChangeAt Go.RowKit Go.Deep Go.Shelf Go.Maps
set_option linter.unusedVariables false

theorem own : ownKnob Try.prog.godebug = none := by kernel_rfl
theorem laidOut : laidOutB Try.prog = true := by kernel_rfl

/-! The walk. -/
set_option maxRecDepth 100000 in
set_option maxHeartbeats 2000000 in
theorem walk (a0 : Option Addr) (len0 cap0 : Nat) (a1 : Option Addr) (len1 cap1 : Nat) (a2 : Option Addr) (len2 cap2 : Nat) (w : World) (w0 : TermIn w a0 len0 cap0) (w1 : RulesIn w a1 len1 cap1) (w2 : TermIn w a2 len2 cap2) :
    Calls Try.prog 6 #[.slice a0 len0 cap0, .slice a1 len1 cap1, .slice a2 len2 cap2] w fun e w' => e = .returned (.bool true) ∧ Below w.heap.size w w' := by
  obtain ⟨r, rfl, hR, hr1, hr2, hr3⟩ := w0
  obtain ⟨rs, rfl, hI, hi1, hi2⟩ := w1
  obtain ⟨t, rfl, hT, ht1, ht2, ht3⟩ := w2
  have hFa := rulesFalls_any r rs a0 a1 cap0 cap1 w hR hI
  have hF := hid (fun W (hW : Below w.heap.size w W) => form_any rs t a1 a2 cap1 cap2 W ((hI.below hW).mono hW.size) ((hT.below hW).mono hW.size) ht1 ht2)
  have hAb := hid (fun W (hW : Below w.heap.size w W) u au cu hu h3 h4 => orderAbove_any r t u a0 a2 au cap0 cap2 cu W ((hR.below hW).mono hW.size) ((hT.below hW).mono hW.size) hu ht1 ht2 h3 h4)
  have HT := hid (fun W (hW : Below w.heap.size w W) => (hT.below hW).mono hW.size)
  clear hR hI hT
  obtain ⟨⟨x, n, er⟩, hform⟩ : ∃ p, Tm.form rs t = p := ⟨_, rfl⟩
  rw [hform] at hF
  simp only at hF
  by_cases e1 : Tm.fallsErr r rs = 0
  · rw [e1] at hFa
    by_cases he : er = 0
    · subst he
      cases hqf : Tm.fallsVal r rs with
      | true =>
        obtain ⟨n', hn60, hruns, hnn⟩ := Tm.form_runs (rs := rs) (t := t) (by rw [hform])
        rw [hform] at hruns hnn
        simp only at hruns hnn
        subst hnn
        have hbel := Tm.runs_below e1 hqf hruns
        obtain ⟨k1, k2, _⟩ := Tm.stepErr_term (Tm.runs_end hruns).1
        have kt : Tm.err t = 0 := by
          cases hruns with
          | stop h _ => exact (Tm.stepErr_term h).2.1
          | go h _ _ => exact (Tm.stepErr_term h).2.1
        have hrk : Tm.rankErr r = 0 := by
          unfold Tm.fallsErr at e1
          by_cases h : Tm.rankErr r = 0
          · exact h
          · rw [if_neg h] at e1; exact absurd e1 h
        have hae := Tm.aboveErr_of hrk kt k2
        have lx := Tm.err_len k2
        rw [hqf] at hFa
        have hC := hid (fun W (hW : Below w.heap.size w W) a c hx h3 h4 => hAb.out W hW x a c hx h3 h4)
        rw [hae] at hC
        rcases hbel with ⟨rfl, rfl⟩ | ⟨hp, hg⟩
        · rw [Tm.aboveVal_self] at hC
          have hSm := hid (fun W u v cu cv (hu : Ints W.heap.size W u x) (hv : Ints W.heap.size W v x) => same_any x x u v cu cv W hu hv (by unfold maxLen; omega))
          rw [show sameB x x = true by simp [sameB]] at hSm
          clear hruns hae hrk kt k1 k2 hqf e1 hform
          go_enter Try.func6, Try.ntmps6
          go_wp2_with fail
          refine hFa.mono ?_
          rintro e u1 ⟨rfl, B1⟩
          go_wp2_with fail
          refine (hF.out u1 B1).mono ?_
          rintro e u2 ⟨v2, rfl, hN2, b2⟩
          obtain ⟨x2, c2, rfl, i2, q1, q2⟩ := New.ints hN2
          have B2 := B1.trans (b2.mono B1.size)
          go_wp2_with fail
          refine (hC.out u2 B2 x2 c2 i2 q1 q2).mono ?_
          rintro e u3 ⟨rfl, b3⟩
          have B3 := B2.trans (b3.mono B2.size)
          have i3 := (i2.below b3).mono b3.size
          go_wp2_with fail
          refine (normBegun_any _).mono ?_
          rintro e u4 ⟨rfl, b4⟩
          have B4 := B3.trans (b4.mono B3.size)
          go_wp2_with fail
          refine (hSm.out u4 x2 a2 c2 cap2 ((i3.below b4).mono b4.size) (HT.out u4 B4)).mono ?_
          rintro e u5 ⟨rfl, b5⟩
          go_wp2
          go_ret
          exact ⟨rfl, B4.trans (b5.mono B4.size)⟩
        · rw [(Tm.aboveVal_iff hae).2 hg] at hC
          have hni : (0 : Int) < (n : Int) := by omega
          have hdi : decide ((0 : Int) < (n : Int)) = true := decide_eq_true hni
          clear hruns hae hrk kt k1 k2 hqf e1 hform hg
          go_enter Try.func6, Try.ntmps6
          go_wp2_with fail
          refine hFa.mono ?_
          rintro e u1 ⟨rfl, B1⟩
          go_wp2_with fail
          refine (hF.out u1 B1).mono ?_
          rintro e u2 ⟨v2, rfl, hN2, b2⟩
          obtain ⟨x2, c2, rfl, i2, q1, q2⟩ := New.ints hN2
          have B2 := B1.trans (b2.mono B1.size)
          go_wp2_with fail
          refine (hC.out u2 B2 x2 c2 i2 q1 q2).mono ?_
          rintro e u3 ⟨rfl, b3⟩
          have B3 := B2.trans (b3.mono B2.size)
          go_wp2_with fail
          refine (normBegun_any _).mono ?_
          rintro e u4 ⟨rfl, b4⟩
          go_wp2
          go_ret
          exact ⟨rfl, B3.trans (b4.mono B3.size)⟩
      | false =>
        rw [hqf] at hFa
        clear hqf e1 hform
        go_enter Try.func6, Try.ntmps6
        go_wp2_with fail
        refine hFa.mono ?_
        rintro e u1 ⟨rfl, B1⟩
        go_wp2_with fail
        refine (hF.out u1 B1).mono ?_
        rintro e u2 ⟨v2, rfl, hN2, b2⟩
        obtain ⟨x2, c2, rfl, i2, q1, q2⟩ := New.ints hN2
        have B2 := B1.trans (b2.mono B1.size)
        go_wp2_with fail
        refine (normBegun_any _).mono ?_
        rintro e u4 ⟨rfl, b4⟩
        go_wp2
        go_ret
        exact ⟨rfl, B2.trans (b4.mono B2.size)⟩
    · have hne : (er != 0) = true := by simpa using he
      clear he hform e1
      generalize Tm.fallsVal r rs = qf at *
      go_enter Try.func6, Try.ntmps6
      go_wp2_with fail
      refine hFa.mono ?_
      rintro e u1 ⟨rfl, B1⟩
      go_wp2_with fail
      refine (hF.out u1 B1).mono ?_
      rintro e u2 ⟨v2, rfl, hN2, b2⟩
      obtain ⟨x2, c2, rfl, i2, q1, q2⟩ := New.ints hN2
      have B2 := B1.trans (b2.mono B1.size)
      go_wp2_with fail
      refine (normBegun_any _).mono ?_
      rintro e u4 ⟨rfl, b4⟩
      go_wp2
      go_ret
      exact ⟨rfl, B2.trans (b4.mono B2.size)⟩
  · have hne : (Tm.fallsErr r rs != 0) = true := by simpa using e1
    clear e1 hform
    generalize Tm.fallsVal r rs = qf at *
    generalize Tm.fallsErr r rs = qe at *
    go_enter Try.func6, Try.ntmps6
    go_wp2_with fail
    refine hFa.mono ?_
    rintro e u1 ⟨rfl, B1⟩
    go_wp2_with fail
    refine (hF.out u1 B1).mono ?_
    rintro e u2 ⟨v2, rfl, hN2, b2⟩
    obtain ⟨x2, c2, rfl, i2, q1, q2⟩ := New.ints hN2
    have B2 := B1.trans (b2.mono B1.size)
    go_wp2_with fail
    refine (normBegun_any _).mono ?_
    rintro e u4 ⟨rfl, b4⟩
    go_wp2
    go_ret
    exact ⟨rfl, B2.trans (b4.mono B2.size)⟩

/-! The row. -/
set_option maxRecDepth 100000 in
theorem lifted (os : Os) (started : os.Started) (H : Type) (enc : TypeId × Value → H) :
    ReturnsInHanded {} Try.checked os 6 .any (Rows.normBelowSpec.pre6 enc Try.prog Try.f6 Rows.normBelowRow.domain false) (Rows.normBelowSpec.post enc Try.prog Try.f6 false true false false) := by
  refine returnsInHanded_of_change (C := Try.checked) own started (by kernel_rfl) Try.func6
    (ChangeSpec.witness6 (enc := enc) (C := Try.checked) false ⟨#[], #[.slice none 0 0, .slice none 0 0, .slice none 0 0], []⟩ 8 (by kernel_rfl) (by kernel_rfl) (by kernel_rfl) (by kernel_rfl)) ?_
  intro W base args ds gs before hval0 hW hcnd _
  have hval : ∀ (j : Nat) t v, Try.f6.params[j]? = some t → args[j]? = some v → Value.okWide Try.prog W .any base t v := hval0
  have hW' := hW
  obtain ⟨p, q, hA0, hV, rfl, hfz, hnd⟩ := hW
  have hA : DataW.TrodAll enc Try.prog W 0 (fun _ => true) true Try.f6.params.toList args.toList ds p := hA0
  rw [Try.params6] at hA hval
  obtain ⟨v0, vs0, d0, ds0, p0, q0, hargs, rfl, rfl, h0, r0⟩ := trodAll_cons hA
  obtain ⟨v1, vs1, d1, ds1, p1, q1, rfl, rfl, rfl, h1, r1⟩ := trodAll_cons r0
  obtain ⟨v2, vs2, d2, ds2, p2, q2, rfl, rfl, rfl, h2, r2⟩ := trodAll_cons r1
  obtain ⟨rfl, rfl, rfl⟩ := trodAll_nil r2
  obtain rfl : args = #[v0, v1, v2] := by cases args; simp_all
  obtain ⟨rfl, rfl⟩ := trodVars_none hV
  obtain ⟨a0, len0, cap0, rfl⟩ := okWide_slice Try.underlying22 (hval 0 22 v0 rfl rfl)
  have k0 := h0
  have lt0 : ∀ x ∈ p0, x.block < W.heap.size := by obtain ⟨m, hm⟩ := k0; exact DataW.trod_lt m _ _ _ hm
  have w0 : TermIn W a0 len0 cap0 := by
    obtain ⟨fuel, hf⟩ := h0
    rcases open_ints Try.underlying22 Try.underlying3 (by kernel_rfl) hf with ⟨hcs, _⟩ | ⟨x, l, c, zs, hcs, _, hl, hm, hz, _, hcell, hwz⟩
    · simp [Value.cells] at hcs
      obtain ⟨rfl, rfl, rfl⟩ := hcs
      exact ints_of_row (.inl ⟨rfl, rfl, rfl, rfl⟩)
    · simp [Value.cells] at hcs
      obtain ⟨rfl, rfl, rfl⟩ := hcs
      exact ints_of_row (.inr ⟨_, rfl, hl, hm, by simpa using hz, hcell, hwz⟩)
  obtain ⟨a1, len1, cap1, rfl⟩ := okWide_slice Try.underlying23 (hval 1 23 v1 rfl rfl)
  have k1 := h1
  have lt1 : ∀ x ∈ p1, x.block < W.heap.size := by obtain ⟨m, hm⟩ := k1; exact DataW.trod_lt m _ _ _ hm
  have w1 : RulesIn W a1 len1 cap1 := by
    obtain ⟨fuel, hf⟩ := h1
    exact rulesIn_open Try.underlying23 Try.underlying35 (by kernel_rfl) rfl rfl rfl rfl (by simp [Value.cells]) hf
  obtain ⟨a2, len2, cap2, rfl⟩ := okWide_slice Try.underlying24 (hval 2 24 v2 rfl rfl)
  have k2 := h2
  have lt2 : ∀ x ∈ p2, x.block < W.heap.size := by obtain ⟨m, hm⟩ := k2; exact DataW.trod_lt m _ _ _ hm
  have w2 : TermIn W a2 len2 cap2 := by
    obtain ⟨fuel, hf⟩ := h2
    rcases open_ints Try.underlying24 Try.underlying3 (by kernel_rfl) hf with ⟨hcs, _⟩ | ⟨x, l, c, zs, hcs, _, hl, hm, hz, _, hcell, hwz⟩
    · simp [Value.cells] at hcs
      obtain ⟨rfl, rfl, rfl⟩ := hcs
      exact ints_of_row (.inl ⟨rfl, rfl, rfl, rfl⟩)
    · simp [Value.cells] at hcs
      obtain ⟨rfl, rfl, rfl⟩ := hcs
      exact ints_of_row (.inr ⟨_, rfl, hl, hm, by simpa using hz, hcell, hwz⟩)
  clear hA0 hval0
  refine (walk a0 len0 cap0 a1 len1 cap1 a2 len2 cap2 W w0 w1 w2).mono fun e W' ⟨he, bel⟩ => ?_
  subst he
  exact ⟨_, rfl, _, _, _, [], _, [], hW', trodAll_mk1 (shut_bool Try.underlying4 _), (trodAll_cons_mk (Below.trod laidOut (by kernel_rfl) (of_decide_eq_true (by kernel_rfl)) k0 bel lt0) (trodAll_cons_mk (Below.trod laidOut (by kernel_rfl) (of_decide_eq_true (by kernel_rfl)) k1 bel lt1) (trodAll_cons_mk (Below.trod laidOut (by kernel_rfl) (of_decide_eq_true (by kernel_rfl)) k2 bel lt2) trodAll_mk0))), rfl, bel.frame _, fun h => by cases h⟩

theorem over : Rows.normBelowRow.holds Try.pinned (OpenSpec.ofChange Rows.normBelowSpec) :=
  OpenClaim.holds_of_wide 6 Try.f6 rfl rfl rfl rfl rfl rfl rfl ⟨rfl, rfl, rfl, rfl, rfl⟩ rfl rfl rfl rfl rfl (by kernel_rfl) Try.func6 (by kernel_rfl)
    (of_decide_eq_true (by kernel_rfl)) (by unfold Func.isWrapper; first | (rw [if_pos (by decide +kernel)]; kernel_rfl) | (rw [if_neg (by decide +kernel)]; exact ⟨rfl, rfl⟩))
    (fun os started H enc _ => lifted os started H enc)

/-- The statement. -/
theorem proved : Rows.NormBelowSaid := over
#print axioms proved
end Go.Proofs.Ytloealnfbpegnad.normBelow
