/-
  A Form is one, and its own: norm.Is says so of it, its own Form is itself by no step; the first of the steps leads to the same Form, by one step less (norm.Form, norm.Is, rules.Steps). No conditions.
-/
import Derived.Test.YtloealnfbpegnadRows
import Derived.WalkKit
import Derived.ProofKit
import Derived.OpenShut
import Derived.ChangeOld
import Derived.Below
import Derived.Deep.Matrix
import Derived.Test.YtloealnfbpegnadBun3
import Derived.Test.YtloealnfbpegnadBun11
import Derived.Test.YtloealnfbpegnadBun17
namespace Go.Proofs.Ytloealnfbpegnad.normTrue
open Go.ChangeShapes Go.WideShapes Go.ChangeAt Go.RowKit Go.Deep Go.Shelf Go.Maps
set_option linter.unusedVariables false

theorem own : ownKnob Try.prog.godebug = none := by kernel_rfl
theorem laidOut : laidOutB Try.prog = true := by kernel_rfl

/-! The walk. -/
set_option maxRecDepth 100000 in
set_option maxHeartbeats 2000000 in
theorem walk (a0 : Option Addr) (len0 cap0 : Nat) (a1 : Option Addr) (len1 cap1 : Nat) (w : World) (w0 : RulesIn w a0 len0 cap0) (w1 : TermIn w a1 len1 cap1) :
    Calls Try.prog 5 #[.slice a0 len0 cap0, .slice a1 len1 cap1] w fun e w' => e = .returned (.bool true) ∧ Below w.heap.size w w' := by
  obtain ⟨rs, rfl, hI, hi1, hi2⟩ := w0
  obtain ⟨t, rfl, hT, ht1, ht2, ht3⟩ := w1
  have hF := form_any rs t a0 a1 cap0 cap1 w hI hT ht1 ht2
  have HI := hid (fun W (hW : Below w.heap.size w W) => (hI.below hW).mono hW.size)
  have HT := hid (fun W (hW : Below w.heap.size w W) => (hT.below hW).mono hW.size)
  clear hI hT
  obtain ⟨⟨x, n, er⟩, hform⟩ : ∃ p, Tm.form rs t = p := ⟨_, rfl⟩
  by_cases he : er = 0
  · subst he
    obtain ⟨n', hn60, hruns, hnn⟩ := Tm.form_runs (rs := rs) (t := t) (by rw [hform])
    rw [hform] at hruns hnn hF
    simp only at hruns hnn hF
    subst hnn
    obtain ⟨ex1, ex2⟩ := Tm.runs_end hruns
    have efx : Tm.form rs x = (x, 0, 0) := Tm.runs_form (.stop ex1 ex2) (by omega)
    have eix : Tm.isForm rs x = true := by unfold Tm.isForm; rw [decide_eq_true ex1, decide_eq_true ex2]; rfl
    obtain ⟨k1, k2, _⟩ := Tm.stepErr_term ex1
    have lx := Tm.err_len k2
    have hIs := hid (fun W (hW : Below w.heap.size w W) a c hx h1 h2 => isForm_any rs x a0 a cap0 c W (HI.out W hW) hx h1 h2)
    rw [eix, ex1] at hIs
    have hFx := hid (fun W (hW : Below w.heap.size w W) a c hx h1 h2 => form_any rs x a0 a cap0 c W (HI.out W hW) hx h1 h2)
    rw [efx] at hFx
    simp only at hFx
    have hSt := hid (fun W (hW : Below w.heap.size w W) => steps_any rs t a0 a1 cap0 cap1 W (HI.out W hW) (HT.out W hW) ht1 ht2)
    unfold StepsAns at hSt
    have hSm := hid (fun W u v cu cv (hu : Ints W.heap.size W u x) (hv : Ints W.heap.size W v x) => same_any x x u v cu cv W hu hv (by unfold maxLen; omega))
    rw [show sameB x x = true by simp [sameB]] at hSm
    have hcase : (n = 0 ∧ x = t ∧ Tm.stepErr rs t = 0 ∧ Tm.stepVal rs t = []) ∨ (∃ m, n = m + 1 ∧ Tm.stepErr rs t = 0 ∧ 0 < (Tm.stepVal rs t).length ∧ Tm.form rs ((Tm.stepVal rs t)[0]?.getD (0, 0, [])).2.2 = (x, m, 0)) := by
      cases hruns with
      | stop h hn => exact .inl ⟨rfl, rfl, h, List.eq_nil_of_length_eq_zero hn⟩
      | go h hn hr => exact .inr ⟨_, rfl, h, hn, Tm.runs_form hr (by omega)⟩
    clear hruns ex1 ex2 efx eix k1 k2 hform
    rcases hcase with ⟨rfl, rfl, e1, e2⟩ | ⟨m, rfl, e1, hp, e2⟩
    · rw [e1, e2] at hSt
      clear e1 e2
      go_enter Try.func5, Try.ntmps5
      go_wp2_with fail
      refine hF.mono ?_
      rintro e u1 ⟨v1, rfl, hN1, B1⟩
      obtain ⟨x1, c1, rfl, i1, q1, q1'⟩ := New.ints hN1
      go_wp2_with fail
      refine (hIs.out u1 B1 x1 c1 i1 q1 q1').mono ?_
      rintro e u2 ⟨rfl, b2⟩
      have B2 := B1.trans (b2.mono B1.size)
      have i2 := (i1.below b2).mono b2.size
      go_wp2_with fail
      refine (hFx.out u2 B2 x1 c1 i2 q1 q1').mono ?_
      rintro e u3 ⟨v3, rfl, hN3, b3⟩
      obtain ⟨x3, c3, rfl, i3, _⟩ := New.ints hN3
      have B3 := B2.trans (b3.mono B2.size)
      have i3' := (i2.below b3).mono b3.size
      go_wp2_with fail
      refine (hSm.out u3 x1 x3 c1 c3 i3' i3).mono ?_
      rintro e u4 ⟨rfl, b4⟩
      have B4 := B3.trans (b4.mono B3.size)
      have i4 := (i3'.below b4).mono b4.size
      go_wp2_with fail
      refine (hSt.out u4 B4).mono ?_
      rintro e u5 ⟨v5, rfl, hN5, b5⟩
      obtain ⟨x5, c5, rfl⟩ := hN5.slice
      have B5 := B4.trans (b5.mono B4.size)
      have i5 := (i4.below b5).mono b5.size
      go_wp2_with fail
      refine (normBegun_any _).mono ?_
      rintro e u6 ⟨rfl, b6⟩
      have B6 := B5.trans (b6.mono B5.size)
      have i6 := (i5.below b6).mono b6.size
      go_wp2_with fail
      refine (hSm.out u6 x1 a1 c1 cap1 i6 (HT.out u6 B6)).mono ?_
      rintro e u7 ⟨rfl, b7⟩
      go_wp2
      go_ret
      exact ⟨rfl, B6.trans (b7.mono B6.size)⟩
    · rw [e1] at hSt
      generalize Tm.stepVal rs t = sts at *
      have hzi : ((sts.length : Int) == 0) = false := len_no (by omega)
      have hzn : (((m + 1 : Nat) : Int) == 0) = false := len_no (by omega)
      have hmi : (m : Int) ≤ 60 := by omega
      have hpi : (0 : Int) < (sts.length : Int) := by omega
      have hFs := hid (fun W (hW : Below w.heap.size w W) a c hx h1 h2 => form_any rs (sts[0]?.getD (0, 0, [])).2.2 a0 a cap0 c W (HI.out W hW) hx h1 h2)
      rw [e2] at hFs
      simp only at hFs
      have hkm : ((m : Int) == ((m + 1 : Nat) : Int) - 1) = true := by rw [beq_iff_eq]; omega
      clear e1 e2
      go_enter Try.func5, Try.ntmps5
      go_wp2_with fail
      refine hF.mono ?_
      rintro e u1 ⟨v1, rfl, hN1, B1⟩
      obtain ⟨x1, c1, rfl, i1, q1, q1'⟩ := New.ints hN1
      go_wp2_with fail
      refine (hIs.out u1 B1 x1 c1 i1 q1 q1').mono ?_
      rintro e u2 ⟨rfl, b2⟩
      have B2 := B1.trans (b2.mono B1.size)
      have i2 := (i1.below b2).mono b2.size
      go_wp2_with fail
      refine (hFx.out u2 B2 x1 c1 i2 q1 q1').mono ?_
      rintro e u3 ⟨v3, rfl, hN3, b3⟩
      obtain ⟨x3, c3, rfl, i3, _⟩ := New.ints hN3
      have B3 := B2.trans (b3.mono B2.size)
      have i3' := (i2.below b3).mono b3.size
      go_wp2_with fail
      refine (hSm.out u3 x1 x3 c1 c3 i3' i3).mono ?_
      rintro e u4 ⟨rfl, b4⟩
      have B4 := B3.trans (b4.mono B3.size)
      have i4 := (i3'.below b4).mono b4.size
      go_wp2_with fail
      refine (hSt.out u4 B4).mono ?_
      rintro e u5 ⟨v5, rfl, hN5, b5⟩
      obtain ⟨g, cg, rfl, hat⟩ := hN5.at hp
      obtain ⟨xs, cs, _, _, cc, is, qs, qs'⟩ := hat 0 hp
      clear hat
      simp only [Nat.zero_mul, Nat.zero_add] at cc
      have B5 := B4.trans (b5.mono B4.size)
      have i5 := (i4.below b5).mono b5.size
      have hCs := hid (hFs.out u5 B5 xs cs is qs qs')
      generalize (sts[0]?.getD (0, 0, [])).2.2 = us at *
      go_wp2_with fail
      refine hCs.out.mono ?_
      rintro e u6 ⟨v6, rfl, hN6, b6⟩
      obtain ⟨x6, c6, rfl, i6, _⟩ := New.ints hN6
      have B6 := B5.trans (b6.mono B5.size)
      have i6' := (i5.below b6).mono b6.size
      go_wp2_with fail
      refine (normBegun_any _).mono ?_
      rintro e u7 ⟨rfl, b7⟩
      have B7 := B6.trans (b7.mono B6.size)
      go_wp2_with fail
      refine (hSm.out u7 x6 x1 c6 c1 ((i6.below b7).mono b7.size) ((i6'.below b7).mono b7.size)).mono ?_
      rintro e u8 ⟨rfl, b8⟩
      go_wp2
      go_ret
      exact ⟨rfl, B7.trans (b8.mono B7.size)⟩
  · have hne : (er != 0) = true := by simpa using he
    rw [hform] at hF
    simp only at hF
    clear he hform
    go_enter Try.func5, Try.ntmps5
    go_wp2_with fail
    refine hF.mono ?_
    rintro e u1 ⟨v1, rfl, hN1, B1⟩
    obtain ⟨x1, c1, rfl, _⟩ := New.ints hN1
    go_wp2_with fail
    refine (normBegun_any _).mono ?_
    rintro e u2 ⟨rfl, b2⟩
    go_wp2
    go_ret
    exact ⟨rfl, B1.trans (b2.mono B1.size)⟩

/-! The row. -/
set_option maxRecDepth 100000 in
theorem lifted (os : Os) (started : os.Started) (H : Type) (enc : TypeId × Value → H) :
    ReturnsInHanded {} Try.checked os 5 .any (Rows.normTrueSpec.pre6 enc Try.prog Try.f5 Rows.normTrueRow.domain false) (Rows.normTrueSpec.post enc Try.prog Try.f5 false true false false) := by
  refine returnsInHanded_of_change (C := Try.checked) own started (by kernel_rfl) Try.func5
    (ChangeSpec.witness6 (enc := enc) (C := Try.checked) false ⟨#[], #[.slice none 0 0, .slice none 0 0], []⟩ 8 (by kernel_rfl) (by kernel_rfl) (by kernel_rfl) (by kernel_rfl)) ?_
  intro W base args ds gs before hval0 hW hcnd _
  have hval : ∀ (j : Nat) t v, Try.f5.params[j]? = some t → args[j]? = some v → Value.okWide Try.prog W .any base t v := hval0
  have hW' := hW
  obtain ⟨p, q, hA0, hV, rfl, hfz, hnd⟩ := hW
  have hA : DataW.TrodAll enc Try.prog W 0 (fun _ => true) true Try.f5.params.toList args.toList ds p := hA0
  rw [Try.params5] at hA hval
  obtain ⟨v0, vs0, d0, ds0, p0, q0, hargs, rfl, rfl, h0, r0⟩ := trodAll_cons hA
  obtain ⟨v1, vs1, d1, ds1, p1, q1, rfl, rfl, rfl, h1, r1⟩ := trodAll_cons r0
  obtain ⟨rfl, rfl, rfl⟩ := trodAll_nil r1
  obtain rfl : args = #[v0, v1] := by cases args; simp_all
  obtain ⟨rfl, rfl⟩ := trodVars_none hV
  obtain ⟨a0, len0, cap0, rfl⟩ := okWide_slice Try.underlying23 (hval 0 23 v0 rfl rfl)
  have k0 := h0
  have lt0 : ∀ x ∈ p0, x.block < W.heap.size := by obtain ⟨m, hm⟩ := k0; exact DataW.trod_lt m _ _ _ hm
  have w0 : RulesIn W a0 len0 cap0 := by
    obtain ⟨fuel, hf⟩ := h0
    exact rulesIn_open Try.underlying23 Try.underlying35 (by kernel_rfl) rfl rfl rfl rfl (by simp [Value.cells]) hf
  obtain ⟨a1, len1, cap1, rfl⟩ := okWide_slice Try.underlying24 (hval 1 24 v1 rfl rfl)
  have k1 := h1
  have lt1 : ∀ x ∈ p1, x.block < W.heap.size := by obtain ⟨m, hm⟩ := k1; exact DataW.trod_lt m _ _ _ hm
  have w1 : TermIn W a1 len1 cap1 := by
    obtain ⟨fuel, hf⟩ := h1
    rcases open_ints Try.underlying24 Try.underlying3 (by kernel_rfl) hf with ⟨hcs, _⟩ | ⟨x, l, c, zs, hcs, _, hl, hm, hz, _, hcell, hwz⟩
    · simp [Value.cells] at hcs
      obtain ⟨rfl, rfl, rfl⟩ := hcs
      exact ints_of_row (.inl ⟨rfl, rfl, rfl, rfl⟩)
    · simp [Value.cells] at hcs
      obtain ⟨rfl, rfl, rfl⟩ := hcs
      exact ints_of_row (.inr ⟨_, rfl, hl, hm, by simpa using hz, hcell, hwz⟩)
  clear hA0 hval0
  refine (walk a0 len0 cap0 a1 len1 cap1 W w0 w1).mono fun e W' ⟨he, bel⟩ => ?_
  subst he
  exact ⟨_, rfl, _, _, _, [], _, [], hW', trodAll_mk1 (shut_bool Try.underlying4 _), (trodAll_cons_mk (Below.trod laidOut (by kernel_rfl) (of_decide_eq_true (by kernel_rfl)) k0 bel lt0) (trodAll_cons_mk (Below.trod laidOut (by kernel_rfl) (of_decide_eq_true (by kernel_rfl)) k1 bel lt1) trodAll_mk0)), rfl, bel.frame _, fun h => by cases h⟩

theorem over : Rows.normTrueRow.holds Try.pinned (OpenSpec.ofChange Rows.normTrueSpec) :=
  OpenClaim.holds_of_wide 5 Try.f5 rfl rfl rfl rfl rfl rfl rfl ⟨rfl, rfl, rfl, rfl, rfl⟩ rfl rfl rfl rfl rfl (by kernel_rfl) Try.func5 (by kernel_rfl)
    (of_decide_eq_true (by kernel_rfl)) (by unfold Func.isWrapper; first | (rw [if_pos (by decide +kernel)]; kernel_rfl) | (rw [if_neg (by decide +kernel)]; exact ⟨rfl, rfl⟩))
    (fun os started H enc _ => lifted os started H enc)

/-- The statement. -/
theorem proved : Rows.NormTrueSaid := over
#print axioms proved
end Go.Proofs.Ytloealnfbpegnad.normTrue
