/-
  norm.Form and norm.Is answer just what the document's own reckoning (package haspref) answers, errors too, whatever they are handed. No conditions.
-/
import Derived.Test.YtloealnfbpegnadRows
import Derived.WalkKit
import Derived.ProofKit
import Derived.OpenShut
import Derived.ChangeOld
import Derived.Below
import Derived.Deep.Matrix
import Derived.Test.YtloealnfbpegnadBun3
import Derived.Test.YtloealnfbpegnadBun11
import Derived.Test.YtloealnfbpegnadBun20
namespace Go.Proofs.Ytloealnfbpegnad.normForms
open Go.ChangeShapes Go.WideShapes Go.ChangeAt Go.RowKit Go.Deep Go.Shelf Go.Maps
set_option linter.unusedVariables false

theorem own : ownKnob Try.prog.godebug = none := by kernel_rfl
theorem laidOut : laidOutB Try.prog = true := by kernel_rfl

/-! The walk. -/
set_option maxRecDepth 100000 in
set_option maxHeartbeats 2000000 in
theorem walk (a0 : Option Addr) (len0 cap0 : Nat) (a1 : Option Addr) (len1 cap1 : Nat) (w : World) (w0 : RulesIn w a0 len0 cap0) (w1 : TermIn w a1 len1 cap1) :
    Calls Try.prog 4 #[.slice a0 len0 cap0, .slice a1 len1 cap1] w fun e w' => e = .returned (.bool true) ∧ Below w.heap.size w w' := by
  obtain ⟨rs, rfl, hI, hi1, hi2⟩ := w0
  obtain ⟨t, rfl, hT, ht1, ht2, ht3⟩ := w1
  have hF := form_any rs t a0 a1 cap0 cap1 w hI hT ht1 ht2
  have hS := hid (fun W (hW : Below w.heap.size w W) => isForm_any rs t a0 a1 cap0 cap1 W ((hI.below hW).mono hW.size) ((hT.below hW).mono hW.size) ht1 ht2)
  have hG := hid (fun W (hW : Below w.heap.size w W) => formOf_any rs t a0 a1 cap0 cap1 W ((hI.below hW).mono hW.size) ((hT.below hW).mono hW.size) ht1 ht2)
  have hU := hid (fun W (hW : Below w.heap.size w W) => isOf_any rs t a0 a1 cap0 cap1 W ((hI.below hW).mono hW.size) ((hT.below hW).mono hW.size) ht1 ht2)
  have hle : (Tm.form rs t).1.length ≤ 30 := Tm.fm_le 61 t 0
  clear hI hT
  obtain ⟨⟨x, n, er⟩, hform⟩ : ∃ p, Tm.form rs t = p := ⟨_, rfl⟩
  rw [hform] at hF hG hle
  simp only at hF hG hle
  clear hform
  generalize Tm.isForm rs t = q1 at *
  generalize Tm.stepErr rs t = q2 at *
  have hSm := hid (fun W u v cu cv (hu : Ints W.heap.size W u x) (hv : Ints W.heap.size W v x) => same_any x x u v cu cv W hu hv (by unfold maxLen; omega))
  rw [show sameB x x = true by simp [sameB]] at hSm
  have e1 : (q1 == q1) = true := by simp
  have e2 : (q2 == q2) = true := by simp
  have e3 : (er == er) = true := by simp
  have e4 : ((n : Int) == (n : Int)) = true := by simp
  go_enter Try.func4, Try.ntmps4
  go_wp2_with fail
  refine hF.mono ?_
  rintro e u1 ⟨v1, rfl, hN1, B1⟩
  obtain ⟨x1, c1, rfl, i1, _⟩ := New.ints hN1
  go_wp2_with fail
  refine (hS.out u1 B1).mono ?_
  rintro e u2 ⟨rfl, b2⟩
  have B2 := B1.trans (b2.mono B1.size)
  have i2 := (i1.below b2).mono b2.size
  go_wp2_with fail
  refine (hG.out u2 B2).mono ?_
  rintro e u3 ⟨v3, rfl, hN3, b3⟩
  obtain ⟨x3, c3, rfl, j3, _⟩ := New.ints hN3
  have B3 := B2.trans (b3.mono B2.size)
  have i3 := (i2.below b3).mono b3.size
  go_wp2_with fail
  refine (hU.out u3 B3).mono ?_
  rintro e u4 ⟨rfl, b4⟩
  have B4 := B3.trans (b4.mono B3.size)
  have i4 := (i3.below b4).mono b4.size
  have j4 := (j3.below b4).mono b4.size
  go_wp2_with fail
  refine (normBegun_any _).mono ?_
  rintro e u5 ⟨rfl, b5⟩
  have B5 := B4.trans (b5.mono B4.size)
  go_wp2_with fail
  refine (hSm.out u5 x1 x3 c1 c3 ((i4.below b5).mono b5.size) ((j4.below b5).mono b5.size)).mono ?_
  rintro e u6 ⟨rfl, b6⟩
  go_wp2
  go_ret
  exact ⟨rfl, B5.trans (b6.mono B5.size)⟩

/-! The row. -/
set_option maxRecDepth 100000 in
theorem lifted (os : Os) (started : os.Started) (H : Type) (enc : TypeId × Value → H) :
    ReturnsInHanded {} Try.checked os 4 .any (Rows.normFormsSpec.pre6 enc Try.prog Try.f4 Rows.normFormsRow.domain false) (Rows.normFormsSpec.post enc Try.prog Try.f4 false true false false) := by
  refine returnsInHanded_of_change (C := Try.checked) own started (by kernel_rfl) Try.func4
    (ChangeSpec.witness6 (enc := enc) (C := Try.checked) false ⟨#[], #[.slice none 0 0, .slice none 0 0], []⟩ 8 (by kernel_rfl) (by kernel_rfl) (by kernel_rfl) (by kernel_rfl)) ?_
  intro W base args ds gs before hval0 hW hcnd _
  have hval : ∀ (j : Nat) t v, Try.f4.params[j]? = some t → args[j]? = some v → Value.okWide Try.prog W .any base t v := hval0
  have hW' := hW
  obtain ⟨p, q, hA0, hV, rfl, hfz, hnd⟩ := hW
  have hA : DataW.TrodAll enc Try.prog W 0 (fun _ => true) true Try.f4.params.toList args.toList ds p := hA0
  rw [Try.params4] at hA hval
  obtain ⟨v0, vs0, d0, ds0, p0, q0, hargs, rfl, rfl, h0, r0⟩ := trodAll_cons hA
  obtain ⟨v1, vs1, d1, ds1, p1, q1, rfl, rfl, rfl, h1, r1⟩ := trodAll_cons r0
  obtain ⟨rfl, rfl, rfl⟩ := trodAll_nil r1
  obtain rfl : args = #[v0, v1] := by cases args; simp_all
  obtain ⟨rfl, rfl⟩ := trodVars_none hV
  obtain ⟨a0, len0, cap0, rfl⟩ := okWide_slice Try.underlying23 (hval 0 23 v0 rfl rfl)
  have k0 := h0
  have lt0 : ∀ x ∈ p0, x.block < W.heap.size := by obtain ⟨m, hm⟩ := k0; exact DataW.trod_lt m _ _ _ hm
  have w0 : RulesIn W a0 len0 cap0 := by
    obtain ⟨fuel, hf⟩ := h0
    exact rulesIn_open Try.underlying23 Try.underlying35 (by kernel_rfl) rfl rfl rfl rfl (by simp [Value.cells]) hf
  obtain ⟨a1, len1, cap1, rfl⟩ := okWide_slice Try.underlying24 (hval 1 24 v1 rfl rfl)
  have k1 := h1
  have lt1 : ∀ x ∈ p1, x.block < W.heap.size := by obtain ⟨m, hm⟩ := k1; exact DataW.trod_lt m _ _ _ hm
  have w1 : TermIn W a1 len1 cap1 := by
    obtain ⟨fuel, hf⟩ := h1
    rcases open_ints Try.underlying24 Try.underlying3 (by kernel_rfl) hf with ⟨hcs, _⟩ | ⟨x, l, c, zs, hcs, _, hl, hm, hz, _, hcell, hwz⟩
    · simp [Value.cells] at hcs
      obtain ⟨rfl, rfl, rfl⟩ := hcs
      exact ints_of_row (.inl ⟨rfl, rfl, rfl, rfl⟩)
    · simp [Value.cells] at hcs
      obtain ⟨rfl, rfl, rfl⟩ := hcs
      exact ints_of_row (.inr ⟨_, rfl, hl, hm, by simpa using hz, hcell, hwz⟩)
  clear hA0 hval0
  refine (walk a0 len0 cap0 a1 len1 cap1 W w0 w1).mono fun e W' ⟨he, bel⟩ => ?_
  subst he
  exact ⟨_, rfl, _, _, _, [], _, [], hW', trodAll_mk1 (shut_bool Try.underlying4 _), (trodAll_cons_mk (Below.trod laidOut (by kernel_rfl) (of_decide_eq_true (by kernel_rfl)) k0 bel lt0) (trodAll_cons_mk (Below.trod laidOut (by kernel_rfl) (of_decide_eq_true (by kernel_rfl)) k1 bel lt1) trodAll_mk0)), rfl, bel.frame _, fun h => by cases h⟩

theorem over : Rows.normFormsRow.holds Try.pinned (OpenSpec.ofChange Rows.normFormsSpec) :=
  OpenClaim.holds_of_wide 4 Try.f4 rfl rfl rfl rfl rfl rfl rfl ⟨rfl, rfl, rfl, rfl, rfl⟩ rfl rfl rfl rfl rfl (by kernel_rfl) Try.func4 (by kernel_rfl)
    (of_decide_eq_true (by kernel_rfl)) (by unfold Func.isWrapper; first | (rw [if_pos (by decide +kernel)]; kernel_rfl) | (rw [if_neg (by decide +kernel)]; exact ⟨rfl, rfl⟩))
    (fun os started H enc _ => lifted os started H enc)

/-- The statement. -/
theorem proved : Rows.NormFormsSaid := over
#print axioms proved
end Go.Proofs.Ytloealnfbpegnad.normForms
