/-
  In whatever world of three things all rules hold, a term is what its Form is, whatever variables are (norm.Form). No conditions.
-/
import Derived.Test.YtloealnfbpegnadRows
import Derived.WalkKit
import Derived.ProofKit
import Derived.OpenShut
import Derived.ChangeOld
import Derived.Below
import Derived.Deep.Matrix
import Derived.Test.YtloealnfbpegnadBun3
import Derived.Test.YtloealnfbpegnadBun11
import Derived.Test.YtloealnfbpegnadBun23
namespace Go.Proofs.Ytloealnfbpegnad.normModel
open Go.ChangeShapes Go.WideShapes Go.ChangeAt Go.RowKit Go.Deep Go.Shelf Go.Maps
set_option linter.unusedVariables false

theorem own : ownKnob Try.prog.godebug = none := by kernel_rfl
theorem laidOut : laidOutB Try.prog = true := by kernel_rfl

/-! The walk. -/
set_option maxRecDepth 100000 in
set_option maxHeartbeats 2000000 in
theorem walk (a0 : Option Addr) (len0 cap0 : Nat) (a1 : Option Addr) (len1 cap1 : Nat) (zs2 : List Int) (w : World) (w0 : RulesIn w a0 len0 cap0) (w1 : TermIn w a1 len1 cap1) (w2 : MoOk zs2) :
    Calls Try.prog 7 #[.slice a0 len0 cap0, .slice a1 len1 cap1, moV zs2] w fun e w' => e = .returned (.bool true) ∧ Below w.heap.size w w' := by
  obtain ⟨rs, rfl, hI, hi1, hi2⟩ := w0
  obtain ⟨t, rfl, hT, ht1, ht2, ht3⟩ := w1
  have hB0 : Below w.heap.size w (w.alloc (.cells (zs2.map (Value.int .i64)).toArray 53)) := (Below.refl _ w).alloc (Nat.le_refl _) _
  have bM := World.alloc_heap_new w (.cells (zs2.map (Value.int .i64)).toArray 53)
  obtain ⟨W1, hW1⟩ : ∃ W1, w.alloc (.cells (zs2.map (Value.int .i64)).toArray 53) = W1 := ⟨_, rfl⟩
  have hs1 : W1.heap.size = w.heap.size + 1 := by rw [← hW1]; simp
  rw [hW1] at hB0 bM
  have HI := hid (fun W (hW : Below W1.heap.size W1 W) => show RulesAt W.heap.size W a0 rs by have h := hB0.trans (hW.mono hB0.size); exact (hI.below h).mono h.size)
  have HT := hid (fun W (hW : Below W1.heap.size W1 W) => show Ints W.heap.size W a1 t by have h := hB0.trans (hW.mono hB0.size); exact (hT.below h).mono h.size)
  have HbM := hid (fun W (hW : Below W1.heap.size W1 W) => (hW.block w.heap.size (by omega)).trans bM)
  have hF := hid (form_any rs t a0 a1 cap0 cap1 W1 (HI.out W1 (Below.refl _ _)) (HT.out W1 (Below.refl _ _)) ht1 ht2)
  have hszM := hid (mo_size w2)
  clear hI hT bM
  unfold moV
  obtain ⟨⟨x, n, er⟩, hform⟩ : ∃ p, Tm.form rs t = p := ⟨_, rfl⟩
  rw [hform] at hF
  simp only at hF
  by_cases he : er = 0
  · subst he
    obtain ⟨n', hn60, hruns, hnn⟩ := Tm.form_runs (rs := rs) (t := t) (by rw [hform])
    rw [hform] at hruns
    simp only at hruns
    obtain ⟨k1, k2, _⟩ := Tm.stepErr_term (Tm.runs_end hruns).1
    have kt : Tm.err t = 0 := by
      cases hruns with
      | stop h _ => exact (Tm.stepErr_term h).2.1
      | go h _ _ => exact (Tm.stepErr_term h).2.1
    have hRe := hid (fun W (hW : Below W1.heap.size W1 W) => rulesError_any rs a0 cap0 W (HI.out W hW))
    rw [k1] at hRe
    have hTe := hid (fun W (hW : Below W1.heap.size W1 W) => termError_any t a1 cap1 W (HT.out W hW))
    rw [kt] at hTe
    have hXe := hid (fun W a c (hx : Ints W.heap.size W a x) => termError_any x a c W hx)
    rw [k2] at hXe
    have hWo := hid (fun W (hW : Below W1.heap.size W1 W) => world_any zs2 w2 rs a0 cap0 W k1 (HI.out W hW))
    unfold moV at hWo
    cases hq : worldB zs2 rs with
    | true =>
      have hh : Tm.holdsB (mo zs2) t x (max (dpN t) (dpN x)) = true :=
        (Tm.holdsB_iff kt k2 (dp_all _ (by omega)) (dp_all _ (by omega))).2 (fun vs hv => Tm.runs_val (mo_lt zs2) hv (worldB_holds k1 hq) hruns)
      have hHo := hid (fun W (hW : Below W1.heap.size W1 W) a c (hx : Ints W.heap.size W a x) => holds_any zs2 w2 t x a1 a cap1 c W kt k2 (HT.out W hW) hx)
      rw [hh] at hHo
      unfold moV at hHo
      rw [hq] at hWo
      clear hq hh hruns k1 k2 kt hform hnn
      go_enter Try.func7, Try.ntmps7
      go_wp2_with fail
      refine hF.out.mono ?_
      rintro e u1 ⟨v1, rfl, hN1, B1⟩
      obtain ⟨x1, c1, rfl, i1, _⟩ := New.ints hN1
      go_wp2_with fail
      refine (hRe.out u1 B1).mono ?_
      rintro e u2 ⟨rfl, b2⟩
      have B2 := B1.trans (b2.mono B1.size)
      have i2 := (i1.below b2).mono b2.size
      go_wp2_with fail
      refine (hTe.out u2 B2).mono ?_
      rintro e u2 ⟨rfl, rfl⟩
      go_wp2_with fail
      refine (hXe.out u2 x1 c1 i2).mono ?_
      rintro e u2 ⟨rfl, rfl⟩
      have bM2 := hid (HbM.out u2 B2)
      go_wp2_with (first
        | (refine wpList_row_wanted rfl 53 _ rfl _ rfl _ _ _ _ bM2.out Try.underlying53 rfl hszM.out ?_)
        | (go_at_call 23; refine (hWo.out u2 B2).mono ?_; rintro e u3 ⟨rfl, b3⟩)
        | (go_at_call 19; refine (normBegun_any u3).mono ?_; rintro e u4 ⟨rfl, b4⟩; have B3 := B2.trans (b3.mono B2.size); have B4 := B3.trans (b4.mono B3.size); have bM4 := hid (HbM.out u4 B4); have i4 := (((i2.below b3).mono b3.size).below b4).mono b4.size)
        | (refine wpList_row_wanted rfl 53 _ rfl _ rfl _ _ _ _ bM4.out Try.underlying53 rfl hszM.out ?_)
        | (go_at_call 24; refine (hHo.out u4 B4 x1 c1 i4).mono ?_; rintro e u5 ⟨rfl, b5⟩))
      go_ret
      exact ⟨rfl, hB0.trans ((B4.trans (b5.mono B4.size)).mono hB0.size)⟩
    | false =>
      rw [hq] at hWo
      clear hq hruns k1 k2 kt hform hnn
      go_enter Try.func7, Try.ntmps7
      go_wp2_with fail
      refine hF.out.mono ?_
      rintro e u1 ⟨v1, rfl, hN1, B1⟩
      obtain ⟨x1, c1, rfl, i1, _⟩ := New.ints hN1
      go_wp2_with fail
      refine (hRe.out u1 B1).mono ?_
      rintro e u2 ⟨rfl, b2⟩
      have B2 := B1.trans (b2.mono B1.size)
      have i2 := (i1.below b2).mono b2.size
      go_wp2_with fail
      refine (hTe.out u2 B2).mono ?_
      rintro e u2 ⟨rfl, rfl⟩
      go_wp2_with fail
      refine (hXe.out u2 x1 c1 i2).mono ?_
      rintro e u2 ⟨rfl, rfl⟩
      have bM2 := hid (HbM.out u2 B2)
      go_wp2_with (first
        | (refine wpList_row_wanted rfl 53 _ rfl _ rfl _ _ _ _ bM2.out Try.underlying53 rfl hszM.out ?_)
        | (go_at_call 23; refine (hWo.out u2 B2).mono ?_; rintro e u3 ⟨rfl, b3⟩)
        | (go_at_call 19; refine (normBegun_any u3).mono ?_; rintro e u4 ⟨rfl, b4⟩))
      go_ret
      have B3 := B2.trans (b3.mono B2.size)
      exact ⟨rfl, hB0.trans ((B3.trans (b4.mono B3.size)).mono hB0.size)⟩
  · have hne : (er != 0) = true := by simpa using he
    clear he hform
    go_enter Try.func7, Try.ntmps7
    go_wp2_with fail
    refine hF.out.mono ?_
    rintro e u1 ⟨v1, rfl, hN1, B1⟩
    obtain ⟨x1, c1, rfl, i1, _⟩ := New.ints hN1
    go_wp2_with fail
    refine (normBegun_any u1).mono ?_
    rintro e u2 ⟨rfl, b2⟩
    go_wp2
    go_ret
    exact ⟨rfl, hB0.trans ((B1.trans (b2.mono B1.size)).mono hB0.size)⟩

/-! The row. -/
set_option maxRecDepth 100000 in
theorem lifted (os : Os) (started : os.Started) (H : Type) (enc : TypeId × Value → H) :
    ReturnsInHanded {} Try.checked os 7 .any (Rows.normModelSpec.pre6 enc Try.prog Try.f7 Rows.normModelRow.domain false) (Rows.normModelSpec.post enc Try.prog Try.f7 false true false false) := by
  refine returnsInHanded_of_change (C := Try.checked) own started (by kernel_rfl) Try.func7
    (ChangeSpec.witness6 (enc := enc) (C := Try.checked) false ⟨#[], #[.slice none 0 0, .slice none 0 0, .agg #[.int .i64 0, .int .i64 0, .int .i64 0, .int .i64 0, .int .i64 0, .int .i64 0, .int .i64 0, .int .i64 0, .int .i64 0, .int .i64 0, .int .i64 0, .int .i64 0, .int .i64 0, .int .i64 0, .int .i64 0, .int .i64 0, .int .i64 0, .int .i64 0, .int .i64 0, .int .i64 0, .int .i64 0, .int .i64 0, .int .i64 0, .int .i64 0, .int .i64 0, .int .i64 0]], []⟩ 8 (by kernel_rfl) (by kernel_rfl) (by kernel_rfl) (by kernel_rfl)) ?_
  intro W base args ds gs before hval0 hW hcnd _
  have hval : ∀ (j : Nat) t v, Try.f7.params[j]? = some t → args[j]? = some v → Value.okWide Try.prog W .any base t v := hval0
  have hW' := hW
  obtain ⟨p, q, hA0, hV, rfl, hfz, hnd⟩ := hW
  have hA : DataW.TrodAll enc Try.prog W 0 (fun _ => true) true Try.f7.params.toList args.toList ds p := hA0
  rw [Try.params7] at hA hval
  obtain ⟨v0, vs0, d0, ds0, p0, q0, hargs, rfl, rfl, h0, r0⟩ := trodAll_cons hA
  obtain ⟨v1, vs1, d1, ds1, p1, q1, rfl, rfl, rfl, h1, r1⟩ := trodAll_cons r0
  obtain ⟨v2, vs2, d2, ds2, p2, q2, rfl, rfl, rfl, h2, r2⟩ := trodAll_cons r1
  obtain ⟨rfl, rfl, rfl⟩ := trodAll_nil r2
  obtain rfl : args = #[v0, v1, v2] := by cases args; simp_all
  obtain ⟨rfl, rfl⟩ := trodVars_none hV
  obtain ⟨a0, len0, cap0, rfl⟩ := okWide_slice Try.underlying23 (hval 0 23 v0 rfl rfl)
  have k0 := h0
  have lt0 : ∀ x ∈ p0, x.block < W.heap.size := by obtain ⟨m, hm⟩ := k0; exact DataW.trod_lt m _ _ _ hm
  have w0 : RulesIn W a0 len0 cap0 := by
    obtain ⟨fuel, hf⟩ := h0
    exact rulesIn_open Try.underlying23 Try.underlying35 (by kernel_rfl) rfl rfl rfl rfl (by simp [Value.cells]) hf
  obtain ⟨a1, len1, cap1, rfl⟩ := okWide_slice Try.underlying24 (hval 1 24 v1 rfl rfl)
  have k1 := h1
  have lt1 : ∀ x ∈ p1, x.block < W.heap.size := by obtain ⟨m, hm⟩ := k1; exact DataW.trod_lt m _ _ _ hm
  have w1 : TermIn W a1 len1 cap1 := by
    obtain ⟨fuel, hf⟩ := h1
    rcases open_ints Try.underlying24 Try.underlying3 (by kernel_rfl) hf with ⟨hcs, _⟩ | ⟨x, l, c, zs, hcs, _, hl, hm, hz, _, hcell, hwz⟩
    · simp [Value.cells] at hcs
      obtain ⟨rfl, rfl, rfl⟩ := hcs
      exact ints_of_row (.inl ⟨rfl, rfl, rfl, rfl⟩)
    · simp [Value.cells] at hcs
      obtain ⟨rfl, rfl, rfl⟩ := hcs
      exact ints_of_row (.inr ⟨_, rfl, hl, hm, by simpa using hz, hcell, hwz⟩)
  have k2 := h2
  have lt2 : ∀ x ∈ p2, x.block < W.heap.size := by obtain ⟨m, hm⟩ := k2; exact DataW.trod_lt m _ _ _ hm
  obtain ⟨zs2, w2, e2⟩ : ∃ zs, MoOk zs ∧ v2 = moV zs := by
    obtain ⟨fuel, hf⟩ := h2
    exact model_open (hval 2 53 v2 rfl rfl) rfl hf
  subst e2
  clear hA0 hval0
  refine (walk a0 len0 cap0 a1 len1 cap1 zs2 W w0 w1 w2).mono fun e W' ⟨he, bel⟩ => ?_
  subst he
  exact ⟨_, rfl, _, _, _, [], _, [], hW', trodAll_mk1 (shut_bool Try.underlying4 _), (trodAll_cons_mk (Below.trod laidOut (by kernel_rfl) (of_decide_eq_true (by kernel_rfl)) k0 bel lt0) (trodAll_cons_mk (Below.trod laidOut (by kernel_rfl) (of_decide_eq_true (by kernel_rfl)) k1 bel lt1) (trodAll_cons_mk (Below.trod laidOut (by kernel_rfl) (of_decide_eq_true (by kernel_rfl)) k2 bel lt2) trodAll_mk0))), rfl, bel.frame _, fun h => by cases h⟩

theorem over : Rows.normModelRow.holds Try.pinned (OpenSpec.ofChange Rows.normModelSpec) :=
  OpenClaim.holds_of_wide 7 Try.f7 rfl rfl rfl rfl rfl rfl rfl ⟨rfl, rfl, rfl, rfl, rfl⟩ rfl rfl rfl rfl rfl (by kernel_rfl) Try.func7 (by kernel_rfl)
    (of_decide_eq_true (by kernel_rfl)) (by unfold Func.isWrapper; first | (rw [if_pos (by decide +kernel)]; kernel_rfl) | (rw [if_neg (by decide +kernel)]; exact ⟨rfl, rfl⟩))
    (fun os started H enc _ => lifted os started H enc)

/-- The statement. -/
theorem proved : Rows.NormModelSaid := over
#print axioms proved
end Go.Proofs.Ytloealnfbpegnad.normModel
