/-
  What order.Above answers is an order, whatever comes in: nothing is above itself; who is above who is above is above; of two, one alone is above; each is above its parts. No conditions.
-/
import Derived.Test.YtloealnfbpegnacRows
import Derived.WalkKit
import Derived.ProofKit
import Derived.OpenShut
import Derived.ChangeOld
import Derived.Below
import Derived.Deep.Matrix
import Derived.Test.YtloealnfbpegnacBun11
namespace Go.Proofs.Ytloealnfbpegnac.orderTrue
open Go.ChangeShapes Go.WideShapes Go.ChangeAt Go.RowKit Go.Deep Go.Shelf Go.Maps
set_option linter.unusedVariables false

theorem own : ownKnob Try.prog.godebug = none := by kernel_rfl
theorem laidOut : laidOutB Try.prog = true := by kernel_rfl

/-! The walk. -/
set_option maxRecDepth 100000 in
set_option maxHeartbeats 2000000 in
theorem walk (a0 : Option Addr) (len0 cap0 : Nat) (a1 : Option Addr) (len1 cap1 : Nat) (a2 : Option Addr) (len2 cap2 : Nat) (a3 : Option Addr) (len3 cap3 : Nat) (a4 : Int) (w : World) (w0 : TermIn w a0 len0 cap0) (w1 : TermIn w a1 len1 cap1) (w2 : TermIn w a2 len2 cap2) (w3 : TermIn w a3 len3 cap3) (w4 : (Lit.int .i64 a4).wf = true) :
    Calls Try.prog 5 #[.slice a0 len0 cap0, .slice a1 len1 cap1, .slice a2 len2 cap2, .slice a3 len3 cap3, .int .i64 a4] w fun e w' => e = .returned (.bool true) ∧ Below w.heap.size w w' := by
  obtain ⟨r, rfl, hR, hr1, hr2, hr3⟩ := w0
  obtain ⟨x, rfl, hX, hx1, hx2, hx3⟩ := w1
  obtain ⟨y, rfl, hY, hy1, hy2, hy3⟩ := w2
  obtain ⟨z, rfl, hZ, hz1, hz2, hz3⟩ := w3
  have hAB := hid (fun W (hW : Below w.heap.size w W) => orderAbove_any r x y a0 a1 a2 cap0 cap1 cap2 W ((hR.below hW).mono hW.size) ((hX.below hW).mono hW.size) ((hY.below hW).mono hW.size) hx1 hx2 hy1 hy2)
  have hBA := hid (fun W (hW : Below w.heap.size w W) => orderAbove_any r y x a0 a2 a1 cap0 cap2 cap1 W ((hR.below hW).mono hW.size) ((hY.below hW).mono hW.size) ((hX.below hW).mono hW.size) hy1 hy2 hx1 hx2)
  have hBC := hid (fun W (hW : Below w.heap.size w W) => orderAbove_any r y z a0 a2 a3 cap0 cap2 cap3 W ((hR.below hW).mono hW.size) ((hY.below hW).mono hW.size) ((hZ.below hW).mono hW.size) hy1 hy2 hz1 hz2)
  have hAC := hid (fun W (hW : Below w.heap.size w W) => orderAbove_any r x z a0 a1 a3 cap0 cap1 cap3 W ((hR.below hW).mono hW.size) ((hX.below hW).mono hW.size) ((hZ.below hW).mono hW.size) hx1 hx2 hz1 hz2)
  have hAA := hid (fun W (hW : Below w.heap.size w W) => orderAbove_any r x x a0 a1 a1 cap0 cap1 cap1 W ((hR.below hW).mono hW.size) ((hX.below hW).mono hW.size) ((hX.below hW).mono hW.size) hx1 hx2 hx1 hx2)
  by_cases e1 : Tm.aboveErr r x y = 0
  · obtain ⟨k1, k2, k3⟩ := Tm.aboveErr_ok e1
    have e2 : Tm.aboveErr r y x = 0 := Tm.aboveErr_of k1 k3 k2
    by_cases e3 : Tm.aboveErr r y z = 0
    · obtain ⟨_, _, k4⟩ := Tm.aboveErr_ok e3
      have e4 : Tm.aboveErr r x z = 0 := Tm.aboveErr_of k1 k2 k4
      have e5 : Tm.aboveErr r x x = 0 := Tm.aboveErr_of k1 k2 k2
      have v5 := Tm.aboveVal_self r x
      have vp := hid (fun (j : Nat) (hj : j < x.length) => Tm.aboveVal_part k1 k2 hj)
      have ep := hid (fun (j : Nat) (hj : j < x.length) => Tm.aboveErr_of k1 k2 (Tm.part_err k2 hj))
      have va := hid (Tm.aboveVal_anti e1)
      have vt := hid (Tm.aboveVal_trans e1 e3)
      have hpos := Tm.err_pos k2
      have hl30 := Tm.err_len k2
      have hne0 : ((x.length : Int) == 0) = false := beq_eq_false_iff_ne.2 (by omega)
      have HX := hid hX
      have HR := hid hR
      have HK2 := hid k2
      rw [e1] at hAB
      rw [e2] at hBA
      rw [e3] at hBC
      rw [e4] at hAC
      rw [e5, v5] at hAA
      clear e1 e2 e3 e4 e5 v5 k1 k2 k3 k4 hX hY hZ hR
      generalize Tm.aboveVal r x y = q1 at *
      generalize Tm.aboveVal r y x = q2 at *
      generalize Tm.aboveVal r y z = q3 at *
      generalize Tm.aboveVal r x z = q4 at *
      go_enter Try.func5, Try.ntmps5
      go_wp2_with fail
      refine (hAB.out w (Below.refl _ _)).mono ?_
      rintro e u1 ⟨rfl, B1⟩
      go_wp2_with fail
      refine (hBA.out u1 B1).mono ?_
      rintro e u2 ⟨rfl, b2⟩
      have B2 := B1.trans (b2.mono B1.size)
      go_wp2_with fail
      refine (hBC.out u2 B2).mono ?_
      rintro e u3 ⟨rfl, b3⟩
      have B3 := B2.trans (b3.mono B2.size)
      go_wp2_with fail
      refine (hAC.out u3 B3).mono ?_
      rintro e u4 ⟨rfl, b4⟩
      have B4 := B3.trans (b4.mono B3.size)
      go_wp2_with fail
      refine (hAA.out u4 B4).mono ?_
      rintro e u5 ⟨rfl, b5⟩
      have B5 := B4.trans (b5.mono B4.size)
      clear hAB hBA hBC hAC hAA B1 B2 B3 B4 b2 b3 b4 b5
      go_wp2_with fail
      refine (choose_any a4 x.length w4 hpos (by omega) _).mono ?_
      rintro e u5 ⟨⟨j, hj, rfl⟩, rfl⟩
      have hpe : Tm.placeErr x (j : Int) = 0 := Tm.place_of HK2.out (by omega) (by omega)
      have hpv : Tm.partVal x (j : Int) = Tm.part x j := by simp [Tm.partVal, hpe]
      have hP := termPart_any x a1 cap1 (j : Int) u5 ((HX.out.below B5).mono B5.size) hx1
      rw [hpe, hpv] at hP
      clear hpe hpv
      go_wp2_with fail
      refine hP.mono ?_
      rintro e u6 ⟨v6, rfl, hN6, b6⟩
      obtain ⟨p6, c6, rfl, hI6, hc6, hc6'⟩ := New.ints hN6
      have B6 := B5.trans (b6.mono B5.size)
      have hF := orderAbove_any r x (Tm.part x j) a0 a1 p6 cap0 cap1 c6 u6 ((HR.out.below B6).mono B6.size) ((HX.out.below B6).mono B6.size) hI6 hx1 hx2 hc6 hc6'
      rw [vp.out j hj, ep.out j hj] at hF
      clear vp ep hN6 hI6 b6 B5 hP
      go_wp2_with fail
      refine hF.mono ?_
      rintro e u7 ⟨rfl, b7⟩
      have B7 := B6.trans (b7.mono B6.size)
      clear hF b7 B6
      go_wp2_with fail
      refine (orderBegun_any _).mono ?_
      rintro e u8 ⟨rfl, b8⟩
      have B8 := B7.trans (b8.mono B7.size)
      have hqq : (decide ((0 : Int) < (j : Int)) == decide ((0 : Int) < (j : Int))) = true := by simp
      generalize decide ((0 : Int) < (j : Int)) = qq at *
      cases q1 with
      | false => go_wp2; go_ret; exact ⟨rfl, B8⟩
      | true =>
        have hq2 : q2 = false := va.out
        subst hq2
        cases q3 with
        | false => go_wp2; go_ret; exact ⟨rfl, B8⟩
        | true =>
          have hq4 : q4 = true := vt.out rfl rfl
          subst hq4
          go_wp2; go_ret; exact ⟨rfl, B8⟩
    · have hn : (Tm.aboveErr r y z != 0) = true := by simpa using e3
      rw [e1] at hAB
      rw [e2] at hBA
      clear e1 e2 e3 k1 k2 k3 hX hY hZ hR
      generalize Tm.aboveErr r y z = q at *
      go_enter Try.func5, Try.ntmps5
      go_wp2_with fail
      refine (hAB.out w (Below.refl _ _)).mono ?_
      rintro e u1 ⟨rfl, B1⟩
      go_wp2_with fail
      refine (hBA.out u1 B1).mono ?_
      rintro e u2 ⟨rfl, b2⟩
      have B2 := B1.trans (b2.mono B1.size)
      go_wp2_with fail
      refine (hBC.out u2 B2).mono ?_
      rintro e u3 ⟨rfl, b3⟩
      have B3 := B2.trans (b3.mono B2.size)
      go_wp2_with fail
      refine (hAC.out u3 B3).mono ?_
      rintro e u4 ⟨rfl, b4⟩
      have B4 := B3.trans (b4.mono B3.size)
      go_wp2_with fail
      refine (hAA.out u4 B4).mono ?_
      rintro e u5 ⟨rfl, b5⟩
      have B5 := B4.trans (b5.mono B4.size)
      go_wp2_with fail
      refine (orderBegun_any _).mono ?_
      rintro e u8 ⟨rfl, b8⟩
      go_wp2
      go_ret
      exact ⟨rfl, B5.trans (b8.mono B5.size)⟩
  · have hn : (Tm.aboveErr r x y != 0) = true := by simpa using e1
    clear e1 hX hY hZ hR
    generalize Tm.aboveErr r x y = q at *
    go_enter Try.func5, Try.ntmps5
    go_wp2_with fail
    refine (hAB.out w (Below.refl _ _)).mono ?_
    rintro e u1 ⟨rfl, B1⟩
    go_wp2_with fail
    refine (hBA.out u1 B1).mono ?_
    rintro e u2 ⟨rfl, b2⟩
    have B2 := B1.trans (b2.mono B1.size)
    go_wp2_with fail
    refine (hBC.out u2 B2).mono ?_
    rintro e u3 ⟨rfl, b3⟩
    have B3 := B2.trans (b3.mono B2.size)
    go_wp2_with fail
    refine (hAC.out u3 B3).mono ?_
    rintro e u4 ⟨rfl, b4⟩
    have B4 := B3.trans (b4.mono B3.size)
    go_wp2_with fail
    refine (hAA.out u4 B4).mono ?_
    rintro e u5 ⟨rfl, b5⟩
    have B5 := B4.trans (b5.mono B4.size)
    go_wp2_with fail
    refine (orderBegun_any _).mono ?_
    rintro e u8 ⟨rfl, b8⟩
    go_wp2
    go_ret
    exact ⟨rfl, B5.trans (b8.mono B5.size)⟩

/-! The row. -/
set_option maxRecDepth 100000 in
theorem lifted (os : Os) (started : os.Started) (H : Type) (enc : TypeId × Value → H) :
    ReturnsInHanded {} Try.checked os 5 .any (Rows.orderTrueSpec.pre6 enc Try.prog Try.f5 Rows.orderTrueRow.domain false) (Rows.orderTrueSpec.post enc Try.prog Try.f5 false true false false) := by
  refine returnsInHanded_of_change (C := Try.checked) own started (by kernel_rfl) Try.func5
    (ChangeSpec.witness6 (enc := enc) (C := Try.checked) false ⟨#[], #[.slice none 0 0, .slice none 0 0, .slice none 0 0, .slice none 0 0, .int .i64 0], []⟩ 8 (by kernel_rfl) (by kernel_rfl) (by kernel_rfl) (by kernel_rfl)) ?_
  intro W base args ds gs before hval0 hW hcnd _
  have hval : ∀ (j : Nat) t v, Try.f5.params[j]? = some t → args[j]? = some v → Value.okWide Try.prog W .any base t v := hval0
  have hW' := hW
  obtain ⟨p, q, hA0, hV, rfl, hfz, hnd⟩ := hW
  have hA : DataW.TrodAll enc Try.prog W 0 (fun _ => true) true Try.f5.params.toList args.toList ds p := hA0
  rw [Try.params5] at hA hval
  obtain ⟨v0, vs0, d0, ds0, p0, q0, hargs, rfl, rfl, h0, r0⟩ := trodAll_cons hA
  obtain ⟨v1, vs1, d1, ds1, p1, q1, rfl, rfl, rfl, h1, r1⟩ := trodAll_cons r0
  obtain ⟨v2, vs2, d2, ds2, p2, q2, rfl, rfl, rfl, h2, r2⟩ := trodAll_cons r1
  obtain ⟨v3, vs3, d3, ds3, p3, q3, rfl, rfl, rfl, h3, r3⟩ := trodAll_cons r2
  obtain ⟨v4, vs4, d4, ds4, p4, q4, rfl, rfl, rfl, h4, r4⟩ := trodAll_cons r3
  obtain ⟨rfl, rfl, rfl⟩ := trodAll_nil r4
  obtain rfl : args = #[v0, v1, v2, v3, v4] := by cases args; simp_all
  obtain ⟨rfl, rfl⟩ := trodVars_none hV
  obtain ⟨a0, len0, cap0, rfl⟩ := okWide_slice Try.underlying22 (hval 0 22 v0 rfl rfl)
  have k0 := h0
  have lt0 : ∀ x ∈ p0, x.block < W.heap.size := by obtain ⟨m, hm⟩ := k0; exact DataW.trod_lt m _ _ _ hm
  have w0 : TermIn W a0 len0 cap0 := by
    obtain ⟨fuel, hf⟩ := h0
    rcases open_ints Try.underlying22 Try.underlying3 (by kernel_rfl) hf with ⟨hcs, _⟩ | ⟨x, l, c, zs, hcs, _, hl, hm, hz, _, hcell, hwz⟩
    · simp [Value.cells] at hcs
      obtain ⟨rfl, rfl, rfl⟩ := hcs
      exact ints_of_row (.inl ⟨rfl, rfl, rfl, rfl⟩)
    · simp [Value.cells] at hcs
      obtain ⟨rfl, rfl, rfl⟩ := hcs
      exact ints_of_row (.inr ⟨_, rfl, hl, hm, by simpa using hz, hcell, hwz⟩)
  obtain ⟨a1, len1, cap1, rfl⟩ := okWide_slice Try.underlying23 (hval 1 23 v1 rfl rfl)
  have k1 := h1
  have lt1 : ∀ x ∈ p1, x.block < W.heap.size := by obtain ⟨m, hm⟩ := k1; exact DataW.trod_lt m _ _ _ hm
  have w1 : TermIn W a1 len1 cap1 := by
    obtain ⟨fuel, hf⟩ := h1
    rcases open_ints Try.underlying23 Try.underlying3 (by kernel_rfl) hf with ⟨hcs, _⟩ | ⟨x, l, c, zs, hcs, _, hl, hm, hz, _, hcell, hwz⟩
    · simp [Value.cells] at hcs
      obtain ⟨rfl, rfl, rfl⟩ := hcs
      exact ints_of_row (.inl ⟨rfl, rfl, rfl, rfl⟩)
    · simp [Value.cells] at hcs
      obtain ⟨rfl, rfl, rfl⟩ := hcs
      exact ints_of_row (.inr ⟨_, rfl, hl, hm, by simpa using hz, hcell, hwz⟩)
  obtain ⟨a2, len2, cap2, rfl⟩ := okWide_slice Try.underlying23 (hval 2 23 v2 rfl rfl)
  have k2 := h2
  have lt2 : ∀ x ∈ p2, x.block < W.heap.size := by obtain ⟨m, hm⟩ := k2; exact DataW.trod_lt m _ _ _ hm
  have w2 : TermIn W a2 len2 cap2 := by
    obtain ⟨fuel, hf⟩ := h2
    rcases open_ints Try.underlying23 Try.underlying3 (by kernel_rfl) hf with ⟨hcs, _⟩ | ⟨x, l, c, zs, hcs, _, hl, hm, hz, _, hcell, hwz⟩
    · simp [Value.cells] at hcs
      obtain ⟨rfl, rfl, rfl⟩ := hcs
      exact ints_of_row (.inl ⟨rfl, rfl, rfl, rfl⟩)
    · simp [Value.cells] at hcs
      obtain ⟨rfl, rfl, rfl⟩ := hcs
      exact ints_of_row (.inr ⟨_, rfl, hl, hm, by simpa using hz, hcell, hwz⟩)
  obtain ⟨a3, len3, cap3, rfl⟩ := okWide_slice Try.underlying23 (hval 3 23 v3 rfl rfl)
  have k3 := h3
  have lt3 : ∀ x ∈ p3, x.block < W.heap.size := by obtain ⟨m, hm⟩ := k3; exact DataW.trod_lt m _ _ _ hm
  have w3 : TermIn W a3 len3 cap3 := by
    obtain ⟨fuel, hf⟩ := h3
    rcases open_ints Try.underlying23 Try.underlying3 (by kernel_rfl) hf with ⟨hcs, _⟩ | ⟨x, l, c, zs, hcs, _, hl, hm, hz, _, hcell, hwz⟩
    · simp [Value.cells] at hcs
      obtain ⟨rfl, rfl, rfl⟩ := hcs
      exact ints_of_row (.inl ⟨rfl, rfl, rfl, rfl⟩)
    · simp [Value.cells] at hcs
      obtain ⟨rfl, rfl, rfl⟩ := hcs
      exact ints_of_row (.inr ⟨_, rfl, hl, hm, by simpa using hz, hcell, hwz⟩)
  obtain ⟨a4, rfl, rfl, rfl, w4⟩ := open_int Try.underlying3 (hval 4 3 v4 rfl rfl) h4
  clear hA0 hval0
  refine (walk a0 len0 cap0 a1 len1 cap1 a2 len2 cap2 a3 len3 cap3 a4 W w0 w1 w2 w3 w4).mono fun e W' ⟨he, bel⟩ => ?_
  subst he
  exact ⟨_, rfl, _, _, _, [], _, [], hW', trodAll_mk1 (shut_bool Try.underlying4 _), (trodAll_cons_mk (Below.trod laidOut (by kernel_rfl) (of_decide_eq_true (by kernel_rfl)) k0 bel lt0) (trodAll_cons_mk (Below.trod laidOut (by kernel_rfl) (of_decide_eq_true (by kernel_rfl)) k1 bel lt1) (trodAll_cons_mk (Below.trod laidOut (by kernel_rfl) (of_decide_eq_true (by kernel_rfl)) k2 bel lt2) (trodAll_cons_mk (Below.trod laidOut (by kernel_rfl) (of_decide_eq_true (by kernel_rfl)) k3 bel lt3) (trodAll_cons_mk (shut_int Try.underlying3 w4) trodAll_mk0))))), rfl, bel.frame _, fun h => by cases h⟩

theorem over : Rows.orderTrueRow.holds Try.pinned (OpenSpec.ofChange Rows.orderTrueSpec) :=
  OpenClaim.holds_of_wide 5 Try.f5 rfl rfl rfl rfl rfl rfl rfl ⟨rfl, rfl, rfl, rfl, rfl⟩ rfl rfl rfl rfl rfl (by kernel_rfl) Try.func5 (by kernel_rfl)
    (of_decide_eq_true (by kernel_rfl)) (by unfold Func.isWrapper; first | (rw [if_pos (by decide +kernel)]; kernel_rfl) | (rw [if_neg (by decide +kernel)]; exact ⟨rfl, rfl⟩))
    (fun os started H enc _ => lifted os started H enc)

/-- The statement. -/
theorem proved : Rows.OrderTrueSaid := over
#print axioms proved
end Go.Proofs.Ytloealnfbpegnac.orderTrue
