/-
  Whatever ranks, rules, pair and list of terms JoinSame is handed, it answers true and changes nothing that it was handed: of rules that fall and of which all pairs meet, what has one form has one form whatever variables become. No condition.
-/
import Derived.Test.YtgeknojpcjadkaaRows
import Derived.WalkKit
import Derived.ProofKit
import Derived.OpenShut
import Derived.ChangeOld
import Derived.Below
import Derived.Deep.Matrix
import Derived.Test.YtgeknojpcjadkaaBjs3
import Derived.Test.YtgeknojpcjadkaaBjs11
import Derived.Test.YtgeknojpcjadkaaBjs31
namespace Go.Proofs.Ytgeknojpcjadkaa.joinSame
open Go.ChangeShapes Go.WideShapes Go.ChangeAt Go.RowKit Go.Deep Go.Shelf Go.Maps
set_option linter.unusedVariables false

theorem own : ownKnob Try.prog.godebug = none := by kernel_rfl
theorem laidOut : laidOutB Try.prog = true := by kernel_rfl

/-! The walk. -/
set_option maxRecDepth 100000 in
set_option maxHeartbeats 2000000 in
theorem walk (a0 : Option Addr) (len0 cap0 : Nat) (a1 : Option Addr) (len1 cap1 : Nat) (v2 : Value) (a3 : Option Addr) (len3 cap3 : Nat) (w : World) (w0 : TermIn w a0 len0 cap0) (w1 : RulesIn w a1 len1 cap1) (w2 : PairIn w v2) (w3 : SubsIn w a3 len3 cap3) :
    Calls Try.prog 5 #[.slice a0 len0 cap0, .slice a1 len1 cap1, v2, .slice a3 len3 cap3] w fun e w' => e = .returned (.bool true) ∧ Below w.heap.size w w' := by
  obtain ⟨r, rfl, hR, hr1, hr2, hr3⟩ := w0
  obtain ⟨rs, rfl, hI, hi1, hi2⟩ := w1
  obtain ⟨P, Q, aP, aQ, cP, cQ, rfl, hP, hQ, p1, p2, q1, q2⟩ := w2
  obtain ⟨ss, rfl, hU, hu1, hu2⟩ := w3
  obtain ⟨W1, hW1⟩ : ∃ W1, w.alloc (.cells #[.slice aP P.length cP, .slice aQ Q.length cQ] 42) = W1 := ⟨_, rfl⟩
  have hB1 : Below w.heap.size w W1 := by rw [← hW1]; exact (Below.refl _ _).alloc (Nat.le_refl _) _
  have bx : Box2 W1 w.heap.size 42 (.slice aP P.length cP) (.slice aQ Q.length cQ) := by rw [← hW1]; exact Box2.new w _ _ _
  have hF := hid (rulesFalls_any r rs a0 a1 cap0 cap1 W1 ((hR.below hB1).mono hB1.size) ((hI.below hB1).mono hB1.size))
  have hJ := hid (fun W (hW : Below W1.heap.size W1 W) => joinAll_any rs a1 cap1 W (by have h := hB1.trans (hW.mono hB1.size); exact (hI.below h).mono h.size) (by omega))
  have hX := hid (fun W (hW : Below W1.heap.size W1 W) => joinPair_any rs P Q a1 aP aQ cap1 cP cQ W (by have h := hB1.trans (hW.mono hB1.size); exact (hI.below h).mono h.size) (by have h := hB1.trans (hW.mono hB1.size); exact (hP.below h).mono h.size) (by have h := hB1.trans (hW.mono hB1.size); exact (hQ.below h).mono h.size) p1 p2 q1 q2)
  have hA := hid (fun W (hW : Below W1.heap.size W1 W) => apply_any ss P a3 aP cap3 cP W (by have h := hB1.trans (hW.mono hB1.size); exact (hU.below h).mono h.size) (by have h := hB1.trans (hW.mono hB1.size); exact (hP.below h).mono h.size))
  have hA2 := hid (fun W (hW : Below W1.heap.size W1 W) => apply_any ss Q a3 aQ cap3 cQ W (by have h := hB1.trans (hW.mono hB1.size); exact (hU.below h).mono h.size) (by have h := hB1.trans (hW.mono hB1.size); exact (hQ.below h).mono h.size))
  have hY := hid (fun W (hW : Below W1.heap.size W1 W) u v au av cu cv hu hv h1 h2 h3 h4 => joinPair_any rs u v a1 au av cap1 cu cv W (by have h := hB1.trans (hW.mono hB1.size); exact (hI.below h).mono h.size) hu hv h1 h2 h3 h4)
  have hM := hid (fun er h1 h2 hj hp hs he => Tm.join_same (rk := r) (rs := rs) (er := er) (P := P) (Q := Q) (ss := ss) h1 h2 hj hp hs he)
  have hz1 := hid (fun h => Tm.apply_zero (ss := ss) (p := P) h)
  have hz2 := hid (fun h => Tm.apply_zero (ss := ss) (p := Q) h)
  have HW1 := hid hW1
  have HBX := hid (fun W (hW : Below W1.heap.size W1 W) => bx.below hW bx.lt)
  clear hW1 hR hI hP hQ hU p1 p2 q1 q2 bx
  obtain ⟨qe, hqe⟩ : ∃ q, Tm.fallsErr r rs = q := ⟨_, rfl⟩
  obtain ⟨qf, hqf⟩ : ∃ q, Tm.fallsVal r rs = q := ⟨_, rfl⟩
  obtain ⟨ge, hge⟩ : ∃ q, Tm.joinErr rs P Q = q := ⟨_, rfl⟩
  obtain ⟨gi, hgi⟩ : ∃ q, Tm.joinIs rs P Q = q := ⟨_, rfl⟩
  rw [hqe, hqf] at hF
  rw [hqe, hqf, hgi] at hM
  rw [hge, hgi] at hX
  clear hqe hqf hge hgi
  go_enter Try.func5, Try.ntmps5
  go_wp2_with fail
  rw [HW1.out]
  refine hF.out.mono ?_
  rintro e u1 ⟨rfl, B1⟩
  clear hF
  go_wp2_with fail
  refine (hJ.out u1 B1).mono ?_
  rintro e u2 ⟨is, er, hs, rfl, b2⟩
  have B2 := B1.trans (b2.mono B1.size)
  have Hs := hid hs
  have bx2 := HBX.out u2 B2
  have d0 := bx2.cell0
  have d1 := bx2.cell1
  clear hJ hs b2 B1 bx2
  go_wp2_with fail
  refine (hX.out u2 B2).mono ?_
  rintro e u3 ⟨rfl, b3⟩
  have B3 := B2.trans (b3.mono B2.size)
  clear hX b3 B2 d0 d1
  have hcase : (qe ≠ 0) ∨ (qe = 0 ∧ er ≠ 0) ∨ (qe = 0 ∧ er = 0 ∧ ge ≠ 0) ∨ (qe = 0 ∧ er = 0 ∧ ge = 0 ∧ qf = false) ∨ (qe = 0 ∧ er = 0 ∧ ge = 0 ∧ qf = true ∧ is = false) ∨ (qe = 0 ∧ er = 0 ∧ ge = 0 ∧ qf = true ∧ is = true ∧ gi = false) ∨ (qe = 0 ∧ er = 0 ∧ ge = 0 ∧ qf = true ∧ is = true ∧ gi = true) := by
    by_cases h1 : qe = 0
    · by_cases h2 : er = 0
      · by_cases h3 : ge = 0
        · cases qf with
          | false => exact .inr (.inr (.inr (.inl ⟨h1, h2, h3, rfl⟩)))
          | true => cases is with
            | false => exact .inr (.inr (.inr (.inr (.inl ⟨h1, h2, h3, rfl, rfl⟩))))
            | true => cases gi with
              | false => exact .inr (.inr (.inr (.inr (.inr (.inl ⟨h1, h2, h3, rfl, rfl, rfl⟩)))))
              | true => exact .inr (.inr (.inr (.inr (.inr (.inr ⟨h1, h2, h3, rfl, rfl, rfl⟩)))))
        · exact .inr (.inr (.inl ⟨h1, h2, h3⟩))
      · exact .inr (.inl ⟨h1, h2⟩)
    · exact .inl h1
  rcases hcase with h | ⟨rfl, h⟩ | ⟨rfl, rfl, h⟩ | ⟨rfl, rfl, rfl, rfl⟩ | ⟨rfl, rfl, rfl, rfl, rfl⟩ | ⟨rfl, rfl, rfl, rfl, rfl, rfl⟩ | ⟨rfl, rfl, rfl, rfl, rfl, rfl⟩
  · have hne : (qe != 0) = true := by simpa using h
    clear h hM Hs
    go_wp2_with fail
    refine (joinBegun_any _).mono ?_
    rintro e u4 ⟨rfl, b4⟩
    go_wp2
    go_ret
    have B4 := B3.trans (b4.mono B3.size)
    exact ⟨rfl, hB1.trans (B4.mono hB1.size)⟩
  · have hne : (er != 0) = true := by simpa using h
    clear h hM Hs
    go_wp2_with fail
    refine (joinBegun_any _).mono ?_
    rintro e u4 ⟨rfl, b4⟩
    go_wp2
    go_ret
    have B4 := B3.trans (b4.mono B3.size)
    exact ⟨rfl, hB1.trans (B4.mono hB1.size)⟩
  · have hne : (ge != 0) = true := by simpa using h
    clear h hM Hs
    go_wp2_with fail
    refine (joinBegun_any _).mono ?_
    rintro e u4 ⟨rfl, b4⟩
    go_wp2
    go_ret
    have B4 := B3.trans (b4.mono B3.size)
    exact ⟨rfl, hB1.trans (B4.mono hB1.size)⟩
  · clear hM Hs
    go_wp2_with fail
    refine (joinBegun_any _).mono ?_
    rintro e u4 ⟨rfl, b4⟩
    go_wp2
    go_ret
    have B4 := B3.trans (b4.mono B3.size)
    exact ⟨rfl, hB1.trans (B4.mono hB1.size)⟩
  · clear hM Hs
    go_wp2_with fail
    refine (joinBegun_any _).mono ?_
    rintro e u4 ⟨rfl, b4⟩
    go_wp2
    go_ret
    have B4 := B3.trans (b4.mono B3.size)
    exact ⟨rfl, hB1.trans (B4.mono hB1.size)⟩
  · clear hM Hs
    go_wp2_with fail
    refine (joinBegun_any _).mono ?_
    rintro e u4 ⟨rfl, b4⟩
    go_wp2
    go_ret
    have B4 := B3.trans (b4.mono B3.size)
    exact ⟨rfl, hB1.trans (B4.mono hB1.size)⟩
  · have hm := hid (hM.out 0 rfl rfl Hs.out rfl)
    have bx3 := HBX.out u3 B3
    have d0 := bx3.cell0
    clear hM Hs bx3
    obtain ⟨pe, hpe⟩ : ∃ q, Tm.applyErr ss P = q := ⟨_, rfl⟩
    obtain ⟨qe, hqe⟩ : ∃ q, Tm.applyErr ss Q = q := ⟨_, rfl⟩
    rw [hpe] at hA hz1
    rw [hqe] at hA2 hz2
    have hv1 := hid (Tm.applyVal_le ss P)
    have hv2 := hid (Tm.applyVal_le ss Q)
    clear hpe hqe
    by_cases he1 : pe = 0
    · subst he1
      obtain ⟨k1, _, _, k4⟩ := hz1.out rfl
      by_cases he2 : qe = 0
      · subst he2
        obtain ⟨_, _, _, k8⟩ := hz2.out rfl
        rw [k4] at hA hv1
        rw [k8] at hA2 hv2
        have hmm := hid (hm.out k1)
        clear hm hz1 hz2 k1 k4 k8
        generalize Tm.applied ss P = u at *
        generalize Tm.applied ss Q = v at *
        go_wp2_with fail
        refine (hA.out u3 B3).mono ?_
        rintro e u4 ⟨v4, rfl, hN4, b4⟩
        obtain ⟨x4, c4, rfl, i4, q4, q4'⟩ := New.ints hN4
        have B4 := B3.trans (b4.mono B3.size)
        have d1 := (HBX.out u4 B4).cell1
        clear hA hN4 B3 d0
        go_wp2_with fail
        refine (hA2.out u4 B4).mono ?_
        rintro e u5 ⟨v5, rfl, hN5, b5⟩
        obtain ⟨x5, c5, rfl, i5, q5, q5'⟩ := New.ints hN5
        have B5 := B4.trans (b5.mono B4.size)
        have hC := hid (hY.out u5 B5 u v x4 x5 c4 c5 ((i4.below b5).mono b5.size) i5 q4 q4' q5 q5')
        clear hA2 hN5 B4 d1 hY i4 i5
        obtain ⟨je, hje⟩ : ∃ q, Tm.joinErr rs u v = q := ⟨_, rfl⟩
        rw [hje] at hC hmm
        clear hje
        by_cases hj0 : je = 0
        · subst hj0
          rw [hmm.out rfl] at hC
          go_wp2_with fail
          refine hC.out.mono ?_
          rintro e u6 ⟨rfl, b6⟩
          have B6 := B5.trans (b6.mono B5.size)
          clear hC
          go_wp2_with fail
          refine (joinBegun_any _).mono ?_
          rintro e u7 ⟨rfl, b7⟩
          go_wp2
          go_ret
          have B7 := B6.trans (b7.mono B6.size)
          exact ⟨rfl, hB1.trans (B7.mono hB1.size)⟩
        · have hne : (je != 0) = true := by simpa using hj0
          clear hj0 hmm
          generalize Tm.joinIs rs u v = ji at *
          go_wp2_with fail
          refine hC.out.mono ?_
          rintro e u6 ⟨rfl, b6⟩
          have B6 := B5.trans (b6.mono B5.size)
          clear hC
          go_wp2_with fail
          refine (joinBegun_any _).mono ?_
          rintro e u7 ⟨rfl, b7⟩
          go_wp2
          go_ret
          have B7 := B6.trans (b7.mono B6.size)
          exact ⟨rfl, hB1.trans (B7.mono hB1.size)⟩
      · have hne : (qe != 0) = true := by simpa using he2
        clear he2 hz1 hz2 hm
        generalize Tm.applyVal ss P = u at *
        generalize Tm.applyVal ss Q = v at *
        go_wp2_with fail
        refine (hA.out u3 B3).mono ?_
        rintro e u4 ⟨v4, rfl, hN4, b4⟩
        obtain ⟨x4, c4, rfl, i4, q4, q4'⟩ := New.ints hN4
        have B4 := B3.trans (b4.mono B3.size)
        have d1 := (HBX.out u4 B4).cell1
        clear hA hN4 B3 d0
        go_wp2_with fail
        refine (hA2.out u4 B4).mono ?_
        rintro e u5 ⟨v5, rfl, hN5, b5⟩
        obtain ⟨x5, c5, rfl, i5, q5, q5'⟩ := New.ints hN5
        have B5 := B4.trans (b5.mono B4.size)
        clear hA2 hN5 B4 d1 hY
        go_wp2_with fail
        refine (joinBegun_any _).mono ?_
        rintro e u7 ⟨rfl, b7⟩
        go_wp2
        go_ret
        have B7 := B5.trans (b7.mono B5.size)
        exact ⟨rfl, hB1.trans (B7.mono hB1.size)⟩
    · have hne : (pe != 0) = true := by simpa using he1
      clear he1 hz1 hz2 hm
      generalize Tm.applyVal ss P = u at *
      generalize Tm.applyVal ss Q = v at *
      go_wp2_with fail
      refine (hA.out u3 B3).mono ?_
      rintro e u4 ⟨v4, rfl, hN4, b4⟩
      obtain ⟨x4, c4, rfl, i4, q4, q4'⟩ := New.ints hN4
      have B4 := B3.trans (b4.mono B3.size)
      have d1 := (HBX.out u4 B4).cell1
      clear hA hN4 B3 d0
      go_wp2_with fail
      refine (hA2.out u4 B4).mono ?_
      rintro e u5 ⟨v5, rfl, hN5, b5⟩
      obtain ⟨x5, c5, rfl, i5, q5, q5'⟩ := New.ints hN5
      have B5 := B4.trans (b5.mono B4.size)
      clear hA2 hN5 B4 d1 hY
      go_wp2_with fail
      refine (joinBegun_any _).mono ?_
      rintro e u7 ⟨rfl, b7⟩
      go_wp2
      go_ret
      have B7 := B5.trans (b7.mono B5.size)
      exact ⟨rfl, hB1.trans (B7.mono hB1.size)⟩

/-! The row. -/
set_option maxRecDepth 100000 in
theorem lifted (os : Os) (started : os.Started) (H : Type) (enc : TypeId × Value → H) :
    ReturnsInHanded {} Try.checked os 5 .any (Rows.joinSameSpec.pre6 enc Try.prog Try.f5 Rows.joinSameRow.domain false) (Rows.joinSameSpec.post enc Try.prog Try.f5 false true false false) := by
  refine returnsInHanded_of_change (C := Try.checked) own started (by kernel_rfl) Try.func5
    (ChangeSpec.witness6 (enc := enc) (C := Try.checked) false ⟨#[], #[.slice none 0 0, .slice none 0 0, .agg #[.slice none 0 0, .slice none 0 0], .slice none 0 0], []⟩ 8 (by kernel_rfl) (by kernel_rfl) (by kernel_rfl) (by kernel_rfl)) ?_
  intro W base args ds gs before hval0 hW hcnd _
  have hval : ∀ (j : Nat) t v, Try.f5.params[j]? = some t → args[j]? = some v → Value.okWide Try.prog W .any base t v := hval0
  have hW' := hW
  obtain ⟨p, q, hA0, hV, rfl, hfz, hnd⟩ := hW
  have hA : DataW.TrodAll enc Try.prog W 0 (fun _ => true) true Try.f5.params.toList args.toList ds p := hA0
  rw [Try.params5] at hA hval
  obtain ⟨v0, vs0, d0, ds0, p0, q0, hargs, rfl, rfl, h0, r0⟩ := trodAll_cons hA
  obtain ⟨v1, vs1, d1, ds1, p1, q1, rfl, rfl, rfl, h1, r1⟩ := trodAll_cons r0
  obtain ⟨v2, vs2, d2, ds2, p2, q2, rfl, rfl, rfl, h2, r2⟩ := trodAll_cons r1
  obtain ⟨v3, vs3, d3, ds3, p3, q3, rfl, rfl, rfl, h3, r3⟩ := trodAll_cons r2
  obtain ⟨rfl, rfl, rfl⟩ := trodAll_nil r3
  obtain rfl : args = #[v0, v1, v2, v3] := by cases args; simp_all
  obtain ⟨rfl, rfl⟩ := trodVars_none hV
  obtain ⟨a0, len0, cap0, rfl⟩ := okWide_slice Try.underlying36 (hval 0 36 v0 rfl rfl)
  have k0 := h0
  have lt0 : ∀ x ∈ p0, x.block < W.heap.size := by obtain ⟨m, hm⟩ := k0; exact DataW.trod_lt m _ _ _ hm
  have w0 : TermIn W a0 len0 cap0 := by
    obtain ⟨fuel, hf⟩ := h0
    rcases open_ints Try.underlying36 Try.underlying3 (by kernel_rfl) hf with ⟨hcs, _⟩ | ⟨x, l, c, zs, hcs, _, hl, hm, hz, _, hcell, hwz⟩
    · simp [Value.cells] at hcs
      obtain ⟨rfl, rfl, rfl⟩ := hcs
      exact ints_of_row (.inl ⟨rfl, rfl, rfl, rfl⟩)
    · simp [Value.cells] at hcs
      obtain ⟨rfl, rfl, rfl⟩ := hcs
      exact ints_of_row (.inr ⟨_, rfl, hl, hm, by simpa using hz, hcell, hwz⟩)
  obtain ⟨a1, len1, cap1, rfl⟩ := okWide_slice Try.underlying22 (hval 1 22 v1 rfl rfl)
  have k1 := h1
  have lt1 : ∀ x ∈ p1, x.block < W.heap.size := by obtain ⟨m, hm⟩ := k1; exact DataW.trod_lt m _ _ _ hm
  have w1 : RulesIn W a1 len1 cap1 := by
    obtain ⟨fuel, hf⟩ := h1
    exact rulesIn_open Try.underlying22 Try.underlying39 (by kernel_rfl) rfl rfl rfl rfl (by simp [Value.cells]) hf
  have k2 := h2
  have lt2 : ∀ x ∈ p2, x.block < W.heap.size := by obtain ⟨m, hm⟩ := k2; exact DataW.trod_lt m _ _ _ hm
  have w2 : PairIn W v2 := by
    obtain ⟨fuel, hf⟩ := h2
    exact pair_open (hval 2 42 v2 rfl rfl) rfl hf
  obtain ⟨a3, len3, cap3, rfl⟩ := okWide_slice Try.underlying58 (hval 3 58 v3 rfl rfl)
  have k3 := h3
  have lt3 : ∀ x ∈ p3, x.block < W.heap.size := by obtain ⟨m, hm⟩ := k3; exact DataW.trod_lt m _ _ _ hm
  have w3 : SubsIn W a3 len3 cap3 := by
    obtain ⟨fuel, hf⟩ := h3
    rcases open_int_rows Try.underlying58 Try.underlying37 Try.underlying3 (by kernel_rfl) (by kernel_rfl) hf with ⟨hcs, _⟩ | ⟨x, l, c, A, L, C, Z, hcs, _, hl, hm, _, hrow⟩
    · simp [Value.cells] at hcs
      obtain ⟨rfl, rfl, rfl⟩ := hcs
      exact subsIn_nil _
    · simp [Value.cells] at hcs
      obtain ⟨rfl, rfl, rfl⟩ := hcs
      exact subsIn_rows hl hm hrow
  clear hA0 hval0
  refine (walk a0 len0 cap0 a1 len1 cap1 v2 a3 len3 cap3 W w0 w1 w2 w3).mono fun e W' ⟨he, bel⟩ => ?_
  subst he
  exact ⟨_, rfl, _, _, _, [], _, [], hW', trodAll_mk1 (shut_bool Try.underlying4 _), (trodAll_cons_mk (Below.trod laidOut (by kernel_rfl) (of_decide_eq_true (by kernel_rfl)) k0 bel lt0) (trodAll_cons_mk (Below.trod laidOut (by kernel_rfl) (of_decide_eq_true (by kernel_rfl)) k1 bel lt1) (trodAll_cons_mk (Below.trod laidOut (by kernel_rfl) (of_decide_eq_true (by kernel_rfl)) k2 bel lt2) (trodAll_cons_mk (Below.trod laidOut (by kernel_rfl) (of_decide_eq_true (by kernel_rfl)) k3 bel lt3) trodAll_mk0)))), rfl, bel.frame _, fun h => by cases h⟩

theorem over : Rows.joinSameRow.holds Try.pinned (OpenSpec.ofChange Rows.joinSameSpec) :=
  OpenClaim.holds_of_wide 5 Try.f5 rfl rfl rfl rfl rfl rfl rfl ⟨rfl, rfl, rfl, rfl, rfl⟩ rfl rfl rfl rfl rfl (by kernel_rfl) Try.func5 (by kernel_rfl)
    (of_decide_eq_true (by kernel_rfl)) (by unfold Func.isWrapper; first | (rw [if_pos (by decide +kernel)]; kernel_rfl) | (rw [if_neg (by decide +kernel)]; exact ⟨rfl, rfl⟩))
    (fun os started H enc _ => lifted os started H enc)

/-- The statement. -/
theorem proved : Rows.JoinSameSaid := over
#print axioms proved
end Go.Proofs.Ytgeknojpcjadkaa.joinSame
