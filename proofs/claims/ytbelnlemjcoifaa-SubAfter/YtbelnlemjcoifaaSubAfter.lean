/-
  Whatever lists of lists of signs and whatever list of signs SubAfter is handed, it answers true and changes nothing that it was handed: sub.After and sub.Plain answer just what the document says, errors too. No condition.
-/
import Derived.Test.YtbelnlemjcoifaaRows
import Derived.WalkKit
import Derived.ProofKit
import Derived.OpenShut
import Derived.ChangeOld
import Derived.Below
import Derived.Deep.Matrix
import Derived.Test.YtbelnlemjcoifaaRow2
import Derived.Test.YtbelnlemjcoifaaSub10
namespace Go.Proofs.Ytbelnlemjcoifaa.subAfter
open Go.ChangeShapes Go.WideShapes Go.ChangeAt Go.RowKit Go.Deep Go.Shelf Go.Maps
set_option linter.unusedVariables false

theorem own : ownKnob Try.prog.godebug = none := by kernel_rfl
theorem laidOut : laidOutB Try.prog = true := by kernel_rfl

/-! The walk. -/
set_option maxRecDepth 100000 in
set_option maxHeartbeats 2000000 in
theorem walk (a0 : Option Addr) (len0 cap0 : Nat) (a1 : Option Addr) (len1 cap1 : Nat) (a2 : Option Addr) (len2 cap2 : Nat) (w : World) (w0 : SubsIn w a0 len0 cap0) (w1 : SubsIn w a1 len1 cap1) (w2 : TermIn w a2 len2 cap2) :
    Calls Try.prog 7 #[.slice a0 len0 cap0, .slice a1 len1 cap1, .slice a2 len2 cap2] w fun e w' => e = .returned (.bool true) ∧ Below w.heap.size w w' := by
  obtain ⟨ss, rfl, hS, _, _⟩ := w0
  obtain ⟨us, rfl, hU, _, _⟩ := w1
  obtain ⟨t, rfl, hT, _, _, _⟩ := w2
  have hA := after_any ss us a0 a1 cap0 cap1 w hS hU
  have hP : ∀ W, Below w.heap.size w W → Calls Try.prog 31 #[.slice a2 t.length cap2] W fun e w' => ∃ v, e = .returned (.tuple #[v, .int .i64 (Tm.err t)]) ∧ New W.heap.size w' v (Tm.plainVal t) ∧ Below W.heap.size W w' :=
    fun W hW => subPlain_any t a2 cap2 W ((hT.below hW).mono hW.size)
  have hRA : ∀ W, Below w.heap.size w W → Calls Try.prog 32 #[.slice a0 ss.length cap0, .slice a1 us.length cap1] W fun e w' => ∃ v, e = .returned (.tuple #[v, .int .i64 (Tm.afterErr ss us)]) ∧ NewS W.heap.size w' v (Tm.afterVal ss us) ∧ Below W.heap.size W w' :=
    fun W hW => afterOf_any ss us a0 a1 cap0 cap1 W ((hS.below hW).mono hW.size) ((hU.below hW).mono hW.size)
  have hRP : ∀ W, Below w.heap.size w W → Calls Try.prog 33 #[.slice a2 t.length cap2] W fun e w' => ∃ v, e = .returned (.tuple #[v, .int .i64 (Tm.err t)]) ∧ New W.heap.size w' v (Tm.plainVal t) ∧ Below W.heap.size W w' :=
    fun W hW => refPlain_any t a2 cap2 W ((hT.below hW).mono hW.size)
  have hpl : (Tm.plainVal t).length ≤ maxLen := by
    have h := Tm.plainVal_le t
    unfold maxLen
    omega
  have hal := Tm.afterVal_le ss us
  have HP := hid hP
  have HRA := hid hRA
  have HRP := hid hRP
  have Hpl := hid hpl
  have Hal := hid hal
  clear hP hRA hRP hpl hal hS hU hT
  generalize Tm.afterVal ss us = av at *
  generalize Tm.afterErr ss us = ae at *
  generalize Tm.plainVal t = pv at *
  generalize Tm.err t = te at *
  go_enter Try.func7, Try.ntmps7
  go_wp2_with fail
  refine hA.mono ?_
  rintro e w1 ⟨v1, rfl, hN1, hB1⟩
  obtain ⟨x1, c1, rfl, _⟩ := NewS.subs hN1
  clear hA
  go_wp2_with fail
  refine (HP.out _ hB1).mono ?_
  rintro e w2 ⟨v2, rfl, hN2, hB2⟩
  obtain ⟨x2, c2, rfl, _⟩ := New.ints hN2
  have hB3 := hB1.trans (hB2.mono hB1.size)
  have hN3 := hN1.below hB2
  clear hB1 hB2 HP hN1
  go_wp2_with fail
  refine (HRA.out _ hB3).mono ?_
  rintro e w3 ⟨v3, rfl, hN4, hB4⟩
  obtain ⟨x3, c3, rfl, _⟩ := NewS.subs hN4
  have hB5 := hB3.trans (hB4.mono hB3.size)
  have hN5 := hN3.below hB4
  have hN6 := hN2.below hB4
  clear hB3 hB4 HRA hN3 hN2
  go_wp2_with fail
  refine (HRP.out _ hB5).mono ?_
  rintro e w4 ⟨v4, rfl, hN7, hB6⟩
  obtain ⟨x4, c4, rfl, _⟩ := New.ints hN7
  have hB7 := hB5.trans (hB6.mono hB5.size)
  have hN8 := hN5.below hB6
  have hN9 := hN6.below hB6
  have hN10 := hN4.below hB6
  clear hB5 hB6 HRP hN5 hN6 hN4
  go_wp2_with fail
  refine (subBegun_any _).mono ?_
  rintro e w5 ⟨rfl, hB8⟩
  have hB9 := hB7.trans (hB8.mono hB7.size)
  have hM1 := hN8.below hB8
  have hM2 := hN9.below hB8
  have hM3 := hN10.below hB8
  have hM4 := hN7.below hB8
  clear hB7 hB8 hN7 hN8 hN9 hN10
  obtain ⟨_, _, e1, hs1, _⟩ := NewS.subs hM1
  cases e1
  obtain ⟨_, _, e3, hs3, _⟩ := NewS.subs hM3
  cases e3
  have hS := sameSubs_any av av _ _ c1 c3 _ hs1 hs3 Hal.out
  rw [show sameSB av av = true by simp [sameSB]] at hS
  clear hs1 hs3 hM1 hM3
  go_wp2_with fail
  refine hS.mono ?_
  rintro e w6 ⟨rfl, hB10⟩
  have hB11 := hB9.trans (hB10.mono hB9.size)
  have hM5 := hM2.below hB10
  have hM6 := hM4.below hB10
  clear hS hB9 hB10 hM2 hM4
  obtain ⟨_, _, e5, hi5, _⟩ := New.ints hM5
  cases e5
  obtain ⟨_, _, e6, hi6, _⟩ := New.ints hM6
  cases e6
  have hS := same_any pv pv _ _ c2 c4 _ hi5 hi6 Hpl.out
  rw [show sameB pv pv = true by simp [sameB]] at hS
  clear hM5 hM6 hi5 hi6 Hpl
  go_wp2_with fail
  refine hS.mono ?_
  rintro e w7 ⟨rfl, hB12⟩
  clear hS
  go_wp2
  go_ret
  exact ⟨rfl, hB11.trans (hB12.mono hB11.size)⟩

/-! The row. -/
set_option maxRecDepth 100000 in
theorem lifted (os : Os) (started : os.Started) (H : Type) (enc : TypeId × Value → H) :
    ReturnsInHanded {} Try.checked os 7 .any (Rows.subAfterSpec.pre6 enc Try.prog Try.f7 Rows.subAfterRow.domain false) (Rows.subAfterSpec.post enc Try.prog Try.f7 false true false false) := by
  refine returnsInHanded_of_change (C := Try.checked) own started (by kernel_rfl) Try.func7
    (ChangeSpec.witness6 (enc := enc) (C := Try.checked) false ⟨#[], #[.slice none 0 0, .slice none 0 0, .slice none 0 0], []⟩ 8 (by kernel_rfl) (by kernel_rfl) (by kernel_rfl) (by kernel_rfl)) ?_
  intro W base args ds gs before hval0 hW hcnd _
  have hval : ∀ (j : Nat) t v, Try.f7.params[j]? = some t → args[j]? = some v → Value.okWide Try.prog W .any base t v := hval0
  have hW' := hW
  obtain ⟨p, q, hA0, hV, rfl, hfz, hnd⟩ := hW
  have hA : DataW.TrodAll enc Try.prog W 0 (fun _ => true) true Try.f7.params.toList args.toList ds p := hA0
  rw [Try.params7] at hA hval
  obtain ⟨v0, vs0, d0, ds0, p0, q0, hargs, rfl, rfl, h0, r0⟩ := trodAll_cons hA
  obtain ⟨v1, vs1, d1, ds1, p1, q1, rfl, rfl, rfl, h1, r1⟩ := trodAll_cons r0
  obtain ⟨v2, vs2, d2, ds2, p2, q2, rfl, rfl, rfl, h2, r2⟩ := trodAll_cons r1
  obtain ⟨rfl, rfl, rfl⟩ := trodAll_nil r2
  obtain rfl : args = #[v0, v1, v2] := by cases args; simp_all
  obtain ⟨rfl, rfl⟩ := trodVars_none hV
  obtain ⟨a0, len0, cap0, rfl⟩ := okWide_slice Try.underlying36 (hval 0 36 v0 rfl rfl)
  have k0 := h0
  have lt0 : ∀ x ∈ p0, x.block < W.heap.size := by obtain ⟨m, hm⟩ := k0; exact DataW.trod_lt m _ _ _ hm
  have w0 : SubsIn W a0 len0 cap0 := by
    obtain ⟨fuel, hf⟩ := h0
    rcases open_int_rows Try.underlying36 Try.underlying23 Try.underlying3 (by kernel_rfl) (by kernel_rfl) hf with ⟨hcs, _⟩ | ⟨x, l, c, A, L, C, Z, hcs, _, hl, hm, _, hrow⟩
    · simp [Value.cells] at hcs
      obtain ⟨rfl, rfl, rfl⟩ := hcs
      exact subsIn_nil _
    · simp [Value.cells] at hcs
      obtain ⟨rfl, rfl, rfl⟩ := hcs
      exact subsIn_rows hl hm hrow
  obtain ⟨a1, len1, cap1, rfl⟩ := okWide_slice Try.underlying36 (hval 1 36 v1 rfl rfl)
  have k1 := h1
  have lt1 : ∀ x ∈ p1, x.block < W.heap.size := by obtain ⟨m, hm⟩ := k1; exact DataW.trod_lt m _ _ _ hm
  have w1 : SubsIn W a1 len1 cap1 := by
    obtain ⟨fuel, hf⟩ := h1
    rcases open_int_rows Try.underlying36 Try.underlying23 Try.underlying3 (by kernel_rfl) (by kernel_rfl) hf with ⟨hcs, _⟩ | ⟨x, l, c, A, L, C, Z, hcs, _, hl, hm, _, hrow⟩
    · simp [Value.cells] at hcs
      obtain ⟨rfl, rfl, rfl⟩ := hcs
      exact subsIn_nil _
    · simp [Value.cells] at hcs
      obtain ⟨rfl, rfl, rfl⟩ := hcs
      exact subsIn_rows hl hm hrow
  obtain ⟨a2, len2, cap2, rfl⟩ := okWide_slice Try.underlying23 (hval 2 23 v2 rfl rfl)
  have k2 := h2
  have lt2 : ∀ x ∈ p2, x.block < W.heap.size := by obtain ⟨m, hm⟩ := k2; exact DataW.trod_lt m _ _ _ hm
  have w2 : TermIn W a2 len2 cap2 := by
    obtain ⟨fuel, hf⟩ := h2
    rcases open_ints Try.underlying23 Try.underlying3 (by kernel_rfl) hf with ⟨hcs, _⟩ | ⟨x, l, c, zs, hcs, _, hl, hm, hz, _, hcell, hwz⟩
    · simp [Value.cells] at hcs
      obtain ⟨rfl, rfl, rfl⟩ := hcs
      exact ints_of_row (.inl ⟨rfl, rfl, rfl, rfl⟩)
    · simp [Value.cells] at hcs
      obtain ⟨rfl, rfl, rfl⟩ := hcs
      exact ints_of_row (.inr ⟨_, rfl, hl, hm, by simpa using hz, hcell, hwz⟩)
  clear hA0 hval0
  refine (walk a0 len0 cap0 a1 len1 cap1 a2 len2 cap2 W w0 w1 w2).mono fun e W' ⟨he, bel⟩ => ?_
  subst he
  exact ⟨_, rfl, _, _, _, [], _, [], hW', trodAll_mk1 (shut_bool Try.underlying4 _), (trodAll_cons_mk (Below.trod laidOut (by kernel_rfl) (of_decide_eq_true (by kernel_rfl)) k0 bel lt0) (trodAll_cons_mk (Below.trod laidOut (by kernel_rfl) (of_decide_eq_true (by kernel_rfl)) k1 bel lt1) (trodAll_cons_mk (Below.trod laidOut (by kernel_rfl) (of_decide_eq_true (by kernel_rfl)) k2 bel lt2) trodAll_mk0))), rfl, bel.frame _, fun h => by cases h⟩

theorem over : Rows.subAfterRow.holds Try.pinned (OpenSpec.ofChange Rows.subAfterSpec) :=
  OpenClaim.holds_of_wide 7 Try.f7 rfl rfl rfl rfl rfl rfl rfl ⟨rfl, rfl, rfl, rfl, rfl⟩ rfl rfl rfl rfl rfl (by kernel_rfl) Try.func7 (by kernel_rfl)
    (of_decide_eq_true (by kernel_rfl)) (by unfold Func.isWrapper; first | (rw [if_pos (by decide +kernel)]; kernel_rfl) | (rw [if_neg (by decide +kernel)]; exact ⟨rfl, rfl⟩))
    (fun os started H enc _ => lifted os started H enc)

/-- The statement. -/
theorem proved : Rows.SubAfterSaid := over
#print axioms proved
end Go.Proofs.Ytbelnlemjcoifaa.subAfter
