/-
  Whatever list of lists of signs and whatever list of signs SubTells is handed, it answers true and changes nothing that it was handed: sub.Check and sub.Apply answer just what the document says, errors too. No condition.
-/
import Derived.Test.YtbelnlemjcoifaaRows
import Derived.WalkKit
import Derived.ProofKit
import Derived.OpenShut
import Derived.ChangeOld
import Derived.Below
import Derived.Deep.Matrix
import Derived.Test.YtbelnlemjcoifaaRow2
namespace Go.Proofs.Ytbelnlemjcoifaa.subTells
open Go.ChangeShapes Go.WideShapes Go.ChangeAt Go.RowKit Go.Deep Go.Shelf Go.Maps
set_option linter.unusedVariables false

theorem own : ownKnob Try.prog.godebug = none := by kernel_rfl
theorem laidOut : laidOutB Try.prog = true := by kernel_rfl

/-! The walk. -/
set_option maxRecDepth 100000 in
set_option maxHeartbeats 2000000 in
theorem walk (a0 : Option Addr) (len0 cap0 : Nat) (a1 : Option Addr) (len1 cap1 : Nat) (w : World) (w0 : SubsIn w a0 len0 cap0) (w1 : TermIn w a1 len1 cap1) :
    Calls Try.prog 6 #[.slice a0 len0 cap0, .slice a1 len1 cap1] w fun e w' => e = .returned (.bool true) ∧ Below w.heap.size w w' := by
  obtain ⟨ss, rfl, hS, _, _⟩ := w0
  obtain ⟨t, rfl, hT, _, _, _⟩ := w1
  have hP := apply_any ss t a0 a1 cap0 cap1 w hS hT
  have hR : ∀ W, Below w.heap.size w W → Calls Try.prog 26 #[.slice a0 ss.length cap0, .slice a1 t.length cap1] W fun e w' => ∃ v, e = .returned (.tuple #[v, .int .i64 (Tm.applyErr ss t)]) ∧ New W.heap.size w' v (Tm.applyVal ss t) ∧ Below W.heap.size W w' :=
    fun W hW => refApply_any ss t a0 a1 cap0 cap1 W ((hS.below hW).mono hW.size) ((hT.below hW).mono hW.size)
  have hC : ∀ W, Below w.heap.size w W → Calls Try.prog 28 #[.slice a0 ss.length cap0] W fun e w' => e = .returned (.int .i64 (Tm.subErr ss)) ∧ Below W.heap.size W w' :=
    fun W hW => subCheck_any ss a0 cap0 W ((hS.below hW).mono hW.size)
  have hE : ∀ W, Below w.heap.size w W → Calls Try.prog 29 #[.slice a0 ss.length cap0] W fun e w' => e = .returned (.int .i64 (Tm.subErr ss)) ∧ w' = W :=
    fun W hW => subError_any ss a0 cap0 W ((hS.below hW).mono hW.size)
  have hpl : (Tm.applyVal ss t).length ≤ maxLen := by
    have h := Tm.applyVal_le ss t
    unfold maxLen
    omega
  have HR := hid hR
  have HC := hid hC
  have HE := hid hE
  have Hpl := hid hpl
  clear hR hC hE hpl hS hT
  generalize Tm.applyVal ss t = pv at *
  generalize Tm.applyErr ss t = pe at *
  generalize Tm.subErr ss = se at *
  go_enter Try.func6, Try.ntmps6
  go_wp2_with fail
  refine hP.mono ?_
  rintro e w1 ⟨v1, rfl, hN1, hB1⟩
  obtain ⟨x1, c1, rfl, _⟩ := New.ints hN1
  clear hP
  go_wp2_with fail
  refine (HR.out _ hB1).mono ?_
  rintro e w2 ⟨v2, rfl, hN2, hB2⟩
  obtain ⟨x2, c2, rfl, _⟩ := New.ints hN2
  have hB3 := hB1.trans (hB2.mono hB1.size)
  have hN3 := hN1.below hB2
  clear hB1 hB2 HR hN1
  go_wp2_with fail
  refine (subBegun_any _).mono ?_
  rintro e w3 ⟨rfl, hB4⟩
  have hB5 := hB3.trans (hB4.mono hB3.size)
  have hN4 := hN3.below hB4
  have hN5 := hN2.below hB4
  clear hB3 hB4 hN3 hN2
  go_wp2_with fail
  refine (HC.out _ hB5).mono ?_
  rintro e w4 ⟨rfl, hB6⟩
  have hB7 := hB5.trans (hB6.mono hB5.size)
  have hN6 := hN4.below hB6
  have hN7 := hN5.below hB6
  clear hB5 hB6 hN4 hN5 HC
  go_wp2_with fail
  refine (HE.out _ hB7).mono ?_
  rintro e w4 ⟨rfl, rfl⟩
  clear HE
  obtain ⟨_, _, e1, hi6, _⟩ := New.ints hN6
  cases e1
  obtain ⟨_, _, e2, hi7, _⟩ := New.ints hN7
  cases e2
  have hS := same_any pv pv _ _ c1 c2 _ hi6 hi7 Hpl.out
  rw [show sameB pv pv = true by simp [sameB]] at hS
  clear hN6 hN7 hi6 hi7 Hpl
  go_wp2_with fail
  refine hS.mono ?_
  rintro e w5 ⟨rfl, hB8⟩
  clear hS
  go_wp2
  go_ret
  exact ⟨rfl, hB7.trans (hB8.mono hB7.size)⟩

/-! The row. -/
set_option maxRecDepth 100000 in
theorem lifted (os : Os) (started : os.Started) (H : Type) (enc : TypeId × Value → H) :
    ReturnsInHanded {} Try.checked os 6 .any (Rows.subTellsSpec.pre6 enc Try.prog Try.f6 Rows.subTellsRow.domain false) (Rows.subTellsSpec.post enc Try.prog Try.f6 false true false false) := by
  refine returnsInHanded_of_change (C := Try.checked) own started (by kernel_rfl) Try.func6
    (ChangeSpec.witness6 (enc := enc) (C := Try.checked) false ⟨#[], #[.slice none 0 0, .slice none 0 0], []⟩ 8 (by kernel_rfl) (by kernel_rfl) (by kernel_rfl) (by kernel_rfl)) ?_
  intro W base args ds gs before hval0 hW hcnd _
  have hval : ∀ (j : Nat) t v, Try.f6.params[j]? = some t → args[j]? = some v → Value.okWide Try.prog W .any base t v := hval0
  have hW' := hW
  obtain ⟨p, q, hA0, hV, rfl, hfz, hnd⟩ := hW
  have hA : DataW.TrodAll enc Try.prog W 0 (fun _ => true) true Try.f6.params.toList args.toList ds p := hA0
  rw [Try.params6] at hA hval
  obtain ⟨v0, vs0, d0, ds0, p0, q0, hargs, rfl, rfl, h0, r0⟩ := trodAll_cons hA
  obtain ⟨v1, vs1, d1, ds1, p1, q1, rfl, rfl, rfl, h1, r1⟩ := trodAll_cons r0
  obtain ⟨rfl, rfl, rfl⟩ := trodAll_nil r1
  obtain rfl : args = #[v0, v1] := by cases args; simp_all
  obtain ⟨rfl, rfl⟩ := trodVars_none hV
  obtain ⟨a0, len0, cap0, rfl⟩ := okWide_slice Try.underlying36 (hval 0 36 v0 rfl rfl)
  have k0 := h0
  have lt0 : ∀ x ∈ p0, x.block < W.heap.size := by obtain ⟨m, hm⟩ := k0; exact DataW.trod_lt m _ _ _ hm
  have w0 : SubsIn W a0 len0 cap0 := by
    obtain ⟨fuel, hf⟩ := h0
    rcases open_int_rows Try.underlying36 Try.underlying23 Try.underlying3 (by kernel_rfl) (by kernel_rfl) hf with ⟨hcs, _⟩ | ⟨x, l, c, A, L, C, Z, hcs, _, hl, hm, _, hrow⟩
    · simp [Value.cells] at hcs
      obtain ⟨rfl, rfl, rfl⟩ := hcs
      exact subsIn_nil _
    · simp [Value.cells] at hcs
      obtain ⟨rfl, rfl, rfl⟩ := hcs
      exact subsIn_rows hl hm hrow
  obtain ⟨a1, len1, cap1, rfl⟩ := okWide_slice Try.underlying23 (hval 1 23 v1 rfl rfl)
  have k1 := h1
  have lt1 : ∀ x ∈ p1, x.block < W.heap.size := by obtain ⟨m, hm⟩ := k1; exact DataW.trod_lt m _ _ _ hm
  have w1 : TermIn W a1 len1 cap1 := by
    obtain ⟨fuel, hf⟩ := h1
    rcases open_ints Try.underlying23 Try.underlying3 (by kernel_rfl) hf with ⟨hcs, _⟩ | ⟨x, l, c, zs, hcs, _, hl, hm, hz, _, hcell, hwz⟩
    · simp [Value.cells] at hcs
      obtain ⟨rfl, rfl, rfl⟩ := hcs
      exact ints_of_row (.inl ⟨rfl, rfl, rfl, rfl⟩)
    · simp [Value.cells] at hcs
      obtain ⟨rfl, rfl, rfl⟩ := hcs
      exact ints_of_row (.inr ⟨_, rfl, hl, hm, by simpa using hz, hcell, hwz⟩)
  clear hA0 hval0
  refine (walk a0 len0 cap0 a1 len1 cap1 W w0 w1).mono fun e W' ⟨he, bel⟩ => ?_
  subst he
  exact ⟨_, rfl, _, _, _, [], _, [], hW', trodAll_mk1 (shut_bool Try.underlying4 _), (trodAll_cons_mk (Below.trod laidOut (by kernel_rfl) (of_decide_eq_true (by kernel_rfl)) k0 bel lt0) (trodAll_cons_mk (Below.trod laidOut (by kernel_rfl) (of_decide_eq_true (by kernel_rfl)) k1 bel lt1) trodAll_mk0)), rfl, bel.frame _, fun h => by cases h⟩

theorem over : Rows.subTellsRow.holds Try.pinned (OpenSpec.ofChange Rows.subTellsSpec) :=
  OpenClaim.holds_of_wide 6 Try.f6 rfl rfl rfl rfl rfl rfl rfl ⟨rfl, rfl, rfl, rfl, rfl⟩ rfl rfl rfl rfl rfl (by kernel_rfl) Try.func6 (by kernel_rfl)
    (of_decide_eq_true (by kernel_rfl)) (by unfold Func.isWrapper; first | (rw [if_pos (by decide +kernel)]; kernel_rfl) | (rw [if_neg (by decide +kernel)]; exact ⟨rfl, rfl⟩))
    (fun os started H enc _ => lifted os started H enc)

/-- The statement. -/
theorem proved : Rows.SubTellsSaid := over
#print axioms proved
end Go.Proofs.Ytbelnlemjcoifaa.subTells
