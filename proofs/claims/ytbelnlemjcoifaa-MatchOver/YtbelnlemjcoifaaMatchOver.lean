/-
  Whatever two lists of signs MatchOver is handed, it answers true and changes nothing that it was handed: match.Over answers just what the document says, errors too. No condition.
-/
import Derived.Test.YtbelnlemjcoifaaRows
import Derived.WalkKit
import Derived.ProofKit
import Derived.OpenShut
import Derived.ChangeOld
import Derived.Below
import Derived.Deep.Matrix
import Derived.Test.YtbelnlemjcoifaaRow2
import Derived.Test.YtbelnlemjcoifaaMBegun
namespace Go.Proofs.Ytbelnlemjcoifaa.matchOver
open Go.ChangeShapes Go.WideShapes Go.ChangeAt Go.RowKit Go.Deep Go.Shelf Go.Maps
set_option linter.unusedVariables false

theorem own : ownKnob Try.prog.godebug = none := by kernel_rfl
theorem laidOut : laidOutB Try.prog = true := by kernel_rfl

/-! The walk. -/
set_option maxRecDepth 100000 in
set_option maxHeartbeats 2000000 in
theorem walk (a0 : Option Addr) (len0 cap0 : Nat) (a1 : Option Addr) (len1 cap1 : Nat) (w : World) (w0 : TermIn w a0 len0 cap0) (w1 : TermIn w a1 len1 cap1) :
    Calls Try.prog 10 #[.slice a0 len0 cap0, .slice a1 len1 cap1] w fun e w' => e = .returned (.bool true) ∧ Below w.heap.size w w' := by
  obtain ⟨t, rfl, hT, ht1, ht2, ht3⟩ := w0
  obtain ⟨p, rfl, hP, hp1, hp2, hp3⟩ := w1
  have hF := over_any t p a0 a1 cap0 cap1 w hT hP ⟨ht1, ht2, ht3⟩ ⟨hp1, hp2, hp3⟩
  have HR := hid (fun W (hW : Below w.heap.size w W) => overOf_any t p a0 a1 cap0 cap1 W ((hT.below hW).mono hW.size) ((hP.below hW).mono hW.size) ⟨ht1, ht2⟩ ⟨hp1, hp2⟩)
  have hpl : (Tm.overVal t p).length ≤ 1000 := by
    unfold Tm.overVal
    by_cases he : Tm.fitErr t p = 0
    · rw [if_pos he]
      have h1 := overL_le (p := p) (placesTo t t.length)
      rw [placesTo_length t _ (Nat.le_refl _)] at h1
      have := Tm.err_len (Tm.fitErr_ok he).1
      omega
    · rw [if_neg he]; simp
  have hpl' : ((Tm.overVal t p).length : Int) ≤ 1000 := by omega
  clear hP hT hpl hp1 hp2 hp3 ht1 ht2 ht3
  generalize Tm.overVal t p = pv at *
  generalize Tm.fitErr t p = pe at *
  have hnl : ((pv.length : Int) != (pv.length : Int)) = false := by simp
  have hne : (pe != pe) = false := by simp
  go_enter Try.func10, Try.ntmps10
  go_wp2_with fail
  refine hF.mono ?_
  rintro e w1 ⟨v1, rfl, hN1, hB1⟩
  obtain ⟨x1, c1, rfl, _⟩ := New.ints hN1
  clear hF
  go_wp2_with fail
  refine (HR.out _ hB1).mono ?_
  rintro e w2 ⟨v2, rfl, hN2, hB2⟩
  obtain ⟨x2, c2, rfl, hi7, _⟩ := New.ints hN2
  have hB3 := hB1.trans (hB2.mono hB1.size)
  have hN3 := New.below hN1 hB2
  obtain ⟨_, _, e1, hi6, _⟩ := New.ints hN3
  cases e1
  clear hB1 hB2 HR hN1 hN2 hN3
  go_wp2
  go_loopw [9] (fun i wr => ∃ k : Nat, k ≤ pv.length ∧ i = .int .i64 (k : Int) ∧ Below w2.heap.size w2 wr) (fun i _ => pv.length - (intOf i).toNat)
  case atStart => exact ⟨0, Nat.zero_le _, rfl, Below.refl _ _⟩
  case round =>
    obtain ⟨k, hk, rfl, hB⟩ := hrel
    by_cases hlt : k < pv.length
    · have hlt' : (k : Int) < (pv.length : Int) := by omega
      obtain ⟨b1, off1, rfl, hb1, hc1⟩ := (hi6.below hB).at (by omega)
      obtain ⟨b2, off2, rfl, hb2, hc2⟩ := (hi7.below hB).at (by omega)
      have hx := hc1 k hlt
      have hy := hc2 k hlt
      clear hc1 hc2 hi6 hi7
      generalize pv[k]?.getD 0 = s at *
      have hn : (s != s) = false := by simp
      go_wp2
      go_quiet (fail)
      go_wp2
      go_roundw
      case rel => exact ⟨k + 1, by omega, by go_num, below_drewN hB _⟩
      case measure => simp [intOf]; omega
    · obtain rfl : k = pv.length := by omega
      go_wp2_with fail
      refine (matchBegun_any _).mono ?_
      rintro e w3 ⟨rfl, hB4⟩
      go_wp2
      go_ret
      exact ⟨rfl, hB3.trans ((hB.trans (hB4.mono hB.size)).mono hB3.size)⟩

/-! The row. -/
set_option maxRecDepth 100000 in
theorem lifted (os : Os) (started : os.Started) (H : Type) (enc : TypeId × Value → H) :
    ReturnsInHanded {} Try.checked os 10 .any (Rows.matchOverSpec.pre6 enc Try.prog Try.f10 Rows.matchOverRow.domain false) (Rows.matchOverSpec.post enc Try.prog Try.f10 false true false false) := by
  refine returnsInHanded_of_change (C := Try.checked) own started (by kernel_rfl) Try.func10
    (ChangeSpec.witness6 (enc := enc) (C := Try.checked) false ⟨#[], #[.slice none 0 0, .slice none 0 0], []⟩ 8 (by kernel_rfl) (by kernel_rfl) (by kernel_rfl) (by kernel_rfl)) ?_
  intro W base args ds gs before hval0 hW hcnd _
  have hval : ∀ (j : Nat) t v, Try.f10.params[j]? = some t → args[j]? = some v → Value.okWide Try.prog W .any base t v := hval0
  have hW' := hW
  obtain ⟨p, q, hA0, hV, rfl, hfz, hnd⟩ := hW
  have hA : DataW.TrodAll enc Try.prog W 0 (fun _ => true) true Try.f10.params.toList args.toList ds p := hA0
  rw [Try.params10] at hA hval
  obtain ⟨v0, vs0, d0, ds0, p0, q0, hargs, rfl, rfl, h0, r0⟩ := trodAll_cons hA
  obtain ⟨v1, vs1, d1, ds1, p1, q1, rfl, rfl, rfl, h1, r1⟩ := trodAll_cons r0
  obtain ⟨rfl, rfl, rfl⟩ := trodAll_nil r1
  obtain rfl : args = #[v0, v1] := by cases args; simp_all
  obtain ⟨rfl, rfl⟩ := trodVars_none hV
  obtain ⟨a0, len0, cap0, rfl⟩ := okWide_slice Try.underlying23 (hval 0 23 v0 rfl rfl)
  have k0 := h0
  have lt0 : ∀ x ∈ p0, x.block < W.heap.size := by obtain ⟨m, hm⟩ := k0; exact DataW.trod_lt m _ _ _ hm
  have w0 : TermIn W a0 len0 cap0 := by
    obtain ⟨fuel, hf⟩ := h0
    rcases open_ints Try.underlying23 Try.underlying3 (by kernel_rfl) hf with ⟨hcs, _⟩ | ⟨x, l, c, zs, hcs, _, hl, hm, hz, _, hcell, hwz⟩
    · simp [Value.cells] at hcs
      obtain ⟨rfl, rfl, rfl⟩ := hcs
      exact ints_of_row (.inl ⟨rfl, rfl, rfl, rfl⟩)
    · simp [Value.cells] at hcs
      obtain ⟨rfl, rfl, rfl⟩ := hcs
      exact ints_of_row (.inr ⟨_, rfl, hl, hm, by simpa using hz, hcell, hwz⟩)
  obtain ⟨a1, len1, cap1, rfl⟩ := okWide_slice Try.underlying23 (hval 1 23 v1 rfl rfl)
  have k1 := h1
  have lt1 : ∀ x ∈ p1, x.block < W.heap.size := by obtain ⟨m, hm⟩ := k1; exact DataW.trod_lt m _ _ _ hm
  have w1 : TermIn W a1 len1 cap1 := by
    obtain ⟨fuel, hf⟩ := h1
    rcases open_ints Try.underlying23 Try.underlying3 (by kernel_rfl) hf with ⟨hcs, _⟩ | ⟨x, l, c, zs, hcs, _, hl, hm, hz, _, hcell, hwz⟩
    · simp [Value.cells] at hcs
      obtain ⟨rfl, rfl, rfl⟩ := hcs
      exact ints_of_row (.inl ⟨rfl, rfl, rfl, rfl⟩)
    · simp [Value.cells] at hcs
      obtain ⟨rfl, rfl, rfl⟩ := hcs
      exact ints_of_row (.inr ⟨_, rfl, hl, hm, by simpa using hz, hcell, hwz⟩)
  clear hA0 hval0
  refine (walk a0 len0 cap0 a1 len1 cap1 W w0 w1).mono fun e W' ⟨he, bel⟩ => ?_
  subst he
  exact ⟨_, rfl, _, _, _, [], _, [], hW', trodAll_mk1 (shut_bool Try.underlying4 _), (trodAll_cons_mk (Below.trod laidOut (by kernel_rfl) (of_decide_eq_true (by kernel_rfl)) k0 bel lt0) (trodAll_cons_mk (Below.trod laidOut (by kernel_rfl) (of_decide_eq_true (by kernel_rfl)) k1 bel lt1) trodAll_mk0)), rfl, bel.frame _, fun h => by cases h⟩

theorem over : Rows.matchOverRow.holds Try.pinned (OpenSpec.ofChange Rows.matchOverSpec) :=
  OpenClaim.holds_of_wide 10 Try.f10 rfl rfl rfl rfl rfl rfl rfl ⟨rfl, rfl, rfl, rfl, rfl⟩ rfl rfl rfl rfl rfl (by kernel_rfl) Try.func10 (by kernel_rfl)
    (of_decide_eq_true (by kernel_rfl)) (by unfold Func.isWrapper; first | (rw [if_pos (by decide +kernel)]; kernel_rfl) | (rw [if_neg (by decide +kernel)]; exact ⟨rfl, rfl⟩))
    (fun os started H enc _ => lifted os started H enc)

/-- The statement. -/
theorem proved : Rows.MatchOverSaid := over
#print axioms proved
end Go.Proofs.Ytbelnlemjcoifaa.matchOver
