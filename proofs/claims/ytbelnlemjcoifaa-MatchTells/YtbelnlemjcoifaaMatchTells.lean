/-
  Whatever two lists of signs MatchTells is handed, it answers true and changes nothing that it was handed: match.Fit answers just what the document says, errors too. No condition.
-/
import Derived.Test.YtbelnlemjcoifaaRows
import Derived.WalkKit
import Derived.ProofKit
import Derived.OpenShut
import Derived.ChangeOld
import Derived.Below
import Derived.Deep.Matrix
import Derived.Test.YtbelnlemjcoifaaRow2
import Derived.Test.YtbelnlemjcoifaaMBegun
namespace Go.Proofs.Ytbelnlemjcoifaa.matchTells
open Go.ChangeShapes Go.WideShapes Go.ChangeAt Go.RowKit Go.Deep Go.Shelf Go.Maps
set_option linter.unusedVariables false

theorem own : ownKnob Try.prog.godebug = none := by kernel_rfl
theorem laidOut : laidOutB Try.prog = true := by kernel_rfl

/-! The walk. -/
set_option maxRecDepth 100000 in
set_option maxHeartbeats 2000000 in
theorem walk (a0 : Option Addr) (len0 cap0 : Nat) (a1 : Option Addr) (len1 cap1 : Nat) (w : World) (w0 : TermIn w a0 len0 cap0) (w1 : TermIn w a1 len1 cap1) :
    Calls Try.prog 9 #[.slice a0 len0 cap0, .slice a1 len1 cap1] w fun e w' => e = .returned (.bool true) ∧ Below w.heap.size w w' := by
  obtain ⟨p, rfl, hP, hp1, hp2, hp3⟩ := w0
  obtain ⟨t, rfl, hT, ht1, ht2, ht3⟩ := w1
  have hF := Fit_any p t a0 a1 cap0 cap1 w hP hT ⟨hp1, hp2, hp3⟩ ⟨ht1, ht2, ht3⟩
  have HR := hid (fun W (hW : Below w.heap.size w W) => FitOf_any p t a0 a1 cap0 cap1 W ((hP.below hW).mono hW.size) ((hT.below hW).mono hW.size) ⟨hp1, hp2⟩ ⟨ht1, ht2⟩)
  have hpl : (Tm.fitVal p t).length ≤ 1000 := by
    unfold Tm.fitVal
    split
    · cases Tm.fit p t <;> simp [Tm.fitOut, Tm.fitL_length]
    · simp
  have Hpl := hid hpl
  clear hP hT hpl hp1 hp2 hp3 ht1 ht2 ht3
  generalize Tm.fitVal p t = pv at *
  generalize Tm.fitErr p t = pe at *
  generalize Tm.fitIs p t = pi at *
  go_enter Try.func9, Try.ntmps9
  go_wp2_with fail
  refine hF.mono ?_
  rintro e w1 ⟨v1, rfl, hN1, hB1⟩
  obtain ⟨x1, c1, rfl, _⟩ := NewS.subs hN1
  clear hF
  go_wp2_with fail
  refine (HR.out _ hB1).mono ?_
  rintro e w2 ⟨v2, rfl, hN2, hB2⟩
  obtain ⟨x2, c2, rfl, _⟩ := NewS.subs hN2
  have hB3 := hB1.trans (hB2.mono hB1.size)
  have hN3 := hN1.below hB2
  clear hB1 hB2 HR hN1
  go_wp2_with fail
  refine (matchBegun_any _).mono ?_
  rintro e w3 ⟨rfl, hB4⟩
  have hB5 := hB3.trans (hB4.mono hB3.size)
  have hN4 := hN3.below hB4
  have hN5 := hN2.below hB4
  clear hB3 hB4 hN3 hN2
  obtain ⟨_, _, e1, hi6, _⟩ := NewS.subs hN4
  cases e1
  obtain ⟨_, _, e2, hi7, _⟩ := NewS.subs hN5
  cases e2
  have hS := sameSubs_any pv pv _ _ c1 c2 _ hi6 hi7 Hpl.out
  rw [show sameSB pv pv = true by simp [sameSB]] at hS
  clear hN4 hN5 hi6 hi7 Hpl
  go_wp2_with fail
  refine hS.mono ?_
  rintro e w5 ⟨rfl, hB8⟩
  clear hS
  go_wp2
  go_ret
  exact ⟨rfl, hB5.trans (hB8.mono hB5.size)⟩

/-! The row. -/
set_option maxRecDepth 100000 in
theorem lifted (os : Os) (started : os.Started) (H : Type) (enc : TypeId × Value → H) :
    ReturnsInHanded {} Try.checked os 9 .any (Rows.matchTellsSpec.pre6 enc Try.prog Try.f9 Rows.matchTellsRow.domain false) (Rows.matchTellsSpec.post enc Try.prog Try.f9 false true false false) := by
  refine returnsInHanded_of_change (C := Try.checked) own started (by kernel_rfl) Try.func9
    (ChangeSpec.witness6 (enc := enc) (C := Try.checked) false ⟨#[], #[.slice none 0 0, .slice none 0 0], []⟩ 8 (by kernel_rfl) (by kernel_rfl) (by kernel_rfl) (by kernel_rfl)) ?_
  intro W base args ds gs before hval0 hW hcnd _
  have hval : ∀ (j : Nat) t v, Try.f9.params[j]? = some t → args[j]? = some v → Value.okWide Try.prog W .any base t v := hval0
  have hW' := hW
  obtain ⟨p, q, hA0, hV, rfl, hfz, hnd⟩ := hW
  have hA : DataW.TrodAll enc Try.prog W 0 (fun _ => true) true Try.f9.params.toList args.toList ds p := hA0
  rw [Try.params9] at hA hval
  obtain ⟨v0, vs0, d0, ds0, p0, q0, hargs, rfl, rfl, h0, r0⟩ := trodAll_cons hA
  obtain ⟨v1, vs1, d1, ds1, p1, q1, rfl, rfl, rfl, h1, r1⟩ := trodAll_cons r0
  obtain ⟨rfl, rfl, rfl⟩ := trodAll_nil r1
  obtain rfl : args = #[v0, v1] := by cases args; simp_all
  obtain ⟨rfl, rfl⟩ := trodVars_none hV
  obtain ⟨a0, len0, cap0, rfl⟩ := okWide_slice Try.underlying23 (hval 0 23 v0 rfl rfl)
  have k0 := h0
  have lt0 : ∀ x ∈ p0, x.block < W.heap.size := by obtain ⟨m, hm⟩ := k0; exact DataW.trod_lt m _ _ _ hm
  have w0 : TermIn W a0 len0 cap0 := by
    obtain ⟨fuel, hf⟩ := h0
    rcases open_ints Try.underlying23 Try.underlying3 (by kernel_rfl) hf with ⟨hcs, _⟩ | ⟨x, l, c, zs, hcs, _, hl, hm, hz, _, hcell, hwz⟩
    · simp [Value.cells] at hcs
      obtain ⟨rfl, rfl, rfl⟩ := hcs
      exact ints_of_row (.inl ⟨rfl, rfl, rfl, rfl⟩)
    · simp [Value.cells] at hcs
      obtain ⟨rfl, rfl, rfl⟩ := hcs
      exact ints_of_row (.inr ⟨_, rfl, hl, hm, by simpa using hz, hcell, hwz⟩)
  obtain ⟨a1, len1, cap1, rfl⟩ := okWide_slice Try.underlying23 (hval 1 23 v1 rfl rfl)
  have k1 := h1
  have lt1 : ∀ x ∈ p1, x.block < W.heap.size := by obtain ⟨m, hm⟩ := k1; exact DataW.trod_lt m _ _ _ hm
  have w1 : TermIn W a1 len1 cap1 := by
    obtain ⟨fuel, hf⟩ := h1
    rcases open_ints Try.underlying23 Try.underlying3 (by kernel_rfl) hf with ⟨hcs, _⟩ | ⟨x, l, c, zs, hcs, _, hl, hm, hz, _, hcell, hwz⟩
    · simp [Value.cells] at hcs
      obtain ⟨rfl, rfl, rfl⟩ := hcs
      exact ints_of_row (.inl ⟨rfl, rfl, rfl, rfl⟩)
    · simp [Value.cells] at hcs
      obtain ⟨rfl, rfl, rfl⟩ := hcs
      exact ints_of_row (.inr ⟨_, rfl, hl, hm, by simpa using hz, hcell, hwz⟩)
  clear hA0 hval0
  refine (walk a0 len0 cap0 a1 len1 cap1 W w0 w1).mono fun e W' ⟨he, bel⟩ => ?_
  subst he
  exact ⟨_, rfl, _, _, _, [], _, [], hW', trodAll_mk1 (shut_bool Try.underlying4 _), (trodAll_cons_mk (Below.trod laidOut (by kernel_rfl) (of_decide_eq_true (by kernel_rfl)) k0 bel lt0) (trodAll_cons_mk (Below.trod laidOut (by kernel_rfl) (of_decide_eq_true (by kernel_rfl)) k1 bel lt1) trodAll_mk0)), rfl, bel.frame _, fun h => by cases h⟩

theorem over : Rows.matchTellsRow.holds Try.pinned (OpenSpec.ofChange Rows.matchTellsSpec) :=
  OpenClaim.holds_of_wide 9 Try.f9 rfl rfl rfl rfl rfl rfl rfl ⟨rfl, rfl, rfl, rfl, rfl⟩ rfl rfl rfl rfl rfl (by kernel_rfl) Try.func9 (by kernel_rfl)
    (of_decide_eq_true (by kernel_rfl)) (by unfold Func.isWrapper; first | (rw [if_pos (by decide +kernel)]; kernel_rfl) | (rw [if_neg (by decide +kernel)]; exact ⟨rfl, rfl⟩))
    (fun os started H enc _ => lifted os started H enc)

/-- The statement. -/
theorem proved : Rows.MatchTellsSaid := over
#print axioms proved
end Go.Proofs.Ytbelnlemjcoifaa.matchTells
