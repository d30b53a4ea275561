/-
  Whatever list of rules PairsAll is handed, it answers true and changes nothing that it was handed: pairs.All answers just what the document says, errors too. No condition.
-/
import Derived.Test.YtgpnkfjajfpdjaaRows
import Derived.WalkKit
import Derived.ProofKit
import Derived.OpenShut
import Derived.ChangeOld
import Derived.Below
import Derived.Deep.Matrix
import Derived.Test.YtgpnkfjajfpdjaaBpa3
import Derived.Test.YtgpnkfjajfpdjaaBpa8
import Derived.Test.YtgpnkfjajfpdjaaBpa18
import Derived.Test.YtgpnkfjajfpdjaaBpa30
namespace Go.Proofs.Ytgpnkfjajfpdjaa.pairsAll
open Go.ChangeShapes Go.WideShapes Go.ChangeAt Go.RowKit Go.Deep Go.Shelf Go.Maps
set_option linter.unusedVariables false

theorem own : ownKnob Try.prog.godebug = none := by kernel_rfl
theorem laidOut : laidOutB Try.prog = true := by kernel_rfl

/-! The walk. -/
set_option maxRecDepth 100000 in
set_option maxHeartbeats 2000000 in
theorem walk (a0 : Option Addr) (len0 cap0 : Nat) (w : World) (w0 : RulesIn w a0 len0 cap0) :
    Calls Try.prog 5 #[.slice a0 len0 cap0] w fun e w' => e = .returned (.bool true) ∧ Below w.heap.size w w' := by
  obtain ⟨rs, rfl, hR, hr1, hr2⟩ := w0
  have hO := hid (AllP_any rs a0 cap0 w hR (by omega))
  have hQ := hid (fun W (hW : Below w.heap.size w W) => refPairsAll_any rs a0 cap0 W ((hR.below hW).mono hW.size))
  clear hR
  go_enter Try.func5, Try.ntmps5
  go_wp2_with fail
  refine hO.out.mono ?_
  rintro e w1 ⟨er, ps, v1, hs1, rfl, n1, hB1⟩
  clear hO
  obtain ⟨x1, c1, rfl, r1, _⟩ := n1.at
  go_wp2_with fail
  refine (hQ.out _ hB1).mono ?_
  rintro e w2 ⟨hB2, er2, ps2, v2, hs2, rfl, n2⟩
  obtain ⟨e1, e2⟩ := hs1.ref hs2
  subst e1 e2
  obtain ⟨x2, c2, rfl, r2, _⟩ := n2.at
  have HB2 := hB1.trans (hB2.mono hB1.size)
  have hl := hs1.lens
  have R1 := hid ((r1.below hB2).mono hB2.size)
  have R2 := hid r2
  have hne : (er == er) = true := by simp
  clear hQ hs1 hs2 r1 r2 n1 n2 hB1 hB2
  go_wp2_with fail
  refine (pairsBegun_any _).mono ?_
  rintro e w3 ⟨rfl, hB3⟩
  have HB3 := HB2.trans (hB3.mono HB2.size)
  have hSP := samePairs_yes ps x1 x2 c1 c2 w3 ((R1.out.below hB3).mono hB3.size) ((R2.out.below hB3).mono hB3.size) hl.1 hl.2
  clear R1 R2 HB2 hB3 hl
  go_wp2_with fail
  refine hSP.mono ?_
  rintro e w4 ⟨rfl, hB4⟩
  go_wp2
  go_ret
  exact ⟨rfl, HB3.trans (hB4.mono HB3.size)⟩

/-! The row. -/
set_option maxRecDepth 100000 in
theorem lifted (os : Os) (started : os.Started) (H : Type) (enc : TypeId × Value → H) :
    ReturnsInHanded {} Try.checked os 5 .any (Rows.pairsAllSpec.pre6 enc Try.prog Try.f5 Rows.pairsAllRow.domain false) (Rows.pairsAllSpec.post enc Try.prog Try.f5 false true false false) := by
  refine returnsInHanded_of_change (C := Try.checked) own started (by kernel_rfl) Try.func5
    (ChangeSpec.witness6 (enc := enc) (C := Try.checked) false ⟨#[], #[.slice none 0 0], []⟩ 8 (by kernel_rfl) (by kernel_rfl) (by kernel_rfl) (by kernel_rfl)) ?_
  intro W base args ds gs before hval0 hW hcnd _
  have hval : ∀ (j : Nat) t v, Try.f5.params[j]? = some t → args[j]? = some v → Value.okWide Try.prog W .any base t v := hval0
  have hW' := hW
  obtain ⟨p, q, hA0, hV, rfl, hfz, hnd⟩ := hW
  have hA : DataW.TrodAll enc Try.prog W 0 (fun _ => true) true Try.f5.params.toList args.toList ds p := hA0
  rw [Try.params5] at hA hval
  obtain ⟨v0, vs0, d0, ds0, p0, q0, hargs, rfl, rfl, h0, r0⟩ := trodAll_cons hA
  obtain ⟨rfl, rfl, rfl⟩ := trodAll_nil r0
  obtain rfl : args = #[v0] := by cases args; simp_all
  obtain ⟨rfl, rfl⟩ := trodVars_none hV
  obtain ⟨a0, len0, cap0, rfl⟩ := okWide_slice Try.underlying23 (hval 0 23 v0 rfl rfl)
  have k0 := h0
  have lt0 : ∀ x ∈ p0, x.block < W.heap.size := by obtain ⟨m, hm⟩ := k0; exact DataW.trod_lt m _ _ _ hm
  have w0 : RulesIn W a0 len0 cap0 := by
    obtain ⟨fuel, hf⟩ := h0
    exact rulesIn_open Try.underlying23 Try.underlying50 (by kernel_rfl) rfl rfl rfl rfl (by simp [Value.cells]) hf
  clear hA0 hval0
  refine (walk a0 len0 cap0 W w0).mono fun e W' ⟨he, bel⟩ => ?_
  subst he
  exact ⟨_, rfl, _, _, _, [], _, [], hW', trodAll_mk1 (shut_bool Try.underlying4 _), (trodAll_cons_mk (Below.trod laidOut (by kernel_rfl) (of_decide_eq_true (by kernel_rfl)) k0 bel lt0) trodAll_mk0), rfl, bel.frame _, fun h => by cases h⟩

theorem over : Rows.pairsAllRow.holds Try.pinned (OpenSpec.ofChange Rows.pairsAllSpec) :=
  OpenClaim.holds_of_wide 5 Try.f5 rfl rfl rfl rfl rfl rfl rfl ⟨rfl, rfl, rfl, rfl, rfl⟩ rfl rfl rfl rfl rfl (by kernel_rfl) Try.func5 (by kernel_rfl)
    (of_decide_eq_true (by kernel_rfl)) (by unfold Func.isWrapper; first | (rw [if_pos (by decide +kernel)]; kernel_rfl) | (rw [if_neg (by decide +kernel)]; exact ⟨rfl, rfl⟩))
    (fun os started H enc _ => lifted os started H enc)

/-- The statement. -/
theorem proved : Rows.PairsAllSaid := over
#print axioms proved
end Go.Proofs.Ytgpnkfjajfpdjaa.pairsAll
