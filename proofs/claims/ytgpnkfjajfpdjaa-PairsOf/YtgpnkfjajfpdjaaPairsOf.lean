/-
  Whatever list of rules and two numbers PairsOf is handed, it answers true and changes nothing that it was handed: pairs.Of answers just what the document says, errors too. No condition.
-/
import Derived.Test.YtgpnkfjajfpdjaaRows
import Derived.WalkKit
import Derived.ProofKit
import Derived.OpenShut
import Derived.ChangeOld
import Derived.Below
import Derived.Deep.Matrix
import Derived.Test.YtgpnkfjajfpdjaaBpo3
import Derived.Test.YtgpnkfjajfpdjaaBpo8
import Derived.Test.YtgpnkfjajfpdjaaBpo18
import Derived.Test.YtgpnkfjajfpdjaaBpo30
namespace Go.Proofs.Ytgpnkfjajfpdjaa.pairsOf
open Go.ChangeShapes Go.WideShapes Go.ChangeAt Go.RowKit Go.Deep Go.Shelf Go.Maps
set_option linter.unusedVariables false

theorem own : ownKnob Try.prog.godebug = none := by kernel_rfl
theorem laidOut : laidOutB Try.prog = true := by kernel_rfl

/-! The walk. -/
set_option maxRecDepth 100000 in
set_option maxHeartbeats 2000000 in
theorem walk (a0 : Option Addr) (len0 cap0 : Nat) (a1 : Int) (a2 : Int) (w : World) (w0 : RulesIn w a0 len0 cap0) (w1 : (Lit.int .i64 a1).wf = true) (w2 : (Lit.int .i64 a2).wf = true) :
    Calls Try.prog 4 #[.slice a0 len0 cap0, .int .i64 a1, .int .i64 a2] w fun e w' => e = .returned (.bool true) ∧ Below w.heap.size w w' := by
  obtain ⟨rs, rfl, hR, hr1, hr2⟩ := w0
  have hO := hid (Of_any rs a1 a2 a0 cap0 w hR)
  have hQ := hid (fun W (hW : Below w.heap.size w W) => refPairsOf_any rs a1 a2 a0 cap0 W ((hR.below hW).mono hW.size) (by omega))
  clear hR
  go_enter Try.func4, Try.ntmps4
  go_wp2_with fail
  refine hO.out.mono ?_
  rintro e w1 ⟨er, ps, v1, hs1, rfl, n1, hB1⟩
  clear hO
  obtain ⟨x1, c1, rfl, r1, _⟩ := n1.at
  go_wp2_with fail
  refine (hQ.out _ hB1).mono ?_
  rintro e w2 ⟨hB2, er2, ps2, v2, hs2, rfl, n2⟩
  obtain ⟨e1, e2⟩ := hs1.one hs2
  subst e1 e2
  obtain ⟨x2, c2, rfl, r2, _⟩ := n2.at
  have HB2 := hB1.trans (hB2.mono hB1.size)
  have hl := hs1.lens
  have R1 := hid ((r1.below hB2).mono hB2.size)
  have R2 := hid r2
  have hne : (er == er) = true := by simp
  clear hQ hs1 hs2 r1 r2 n1 n2 hB1 hB2
  go_wp2_with fail
  refine (pairsBegun_any _).mono ?_
  rintro e w3 ⟨rfl, hB3⟩
  have HB3 := HB2.trans (hB3.mono HB2.size)
  have hSP := samePairs_yes ps x1 x2 c1 c2 w3 ((R1.out.below hB3).mono hB3.size) ((R2.out.below hB3).mono hB3.size) hl.1 hl.2
  clear R1 R2 HB2 hB3 hl
  go_wp2_with fail
  refine hSP.mono ?_
  rintro e w4 ⟨rfl, hB4⟩
  go_wp2
  go_ret
  exact ⟨rfl, HB3.trans (hB4.mono HB3.size)⟩

/-! The row. -/
set_option maxRecDepth 100000 in
theorem lifted (os : Os) (started : os.Started) (H : Type) (enc : TypeId × Value → H) :
    ReturnsInHanded {} Try.checked os 4 .any (Rows.pairsOfSpec.pre6 enc Try.prog Try.f4 Rows.pairsOfRow.domain false) (Rows.pairsOfSpec.post enc Try.prog Try.f4 false true false false) := by
  refine returnsInHanded_of_change (C := Try.checked) own started (by kernel_rfl) Try.func4
    (ChangeSpec.witness6 (enc := enc) (C := Try.checked) false ⟨#[], #[.slice none 0 0, .int .i64 0, .int .i64 0], []⟩ 8 (by kernel_rfl) (by kernel_rfl) (by kernel_rfl) (by kernel_rfl)) ?_
  intro W base args ds gs before hval0 hW hcnd _
  have hval : ∀ (j : Nat) t v, Try.f4.params[j]? = some t → args[j]? = some v → Value.okWide Try.prog W .any base t v := hval0
  have hW' := hW
  obtain ⟨p, q, hA0, hV, rfl, hfz, hnd⟩ := hW
  have hA : DataW.TrodAll enc Try.prog W 0 (fun _ => true) true Try.f4.params.toList args.toList ds p := hA0
  rw [Try.params4] at hA hval
  obtain ⟨v0, vs0, d0, ds0, p0, q0, hargs, rfl, rfl, h0, r0⟩ := trodAll_cons hA
  obtain ⟨v1, vs1, d1, ds1, p1, q1, rfl, rfl, rfl, h1, r1⟩ := trodAll_cons r0
  obtain ⟨v2, vs2, d2, ds2, p2, q2, rfl, rfl, rfl, h2, r2⟩ := trodAll_cons r1
  obtain ⟨rfl, rfl, rfl⟩ := trodAll_nil r2
  obtain rfl : args = #[v0, v1, v2] := by cases args; simp_all
  obtain ⟨rfl, rfl⟩ := trodVars_none hV
  obtain ⟨a0, len0, cap0, rfl⟩ := okWide_slice Try.underlying23 (hval 0 23 v0 rfl rfl)
  have k0 := h0
  have lt0 : ∀ x ∈ p0, x.block < W.heap.size := by obtain ⟨m, hm⟩ := k0; exact DataW.trod_lt m _ _ _ hm
  have w0 : RulesIn W a0 len0 cap0 := by
    obtain ⟨fuel, hf⟩ := h0
    exact rulesIn_open Try.underlying23 Try.underlying50 (by kernel_rfl) rfl rfl rfl rfl (by simp [Value.cells]) hf
  obtain ⟨a1, rfl, rfl, rfl, w1⟩ := open_int Try.underlying3 (hval 1 3 v1 rfl rfl) h1
  obtain ⟨a2, rfl, rfl, rfl, w2⟩ := open_int Try.underlying3 (hval 2 3 v2 rfl rfl) h2
  clear hA0 hval0
  refine (walk a0 len0 cap0 a1 a2 W w0 w1 w2).mono fun e W' ⟨he, bel⟩ => ?_
  subst he
  exact ⟨_, rfl, _, _, _, [], _, [], hW', trodAll_mk1 (shut_bool Try.underlying4 _), (trodAll_cons_mk (Below.trod laidOut (by kernel_rfl) (of_decide_eq_true (by kernel_rfl)) k0 bel lt0) (trodAll_cons_mk (shut_int Try.underlying3 w1) (trodAll_cons_mk (shut_int Try.underlying3 w2) trodAll_mk0))), rfl, bel.frame _, fun h => by cases h⟩

theorem over : Rows.pairsOfRow.holds Try.pinned (OpenSpec.ofChange Rows.pairsOfSpec) :=
  OpenClaim.holds_of_wide 4 Try.f4 rfl rfl rfl rfl rfl rfl rfl ⟨rfl, rfl, rfl, rfl, rfl⟩ rfl rfl rfl rfl rfl (by kernel_rfl) Try.func4 (by kernel_rfl)
    (of_decide_eq_true (by kernel_rfl)) (by unfold Func.isWrapper; first | (rw [if_pos (by decide +kernel)]; kernel_rfl) | (rw [if_neg (by decide +kernel)]; exact ⟨rfl, rfl⟩))
    (fun os started H enc _ => lifted os started H enc)

/-- The statement. -/
theorem proved : Rows.PairsOfSaid := over
#print axioms proved
end Go.Proofs.Ytgpnkfjajfpdjaa.pairsOf
