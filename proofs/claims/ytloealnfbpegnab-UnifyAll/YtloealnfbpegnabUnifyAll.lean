/-
  Whatever list of pairs of lists of signs UnifyAll is handed, it answers true and changes nothing that it was handed: unify.All answers just what the document says, errors too. No condition.
-/
import Derived.Test.YtloealnfbpegnabRows
import Derived.WalkKit
import Derived.ProofKit
import Derived.OpenShut
import Derived.ChangeOld
import Derived.Below
import Derived.Deep.Matrix
import Derived.Test.YtloealnfbpegnabBun3
import Derived.Test.YtloealnfbpegnabBun9
import Derived.Test.YtloealnfbpegnabBun14
import Derived.Test.YtloealnfbpegnabBun17
namespace Go.Proofs.Ytloealnfbpegnab.unifyAll
open Go.ChangeShapes Go.WideShapes Go.ChangeAt Go.RowKit Go.Deep Go.Shelf Go.Maps
set_option linter.unusedVariables false

theorem own : ownKnob Try.prog.godebug = none := by kernel_rfl
theorem laidOut : laidOutB Try.prog = true := by kernel_rfl

/-! The walk. -/
set_option maxRecDepth 100000 in
set_option maxHeartbeats 2000000 in
theorem walk (a0 : Option Addr) (len0 cap0 : Nat) (w : World) (w0 : RulesIn w a0 len0 cap0) :
    Calls Try.prog 7 #[.slice a0 len0 cap0] w fun e w' => e = .returned (.bool true) ∧ Below w.heap.size w w' := by
  obtain ⟨ps, rfl, hP, hp1, hp2⟩ := w0
  have hM := hid (All_any ps a0 cap0 w hP)
  have hR := hid (fun W (hW : Below w.heap.size w W) => MeetAll_any ps a0 cap0 W ((hP.below hW).mono hW.size))
  clear hP
  go_enter Try.func7, Try.ntmps7
  go_wp2_with fail
  refine hM.out.mono ?_
  rintro e w1 ⟨hB1, er, is, val, x1, hSays, rfl, hS1⟩
  clear hM
  go_wp2_with fail
  refine (hR.out _ hB1).mono ?_
  rintro e w2 ⟨hB2, er2, is2, val2, v2, hSays2, rfl, hN2⟩
  obtain ⟨e1, e2, e3⟩ := hSays.one hSays2
  subst e1 e2 e3
  obtain ⟨x2, c2, rfl, hS2, _⟩ := NewS.subs hN2
  have HB2 := hB1.trans (hB2.mono hB1.size)
  have hl8 : val.length ≤ 8 := by
    rcases hSays with ⟨_, _, _, rfl⟩ | ⟨_, h⟩
    · simp
    · exact h.len
  have S1 := hid ((hS1.below hB2).mono hB2.size)
  have S2 := hid hS2
  have hne : (er == er) = true := by simp
  have hni : (is == is) = true := by simp
  clear hR hSays hSays2 hS1 hB1 hB2 hN2 hS2
  go_wp2_with fail
  refine (unifyBegun_any _).mono ?_
  rintro e w3 ⟨rfl, hB3⟩
  have HB3 := HB2.trans (hB3.mono HB2.size)
  have hSS := sameSubs_any val val x1 x2 val.length c2 w3 ((S1.out.below hB3).mono hB3.size) ((S2.out.below hB3).mono hB3.size) (by omega)
  rw [show sameSB val val = true by simp [sameSB]] at hSS
  clear S1 S2 HB2 hB3
  go_wp2_with fail
  refine hSS.mono ?_
  rintro e w4 ⟨rfl, hB4⟩
  go_wp2
  go_ret
  exact ⟨rfl, HB3.trans (hB4.mono HB3.size)⟩

/-! The row. -/
set_option maxRecDepth 100000 in
theorem lifted (os : Os) (started : os.Started) (H : Type) (enc : TypeId × Value → H) :
    ReturnsInHanded {} Try.checked os 7 .any (Rows.unifyAllSpec.pre6 enc Try.prog Try.f7 Rows.unifyAllRow.domain false) (Rows.unifyAllSpec.post enc Try.prog Try.f7 false true false false) := by
  refine returnsInHanded_of_change (C := Try.checked) own started (by kernel_rfl) Try.func7
    (ChangeSpec.witness6 (enc := enc) (C := Try.checked) false ⟨#[], #[.slice none 0 0], []⟩ 8 (by kernel_rfl) (by kernel_rfl) (by kernel_rfl) (by kernel_rfl)) ?_
  intro W base args ds gs before hval0 hW hcnd _
  have hval : ∀ (j : Nat) t v, Try.f7.params[j]? = some t → args[j]? = some v → Value.okWide Try.prog W .any base t v := hval0
  have hW' := hW
  obtain ⟨p, q, hA0, hV, rfl, hfz, hnd⟩ := hW
  have hA : DataW.TrodAll enc Try.prog W 0 (fun _ => true) true Try.f7.params.toList args.toList ds p := hA0
  rw [Try.params7] at hA hval
  obtain ⟨v0, vs0, d0, ds0, p0, q0, hargs, rfl, rfl, h0, r0⟩ := trodAll_cons hA
  obtain ⟨rfl, rfl, rfl⟩ := trodAll_nil r0
  obtain rfl : args = #[v0] := by cases args; simp_all
  obtain ⟨rfl, rfl⟩ := trodVars_none hV
  obtain ⟨a0, len0, cap0, rfl⟩ := okWide_slice Try.underlying36 (hval 0 36 v0 rfl rfl)
  have k0 := h0
  have lt0 : ∀ x ∈ p0, x.block < W.heap.size := by obtain ⟨m, hm⟩ := k0; exact DataW.trod_lt m _ _ _ hm
  have w0 : RulesIn W a0 len0 cap0 := by
    obtain ⟨fuel, hf⟩ := h0
    exact rulesIn_open Try.underlying36 Try.underlying60 (by kernel_rfl) rfl rfl rfl rfl (by simp [Value.cells]) hf
  clear hA0 hval0
  refine (walk a0 len0 cap0 W w0).mono fun e W' ⟨he, bel⟩ => ?_
  subst he
  exact ⟨_, rfl, _, _, _, [], _, [], hW', trodAll_mk1 (shut_bool Try.underlying4 _), (trodAll_cons_mk (Below.trod laidOut (by kernel_rfl) (of_decide_eq_true (by kernel_rfl)) k0 bel lt0) trodAll_mk0), rfl, bel.frame _, fun h => by cases h⟩

theorem over : Rows.unifyAllRow.holds Try.pinned (OpenSpec.ofChange Rows.unifyAllSpec) :=
  OpenClaim.holds_of_wide 7 Try.f7 rfl rfl rfl rfl rfl rfl rfl ⟨rfl, rfl, rfl, rfl, rfl⟩ rfl rfl rfl rfl rfl (by kernel_rfl) Try.func7 (by kernel_rfl)
    (of_decide_eq_true (by kernel_rfl)) (by unfold Func.isWrapper; first | (rw [if_pos (by decide +kernel)]; kernel_rfl) | (rw [if_neg (by decide +kernel)]; exact ⟨rfl, rfl⟩))
    (fun os started H enc _ => lifted os started H enc)

/-- The statement. -/
theorem proved : Rows.UnifyAllSaid := over
#print axioms proved
end Go.Proofs.Ytloealnfbpegnab.unifyAll
