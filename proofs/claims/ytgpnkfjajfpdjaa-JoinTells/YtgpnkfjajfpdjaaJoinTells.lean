/-
  Whatever list of rules and pair of lists of signs JoinTells is handed, it answers true and changes nothing that it was handed: join.Pair and join.All answer just what the document says, errors too. No condition.
-/
import Derived.Test.YtgpnkfjajfpdjaaRows
import Derived.WalkKit
import Derived.ProofKit
import Derived.OpenShut
import Derived.ChangeOld
import Derived.Below
import Derived.Deep.Matrix
import Derived.Test.YtgpnkfjajfpdjaaBjo3
import Derived.Test.YtgpnkfjajfpdjaaBjo9
import Derived.Test.YtgpnkfjajfpdjaaBjo19
import Derived.Test.YtgpnkfjajfpdjaaBjo33
namespace Go.Proofs.Ytgpnkfjajfpdjaa.joinTells
open Go.ChangeShapes Go.WideShapes Go.ChangeAt Go.RowKit Go.Deep Go.Shelf Go.Maps
set_option linter.unusedVariables false

theorem own : ownKnob Try.prog.godebug = none := by kernel_rfl
theorem laidOut : laidOutB Try.prog = true := by kernel_rfl

/-! The walk. -/
set_option maxRecDepth 100000 in
set_option maxHeartbeats 2000000 in
theorem walk (a0 : Option Addr) (len0 cap0 : Nat) (v1 : Value) (w : World) (w0 : RulesIn w a0 len0 cap0) (w1 : PairIn w v1) :
    Calls Try.prog 7 #[.slice a0 len0 cap0, v1] w fun e w' => e = .returned (.bool true) ∧ Below w.heap.size w w' := by
  obtain ⟨rs, rfl, hR, hr1, hr2⟩ := w0
  obtain ⟨P, Q, aP, aQ, cP, cQ, rfl, hP, hQ, p1, p2, q1, q2⟩ := w1
  obtain ⟨W1, hW1⟩ : ∃ W1, w.alloc (.cells #[.slice aP P.length cP, .slice aQ Q.length cQ] 53) = W1 := ⟨_, rfl⟩
  have hB1 : Below w.heap.size w W1 := by rw [← hW1]; exact (Below.refl _ _).alloc (Nat.le_refl _) _
  have bx : Box2 W1 w.heap.size 53 (.slice aP P.length cP) (.slice aQ Q.length cQ) := by rw [← hW1]; exact Box2.new w _ _ _
  have C1 := hid (joinPair_any rs P Q a0 aP aQ cap0 cP cQ W1 ((hR.below hB1).mono hB1.size) ((hP.below hB1).mono hB1.size) ((hQ.below hB1).mono hB1.size) p1 p2 q1 q2)
  have C2 := hid (fun W (hW : Below W1.heap.size W1 W) => joinAll_any rs a0 cap0 W (by have h := hB1.trans (hW.mono hB1.size); exact (hR.below h).mono h.size) (by omega))
  have C3 := hid (fun W (hW : Below W1.heap.size W1 W) => refJoinPair_any rs P Q a0 aP aQ cap0 cP cQ W (by have h := hB1.trans (hW.mono hB1.size); exact (hR.below h).mono h.size) (by have h := hB1.trans (hW.mono hB1.size); exact (hP.below h).mono h.size) (by have h := hB1.trans (hW.mono hB1.size); exact (hQ.below h).mono h.size) p1 p2 q1 q2)
  have C4 := hid (fun W (hW : Below W1.heap.size W1 W) => refJoinAll_any rs a0 cap0 W (by have h := hB1.trans (hW.mono hB1.size); exact (hR.below h).mono h.size))
  have HW1 := hid hW1
  have c0 := bx.cell0
  have c1 := bx.cell1
  clear hW1 hR hP hQ p1 p2 q1 q2
  generalize Tm.joinIs rs P Q = ji at *
  generalize Tm.joinErr rs P Q = je at *
  go_enter Try.func7, Try.ntmps7
  go_wp2_with fail
  rw [HW1.out]
  go_wp2_with fail
  refine C1.out.mono ?_
  rintro e w1 ⟨rfl, b1⟩
  clear C1
  go_wp2_with fail
  refine (C2.out w1 b1).mono ?_
  rintro e w2 ⟨is, er, hs, rfl, b2⟩
  have B2 := b1.trans (b2.mono b1.size)
  have bx2 := bx.below B2 bx.lt
  have d0 := bx2.cell0
  have d1 := bx2.cell1
  have Hs := hid hs
  clear C2 hs b1 b2
  go_wp2_with fail
  refine (C3.out w2 B2).mono ?_
  rintro e w3 ⟨rfl, b3⟩
  have B3 := B2.trans (b3.mono B2.size)
  clear C3 B2 b3 bx2 d0 d1
  go_wp2_with fail
  refine (C4.out w3 B3).mono ?_
  rintro e w4 ⟨is2, er2, hs2, rfl, b4⟩
  obtain ⟨e1, e2⟩ := Hs.out.ref hs2
  subst e1 e2
  have B4 := B3.trans (b4.mono B3.size)
  have h1 : (ji == ji) = true := by simp
  have h2 : (je == je) = true := by simp
  have h3 : (is == is) = true := by simp
  have h4 : (er == er) = true := by simp
  clear C4 Hs hs2 B3 b4
  go_wp2_with fail
  refine (joinBegun_any _).mono ?_
  rintro e w5 ⟨rfl, b5⟩
  go_wp2
  go_ret
  have B5 := B4.trans (b5.mono B4.size)
  exact ⟨rfl, hB1.trans (B5.mono hB1.size)⟩

/-! The row. -/
set_option maxRecDepth 100000 in
theorem lifted (os : Os) (started : os.Started) (H : Type) (enc : TypeId × Value → H) :
    ReturnsInHanded {} Try.checked os 7 .any (Rows.joinTellsSpec.pre6 enc Try.prog Try.f7 Rows.joinTellsRow.domain false) (Rows.joinTellsSpec.post enc Try.prog Try.f7 false true false false) := by
  refine returnsInHanded_of_change (C := Try.checked) own started (by kernel_rfl) Try.func7
    (ChangeSpec.witness6 (enc := enc) (C := Try.checked) false ⟨#[], #[.slice none 0 0, .agg #[.slice none 0 0, .slice none 0 0]], []⟩ 8 (by kernel_rfl) (by kernel_rfl) (by kernel_rfl) (by kernel_rfl)) ?_
  intro W base args ds gs before hval0 hW hcnd _
  have hval : ∀ (j : Nat) t v, Try.f7.params[j]? = some t → args[j]? = some v → Value.okWide Try.prog W .any base t v := hval0
  have hW' := hW
  obtain ⟨p, q, hA0, hV, rfl, hfz, hnd⟩ := hW
  have hA : DataW.TrodAll enc Try.prog W 0 (fun _ => true) true Try.f7.params.toList args.toList ds p := hA0
  rw [Try.params7] at hA hval
  obtain ⟨v0, vs0, d0, ds0, p0, q0, hargs, rfl, rfl, h0, r0⟩ := trodAll_cons hA
  obtain ⟨v1, vs1, d1, ds1, p1, q1, rfl, rfl, rfl, h1, r1⟩ := trodAll_cons r0
  obtain ⟨rfl, rfl, rfl⟩ := trodAll_nil r1
  obtain rfl : args = #[v0, v1] := by cases args; simp_all
  obtain ⟨rfl, rfl⟩ := trodVars_none hV
  obtain ⟨a0, len0, cap0, rfl⟩ := okWide_slice Try.underlying23 (hval 0 23 v0 rfl rfl)
  have k0 := h0
  have lt0 : ∀ x ∈ p0, x.block < W.heap.size := by obtain ⟨m, hm⟩ := k0; exact DataW.trod_lt m _ _ _ hm
  have w0 : RulesIn W a0 len0 cap0 := by
    obtain ⟨fuel, hf⟩ := h0
    exact rulesIn_open Try.underlying23 Try.underlying50 (by kernel_rfl) rfl rfl rfl rfl (by simp [Value.cells]) hf
  have k1 := h1
  have lt1 : ∀ x ∈ p1, x.block < W.heap.size := by obtain ⟨m, hm⟩ := k1; exact DataW.trod_lt m _ _ _ hm
  have w1 : PairIn W v1 := by
    obtain ⟨fuel, hf⟩ := h1
    exact pair_open (hval 1 53 v1 rfl rfl) rfl hf
  clear hA0 hval0
  refine (walk a0 len0 cap0 v1 W w0 w1).mono fun e W' ⟨he, bel⟩ => ?_
  subst he
  exact ⟨_, rfl, _, _, _, [], _, [], hW', trodAll_mk1 (shut_bool Try.underlying4 _), (trodAll_cons_mk (Below.trod laidOut (by kernel_rfl) (of_decide_eq_true (by kernel_rfl)) k0 bel lt0) (trodAll_cons_mk (Below.trod laidOut (by kernel_rfl) (of_decide_eq_true (by kernel_rfl)) k1 bel lt1) trodAll_mk0)), rfl, bel.frame _, fun h => by cases h⟩

theorem over : Rows.joinTellsRow.holds Try.pinned (OpenSpec.ofChange Rows.joinTellsSpec) :=
  OpenClaim.holds_of_wide 7 Try.f7 rfl rfl rfl rfl rfl rfl rfl ⟨rfl, rfl, rfl, rfl, rfl⟩ rfl rfl rfl rfl rfl (by kernel_rfl) Try.func7 (by kernel_rfl)
    (of_decide_eq_true (by kernel_rfl)) (by unfold Func.isWrapper; first | (rw [if_pos (by decide +kernel)]; kernel_rfl) | (rw [if_neg (by decide +kernel)]; exact ⟨rfl, rfl⟩))
    (fun os started H enc _ => lifted os started H enc)

/-- The statement. -/
theorem proved : Rows.JoinTellsSaid := over
#print axioms proved
end Go.Proofs.Ytgpnkfjajfpdjaa.joinTells
