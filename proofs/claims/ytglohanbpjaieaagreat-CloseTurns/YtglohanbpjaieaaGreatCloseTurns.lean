/-
  Whatever rank, rules and pairs CloseTurns is handed, it answers true and changes nothing that it was handed: close.Turn answers just what the document says, errors too. No condition.
-/
import Derived.Test.YtglohanbpjaieaaGreatRows
import Derived.WalkKit
import Derived.ProofKit
import Derived.OpenShut
import Derived.ChangeOld
import Derived.Below
import Derived.Deep.Matrix
import Derived.Test.YtglohanbpjaieaaGreatBct3
import Derived.Test.YtglohanbpjaieaaGreatBct11
import Derived.Test.YtglohanbpjaieaaGreatBct24
import Derived.Test.YtglohanbpjaieaaGreatBct32
namespace Go.Proofs.YtglohanbpjaieaaGreat.closeTurns
open Go.ChangeShapes Go.WideShapes Go.ChangeAt Go.RowKit Go.Deep Go.Shelf Go.Maps
set_option linter.unusedVariables false

theorem own : ownKnob Tryz.prog.godebug = none := by kernel_rfl
theorem laidOut : laidOutB Tryz.prog = true := by kernel_rfl

/-! The walk. -/
set_option maxRecDepth 100000 in
set_option maxHeartbeats 2000000 in
theorem walk (a0 : Option Addr) (len0 cap0 : Nat) (a1 : Option Addr) (len1 cap1 : Nat) (a2 : Option Addr) (len2 cap2 : Nat) (w : World) (w0 : TermIn w a0 len0 cap0) (w1 : RulesZ w a1 len1 cap1) (w2 : RulesZ w a2 len2 cap2) :
    Calls Tryz.prog 3 #[.slice a0 len0 cap0, .slice a1 len1 cap1, .slice a2 len2 cap2] w fun e w' => e = .returned (.bool true) ∧ Below w.heap.size w w' := by
  obtain ⟨rk, rfl, hK, hk1, hk2, hk3⟩ := w0
  obtain ⟨⟨rs, rfl, hR, hr1, hr2⟩, hrz⟩ := w1
  obtain ⟨⟨ps, rfl, hP, hp1, hp2⟩, hpz⟩ := w2
  have hO := hid (Turn_any rk rs ps a0 a1 a2 cap0 cap1 cap2 w hK hR hP hp1 hp2)
  have hQ := hid (fun W (hW : Below w.heap.size w W) => refTurnOf_any rk rs ps a0 a1 a2 cap0 cap1 cap2 W ((hK.below hW).mono hW.size) ((hR.below hW).mono hW.size) ((hP.below hW).mono hW.size) hrz hp1 hp2)
  clear hK hR hP
  go_enter Tryz.func3, Tryz.ntmps3
  go_wp2_with fail
  refine hO.out.mono ?_
  rintro e u1 ⟨er, rs1, ps1, v1, x1, hs1, rfl, n1, m1, B1⟩
  clear hO
  obtain ⟨c1, d1, rfl⟩ := n1.slice
  obtain ⟨c2, d2, rfl⟩ := m1.slice
  go_wp2_with fail
  refine (hQ.out _ B1).mono ?_
  rintro e u2 ⟨er2, rs2, ps2, v2, x2, mm, hs2, rfl, n2, m2, b2⟩
  obtain ⟨e1, e2, e3⟩ := Tm.TurnSays.one (fun _ _ _ _ _ _ _ h h' => h.one h') hs1 hs2
  subst e1 e2 e3
  have hl := Tm.turn_lens hs1
  obtain ⟨c3, d3, e3, r3, _⟩ := n2.at
  obtain ⟨c4, d4, e4, r4, _⟩ := m2.at
  obtain ⟨_, _, e5, r5, _⟩ := (n1.below b2).at
  cases e5
  obtain ⟨_, _, e6, r6, _⟩ := (m1.below b2).at
  cases e6
  subst e3 e4
  have B2 := B1.trans (b2.mono B1.size)
  have hne : (er == er) = true := by simp
  have R3 := hid r3
  have R4 := hid r4
  have R5 := hid r5
  have R6 := hid r6
  clear hQ hs1 hs2 n1 n2 m1 m2 b2 B1 r3 r4 r5 r6
  go_wp2_with fail
  refine (closeBegun_any _).mono ?_
  rintro e u3 ⟨rfl, b3⟩
  have B3 := B2.trans (b3.mono B2.size)
  have hC := hid (sameRules_yes rs1 c1 c3 d1 d3 u3 ((R5.out.below b3).mono b3.size) ((R3.out.below b3).mono b3.size) hl.1.1 hl.1.2)
  have hD := hid (fun W (hW : Below u3.heap.size u3 W) => samePairs_yes ps1 c2 c4 d2 d4 W ((((R6.out.below b3).mono b3.size).below hW).mono hW.size) ((((R4.out.below b3).mono b3.size).below hW).mono hW.size) hl.2.1 hl.2.2)
  clear R3 R4 R5 R6 B2 hl
  go_wp2_with fail
  refine hC.out.mono ?_
  rintro e u4 ⟨rfl, b4⟩
  have B4 := B3.trans (b4.mono B3.size)
  go_wp2_with fail
  refine (hD.out u4 b4).mono ?_
  rintro e u5 ⟨rfl, b5⟩
  go_wp2
  go_ret
  exact ⟨rfl, B4.trans (b5.mono B4.size)⟩

/-! The row. -/
set_option maxRecDepth 100000 in
theorem lifted (os : Os) (started : os.Started) (H : Type) (enc : TypeId × Value → H) :
    ReturnsInHanded {} Tryz.checked os 3 .any (Rows.closeTurnsSpec.pre6 enc Tryz.prog Tryz.f3 Rows.closeTurnsRow.domain false) (Rows.closeTurnsSpec.post enc Tryz.prog Tryz.f3 false true false false) := by
  refine returnsInHanded_of_change (C := Tryz.checked) own started (by kernel_rfl) Tryz.func3
    (ChangeSpec.witness6 (enc := enc) (C := Tryz.checked) false ⟨#[], #[.slice none 0 0, .slice none 0 0, .slice none 0 0], []⟩ 8 (by kernel_rfl) (by kernel_rfl) (by kernel_rfl) (by kernel_rfl)) ?_
  intro W base args ds gs before hval0 hW hcnd _
  have hval : ∀ (j : Nat) t v, Tryz.f3.params[j]? = some t → args[j]? = some v → Value.okWide Tryz.prog W .any base t v := hval0
  have hW' := hW
  obtain ⟨p, q, hA0, hV, rfl, hfz, hnd⟩ := hW
  have hA : DataW.TrodAll enc Tryz.prog W 0 (fun _ => true) true Tryz.f3.params.toList args.toList ds p := hA0
  rw [Tryz.params3] at hA hval
  obtain ⟨v0, vs0, d0, ds0, p0, q0, hargs, rfl, rfl, h0, r0⟩ := trodAll_cons hA
  obtain ⟨v1, vs1, d1, ds1, p1, q1, rfl, rfl, rfl, h1, r1⟩ := trodAll_cons r0
  obtain ⟨v2, vs2, d2, ds2, p2, q2, rfl, rfl, rfl, h2, r2⟩ := trodAll_cons r1
  obtain ⟨rfl, rfl, rfl⟩ := trodAll_nil r2
  obtain rfl : args = #[v0, v1, v2] := by cases args; simp_all
  obtain ⟨rfl, rfl⟩ := trodVars_none hV
  obtain ⟨a0, len0, cap0, rfl⟩ := okWide_slice Tryz.underlying22 (hval 0 22 v0 rfl rfl)
  have k0 := h0
  have lt0 : ∀ x ∈ p0, x.block < W.heap.size := by obtain ⟨m, hm⟩ := k0; exact DataW.trod_lt m _ _ _ hm
  have w0 : TermIn W a0 len0 cap0 := by
    obtain ⟨fuel, hf⟩ := h0
    rcases open_ints Tryz.underlying22 Tryz.underlying3 (by kernel_rfl) hf with ⟨hcs, _⟩ | ⟨x, l, c, zs, hcs, _, hl, hm, hz, _, hcell, hwz⟩
    · simp [Value.cells] at hcs
      obtain ⟨rfl, rfl, rfl⟩ := hcs
      exact ints_of_row (.inl ⟨rfl, rfl, rfl, rfl⟩)
    · simp [Value.cells] at hcs
      obtain ⟨rfl, rfl, rfl⟩ := hcs
      exact ints_of_row (.inr ⟨_, rfl, hl, hm, by simpa using hz, hcell, hwz⟩)
  obtain ⟨a1, len1, cap1, rfl⟩ := okWide_slice Tryz.underlying23 (hval 1 23 v1 rfl rfl)
  have k1 := h1
  have lt1 : ∀ x ∈ p1, x.block < W.heap.size := by obtain ⟨m, hm⟩ := k1; exact DataW.trod_lt m _ _ _ hm
  have w1 : RulesZ W a1 len1 cap1 := by
    obtain ⟨fuel, hf⟩ := h1
    exact rulesZ_open Tryz.underlying23 Tryz.underlying54 (by kernel_rfl) rfl rfl rfl rfl (by simp [Value.cells]) hf
  obtain ⟨a2, len2, cap2, rfl⟩ := okWide_slice Tryz.underlying24 (hval 2 24 v2 rfl rfl)
  have k2 := h2
  have lt2 : ∀ x ∈ p2, x.block < W.heap.size := by obtain ⟨m, hm⟩ := k2; exact DataW.trod_lt m _ _ _ hm
  have w2 : RulesZ W a2 len2 cap2 := by
    obtain ⟨fuel, hf⟩ := h2
    exact rulesZ_open Tryz.underlying24 Tryz.underlying40 (by kernel_rfl) rfl rfl rfl rfl (by simp [Value.cells]) hf
  clear hA0 hval0
  refine (walk a0 len0 cap0 a1 len1 cap1 a2 len2 cap2 W w0 w1 w2).mono fun e W' ⟨he, bel⟩ => ?_
  subst he
  exact ⟨_, rfl, _, _, _, [], _, [], hW', trodAll_mk1 (shut_bool Tryz.underlying4 _), (trodAll_cons_mk (Below.trod laidOut (by kernel_rfl) (of_decide_eq_true (by kernel_rfl)) k0 bel lt0) (trodAll_cons_mk (Below.trod laidOut (by kernel_rfl) (of_decide_eq_true (by kernel_rfl)) k1 bel lt1) (trodAll_cons_mk (Below.trod laidOut (by kernel_rfl) (of_decide_eq_true (by kernel_rfl)) k2 bel lt2) trodAll_mk0))), rfl, bel.frame _, fun h => by cases h⟩

theorem over : Rows.closeTurnsRow.holds Tryz.pinned (OpenSpec.ofChange Rows.closeTurnsSpec) :=
  OpenClaim.holds_of_wide 3 Tryz.f3 rfl rfl rfl rfl rfl rfl rfl ⟨rfl, rfl, rfl, rfl, rfl⟩ rfl rfl rfl rfl rfl (by kernel_rfl) Tryz.func3 (by kernel_rfl)
    (of_decide_eq_true (by kernel_rfl)) (by unfold Func.isWrapper; first | (rw [if_pos (by decide +kernel)]; kernel_rfl) | (rw [if_neg (by decide +kernel)]; exact ⟨rfl, rfl⟩))
    (fun os started H enc _ => lifted os started H enc)

/-- The statement. -/
theorem proved : Rows.CloseTurnsSaid := over
#print axioms proved
end Go.Proofs.YtglohanbpjaieaaGreat.closeTurns
