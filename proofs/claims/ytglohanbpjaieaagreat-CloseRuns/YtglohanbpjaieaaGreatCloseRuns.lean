/-
  Whatever rank and pairs CloseRuns is handed, it answers true and changes nothing that it was handed: close.Run answers just what the document says, errors too. No condition.
-/
import Derived.Test.YtglohanbpjaieaaGreatRows
import Derived.WalkKit
import Derived.ProofKit
import Derived.OpenShut
import Derived.ChangeOld
import Derived.Below
import Derived.Deep.Matrix
import Derived.Test.YtglohanbpjaieaaGreatBcr3
import Derived.Test.YtglohanbpjaieaaGreatBcr11
import Derived.Test.YtglohanbpjaieaaGreatBcr24
import Derived.Test.YtglohanbpjaieaaGreatBcr32
namespace Go.Proofs.YtglohanbpjaieaaGreat.closeRuns
open Go.ChangeShapes Go.WideShapes Go.ChangeAt Go.RowKit Go.Deep Go.Shelf Go.Maps
set_option linter.unusedVariables false

theorem own : ownKnob Tryz.prog.godebug = none := by kernel_rfl
theorem laidOut : laidOutB Tryz.prog = true := by kernel_rfl

/-! The walk. -/
set_option maxRecDepth 100000 in
set_option maxHeartbeats 2000000 in
theorem walk (a0 : Option Addr) (len0 cap0 : Nat) (a1 : Option Addr) (len1 cap1 : Nat) (w : World) (w0 : TermIn w a0 len0 cap0) (w1 : RulesIn w a1 len1 cap1) :
    Calls Tryz.prog 4 #[.slice a0 len0 cap0, .slice a1 len1 cap1] w fun e w' => e = .returned (.bool true) ∧ Below w.heap.size w w' := by
  obtain ⟨rk, rfl, hK, hk1, hk2, hk3⟩ := w0
  obtain ⟨ps, rfl, hP, hp1, hp2⟩ := w1
  have hO := hid (Run_any rk ps a0 a1 cap0 cap1 w hK hP hp1 hp2)
  have hQ := hid (fun W (hW : Below w.heap.size w W) => refRunOf_any rk ps a0 a1 cap0 cap1 W ((hK.below hW).mono hW.size) ((hP.below hW).mono hW.size) hp1 hp2)
  clear hK hP
  go_enter Tryz.func4, Tryz.ntmps4
  go_wp2_with fail
  refine hO.out.mono ?_
  rintro e u1 ⟨er, rs1, n1, c1, d1, hs1, rfl, r1, _, _, B1⟩
  clear hO
  go_wp2_with fail
  refine (hQ.out _ B1).mono ?_
  rintro e u2 ⟨er2, rs2, n2, c2, d2, hs2, rfl, r2, _, _, b2⟩
  obtain ⟨e1, e2, e3⟩ := Tm.RunSays.one (fun _ _ _ _ _ _ _ h h' => h.one h') hs1 hs2
  subst e1 e2 e3
  have hl := Tm.run_lens hs1
  have B2 := B1.trans (b2.mono B1.size)
  have hne : (er == er) = true := by simp
  have hne2 : ((n1 : Int) == (n1 : Int)) = true := by simp
  have R1 := hid ((r1.below b2).mono b2.size)
  have R2 := hid r2
  clear hQ hs1 hs2 b2 B1 r1 r2
  go_wp2_with fail
  refine (closeBegun_any _).mono ?_
  rintro e u3 ⟨rfl, b3⟩
  have B3 := B2.trans (b3.mono B2.size)
  have hC := hid (sameRules_yes rs1 c1 c2 d1 d2 u3 ((R1.out.below b3).mono b3.size) ((R2.out.below b3).mono b3.size) hl.1 hl.2)
  clear R1 R2 B2 hl
  go_wp2_with fail
  refine hC.out.mono ?_
  rintro e u4 ⟨rfl, b4⟩
  go_wp2
  go_ret
  exact ⟨rfl, B3.trans (b4.mono B3.size)⟩

/-! The row. -/
set_option maxRecDepth 100000 in
theorem lifted (os : Os) (started : os.Started) (H : Type) (enc : TypeId × Value → H) :
    ReturnsInHanded {} Tryz.checked os 4 .any (Rows.closeRunsSpec.pre6 enc Tryz.prog Tryz.f4 Rows.closeRunsRow.domain false) (Rows.closeRunsSpec.post enc Tryz.prog Tryz.f4 false true false false) := by
  refine returnsInHanded_of_change (C := Tryz.checked) own started (by kernel_rfl) Tryz.func4
    (ChangeSpec.witness6 (enc := enc) (C := Tryz.checked) false ⟨#[], #[.slice none 0 0, .slice none 0 0], []⟩ 8 (by kernel_rfl) (by kernel_rfl) (by kernel_rfl) (by kernel_rfl)) ?_
  intro W base args ds gs before hval0 hW hcnd _
  have hval : ∀ (j : Nat) t v, Tryz.f4.params[j]? = some t → args[j]? = some v → Value.okWide Tryz.prog W .any base t v := hval0
  have hW' := hW
  obtain ⟨p, q, hA0, hV, rfl, hfz, hnd⟩ := hW
  have hA : DataW.TrodAll enc Tryz.prog W 0 (fun _ => true) true Tryz.f4.params.toList args.toList ds p := hA0
  rw [Tryz.params4] at hA hval
  obtain ⟨v0, vs0, d0, ds0, p0, q0, hargs, rfl, rfl, h0, r0⟩ := trodAll_cons hA
  obtain ⟨v1, vs1, d1, ds1, p1, q1, rfl, rfl, rfl, h1, r1⟩ := trodAll_cons r0
  obtain ⟨rfl, rfl, rfl⟩ := trodAll_nil r1
  obtain rfl : args = #[v0, v1] := by cases args; simp_all
  obtain ⟨rfl, rfl⟩ := trodVars_none hV
  obtain ⟨a0, len0, cap0, rfl⟩ := okWide_slice Tryz.underlying22 (hval 0 22 v0 rfl rfl)
  have k0 := h0
  have lt0 : ∀ x ∈ p0, x.block < W.heap.size := by obtain ⟨m, hm⟩ := k0; exact DataW.trod_lt m _ _ _ hm
  have w0 : TermIn W a0 len0 cap0 := by
    obtain ⟨fuel, hf⟩ := h0
    rcases open_ints Tryz.underlying22 Tryz.underlying3 (by kernel_rfl) hf with ⟨hcs, _⟩ | ⟨x, l, c, zs, hcs, _, hl, hm, hz, _, hcell, hwz⟩
    · simp [Value.cells] at hcs
      obtain ⟨rfl, rfl, rfl⟩ := hcs
      exact ints_of_row (.inl ⟨rfl, rfl, rfl, rfl⟩)
    · simp [Value.cells] at hcs
      obtain ⟨rfl, rfl, rfl⟩ := hcs
      exact ints_of_row (.inr ⟨_, rfl, hl, hm, by simpa using hz, hcell, hwz⟩)
  obtain ⟨a1, len1, cap1, rfl⟩ := okWide_slice Tryz.underlying24 (hval 1 24 v1 rfl rfl)
  have k1 := h1
  have lt1 : ∀ x ∈ p1, x.block < W.heap.size := by obtain ⟨m, hm⟩ := k1; exact DataW.trod_lt m _ _ _ hm
  have w1 : RulesIn W a1 len1 cap1 := by
    obtain ⟨fuel, hf⟩ := h1
    exact rulesIn_open Tryz.underlying24 Tryz.underlying40 (by kernel_rfl) rfl rfl rfl rfl (by simp [Value.cells]) hf
  clear hA0 hval0
  refine (walk a0 len0 cap0 a1 len1 cap1 W w0 w1).mono fun e W' ⟨he, bel⟩ => ?_
  subst he
  exact ⟨_, rfl, _, _, _, [], _, [], hW', trodAll_mk1 (shut_bool Tryz.underlying4 _), (trodAll_cons_mk (Below.trod laidOut (by kernel_rfl) (of_decide_eq_true (by kernel_rfl)) k0 bel lt0) (trodAll_cons_mk (Below.trod laidOut (by kernel_rfl) (of_decide_eq_true (by kernel_rfl)) k1 bel lt1) trodAll_mk0)), rfl, bel.frame _, fun h => by cases h⟩

theorem over : Rows.closeRunsRow.holds Tryz.pinned (OpenSpec.ofChange Rows.closeRunsSpec) :=
  OpenClaim.holds_of_wide 4 Tryz.f4 rfl rfl rfl rfl rfl rfl rfl ⟨rfl, rfl, rfl, rfl, rfl⟩ rfl rfl rfl rfl rfl (by kernel_rfl) Tryz.func4 (by kernel_rfl)
    (of_decide_eq_true (by kernel_rfl)) (by unfold Func.isWrapper; first | (rw [if_pos (by decide +kernel)]; kernel_rfl) | (rw [if_neg (by decide +kernel)]; exact ⟨rfl, rfl⟩))
    (fun os started H enc _ => lifted os started H enc)

/-- The statement. -/
theorem proved : Rows.CloseRunsSaid := over
#print axioms proved
end Go.Proofs.YtglohanbpjaieaaGreat.closeRuns
