/-
  Whatever two lists of signs UnifyTrue is handed, it answers true and changes nothing that it was handed: what unify.Meet answers makes both the same, done twice it is done once, and the other way round the same comes. No condition.
-/
import Derived.Test.YtbelnlemjcoifaaRows
import Derived.WalkKit
import Derived.ProofKit
import Derived.OpenShut
import Derived.ChangeOld
import Derived.Below
import Derived.Deep.Matrix
import Derived.Test.YtbelnlemjcoifaaBut2
import Derived.Test.YtbelnlemjcoifaaBut4
import Derived.Test.YtbelnlemjcoifaaBut9
namespace Go.Proofs.Ytbelnlemjcoifaa.unifyTrue
open Go.ChangeShapes Go.WideShapes Go.ChangeAt Go.RowKit Go.Deep Go.Shelf Go.Maps
set_option linter.unusedVariables false

theorem own : ownKnob Try.prog.godebug = none := by kernel_rfl
theorem laidOut : laidOutB Try.prog = true := by kernel_rfl

/-! The walk. -/
set_option maxRecDepth 100000 in
set_option maxHeartbeats 2000000 in
theorem walk (a0 : Option Addr) (len0 cap0 : Nat) (a1 : Option Addr) (len1 cap1 : Nat) (w : World) (w0 : TermIn w a0 len0 cap0) (w1 : TermIn w a1 len1 cap1) :
    Calls Try.prog 12 #[.slice a0 len0 cap0, .slice a1 len1 cap1] w fun e w' => e = .returned (.bool true) ∧ Below w.heap.size w w' := by
  obtain ⟨a, rfl, hA, ha1, ha2, ha3⟩ := w0
  obtain ⟨b, rfl, hB, hb1, hb2, hb3⟩ := w1
  have hM := hid (Meet_any a b a0 a1 cap0 cap1 w hA hB ha1 ha2 hb1 hb2)
  have hM' := hid (fun W (hW : Below w.heap.size w W) => Meet_any b a a1 a0 cap1 cap0 W ((hB.below hW).mono hW.size) ((hA.below hW).mono hW.size) hb1 hb2 ha1 ha2)
  have HA := hid hA
  have HB := hid hB
  clear hA hB
  go_enter Try.func12, Try.ntmps12
  go_wp2_with fail
  refine hM.out.mono ?_
  rintro e w1 ⟨hB1, er, is, val, x1, hSays, rfl, hS1⟩
  clear hM
  by_cases he : er = 0
  · subst he
    have hsw := hid hSays.swap
    have Hsays := hid hSays
    have hl8 := hSays.len
    clear hSays
    go_wp2_with fail
    refine (hM'.out _ hB1).mono ?_
    rintro e w2 ⟨hB2, er2, is2, val2, x2, hSays2, rfl, hS2⟩
    obtain ⟨e1, e2, e3⟩ := hsw.out.one hSays2
    subst e1 e2 e3
    have HB2 := hB1.trans (hB2.mono hB1.size)
    have hSS := hid (sameSubs_any val val x1 x2 val.length val.length w2 ((hS1.below hB2).mono hB2.size) hS2 (by omega))
    rw [show sameSB val val = true by simp [sameSB]] at hSS
    have S2 := hid ((hS1.below hB2).mono hB2.size)
    clear hM' hsw hSays2 hS2 hS1 hB1 hB2
    cases is with
    | false =>
      clear S2
      go_wp2_with fail
      refine hSS.out.mono ?_
      rintro e w3 ⟨rfl, hB3⟩
      have HB3 := HB2.trans (hB3.mono HB2.size)
      clear hSS HB2 hB3
      go_wp2_with fail
      refine (unifyBegun_any _).mono ?_
      rintro e w5 ⟨rfl, hB5⟩
      go_wp2
      go_ret
      exact ⟨rfl, HB3.trans (hB5.mono HB3.size)⟩
    | true =>
      obtain ⟨hs, hea, heb, hab, haf, hav⟩ := Tm.meet_true Hsays.out
      have hq : Tm.applyErr val b = Tm.applyErr val a := by unfold Tm.applyErr; rw [if_pos hs, if_pos hs, if_pos hea, if_pos heb, hab]
      have hv : Tm.applyVal val b = Tm.applyVal val a := by unfold Tm.applyVal; rw [hq, hab]
      have hl30 : (Tm.applyVal val a).length ≤ 30 := Tm.applyVal_len val a
      have hX := hid (fun W (hW : Below w.heap.size w W) (hS : Subs W.heap.size W x1 val) => apply_any val a x1 a0 val.length cap0 W hS ((HA.out.below hW).mono hW.size))
      have hY := hid (fun W (hW : Below w.heap.size w W) (hS : Subs W.heap.size W x1 val) => apply_any val b x1 a1 val.length cap1 W hS ((HB.out.below hW).mono hW.size))
      have hZ := hid (fun W (hS : Subs W.heap.size W x1 val) => after_any val val x1 x1 val.length val.length W hS hS)
      rw [hq, hv] at hY
      rw [haf, hav] at hZ
      clear Hsays hs hea heb hab haf hav hq hv
      generalize Tm.applyErr val a = q at *
      generalize Tm.applyVal val a = xs at *
      go_wp2_with fail
      refine hSS.out.mono ?_
      rintro e w3 ⟨rfl, hB3⟩
      have HB3 := HB2.trans (hB3.mono HB2.size)
      have S3 := hid ((S2.out.below hB3).mono hB3.size)
      clear hSS HB2 hB3 S2
      go_wp2_with fail
      refine (hX.out _ HB3 S3.out).mono ?_
      rintro e w4 ⟨v4, rfl, hN4, hB4⟩
      obtain ⟨x4, c4, rfl, hI4, _⟩ := New.ints hN4
      have HB4 := HB3.trans (hB4.mono HB3.size)
      have S4 := hid ((S3.out.below hB4).mono hB4.size)
      clear hX HB3 hB4 S3 hN4
      go_wp2_with fail
      refine (hY.out _ HB4 S4.out).mono ?_
      rintro e w5 ⟨v5, rfl, hN5, hB5⟩
      obtain ⟨x5, c5, rfl, hI5, _⟩ := New.ints hN5
      have HB5 := HB4.trans (hB5.mono HB4.size)
      have S5 := hid ((S4.out.below hB5).mono hB5.size)
      have I4 := (hI4.below hB5).mono hB5.size
      clear hY HB4 hB5 S4 hN5 hI4
      go_wp2_with fail
      refine (hZ.out _ S5.out).mono ?_
      rintro e w6 ⟨v6, rfl, hN6, hB6⟩
      obtain ⟨x6, c6, rfl, hS6, _⟩ := NewS.subs hN6
      have HB6 := HB5.trans (hB6.mono HB5.size)
      have S6 := hid ((S5.out.below hB6).mono hB6.size)
      have I46 := (I4.below hB6).mono hB6.size
      have I56 := (hI5.below hB6).mono hB6.size
      clear hZ HB5 hB6 S5 hN6 I4 hI5
      go_wp2_with fail
      refine (unifyBegun_any _).mono ?_
      rintro e w7 ⟨rfl, hB7⟩
      have HB7 := HB6.trans (hB7.mono HB6.size)
      have S7 := hid ((S6.out.below hB7).mono hB7.size)
      have T7 := hid ((hS6.below hB7).mono hB7.size)
      have hSm := same_any xs xs x4 x5 c4 c5 w7 ((I46.below hB7).mono hB7.size) ((I56.below hB7).mono hB7.size) (by unfold maxLen; omega)
      rw [show sameB xs xs = true by simp [sameB]] at hSm
      clear HB6 hB7 S6 hS6 I46 I56
      go_wp2_with fail
      refine hSm.mono ?_
      rintro e w8 ⟨rfl, hB8⟩
      have HB8 := HB7.trans (hB8.mono HB7.size)
      have hSS := sameSubs_any val val x6 x1 c6 val.length w8 ((T7.out.below hB8).mono hB8.size) ((S7.out.below hB8).mono hB8.size) (by omega)
      rw [show sameSB val val = true by simp [sameSB]] at hSS
      clear hSm HB7 hB8 S7 T7
      go_wp2_with fail
      refine hSS.mono ?_
      rintro e w9 ⟨rfl, hB9⟩
      go_wp2
      go_ret
      exact ⟨rfl, HB8.trans (hB9.mono HB8.size)⟩
  · have hn : (er != 0) = true := by simpa using he
    clear he hM' hSays hS1
    go_wp2_with fail
    refine (unifyBegun_any _).mono ?_
    rintro e w5 ⟨rfl, hB5⟩
    go_wp2
    go_ret
    exact ⟨rfl, hB1.trans (hB5.mono hB1.size)⟩

/-! The row. -/
set_option maxRecDepth 100000 in
theorem lifted (os : Os) (started : os.Started) (H : Type) (enc : TypeId × Value → H) :
    ReturnsInHanded {} Try.checked os 12 .any (Rows.unifyTrueSpec.pre6 enc Try.prog Try.f12 Rows.unifyTrueRow.domain false) (Rows.unifyTrueSpec.post enc Try.prog Try.f12 false true false false) := by
  refine returnsInHanded_of_change (C := Try.checked) own started (by kernel_rfl) Try.func12
    (ChangeSpec.witness6 (enc := enc) (C := Try.checked) false ⟨#[], #[.slice none 0 0, .slice none 0 0], []⟩ 8 (by kernel_rfl) (by kernel_rfl) (by kernel_rfl) (by kernel_rfl)) ?_
  intro W base args ds gs before hval0 hW hcnd _
  have hval : ∀ (j : Nat) t v, Try.f12.params[j]? = some t → args[j]? = some v → Value.okWide Try.prog W .any base t v := hval0
  have hW' := hW
  obtain ⟨p, q, hA0, hV, rfl, hfz, hnd⟩ := hW
  have hA : DataW.TrodAll enc Try.prog W 0 (fun _ => true) true Try.f12.params.toList args.toList ds p := hA0
  rw [Try.params12] at hA hval
  obtain ⟨v0, vs0, d0, ds0, p0, q0, hargs, rfl, rfl, h0, r0⟩ := trodAll_cons hA
  obtain ⟨v1, vs1, d1, ds1, p1, q1, rfl, rfl, rfl, h1, r1⟩ := trodAll_cons r0
  obtain ⟨rfl, rfl, rfl⟩ := trodAll_nil r1
  obtain rfl : args = #[v0, v1] := by cases args; simp_all
  obtain ⟨rfl, rfl⟩ := trodVars_none hV
  obtain ⟨a0, len0, cap0, rfl⟩ := okWide_slice Try.underlying23 (hval 0 23 v0 rfl rfl)
  have k0 := h0
  have lt0 : ∀ x ∈ p0, x.block < W.heap.size := by obtain ⟨m, hm⟩ := k0; exact DataW.trod_lt m _ _ _ hm
  have w0 : TermIn W a0 len0 cap0 := by
    obtain ⟨fuel, hf⟩ := h0
    rcases open_ints Try.underlying23 Try.underlying3 (by kernel_rfl) hf with ⟨hcs, _⟩ | ⟨x, l, c, zs, hcs, _, hl, hm, hz, _, hcell, hwz⟩
    · simp [Value.cells] at hcs
      obtain ⟨rfl, rfl, rfl⟩ := hcs
      exact ints_of_row (.inl ⟨rfl, rfl, rfl, rfl⟩)
    · simp [Value.cells] at hcs
      obtain ⟨rfl, rfl, rfl⟩ := hcs
      exact ints_of_row (.inr ⟨_, rfl, hl, hm, by simpa using hz, hcell, hwz⟩)
  obtain ⟨a1, len1, cap1, rfl⟩ := okWide_slice Try.underlying23 (hval 1 23 v1 rfl rfl)
  have k1 := h1
  have lt1 : ∀ x ∈ p1, x.block < W.heap.size := by obtain ⟨m, hm⟩ := k1; exact DataW.trod_lt m _ _ _ hm
  have w1 : TermIn W a1 len1 cap1 := by
    obtain ⟨fuel, hf⟩ := h1
    rcases open_ints Try.underlying23 Try.underlying3 (by kernel_rfl) hf with ⟨hcs, _⟩ | ⟨x, l, c, zs, hcs, _, hl, hm, hz, _, hcell, hwz⟩
    · simp [Value.cells] at hcs
      obtain ⟨rfl, rfl, rfl⟩ := hcs
      exact ints_of_row (.inl ⟨rfl, rfl, rfl, rfl⟩)
    · simp [Value.cells] at hcs
      obtain ⟨rfl, rfl, rfl⟩ := hcs
      exact ints_of_row (.inr ⟨_, rfl, hl, hm, by simpa using hz, hcell, hwz⟩)
  clear hA0 hval0
  refine (walk a0 len0 cap0 a1 len1 cap1 W w0 w1).mono fun e W' ⟨he, bel⟩ => ?_
  subst he
  exact ⟨_, rfl, _, _, _, [], _, [], hW', trodAll_mk1 (shut_bool Try.underlying4 _), (trodAll_cons_mk (Below.trod laidOut (by kernel_rfl) (of_decide_eq_true (by kernel_rfl)) k0 bel lt0) (trodAll_cons_mk (Below.trod laidOut (by kernel_rfl) (of_decide_eq_true (by kernel_rfl)) k1 bel lt1) trodAll_mk0)), rfl, bel.frame _, fun h => by cases h⟩

theorem over : Rows.unifyTrueRow.holds Try.pinned (OpenSpec.ofChange Rows.unifyTrueSpec) :=
  OpenClaim.holds_of_wide 12 Try.f12 rfl rfl rfl rfl rfl rfl rfl ⟨rfl, rfl, rfl, rfl, rfl⟩ rfl rfl rfl rfl rfl (by kernel_rfl) Try.func12 (by kernel_rfl)
    (of_decide_eq_true (by kernel_rfl)) (by unfold Func.isWrapper; first | (rw [if_pos (by decide +kernel)]; kernel_rfl) | (rw [if_neg (by decide +kernel)]; exact ⟨rfl, rfl⟩))
    (fun os started H enc _ => lifted os started H enc)

/-- The statement. -/
theorem proved : Rows.UnifyTrueSaid := over
#print axioms proved
end Go.Proofs.Ytbelnlemjcoifaa.unifyTrue
