/-
  Whatever list of signs and text TextShows is handed, it answers true and changes nothing that it was handed: text.Show and text.Read answer just what the document says, errors too. No condition.
-/
import Derived.Test.YtcgljcbpcchcjaaRows
import Derived.WalkKit
import Derived.ProofKit
import Derived.OpenShut
import Derived.ChangeOld
import Derived.Below
import Derived.Deep.Matrix
import Derived.ChangeMaps5
import Derived.Test.YtcgljcbpcchcjaaBtx2
import Derived.Test.YtcgljcbpcchcjaaBtx4
import Derived.Test.YtcgljcbpcchcjaaBtx6
namespace Go.Proofs.Ytcgljcbpcchcjaa.textShows
open Go.ChangeShapes Go.WideShapes Go.ChangeAt Go.RowKit Go.Deep Go.Shelf Go.Maps
set_option linter.unusedVariables false

theorem own : ownKnob Try.prog.godebug = none := by kernel_rfl
theorem laidOut : laidOutB Try.prog = true := by kernel_rfl

/-! The walk. -/
set_option maxRecDepth 100000 in
set_option maxHeartbeats 2000000 in
theorem walk (a0 : Option Addr) (len0 cap0 : Nat) (s1 : ByteArray) (w : World) (w0 : TermIn w a0 len0 cap0) (w1 : s1.size ≤ maxLen) :
    Calls Try.prog 3 #[.slice a0 len0 cap0, .string s1] w fun e w' => e = .returned (.bool true) ∧ Below w.heap.size w w' := by
  obtain ⟨t, rfl, hT, ht1, ht2, ht3⟩ := w0
  obtain ⟨l, rfl⟩ : ∃ l : List UInt8, s1 = ⟨l.toArray⟩ := ⟨s1.data.toList, by cases s1; simp⟩
  have hl : l.length ≤ maxLen := by simpa [ByteArray.size] using w1
  have hl' : (l.length : Int) ≤ 9223372036854775807 := by unfold maxLen at hl; omega
  have hS := hid (show_any t a0 cap0 w hT)
  have hE := hid (fun W (hW : Below w.heap.size w W) => termError_any t a0 cap0 W ((hT.below hW).mono hW.size))
  have hX := hid (fun x x1 x2 x4 (x3 : x.flat = t) W (hW : Below w.heap.size w W) => termText_any x a0 cap0 W x1 x2 x4 (by rw [x3]; exact ht1) ht2 (by rw [x3]; exact (hT.below hW).mono hW.size))
  have hR := hid (fun W => Read_any l W hl)
  have hF := hid (fun W h => termFrom_any l W h)
  have hEr : Hid (4096 < l.length → Tm.readErr l = 2 ∧ Tm.readVal l = []) := fun h => by unfold Tm.readErr Tm.readVal; rw [if_pos h, if_pos h]; exact ⟨rfl, rfl⟩
  have hEr2 : Hid (¬ 4096 < l.length → Tm.readErr l = (Tm.read l).2 ∧ Tm.readVal l = (Tm.read l).1) := fun h => by unfold Tm.readErr Tm.readVal; rw [if_neg h, if_neg h]; exact ⟨rfl, rfl⟩
  have hcs := hid (Tm.read_cases l)
  clear hT w1
  go_enter Try.func3, Try.ntmps3
  go_wp2_with fail
  refine hS.out.mono ?_
  rintro e u1 ⟨sh, er, hs, rfl, B1⟩
  clear hS
  go_wp2_with fail
  refine (hE.out u1 B1).mono ?_
  rintro e u1 ⟨rfl, rfl⟩
  rcases hs with ⟨rfl, he, x, x1, x2, x3, x4, rfl⟩ | ⟨hne, rfl, rfl⟩
  · have hXc := hid (hX.out x x1 x2 x4 x3 u1 B1)
    rw [x3] at hXc
    rw [he]
    clear hX hE x1 x2 x3 x4 he
    generalize x.show = sh at *
    go_wp2_with fail
    refine hXc.out.mono ?_
    rintro e u2 ⟨rfl, b2⟩
    have B2 := B1.trans (b2.mono B1.size)
    clear hXc b2 B1
    go_wp2_with fail
    refine (hR.out u2).mono ?_
    rintro e u3 ⟨v3, rfl, hN3, b3⟩
    have B3 := B2.trans (b3.mono B2.size)
    clear hR b3 B2
    by_cases hbig : 4096 < l.length
    · obtain ⟨e1, e2⟩ := hEr.out hbig
      rw [e1]
      rw [e2] at hN3
      obtain ⟨a3, c3, rfl, i3, _⟩ := New.ints hN3
      have hbig' : (4096 : Int) < (l.length : Int) := by omega
      clear hEr hEr2 hF hN3 hcs e1 e2 hbig
      go_wp2_with fail
      refine (textBegun_any _).mono ?_
      rintro e u4 ⟨rfl, b4⟩
      go_wp2
      go_ret
      exact ⟨rfl, B3.trans (b4.mono B3.size)⟩
    · obtain ⟨e1, e2⟩ := hEr2.out hbig
      rw [e1]
      rw [e2] at hN3
      obtain ⟨a3, c3, rfl, i3, _⟩ := New.ints hN3
      have hFc := hid (hF.out u3 (by omega))
      have hbig' : ¬ (4096 : Int) < (l.length : Int) := by omega
      have hle : Hid ((Tm.read l).1.length ≤ 30) := by
        rcases hcs.out with ⟨y, _, _, y3, _, _, y5⟩ | ⟨_, _, y2⟩
        · rw [y5]; exact y3
        · rw [y2]; exact Nat.zero_le _
      have hfr : (Tm.fromIs l = true ∧ (Tm.read l).2 = 0) ∨ (Tm.fromIs l = false ∧ (Tm.read l).2 = 1) := by
        unfold Tm.fromIs
        rcases hcs.out with ⟨y, _, _, _, _, _, y5⟩ | ⟨_, _, y2⟩
        · rw [y5]; exact .inl ⟨rfl, rfl⟩
        · rw [y2]; exact .inr ⟨rfl, rfl⟩
      clear hEr hEr2 hF hN3 hcs e1 e2 hbig
      generalize Tm.fromIs l = fi at *
      generalize (Tm.read l).2 = re at *
      generalize (Tm.read l).1 = rv at *
      have hSm := hid (fun W ua va cu cv (hu : Ints W.heap.size W ua rv) (hv : Ints W.heap.size W va rv) => same_any rv rv ua va cu cv W hu hv (by have := hle.out; unfold maxLen; omega))
      rw [show sameB rv rv = true by simp [sameB]] at hSm
      rcases hfr with ⟨rfl, rfl⟩ | ⟨rfl, rfl⟩
      all_goals
        go_wp2_with fail
        refine hFc.out.mono ?_
        rintro e u4 ⟨v4, rfl, hN4, b4⟩
        obtain ⟨a4, c4, rfl, i4, _⟩ := New.ints hN4
        have B4 := B3.trans (b4.mono B3.size)
        have j3 := (i3.below b4).mono b4.size
        clear hFc hN4
        go_wp2_with fail
        refine (textBegun_any _).mono ?_
        rintro e u5 ⟨rfl, b5⟩
        have B5 := B4.trans (b5.mono B4.size)
        go_wp2_with fail
        refine (hSm.out u5 a3 a4 c3 c4 ((j3.below b5).mono b5.size) ((i4.below b5).mono b5.size)).mono ?_
        rintro e u6 ⟨rfl, b6⟩
        go_wp2
        go_ret
        exact ⟨rfl, B5.trans (b6.mono B5.size)⟩
  · have hne' : (Tm.err t == 0) = false := by rw [beq_eq_false_iff_ne]; exact hne
    clear hX hE hne
    generalize Tm.err t = q at *
    go_wp2_with fail
    refine (hR.out u1).mono ?_
    rintro e u3 ⟨v3, rfl, hN3, b3⟩
    have B3 := B1.trans (b3.mono B1.size)
    clear hR b3 B1
    by_cases hbig : 4096 < l.length
    · obtain ⟨e1, e2⟩ := hEr.out hbig
      rw [e1]
      rw [e2] at hN3
      obtain ⟨a3, c3, rfl, i3, _⟩ := New.ints hN3
      have hbig' : (4096 : Int) < (l.length : Int) := by omega
      clear hEr hEr2 hF hN3 hcs e1 e2 hbig
      go_wp2_with fail
      refine (textBegun_any _).mono ?_
      rintro e u4 ⟨rfl, b4⟩
      go_wp2
      go_ret
      exact ⟨rfl, B3.trans (b4.mono B3.size)⟩
    · obtain ⟨e1, e2⟩ := hEr2.out hbig
      rw [e1]
      rw [e2] at hN3
      obtain ⟨a3, c3, rfl, i3, _⟩ := New.ints hN3
      have hFc := hid (hF.out u3 (by omega))
      have hbig' : ¬ (4096 : Int) < (l.length : Int) := by omega
      have hle : Hid ((Tm.read l).1.length ≤ 30) := by
        rcases hcs.out with ⟨y, _, _, y3, _, _, y5⟩ | ⟨_, _, y2⟩
        · rw [y5]; exact y3
        · rw [y2]; exact Nat.zero_le _
      have hfr : (Tm.fromIs l = true ∧ (Tm.read l).2 = 0) ∨ (Tm.fromIs l = false ∧ (Tm.read l).2 = 1) := by
        unfold Tm.fromIs
        rcases hcs.out with ⟨y, _, _, _, _, _, y5⟩ | ⟨_, _, y2⟩
        · rw [y5]; exact .inl ⟨rfl, rfl⟩
        · rw [y2]; exact .inr ⟨rfl, rfl⟩
      clear hEr hEr2 hF hN3 hcs e1 e2 hbig
      generalize Tm.fromIs l = fi at *
      generalize (Tm.read l).2 = re at *
      generalize (Tm.read l).1 = rv at *
      have hSm := hid (fun W ua va cu cv (hu : Ints W.heap.size W ua rv) (hv : Ints W.heap.size W va rv) => same_any rv rv ua va cu cv W hu hv (by have := hle.out; unfold maxLen; omega))
      rw [show sameB rv rv = true by simp [sameB]] at hSm
      rcases hfr with ⟨rfl, rfl⟩ | ⟨rfl, rfl⟩
      all_goals
        go_wp2_with fail
        refine hFc.out.mono ?_
        rintro e u4 ⟨v4, rfl, hN4, b4⟩
        obtain ⟨a4, c4, rfl, i4, _⟩ := New.ints hN4
        have B4 := B3.trans (b4.mono B3.size)
        have j3 := (i3.below b4).mono b4.size
        clear hFc hN4
        go_wp2_with fail
        refine (textBegun_any _).mono ?_
        rintro e u5 ⟨rfl, b5⟩
        have B5 := B4.trans (b5.mono B4.size)
        go_wp2_with fail
        refine (hSm.out u5 a3 a4 c3 c4 ((j3.below b5).mono b5.size) ((i4.below b5).mono b5.size)).mono ?_
        rintro e u6 ⟨rfl, b6⟩
        go_wp2
        go_ret
        exact ⟨rfl, B5.trans (b6.mono B5.size)⟩

/-! The row. -/
set_option maxRecDepth 100000 in
theorem lifted (os : Os) (started : os.Started) (H : Type) (enc : TypeId × Value → H) :
    ReturnsInHanded {} Try.checked os 3 .any (Rows.textShowsSpec.pre6 enc Try.prog Try.f3 Rows.textShowsRow.domain false) (Rows.textShowsSpec.post enc Try.prog Try.f3 false true false false) := by
  refine returnsInHanded_of_change (C := Try.checked) own started (by kernel_rfl) Try.func3
    (ChangeSpec.witness6 (enc := enc) (C := Try.checked) false ⟨#[], #[.slice none 0 0, .string ⟨#[]⟩], []⟩ 8 (by kernel_rfl) (by kernel_rfl) (by kernel_rfl) (by kernel_rfl)) ?_
  intro W base args ds gs before hval0 hW hcnd _
  have hval : ∀ (j : Nat) t v, Try.f3.params[j]? = some t → args[j]? = some v → Value.okWide Try.prog W .any base t v := hval0
  have hW' := hW
  obtain ⟨p, q, hA0, hV, rfl, hfz, hnd⟩ := hW
  have hA : DataW.TrodAll enc Try.prog W 0 (fun _ => true) true Try.f3.params.toList args.toList ds p := hA0
  rw [Try.params3] at hA hval
  obtain ⟨v0, vs0, d0, ds0, p0, q0, hargs, rfl, rfl, h0, r0⟩ := trodAll_cons hA
  obtain ⟨v1, vs1, d1, ds1, p1, q1, rfl, rfl, rfl, h1, r1⟩ := trodAll_cons r0
  obtain ⟨rfl, rfl, rfl⟩ := trodAll_nil r1
  obtain rfl : args = #[v0, v1] := by cases args; simp_all
  obtain ⟨rfl, rfl⟩ := trodVars_none hV
  obtain ⟨a0, len0, cap0, rfl⟩ := okWide_slice Try.underlying23 (hval 0 23 v0 rfl rfl)
  have k0 := h0
  have lt0 : ∀ x ∈ p0, x.block < W.heap.size := by obtain ⟨m, hm⟩ := k0; exact DataW.trod_lt m _ _ _ hm
  have w0 : TermIn W a0 len0 cap0 := by
    obtain ⟨fuel, hf⟩ := h0
    rcases open_ints Try.underlying23 Try.underlying3 (by kernel_rfl) hf with ⟨hcs, _⟩ | ⟨x, l, c, zs, hcs, _, hl, hm, hz, _, hcell, hwz⟩
    · simp [Value.cells] at hcs
      obtain ⟨rfl, rfl, rfl⟩ := hcs
      exact ints_of_row (.inl ⟨rfl, rfl, rfl, rfl⟩)
    · simp [Value.cells] at hcs
      obtain ⟨rfl, rfl, rfl⟩ := hcs
      exact ints_of_row (.inr ⟨_, rfl, hl, hm, by simpa using hz, hcell, hwz⟩)
  obtain ⟨s1, rfl, rfl, rfl, w1⟩ := Go.ChangeMaps.open_string Try.underlying9 (hval 1 9 v1 rfl rfl) h1
  clear hA0 hval0
  refine (walk a0 len0 cap0 s1 W w0 w1).mono fun e W' ⟨he, bel⟩ => ?_
  subst he
  exact ⟨_, rfl, _, _, _, [], _, [], hW', trodAll_mk1 (shut_bool Try.underlying4 _), (trodAll_cons_mk (Below.trod laidOut (by kernel_rfl) (of_decide_eq_true (by kernel_rfl)) k0 bel lt0) (trodAll_cons_mk (Go.ChangeMaps.shut_string Try.underlying9 w1) trodAll_mk0)), rfl, bel.frame _, fun h => by cases h⟩

theorem over : Rows.textShowsRow.holds Try.pinned (OpenSpec.ofChange Rows.textShowsSpec) :=
  OpenClaim.holds_of_wide 3 Try.f3 rfl rfl rfl rfl rfl rfl rfl ⟨rfl, rfl, rfl, rfl, rfl⟩ rfl rfl rfl rfl rfl (by kernel_rfl) Try.func3 (by kernel_rfl)
    (of_decide_eq_true (by kernel_rfl)) (by unfold Func.isWrapper; first | (rw [if_pos (by decide +kernel)]; kernel_rfl) | (rw [if_neg (by decide +kernel)]; exact ⟨rfl, rfl⟩))
    (fun os started H enc _ => lifted os started H enc)

/-- The statement. -/
theorem proved : Rows.TextShowsSaid := over
#print axioms proved
end Go.Proofs.Ytcgljcbpcchcjaa.textShows
