/-
  Whatever list of signs and text TextBack is handed, it answers true and changes nothing that it was handed: what is shown is read as it was, and nothing else is. No condition.
-/
import Derived.Test.YtcgljcbpcchcjaaRows
import Derived.WalkKit
import Derived.ProofKit
import Derived.OpenShut
import Derived.ChangeOld
import Derived.Below
import Derived.Deep.Matrix
import Derived.ChangeMaps5
import Derived.Test.YtcgljcbpcchcjaaBtx1
import Derived.Test.YtcgljcbpcchcjaaBtx4
import Derived.Test.YtcgljcbpcchcjaaBtx6
namespace Go.Proofs.Ytcgljcbpcchcjaa.textBack
open Go.ChangeShapes Go.WideShapes Go.ChangeAt Go.RowKit Go.Deep Go.Shelf Go.Maps
set_option linter.unusedVariables false

theorem own : ownKnob Try.prog.godebug = none := by kernel_rfl
theorem laidOut : laidOutB Try.prog = true := by kernel_rfl

/-! The walk. -/
set_option maxRecDepth 100000 in
set_option maxHeartbeats 2000000 in
theorem walk (a0 : Option Addr) (len0 cap0 : Nat) (s1 : ByteArray) (w : World) (w0 : TermIn w a0 len0 cap0) (w1 : s1.size ≤ maxLen) :
    Calls Try.prog 4 #[.slice a0 len0 cap0, .string s1] w fun e w' => e = .returned (.bool true) ∧ Below w.heap.size w w' := by
  obtain ⟨t, rfl, hT, ht1, ht2, ht3⟩ := w0
  obtain ⟨l, rfl⟩ : ∃ l : List UInt8, s1 = ⟨l.toArray⟩ := ⟨s1.data.toList, by cases s1; simp⟩
  have hl : l.length ≤ maxLen := by simpa [ByteArray.size] using w1
  have hS := hid (show_any t a0 cap0 w hT)
  have HT := hid (fun W (hW : Below w.heap.size w W) => (hT.below hW).mono hW.size)
  have hRs := hid (fun W => Read_any l W hl)
  clear hT w1
  go_enter Try.func4, Try.ntmps4
  go_wp2_with fail
  refine hS.out.mono ?_
  rintro e u1 ⟨sh, er, hs, rfl, B1⟩
  clear hS
  rcases hs with ⟨rfl, he, x, x1, x2, x3, x4, rfl⟩ | ⟨hne, rfl, rfl⟩
  · obtain ⟨q1, q2⟩ := Tm.read_show x1 x2 x4
    have hsl := Tr.show_len x
    have hRx := hid (Read_any x.show u1 (by unfold maxLen; omega))
    have hlt : t.length ≤ 30 := by rw [← x3]; exact x4
    rw [q1, q2, x3] at hRx
    have hSm := hid (fun W ua va cu cv (hu : Ints W.heap.size W ua t) (hv : Ints W.heap.size W va t) => same_any t t ua va cu cv W hu hv (by unfold maxLen; omega))
    rw [show sameB t t = true by simp [sameB]] at hSm
    clear he x1 x2 x3 x4 q1 q2 hsl
    generalize x.show = sh at *
    go_wp2_with fail
    refine hRx.out.mono ?_
    rintro e u2 ⟨v2, rfl, hN2, b2⟩
    obtain ⟨a2, c2, rfl, i2, _⟩ := New.ints hN2
    have B2 := B1.trans (b2.mono B1.size)
    clear hRx hN2 b2 B1
    go_wp2_with fail
    refine (hSm.out u2 a2 a0 c2 cap0 i2 (HT.out u2 B2)).mono ?_
    rintro e u3 ⟨rfl, b3⟩
    have BX := B2.trans (b3.mono B2.size)
    clear hSm HT b3 B2 i2
    rcases Classical.em (Tm.readErr l = 0) with hre | hre
    · have hSz := hid (fun W a c (hz : Ints W.heap.size W a (Tm.readVal l)) => show_any (Tm.readVal l) a c W hz)
      have hback := hid (fun u er hs => Tm.show_read (l := l) (u := u) (er := er) hre hs)
      rw [hre] at hRs
      generalize Tm.readVal l = rv at *
      clear hre
      go_wp2_with fail
      refine (hRs.out _).mono ?_
      rintro e u5 ⟨v5, rfl, hN5, b5⟩
      obtain ⟨a5, c5, rfl, i5, _⟩ := New.ints hN5
      have B5 := BX.trans (b5.mono BX.size)
      clear hRs hN5 b5 BX
      go_wp2_with fail
      refine (hSz.out u5 a5 c5 i5).mono ?_
      rintro e u6 ⟨sh6, er6, hs6, rfl, b6⟩
      obtain ⟨rfl, rfl⟩ := hback.out _ _ hs6
      have B6 := B5.trans (b6.mono B5.size)
      clear hSz hback hs6 i5 B5 b6
      go_wp2_with fail
      refine (textBegun_any _).mono ?_
      rintro e u7 ⟨rfl, b7⟩
      go_wp2
      go_ret
      exact ⟨rfl, B6.trans (b7.mono B6.size)⟩
    · have hne2 : (Tm.readErr l != 0) = true := by simpa using hre
      clear hre
      generalize Tm.readErr l = rq at *
      generalize Tm.readVal l = rv at *
      go_wp2_with fail
      refine (hRs.out _).mono ?_
      rintro e u5 ⟨v5, rfl, hN5, b5⟩
      obtain ⟨a5, c5, rfl, i5, _⟩ := New.ints hN5
      have B5 := BX.trans (b5.mono BX.size)
      clear hRs hN5 b5 BX
      go_wp2_with fail
      refine (textBegun_any _).mono ?_
      rintro e u7 ⟨rfl, b7⟩
      go_wp2
      go_ret
      exact ⟨rfl, B5.trans (b7.mono B5.size)⟩
  · have hne' : (Tm.err t == 0) = false := by rw [beq_eq_false_iff_ne]; exact hne
    clear hne HT
    generalize Tm.err t = q at *
    have BX := B1
    clear B1
    rcases Classical.em (Tm.readErr l = 0) with hre | hre
    · have hSz := hid (fun W a c (hz : Ints W.heap.size W a (Tm.readVal l)) => show_any (Tm.readVal l) a c W hz)
      have hback := hid (fun u er hs => Tm.show_read (l := l) (u := u) (er := er) hre hs)
      rw [hre] at hRs
      generalize Tm.readVal l = rv at *
      clear hre
      go_wp2_with fail
      refine (hRs.out _).mono ?_
      rintro e u5 ⟨v5, rfl, hN5, b5⟩
      obtain ⟨a5, c5, rfl, i5, _⟩ := New.ints hN5
      have B5 := BX.trans (b5.mono BX.size)
      clear hRs hN5 b5 BX
      go_wp2_with fail
      refine (hSz.out u5 a5 c5 i5).mono ?_
      rintro e u6 ⟨sh6, er6, hs6, rfl, b6⟩
      obtain ⟨rfl, rfl⟩ := hback.out _ _ hs6
      have B6 := B5.trans (b6.mono B5.size)
      clear hSz hback hs6 i5 B5 b6
      go_wp2_with fail
      refine (textBegun_any _).mono ?_
      rintro e u7 ⟨rfl, b7⟩
      go_wp2
      go_ret
      exact ⟨rfl, B6.trans (b7.mono B6.size)⟩
    · have hne2 : (Tm.readErr l != 0) = true := by simpa using hre
      clear hre
      generalize Tm.readErr l = rq at *
      generalize Tm.readVal l = rv at *
      go_wp2_with fail
      refine (hRs.out _).mono ?_
      rintro e u5 ⟨v5, rfl, hN5, b5⟩
      obtain ⟨a5, c5, rfl, i5, _⟩ := New.ints hN5
      have B5 := BX.trans (b5.mono BX.size)
      clear hRs hN5 b5 BX
      go_wp2_with fail
      refine (textBegun_any _).mono ?_
      rintro e u7 ⟨rfl, b7⟩
      go_wp2
      go_ret
      exact ⟨rfl, B5.trans (b7.mono B5.size)⟩

/-! The row. -/
set_option maxRecDepth 100000 in
theorem lifted (os : Os) (started : os.Started) (H : Type) (enc : TypeId × Value → H) :
    ReturnsInHanded {} Try.checked os 4 .any (Rows.textBackSpec.pre6 enc Try.prog Try.f4 Rows.textBackRow.domain false) (Rows.textBackSpec.post enc Try.prog Try.f4 false true false false) := by
  refine returnsInHanded_of_change (C := Try.checked) own started (by kernel_rfl) Try.func4
    (ChangeSpec.witness6 (enc := enc) (C := Try.checked) false ⟨#[], #[.slice none 0 0, .string ⟨#[]⟩], []⟩ 8 (by kernel_rfl) (by kernel_rfl) (by kernel_rfl) (by kernel_rfl)) ?_
  intro W base args ds gs before hval0 hW hcnd _
  have hval : ∀ (j : Nat) t v, Try.f4.params[j]? = some t → args[j]? = some v → Value.okWide Try.prog W .any base t v := hval0
  have hW' := hW
  obtain ⟨p, q, hA0, hV, rfl, hfz, hnd⟩ := hW
  have hA : DataW.TrodAll enc Try.prog W 0 (fun _ => true) true Try.f4.params.toList args.toList ds p := hA0
  rw [Try.params4] at hA hval
  obtain ⟨v0, vs0, d0, ds0, p0, q0, hargs, rfl, rfl, h0, r0⟩ := trodAll_cons hA
  obtain ⟨v1, vs1, d1, ds1, p1, q1, rfl, rfl, rfl, h1, r1⟩ := trodAll_cons r0
  obtain ⟨rfl, rfl, rfl⟩ := trodAll_nil r1
  obtain rfl : args = #[v0, v1] := by cases args; simp_all
  obtain ⟨rfl, rfl⟩ := trodVars_none hV
  obtain ⟨a0, len0, cap0, rfl⟩ := okWide_slice Try.underlying23 (hval 0 23 v0 rfl rfl)
  have k0 := h0
  have lt0 : ∀ x ∈ p0, x.block < W.heap.size := by obtain ⟨m, hm⟩ := k0; exact DataW.trod_lt m _ _ _ hm
  have w0 : TermIn W a0 len0 cap0 := by
    obtain ⟨fuel, hf⟩ := h0
    rcases open_ints Try.underlying23 Try.underlying3 (by kernel_rfl) hf with ⟨hcs, _⟩ | ⟨x, l, c, zs, hcs, _, hl, hm, hz, _, hcell, hwz⟩
    · simp [Value.cells] at hcs
      obtain ⟨rfl, rfl, rfl⟩ := hcs
      exact ints_of_row (.inl ⟨rfl, rfl, rfl, rfl⟩)
    · simp [Value.cells] at hcs
      obtain ⟨rfl, rfl, rfl⟩ := hcs
      exact ints_of_row (.inr ⟨_, rfl, hl, hm, by simpa using hz, hcell, hwz⟩)
  obtain ⟨s1, rfl, rfl, rfl, w1⟩ := Go.ChangeMaps.open_string Try.underlying9 (hval 1 9 v1 rfl rfl) h1
  clear hA0 hval0
  refine (walk a0 len0 cap0 s1 W w0 w1).mono fun e W' ⟨he, bel⟩ => ?_
  subst he
  exact ⟨_, rfl, _, _, _, [], _, [], hW', trodAll_mk1 (shut_bool Try.underlying4 _), (trodAll_cons_mk (Below.trod laidOut (by kernel_rfl) (of_decide_eq_true (by kernel_rfl)) k0 bel lt0) (trodAll_cons_mk (Go.ChangeMaps.shut_string Try.underlying9 w1) trodAll_mk0)), rfl, bel.frame _, fun h => by cases h⟩

theorem over : Rows.textBackRow.holds Try.pinned (OpenSpec.ofChange Rows.textBackSpec) :=
  OpenClaim.holds_of_wide 4 Try.f4 rfl rfl rfl rfl rfl rfl rfl ⟨rfl, rfl, rfl, rfl, rfl⟩ rfl rfl rfl rfl rfl (by kernel_rfl) Try.func4 (by kernel_rfl)
    (of_decide_eq_true (by kernel_rfl)) (by unfold Func.isWrapper; first | (rw [if_pos (by decide +kernel)]; kernel_rfl) | (rw [if_neg (by decide +kernel)]; exact ⟨rfl, rfl⟩))
    (fun os started H enc _ => lifted os started H enc)

/-- The statement. -/
theorem proved : Rows.TextBackSaid := over
#print axioms proved
end Go.Proofs.Ytcgljcbpcchcjaa.textBack
