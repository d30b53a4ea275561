/-
  Whatever two lists of signs and list of terms UnifyMost is handed, it answers true and changes nothing that it was handed: whatever makes both the same is made of what unify.Meet answers, and if anything does, something comes (unless it is too large). No condition.
-/
import Derived.Test.YtbelnlemjcoifaaRows
import Derived.WalkKit
import Derived.ProofKit
import Derived.OpenShut
import Derived.ChangeOld
import Derived.Below
import Derived.Deep.Matrix
import Derived.Test.YtbelnlemjcoifaaBum2
import Derived.Test.YtbelnlemjcoifaaBum4
import Derived.Test.YtbelnlemjcoifaaBum9
namespace Go.Proofs.Ytbelnlemjcoifaa.unifyMost
open Go.ChangeShapes Go.WideShapes Go.ChangeAt Go.RowKit Go.Deep Go.Shelf Go.Maps
set_option linter.unusedVariables false

theorem own : ownKnob Try.prog.godebug = none := by kernel_rfl
theorem laidOut : laidOutB Try.prog = true := by kernel_rfl

/-! The walk. -/
set_option maxRecDepth 100000 in
set_option maxHeartbeats 2000000 in
theorem walk (a0 : Option Addr) (len0 cap0 : Nat) (a1 : Option Addr) (len1 cap1 : Nat) (a2 : Option Addr) (len2 cap2 : Nat) (w : World) (w0 : TermIn w a0 len0 cap0) (w1 : TermIn w a1 len1 cap1) (w2 : SubsIn w a2 len2 cap2) :
    Calls Try.prog 13 #[.slice a0 len0 cap0, .slice a1 len1 cap1, .slice a2 len2 cap2] w fun e w' => e = .returned (.bool true) ∧ Below w.heap.size w w' := by
  obtain ⟨a, rfl, hA, ha1, ha2, ha3⟩ := w0
  obtain ⟨b, rfl, hB, hb1, hb2, hb3⟩ := w1
  obtain ⟨us, rfl, hU, hu1, hu2⟩ := w2
  have hX := hid (apply_any us a a2 a0 cap2 cap0 w hU hA)
  have hY := hid (fun W (hW : Below w.heap.size w W) => apply_any us b a2 a1 cap2 cap1 W ((hU.below hW).mono hW.size) ((hB.below hW).mono hW.size))
  by_cases hx : Tm.applyErr us a = 0
  · obtain ⟨hse, hea, hla, hva⟩ := Tm.apply_zero hx
    rw [hx, hva] at hX
    by_cases hy : Tm.applyErr us b = 0
    · obtain ⟨_, heb, hlb, hvb⟩ := Tm.apply_zero hy
      rw [hy, hvb] at hY
      have hM := hid (fun W (hW : Below w.heap.size w W) => Meet_any a b a0 a1 cap0 cap1 W ((hA.below hW).mono hW.size) ((hB.below hW).mono hW.size) ha1 ha2 hb1 hb2)
      by_cases hs : Tm.applied us a = Tm.applied us b
      · have hmost := hid (fun er is val => Tm.meet_most (er := er) (is := is) (val := val) hse hea heb hs)
        have HU := hid hU
        rw [← hs] at hY
        have hl8 := hid (Tm.subErr_ok hse).1
        clear hA hB hU hx hy hse hea heb hva hvb hlb hs
        generalize Tm.applied us a = xs at *
        go_enter Try.func13, Try.ntmps13
        go_wp2_with fail
        refine hX.out.mono ?_
        rintro e w1 ⟨v1, rfl, hN1, hB1⟩
        obtain ⟨x1, c1, rfl, hI1, _⟩ := New.ints hN1
        clear hX hN1
        go_wp2_with fail
        refine (hY.out _ hB1).mono ?_
        rintro e w2 ⟨v2, rfl, hN2, hB2⟩
        obtain ⟨x2, c2, rfl, hI2, _⟩ := New.ints hN2
        clear hY hN2
        have hSm := same_any xs xs x1 x2 c1 c2 w2 ((hI1.below hB2).mono hB2.size) hI2 (by unfold maxLen; omega)
        rw [show sameB xs xs = true by simp [sameB]] at hSm
        have HB2 := hB1.trans (hB2.mono hB1.size)
        clear hI1 hI2 hB1 hB2
        go_wp2_with fail
        refine hSm.mono ?_
        rintro e w3 ⟨rfl, hB3⟩
        have HB3 := HB2.trans (hB3.mono HB2.size)
        clear hSm HB2 hB3
        go_wp2_with fail
        refine (hM.out _ HB3).mono ?_
        rintro e w4 ⟨hB4, er, is, val, x4, hSays, rfl, hS4⟩
        have HB4 := HB3.trans (hB4.mono HB3.size)
        have hm4 := hid (hmost.out _ _ _ hSays)
        clear hM HB3 hB4 hSays hmost
        rcases hm4.out with ⟨rfl, rfl, rfl⟩ | ⟨rfl, rfl, h8, hor⟩
        · clear hm4 hS4
          go_wp2_with fail
          refine (unifyBegun_any _).mono ?_
          rintro e w5 ⟨rfl, hB5⟩
          go_wp2
          go_ret
          exact ⟨rfl, HB4.trans (hB5.mono HB4.size)⟩
        · have hAf := after_any val us x4 a2 val.length cap2 w4 hS4 ((HU.out.below HB4).mono HB4.size)
          clear hm4 hS4 h8
          rcases hor with ⟨e1, e2⟩ | ⟨e1, e2⟩
          · rw [e1, e2] at hAf
            clear e1 e2
            go_wp2_with fail
            refine hAf.mono ?_
            rintro e w5 ⟨v5, rfl, hN5, hB5⟩
            obtain ⟨x5, c5, rfl, _⟩ := NewS.subs hN5
            have HB5 := HB4.trans (hB5.mono HB4.size)
            clear hAf hN5 HB4 hB5
            go_wp2_with fail
            refine (unifyBegun_any _).mono ?_
            rintro e w6 ⟨rfl, hB6⟩
            go_wp2
            go_ret
            exact ⟨rfl, HB5.trans (hB6.mono HB5.size)⟩
          · rw [e1, e2] at hAf
            clear e1 e2
            go_wp2_with fail
            refine hAf.mono ?_
            rintro e w5 ⟨v5, rfl, hN5, hB5⟩
            obtain ⟨x5, c5, rfl, hS5, _⟩ := NewS.subs hN5
            have HB5 := HB4.trans (hB5.mono HB4.size)
            clear hAf hN5 HB4 hB5
            go_wp2_with fail
            refine (unifyBegun_any _).mono ?_
            rintro e w6 ⟨rfl, hB6⟩
            have HB6 := HB5.trans (hB6.mono HB5.size)
            have hSS := sameSubs_any us us x5 a2 c5 cap2 w6 ((hS5.below hB6).mono hB6.size) ((HU.out.below HB6).mono HB6.size) (by rw [hl8.out]; omega)
            rw [show sameSB us us = true by simp [sameSB]] at hSS
            clear hS5 hB6 HB5
            go_wp2_with fail
            refine hSS.mono ?_
            rintro e w7 ⟨rfl, hB7⟩
            go_wp2
            go_ret
            exact ⟨rfl, HB6.trans (hB7.mono HB6.size)⟩
      · have hsb : sameB (Tm.applied us a) (Tm.applied us b) = false := by simpa [sameB] using hs
        clear hA hB hU hx hy hse hea heb hva hvb hlb hs hM
        generalize Tm.applied us a = xs at *
        generalize Tm.applied us b = ys at *
        go_enter Try.func13, Try.ntmps13
        go_wp2_with fail
        refine hX.out.mono ?_
        rintro e w1 ⟨v1, rfl, hN1, hB1⟩
        obtain ⟨x1, c1, rfl, hI1, _⟩ := New.ints hN1
        clear hX hN1
        go_wp2_with fail
        refine (hY.out _ hB1).mono ?_
        rintro e w2 ⟨v2, rfl, hN2, hB2⟩
        obtain ⟨x2, c2, rfl, hI2, _⟩ := New.ints hN2
        clear hY hN2
        have hSm := same_any xs ys x1 x2 c1 c2 w2 ((hI1.below hB2).mono hB2.size) hI2 (by unfold maxLen; omega)
        rw [hsb] at hSm
        have HB2 := hB1.trans (hB2.mono hB1.size)
        clear hI1 hI2 hB1 hB2 hsb
        go_wp2_with fail
        refine hSm.mono ?_
        rintro e w3 ⟨rfl, hB3⟩
        have HB3 := HB2.trans (hB3.mono HB2.size)
        clear hSm HB2 hB3
        go_wp2_with fail
        refine (unifyBegun_any _).mono ?_
        rintro e w5 ⟨rfl, hB5⟩
        go_wp2
        go_ret
        exact ⟨rfl, HB3.trans (hB5.mono HB3.size)⟩
    · have hn : (Tm.applyErr us b != 0) = true := by simpa using hy
      clear hA hB hU hx hy hse hea hva
      generalize Tm.applied us a = xs at *
      generalize Tm.applyErr us b = q at *
      generalize Tm.applyVal us b = ys at *
      go_enter Try.func13, Try.ntmps13
      go_wp2_with fail
      refine hX.out.mono ?_
      rintro e w1 ⟨v1, rfl, hN1, hB1⟩
      obtain ⟨x1, c1, rfl, _⟩ := New.ints hN1
      clear hX hN1
      go_wp2_with fail
      refine (hY.out _ hB1).mono ?_
      rintro e w2 ⟨v2, rfl, hN2, hB2⟩
      obtain ⟨x2, c2, rfl, _⟩ := New.ints hN2
      have HB2 := hB1.trans (hB2.mono hB1.size)
      clear hY hN2 hB1 hB2
      go_wp2_with fail
      refine (unifyBegun_any _).mono ?_
      rintro e w5 ⟨rfl, hB5⟩
      go_wp2
      go_ret
      exact ⟨rfl, HB2.trans (hB5.mono HB2.size)⟩
  · have hn : (Tm.applyErr us a != 0) = true := by simpa using hx
    clear hA hB hU hx
    generalize Tm.applyErr us a = q at *
    generalize Tm.applyVal us a = xs at *
    generalize Tm.applyErr us b = r at *
    generalize Tm.applyVal us b = ys at *
    go_enter Try.func13, Try.ntmps13
    go_wp2_with fail
    refine hX.out.mono ?_
    rintro e w1 ⟨v1, rfl, hN1, hB1⟩
    obtain ⟨x1, c1, rfl, _⟩ := New.ints hN1
    clear hX hN1
    go_wp2_with fail
    refine (hY.out _ hB1).mono ?_
    rintro e w2 ⟨v2, rfl, hN2, hB2⟩
    obtain ⟨x2, c2, rfl, _⟩ := New.ints hN2
    have HB2 := hB1.trans (hB2.mono hB1.size)
    clear hY hN2 hB1 hB2
    go_wp2_with fail
    refine (unifyBegun_any _).mono ?_
    rintro e w5 ⟨rfl, hB5⟩
    go_wp2
    go_ret
    exact ⟨rfl, HB2.trans (hB5.mono HB2.size)⟩

/-! The row. -/
set_option maxRecDepth 100000 in
theorem lifted (os : Os) (started : os.Started) (H : Type) (enc : TypeId × Value → H) :
    ReturnsInHanded {} Try.checked os 13 .any (Rows.unifyMostSpec.pre6 enc Try.prog Try.f13 Rows.unifyMostRow.domain false) (Rows.unifyMostSpec.post enc Try.prog Try.f13 false true false false) := by
  refine returnsInHanded_of_change (C := Try.checked) own started (by kernel_rfl) Try.func13
    (ChangeSpec.witness6 (enc := enc) (C := Try.checked) false ⟨#[], #[.slice none 0 0, .slice none 0 0, .slice none 0 0], []⟩ 8 (by kernel_rfl) (by kernel_rfl) (by kernel_rfl) (by kernel_rfl)) ?_
  intro W base args ds gs before hval0 hW hcnd _
  have hval : ∀ (j : Nat) t v, Try.f13.params[j]? = some t → args[j]? = some v → Value.okWide Try.prog W .any base t v := hval0
  have hW' := hW
  obtain ⟨p, q, hA0, hV, rfl, hfz, hnd⟩ := hW
  have hA : DataW.TrodAll enc Try.prog W 0 (fun _ => true) true Try.f13.params.toList args.toList ds p := hA0
  rw [Try.params13] at hA hval
  obtain ⟨v0, vs0, d0, ds0, p0, q0, hargs, rfl, rfl, h0, r0⟩ := trodAll_cons hA
  obtain ⟨v1, vs1, d1, ds1, p1, q1, rfl, rfl, rfl, h1, r1⟩ := trodAll_cons r0
  obtain ⟨v2, vs2, d2, ds2, p2, q2, rfl, rfl, rfl, h2, r2⟩ := trodAll_cons r1
  obtain ⟨rfl, rfl, rfl⟩ := trodAll_nil r2
  obtain rfl : args = #[v0, v1, v2] := by cases args; simp_all
  obtain ⟨rfl, rfl⟩ := trodVars_none hV
  obtain ⟨a0, len0, cap0, rfl⟩ := okWide_slice Try.underlying23 (hval 0 23 v0 rfl rfl)
  have k0 := h0
  have lt0 : ∀ x ∈ p0, x.block < W.heap.size := by obtain ⟨m, hm⟩ := k0; exact DataW.trod_lt m _ _ _ hm
  have w0 : TermIn W a0 len0 cap0 := by
    obtain ⟨fuel, hf⟩ := h0
    rcases open_ints Try.underlying23 Try.underlying3 (by kernel_rfl) hf with ⟨hcs, _⟩ | ⟨x, l, c, zs, hcs, _, hl, hm, hz, _, hcell, hwz⟩
    · simp [Value.cells] at hcs
      obtain ⟨rfl, rfl, rfl⟩ := hcs
      exact ints_of_row (.inl ⟨rfl, rfl, rfl, rfl⟩)
    · simp [Value.cells] at hcs
      obtain ⟨rfl, rfl, rfl⟩ := hcs
      exact ints_of_row (.inr ⟨_, rfl, hl, hm, by simpa using hz, hcell, hwz⟩)
  obtain ⟨a1, len1, cap1, rfl⟩ := okWide_slice Try.underlying23 (hval 1 23 v1 rfl rfl)
  have k1 := h1
  have lt1 : ∀ x ∈ p1, x.block < W.heap.size := by obtain ⟨m, hm⟩ := k1; exact DataW.trod_lt m _ _ _ hm
  have w1 : TermIn W a1 len1 cap1 := by
    obtain ⟨fuel, hf⟩ := h1
    rcases open_ints Try.underlying23 Try.underlying3 (by kernel_rfl) hf with ⟨hcs, _⟩ | ⟨x, l, c, zs, hcs, _, hl, hm, hz, _, hcell, hwz⟩
    · simp [Value.cells] at hcs
      obtain ⟨rfl, rfl, rfl⟩ := hcs
      exact ints_of_row (.inl ⟨rfl, rfl, rfl, rfl⟩)
    · simp [Value.cells] at hcs
      obtain ⟨rfl, rfl, rfl⟩ := hcs
      exact ints_of_row (.inr ⟨_, rfl, hl, hm, by simpa using hz, hcell, hwz⟩)
  obtain ⟨a2, len2, cap2, rfl⟩ := okWide_slice Try.underlying36 (hval 2 36 v2 rfl rfl)
  have k2 := h2
  have lt2 : ∀ x ∈ p2, x.block < W.heap.size := by obtain ⟨m, hm⟩ := k2; exact DataW.trod_lt m _ _ _ hm
  have w2 : SubsIn W a2 len2 cap2 := by
    obtain ⟨fuel, hf⟩ := h2
    rcases open_int_rows Try.underlying36 Try.underlying23 Try.underlying3 (by kernel_rfl) (by kernel_rfl) hf with ⟨hcs, _⟩ | ⟨x, l, c, A, L, C, Z, hcs, _, hl, hm, _, hrow⟩
    · simp [Value.cells] at hcs
      obtain ⟨rfl, rfl, rfl⟩ := hcs
      exact subsIn_nil _
    · simp [Value.cells] at hcs
      obtain ⟨rfl, rfl, rfl⟩ := hcs
      exact subsIn_rows hl hm hrow
  clear hA0 hval0
  refine (walk a0 len0 cap0 a1 len1 cap1 a2 len2 cap2 W w0 w1 w2).mono fun e W' ⟨he, bel⟩ => ?_
  subst he
  exact ⟨_, rfl, _, _, _, [], _, [], hW', trodAll_mk1 (shut_bool Try.underlying4 _), (trodAll_cons_mk (Below.trod laidOut (by kernel_rfl) (of_decide_eq_true (by kernel_rfl)) k0 bel lt0) (trodAll_cons_mk (Below.trod laidOut (by kernel_rfl) (of_decide_eq_true (by kernel_rfl)) k1 bel lt1) (trodAll_cons_mk (Below.trod laidOut (by kernel_rfl) (of_decide_eq_true (by kernel_rfl)) k2 bel lt2) trodAll_mk0))), rfl, bel.frame _, fun h => by cases h⟩

theorem over : Rows.unifyMostRow.holds Try.pinned (OpenSpec.ofChange Rows.unifyMostSpec) :=
  OpenClaim.holds_of_wide 13 Try.f13 rfl rfl rfl rfl rfl rfl rfl ⟨rfl, rfl, rfl, rfl, rfl⟩ rfl rfl rfl rfl rfl (by kernel_rfl) Try.func13 (by kernel_rfl)
    (of_decide_eq_true (by kernel_rfl)) (by unfold Func.isWrapper; first | (rw [if_pos (by decide +kernel)]; kernel_rfl) | (rw [if_neg (by decide +kernel)]; exact ⟨rfl, rfl⟩))
    (fun os started H enc _ => lifted os started H enc)

/-- The statement. -/
theorem proved : Rows.UnifyMostSaid := over
#print axioms proved
end Go.Proofs.Ytbelnlemjcoifaa.unifyMost
