/-
  Who is above stays above, whatever variables become, and wherever both stand; of two terms without variables that differ one is above. Whatever comes in. No conditions.
-/
import Derived.Test.YtloealnfbpegnacRows
import Derived.WalkKit
import Derived.ProofKit
import Derived.OpenShut
import Derived.ChangeOld
import Derived.Below
import Derived.Deep.Matrix
import Derived.Test.YtloealnfbpegnacBun11
namespace Go.Proofs.Ytloealnfbpegnac.orderKeeps
open Go.ChangeShapes Go.WideShapes Go.ChangeAt Go.RowKit Go.Deep Go.Shelf Go.Maps
set_option linter.unusedVariables false

theorem own : ownKnob Try.prog.godebug = none := by kernel_rfl
theorem laidOut : laidOutB Try.prog = true := by kernel_rfl

/-! The walk. -/
set_option maxRecDepth 100000 in
set_option maxHeartbeats 2000000 in
theorem walk (a0 : Option Addr) (len0 cap0 : Nat) (a1 : Option Addr) (len1 cap1 : Nat) (a2 : Option Addr) (len2 cap2 : Nat) (a3 : Option Addr) (len3 cap3 : Nat) (a4 : Option Addr) (len4 cap4 : Nat) (a5 : Int) (w : World) (w0 : TermIn w a0 len0 cap0) (w1 : TermIn w a1 len1 cap1) (w2 : TermIn w a2 len2 cap2) (w3 : SubsIn w a3 len3 cap3) (w4 : TermIn w a4 len4 cap4) (w5 : (Lit.int .i64 a5).wf = true) :
    Calls Try.prog 6 #[.slice a0 len0 cap0, .slice a1 len1 cap1, .slice a2 len2 cap2, .slice a3 len3 cap3, .slice a4 len4 cap4, .int .i64 a5] w fun e w' => e = .returned (.bool true) ∧ Below w.heap.size w w' := by
  obtain ⟨r, rfl, hR, hr1, hr2, hr3⟩ := w0
  obtain ⟨x, rfl, hX, hx1, hx2, hx3⟩ := w1
  obtain ⟨y, rfl, hY, hy1, hy2, hy3⟩ := w2
  obtain ⟨ss, rfl, hS, hs1, hs2⟩ := w3
  obtain ⟨t, rfl, hT, ht1, ht2, ht3⟩ := w4
  have hAB := hid (fun W (hW : Below w.heap.size w W) => orderAbove_any r x y a0 a1 a2 cap0 cap1 cap2 W ((hR.below hW).mono hW.size) ((hX.below hW).mono hW.size) ((hY.below hW).mono hW.size) hx1 hx2 hy1 hy2)
  have hBA := hid (fun W (hW : Below w.heap.size w W) => orderAbove_any r y x a0 a2 a1 cap0 cap2 cap1 W ((hR.below hW).mono hW.size) ((hY.below hW).mono hW.size) ((hX.below hW).mono hW.size) hy1 hy2 hx1 hx2)
  by_cases e1 : Tm.aboveErr r x y = 0
  · obtain ⟨k1, k2, k3⟩ := Tm.aboveErr_ok e1
    have e2 : Tm.aboveErr r y x = 0 := Tm.aboveErr_of k1 k3 k2
    have hl1 := Tm.err_len k2
    have hl2 := Tm.err_len k3
    have hl1' : (x.length : Int) ≤ 30 := by omega
    have hl2' : (y.length : Int) ≤ 30 := by omega
    have HX := hid hX
    have HY := hid hY
    have HR := hid hR
    have HTt := hid hT
    have hSm := hid (fun W (hW : Below w.heap.size w W) => same_any x y a1 a2 cap1 cap2 W ((hX.below hW).mono hW.size) ((hY.below hW).mono hW.size) (by unfold maxLen; omega))
    have hTot := hid (keeps_total e1)
    have hApp := hid (fun hq => @keeps_apply r x y ss e1 hq)
    have hPut := hid (fun hq => @keeps_put r x y t (chN a5 t.length) e1 hq)
    have hAx := hid (fun W (hW : Below w.heap.size w W) => apply_any ss x a3 a1 cap3 cap1 W ((hS.below hW).mono hW.size) ((hX.below hW).mono hW.size))
    have hAy := hid (fun W (hW : Below w.heap.size w W) => apply_any ss y a3 a2 cap3 cap2 W ((hS.below hW).mono hW.size) ((hY.below hW).mono hW.size))
    have hCt := hid (fun W (hW : Below w.heap.size w W) => check_any t a4 cap4 W ((hT.below hW).mono hW.size))
    have hPx := hid (fun W (hW : Below w.heap.size w W) => termPut_any t x a4 a1 cap4 cap1 (chN a5 t.length : Int) W ((hT.below hW).mono hW.size) ((hX.below hW).mono hW.size) ht1 ht2)
    have hPy := hid (fun W (hW : Below w.heap.size w W) => termPut_any t y a4 a2 cap4 cap2 (chN a5 t.length : Int) W ((hT.below hW).mono hW.size) ((hY.below hW).mono hW.size) ht1 ht2)
    rw [e1] at hAB
    rw [e2] at hBA
    clear e1 e2 k1 k2 k3 hX hY hR hT hS
    generalize Tm.aboveVal r x y = q1 at *
    generalize Tm.aboveVal r y x = q2 at *
    go_enter Try.func6, Try.ntmps6
    go_wp2_with fail
    refine (hAB.out w (Below.refl _ _)).mono ?_
    rintro e u1 ⟨rfl, B1⟩
    go_wp2_with fail
    refine (hBA.out u1 B1).mono ?_
    rintro e u2 ⟨rfl, b2⟩
    have B2 := B1.trans (b2.mono B1.size)
    clear hAB hBA B1 b2
    go_wp2_with fail
    go_loop [17, 18] (fun f i => ∃ k : Nat, k ≤ x.length ∧ i = .int .i64 (k : Int) ∧ f = .bool (Tm.freeB (x.take k))) (fun _ i => x.length - (intOf i).toNat)
    case atStart => exact ⟨0, Nat.zero_le _, rfl, by simp [Tm.freeB]⟩
    case round =>
      obtain ⟨k, hk, rfl, rfl⟩ := hrel
      by_cases hlt : k < x.length
      · have hlt' : (k : Int) < (x.length : Int) := by omega
        obtain ⟨b, off, rfl, hb, hc⟩ := ((HX.out.below B2).mono B2.size).at (by omega)
        have hck := hc k hlt
        have hsn := hid (free_snoc hlt)
        clear hc
        generalize x[k]?.getD 0 = s at *
        cases hfb : Tm.freeB (x.take k) with
        | false =>
          rw [hfb] at hsn
          clear hfb
          go_wp2
          go_round
          case rel => exact ⟨k + 1, by omega, by go_num, by rw [hsn.out]; rfl⟩
          case measure => simp [intOf]; omega
        | true =>
          rw [hfb] at hsn
          clear hfb
          by_cases h0 : 0 ≤ s
          · have h0b : decide (0 ≤ s) = true := by simpa using h0
            rw [h0b] at hsn
            go_wp2
            go_round
            case rel => exact ⟨k + 1, by omega, by go_num, by rw [hsn.out]; rfl⟩
            case measure => simp [intOf]; omega
          · have h0b : decide (0 ≤ s) = false := by simpa using h0
            rw [h0b] at hsn
            go_wp2
            go_round
            case rel => exact ⟨k + 1, by omega, by go_num, by rw [hsn.out]; rfl⟩
            case measure => simp [intOf]; omega
      · obtain rfl : k = x.length := by omega
        rw [List.take_length]
        generalize Tm.freeB x = fx at *
        go_wp2_with fail
        go_loop [17, 19] (fun f i => ∃ k : Nat, k ≤ y.length ∧ i = .int .i64 (k : Int) ∧ f = .bool (fx && Tm.freeB (y.take k))) (fun _ i => y.length - (intOf i).toNat)
        case atStart => exact ⟨0, Nat.zero_le _, rfl, by simp [Tm.freeB]⟩
        case round =>
          obtain ⟨k, hk, rfl, rfl⟩ := hrel
          by_cases hlt : k < y.length
          · have hlt' : (k : Int) < (y.length : Int) := by omega
            obtain ⟨b, off, rfl, hb, hc⟩ := ((HY.out.below B2).mono B2.size).at (by omega)
            have hck := hc k hlt
            have hsn := hid (free_snoc hlt)
            clear hc
            generalize y[k]?.getD 0 = s at *
            cases hfb : (fx && Tm.freeB (y.take k)) with
            | false =>
              have hsn2 : Hid ((fx && Tm.freeB (y.take (k + 1))) = false) := by show _ = _; rw [hsn.out, ← Bool.and_assoc, hfb]; rfl
              clear hfb hsn
              go_wp2
              go_round
              case rel => exact ⟨k + 1, by omega, by go_num, by rw [hsn2.out]⟩
              case measure => simp [intOf]; omega
            | true =>
              have hsn2 : Hid ((fx && Tm.freeB (y.take (k + 1))) = decide (0 ≤ s)) := by show _ = _; rw [hsn.out, ← Bool.and_assoc, hfb]; rfl
              clear hfb hsn
              go_wp2
              go_round
              case rel => exact ⟨k + 1, by omega, by go_num, by rw [hsn2.out]⟩
              case measure => simp [intOf]; omega
          · obtain rfl : k = y.length := by omega
            rw [List.take_length]
            generalize Tm.freeB y = fy at *
            go_upto_region 14 with fail
            go_cut [95] (fun s wx => s = .bool false ∧ Below w.heap.size w wx)
            case first =>
              cases fx with
              | false =>
                go_wp2_with fail
                go_meet
                exact ⟨rfl, B2⟩
              | true =>
                cases fy with
                | false =>
                  go_wp2_with fail
                  go_meet
                  exact ⟨rfl, B2⟩
                | true =>
                  cases hsb : sameB x y with
                  | true =>
                    rw [hsb] at hSm
                    clear hsb hTot
                    go_wp2_with (first
                      | (go_at_call 10; refine (hSm.out _ B2).mono ?_; clear hSm; rintro e u3 ⟨rfl, b3⟩))
                    go_meet
                    exact ⟨rfl, B2.trans (b3.mono B2.size)⟩
                  | false =>
                    have hto := hid (hTot.out rfl rfl hsb)
                    rw [hsb] at hSm
                    clear hsb hTot
                    cases q1 with
                    | true =>
                      go_wp2_with (first
                        | (go_at_call 10; refine (hSm.out _ B2).mono ?_; clear hSm; rintro e u3 ⟨rfl, b3⟩))
                      go_meet
                      exact ⟨rfl, B2.trans (b3.mono B2.size)⟩
                    | false =>
                      have hq2 : q2 = true := hto.out rfl
                      subst hq2
                      go_wp2_with (first
                        | (go_at_call 10; refine (hSm.out _ B2).mono ?_; clear hSm; rintro e u3 ⟨rfl, b3⟩))
                      go_meet
                      exact ⟨rfl, B2.trans (b3.mono B2.size)⟩
            case rest =>
              obtain ⟨rfl, B3⟩ := hcut
              clear hTot hSm B2
              go_wp2_with fail
              refine (hAx.out wc B3).mono ?_
              rintro e u4 ⟨v4, rfl, hN4, b4⟩
              obtain ⟨p4, c4, rfl, hI4, hc4, hc4'⟩ := New.ints hN4
              have B4 := B3.trans (b4.mono B3.size)
              go_wp2_with fail
              refine (hAy.out u4 B4).mono ?_
              rintro e u5 ⟨v5, rfl, hN5, b5⟩
              obtain ⟨p5, c5, rfl, hI5, hc5, hc5'⟩ := New.ints hN5
              have B5 := B4.trans (b5.mono B4.size)
              have hI4' := (hI4.below b5).mono b5.size
              clear hAx hAy B3 B4 b4 b5 hN4 hN5 hI4
              have hAp := hid (fun hq hx hy => (hApp.out hq hx hy))
              have hC5 := hid (orderAbove_any r (Tm.applyVal ss x) (Tm.applyVal ss y) a0 p4 p5 cap0 c4 c5 u5 ((HR.out.below B5).mono B5.size) hI4' hI5 hc4 hc4' hc5 hc5')
              clear hApp hI4' hI5
              go_upto_region 18 with fail
              go_cut [116] (fun s wx => (∃ c, s = .bool c ∧ (c = true → q1 = true ∧ Tm.applyErr ss x = 0 ∧ Tm.applyErr ss y = 0)) ∧ wx = u5)
              case first =>
                cases q1 with
                | false =>
                  go_wp2_with fail
                  go_meet
                  exact ⟨⟨false, rfl, fun h => by cases h⟩, rfl⟩
                | true =>
                  by_cases hx0 : Tm.applyErr ss x = 0
                  · by_cases hy0 : Tm.applyErr ss y = 0
                    · have bx : (Tm.applyErr ss x == 0) = true := by simpa using hx0
                      have by' : (Tm.applyErr ss y == 0) = true := by simpa using hy0
                      have Hx0 := hid hx0
                      have Hy0 := hid hy0
                      clear hx0 hy0
                      go_wp2_with fail
                      go_meet
                      exact ⟨⟨true, rfl, fun _ => ⟨trivial, Hx0.out, Hy0.out⟩⟩, rfl⟩
                    · have bx : (Tm.applyErr ss x == 0) = true := by simpa using hx0
                      have by' : (Tm.applyErr ss y == 0) = false := by simpa using hy0
                      clear hx0 hy0
                      go_wp2_with fail
                      go_meet
                      exact ⟨⟨false, rfl, fun h => by cases h⟩, rfl⟩
                  · have bx : (Tm.applyErr ss x == 0) = false := by simpa using hx0
                    clear hx0
                    go_wp2_with fail
                    go_meet
                    exact ⟨⟨false, rfl, fun h => by cases h⟩, rfl⟩
              case rest =>
                obtain ⟨⟨c, rfl, hc⟩, rfl⟩ := hcut
                have Hc := hid hc
                clear hc
                go_upto_if 116 with fail
                go_cut [] (fun wx => Below w.heap.size w wx)
                case first =>
                  cases c with
                  | false =>
                    go_wp2_with fail
                    go_meet
                    exact B5
                  | true =>
                    obtain ⟨hq, hx0, hy0⟩ := Hc.out rfl
                    obtain ⟨g1, g2⟩ := hAp.out hq hx0 hy0
                    rw [g1, g2] at hC5
                    clear g1 g2 hq hx0 hy0
                    go_wp2_with (first
                      | (go_at_call 15; refine hC5.out.mono ?_; clear hC5; rintro e u6 ⟨rfl, b6⟩))
                    go_meet
                    exact B5.trans (b6.mono B5.size)
                case rest =>
                  have B6 := hcut
                  clear hcut hC5 hAp Hc B5
                  by_cases het : Tm.err t = 0
                  · have hpt := Tm.err_pos het
                    have hlt := Tm.err_len het
                    have hz : ((t.length : Int) == 0) = false := beq_eq_false_iff_ne.2 (by omega)
                    have hch := chN_lt a5 hpt
                    have hPt := hid (fun hq => hPut.out hq het hch)
                    rw [het] at hCt
                    clear het hPut
                    go_wp2_with fail
                    refine (hCt.out _ B6).mono ?_
                    rintro e u7 ⟨rfl, b7⟩
                    have B7 := B6.trans (b7.mono B6.size)
                    go_wp2_with fail
                    refine (choose_is a5 t.length w5 hpt (by omega) _).mono ?_
                    rintro e u7 ⟨rfl, rfl⟩
                    go_wp2_with fail
                    refine (hPx.out _ B7).mono ?_
                    rintro e u8 ⟨v8, rfl, hN8, b8⟩
                    obtain ⟨p8, c8, rfl, hI8, hc8, hc8'⟩ := New.ints hN8
                    have B8 := B7.trans (b8.mono B7.size)
                    go_wp2_with fail
                    refine (choose_is a5 t.length w5 hpt (by omega) _).mono ?_
                    rintro e u8 ⟨rfl, rfl⟩
                    go_wp2_with fail
                    refine (hPy.out _ B8).mono ?_
                    rintro e u9 ⟨v9, rfl, hN9, b9⟩
                    obtain ⟨p9, c9, rfl, hI9, hc9, hc9'⟩ := New.ints hN9
                    have B9 := B8.trans (b9.mono B8.size)
                    have hI8' := (hI8.below b9).mono b9.size
                    have hC9 := hid (orderAbove_any r (Tm.putVal t (chN a5 t.length : Int) x) (Tm.putVal t (chN a5 t.length : Int) y) a0 p8 p9 cap0 c8 c9 u9 ((HR.out.below B9).mono B9.size) hI8' hI9 hc8 hc8' hc9 hc9')
                    clear hCt hPx hPy B6 B7 B8 b7 b8 b9 hI8 hI9 hI8' hN8 hN9 hz hpt hlt hch
                    by_cases hx0 : Tm.putErr t (chN a5 t.length : Int) x = 0
                    · have bx : (Tm.putErr t (chN a5 t.length : Int) x != 0) = false := by simpa using hx0
                      by_cases hy0 : Tm.putErr t (chN a5 t.length : Int) y = 0
                      · have by' : (Tm.putErr t (chN a5 t.length : Int) y != 0) = false := by simpa using hy0
                        cases q1 with
                        | false =>
                          clear hx0 hy0 hC9 hPt
                          go_wp2_with fail
                          refine (orderBegun_any _).mono ?_
                          rintro e u30 ⟨rfl, b30⟩
                          go_wp2
                          go_ret
                          exact ⟨rfl, B9.trans (b30.mono B9.size)⟩
                        | true =>
                          obtain ⟨g1, g2⟩ := hPt.out rfl hx0 hy0
                          rw [g1, g2] at hC9
                          clear g1 g2 hx0 hy0 hPt
                          go_wp2_with (first
                            | (go_at_call 15; refine hC9.out.mono ?_; clear hC9; rintro e u10 ⟨rfl, b10⟩))
                          have B10 := B9.trans (b10.mono B9.size)
                          refine (orderBegun_any _).mono ?_
                          rintro e u11 ⟨rfl, b11⟩
                          go_wp2
                          go_ret
                          exact ⟨rfl, B10.trans (b11.mono B10.size)⟩
                      · have by' : (Tm.putErr t (chN a5 t.length : Int) y != 0) = true := by simpa using hy0
                        clear hx0 hy0 hC9 hPt
                        go_wp2_with fail
                        refine (orderBegun_any _).mono ?_
                        rintro e u30 ⟨rfl, b30⟩
                        go_wp2
                        go_ret
                        exact ⟨rfl, B9.trans (b30.mono B9.size)⟩
                    · have bx : (Tm.putErr t (chN a5 t.length : Int) x != 0) = true := by simpa using hx0
                      clear hx0 hC9 hPt
                      go_wp2_with fail
                      refine (orderBegun_any _).mono ?_
                      rintro e u30 ⟨rfl, b30⟩
                      go_wp2
                      go_ret
                      exact ⟨rfl, B9.trans (b30.mono B9.size)⟩
                  · have hnt : (Tm.err t != 0) = true := by simpa using het
                    clear het
                    generalize Tm.err t = et at *
                    go_wp2_with fail
                    refine (hCt.out _ B6).mono ?_
                    rintro e u7 ⟨rfl, b7⟩
                    have B7 := B6.trans (b7.mono B6.size)
                    go_wp2_with fail
                    refine (orderBegun_any _).mono ?_
                    rintro e u30 ⟨rfl, b30⟩
                    go_wp2
                    go_ret
                    exact ⟨rfl, B7.trans (b30.mono B7.size)⟩
  · have hn : (Tm.aboveErr r x y != 0) = true := by simpa using e1
    clear e1 hX hY hT hR hS
    generalize Tm.aboveErr r x y = q at *
    go_enter Try.func6, Try.ntmps6
    go_wp2_with fail
    refine (hAB.out w (Below.refl _ _)).mono ?_
    rintro e u1 ⟨rfl, B1⟩
    go_wp2_with fail
    refine (hBA.out u1 B1).mono ?_
    rintro e u2 ⟨rfl, b2⟩
    have B2 := B1.trans (b2.mono B1.size)
    go_wp2_with fail
    refine (orderBegun_any _).mono ?_
    rintro e u8 ⟨rfl, b8⟩
    go_wp2
    go_ret
    exact ⟨rfl, B2.trans (b8.mono B2.size)⟩

/-! The row. -/
set_option maxRecDepth 100000 in
theorem lifted (os : Os) (started : os.Started) (H : Type) (enc : TypeId × Value → H) :
    ReturnsInHanded {} Try.checked os 6 .any (Rows.orderKeepsSpec.pre6 enc Try.prog Try.f6 Rows.orderKeepsRow.domain false) (Rows.orderKeepsSpec.post enc Try.prog Try.f6 false true false false) := by
  refine returnsInHanded_of_change (C := Try.checked) own started (by kernel_rfl) Try.func6
    (ChangeSpec.witness6 (enc := enc) (C := Try.checked) false ⟨#[], #[.slice none 0 0, .slice none 0 0, .slice none 0 0, .slice none 0 0, .slice none 0 0, .int .i64 0], []⟩ 8 (by kernel_rfl) (by kernel_rfl) (by kernel_rfl) (by kernel_rfl)) ?_
  intro W base args ds gs before hval0 hW hcnd _
  have hval : ∀ (j : Nat) t v, Try.f6.params[j]? = some t → args[j]? = some v → Value.okWide Try.prog W .any base t v := hval0
  have hW' := hW
  obtain ⟨p, q, hA0, hV, rfl, hfz, hnd⟩ := hW
  have hA : DataW.TrodAll enc Try.prog W 0 (fun _ => true) true Try.f6.params.toList args.toList ds p := hA0
  rw [Try.params6] at hA hval
  obtain ⟨v0, vs0, d0, ds0, p0, q0, hargs, rfl, rfl, h0, r0⟩ := trodAll_cons hA
  obtain ⟨v1, vs1, d1, ds1, p1, q1, rfl, rfl, rfl, h1, r1⟩ := trodAll_cons r0
  obtain ⟨v2, vs2, d2, ds2, p2, q2, rfl, rfl, rfl, h2, r2⟩ := trodAll_cons r1
  obtain ⟨v3, vs3, d3, ds3, p3, q3, rfl, rfl, rfl, h3, r3⟩ := trodAll_cons r2
  obtain ⟨v4, vs4, d4, ds4, p4, q4, rfl, rfl, rfl, h4, r4⟩ := trodAll_cons r3
  obtain ⟨v5, vs5, d5, ds5, p5, q5, rfl, rfl, rfl, h5, r5⟩ := trodAll_cons r4
  obtain ⟨rfl, rfl, rfl⟩ := trodAll_nil r5
  obtain rfl : args = #[v0, v1, v2, v3, v4, v5] := by cases args; simp_all
  obtain ⟨rfl, rfl⟩ := trodVars_none hV
  obtain ⟨a0, len0, cap0, rfl⟩ := okWide_slice Try.underlying22 (hval 0 22 v0 rfl rfl)
  have k0 := h0
  have lt0 : ∀ x ∈ p0, x.block < W.heap.size := by obtain ⟨m, hm⟩ := k0; exact DataW.trod_lt m _ _ _ hm
  have w0 : TermIn W a0 len0 cap0 := by
    obtain ⟨fuel, hf⟩ := h0
    rcases open_ints Try.underlying22 Try.underlying3 (by kernel_rfl) hf with ⟨hcs, _⟩ | ⟨x, l, c, zs, hcs, _, hl, hm, hz, _, hcell, hwz⟩
    · simp [Value.cells] at hcs
      obtain ⟨rfl, rfl, rfl⟩ := hcs
      exact ints_of_row (.inl ⟨rfl, rfl, rfl, rfl⟩)
    · simp [Value.cells] at hcs
      obtain ⟨rfl, rfl, rfl⟩ := hcs
      exact ints_of_row (.inr ⟨_, rfl, hl, hm, by simpa using hz, hcell, hwz⟩)
  obtain ⟨a1, len1, cap1, rfl⟩ := okWide_slice Try.underlying23 (hval 1 23 v1 rfl rfl)
  have k1 := h1
  have lt1 : ∀ x ∈ p1, x.block < W.heap.size := by obtain ⟨m, hm⟩ := k1; exact DataW.trod_lt m _ _ _ hm
  have w1 : TermIn W a1 len1 cap1 := by
    obtain ⟨fuel, hf⟩ := h1
    rcases open_ints Try.underlying23 Try.underlying3 (by kernel_rfl) hf with ⟨hcs, _⟩ | ⟨x, l, c, zs, hcs, _, hl, hm, hz, _, hcell, hwz⟩
    · simp [Value.cells] at hcs
      obtain ⟨rfl, rfl, rfl⟩ := hcs
      exact ints_of_row (.inl ⟨rfl, rfl, rfl, rfl⟩)
    · simp [Value.cells] at hcs
      obtain ⟨rfl, rfl, rfl⟩ := hcs
      exact ints_of_row (.inr ⟨_, rfl, hl, hm, by simpa using hz, hcell, hwz⟩)
  obtain ⟨a2, len2, cap2, rfl⟩ := okWide_slice Try.underlying23 (hval 2 23 v2 rfl rfl)
  have k2 := h2
  have lt2 : ∀ x ∈ p2, x.block < W.heap.size := by obtain ⟨m, hm⟩ := k2; exact DataW.trod_lt m _ _ _ hm
  have w2 : TermIn W a2 len2 cap2 := by
    obtain ⟨fuel, hf⟩ := h2
    rcases open_ints Try.underlying23 Try.underlying3 (by kernel_rfl) hf with ⟨hcs, _⟩ | ⟨x, l, c, zs, hcs, _, hl, hm, hz, _, hcell, hwz⟩
    · simp [Value.cells] at hcs
      obtain ⟨rfl, rfl, rfl⟩ := hcs
      exact ints_of_row (.inl ⟨rfl, rfl, rfl, rfl⟩)
    · simp [Value.cells] at hcs
      obtain ⟨rfl, rfl, rfl⟩ := hcs
      exact ints_of_row (.inr ⟨_, rfl, hl, hm, by simpa using hz, hcell, hwz⟩)
  obtain ⟨a3, len3, cap3, rfl⟩ := okWide_slice Try.underlying24 (hval 3 24 v3 rfl rfl)
  have k3 := h3
  have lt3 : ∀ x ∈ p3, x.block < W.heap.size := by obtain ⟨m, hm⟩ := k3; exact DataW.trod_lt m _ _ _ hm
  have w3 : SubsIn W a3 len3 cap3 := by
    obtain ⟨fuel, hf⟩ := h3
    rcases open_int_rows Try.underlying24 Try.underlying23 Try.underlying3 (by kernel_rfl) (by kernel_rfl) hf with ⟨hcs, _⟩ | ⟨x, l, c, A, L, C, Z, hcs, _, hl, hm, _, hrow⟩
    · simp [Value.cells] at hcs
      obtain ⟨rfl, rfl, rfl⟩ := hcs
      exact subsIn_nil _
    · simp [Value.cells] at hcs
      obtain ⟨rfl, rfl, rfl⟩ := hcs
      exact subsIn_rows hl hm hrow
  obtain ⟨a4, len4, cap4, rfl⟩ := okWide_slice Try.underlying23 (hval 4 23 v4 rfl rfl)
  have k4 := h4
  have lt4 : ∀ x ∈ p4, x.block < W.heap.size := by obtain ⟨m, hm⟩ := k4; exact DataW.trod_lt m _ _ _ hm
  have w4 : TermIn W a4 len4 cap4 := by
    obtain ⟨fuel, hf⟩ := h4
    rcases open_ints Try.underlying23 Try.underlying3 (by kernel_rfl) hf with ⟨hcs, _⟩ | ⟨x, l, c, zs, hcs, _, hl, hm, hz, _, hcell, hwz⟩
    · simp [Value.cells] at hcs
      obtain ⟨rfl, rfl, rfl⟩ := hcs
      exact ints_of_row (.inl ⟨rfl, rfl, rfl, rfl⟩)
    · simp [Value.cells] at hcs
      obtain ⟨rfl, rfl, rfl⟩ := hcs
      exact ints_of_row (.inr ⟨_, rfl, hl, hm, by simpa using hz, hcell, hwz⟩)
  obtain ⟨a5, rfl, rfl, rfl, w5⟩ := open_int Try.underlying3 (hval 5 3 v5 rfl rfl) h5
  clear hA0 hval0
  refine (walk a0 len0 cap0 a1 len1 cap1 a2 len2 cap2 a3 len3 cap3 a4 len4 cap4 a5 W w0 w1 w2 w3 w4 w5).mono fun e W' ⟨he, bel⟩ => ?_
  subst he
  exact ⟨_, rfl, _, _, _, [], _, [], hW', trodAll_mk1 (shut_bool Try.underlying4 _), (trodAll_cons_mk (Below.trod laidOut (by kernel_rfl) (of_decide_eq_true (by kernel_rfl)) k0 bel lt0) (trodAll_cons_mk (Below.trod laidOut (by kernel_rfl) (of_decide_eq_true (by kernel_rfl)) k1 bel lt1) (trodAll_cons_mk (Below.trod laidOut (by kernel_rfl) (of_decide_eq_true (by kernel_rfl)) k2 bel lt2) (trodAll_cons_mk (Below.trod laidOut (by kernel_rfl) (of_decide_eq_true (by kernel_rfl)) k3 bel lt3) (trodAll_cons_mk (Below.trod laidOut (by kernel_rfl) (of_decide_eq_true (by kernel_rfl)) k4 bel lt4) (trodAll_cons_mk (shut_int Try.underlying3 w5) trodAll_mk0)))))), rfl, bel.frame _, fun h => by cases h⟩

theorem over : Rows.orderKeepsRow.holds Try.pinned (OpenSpec.ofChange Rows.orderKeepsSpec) :=
  OpenClaim.holds_of_wide 6 Try.f6 rfl rfl rfl rfl rfl rfl rfl ⟨rfl, rfl, rfl, rfl, rfl⟩ rfl rfl rfl rfl rfl (by kernel_rfl) Try.func6 (by kernel_rfl)
    (of_decide_eq_true (by kernel_rfl)) (by unfold Func.isWrapper; first | (rw [if_pos (by decide +kernel)]; kernel_rfl) | (rw [if_neg (by decide +kernel)]; exact ⟨rfl, rfl⟩))
    (fun os started H enc _ => lifted os started H enc)

/-- The statement. -/
theorem proved : Rows.OrderKeepsSaid := over
#print axioms proved
end Go.Proofs.Ytloealnfbpegnac.orderKeeps
