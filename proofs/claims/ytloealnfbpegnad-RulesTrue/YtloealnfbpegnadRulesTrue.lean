/-
  Of rules that fall each step goes to a term that is below, and brings no new variable; there are as many steps as there are places at which a rule's L fits (rules.Falls, rules.Steps, match.Over, order.Above). No conditions.
-/
import Derived.Test.YtloealnfbpegnadRows
import Derived.WalkKit
import Derived.ProofKit
import Derived.OpenShut
import Derived.ChangeOld
import Derived.Below
import Derived.Deep.Matrix
import Derived.Test.YtloealnfbpegnadBun3
import Derived.Test.YtloealnfbpegnadBun11
import Derived.Test.YtloealnfbpegnadBun16
namespace Go.Proofs.Ytloealnfbpegnad.rulesTrue
open Go.ChangeShapes Go.WideShapes Go.ChangeAt Go.RowKit Go.Deep Go.Shelf Go.Maps
set_option linter.unusedVariables false

theorem own : ownKnob Try.prog.godebug = none := by kernel_rfl
theorem laidOut : laidOutB Try.prog = true := by kernel_rfl

/-! The walk. -/
set_option maxRecDepth 100000 in
set_option maxHeartbeats 2000000 in
theorem walk (a0 : Option Addr) (len0 cap0 : Nat) (a1 : Option Addr) (len1 cap1 : Nat) (a2 : Option Addr) (len2 cap2 : Nat) (a3 : Int) (w : World) (w0 : TermIn w a0 len0 cap0) (w1 : RulesIn w a1 len1 cap1) (w2 : TermIn w a2 len2 cap2) (w3 : (Lit.int .i64 a3).wf = true) :
    Calls Try.prog 3 #[.slice a0 len0 cap0, .slice a1 len1 cap1, .slice a2 len2 cap2, .int .i64 a3] w fun e w' => e = .returned (.bool true) ∧ Below w.heap.size w w' := by
  obtain ⟨r, rfl, hR, hr1, hr2, hr3⟩ := w0
  obtain ⟨rs, rfl, hI, hi1, hi2⟩ := w1
  obtain ⟨t, rfl, hT, ht1, ht2, ht3⟩ := w2
  have hF := rulesFalls_any r rs a0 a1 cap0 cap1 w hR hI
  have hS := hid (fun W (hW : Below w.heap.size w W) => steps_any rs t a1 a2 cap1 cap2 W ((hI.below hW).mono hW.size) ((hT.below hW).mono hW.size) ht1 ht2)
  unfold StepsAns at hS
  by_cases e1 : Tm.fallsErr r rs = 0
  · by_cases e2 : Tm.stepErr rs t = 0
    · have hcnt := hid (Tm.step_count e2)
      have htru := hid (fun j hj => Tm.step_true e1 e2 (j := j) hj)
      obtain ⟨k1, k2, _⟩ := Tm.stepErr_term e2
      obtain ⟨h8, hall⟩ := Tm.rulesErr_ok k1
      have h8' : (rs.length : Int) ≤ 8 := by omega
      have l30 := Tm.err_len k2
      have l30' : (t.length : Int) ≤ 30 := by omega
      have hsum := hid (Tm.sum_le (g := fun k => (Tm.overVal t (rs[k]?.getD ([], [])).1).length) (c := 30) (fun k => Nat.le_trans (Tm.over_le t _) l30))
      have hO := hid (fun W (hW : Below w.heap.size w W) k (hk : k < rs.length) aL cL hL h3 h4 => over_any t (rs[k]?.getD ([], [])).1 a2 aL cap2 cL W ((hT.below hW).mono hW.size) hL ⟨ht1, ht2, ht3⟩ ⟨h3, h4, rulesL_nil hL (Tm.err_pos (Tm.ruleErr_ok (hall k hk)).1)⟩)
      have hOe := hid (fun k (hk : k < rs.length) => Tm.fitErr_of k2 (Tm.ruleErr_ok (hall k hk)).1)
      have hAb := hid (fun W (hW : Below w.heap.size w W) u au cu hu h3 h4 => orderAbove_any r t u a0 a2 au cap0 cap2 cu W ((hR.below hW).mono hW.size) ((hT.below hW).mono hW.size) hu ht1 ht2 h3 h4)
      have hsl := hid (show (Tm.stepVal rs t).length ≤ 240 by rw [hcnt.out]; have := hsum.out rs.length; omega)
      have HT := hid hT
      have HI := hid hI
      rw [e1] at hF
      rw [e2] at hS
      clear e1 e2 k1 k2 hall hR hT hI h8
      generalize Tm.stepVal rs t = sts at *
      generalize hqf : Tm.fallsVal r rs = qf at *
      clear hqf
      go_enter Try.func3, Try.ntmps3
      go_wp2_with fail
      refine hF.mono ?_
      rintro e u1 ⟨rfl, B1⟩
      go_wp2_with fail
      refine (hS.out u1 B1).mono ?_
      rintro e u2 ⟨v2, rfl, hN2, b2⟩
      have B2 := B1.trans (b2.mono B1.size)
      obtain ⟨va, vc, rfl⟩ := hN2.slice
      have HN2 := hid hN2
      clear hF hS hN2 b2 B1
      go_wp2_with fail
      go_loopw [13, 14] (fun c v wr => ∃ k : Nat, k ≤ rs.length ∧ v = .int .i64 (k : Int) ∧ c = .int .i64 (Tm.sum (fun k => (Tm.overVal t (rs[k]?.getD ([], [])).1).length) k : Int) ∧ Below u2.heap.size u2 wr) (fun _ v _ => rs.length - (intOf v).toNat)
      case atStart => exact ⟨0, Nat.zero_le _, rfl, rfl, Below.refl _ _⟩
      case round =>
        obtain ⟨k, hk, rfl, rfl, hB⟩ := hrel
        have hBw := B2.trans (hB.mono B2.size)
        by_cases hlt : k < rs.length
        · have hlt' : (k : Int) < (rs.length : Int) := by omega
          obtain ⟨b, off, rfl, hb, aL, cL, aR, cR, g1, g2, g3, g4, g5, g6, g7, g8⟩ := (HI.out.below hBw) k hlt
          have hC := hid (hO.out wr hBw k hlt aL cL (g3.mono hBw.size) g5 g6)
          rw [hOe.out k hlt] at hC
          have hs1 := hsum.out k
          have hs2 := Tm.over_le t (rs[k]?.getD ([], [])).1
          have hsu : Tm.sum (fun k => (Tm.overVal t (rs[k]?.getD ([], [])).1).length) (k + 1) = Tm.sum (fun k => (Tm.overVal t (rs[k]?.getD ([], [])).1).length) k + (Tm.overVal t (rs[k]?.getD ([], [])).1).length := rfl
          have Hsu := hid hsu
          have hs3 : ((Tm.sum (fun k => (Tm.overVal t (rs[k]?.getD ([], [])).1).length) k : Nat) : Int) ≤ 1000 := by omega
          have hs4 : (((Tm.overVal t (rs[k]?.getD ([], [])).1).length : Nat) : Int) ≤ 30 := by omega
          clear hsu hs1 hs2 g3 g4 g5 g6 g7 g8 hsum hO hOe
          generalize Tm.overVal t (rs[k]?.getD ([], [])).1 = ov at *
          generalize (rs[k]?.getD ([], [])).1 = L at *
          go_wp2_with (first
            | (go_at_call 12; refine hC.out.mono ?_; clear hC; rintro e w3 ⟨v3, rfl, hN3, b3⟩; obtain ⟨x3, c3, rfl, _⟩ := New.ints hN3))
          go_roundw
          case rel => exact ⟨k + 1, by omega, by go_num, by rw [Hsu.out]; go_num, hB.trans (b3.mono hB.size)⟩
          case measure => simp [intOf]; omega
        · obtain rfl : k = rs.length := by omega
          rw [← hcnt.out]
          have hne : ((sts.length : Int) != (sts.length : Int)) = false := by simp
          clear hcnt hsum hO hOe HI
          by_cases hz : sts.length = 0
          · have hzi : ((sts.length : Int) == 0) = true := len_yes hz
            clear htru
            go_wp2_with fail
            refine (rulesBegun_any _).mono ?_
            rintro e u5 ⟨rfl, b5⟩
            go_wp2
            go_ret
            exact ⟨rfl, hBw.trans (b5.mono hBw.size)⟩
          · have hp : 0 < sts.length := by omega
            obtain ⟨wo, rfl⟩ : ∃ wo, wo = wr := ⟨wr, rfl⟩
            have hzi : ((sts.length : Int) == 0) = false := len_no hz
            obtain ⟨g, cg, eg, hat⟩ := (HN2.out.below hB).at hp
            cases eg
            have hjl := chN_lt a3 hp
            obtain ⟨q1, q2, q3, q4⟩ := htru.out (chN a3 sts.length) hjl
            obtain ⟨x0, y0, c0, c1, c2, i0, y1, y2⟩ := hat (chN a3 sts.length) hjl
            have hlen : sts.length ≤ 1000 := by have := hsl.out; omega
            have hch := hid (choose_is a3 sts.length w3 hp hlen wo)
            clear hat hz
            generalize chN a3 sts.length = j at *
            generalize (sts[j]?.getD (0, 0, [])).2.2 = u at *
            generalize (sts[j]?.getD (0, 0, [])).2.1 = pa at *
            generalize (sts[j]?.getD (0, 0, [])).1 = pr at *
            have hji : (j : Int) < (sts.length : Int) := by omega
            have lu := Tm.err_len q3
            have lu' : (u.length : Int) ≤ 30 := by omega
            have hBa : Below wo.heap.size wo (wo.alloc (.cells #[.int .i64 (pr : Int), .int .i64 (pa : Int), .slice x0 u.length y0] 37)) := (Below.refl _ wo).alloc (Nat.le_refl _) _
            have blk := World.alloc_heap_new wo (.cells #[.int .i64 (pr : Int), .int .i64 (pa : Int), .slice x0 u.length y0] 37)
            obtain ⟨W4, hW4⟩ : ∃ W4, wo.alloc (.cells #[.int .i64 (pr : Int), .int .i64 (pa : Int), .slice x0 u.length y0] 37) = W4 := ⟨_, rfl⟩
            have hs4 : W4.heap.size = wo.heap.size + 1 := by rw [← hW4]; simp
            rw [hW4] at hBa blk
            have HW4 := hid hW4
            have d2 : W4.cell? ⟨wo.heap.size, 2, none⟩ = some (.slice x0 u.length y0) := by rw [cell_at blk]; rfl
            have d2' := d2
            rw [← hW4] at d2'
            clear hW4 blk
            have B4 := hBw.trans (hBa.mono hBw.size)
            have hC := hid (hAb.out W4 B4 u x0 y0 ((i0.below hBa).mono hBa.size) y1 y2)
            rw [q1] at hC
            have I4 := hid ((i0.below hBa).mono hBa.size)
            have Hq4 := hid q4
            clear q1 q3 q4 i0 hAb htru
            obtain ⟨qa, hqa⟩ : ∃ qa, Tm.aboveVal r t u = qa := ⟨_, rfl⟩
            rw [hqa] at hC q2
            clear hqa
            have hcase : (qf = true ∧ qa = true) ∨ qf = false := by
              cases qf with
              | true => exact .inl ⟨rfl, q2 rfl⟩
              | false => exact .inr rfl
            clear q2
            rcases hcase with ⟨rfl, rfl⟩ | rfl
            all_goals (
              go_wp2_with (first
                | (go_at_call 13; refine hch.out.mono ?_; clear hch; rintro e wo ⟨rfl, rfl⟩)
                | (rw [HW4.out]; go_at_call 14; refine hC.out.mono ?_; clear hC; rintro e w5 ⟨rfl, b5⟩)
                | (go_at_call 14; refine hC.out.mono ?_; clear hC; rintro e w5 ⟨rfl, b5⟩))
              have hd := hid (fun X (hX : Below w5.heap.size w5 X) => (hX.cell (p := ⟨wo.heap.size, 2, none⟩) (by show wo.heap.size < _; have := b5.size; omega)).trans ((b5.cell (p := ⟨wo.heap.size, 2, none⟩) (by show wo.heap.size < _; omega)).trans d2))
              have iU := hid (fun X (hX : Below w5.heap.size w5 X) => (((I4.out.below b5).mono b5.size).below hX).mono hX.size)
              have B5 := B4.trans (b5.mono B4.size)
              have iT := hid (fun X (hX : Below w5.heap.size w5 X) => show Ints X.heap.size X a2 t by have hb := B5.trans (hX.mono B5.size); exact (HT.out.below hb).mono hb.size)
              go_loopw [20] (fun v X => ∃ i : Nat, i ≤ u.length ∧ v = .int .i64 (i : Int) ∧ Below w5.heap.size w5 X) (fun v _ => u.length - (intOf v).toNat)
              case atStart => exact ⟨0, Nat.zero_le _, rfl, Below.refl _ _⟩
              case round =>
                obtain ⟨X, rfl⟩ : ∃ X, X = wr := ⟨wr, rfl⟩
                obtain ⟨i, hi, rfl, hX⟩ := hrel
                have dX := hd.out X hX
                by_cases hiu : i < u.length
                · have hiu' : (i : Int) < (u.length : Int) := by omega
                  obtain ⟨bx, ox, ex, _, cx⟩ := (iU.out X hX).at (by omega)
                  have ci := cx i hiu
                  have hmem := hid (fun hneg => Hq4.out (u[i]?.getD 0) (by rw [List.getElem?_eq_getElem hiu, Option.getD_some]; exact List.getElem_mem hiu) hneg)
                  rw [ex] at dX
                  have hd' := hid (fun Y (hY : Below X.heap.size X Y) => show Y.cell? ⟨wo.heap.size, 2, none⟩ = some (.slice (some ⟨bx, ox, none⟩) u.length y0) by rw [← ex]; exact hd.out Y (hX.trans (hY.mono hX.size)))
                  have hc' := hid (fun Y (hY : Below X.heap.size X Y) => (hY.cell (p := ⟨bx, ox + i, none⟩) (by simpa using lt_of_cell ci)).trans ci)
                  clear cx ex
                  generalize u[i]?.getD 0 = s at *
                  have hall := hid (isB_all hmem.out)
                  go_wp2
                  go_loopw [21, 22] (fun bv v Y => ∃ j : Nat, j ≤ t.length ∧ v = .int .i64 (j : Int) ∧ bv = .bool (isB s t j) ∧ Below X.heap.size X Y) (fun _ v _ => t.length - (intOf v).toNat)
                  case atStart => exact ⟨0, Nat.zero_le _, rfl, by rw [isB_zero], Below.refl _ _⟩
                  case round =>
                    obtain ⟨Y, rfl⟩ : ∃ Y, Y = wr := ⟨wr, rfl⟩
                    obtain ⟨j2, hj2, rfl, rfl, hY⟩ := hrel
                    have dY := hd'.out Y hY
                    have cY := hc'.out Y hY
                    by_cases hjt : j2 < t.length
                    · have hjt' : (j2 : Int) < (t.length : Int) := by omega
                      obtain ⟨bt, ot, rfl, _, ct⟩ := (iT.out Y (hX.trans (hY.mono hX.size))).at (by omega)
                      have cj := ct j2 hjt
                      have hsu := hid (isB_succ (s := s) hjt)
                      clear ct
                      generalize t[j2]?.getD 0 = tj at *
                      cases hq : isB s t j2 with
                      | true =>
                        rw [hq] at hsu
                        clear hq
                        go_wp2
                        go_quiet (fail)
                        go_wp2
                        go_roundw
                        case rel => exact ⟨j2 + 1, by omega, by go_num, by rw [hsu.out]; rfl, below_drewN hY _⟩
                        case measure => simp [intOf]; omega
                      | false =>
                        rw [hq] at hsu
                        clear hq
                        obtain ⟨qe, hqe⟩ : ∃ qe, (tj == s) = qe := ⟨_, rfl⟩
                        rw [hqe] at hsu
                        go_wp2
                        go_quiet (fail)
                        go_wp2
                        go_roundw
                        case rel => exact ⟨j2 + 1, by omega, by go_num, by rw [hsu.out]; rfl, below_drewN hY _⟩
                        case measure => simp [intOf]; omega
                    · obtain rfl : j2 = t.length := by omega
                      rw [hall.out]
                      go_wp2
                      go_roundw
                      case rel => exact ⟨i + 1, by omega, by go_num, hX.trans (hY.mono hX.size)⟩
                      case measure => simp [intOf]; omega
                · obtain rfl : i = u.length := by omega
                  go_wp2_with fail
                  refine (rulesBegun_any _).mono ?_
                  rintro e u9 ⟨rfl, b9⟩
                  go_wp2
                  go_ret
                  have hb := B5.trans (hX.mono B5.size)
                  exact ⟨rfl, hb.trans (b9.mono hb.size)⟩)
    · have hne : (Tm.stepErr rs t != 0) = true := by simpa using e2
      rw [e1] at hF
      clear e1 e2 hR hT hI
      generalize Tm.stepErr rs t = q at *
      generalize Tm.fallsVal r rs = qf at *
      go_enter Try.func3, Try.ntmps3
      go_wp2_with fail
      refine hF.mono ?_
      rintro e u1 ⟨rfl, B1⟩
      go_wp2_with fail
      refine (hS.out u1 B1).mono ?_
      rintro e u2 ⟨v2, rfl, hN2, b2⟩
      have B2 := B1.trans (b2.mono B1.size)
      obtain ⟨va, vc, rfl⟩ := hN2.slice
      go_wp2_with fail
      refine (rulesBegun_any _).mono ?_
      rintro e u5 ⟨rfl, b5⟩
      go_wp2
      go_ret
      exact ⟨rfl, B2.trans (b5.mono B2.size)⟩
  · have hne : (Tm.fallsErr r rs != 0) = true := by simpa using e1
    clear e1 hR hT hI
    generalize Tm.stepErr rs t = q at *
    generalize Tm.fallsErr r rs = qe at *
    generalize Tm.fallsVal r rs = qf at *
    go_enter Try.func3, Try.ntmps3
    go_wp2_with fail
    refine hF.mono ?_
    rintro e u1 ⟨rfl, B1⟩
    go_wp2_with fail
    refine (hS.out u1 B1).mono ?_
    rintro e u2 ⟨v2, rfl, hN2, b2⟩
    have B2 := B1.trans (b2.mono B1.size)
    obtain ⟨va, vc, rfl⟩ := hN2.slice
    go_wp2_with fail
    refine (rulesBegun_any _).mono ?_
    rintro e u5 ⟨rfl, b5⟩
    go_wp2
    go_ret
    exact ⟨rfl, B2.trans (b5.mono B2.size)⟩

/-! The row. -/
set_option maxRecDepth 100000 in
theorem lifted (os : Os) (started : os.Started) (H : Type) (enc : TypeId × Value → H) :
    ReturnsInHanded {} Try.checked os 3 .any (Rows.rulesTrueSpec.pre6 enc Try.prog Try.f3 Rows.rulesTrueRow.domain false) (Rows.rulesTrueSpec.post enc Try.prog Try.f3 false true false false) := by
  refine returnsInHanded_of_change (C := Try.checked) own started (by kernel_rfl) Try.func3
    (ChangeSpec.witness6 (enc := enc) (C := Try.checked) false ⟨#[], #[.slice none 0 0, .slice none 0 0, .slice none 0 0, .int .i64 0], []⟩ 8 (by kernel_rfl) (by kernel_rfl) (by kernel_rfl) (by kernel_rfl)) ?_
  intro W base args ds gs before hval0 hW hcnd _
  have hval : ∀ (j : Nat) t v, Try.f3.params[j]? = some t → args[j]? = some v → Value.okWide Try.prog W .any base t v := hval0
  have hW' := hW
  obtain ⟨p, q, hA0, hV, rfl, hfz, hnd⟩ := hW
  have hA : DataW.TrodAll enc Try.prog W 0 (fun _ => true) true Try.f3.params.toList args.toList ds p := hA0
  rw [Try.params3] at hA hval
  obtain ⟨v0, vs0, d0, ds0, p0, q0, hargs, rfl, rfl, h0, r0⟩ := trodAll_cons hA
  obtain ⟨v1, vs1, d1, ds1, p1, q1, rfl, rfl, rfl, h1, r1⟩ := trodAll_cons r0
  obtain ⟨v2, vs2, d2, ds2, p2, q2, rfl, rfl, rfl, h2, r2⟩ := trodAll_cons r1
  obtain ⟨v3, vs3, d3, ds3, p3, q3, rfl, rfl, rfl, h3, r3⟩ := trodAll_cons r2
  obtain ⟨rfl, rfl, rfl⟩ := trodAll_nil r3
  obtain rfl : args = #[v0, v1, v2, v3] := by cases args; simp_all
  obtain ⟨rfl, rfl⟩ := trodVars_none hV
  obtain ⟨a0, len0, cap0, rfl⟩ := okWide_slice Try.underlying22 (hval 0 22 v0 rfl rfl)
  have k0 := h0
  have lt0 : ∀ x ∈ p0, x.block < W.heap.size := by obtain ⟨m, hm⟩ := k0; exact DataW.trod_lt m _ _ _ hm
  have w0 : TermIn W a0 len0 cap0 := by
    obtain ⟨fuel, hf⟩ := h0
    rcases open_ints Try.underlying22 Try.underlying3 (by kernel_rfl) hf with ⟨hcs, _⟩ | ⟨x, l, c, zs, hcs, _, hl, hm, hz, _, hcell, hwz⟩
    · simp [Value.cells] at hcs
      obtain ⟨rfl, rfl, rfl⟩ := hcs
      exact ints_of_row (.inl ⟨rfl, rfl, rfl, rfl⟩)
    · simp [Value.cells] at hcs
      obtain ⟨rfl, rfl, rfl⟩ := hcs
      exact ints_of_row (.inr ⟨_, rfl, hl, hm, by simpa using hz, hcell, hwz⟩)
  obtain ⟨a1, len1, cap1, rfl⟩ := okWide_slice Try.underlying23 (hval 1 23 v1 rfl rfl)
  have k1 := h1
  have lt1 : ∀ x ∈ p1, x.block < W.heap.size := by obtain ⟨m, hm⟩ := k1; exact DataW.trod_lt m _ _ _ hm
  have w1 : RulesIn W a1 len1 cap1 := by
    obtain ⟨fuel, hf⟩ := h1
    exact rulesIn_open Try.underlying23 Try.underlying35 (by kernel_rfl) rfl rfl rfl rfl (by simp [Value.cells]) hf
  obtain ⟨a2, len2, cap2, rfl⟩ := okWide_slice Try.underlying24 (hval 2 24 v2 rfl rfl)
  have k2 := h2
  have lt2 : ∀ x ∈ p2, x.block < W.heap.size := by obtain ⟨m, hm⟩ := k2; exact DataW.trod_lt m _ _ _ hm
  have w2 : TermIn W a2 len2 cap2 := by
    obtain ⟨fuel, hf⟩ := h2
    rcases open_ints Try.underlying24 Try.underlying3 (by kernel_rfl) hf with ⟨hcs, _⟩ | ⟨x, l, c, zs, hcs, _, hl, hm, hz, _, hcell, hwz⟩
    · simp [Value.cells] at hcs
      obtain ⟨rfl, rfl, rfl⟩ := hcs
      exact ints_of_row (.inl ⟨rfl, rfl, rfl, rfl⟩)
    · simp [Value.cells] at hcs
      obtain ⟨rfl, rfl, rfl⟩ := hcs
      exact ints_of_row (.inr ⟨_, rfl, hl, hm, by simpa using hz, hcell, hwz⟩)
  obtain ⟨a3, rfl, rfl, rfl, w3⟩ := open_int Try.underlying3 (hval 3 3 v3 rfl rfl) h3
  clear hA0 hval0
  refine (walk a0 len0 cap0 a1 len1 cap1 a2 len2 cap2 a3 W w0 w1 w2 w3).mono fun e W' ⟨he, bel⟩ => ?_
  subst he
  exact ⟨_, rfl, _, _, _, [], _, [], hW', trodAll_mk1 (shut_bool Try.underlying4 _), (trodAll_cons_mk (Below.trod laidOut (by kernel_rfl) (of_decide_eq_true (by kernel_rfl)) k0 bel lt0) (trodAll_cons_mk (Below.trod laidOut (by kernel_rfl) (of_decide_eq_true (by kernel_rfl)) k1 bel lt1) (trodAll_cons_mk (Below.trod laidOut (by kernel_rfl) (of_decide_eq_true (by kernel_rfl)) k2 bel lt2) (trodAll_cons_mk (shut_int Try.underlying3 w3) trodAll_mk0)))), rfl, bel.frame _, fun h => by cases h⟩

theorem over : Rows.rulesTrueRow.holds Try.pinned (OpenSpec.ofChange Rows.rulesTrueSpec) :=
  OpenClaim.holds_of_wide 3 Try.f3 rfl rfl rfl rfl rfl rfl rfl ⟨rfl, rfl, rfl, rfl, rfl⟩ rfl rfl rfl rfl rfl (by kernel_rfl) Try.func3 (by kernel_rfl)
    (of_decide_eq_true (by kernel_rfl)) (by unfold Func.isWrapper; first | (rw [if_pos (by decide +kernel)]; kernel_rfl) | (rw [if_neg (by decide +kernel)]; exact ⟨rfl, rfl⟩))
    (fun os started H enc _ => lifted os started H enc)

/-- The statement. -/
theorem proved : Rows.RulesTrueSaid := over
#print axioms proved
end Go.Proofs.Ytloealnfbpegnad.rulesTrue
