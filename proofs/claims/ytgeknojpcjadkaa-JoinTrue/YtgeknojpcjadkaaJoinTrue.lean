/-
  Whatever ranks, rules, term and list of numbers JoinTrue is handed, it answers true and changes nothing that it was handed: of rules that fall and of which all pairs meet it does not matter which steps are taken: whatever is reached has one form. No condition.
-/
import Derived.Test.YtgeknojpcjadkaaRows
import Derived.WalkKit
import Derived.ProofKit
import Derived.OpenShut
import Derived.ChangeOld
import Derived.Below
import Derived.Deep.Matrix
import Derived.Test.YtgeknojpcjadkaaBjt2
import Derived.Test.YtgeknojpcjadkaaBjt9
import Derived.Test.YtgeknojpcjadkaaBjt28
import Derived.Test.YtgeknojpcjadkaaBjt16
import Derived.Test.YtgeknojpcjadkaaBjt15
namespace Go.Proofs.Ytgeknojpcjadkaa.joinTrue
open Go.ChangeShapes Go.WideShapes Go.ChangeAt Go.RowKit Go.Deep Go.Shelf Go.Maps
set_option linter.unusedVariables false

theorem own : ownKnob Try.prog.godebug = none := by kernel_rfl
theorem laidOut : laidOutB Try.prog = true := by kernel_rfl

/-! The walk. -/
set_option maxRecDepth 100000 in
set_option maxHeartbeats 2000000 in
theorem walk (a0 : Option Addr) (len0 cap0 : Nat) (a1 : Option Addr) (len1 cap1 : Nat) (a2 : Option Addr) (len2 cap2 : Nat) (a3 : Option Addr) (len3 cap3 : Nat) (w : World) (w0 : TermIn w a0 len0 cap0) (w1 : RulesIn w a1 len1 cap1) (w2 : TermIn w a2 len2 cap2) (w3 : PicksIn w a3 len3 cap3) :
    Calls Try.prog 4 #[.slice a0 len0 cap0, .slice a1 len1 cap1, .slice a2 len2 cap2, .slice a3 len3 cap3] w fun e w' => e = .returned (.bool true) ∧ Below w.heap.size w w' := by
  obtain ⟨r, rfl, hR, hr1, hr2, hr3⟩ := w0
  obtain ⟨rs, rfl, hI, hi1, hi2⟩ := w1
  obtain ⟨t, rfl, hT, ht1, ht2, ht3⟩ := w2
  obtain ⟨pk, rfl, hP, hwf, hp1, hp2⟩ := w3
  have hp2' : (pk.length : Int) ≤ 9223372036854775807 := by unfold maxLen at hp2; omega
  have hF := hid (rulesFalls_any r rs a0 a1 cap0 cap1 w hR hI)
  have hJ := hid (fun W (hW : Below w.heap.size w W) => joinAll_any rs a1 cap1 W ((hI.below hW).mono hW.size) (by omega))
  have hX := hid (fun W (hW : Below w.heap.size w W) => form_any rs t a1 a2 cap1 cap2 W ((hI.below hW).mono hW.size) ((hT.below hW).mono hW.size) ht1 ht2)
  have hS := hid (fun W (hW : Below w.heap.size w W) u au cu hu h1 h2 => steps_any rs u a1 au cap1 cu W ((hI.below hW).mono hW.size) hu h1 h2)
  unfold StepsAns at hS
  have hY := hid (fun W (hW : Below w.heap.size w W) u au cu hu h1 h2 => form_any rs u a1 au cap1 cu W ((hI.below hW).mono hW.size) hu h1 h2)
  have hM := hid (fun er h1 h2 hj h3 => Tm.join_true (rk := r) (rs := rs) (er := er) (t := t) h1 h2 hj h3)
  have HT := hid (fun W (hW : Below w.heap.size w W) => (hT.below hW).mono hW.size)
  have HP := hid (fun W (hW : Below w.heap.size w W) => (hP.below hW).mono hW.size)
  have Hwf := hid hwf
  have Hlx := hid (fun h => Tm.err_len (Tm.form_ok (rs := rs) (t := t) h))
  clear hR hI hT hP hwf
  obtain ⟨qe, hqe⟩ : ∃ q, Tm.fallsErr r rs = q := ⟨_, rfl⟩
  obtain ⟨qf, hqf⟩ : ∃ q, Tm.fallsVal r rs = q := ⟨_, rfl⟩
  obtain ⟨⟨x, n, ge⟩, hform⟩ : ∃ p, Tm.form rs t = p := ⟨_, rfl⟩
  rw [hqe, hqf] at hF hM
  rw [hform] at hX hM Hlx
  simp only at hX hM Hlx
  clear hqe hqf hform
  go_enter Try.func4, Try.ntmps4
  go_wp2_with fail
  refine hF.out.mono ?_
  rintro e u1 ⟨rfl, B1⟩
  clear hF
  go_wp2_with fail
  refine (hJ.out u1 B1).mono ?_
  rintro e u2 ⟨is, er, hs, rfl, b2⟩
  have B2 := B1.trans (b2.mono B1.size)
  have Hs := hid hs
  clear hJ hs b2 B1
  go_wp2_with fail
  refine (hX.out u2 B2).mono ?_
  rintro e u3 ⟨v3, rfl, hN3, b3⟩
  have B3 := B2.trans (b3.mono B2.size)
  obtain ⟨x3, c3, rfl, i3, q3, q3'⟩ := New.ints hN3
  have I3 := hid i3
  clear hX hN3 b3 B2 i3
  have hcase : (qe ≠ 0) ∨ (qe = 0 ∧ er ≠ 0) ∨ (qe = 0 ∧ er = 0 ∧ ge ≠ 0) ∨ (qe = 0 ∧ er = 0 ∧ ge = 0 ∧ qf = false) ∨ (qe = 0 ∧ er = 0 ∧ ge = 0 ∧ qf = true ∧ is = false) ∨ (qe = 0 ∧ er = 0 ∧ ge = 0 ∧ qf = true ∧ is = true) := by
    by_cases h1 : qe = 0
    · by_cases h2 : er = 0
      · by_cases h3 : ge = 0
        · cases qf with
          | false => exact .inr (.inr (.inr (.inl ⟨h1, h2, h3, rfl⟩)))
          | true => cases is with
            | false => exact .inr (.inr (.inr (.inr (.inl ⟨h1, h2, h3, rfl, rfl⟩))))
            | true => exact .inr (.inr (.inr (.inr (.inr ⟨h1, h2, h3, rfl, rfl⟩))))
        · exact .inr (.inr (.inl ⟨h1, h2, h3⟩))
      · exact .inr (.inl ⟨h1, h2⟩)
    · exact .inl h1
  rcases hcase with h | ⟨rfl, h⟩ | ⟨rfl, rfl, h⟩ | ⟨rfl, rfl, rfl, rfl⟩ | ⟨rfl, rfl, rfl, rfl, rfl⟩ | ⟨rfl, rfl, rfl, rfl, rfl⟩
  · have hne : (qe != 0) = true := by simpa using h
    clear h hM Hs
    go_wp2_with fail
    refine (joinBegun_any _).mono ?_
    rintro e u4 ⟨rfl, b4⟩
    go_wp2
    go_ret
    exact ⟨rfl, B3.trans (b4.mono B3.size)⟩
  · have hne : (er != 0) = true := by simpa using h
    clear h hM Hs
    go_wp2_with fail
    refine (joinBegun_any _).mono ?_
    rintro e u4 ⟨rfl, b4⟩
    go_wp2
    go_ret
    exact ⟨rfl, B3.trans (b4.mono B3.size)⟩
  · have hne : (ge != 0) = true := by simpa using h
    clear h hM Hs
    go_wp2_with fail
    refine (joinBegun_any _).mono ?_
    rintro e u4 ⟨rfl, b4⟩
    go_wp2
    go_ret
    exact ⟨rfl, B3.trans (b4.mono B3.size)⟩
  · clear hM Hs
    go_wp2_with fail
    refine (joinBegun_any _).mono ?_
    rintro e u4 ⟨rfl, b4⟩
    go_wp2
    go_ret
    exact ⟨rfl, B3.trans (b4.mono B3.size)⟩
  · clear hM Hs
    go_wp2_with fail
    refine (joinBegun_any _).mono ?_
    rintro e u4 ⟨rfl, b4⟩
    go_wp2
    go_ret
    exact ⟨rfl, B3.trans (b4.mono B3.size)⟩
  · obtain ⟨P, hP0, hPs, hPf⟩ := hM.out 0 rfl rfl Hs.out rfl
    have HPs := hid hPs
    have HPf := hid hPf
    have lx := Hlx.out rfl
    clear hM Hs hPs hPf Hlx
    go_wp2
    go_loopw [16, 17] (fun tv v wr => ∃ (k : Nat) (u : List Int) (a : Option Addr) (c : Nat), k ≤ 60 ∧ v = .int .i64 (k : Int) ∧ tv = .slice a u.length c ∧ Hid (Ints wr.heap.size wr a u) ∧ u.length ≤ c ∧ c ≤ maxLen ∧ Hid (P u) ∧ Below u3.heap.size u3 wr) (fun _ v _ => 61 - (intOf v).toNat)
    case atStart => exact ⟨0, t, a2, cap2, by omega, rfl, rfl, hid (HT.out u3 B3), ht1, ht2, hid hP0, Below.refl _ _⟩
    case round =>
      obtain ⟨k, u, a, c, hk, rfl, rfl, hIu, hc1, hc2, hPu, hB⟩ := hrel
      have BW := B3.trans (hB.mono B3.size)
      by_cases hlt : k < pk.length ∧ k < 60
      · obtain ⟨hl1, hl2⟩ := hlt
        have hl1' : (k : Int) < (pk.length : Int) := by omega
        have hl2' : (k : Int) < 60 := by omega
        have hC := hid (hS.out wr BW u a c hIu.out hc1 hc2)
        by_cases he : Tm.stepErr rs u = 0
        · rw [he] at hC
          by_cases hn : (Tm.stepVal rs u).length = 0
          · rw [List.eq_nil_of_length_eq_zero hn] at hC
            clear hn
            have hCf := hid (fun W (hW : Below wr.heap.size wr W) => hY.out W (BW.trans (hW.mono BW.size)) u a c ((hIu.out.below hW).mono hW.size) hc1 hc2)
            have hend := hid (HPf.out u hPu.out)
            clear hS hY HPs HPf hPu
            obtain ⟨⟨y, m, ye⟩, hfy⟩ : ∃ p, Tm.form rs u = p := ⟨_, rfl⟩
            rw [hfy] at hCf hend
            simp only at hCf hend
            clear hfy
            by_cases hye : ye = 0
            · subst hye
              have hxy := hend.out rfl
              subst hxy
              have hSm := hid (fun W ua va cu cv (hu : Ints W.heap.size W ua x) (hv : Ints W.heap.size W va x) => same_any x x ua va cu cv W hu hv (by unfold maxLen; omega))
              rw [show sameB x x = true by simp [sameB]] at hSm
              go_wp2_with fail
              refine hC.out.mono ?_
              rintro e w4 ⟨v4, rfl, hN4, b4⟩
              obtain ⟨va, vc, rfl⟩ := hN4.slice
              have B4 := hB.trans (b4.mono hB.size)
              have B4w := BW.trans (b4.mono BW.size)
              clear hC hN4
              go_wp2_with fail
              refine (hCf.out w4 b4).mono ?_
              rintro e w5 ⟨v5, rfl, hN5, b5⟩
              obtain ⟨x5, c5, rfl, i5, _⟩ := New.ints hN5
              have B5 := B4.trans (b5.mono B4.size)
              have B5w := B4w.trans (b5.mono B4w.size)
              clear hCf hN5
              go_wp2_with fail
              refine (joinBegun_any _).mono ?_
              rintro e w6 ⟨rfl, b6⟩
              have B6 := B5.trans (b6.mono B5.size)
              have B6w := B5w.trans (b6.mono B5w.size)
              go_wp2_with fail
              refine (hSm.out w6 x3 x5 c3 c5 ((I3.out.below B6).mono B6.size) ((i5.below b6).mono b6.size)).mono ?_
              rintro e w7 ⟨rfl, b7⟩
              go_wp2
              go_ret
              exact ⟨rfl, B6w.trans (b7.mono B6w.size)⟩
            · have hne : (ye != 0) = true := by simpa using hye
              clear hye hend
              go_wp2_with fail
              refine hC.out.mono ?_
              rintro e w4 ⟨v4, rfl, hN4, b4⟩
              obtain ⟨va, vc, rfl⟩ := hN4.slice
              have B4w := BW.trans (b4.mono BW.size)
              clear hC hN4
              go_wp2_with fail
              refine (hCf.out w4 b4).mono ?_
              rintro e w5 ⟨v5, rfl, hN5, b5⟩
              obtain ⟨x5, c5, rfl, i5, _⟩ := New.ints hN5
              have B5w := B4w.trans (b5.mono B4w.size)
              clear hCf hN5
              go_wp2_with fail
              refine (joinBegun_any _).mono ?_
              rintro e w6 ⟨rfl, b6⟩
              go_wp2
              go_ret
              exact ⟨rfl, B5w.trans (b6.mono B5w.size)⟩
          · have hp : 0 < (Tm.stepVal rs u).length := by omega
            have hle := Tm.stepVal_le rs u
            have hstep := hid (fun s hs => HPs.out u s hPu.out he hs)
            clear he hn hPu hIu
            generalize Tm.stepVal rs u = sts at *
            have hpi : (0 : Int) < (sts.length : Int) := by omega
            have hne : ((sts.length : Int) == 0) = false := len_no (by omega)
            obtain ⟨bp, op, rfl, _, cp⟩ := (HP.out wr BW).at (by omega)
            have hcp := hid (fun W (hW : Below wr.heap.size wr W) => (hW.cell (p := ⟨bp, op + k, none⟩) (by simpa using lt_of_cell (cp k hl1))).trans (cp k hl1))
            have hwk : (Lit.int .i64 (pk[k]?.getD 0)).wf = true := Hwf.out _ (by rw [List.getElem?_eq_getElem hl1, Option.getD_some]; exact List.getElem_mem hl1)
            clear cp
            generalize pk[k]?.getD 0 = pn at *
            have hch := hid (fun W => choose_is pn sts.length hwk hp hle W)
            have hjl := chN_lt pn hp
            generalize chN pn sts.length = j at *
            have hji : (j : Int) < (sts.length : Int) := by omega
            go_wp2_with fail
            refine hC.out.mono ?_
            rintro e w4 ⟨v4, rfl, hN4, b4⟩
            obtain ⟨g, cg, rfl, hat⟩ := hN4.at hp
            obtain ⟨x0, y0, _, _, c02, i0, q0, q1⟩ := hat j hjl
            have hmem : sts[j]?.getD (0, 0, []) ∈ sts := by rw [List.getElem?_eq_getElem hjl, Option.getD_some]; exact List.getElem_mem hjl
            have hPn := hid (hstep.out _ hmem)
            have hck := hcp.out w4 b4
            clear hat hC hN4 hmem hstep
            generalize (sts[j]?.getD (0, 0, [])).2.2 = u1 at *
            go_wp2_with fail
            refine (hch.out w4).mono ?_
            rintro e w4 ⟨rfl, rfl⟩
            clear hch
            go_wp2
            go_roundw
            case rel => exact ⟨k + 1, u1, x0, y0, by omega, by go_num, rfl, hid i0, q0, q1, hPn, hB.trans (b4.mono hB.size)⟩
            case measure => simp [intOf]; omega
        · have hne : (Tm.stepErr rs u != 0) = true := by simpa using he
          clear he hPu hIu
          generalize Tm.stepErr rs u = q at *
          go_wp2_with fail
          refine hC.out.mono ?_
          rintro e w4 ⟨v4, rfl, hN4, b4⟩
          obtain ⟨va, vc, rfl⟩ := hN4.slice
          clear hC hN4
          go_wp2_with fail
          refine (joinBegun_any _).mono ?_
          rintro e w6 ⟨rfl, b6⟩
          go_wp2
          go_ret
          have B4w := BW.trans (b4.mono BW.size)
          exact ⟨rfl, B4w.trans (b6.mono B4w.size)⟩
      · have hor : ((k : Int) < (pk.length : Int) ∧ ¬ (k : Int) < 60) ∨ ¬ (k : Int) < (pk.length : Int) := by omega
        have hCf := hid (hY.out wr BW u a c hIu.out hc1 hc2)
        have hend := hid (HPf.out u hPu.out)
        clear hS hY HPs HPf hPu hlt
        obtain ⟨⟨y, m, ye⟩, hfy⟩ : ∃ p, Tm.form rs u = p := ⟨_, rfl⟩
        rw [hfy] at hCf hend
        simp only at hCf hend
        clear hfy
        by_cases hye : ye = 0
        · subst hye
          have hxy := hend.out rfl
          subst hxy
          have hSm := hid (fun W ua va cu cv (hu : Ints W.heap.size W ua x) (hv : Ints W.heap.size W va x) => same_any x x ua va cu cv W hu hv (by unfold maxLen; omega))
          rw [show sameB x x = true by simp [sameB]] at hSm
          rcases hor with ⟨hk1, hk2⟩ | hk1
          all_goals
            go_wp2_with fail
            refine hCf.out.mono ?_
            rintro e w5 ⟨v5, rfl, hN5, b5⟩
            obtain ⟨x5, c5, rfl, i5, _⟩ := New.ints hN5
            have B5 := hB.trans (b5.mono hB.size)
            have B5w := BW.trans (b5.mono BW.size)
            clear hCf hN5
            go_wp2_with fail
            refine (joinBegun_any _).mono ?_
            rintro e w6 ⟨rfl, b6⟩
            have B6 := B5.trans (b6.mono B5.size)
            have B6w := B5w.trans (b6.mono B5w.size)
            go_wp2_with fail
            refine (hSm.out w6 x3 x5 c3 c5 ((I3.out.below B6).mono B6.size) ((i5.below b6).mono b6.size)).mono ?_
            rintro e w7 ⟨rfl, b7⟩
            go_wp2
            go_ret
            exact ⟨rfl, B6w.trans (b7.mono B6w.size)⟩
        · have hne : (ye != 0) = true := by simpa using hye
          clear hye hend
          rcases hor with ⟨hk1, hk2⟩ | hk1
          all_goals
            go_wp2_with fail
            refine hCf.out.mono ?_
            rintro e w5 ⟨v5, rfl, hN5, b5⟩
            obtain ⟨x5, c5, rfl, i5, _⟩ := New.ints hN5
            have B5w := BW.trans (b5.mono BW.size)
            clear hCf hN5
            go_wp2_with fail
            refine (joinBegun_any _).mono ?_
            rintro e w6 ⟨rfl, b6⟩
            go_wp2
            go_ret
            exact ⟨rfl, B5w.trans (b6.mono B5w.size)⟩

/-! The row. -/
set_option maxRecDepth 100000 in
theorem lifted (os : Os) (started : os.Started) (H : Type) (enc : TypeId × Value → H) :
    ReturnsInHanded {} Try.checked os 4 .any (Rows.joinTrueSpec.pre6 enc Try.prog Try.f4 Rows.joinTrueRow.domain false) (Rows.joinTrueSpec.post enc Try.prog Try.f4 false true false false) := by
  refine returnsInHanded_of_change (C := Try.checked) own started (by kernel_rfl) Try.func4
    (ChangeSpec.witness6 (enc := enc) (C := Try.checked) false ⟨#[], #[.slice none 0 0, .slice none 0 0, .slice none 0 0, .slice none 0 0], []⟩ 8 (by kernel_rfl) (by kernel_rfl) (by kernel_rfl) (by kernel_rfl)) ?_
  intro W base args ds gs before hval0 hW hcnd _
  have hval : ∀ (j : Nat) t v, Try.f4.params[j]? = some t → args[j]? = some v → Value.okWide Try.prog W .any base t v := hval0
  have hW' := hW
  obtain ⟨p, q, hA0, hV, rfl, hfz, hnd⟩ := hW
  have hA : DataW.TrodAll enc Try.prog W 0 (fun _ => true) true Try.f4.params.toList args.toList ds p := hA0
  rw [Try.params4] at hA hval
  obtain ⟨v0, vs0, d0, ds0, p0, q0, hargs, rfl, rfl, h0, r0⟩ := trodAll_cons hA
  obtain ⟨v1, vs1, d1, ds1, p1, q1, rfl, rfl, rfl, h1, r1⟩ := trodAll_cons r0
  obtain ⟨v2, vs2, d2, ds2, p2, q2, rfl, rfl, rfl, h2, r2⟩ := trodAll_cons r1
  obtain ⟨v3, vs3, d3, ds3, p3, q3, rfl, rfl, rfl, h3, r3⟩ := trodAll_cons r2
  obtain ⟨rfl, rfl, rfl⟩ := trodAll_nil r3
  obtain rfl : args = #[v0, v1, v2, v3] := by cases args; simp_all
  obtain ⟨rfl, rfl⟩ := trodVars_none hV
  obtain ⟨a0, len0, cap0, rfl⟩ := okWide_slice Try.underlying36 (hval 0 36 v0 rfl rfl)
  have k0 := h0
  have lt0 : ∀ x ∈ p0, x.block < W.heap.size := by obtain ⟨m, hm⟩ := k0; exact DataW.trod_lt m _ _ _ hm
  have w0 : TermIn W a0 len0 cap0 := by
    obtain ⟨fuel, hf⟩ := h0
    rcases open_ints Try.underlying36 Try.underlying3 (by kernel_rfl) hf with ⟨hcs, _⟩ | ⟨x, l, c, zs, hcs, _, hl, hm, hz, _, hcell, hwz⟩
    · simp [Value.cells] at hcs
      obtain ⟨rfl, rfl, rfl⟩ := hcs
      exact ints_of_row (.inl ⟨rfl, rfl, rfl, rfl⟩)
    · simp [Value.cells] at hcs
      obtain ⟨rfl, rfl, rfl⟩ := hcs
      exact ints_of_row (.inr ⟨_, rfl, hl, hm, by simpa using hz, hcell, hwz⟩)
  obtain ⟨a1, len1, cap1, rfl⟩ := okWide_slice Try.underlying22 (hval 1 22 v1 rfl rfl)
  have k1 := h1
  have lt1 : ∀ x ∈ p1, x.block < W.heap.size := by obtain ⟨m, hm⟩ := k1; exact DataW.trod_lt m _ _ _ hm
  have w1 : RulesIn W a1 len1 cap1 := by
    obtain ⟨fuel, hf⟩ := h1
    exact rulesIn_open Try.underlying22 Try.underlying39 (by kernel_rfl) rfl rfl rfl rfl (by simp [Value.cells]) hf
  obtain ⟨a2, len2, cap2, rfl⟩ := okWide_slice Try.underlying37 (hval 2 37 v2 rfl rfl)
  have k2 := h2
  have lt2 : ∀ x ∈ p2, x.block < W.heap.size := by obtain ⟨m, hm⟩ := k2; exact DataW.trod_lt m _ _ _ hm
  have w2 : TermIn W a2 len2 cap2 := by
    obtain ⟨fuel, hf⟩ := h2
    rcases open_ints Try.underlying37 Try.underlying3 (by kernel_rfl) hf with ⟨hcs, _⟩ | ⟨x, l, c, zs, hcs, _, hl, hm, hz, _, hcell, hwz⟩
    · simp [Value.cells] at hcs
      obtain ⟨rfl, rfl, rfl⟩ := hcs
      exact ints_of_row (.inl ⟨rfl, rfl, rfl, rfl⟩)
    · simp [Value.cells] at hcs
      obtain ⟨rfl, rfl, rfl⟩ := hcs
      exact ints_of_row (.inr ⟨_, rfl, hl, hm, by simpa using hz, hcell, hwz⟩)
  obtain ⟨a3, len3, cap3, rfl⟩ := okWide_slice Try.underlying36 (hval 3 36 v3 rfl rfl)
  have k3 := h3
  have lt3 : ∀ x ∈ p3, x.block < W.heap.size := by obtain ⟨m, hm⟩ := k3; exact DataW.trod_lt m _ _ _ hm
  have w3 : PicksIn W a3 len3 cap3 := by
    obtain ⟨fuel, hf⟩ := h3
    rcases open_ints Try.underlying36 Try.underlying3 (by kernel_rfl) hf with ⟨hcs, _⟩ | ⟨x, l, c, zs, hcs, _, hl, hm, hz, _, hcell, hwz⟩
    · simp [Value.cells] at hcs
      obtain ⟨rfl, rfl, rfl⟩ := hcs
      exact picks_of_row (.inl ⟨rfl, rfl, rfl, rfl⟩)
    · simp [Value.cells] at hcs
      obtain ⟨rfl, rfl, rfl⟩ := hcs
      exact picks_of_row (.inr ⟨_, rfl, hl, hm, by simpa using hz, hcell, hwz⟩)
  clear hA0 hval0
  refine (walk a0 len0 cap0 a1 len1 cap1 a2 len2 cap2 a3 len3 cap3 W w0 w1 w2 w3).mono fun e W' ⟨he, bel⟩ => ?_
  subst he
  exact ⟨_, rfl, _, _, _, [], _, [], hW', trodAll_mk1 (shut_bool Try.underlying4 _), (trodAll_cons_mk (Below.trod laidOut (by kernel_rfl) (of_decide_eq_true (by kernel_rfl)) k0 bel lt0) (trodAll_cons_mk (Below.trod laidOut (by kernel_rfl) (of_decide_eq_true (by kernel_rfl)) k1 bel lt1) (trodAll_cons_mk (Below.trod laidOut (by kernel_rfl) (of_decide_eq_true (by kernel_rfl)) k2 bel lt2) (trodAll_cons_mk (Below.trod laidOut (by kernel_rfl) (of_decide_eq_true (by kernel_rfl)) k3 bel lt3) trodAll_mk0)))), rfl, bel.frame _, fun h => by cases h⟩

theorem over : Rows.joinTrueRow.holds Try.pinned (OpenSpec.ofChange Rows.joinTrueSpec) :=
  OpenClaim.holds_of_wide 4 Try.f4 rfl rfl rfl rfl rfl rfl rfl ⟨rfl, rfl, rfl, rfl, rfl⟩ rfl rfl rfl rfl rfl (by kernel_rfl) Try.func4 (by kernel_rfl)
    (of_decide_eq_true (by kernel_rfl)) (by unfold Func.isWrapper; first | (rw [if_pos (by decide +kernel)]; kernel_rfl) | (rw [if_neg (by decide +kernel)]; exact ⟨rfl, rfl⟩))
    (fun os started H enc _ => lifted os started H enc)

/-- The statement. -/
theorem proved : Rows.JoinTrueSaid := over
#print axioms proved
end Go.Proofs.Ytgeknojpcjadkaa.joinTrue
