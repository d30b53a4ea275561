/-
  Whatever two lists of signs and whatever list of lists of signs MatchTrue is handed, it answers true and changes nothing that it was handed: by what fits the one becomes the other; what was made of it by any list fits; each term fits itself. No condition.
-/
import Derived.Test.YtbelnlemjcoifaaRows
import Derived.WalkKit
import Derived.ProofKit
import Derived.OpenShut
import Derived.ChangeOld
import Derived.Below
import Derived.Deep.Matrix
import Derived.Test.YtbelnlemjcoifaaRow2
import Derived.Test.YtbelnlemjcoifaaMTrue2
namespace Go.Proofs.Ytbelnlemjcoifaa.matchTrue
open Go.ChangeShapes Go.WideShapes Go.ChangeAt Go.RowKit Go.Deep Go.Shelf Go.Maps
set_option linter.unusedVariables false

theorem own : ownKnob Try.prog.godebug = none := by kernel_rfl
theorem laidOut : laidOutB Try.prog = true := by kernel_rfl

/-! The walk. -/
set_option maxRecDepth 100000 in
set_option maxHeartbeats 2000000 in
theorem walk (a0 : Option Addr) (len0 cap0 : Nat) (a1 : Option Addr) (len1 cap1 : Nat) (a2 : Option Addr) (len2 cap2 : Nat) (w : World) (w0 : TermIn w a0 len0 cap0) (w1 : TermIn w a1 len1 cap1) (w2 : SubsIn w a2 len2 cap2) :
    Calls Try.prog 11 #[.slice a0 len0 cap0, .slice a1 len1 cap1, .slice a2 len2 cap2] w fun e w' => e = .returned (.bool true) ∧ Below w.heap.size w w' := by
  obtain ⟨p, rfl, hP, hp1, hp2, hp3⟩ := w0
  obtain ⟨t, rfl, hT, ht1, ht2, ht3⟩ := w1
  obtain ⟨ss, rfl, hS, hs1, hs2⟩ := w2
  have hF := Fit_any p t a0 a1 cap0 cap1 w hP hT ⟨hp1, hp2, hp3⟩ ⟨ht1, ht2, ht3⟩
  by_cases he : Tm.fitErr p t = 0
  · obtain ⟨hp, ht⟩ := Tm.fitErr_ok he
    obtain ⟨hse, hsi⟩ := Tm.fit_self hp
    have hFp := hid (fun W (hW : Below w.heap.size w W) => Fit_any p p a0 a0 cap0 cap0 W ((hP.below hW).mono hW.size) ((hP.below hW).mono hW.size) ⟨hp1, hp2, hp3⟩ ⟨hp1, hp2, hp3⟩)
    rw [hse, hsi] at hFp
    have hAs := hid (fun W (hW : Below w.heap.size w W) => apply_any ss p a2 a0 cap2 cap0 W ((hS.below hW).mono hW.size) ((hP.below hW).mono hW.size))
    have hFm := hid (fun W (hW : Below w.heap.size w W) (ms : List Int) am cm (hM : Ints W.heap.size W am ms) hc => Fit_any p ms a0 am cap0 cm W ((hP.below hW).mono hW.size) hM ⟨hp1, hp2, hp3⟩ hc)
    have HP := hid hP
    have HS := hid hS
    have HE := hid hp
    have hl30 := Tm.err_len hp
    have hl30' : (p.length : Int) ≤ 30 := by omega
    rw [he] at hF
    clear he hse hsi hS
    cases hf : Tm.fit p t with
    | none =>
      obtain ⟨e1, e2⟩ := Tm.fit_no (Tm.fitErr_of hp ht) hf
      rw [e1, e2] at hF
      clear e1 e2 hf hp ht hP hT
      go_enter Try.func11, Try.ntmps11
      go_wp2_with fail
      refine hF.mono ?_
      rintro e w1 ⟨v1, rfl, hN1, hB1⟩
      obtain ⟨x1, c1, rfl, _⟩ := NewS.subs hN1
      clear hF hN1
      have hB := hB1
      clear hB1
      go_wp2_with fail
      refine (hFp.out _ hB).mono ?_
      rintro e w5 ⟨v5, rfl, hN5, hB5⟩
      obtain ⟨x5, c5, rfl, _⟩ := NewS.subs hN5
      have hB6 := hB.trans (hB5.mono hB.size)
      clear hN5 hB5 hFp
      generalize (Tm.fitVal p p).length = q5
      by_cases ha : Tm.applyErr ss p = 0
      · obtain ⟨hse, _, hle, hav⟩ := Tm.apply_zero ha
        obtain ⟨r1, r2, r3, r4⟩ := Tm.fit_of_made HE.out hse hle
        rw [ha, hav] at hAs
        have hl8 := (Tm.subErr_ok hse).1
        have HR4 := hid r4
        have hFm' := hid (fun W hW am cm hM hc => hFm.out W hW (Tm.applied ss p) am cm hM hc)
        rw [r1, r2] at hFm'
        rw [hl8] at hAs ⊢
        clear hFm ha hse hav r1 r2 r4
        have hle' := hid hle
        generalize Tm.applied ss p = ms at *
        generalize Tm.fitVal p ms = fv at *
        have hl8' := hid hl8
        clear hl8
        go_wp2_with fail
        refine (hAs.out _ hB6).mono ?_
        rintro e w6 ⟨v6, rfl, hN6, hB7⟩
        have hcm := New.ints hN6
        obtain ⟨x6, c6, rfl, hI6, hz6⟩ := new_ints0 hN6
        have hcc : ms.length ≤ c6 ∧ c6 ≤ maxLen ∧ (x6 = none → c6 = 0) := by
          obtain ⟨_, _, e1, _, h1, h2⟩ := hcm
          cases e1
          exact ⟨h1, h2, fun e => (hz6 e).2⟩
        have hB8 := hB6.trans (hB7.mono hB6.size)
        clear hN6 hB7 hB6 hAs hcm hz6
        have hFz := hFm'.out _ hB8 _ _ hI6 hcc
        clear hFm' hI6 hcc
        go_wp2_with fail
        refine hFz.mono ?_
        rintro e w7 ⟨v7, rfl, hN7, hB9⟩
        obtain ⟨x7, c7, rfl, hS7, _⟩ := NewS.subs hN7
        rw [r3]
        have hB10 := hB8.trans (hB9.mono hB8.size)
        clear hFz hN7 hB9 hB8
        have HS7 := hid hS7
        have HS0 := hid (HS.out.below hB10)
        have HP0 := hid (HP.out.below hB10)
        have r3' := hid r3
        clear hS7 r3 HS HP
        go_wp2
        go_loopw [20] (fun i wr => ∃ k : Nat, k ≤ p.length ∧ i = .int .i64 (k : Int) ∧ Below w7.heap.size w7 wr) (fun i _ => p.length - (intOf i).toNat)
        case atStart => exact ⟨0, Nat.zero_le _, rfl, Below.refl _ _⟩
        case round =>
          obtain ⟨k, hk, rfl, hBk⟩ := hrel
          by_cases hlt : k < p.length
          · have hlt' : (k : Int) < (p.length : Int) := by omega
            have hs8 := Tm.known_ge (Tm.all_at (Tm.err_all HE.out) hlt)
            have hs6 := Tm.known_lt (Tm.all_at (Tm.err_all HE.out) hlt)
            obtain ⟨b, off, rfl, hb, hc⟩ := (HP0.out.mono hB10.size |>.below hBk).at (by omega)
            have hck := hc k hlt
            have hr := hid (fun h => HR4.out k hlt h)
            clear hc
            generalize p[k]?.getD 0 = s at *
            by_cases hneg : s < 0
            · obtain ⟨j, rfl⟩ : ∃ j : Nat, s = -1 - (j : Int) := ⟨(-1 - s).toNat, by omega⟩
              have hj : j < 8 := by omega
              have hj' : (j : Int) < 8 := by omega
              have hrj := hr.out hneg
              rw [show (-(-1 - (j : Int)) - 1).toNat = j from by omega] at hrj
              obtain ⟨b1, o1, rfl, hb1, hc1⟩ := (HS7.out.below hBk).at (by rw [r3'.out]; omega)
              obtain ⟨ax, cx, hx, hIx, qx, qx2, _⟩ := hc1 j (by rw [r3'.out]; omega)
              obtain ⟨b2, o2, rfl, hb2, hc2⟩ := ((HS0.out.mono hB10.size).below hBk).at (by rw [hl8'.out]; omega)
              obtain ⟨ay, cy, hy, hIy, _⟩ := hc2 j (by rw [hl8'.out]; omega)
              rw [hrj] at hx hIx qx
              have hq : ∀ n : Nat, Calls Try.prog 21 #[.slice ax (ss[j]?.getD []).length cx, .slice ay (ss[j]?.getD []).length cy] (wr.drewN n) fun e w' => e = .returned (.bool true) ∧ ∃ m, w' = (wr.drewN n).drewN m := fun n => by
                have h := same_quiet (ss[j]?.getD []) (ss[j]?.getD []) ax ay cx cy w7.heap.size (wr.drewN n) hIx hIy (by omega)
                rw [show sameB (ss[j]?.getD []) (ss[j]?.getD []) = true by simp [sameB]] at h
                exact h
              have HQ := hid hq
              have hsub : -(-1 - (j : Int)) - 1 = (j : Int) := by omega
              clear hc1 hc2 hIx hIy hq hr hrj qx qx2
              generalize (ss[j]?.getD []).length = ln at *
              go_wp2
              go_quiet ((go_at_call 21; exact Calls.quiet_of (HQ.out _)))
              go_wp2
              go_roundw
              case rel => exact ⟨k + 1, by omega, by go_num, below_drewN hBk _⟩
              case measure => simp [intOf]; omega
            · have hd : decide (s < 0) = false := by simpa using hneg
              clear hr
              go_wp2
              go_quiet (fail)
              go_wp2
              go_roundw
              case rel => exact ⟨k + 1, by omega, by go_num, below_drewN hBk _⟩
              case measure => simp [intOf]; omega
          · obtain rfl : k = p.length := by omega
            go_wp2_with fail
            refine (matchBegun_any _).mono ?_
            rintro e w8 ⟨rfl, hB11⟩
            go_wp2
            go_ret
            exact ⟨rfl, hB10.trans ((hBk.trans (hB11.mono hBk.size)).mono hB10.size)⟩
      · have hne : (Tm.applyErr ss p != 0) = true := by simp [ha]
        clear ha HS HP hFm
        generalize Tm.applyErr ss p = q at *
        generalize Tm.applyVal ss p = q2 at *
        go_wp2_with fail
        refine (hAs.out _ hB6).mono ?_
        rintro e w6 ⟨v6, rfl, hN6, hB7⟩
        obtain ⟨x6, c6, rfl, _⟩ := New.ints hN6
        have hB8 := hB6.trans (hB7.mono hB6.size)
        clear hN6 hB7 hB6 hAs
        go_wp2_with fail
        refine (matchBegun_any _).mono ?_
        rintro e w7 ⟨rfl, hB9⟩
        go_wp2
        go_ret
        exact ⟨rfl, hB8.trans (hB9.mono hB8.size)⟩
    | some m =>
      obtain ⟨e1, e2⟩ := Tm.fit_yes (Tm.fitErr_of hp ht) hf
      rw [e1, e2] at hF
      obtain ⟨g1, g2⟩ := Tm.fit_apply hp ht hf
      have hAx := hid (fun W (hW : Below w.heap.size w W) ax cx (hX : Subs W.heap.size W ax (Tm.fitL m 8)) => apply_any (Tm.fitL m 8) p ax a0 cx cap0 W hX ((hP.below hW).mono hW.size))
      rw [g1, g2] at hAx
      have hlen : (Tm.fitL m 8).length = 8 := Tm.fitL_length m 8
      rw [hlen] at hAx
      have ht30 := Tm.err_len ht
      have hSt := hid (fun W (hW : Below w.heap.size w W) b c (hI : Ints W.heap.size W b t) => same_any t t b a1 c cap1 W hI ((hT.below hW).mono hW.size) (by unfold maxLen; omega))
      rw [show sameB t t = true by simp [sameB]] at hSt
      clear e1 e2 g1 g2 hf hp ht hP hT
      generalize Tm.fitL m 8 = fl at *
      go_enter Try.func11, Try.ntmps11
      go_wp2_with fail
      refine hF.mono ?_
      rintro e w1 ⟨v1, rfl, hN1, hB1⟩
      obtain ⟨x1, c1, rfl, hS1, _⟩ := NewS.subs hN1
      rw [hlen]
      clear hF hN1
      go_wp2_with fail
      refine (hAx.out _ hB1 _ _ hS1).mono ?_
      rintro e w2 ⟨v2, rfl, hN2, hB2⟩
      obtain ⟨x2, c2, rfl, hI2, _⟩ := New.ints hN2
      have hB3 := hB1.trans (hB2.mono hB1.size)
      clear hN2 hS1 hAx
      go_wp2_with fail
      refine (hSt.out _ hB3 _ _ hI2).mono ?_
      rintro e w3 ⟨rfl, hB4⟩
      have hB := hB3.trans (hB4.mono hB3.size)
      clear hB1 hB2 hB3 hB4 hI2 hSt
      go_wp2_with fail
      refine (hFp.out _ hB).mono ?_
      rintro e w5 ⟨v5, rfl, hN5, hB5⟩
      obtain ⟨x5, c5, rfl, _⟩ := NewS.subs hN5
      have hB6 := hB.trans (hB5.mono hB.size)
      clear hN5 hB5 hFp
      generalize (Tm.fitVal p p).length = q5
      by_cases ha : Tm.applyErr ss p = 0
      · obtain ⟨hse, _, hle, hav⟩ := Tm.apply_zero ha
        obtain ⟨r1, r2, r3, r4⟩ := Tm.fit_of_made HE.out hse hle
        rw [ha, hav] at hAs
        have hl8 := (Tm.subErr_ok hse).1
        have HR4 := hid r4
        have hFm' := hid (fun W hW am cm hM hc => hFm.out W hW (Tm.applied ss p) am cm hM hc)
        rw [r1, r2] at hFm'
        rw [hl8] at hAs ⊢
        clear hFm ha hse hav r1 r2 r4
        have hle' := hid hle
        generalize Tm.applied ss p = ms at *
        generalize Tm.fitVal p ms = fv at *
        have hl8' := hid hl8
        clear hl8
        go_wp2_with fail
        refine (hAs.out _ hB6).mono ?_
        rintro e w6 ⟨v6, rfl, hN6, hB7⟩
        have hcm := New.ints hN6
        obtain ⟨x6, c6, rfl, hI6, hz6⟩ := new_ints0 hN6
        have hcc : ms.length ≤ c6 ∧ c6 ≤ maxLen ∧ (x6 = none → c6 = 0) := by
          obtain ⟨_, _, e1, _, h1, h2⟩ := hcm
          cases e1
          exact ⟨h1, h2, fun e => (hz6 e).2⟩
        have hB8 := hB6.trans (hB7.mono hB6.size)
        clear hN6 hB7 hB6 hAs hcm hz6
        have hFz := hFm'.out _ hB8 _ _ hI6 hcc
        clear hFm' hI6 hcc
        go_wp2_with fail
        refine hFz.mono ?_
        rintro e w7 ⟨v7, rfl, hN7, hB9⟩
        obtain ⟨x7, c7, rfl, hS7, _⟩ := NewS.subs hN7
        rw [r3]
        have hB10 := hB8.trans (hB9.mono hB8.size)
        clear hFz hN7 hB9 hB8
        have HS7 := hid hS7
        have HS0 := hid (HS.out.below hB10)
        have HP0 := hid (HP.out.below hB10)
        have r3' := hid r3
        clear hS7 r3 HS HP
        go_wp2
        go_loopw [20] (fun i wr => ∃ k : Nat, k ≤ p.length ∧ i = .int .i64 (k : Int) ∧ Below w7.heap.size w7 wr) (fun i _ => p.length - (intOf i).toNat)
        case atStart => exact ⟨0, Nat.zero_le _, rfl, Below.refl _ _⟩
        case round =>
          obtain ⟨k, hk, rfl, hBk⟩ := hrel
          by_cases hlt : k < p.length
          · have hlt' : (k : Int) < (p.length : Int) := by omega
            have hs8 := Tm.known_ge (Tm.all_at (Tm.err_all HE.out) hlt)
            have hs6 := Tm.known_lt (Tm.all_at (Tm.err_all HE.out) hlt)
            obtain ⟨b, off, rfl, hb, hc⟩ := (HP0.out.mono hB10.size |>.below hBk).at (by omega)
            have hck := hc k hlt
            have hr := hid (fun h => HR4.out k hlt h)
            clear hc
            generalize p[k]?.getD 0 = s at *
            by_cases hneg : s < 0
            · obtain ⟨j, rfl⟩ : ∃ j : Nat, s = -1 - (j : Int) := ⟨(-1 - s).toNat, by omega⟩
              have hj : j < 8 := by omega
              have hj' : (j : Int) < 8 := by omega
              have hrj := hr.out hneg
              rw [show (-(-1 - (j : Int)) - 1).toNat = j from by omega] at hrj
              obtain ⟨b1, o1, rfl, hb1, hc1⟩ := (HS7.out.below hBk).at (by rw [r3'.out]; omega)
              obtain ⟨ax, cx, hx, hIx, qx, qx2, _⟩ := hc1 j (by rw [r3'.out]; omega)
              obtain ⟨b2, o2, rfl, hb2, hc2⟩ := ((HS0.out.mono hB10.size).below hBk).at (by rw [hl8'.out]; omega)
              obtain ⟨ay, cy, hy, hIy, _⟩ := hc2 j (by rw [hl8'.out]; omega)
              rw [hrj] at hx hIx qx
              have hq : ∀ n : Nat, Calls Try.prog 21 #[.slice ax (ss[j]?.getD []).length cx, .slice ay (ss[j]?.getD []).length cy] (wr.drewN n) fun e w' => e = .returned (.bool true) ∧ ∃ m, w' = (wr.drewN n).drewN m := fun n => by
                have h := same_quiet (ss[j]?.getD []) (ss[j]?.getD []) ax ay cx cy w7.heap.size (wr.drewN n) hIx hIy (by omega)
                rw [show sameB (ss[j]?.getD []) (ss[j]?.getD []) = true by simp [sameB]] at h
                exact h
              have HQ := hid hq
              have hsub : -(-1 - (j : Int)) - 1 = (j : Int) := by omega
              clear hc1 hc2 hIx hIy hq hr hrj qx qx2
              generalize (ss[j]?.getD []).length = ln at *
              go_wp2
              go_quiet ((go_at_call 21; exact Calls.quiet_of (HQ.out _)))
              go_wp2
              go_roundw
              case rel => exact ⟨k + 1, by omega, by go_num, below_drewN hBk _⟩
              case measure => simp [intOf]; omega
            · have hd : decide (s < 0) = false := by simpa using hneg
              clear hr
              go_wp2
              go_quiet (fail)
              go_wp2
              go_roundw
              case rel => exact ⟨k + 1, by omega, by go_num, below_drewN hBk _⟩
              case measure => simp [intOf]; omega
          · obtain rfl : k = p.length := by omega
            go_wp2_with fail
            refine (matchBegun_any _).mono ?_
            rintro e w8 ⟨rfl, hB11⟩
            go_wp2
            go_ret
            exact ⟨rfl, hB10.trans ((hBk.trans (hB11.mono hBk.size)).mono hB10.size)⟩
      · have hne : (Tm.applyErr ss p != 0) = true := by simp [ha]
        clear ha HS HP hFm
        generalize Tm.applyErr ss p = q at *
        generalize Tm.applyVal ss p = q2 at *
        go_wp2_with fail
        refine (hAs.out _ hB6).mono ?_
        rintro e w6 ⟨v6, rfl, hN6, hB7⟩
        obtain ⟨x6, c6, rfl, _⟩ := New.ints hN6
        have hB8 := hB6.trans (hB7.mono hB6.size)
        clear hN6 hB7 hB6 hAs
        go_wp2_with fail
        refine (matchBegun_any _).mono ?_
        rintro e w7 ⟨rfl, hB9⟩
        go_wp2
        go_ret
        exact ⟨rfl, hB8.trans (hB9.mono hB8.size)⟩
  · have hne : (Tm.fitErr p t != 0) = true := by simp [he]
    clear hP hT hS he
    generalize Tm.fitErr p t = q at *
    generalize Tm.fitIs p t = q2 at *
    generalize Tm.fitVal p t = q3 at *
    go_enter Try.func11, Try.ntmps11
    go_wp2_with fail
    refine hF.mono ?_
    rintro e w1 ⟨v1, rfl, hN1, hB1⟩
    obtain ⟨x1, c1, rfl, _⟩ := NewS.subs hN1
    clear hF hN1
    go_wp2_with fail
    refine (matchBegun_any _).mono ?_
    rintro e w2 ⟨rfl, hB2⟩
    go_wp2
    go_ret
    exact ⟨rfl, hB1.trans (hB2.mono hB1.size)⟩

/-! The row. -/
set_option maxRecDepth 100000 in
theorem lifted (os : Os) (started : os.Started) (H : Type) (enc : TypeId × Value → H) :
    ReturnsInHanded {} Try.checked os 11 .any (Rows.matchTrueSpec.pre6 enc Try.prog Try.f11 Rows.matchTrueRow.domain false) (Rows.matchTrueSpec.post enc Try.prog Try.f11 false true false false) := by
  refine returnsInHanded_of_change (C := Try.checked) own started (by kernel_rfl) Try.func11
    (ChangeSpec.witness6 (enc := enc) (C := Try.checked) false ⟨#[], #[.slice none 0 0, .slice none 0 0, .slice none 0 0], []⟩ 8 (by kernel_rfl) (by kernel_rfl) (by kernel_rfl) (by kernel_rfl)) ?_
  intro W base args ds gs before hval0 hW hcnd _
  have hval : ∀ (j : Nat) t v, Try.f11.params[j]? = some t → args[j]? = some v → Value.okWide Try.prog W .any base t v := hval0
  have hW' := hW
  obtain ⟨p, q, hA0, hV, rfl, hfz, hnd⟩ := hW
  have hA : DataW.TrodAll enc Try.prog W 0 (fun _ => true) true Try.f11.params.toList args.toList ds p := hA0
  rw [Try.params11] at hA hval
  obtain ⟨v0, vs0, d0, ds0, p0, q0, hargs, rfl, rfl, h0, r0⟩ := trodAll_cons hA
  obtain ⟨v1, vs1, d1, ds1, p1, q1, rfl, rfl, rfl, h1, r1⟩ := trodAll_cons r0
  obtain ⟨v2, vs2, d2, ds2, p2, q2, rfl, rfl, rfl, h2, r2⟩ := trodAll_cons r1
  obtain ⟨rfl, rfl, rfl⟩ := trodAll_nil r2
  obtain rfl : args = #[v0, v1, v2] := by cases args; simp_all
  obtain ⟨rfl, rfl⟩ := trodVars_none hV
  obtain ⟨a0, len0, cap0, rfl⟩ := okWide_slice Try.underlying23 (hval 0 23 v0 rfl rfl)
  have k0 := h0
  have lt0 : ∀ x ∈ p0, x.block < W.heap.size := by obtain ⟨m, hm⟩ := k0; exact DataW.trod_lt m _ _ _ hm
  have w0 : TermIn W a0 len0 cap0 := by
    obtain ⟨fuel, hf⟩ := h0
    rcases open_ints Try.underlying23 Try.underlying3 (by kernel_rfl) hf with ⟨hcs, _⟩ | ⟨x, l, c, zs, hcs, _, hl, hm, hz, _, hcell, hwz⟩
    · simp [Value.cells] at hcs
      obtain ⟨rfl, rfl, rfl⟩ := hcs
      exact ints_of_row (.inl ⟨rfl, rfl, rfl, rfl⟩)
    · simp [Value.cells] at hcs
      obtain ⟨rfl, rfl, rfl⟩ := hcs
      exact ints_of_row (.inr ⟨_, rfl, hl, hm, by simpa using hz, hcell, hwz⟩)
  obtain ⟨a1, len1, cap1, rfl⟩ := okWide_slice Try.underlying23 (hval 1 23 v1 rfl rfl)
  have k1 := h1
  have lt1 : ∀ x ∈ p1, x.block < W.heap.size := by obtain ⟨m, hm⟩ := k1; exact DataW.trod_lt m _ _ _ hm
  have w1 : TermIn W a1 len1 cap1 := by
    obtain ⟨fuel, hf⟩ := h1
    rcases open_ints Try.underlying23 Try.underlying3 (by kernel_rfl) hf with ⟨hcs, _⟩ | ⟨x, l, c, zs, hcs, _, hl, hm, hz, _, hcell, hwz⟩
    · simp [Value.cells] at hcs
      obtain ⟨rfl, rfl, rfl⟩ := hcs
      exact ints_of_row (.inl ⟨rfl, rfl, rfl, rfl⟩)
    · simp [Value.cells] at hcs
      obtain ⟨rfl, rfl, rfl⟩ := hcs
      exact ints_of_row (.inr ⟨_, rfl, hl, hm, by simpa using hz, hcell, hwz⟩)
  obtain ⟨a2, len2, cap2, rfl⟩ := okWide_slice Try.underlying36 (hval 2 36 v2 rfl rfl)
  have k2 := h2
  have lt2 : ∀ x ∈ p2, x.block < W.heap.size := by obtain ⟨m, hm⟩ := k2; exact DataW.trod_lt m _ _ _ hm
  have w2 : SubsIn W a2 len2 cap2 := by
    obtain ⟨fuel, hf⟩ := h2
    rcases open_int_rows Try.underlying36 Try.underlying23 Try.underlying3 (by kernel_rfl) (by kernel_rfl) hf with ⟨hcs, _⟩ | ⟨x, l, c, A, L, C, Z, hcs, _, hl, hm, _, hrow⟩
    · simp [Value.cells] at hcs
      obtain ⟨rfl, rfl, rfl⟩ := hcs
      exact subsIn_nil _
    · simp [Value.cells] at hcs
      obtain ⟨rfl, rfl, rfl⟩ := hcs
      exact subsIn_rows hl hm hrow
  clear hA0 hval0
  refine (walk a0 len0 cap0 a1 len1 cap1 a2 len2 cap2 W w0 w1 w2).mono fun e W' ⟨he, bel⟩ => ?_
  subst he
  exact ⟨_, rfl, _, _, _, [], _, [], hW', trodAll_mk1 (shut_bool Try.underlying4 _), (trodAll_cons_mk (Below.trod laidOut (by kernel_rfl) (of_decide_eq_true (by kernel_rfl)) k0 bel lt0) (trodAll_cons_mk (Below.trod laidOut (by kernel_rfl) (of_decide_eq_true (by kernel_rfl)) k1 bel lt1) (trodAll_cons_mk (Below.trod laidOut (by kernel_rfl) (of_decide_eq_true (by kernel_rfl)) k2 bel lt2) trodAll_mk0))), rfl, bel.frame _, fun h => by cases h⟩

theorem over : Rows.matchTrueRow.holds Try.pinned (OpenSpec.ofChange Rows.matchTrueSpec) :=
  OpenClaim.holds_of_wide 11 Try.f11 rfl rfl rfl rfl rfl rfl rfl ⟨rfl, rfl, rfl, rfl, rfl⟩ rfl rfl rfl rfl rfl (by kernel_rfl) Try.func11 (by kernel_rfl)
    (of_decide_eq_true (by kernel_rfl)) (by unfold Func.isWrapper; first | (rw [if_pos (by decide +kernel)]; kernel_rfl) | (rw [if_neg (by decide +kernel)]; exact ⟨rfl, rfl⟩))
    (fun os started H enc _ => lifted os started H enc)

/-- The statement. -/
theorem proved : Rows.MatchTrueSaid := over
#print axioms proved
end Go.Proofs.Ytbelnlemjcoifaa.matchTrue
