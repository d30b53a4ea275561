/-
  Whatever rules, term and pairs RestTerms is handed, it answers true and changes nothing that it was handed: what came, and was changed, changes nothing that was handed in, nor what comes next. No condition.
-/
import Derived.Test.YtglohanbpjaieaaGreatRows
import Derived.ProofKit
import Derived.Deep.Matrix
import Derived.Test.YtglohanbpjaieaaGreatBru32
namespace Go.Proofs.YtglohanbpjaieaaGreat.restTerms
open Go.ChangeShapes Go.WideShapes Go.ChangeAt Go.RowKit Go.Deep Go.Shelf Go.Maps
set_option linter.unusedVariables false

theorem own : ownKnob Tryz.prog.godebug = none := by kernel_rfl
theorem laidOut : laidOutB Tryz.prog = true := by kernel_rfl

/-! The walk. -/
set_option maxRecDepth 100000 in
set_option maxHeartbeats 2000000 in
theorem walk (a0 : Option Addr) (U3 cap0 : Nat) (a1 : Option Addr) (U4 mW : Nat) (a2 : Option Addr) (U5 cap2 : Nat) (w : World) (w0 : EM w a0 U3 cap0) (w1 : Ut w a1 U4 mW) (w2 : EM w a2 U5 cap2) :
    Calls Tryz.prog 5 #[.slice a0 U3 cap0, .slice a1 U4 mW, .slice a2 U5 cap2] w fun e w' => e = .returned (.bool true) ∧ Below w.heap.size w w' := by
  obtain ⟨⟨rs, rfl, hR, hr1, hr2⟩, hrz⟩ := w0
  obtain ⟨t, rfl, hT, ht1, ht2, ht3⟩ := w1
  obtain ⟨⟨ps, rfl, hP, hp1, hp2⟩, hpz⟩ := w2
  have HR := hid (fun W (hW : Below w.heap.size w W) => show aJ W.heap.size W a0 rs from (hR.below hW).mono hW.size)
  have HT := hid (fun W (hW : Below w.heap.size w W) => show Ints W.heap.size W a1 t from (hT.below hW).mono hW.size)
  have HP := hid (fun W (hW : Below w.heap.size w W) => show aJ W.heap.size W a2 ps from (hP.below hW).mono hW.size)
  have cR := hid (jR rs a0 cap0 w hR)
  have cT := hid (fun W (hW : Below w.heap.size w W) => kE t a1 mW W (HT.out W hW))
  have cE := hid (fun W (hW : Below w.heap.size w W) => zo ps a2 cap2 W (HP.out W hW))
  clear hR hT hP
  by_cases e1 : Tm.aO rs = 0
  · by_cases e2 : Tm.err t = 0
    · by_cases e3 : Tm.gU ps = 0
      · by_cases e4 : ps.length = 0
        · have hzi : ((ps.length : Int) == 0) = true := OZ e4
          rw [e1] at cR
          rw [e2] at cT
          rw [e3] at cE
          clear e1 e2 e3 e4
          go_enter Tryz.func5, Tryz.ntmps5
          go_wp2_with fail
          refine cR.out.mono ?_
          rintro e u1 ⟨rfl, B1⟩
          go_wp2_with fail
          refine (cT.out u1 B1).mono ?_
          rintro e u1 ⟨rfl, rfl⟩
          go_wp2_with fail
          refine (cE.out u1 B1).mono ?_
          rintro e u2 ⟨rfl, b2⟩
          have B2 := B1.trans (b2.mono B1.size)
          go_wp2_with fail
          refine (jk _).mono ?_
          rintro e u3 ⟨rfl, b3⟩
          go_wp2
          go_ret
          exact ⟨rfl, B2.trans (b3.mono B2.size)⟩
        · have hpos : 0 < ps.length := by omega
          have hzi : ((ps.length : Int) == 0) = false := Eo e4
          have hfp : Tm.firstPair ps = 0 ∧ ps.length ≤ 40 := by
            unfold Tm.gU at e3
            by_cases Di : 40 < ps.length
            · rw [if_pos Di] at e3; omega
            · rw [if_neg Di] at e3; exact ⟨e3, by omega⟩
          obtain ⟨eP, eQ⟩ := Tm.nC hfp.1 0 hpos
          obtain ⟨be, oe, rfl, hbe, aP, cP, aQ, cQ, g1, g2, g3, g4, g5, g6, g7, g8⟩ := HP.out w (Below.refl _ _) 0 hpos
          rw [Nat.zero_mul, Nat.add_zero] at g1 g2
          obtain ⟨P, hP0⟩ : ∃ P, (ps[0]?.getD ([], [])).1 = P := ⟨_, rfl⟩
          obtain ⟨Q, hQ0⟩ : ∃ Q, (ps[0]?.getD ([], [])).2 = Q := ⟨_, rfl⟩
          rw [hP0] at g1 g3 g5 eP
          rw [hQ0] at g2 g4 g7 eQ
          have pP := Tm.bM eP
          have pQ := Tm.bM eQ
          have lP := Tm.aI eP
          have lQ := Tm.aI eQ
          have lT := Tm.aI e2
          obtain ⟨bP, oP, rfl, _, _⟩ := g3.at pP
          obtain ⟨bQ, oQ, rfl, _, _⟩ := g4.at pQ
          obtain ⟨bt, ot, rfl, _, _⟩ := (HT.out w (Below.refl _ _)).at (Tm.bM e2)
          have hIP := hid (fun V (hV : Below w.heap.size w V) => show Ints w.heap.size V (some ⟨bP, oP, none⟩) P from g3.below hV)
          have hIQ := hid (fun V (hV : Below w.heap.size w V) => show Ints w.heap.size V (some ⟨bQ, oQ, none⟩) Q from g4.below hV)
          have hcl := hid (fun V (hV : Below w.heap.size w V) => show V.cell? ⟨be, oe, none⟩ = some (.slice (some ⟨bP, oP, none⟩) P.length cP) ∧ V.cell? ⟨be, oe + 1, none⟩ = some (.slice (some ⟨bQ, oQ, none⟩) Q.length cQ) from ⟨(hV.cell (p := ⟨be, oe, none⟩) hbe).trans g1, (hV.cell (p := ⟨be, oe + 1, none⟩) hbe).trans g2⟩)
          rw [e1] at cR
          rw [e2] at cT
          rw [e3] at cE
          have QV : (ps.length : Int) ≤ 40 := by omega
          have hpos' : (0 : Int) < (ps.length : Int) := by omega
          have HP0 := hid hP0
          have HQ0 := hid hQ0
          have E1 := hid e1
          have E2 := hid e2
          have EP := hid eP
          have EQ := hid eQ
          clear e1 e2 e3 e4 hfp g1 g2 g3 g4 hP0 hQ0 eP eQ
          go_enter Tryz.func5, Tryz.ntmps5
          go_wp2_with fail
          refine cR.out.mono ?_
          rintro e u1 ⟨rfl, B1⟩
          go_wp2_with fail
          refine (cT.out u1 B1).mono ?_
          rintro e u1 ⟨rfl, rfl⟩
          go_wp2_with fail
          refine (cE.out u1 B1).mono ?_
          rintro e u2 ⟨rfl, b2⟩
          have B2 := B1.trans (b2.mono B1.size)
          clear cR cT cE B1 b2
          have hl0 : Hid (New w.heap.size (u2.alloc (.cells #[] 3)) (.slice (some ⟨u2.heap.size, 0, none⟩) 0 0) []) := New.lit w.heap.size u2 [] B2.size (by unfold maxLen; simp)
          have Jq : Hid (Below w.heap.size w (u2.alloc (.cells #[] 3))) := B2.alloc B2.size _
          go_upto_region 4 with (at_builtin; refine aK _ rfl _ _ rfl w.heap.size _ [] rfl hl0.out (some ⟨bt, ot, none⟩) t mW rfl (fun e => by cases e) (HT.out _ Jq.out) (by simp; omega) Jq.out.size ?_; intro v3 u3 n3 b3; rw [List.nil_append] at n3; obtain ⟨x3, k3, rfl, i3, _⟩ := New.ints n3; have B3 := Jq.out.trans b3)
          rename_i Kn hKn
          have hb3 : w.heap.size ≤ u3.heap.size := B3.size
          have Dc := hid (fun V (hV : Below u3.heap.size u3 V) => hcl.out V (B3.trans (hV.mono hb3)))
          have hP3 := hid (fun V (hV : Below u3.heap.size u3 V) => show Ints u3.heap.size V (some ⟨bP, oP, none⟩) P from (hIP.out V (B3.trans (hV.mono hb3))).mono hb3)
          have hQ3 := hid (fun V (hV : Below u3.heap.size u3 V) => show Ints u3.heap.size V (some ⟨bQ, oQ, none⟩) Q from (hIQ.out V (B3.trans (hV.mono hb3))).mono hb3)
          go_cut [8] (fun p wx => ∃ k g c h d, p = .pointer (some ⟨k, 0, none⟩) ∧ New u3.heap.size wx (.slice (some ⟨g, 0, none⟩) P.length c) P ∧ New u3.heap.size wx (.slice (some ⟨h, 0, none⟩) Q.length d) Q ∧ wx.heap[k]? = some (.cells #[.slice (some ⟨g, 0, none⟩) P.length c, .slice (some ⟨h, 0, none⟩) Q.length d] 40 (0, 0)) ∧ u3.heap.size ≤ k ∧ Below u3.heap.size u3 wx)
          case first =>
            refine wp_region_held_drew (S := fun w' => w'.cell? ⟨be, oe, none⟩ = some (.slice (some ⟨bP, oP, none⟩) P.length cP) ∧ w'.cell? ⟨be, oe + 1, none⟩ = some (.slice (some ⟨bQ, oQ, none⟩) Q.length cQ)) (by kernel_rfl) (Dc.out _ (below_drewN (Below.refl _ u3) 1)) (fun hHeld => ?_)
            show wpAnyH _ _ _ _ _ 15 (Array.replicate 15 false) _ _
            refine wpAnyH_take (i := 1) (oi := { dst := some 72, op := _, type := _, pos := _, after := _, guard := _ }) (v := .slice (some ⟨be, oe, none⟩) ps.length cap2) rfl (by kernel_rfl) (by kernel_rfl) (by kernel_rfl) (fun _ _ _ h => h) (Or.inl ⟨by rfl, fun w hSw => by obtain ⟨hSa, hSb⟩ := hSw; go_simp⟩) hHeld ?_
            simp only [Act.put, List.setIfInBounds_toArray, List.set_cons_zero, List.set_cons_succ]
            refine wpAnyH_take (i := 2) (oi := { dst := some 73, op := _, type := _, pos := _, after := _, guard := _ }) (v := .pointer (some ⟨be, oe, none⟩)) rfl (by kernel_rfl) (by kernel_rfl) (by kernel_rfl) (fun _ _ _ h => h) (Or.inl ⟨by rfl, fun w hSw => by obtain ⟨hSa, hSb⟩ := hSw; go_simp⟩) hHeld ?_
            simp only [Act.put, List.setIfInBounds_toArray, List.set_cons_zero, List.set_cons_succ]
            refine wpAnyH_take (i := 3) (oi := { dst := some 74, op := _, type := _, pos := _, after := _, guard := _ }) (v := .pointer (some ⟨be, oe, none⟩)) rfl (by kernel_rfl) (by kernel_rfl) (by kernel_rfl) (fun _ _ _ h => h) (Or.inl ⟨by rfl, fun w hSw => by obtain ⟨hSa, hSb⟩ := hSw; go_simp⟩) hHeld ?_
            simp only [Act.put, List.setIfInBounds_toArray, List.set_cons_zero, List.set_cons_succ]
            refine wpAnyH_take (i := 4) (oi := { dst := some 75, op := _, type := _, pos := _, after := _, guard := _ }) (v := .slice (some ⟨bP, oP, none⟩) P.length cP) rfl (by kernel_rfl) (by kernel_rfl) (by kernel_rfl) (fun _ _ _ h => h) (Or.inl ⟨by rfl, fun w hSw => by obtain ⟨hSa, hSb⟩ := hSw; go_simp⟩) hHeld ?_
            simp only [Act.put, List.setIfInBounds_toArray, List.set_cons_zero, List.set_cons_succ]
            refine wpAnyH_take (i := 7) (oi := { dst := some 78, op := _, type := _, pos := _, after := _, guard := _ }) (v := .slice (some ⟨be, oe, none⟩) ps.length cap2) rfl (by kernel_rfl) (by kernel_rfl) (by kernel_rfl) (fun _ _ _ h => h) (Or.inl ⟨by rfl, fun w hSw => by obtain ⟨hSa, hSb⟩ := hSw; go_simp⟩) hHeld ?_
            simp only [Act.put, List.setIfInBounds_toArray, List.set_cons_zero, List.set_cons_succ]
            refine wpAnyH_take (i := 8) (oi := { dst := some 79, op := _, type := _, pos := _, after := _, guard := _ }) (v := .pointer (some ⟨be, oe, none⟩)) rfl (by kernel_rfl) (by kernel_rfl) (by kernel_rfl) (fun _ _ _ h => h) (Or.inl ⟨by rfl, fun w hSw => by obtain ⟨hSa, hSb⟩ := hSw; go_simp⟩) hHeld ?_
            simp only [Act.put, List.setIfInBounds_toArray, List.set_cons_zero, List.set_cons_succ]
            refine wpAnyH_take (i := 9) (oi := { dst := some 80, op := _, type := _, pos := _, after := _, guard := _ }) (v := .pointer (some ⟨be, oe + 1, none⟩)) rfl (by kernel_rfl) (by kernel_rfl) (by kernel_rfl) (fun _ _ _ h => h) (Or.inl ⟨by rfl, fun w hSw => by obtain ⟨hSa, hSb⟩ := hSw; go_simp⟩) hHeld ?_
            simp only [Act.put, List.setIfInBounds_toArray, List.set_cons_zero, List.set_cons_succ]
            refine wpAnyH_take (i := 10) (oi := { dst := some 81, op := _, type := _, pos := _, after := _, guard := _ }) (v := .slice (some ⟨bQ, oQ, none⟩) Q.length cQ) rfl (by kernel_rfl) (by kernel_rfl) (by kernel_rfl) (fun _ _ _ h => h) (Or.inl ⟨by rfl, fun w hSw => by obtain ⟨hSa, hSb⟩ := hSw; go_simp⟩) hHeld ?_
            simp only [Act.put, List.setIfInBounds_toArray, List.set_cons_zero, List.set_cons_succ]
            refine MM (by rfl) (by rfl) (by rfl) (by rfl) (by rfl) (by rfl) (by rfl) (by kernel_rfl) u3.heap.size u3 (Nat.le_refl _) _ (of_decide_eq_true (by kernel_rfl)) P Q ⟨bP, oP, none⟩ ⟨bQ, oQ, none⟩ cP cQ (by rfl) (by rfl) hP3.out hQ3.out pP pQ (by omega) (by omega) Dc.out ?_ (by kernel_rfl) (by kernel_rfl) _ (Below.refl _ _).drew
            intro V g c h d k Fh Fj x83 n1 n2 hk hbk hB
            simp only [F6, Act.put, List.setIfInBounds_toArray, List.set_cons_zero, List.set_cons_succ]
            go_wp2_with fail
            go_meet
            exact ⟨k, g, c, h, d, rfl, n1, n2, hk, hbk, hB⟩
          case rest =>
            obtain ⟨k4, g4, c4, h4, d4, rfl, nP4, nQ4, hk4, am8, b4⟩ := hcut
            have B4 := B3.trans (b4.mono hb3)
            obtain ⟨_, _, e, YH, _⟩ := New.ints nP4
            cases e
            obtain ⟨_, _, e, YI, _⟩ := New.ints nQ4
            cases e
            refine hKn _ _ ?_
            exact rt4 (w := w) ⟨HR.out, HT.out, HP.out, fun W hW => (hIP.out W hW).mono hW.size, fun W hW => (hIQ.out W hW).mono hW.size, hcl.out, ⟨hr1, hr2, hrz⟩, ⟨ht1, ht2, lT⟩, ⟨hp1, hp2, hpos⟩, ⟨g5, g6, lP⟩, ⟨g7, g8, lQ⟩⟩ B4 (i3.at2 b4) ⟨(aM hk4 0).trans rfl, (aM hk4 1).trans rfl, (Array.getElem?_eq_some_iff.1 hk4).1⟩ YH YI
      · have hne : (Tm.gU ps != 0) = true := by simpa using e3
        rw [e1] at cR
        rw [e2] at cT
        clear e1 e2 e3
        generalize Tm.gU ps = q at *
        go_enter Tryz.func5, Tryz.ntmps5
        go_wp2_with fail
        refine cR.out.mono ?_
        rintro e u1 ⟨rfl, B1⟩
        go_wp2_with fail
        refine (cT.out u1 B1).mono ?_
        rintro e u1 ⟨rfl, rfl⟩
        go_wp2_with fail
        refine (cE.out u1 B1).mono ?_
        rintro e u2 ⟨rfl, b2⟩
        have B2 := B1.trans (b2.mono B1.size)
        go_wp2_with fail
        refine (jk _).mono ?_
        rintro e u3 ⟨rfl, b3⟩
        go_wp2
        go_ret
        exact ⟨rfl, B2.trans (b3.mono B2.size)⟩
    · have hne : (Tm.err t != 0) = true := by simpa using e2
      rw [e1] at cR
      clear e1 e2 cE
      generalize Tm.err t = q at *
      go_enter Tryz.func5, Tryz.ntmps5
      go_wp2_with fail
      refine cR.out.mono ?_
      rintro e u1 ⟨rfl, B1⟩
      go_wp2_with fail
      refine (cT.out u1 B1).mono ?_
      rintro e u1 ⟨rfl, rfl⟩
      go_wp2_with fail
      refine (jk _).mono ?_
      rintro e u3 ⟨rfl, b3⟩
      go_wp2
      go_ret
      exact ⟨rfl, B1.trans (b3.mono B1.size)⟩
  · have hne : (Tm.aO rs != 0) = true := by simpa using e1
    clear e1 cT cE
    generalize Tm.aO rs = q at *
    go_enter Tryz.func5, Tryz.ntmps5
    go_wp2_with fail
    refine cR.out.mono ?_
    rintro e u1 ⟨rfl, B1⟩
    go_wp2_with fail
    refine (jk _).mono ?_
    rintro e u3 ⟨rfl, b3⟩
    go_wp2
    go_ret
    exact ⟨rfl, B1.trans (b3.mono B1.size)⟩

/-! The row. -/
set_option maxRecDepth 100000 in
theorem lifted (os : Os) (started : os.Started) (H : Type) (enc : TypeId × Value → H) :
    ReturnsInHanded {} Tryz.checked os 5 .any (Rows.restTermsSpec.pre6 enc Tryz.prog Tryz.f5 Rows.restTermsRow.domain false) (Rows.restTermsSpec.post enc Tryz.prog Tryz.f5 false true false false) := by
  refine returnsInHanded_of_change (C := Tryz.checked) own started (by kernel_rfl) Tryz.func5
    (ChangeSpec.witness6 (enc := enc) (C := Tryz.checked) false ⟨#[], #[.slice none 0 0, .slice none 0 0, .slice none 0 0], []⟩ 8 (by kernel_rfl) (by kernel_rfl) (by kernel_rfl) (by kernel_rfl)) ?_
  intro W base args ds gs before hval0 hW hcnd _
  have hval : ∀ (j : Nat) t v, Tryz.f5.params[j]? = some t → args[j]? = some v → Value.okWide Tryz.prog W .any base t v := hval0
  have hW' := hW
  obtain ⟨p, q, Jq, hV, rfl, hfz, hnd⟩ := hW
  have hA : DataW.TrodAll enc Tryz.prog W 0 (fun _ => true) true Tryz.f5.params.toList args.toList ds p := Jq
  rw [Tryz.params5] at hA hval
  obtain ⟨v0, vs0, d0, ds0, p0, q0, hargs, rfl, rfl, h0, r0⟩ := trodAll_cons hA
  obtain ⟨v1, vs1, d1, ds1, p1, q1, rfl, rfl, rfl, h1, r1⟩ := trodAll_cons r0
  obtain ⟨v2, vs2, d2, ds2, p2, q2, rfl, rfl, rfl, h2, r2⟩ := trodAll_cons r1
  obtain ⟨rfl, rfl, rfl⟩ := trodAll_nil r2
  obtain rfl : args = #[v0, v1, v2] := by cases args; simp_all
  obtain ⟨rfl, rfl⟩ := trodVars_none hV
  obtain ⟨a0, U3, cap0, rfl⟩ := okWide_slice Tryz.underlying23 (hval 0 23 v0 rfl rfl)
  have k0 := h0
  have lt0 : ∀ x ∈ p0, x.block < W.heap.size := by obtain ⟨m, hm⟩ := k0; exact DataW.trod_lt m _ _ _ hm
  have w0 : EM W a0 U3 cap0 := by
    obtain ⟨fuel, hf⟩ := h0
    exact Cw Tryz.underlying23 Tryz.underlying54 (by kernel_rfl) rfl rfl rfl rfl (by simp [Value.cells]) hf
  obtain ⟨a1, U4, mW, rfl⟩ := okWide_slice Tryz.underlying35 (hval 1 35 v1 rfl rfl)
  have k1 := h1
  have lt1 : ∀ x ∈ p1, x.block < W.heap.size := by obtain ⟨m, hm⟩ := k1; exact DataW.trod_lt m _ _ _ hm
  have w1 : Ut W a1 U4 mW := by
    obtain ⟨fuel, hf⟩ := h1
    rcases open_ints Tryz.underlying35 Tryz.underlying3 (by kernel_rfl) hf with ⟨hcs, _⟩ | ⟨x, l, c, zs, hcs, _, hl, hm, hz, _, hcell, hwz⟩
    · simp [Value.cells] at hcs
      obtain ⟨rfl, rfl, rfl⟩ := hcs
      exact Cr (.inl ⟨rfl, rfl, rfl, rfl⟩)
    · simp [Value.cells] at hcs
      obtain ⟨rfl, rfl, rfl⟩ := hcs
      exact Cr (.inr ⟨_, rfl, hl, hm, by simpa using hz, hcell, hwz⟩)
  obtain ⟨a2, U5, cap2, rfl⟩ := okWide_slice Tryz.underlying24 (hval 2 24 v2 rfl rfl)
  have k2 := h2
  have lt2 : ∀ x ∈ p2, x.block < W.heap.size := by obtain ⟨m, hm⟩ := k2; exact DataW.trod_lt m _ _ _ hm
  have w2 : EM W a2 U5 cap2 := by
    obtain ⟨fuel, hf⟩ := h2
    exact Cw Tryz.underlying24 Tryz.underlying40 (by kernel_rfl) rfl rfl rfl rfl (by simp [Value.cells]) hf
  clear Jq hval0
  refine (walk a0 U3 cap0 a1 U4 mW a2 U5 cap2 W w0 w1 w2).mono fun e W' ⟨he, bel⟩ => ?_
  subst he
  exact ⟨_, rfl, _, _, _, [], _, [], hW', trodAll_mk1 (shut_bool Tryz.underlying4 _), (trodAll_cons_mk (Below.trod laidOut (by kernel_rfl) (of_decide_eq_true (by kernel_rfl)) k0 bel lt0) (trodAll_cons_mk (Below.trod laidOut (by kernel_rfl) (of_decide_eq_true (by kernel_rfl)) k1 bel lt1) (trodAll_cons_mk (Below.trod laidOut (by kernel_rfl) (of_decide_eq_true (by kernel_rfl)) k2 bel lt2) trodAll_mk0))), rfl, bel.frame _, fun h => by cases h⟩

theorem over : Rows.restTermsRow.holds Tryz.pinned (OpenSpec.ofChange Rows.restTermsSpec) :=
  OpenClaim.holds_of_wide 5 Tryz.f5 rfl rfl rfl rfl rfl rfl rfl ⟨rfl, rfl, rfl, rfl, rfl⟩ rfl rfl rfl rfl rfl (by kernel_rfl) Tryz.func5 (by kernel_rfl)
    (of_decide_eq_true (by kernel_rfl)) (by unfold Func.isWrapper; first | (rw [if_pos (by decide +kernel)]; kernel_rfl) | (rw [if_neg (by decide +kernel)]; exact ⟨rfl, rfl⟩))
    (fun os started H enc _ => lifted os started H enc)

/-- The statement. -/
theorem proved : Rows.RestTermsSaid := over
#print axioms proved
end Go.Proofs.YtglohanbpjaieaaGreat.restTerms
