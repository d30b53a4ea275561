/-
  Whatever rules, term and number LeanTrue is handed, it answers true and changes nothing that it was handed: what a term becomes by a lean's Sub goes by a step of that rule to its To. No condition.
-/
import Derived.Test.YtgeknojpcjadkaaRows
import Derived.WalkKit
import Derived.ProofKit
import Derived.OpenShut
import Derived.ChangeOld
import Derived.Below
import Derived.Deep.Matrix
import Derived.Test.YtgeknojpcjadkaaBlt2
import Derived.Test.YtgeknojpcjadkaaBlt7
import Derived.Test.YtgeknojpcjadkaaBlt18
import Derived.Test.YtgeknojpcjadkaaBlt21
import Derived.Test.YtgeknojpcjadkaaBlt22
namespace Go.Proofs.Ytgeknojpcjadkaa.leanTrue
open Go.ChangeShapes Go.WideShapes Go.ChangeAt Go.RowKit Go.Deep Go.Shelf Go.Maps
set_option linter.unusedVariables false

theorem own : ownKnob Try.prog.godebug = none := by kernel_rfl
theorem laidOut : laidOutB Try.prog = true := by kernel_rfl

/-! The walk. -/
set_option maxRecDepth 100000 in
set_option maxHeartbeats 2000000 in
theorem walk (a0 : Option Addr) (len0 cap0 : Nat) (a1 : Option Addr) (len1 cap1 : Nat) (a2 : Int) (w : World) (w0 : RulesIn w a0 len0 cap0) (w1 : TermIn w a1 len1 cap1) (w2 : (Lit.int .i64 a2).wf = true) :
    Calls Try.prog 10 #[.slice a0 len0 cap0, .slice a1 len1 cap1, .int .i64 a2] w fun e w' => e = .returned (.bool true) ∧ Below w.heap.size w w' := by
  obtain ⟨rs, rfl, hR, hr1, hr2⟩ := w0
  obtain ⟨t, rfl, hT, ht1, ht2, ht3⟩ := w1
  have hO := hid (leanAll_any rs t a0 a1 cap0 cap1 w hR hT ht1 ht2)
  have hA := hid (fun W (hW : Below w.heap.size w W) val aS cS (hs : Subs W.heap.size W aS val) => apply_any val t aS a1 cS cap1 W hs ((hT.below hW).mono hW.size))
  have hS := hid (fun W (hW : Below w.heap.size w W) u au cu hu h1 h2 => steps_any rs u a0 au cap0 cu W ((hR.below hW).mono hW.size) hu h1 h2)
  unfold StepsAns at hS
  clear hR hT
  go_enter Try.func10, Try.ntmps10
  go_wp2_with fail
  refine hO.out.mono ?_
  rintro e u1 ⟨er, l, v1, hs1, rfl, n1, B1⟩
  clear hO
  obtain ⟨hl, _⟩ := hs1.lens
  have HM := hid (fun x hx => Tm.lean_true hs1 (x := x) hx)
  have HR := hid (fun hp => hs1.rules hp)
  have N1 := hid n1
  obtain ⟨x1, c1, rfl⟩ := n1.slice
  clear hs1 n1
  by_cases h0 : er = 0
  · subst h0
    by_cases hz : l.length = 0
    · have hzi : ((l.length : Int) == 0) = true := len_yes hz
      clear hz HM HR N1 hA hS
      go_wp2_with fail
      refine (leanBegun_any _).mono ?_
      rintro e u3 ⟨rfl, b3⟩
      go_wp2
      go_ret
      exact ⟨rfl, B1.trans (b3.mono B1.size)⟩
    · have hp : 0 < l.length := by omega
      have hzi : ((l.length : Int) == 0) = false := len_no hz
      have hjl := chN_lt a2 hp
      have hch := hid (choose_is a2 l.length w2 hp hl u1)
      have hre := hid (HR.out hp)
      obtain ⟨hsub, et, hm⟩ := HM.out _ (List.getElem_mem hjl)
      obtain ⟨g, cg, aS, cS, aT, cT, eg, hg, c0, c1', c2, c3, sT, iT, q1, q2⟩ := N1.out.elem hjl
      cases eg
      clear N1 HM HR hz
      generalize l[chN a2 l.length] = x at *
      obtain ⟨r, pl, val, tz⟩ := x
      simp only at hsub hm c0 c1' c2 c3 sT iT q1
      generalize chN a2 l.length = j at *
      have hji : (j : Int) < (l.length : Int) := by omega
      have hBa : Below u1.heap.size u1 (u1.alloc (.cells #[.int .i64 (r : Int), .int .i64 (pl : Int), .slice aS val.length cS, .slice aT tz.length cT] 77)) := (Below.refl _ u1).alloc (Nat.le_refl _) _
      have blk := World.alloc_heap_new u1 (.cells #[.int .i64 (r : Int), .int .i64 (pl : Int), .slice aS val.length cS, .slice aT tz.length cT] 77)
      obtain ⟨W4, hW4⟩ : ∃ W4, u1.alloc (.cells #[.int .i64 (r : Int), .int .i64 (pl : Int), .slice aS val.length cS, .slice aT tz.length cT] 77) = W4 := ⟨_, rfl⟩
      have hs4 : W4.heap.size = u1.heap.size + 1 := by rw [← hW4]; simp
      rw [hW4] at hBa blk
      have HW4 := hid hW4
      have d2 : W4.cell? ⟨u1.heap.size, 2, none⟩ = some (.slice aS val.length cS) := by rw [cell_at blk]; rfl
      have d2' := d2
      rw [← hW4] at d2'
      have dd : Hid (W4.cell? ⟨u1.heap.size, 0, none⟩ = some (.int .i64 (r : Int)) ∧ W4.cell? ⟨u1.heap.size, 3, none⟩ = some (.slice aT tz.length cT)) := hid ⟨by rw [cell_at blk]; rfl, by rw [cell_at blk]; rfl⟩
      clear hW4 blk
      have B4 := B1.trans (hBa.mono B1.size)
      have IT := hid ((iT.ints.below hBa).mono hBa.size)
      have hC := hid (hA.out W4 B4 val aS cS (sT.below hBa).subs)
      obtain ⟨e1, e2⟩ := Tm.apply_ok hsub et
      rw [e1, e2] at hC
      clear e1 e2 hA sT iT
      have Hte := hid (fun h30 : ¬ 30 < (Tm.applied val t).length => Tm.err_applied (Terms.of hsub) et (by omega))
      by_cases h30 : 30 < (Tm.applied val t).length
      · rw [if_pos h30, if_pos h30] at hC
        clear h30 hm hsub et Hte hS dd
        go_wp2_with (first
          | (go_at_call 23; refine hch.out.mono ?_; clear hch; rintro e u1 ⟨rfl, rfl⟩)
          | (rw [HW4.out]; go_at_call 26; refine hC.out.mono ?_; clear hC; rintro e w5 ⟨v5, rfl, hN5, b5⟩; obtain ⟨x5, c5, rfl, i5, y1, y2⟩ := New.ints hN5)
          | (go_at_call 26; refine hC.out.mono ?_; clear hC; rintro e w5 ⟨v5, rfl, hN5, b5⟩; obtain ⟨x5, c5, rfl, i5, y1, y2⟩ := New.ints hN5))
        refine (leanBegun_any _).mono ?_
        rintro e u6 ⟨rfl, b6⟩
        go_wp2
        go_ret
        have B5 := B4.trans (b5.mono B4.size)
        exact ⟨rfl, B5.trans (b6.mono B5.size)⟩
      · rw [if_neg h30, if_neg h30] at hC
        have hm' := hid (hm (by omega))
        have het := hid (Hte.out h30)
        clear h30 hm hsub et Hte
        generalize Tm.applied val t = u at *
        go_wp2_with (first
          | (go_at_call 23; refine hch.out.mono ?_; clear hch; rintro e u1 ⟨rfl, rfl⟩)
          | (rw [HW4.out]; go_at_call 26; refine hC.out.mono ?_; clear hC; rintro e w5 ⟨v5, rfl, hN5, b5⟩; obtain ⟨x5, c5, rfl, i5, y1, y2⟩ := New.ints hN5)
          | (go_at_call 26; refine hC.out.mono ?_; clear hC; rintro e w5 ⟨v5, rfl, hN5, b5⟩; obtain ⟨x5, c5, rfl, i5, y1, y2⟩ := New.ints hN5))
        have B5 := B4.trans (b5.mono B4.size)
        have hC2 := hid (hS.out w5 B5 u x5 c5 i5 y1 y2)
        clear hS hN5
        by_cases he : Tm.stepErr rs u = 0
        · rw [he] at hC2
          have hall := hid (lnB_all (hm'.out he))
          have hle := Tm.stepVal_le rs u
          clear he hm'
          generalize Tm.stepVal rs u = sts at *
          refine hC2.out.mono ?_
          rintro e u6 ⟨v6, rfl, n6, b6⟩
          have B6 := B5.trans (b6.mono B5.size)
          have hb46 := b5.trans (b6.mono b5.size)
          have HD := hid (fun X (hX : Below u6.heap.size u6 X) => show X.cell? ⟨u1.heap.size, 0, none⟩ = some (.int .i64 (r : Int)) ∧ X.cell? ⟨u1.heap.size, 3, none⟩ = some (.slice aT tz.length cT) ∧ Ints X.heap.size X aT tz by
            have hb := hb46.trans (hX.mono hb46.size)
            exact ⟨(hb.cell (p := ⟨u1.heap.size, 0, none⟩) (by show u1.heap.size < _; omega)).trans dd.out.1, (hb.cell (p := ⟨u1.heap.size, 3, none⟩) (by show u1.heap.size < _; omega)).trans dd.out.2, (IT.out.below hb).mono hb.size⟩)
          obtain ⟨s6, k6, rfl, hat⟩ := n6.steps
          have HA : Hid (StepsAt u6.heap.size u6 (.slice s6 sts.length k6) sts) := hid ⟨s6, k6, rfl, hat⟩
          have hle' : (sts.length : Int) ≤ 1000 := by omega
          clear hC2 n6 hat b6 b5 dd hb46 IT i5
          go_wp2
          go_loopw [14, 15] (fun bv v X => ∃ i : Nat, i ≤ sts.length ∧ v = .int .i64 (i : Int) ∧ bv = .bool (lnB r tz sts i) ∧ Below u6.heap.size u6 X) (fun _ v _ => sts.length - (intOf v).toNat)
          case atStart => exact ⟨0, Nat.zero_le _, rfl, by rw [lnB_zero], Below.refl _ _⟩
          case round =>
            obtain ⟨X, rfl⟩ : ∃ X, X = wr := ⟨wr, rfl⟩
            obtain ⟨i, hi, rfl, rfl, hX⟩ := hrel
            by_cases hiu : i < sts.length
            · have hiu' : (i : Int) < (sts.length : Int) := by omega
              have hsu := hid (lnB_succ (r := r) (tz := tz) hiu)
              obtain ⟨dd0, dd3, iX⟩ := HD.out X hX
              obtain ⟨_, _, e3, hat⟩ := (HA.out.below hX).mono hX.size
              cases e3
              obtain ⟨g3, rfl, hg3, ad, c', z0, z1, z2, iz, y1', y2'⟩ := hat i hiu
              have HSm := hid (fun n : Nat => same_quiet (sts[i]?.getD (0, 0, [])).2.2 tz ad aT c' cT X.heap.size (X.drewN n) iz iX (by omega))
              clear hat z1 iz iX y1' y2' HA HD hall
              generalize (sts[i]?.getD (0, 0, [])).2.2 = zt at *
              generalize (sts[i]?.getD (0, 0, [])).1 = zr at *
              cases hq : lnB r tz sts i with
              | true =>
                rw [hq] at hsu
                clear hq HSm
                go_wp2
                go_quiet (fail)
                go_wp2
                go_roundw
                case rel => exact ⟨i + 1, by omega, by go_num, by rw [hsu.out]; rfl, below_drewN hX _⟩
                case measure => simp [intOf]; omega
              | false =>
                rw [hq] at hsu
                clear hq
                by_cases hqe : zr = r
                · subst hqe
                  have hee : ((zr : Int) == (zr : Int)) = true := by simp
                  obtain ⟨qs, hqs⟩ : ∃ qs, sameB zt tz = qs := ⟨_, rfl⟩
                  rw [hqs] at hsu HSm
                  clear hqs
                  go_wp2
                  go_quiet ((go_at_call 24; exact Calls.quiet_of (HSm.out _)))
                  go_wp2
                  go_roundw
                  case rel => exact ⟨i + 1, by omega, by go_num, by rw [hsu.out]; simp, below_drewN hX _⟩
                  case measure => simp [intOf]; omega
                · have hee : ((zr : Int) == (r : Int)) = false := by simp; omega
                  rw [decide_eq_false hqe] at hsu
                  clear hqe HSm
                  go_wp2
                  go_quiet (fail)
                  go_wp2
                  go_roundw
                  case rel => exact ⟨i + 1, by omega, by go_num, by rw [hsu.out]; rfl, below_drewN hX _⟩
                  case measure => simp [intOf]; omega
            · obtain rfl : i = sts.length := by omega
              rw [hall.out]
              clear HA HD
              go_wp2_with fail
              refine (leanBegun_any _).mono ?_
              rintro e u9 ⟨rfl, b9⟩
              go_wp2
              go_ret
              have hb := B6.trans (hX.mono B6.size)
              exact ⟨rfl, hb.trans (b9.mono hb.size)⟩
        · rw [Tm.step_two hre.out het.out he] at hC2
          clear he hm' het hre
          generalize Tm.stepVal rs u = sts at *
          refine hC2.out.mono ?_
          rintro e u6 ⟨v6, rfl, n6, b6⟩
          obtain ⟨s6, k6, rfl⟩ := n6.slice
          have B6 := B5.trans (b6.mono B5.size)
          clear hC2 n6 dd IT
          go_wp2_with fail
          refine (leanBegun_any _).mono ?_
          rintro e u9 ⟨rfl, b9⟩
          go_wp2
          go_ret
          exact ⟨rfl, B6.trans (b9.mono B6.size)⟩
  · have hne : (er != 0) = true := by simpa using h0
    clear h0 HM HR N1 hA hS
    go_wp2_with fail
    refine (leanBegun_any _).mono ?_
    rintro e u3 ⟨rfl, b3⟩
    go_wp2
    go_ret
    exact ⟨rfl, B1.trans (b3.mono B1.size)⟩

/-! The row. -/
set_option maxRecDepth 100000 in
theorem lifted (os : Os) (started : os.Started) (H : Type) (enc : TypeId × Value → H) :
    ReturnsInHanded {} Try.checked os 10 .any (Rows.leanTrueSpec.pre6 enc Try.prog Try.f10 Rows.leanTrueRow.domain false) (Rows.leanTrueSpec.post enc Try.prog Try.f10 false true false false) := by
  refine returnsInHanded_of_change (C := Try.checked) own started (by kernel_rfl) Try.func10
    (ChangeSpec.witness6 (enc := enc) (C := Try.checked) false ⟨#[], #[.slice none 0 0, .slice none 0 0, .int .i64 0], []⟩ 8 (by kernel_rfl) (by kernel_rfl) (by kernel_rfl) (by kernel_rfl)) ?_
  intro W base args ds gs before hval0 hW hcnd _
  have hval : ∀ (j : Nat) t v, Try.f10.params[j]? = some t → args[j]? = some v → Value.okWide Try.prog W .any base t v := hval0
  have hW' := hW
  obtain ⟨p, q, hA0, hV, rfl, hfz, hnd⟩ := hW
  have hA : DataW.TrodAll enc Try.prog W 0 (fun _ => true) true Try.f10.params.toList args.toList ds p := hA0
  rw [Try.params10] at hA hval
  obtain ⟨v0, vs0, d0, ds0, p0, q0, hargs, rfl, rfl, h0, r0⟩ := trodAll_cons hA
  obtain ⟨v1, vs1, d1, ds1, p1, q1, rfl, rfl, rfl, h1, r1⟩ := trodAll_cons r0
  obtain ⟨v2, vs2, d2, ds2, p2, q2, rfl, rfl, rfl, h2, r2⟩ := trodAll_cons r1
  obtain ⟨rfl, rfl, rfl⟩ := trodAll_nil r2
  obtain rfl : args = #[v0, v1, v2] := by cases args; simp_all
  obtain ⟨rfl, rfl⟩ := trodVars_none hV
  obtain ⟨a0, len0, cap0, rfl⟩ := okWide_slice Try.underlying22 (hval 0 22 v0 rfl rfl)
  have k0 := h0
  have lt0 : ∀ x ∈ p0, x.block < W.heap.size := by obtain ⟨m, hm⟩ := k0; exact DataW.trod_lt m _ _ _ hm
  have w0 : RulesIn W a0 len0 cap0 := by
    obtain ⟨fuel, hf⟩ := h0
    exact rulesIn_open Try.underlying22 Try.underlying39 (by kernel_rfl) rfl rfl rfl rfl (by simp [Value.cells]) hf
  obtain ⟨a1, len1, cap1, rfl⟩ := okWide_slice Try.underlying37 (hval 1 37 v1 rfl rfl)
  have k1 := h1
  have lt1 : ∀ x ∈ p1, x.block < W.heap.size := by obtain ⟨m, hm⟩ := k1; exact DataW.trod_lt m _ _ _ hm
  have w1 : TermIn W a1 len1 cap1 := by
    obtain ⟨fuel, hf⟩ := h1
    rcases open_ints Try.underlying37 Try.underlying3 (by kernel_rfl) hf with ⟨hcs, _⟩ | ⟨x, l, c, zs, hcs, _, hl, hm, hz, _, hcell, hwz⟩
    · simp [Value.cells] at hcs
      obtain ⟨rfl, rfl, rfl⟩ := hcs
      exact ints_of_row (.inl ⟨rfl, rfl, rfl, rfl⟩)
    · simp [Value.cells] at hcs
      obtain ⟨rfl, rfl, rfl⟩ := hcs
      exact ints_of_row (.inr ⟨_, rfl, hl, hm, by simpa using hz, hcell, hwz⟩)
  obtain ⟨a2, rfl, rfl, rfl, w2⟩ := open_int Try.underlying3 (hval 2 3 v2 rfl rfl) h2
  clear hA0 hval0
  refine (walk a0 len0 cap0 a1 len1 cap1 a2 W w0 w1 w2).mono fun e W' ⟨he, bel⟩ => ?_
  subst he
  exact ⟨_, rfl, _, _, _, [], _, [], hW', trodAll_mk1 (shut_bool Try.underlying4 _), (trodAll_cons_mk (Below.trod laidOut (by kernel_rfl) (of_decide_eq_true (by kernel_rfl)) k0 bel lt0) (trodAll_cons_mk (Below.trod laidOut (by kernel_rfl) (of_decide_eq_true (by kernel_rfl)) k1 bel lt1) (trodAll_cons_mk (shut_int Try.underlying3 w2) trodAll_mk0))), rfl, bel.frame _, fun h => by cases h⟩

theorem over : Rows.leanTrueRow.holds Try.pinned (OpenSpec.ofChange Rows.leanTrueSpec) :=
  OpenClaim.holds_of_wide 10 Try.f10 rfl rfl rfl rfl rfl rfl rfl ⟨rfl, rfl, rfl, rfl, rfl⟩ rfl rfl rfl rfl rfl (by kernel_rfl) Try.func10 (by kernel_rfl)
    (of_decide_eq_true (by kernel_rfl)) (by unfold Func.isWrapper; first | (rw [if_pos (by decide +kernel)]; kernel_rfl) | (rw [if_neg (by decide +kernel)]; exact ⟨rfl, rfl⟩))
    (fun os started H enc _ => lifted os started H enc)

/-- The statement. -/
theorem proved : Rows.LeanTrueSaid := over
#print axioms proved
end Go.Proofs.Ytgeknojpcjadkaa.leanTrue
