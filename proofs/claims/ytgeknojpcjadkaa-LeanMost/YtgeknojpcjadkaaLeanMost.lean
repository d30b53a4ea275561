/-
  Whatever rules, term and terms for variables LeanMost is handed, it answers true and changes nothing that it was handed: where a rule fits what a term has become, at a place of the term's own, the term leans by that rule, there. No condition.
-/
import Derived.Test.YtgeknojpcjadkaaRows
import Derived.WalkKit
import Derived.ProofKit
import Derived.OpenShut
import Derived.ChangeOld
import Derived.Below
import Derived.Deep.Matrix
import Derived.Test.YtgeknojpcjadkaaBlm2
import Derived.Test.YtgeknojpcjadkaaBlm7
import Derived.Test.YtgeknojpcjadkaaBlm18
import Derived.Test.YtgeknojpcjadkaaBlm21
import Derived.Test.YtgeknojpcjadkaaBlm22
namespace Go.Proofs.Ytgeknojpcjadkaa.leanMost
open Go.ChangeShapes Go.WideShapes Go.ChangeAt Go.RowKit Go.Deep Go.Shelf Go.Maps
set_option linter.unusedVariables false

theorem own : ownKnob Try.prog.godebug = none := by kernel_rfl
theorem laidOut : laidOutB Try.prog = true := by kernel_rfl

/-! The walk. -/
set_option maxRecDepth 100000 in
set_option maxHeartbeats 2000000 in
theorem walk (a0 : Option Addr) (len0 cap0 : Nat) (a1 : Option Addr) (len1 cap1 : Nat) (a2 : Option Addr) (len2 cap2 : Nat) (w : World) (w0 : RulesIn w a0 len0 cap0) (w1 : TermIn w a1 len1 cap1) (w2 : SubsIn w a2 len2 cap2) :
    Calls Try.prog 11 #[.slice a0 len0 cap0, .slice a1 len1 cap1, .slice a2 len2 cap2] w fun e w' => e = .returned (.bool true) ∧ Below w.heap.size w w' := by
  obtain ⟨rs, rfl, hR, hr1, hr2⟩ := w0
  obtain ⟨t, rfl, hT, ht1, ht2, ht3⟩ := w1
  obtain ⟨ss, rfl, hS, hs1, hs2⟩ := w2
  have hO := hid (leanAll_any rs t a0 a1 cap0 cap1 w hR hT ht1 ht2)
  have HT := hid (fun W (hW : Below w.heap.size w W) => (hT.below hW).mono hW.size)
  have HS := hid (fun W (hW : Below w.heap.size w W) => (hS.below hW).mono hW.size)
  have hA := hid (fun W (hW : Below w.heap.size w W) => apply_any ss t a2 a1 cap2 cap1 W (HS.out W hW) (HT.out W hW))
  have hSe := hid (fun W (hW : Below w.heap.size w W) => subError_any ss a2 cap2 W (HS.out W hW))
  have hTe := hid (fun W (hW : Below w.heap.size w W) => termError_any t a1 cap1 W (HT.out W hW))
  have hSt := hid (fun W (hW : Below w.heap.size w W) u au cu hu h1 h2 => steps_any rs u a0 au cap0 cu W ((hR.below hW).mono hW.size) hu h1 h2)
  unfold StepsAns at hSt
  clear hR hT hS
  go_enter Try.func11, Try.ntmps11
  go_wp2_with fail
  refine hO.out.mono ?_
  rintro e u1 ⟨er, l, v1, hsy, rfl, n1, B1⟩
  clear hO
  obtain ⟨hl, _⟩ := hsy.lens
  have Hsy := hid hsy
  have N1 := hid n1
  obtain ⟨x1, c1, rfl⟩ := n1.slice
  clear hsy n1
  go_wp2_with fail
  refine (hA.out u1 B1).mono ?_
  rintro e u2 ⟨v2, rfl, n2, b2⟩
  have B2 := B1.trans (b2.mono B1.size)
  have N2 := hid (N1.out.below b2)
  obtain ⟨x2, c2, rfl, i2, y1, y2⟩ := New.ints n2
  have I2 := hid i2
  clear hA n2 i2 N1 b2
  by_cases h0 : er = 0
  · subst h0
    by_cases ha : Tm.applyErr ss t = 0
    · obtain ⟨hsub, et, hle, hav⟩ := Tm.apply_zero ha
      have h8 := hid (Tm.subErr_ok hsub).1
      have hk8 := hid (Tm.known8 et)
      have l30 := Tm.err_len et
      have l30' : (t.length : Int) ≤ 30 := by omega
      have HM := hid (fun hst k hk hk0 s hm hp => Tm.lean_most Hsy.out hsub hle hst (k := k) hk hk0 (s := s) hm hp)
      have Hpb := hid (fun k => Nat.le_trans (Tm.applied_pre ss t k) hle)
      have Hps := hid (fun k (hk : k < t.length) => show (Tm.applied ss (t.take (k + 1))).length = (Tm.applied ss (t.take k)).length + (Tm.piece ss (t[k]?.getD 0)).length by rw [Tm.applied_snoc ss hk, List.length_append])
      have Hp0 : Hid ((Tm.applied ss (t.take 0)).length = 0) := hid rfl
      rw [hav] at I2 y1
      rw [ha, hav]
      rw [hsub] at hSe
      rw [et] at hTe
      clear ha hav Hsy hsub et hle
      generalize Tm.applied ss t = u at *
      obtain ⟨pl, hpl⟩ : ∃ pl : Nat → Nat, pl = fun k => (Tm.applied ss (t.take k)).length := ⟨_, rfl⟩
      have HM' : Hid (Tm.stepErr rs u = 0 → ∀ k, k < t.length → ¬ t[k]?.getD 0 < 0 → ∀ s, s ∈ Tm.stepVal rs u → s.2.1 = pl k → ∃ x ∈ l, x.2.1 = k ∧ x.1 = s.1) := by rw [hpl]; exact HM
      have Hpb' : Hid (∀ k, pl k ≤ 30) := by rw [hpl]; exact Hpb
      have Hps' : Hid (∀ k, k < t.length → pl (k + 1) = pl k + (Tm.piece ss (t[k]?.getD 0)).length) := by rw [hpl]; exact Hps
      have Hp0' : Hid (pl 0 = 0) := by rw [hpl]; exact Hp0
      clear HM Hpb Hps Hp0 hpl
      go_wp2_with (first
        | (go_at_call 35; refine (hSe.out _ B2).mono ?_; rintro e u2 ⟨rfl, rfl⟩)
        | (go_at_call 16; refine (hTe.out _ B2).mono ?_; rintro e u2 ⟨rfl, rfl⟩))
      have hC := hid (hSt.out u2 B2 u x2 c2 I2.out y1 y2)
      clear hSe hTe hSt I2
      by_cases he : Tm.stepErr rs u = 0
      · have HM := hid (fun k hk hk0 j (hj : j < (Tm.stepVal rs u).length) (hp : ((Tm.stepVal rs u)[j]?.getD (0, 0, [])).2.1 = pl k) => show lmB k ((Tm.stepVal rs u)[j]?.getD (0, 0, [])).1 l l.length = true from lmB_all (HM'.out he k hk hk0 _ (by rw [List.getElem?_eq_getElem hj, Option.getD_some]; exact List.getElem_mem hj) hp))
        have hsl := Tm.stepVal_le rs u
        rw [he] at hC
        clear he HM'
        generalize Tm.stepVal rs u = sts at *
        refine hC.out.mono ?_
        rintro e u3 ⟨v3, rfl, n3, b3⟩
        have B3 := B2.trans (b3.mono B2.size)
        obtain ⟨s3, k3, rfl, hat⟩ := n3.steps
        have HA := hid (fun X (hX : Below u3.heap.size u3 X) => show StepsAt X.heap.size X (.slice s3 sts.length k3) sts from (StepsAt.below hX ⟨s3, k3, rfl, hat⟩).mono hX.size)
        have HN := hid (fun X (hX : Below u3.heap.size u3 X) => (N2.out.below b3).below hX)
        have hsl' : (sts.length : Int) ≤ 1000 := by omega
        have hl' : (l.length : Int) ≤ 1000 := by omega
        clear hC n3 hat b3 N2
        go_wp2
        go_loopw [13, 14] (fun p v X => ∃ k : Nat, k ≤ t.length ∧ v = .int .i64 (k : Int) ∧ p = .int .i64 (pl k : Int) ∧ Below u3.heap.size u3 X) (fun _ v _ => t.length - (intOf v).toNat)
        case atStart => exact ⟨0, Nat.zero_le _, rfl, by rw [Hp0'.out]; rfl, Below.refl _ _⟩
        case round =>
          obtain ⟨X, rfl⟩ : ∃ X, X = wr := ⟨wr, rfl⟩
          obtain ⟨k, hk, rfl, rfl, hX⟩ := hrel
          have BX := B3.trans (hX.mono B3.size)
          by_cases hlt : k < t.length
          · have hlt' : (k : Int) < (t.length : Int) := by omega
            obtain ⟨bt, ot, rfl, _, ct⟩ := (HT.out X BX).at (by omega)
            have ck := ct k hlt
            have hps := hid (Hps'.out k hlt)
            have hpb := Hpb'.out k
            have hpb1 := Hpb'.out (k + 1)
            have hs8 := hk8.out k hlt
            have HMk := hid (HM.out k hlt)
            clear ct
            by_cases hneg : t[k]?.getD 0 < 0
            · obtain ⟨j, hj⟩ : ∃ j : Nat, t[k]?.getD 0 = -1 - (j : Int) := ⟨(-1 - (t[k]?.getD 0)).toNat, by omega⟩
              have hj8 : j < ss.length := by rw [h8.out]; omega
              have hj8' : (j : Int) < (ss.length : Int) := by omega
              have hpc : Tm.piece ss (t[k]?.getD 0) = ss[j]?.getD [] := by
                rw [hj]
                unfold Tm.piece
                rw [if_pos (by omega)]
                congr 2
                omega
              obtain ⟨bs, os, aj, cj, rfl, _, cs, _⟩ := HS.out X BX j hj8
              rw [hpc] at hps
              rw [hj] at ck
              have hjb : (j : Int) ≤ 7 := by omega
              have hlq : (ss[j]?.getD []).length ≤ 30 := by have := hps.out; omega
              clear hpc hj hneg hs8 HMk hpb1
              generalize ss[j]?.getD [] = pc at *
              obtain ⟨pk, hpk⟩ : ∃ pk, pl k = pk := ⟨_, rfl⟩
              rw [hpk] at hps hpb ⊢
              clear hpk
              have hpb' : (pk : Int) ≤ 30 := by omega
              have hlq' : (pc.length : Int) ≤ 30 := by omega
              have hn1 : (-1 - (j : Int)) < 0 := by omega
              have hn2 : -(-1 - (j : Int)) - 1 = (j : Int) := by omega
              go_wp2
              go_roundw
              case rel => exact ⟨k + 1, by omega, by go_num, by rw [hps.out]; go_num, hX⟩
              case measure => simp [intOf]; omega
            · have hpc : Tm.piece ss (t[k]?.getD 0) = [t[k]?.getD 0] := by unfold Tm.piece; rw [if_neg hneg]
              rw [hpc] at hps
              have HMj := hid (fun j hj hp => HMk.out (by omega) j hj hp)
              clear HMk hpc hs8 hpb1
              generalize t[k]?.getD 0 = tk at *
              obtain ⟨pk, hpk⟩ : ∃ pk, pl k = pk := ⟨_, rfl⟩
              rw [hpk] at hps hpb HMj ⊢
              clear hpk
              have hpb' : (pk : Int) ≤ 30 := by omega
              go_wp2
              go_loopw [15] (fun v Y => ∃ i : Nat, i ≤ sts.length ∧ v = .int .i64 (i : Int) ∧ Below u3.heap.size u3 Y) (fun v _ => sts.length - (intOf v).toNat)
              case atStart => exact ⟨0, Nat.zero_le _, rfl, hX⟩
              case round =>
                obtain ⟨Y, rfl⟩ : ∃ Y, Y = wr := ⟨wr, rfl⟩
                obtain ⟨i, hi, rfl, hY⟩ := hrel
                by_cases hiu : i < sts.length
                · have hiu' : (i : Int) < (sts.length : Int) := by omega
                  obtain ⟨_, _, e3, hat⟩ := HA.out Y hY
                  cases e3
                  obtain ⟨g3, rfl, hg3, ad, c', z0, z1, z2, _⟩ := hat i hiu
                  have hfin := hid (HMj.out i hiu)
                  clear hat z2
                  generalize (sts[i]?.getD (0, 0, [])).2.1 = pa at *
                  generalize (sts[i]?.getD (0, 0, [])).1 = zr at *
                  by_cases hpa : pa = pk
                  · subst hpa
                    have hne : ((pa : Int) != (pa : Int)) = false := by simp
                    have hfin' := hid (hfin.out rfl)
                    have hz := hid (fun Z (hZ : Below Y.heap.size Y Z) => (hZ.cell (p := ⟨g3, i * 3, none⟩) hg3).trans z0)
                    clear hfin HMj
                    go_wp2
                    go_loopw [16, 17] (fun bv v Z => ∃ n : Nat, n ≤ l.length ∧ v = .int .i64 (n : Int) ∧ bv = .bool (lmB k zr l n) ∧ Below Y.heap.size Y Z) (fun _ v _ => l.length - (intOf v).toNat)
                    case atStart => exact ⟨0, Nat.zero_le _, rfl, by rw [lmB_zero], Below.refl _ _⟩
                    case round =>
                      obtain ⟨Z, rfl⟩ : ∃ Z, Z = wr := ⟨wr, rfl⟩
                      obtain ⟨n, hn, rfl, rfl, hZ⟩ := hrel
                      have hYZ := hY.trans (hZ.mono hY.size)
                      by_cases hnl : n < l.length
                      · have hnl' : (n : Int) < (l.length : Int) := by omega
                        have hsu := hid (lmB_succ (k := k) (r := zr) hnl)
                        have hz0 := hz.out Z hZ
                        obtain ⟨g, cg, aS, cS, aT, cT, eg, hg, c0, c1', _⟩ := (HN.out Z hYZ).elem hnl
                        cases eg
                        clear HA HN hz hfin' z0 z1 ck
                        generalize l[n].2.1 = xa at *
                        generalize l[n].1 = xr at *
                        cases hq : lmB k zr l n with
                        | true =>
                          rw [hq] at hsu
                          clear hq
                          go_wp2
                          go_quiet (fail)
                          go_wp2
                          go_roundw
                          case rel => exact ⟨n + 1, by omega, by go_num, by rw [hsu.out]; rfl, below_drewN hZ _⟩
                          case measure => simp [intOf]; omega
                        | false =>
                          rw [hq] at hsu
                          clear hq
                          by_cases hqa : xa = k
                          · subst hqa
                            have hee : ((xa : Int) == (xa : Int)) = true := by simp
                            obtain ⟨qr, hqr⟩ : ∃ qr, ((xr : Int) == (zr : Int)) = qr := ⟨_, rfl⟩
                            have hqd := hid (show decide (xr = zr) = qr by rw [← hqr, nat_beq])
                            go_wp2
                            go_quiet (fail)
                            go_wp2
                            go_roundw
                            case rel => exact ⟨n + 1, by omega, by go_num, by rw [hsu.out, hqd.out]; simp, below_drewN hZ _⟩
                            case measure => simp [intOf]; omega
                          · have hee : ((xa : Int) == (k : Int)) = false := by simp; omega
                            rw [decide_eq_false hqa] at hsu
                            clear hqa
                            go_wp2
                            go_quiet (fail)
                            go_wp2
                            go_roundw
                            case rel => exact ⟨n + 1, by omega, by go_num, by rw [hsu.out]; rfl, below_drewN hZ _⟩
                            case measure => simp [intOf]; omega
                      · obtain rfl : n = l.length := by omega
                        rw [hfin'.out]
                        go_wp2
                        go_roundw
                        case rel => exact ⟨i + 1, by omega, by go_num, hYZ⟩
                        case measure => simp [intOf]; omega
                  · have hne : ((pa : Int) != (pk : Int)) = true := by simp; omega
                    clear hpa hfin
                    go_wp2
                    go_roundw
                    case rel => exact ⟨i + 1, by omega, by go_num, hY⟩
                    case measure => simp [intOf]; omega
                · obtain rfl : i = sts.length := by omega
                  go_wp2
                  go_roundw
                  case rel => exact ⟨k + 1, by omega, by go_num, by rw [hps.out]; simp only [List.length_singleton]; go_num, hY⟩
                  case measure => simp [intOf]; omega
          · obtain rfl : k = t.length := by omega
            clear HA HN HM
            go_wp2_with fail
            refine (leanBegun_any _).mono ?_
            rintro e u9 ⟨rfl, b9⟩
            go_wp2
            go_ret
            exact ⟨rfl, BX.trans (b9.mono BX.size)⟩
      · have hne : (Tm.stepErr rs u != 0) = true := by simpa using he
        clear he HM'
        generalize Tm.stepErr rs u = q at *
        generalize Tm.stepVal rs u = sts at *
        refine hC.out.mono ?_
        rintro e u3 ⟨v3, rfl, n3, b3⟩
        obtain ⟨s3, k3, rfl⟩ := n3.slice
        have B3 := B2.trans (b3.mono B2.size)
        clear hC n3
        go_wp2_with fail
        refine (leanBegun_any _).mono ?_
        rintro e u9 ⟨rfl, b9⟩
        go_wp2
        go_ret
        exact ⟨rfl, B3.trans (b9.mono B3.size)⟩
    · have hne : (Tm.applyErr ss t != 0) = true := by simpa using ha
      clear ha
      generalize Tm.applyErr ss t = q at *
      go_wp2_with fail
      refine (leanBegun_any _).mono ?_
      rintro e u9 ⟨rfl, b9⟩
      go_wp2
      go_ret
      exact ⟨rfl, B2.trans (b9.mono B2.size)⟩
  · have hne : (er != 0) = true := by simpa using h0
    clear h0
    generalize Tm.applyErr ss t = q at *
    go_wp2_with fail
    refine (leanBegun_any _).mono ?_
    rintro e u9 ⟨rfl, b9⟩
    go_wp2
    go_ret
    exact ⟨rfl, B2.trans (b9.mono B2.size)⟩

/-! The row. -/
set_option maxRecDepth 100000 in
theorem lifted (os : Os) (started : os.Started) (H : Type) (enc : TypeId × Value → H) :
    ReturnsInHanded {} Try.checked os 11 .any (Rows.leanMostSpec.pre6 enc Try.prog Try.f11 Rows.leanMostRow.domain false) (Rows.leanMostSpec.post enc Try.prog Try.f11 false true false false) := by
  refine returnsInHanded_of_change (C := Try.checked) own started (by kernel_rfl) Try.func11
    (ChangeSpec.witness6 (enc := enc) (C := Try.checked) false ⟨#[], #[.slice none 0 0, .slice none 0 0, .slice none 0 0], []⟩ 8 (by kernel_rfl) (by kernel_rfl) (by kernel_rfl) (by kernel_rfl)) ?_
  intro W base args ds gs before hval0 hW hcnd _
  have hval : ∀ (j : Nat) t v, Try.f11.params[j]? = some t → args[j]? = some v → Value.okWide Try.prog W .any base t v := hval0
  have hW' := hW
  obtain ⟨p, q, hA0, hV, rfl, hfz, hnd⟩ := hW
  have hA : DataW.TrodAll enc Try.prog W 0 (fun _ => true) true Try.f11.params.toList args.toList ds p := hA0
  rw [Try.params11] at hA hval
  obtain ⟨v0, vs0, d0, ds0, p0, q0, hargs, rfl, rfl, h0, r0⟩ := trodAll_cons hA
  obtain ⟨v1, vs1, d1, ds1, p1, q1, rfl, rfl, rfl, h1, r1⟩ := trodAll_cons r0
  obtain ⟨v2, vs2, d2, ds2, p2, q2, rfl, rfl, rfl, h2, r2⟩ := trodAll_cons r1
  obtain ⟨rfl, rfl, rfl⟩ := trodAll_nil r2
  obtain rfl : args = #[v0, v1, v2] := by cases args; simp_all
  obtain ⟨rfl, rfl⟩ := trodVars_none hV
  obtain ⟨a0, len0, cap0, rfl⟩ := okWide_slice Try.underlying22 (hval 0 22 v0 rfl rfl)
  have k0 := h0
  have lt0 : ∀ x ∈ p0, x.block < W.heap.size := by obtain ⟨m, hm⟩ := k0; exact DataW.trod_lt m _ _ _ hm
  have w0 : RulesIn W a0 len0 cap0 := by
    obtain ⟨fuel, hf⟩ := h0
    exact rulesIn_open Try.underlying22 Try.underlying39 (by kernel_rfl) rfl rfl rfl rfl (by simp [Value.cells]) hf
  obtain ⟨a1, len1, cap1, rfl⟩ := okWide_slice Try.underlying37 (hval 1 37 v1 rfl rfl)
  have k1 := h1
  have lt1 : ∀ x ∈ p1, x.block < W.heap.size := by obtain ⟨m, hm⟩ := k1; exact DataW.trod_lt m _ _ _ hm
  have w1 : TermIn W a1 len1 cap1 := by
    obtain ⟨fuel, hf⟩ := h1
    rcases open_ints Try.underlying37 Try.underlying3 (by kernel_rfl) hf with ⟨hcs, _⟩ | ⟨x, l, c, zs, hcs, _, hl, hm, hz, _, hcell, hwz⟩
    · simp [Value.cells] at hcs
      obtain ⟨rfl, rfl, rfl⟩ := hcs
      exact ints_of_row (.inl ⟨rfl, rfl, rfl, rfl⟩)
    · simp [Value.cells] at hcs
      obtain ⟨rfl, rfl, rfl⟩ := hcs
      exact ints_of_row (.inr ⟨_, rfl, hl, hm, by simpa using hz, hcell, hwz⟩)
  obtain ⟨a2, len2, cap2, rfl⟩ := okWide_slice Try.underlying58 (hval 2 58 v2 rfl rfl)
  have k2 := h2
  have lt2 : ∀ x ∈ p2, x.block < W.heap.size := by obtain ⟨m, hm⟩ := k2; exact DataW.trod_lt m _ _ _ hm
  have w2 : SubsIn W a2 len2 cap2 := by
    obtain ⟨fuel, hf⟩ := h2
    rcases open_int_rows Try.underlying58 Try.underlying37 Try.underlying3 (by kernel_rfl) (by kernel_rfl) hf with ⟨hcs, _⟩ | ⟨x, l, c, A, L, C, Z, hcs, _, hl, hm, _, hrow⟩
    · simp [Value.cells] at hcs
      obtain ⟨rfl, rfl, rfl⟩ := hcs
      exact subsIn_nil _
    · simp [Value.cells] at hcs
      obtain ⟨rfl, rfl, rfl⟩ := hcs
      exact subsIn_rows hl hm hrow
  clear hA0 hval0
  refine (walk a0 len0 cap0 a1 len1 cap1 a2 len2 cap2 W w0 w1 w2).mono fun e W' ⟨he, bel⟩ => ?_
  subst he
  exact ⟨_, rfl, _, _, _, [], _, [], hW', trodAll_mk1 (shut_bool Try.underlying4 _), (trodAll_cons_mk (Below.trod laidOut (by kernel_rfl) (of_decide_eq_true (by kernel_rfl)) k0 bel lt0) (trodAll_cons_mk (Below.trod laidOut (by kernel_rfl) (of_decide_eq_true (by kernel_rfl)) k1 bel lt1) (trodAll_cons_mk (Below.trod laidOut (by kernel_rfl) (of_decide_eq_true (by kernel_rfl)) k2 bel lt2) trodAll_mk0))), rfl, bel.frame _, fun h => by cases h⟩

theorem over : Rows.leanMostRow.holds Try.pinned (OpenSpec.ofChange Rows.leanMostSpec) :=
  OpenClaim.holds_of_wide 11 Try.f11 rfl rfl rfl rfl rfl rfl rfl ⟨rfl, rfl, rfl, rfl, rfl⟩ rfl rfl rfl rfl rfl (by kernel_rfl) Try.func11 (by kernel_rfl)
    (of_decide_eq_true (by kernel_rfl)) (by unfold Func.isWrapper; first | (rw [if_pos (by decide +kernel)]; kernel_rfl) | (rw [if_neg (by decide +kernel)]; exact ⟨rfl, rfl⟩))
    (fun os started H enc _ => lifted os started H enc)

/-- The statement. -/
theorem proved : Rows.LeanMostSaid := over
#print axioms proved
end Go.Proofs.Ytgeknojpcjadkaa.leanMost
