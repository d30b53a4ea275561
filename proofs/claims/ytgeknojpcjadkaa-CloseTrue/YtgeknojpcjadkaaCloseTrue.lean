/-
  Whatever rank, pairs and number CloseTrue is handed, it answers true and changes nothing that it was handed: rules that close.Run answers fall, all their pairs meet, and both of each pair that was handed in have one form, if nothing is too large. No condition.
-/
import Derived.Test.YtgeknojpcjadkaaRows
import Derived.WalkKit
import Derived.ProofKit
import Derived.OpenShut
import Derived.ChangeOld
import Derived.Below
import Derived.Deep.Matrix
import Derived.Test.YtgeknojpcjadkaaBct2
import Derived.Test.YtgeknojpcjadkaaBct9
import Derived.Test.YtgeknojpcjadkaaBct30
import Derived.Test.YtgeknojpcjadkaaBct32
import Derived.Test.YtgeknojpcjadkaaBct21
import Derived.Test.YtgeknojpcjadkaaBct15
namespace Go.Proofs.Ytgeknojpcjadkaa.closeTrue
open Go.ChangeShapes Go.WideShapes Go.ChangeAt Go.RowKit Go.Deep Go.Shelf Go.Maps
set_option linter.unusedVariables false

theorem own : ownKnob Try.prog.godebug = none := by kernel_rfl
theorem laidOut : laidOutB Try.prog = true := by kernel_rfl

/-! The walk. -/
set_option maxRecDepth 100000 in
set_option maxHeartbeats 8000000 in
theorem walk (a0 : Option Addr) (len0 cap0 : Nat) (a1 : Option Addr) (len1 cap1 : Nat) (a2 : Int) (w : World) (w0 : TermIn w a0 len0 cap0) (w1 : RulesIn w a1 len1 cap1) (w2 : (Lit.int .i64 a2).wf = true) :
    Calls Try.prog 6 #[.slice a0 len0 cap0, .slice a1 len1 cap1, .int .i64 a2] w fun e w' => e = .returned (.bool true) ∧ Below w.heap.size w w' := by
  obtain ⟨rk, rfl, hK, hk1, hk2, hk3⟩ := w0
  obtain ⟨ps, rfl, hI, hi1, hi2⟩ := w1
  have hR := hid (Run_any rk ps a0 a1 cap0 cap1 w hK hI hi1 hi2)
  have HK := hid (fun W (hW : Below w.heap.size w W) => (hK.below hW).mono hW.size)
  have HI := hid (fun W (hW : Below w.heap.size w W) => (hI.below hW).mono hW.size)
  clear hK hI
  go_enter Try.func6, Try.ntmps6
  go_wp2_with fail
  refine hR.out.mono ?_
  rintro e u1 ⟨er, rs, n, al, cl, hs, rfl, hL, hcl1, hcl2, B1⟩
  clear hR
  by_cases he : er = 0
  · subst he
    obtain ⟨v1, v2⟩ := Tm.run_falls hs
    have hT := hid (Tm.run_true hs)
    have hNo := hid (fun (h : ps = []) => Tm.run_none (rk := rk) (rs := rs) (n := n) (h ▸ hs))
    have l40 : ps.length ≤ 40 := by
      rcases hs with ⟨h, h', _⟩ | ⟨h, _⟩
      · exact absurd h'.symm h
      · unfold Tm.bothErr at h
        by_cases h1 : Tm.rankErr rk = 0
        · rw [if_pos h1] at h
          unfold Tm.eqsErr at h
          by_cases h2 : 40 < ps.length
          · rw [if_pos h2] at h; exact absurd h (by decide)
          · omega
        · rw [if_neg h1] at h; exact absurd h h1
    have hF := hid (rulesFalls_any rk rs a0 al cap0 cl u1 (HK.out u1 B1) hL)
    rw [v1, v2] at hF
    clear v1 v2 hs
    go_wp2_with fail
    refine hF.out.mono ?_
    rintro e u2 ⟨rfl, b2⟩
    have B2 := B1.trans (b2.mono B1.size)
    have hL2 := (hL.below b2).mono b2.size
    clear hF hL b2 B1
    have hJ := hid (joinAll_any rs al cl u2 hL2 (by omega))
    go_wp2_with fail
    refine hJ.out.mono ?_
    rintro e u3 ⟨is, er, hj, rfl, b3⟩
    have B3 := B2.trans (b3.mono B2.size)
    have HL3 := hid ((hL2.below b3).mono b3.size)
    have hcs : (er == 0) = false ∨ (er = 0 ∧ is = true) := by
      by_cases h : er = 0
      · subst h; exact .inr ⟨rfl, hT.out.1 is hj⟩
      · exact .inl (by simpa using h)
    clear hJ hL2 b3 B2 hj
    have Hp := hid hT.out.2
    clear hT
    rcases Nat.eq_zero_or_pos ps.length with hz | hz
    · have hz' := List.eq_nil_of_length_eq_zero hz
      have hr0 := hNo.out hz'
      subst hz'
      subst hr0
      clear hNo Hp hz
      rcases hcs with hne | ⟨rfl, rfl⟩
      all_goals (
        go_wp2_with fail
        refine (closeBegun_any u3).mono ?_
        rintro e u4 ⟨rfl, b4⟩
        go_wp2
        go_ret
        exact ⟨rfl, B3.trans (b4.mono B3.size)⟩)
    · have hz1 : (0 : Int) < (ps.length : Int) := by omega
      have hz2 : ((ps.length : Int) == 0) = false := by rw [beq_eq_false_iff_ne]; omega
      have hch := hid (fun W => choose_any a2 ps.length w2 hz (by omega) W)
      clear hNo hz
      rcases hcs with hne | ⟨rfl, rfl⟩
      all_goals (
        go_wp2_with fail
        refine (hch.out u3).mono ?_
        rintro e u3 ⟨⟨j, hj, rfl⟩, rfl⟩
        have hji : (j : Int) < (ps.length : Int) := by omega
        obtain ⟨b, off, rfl, hb, aP, cP, aQ, cQ, g1, g2, g3, g4, g5, g6, g7, g8⟩ := (HI.out u3 B3) j hj
        have hPr := hid (joinPair_any rs (ps[j]?.getD ([], [])).1 (ps[j]?.getD ([], [])).2 al aP aQ cl cP cQ u3 HL3.out g3 g4 g5 g6 g7 g8)
        have hq := Hp.out (ps[j]?.getD ([], [])) (by rw [List.getElem?_eq_getElem hj]; exact List.getElem_mem hj)
        generalize (ps[j]?.getD ([], [])).1 = P at *
        generalize (ps[j]?.getD ([], [])).2 = Q at *
        generalize Tm.joinIs rs P Q = qi at *
        generalize Tm.joinErr rs P Q = qe at *
        have hq' : (qe = 0 ∧ qi = true) ∨ (qe != 0) = true := by
          by_cases h : qe = 0
          · exact .inl ⟨h, hq h⟩
          · exact .inr (by simpa using h)
        clear hq Hp g3 g4 g5 g6 g7 g8 hch
        go_wp2_with fail
        refine hPr.out.mono ?_
        rintro e u4 ⟨rfl, b4⟩
        have B4 := B3.trans (b4.mono B3.size)
        clear hPr
        rcases hq' with ⟨rfl, rfl⟩ | hq'
        all_goals (
          go_wp2_with fail
          refine (closeBegun_any u4).mono ?_
          rintro e u5 ⟨rfl, b5⟩
          go_wp2
          go_ret
          exact ⟨rfl, B4.trans (b5.mono B4.size)⟩))
  · have hne : (er != 0) = true := by simpa using he
    clear he hs
    go_wp2_with fail
    refine (closeBegun_any u1).mono ?_
    rintro e u2 ⟨rfl, b2⟩
    go_wp2
    go_ret
    exact ⟨rfl, B1.trans (b2.mono B1.size)⟩

/-! The row. -/
set_option maxRecDepth 100000 in
theorem lifted (os : Os) (started : os.Started) (H : Type) (enc : TypeId × Value → H) :
    ReturnsInHanded {} Try.checked os 6 .any (Rows.closeTrueSpec.pre6 enc Try.prog Try.f6 Rows.closeTrueRow.domain false) (Rows.closeTrueSpec.post enc Try.prog Try.f6 false true false false) := by
  refine returnsInHanded_of_change (C := Try.checked) own started (by kernel_rfl) Try.func6
    (ChangeSpec.witness6 (enc := enc) (C := Try.checked) false ⟨#[], #[.slice none 0 0, .slice none 0 0, .int .i64 0], []⟩ 8 (by kernel_rfl) (by kernel_rfl) (by kernel_rfl) (by kernel_rfl)) ?_
  intro W base args ds gs before hval0 hW hcnd _
  have hval : ∀ (j : Nat) t v, Try.f6.params[j]? = some t → args[j]? = some v → Value.okWide Try.prog W .any base t v := hval0
  have hW' := hW
  obtain ⟨p, q, hA0, hV, rfl, hfz, hnd⟩ := hW
  have hA : DataW.TrodAll enc Try.prog W 0 (fun _ => true) true Try.f6.params.toList args.toList ds p := hA0
  rw [Try.params6] at hA hval
  obtain ⟨v0, vs0, d0, ds0, p0, q0, hargs, rfl, rfl, h0, r0⟩ := trodAll_cons hA
  obtain ⟨v1, vs1, d1, ds1, p1, q1, rfl, rfl, rfl, h1, r1⟩ := trodAll_cons r0
  obtain ⟨v2, vs2, d2, ds2, p2, q2, rfl, rfl, rfl, h2, r2⟩ := trodAll_cons r1
  obtain ⟨rfl, rfl, rfl⟩ := trodAll_nil r2
  obtain rfl : args = #[v0, v1, v2] := by cases args; simp_all
  obtain ⟨rfl, rfl⟩ := trodVars_none hV
  obtain ⟨a0, len0, cap0, rfl⟩ := okWide_slice Try.underlying36 (hval 0 36 v0 rfl rfl)
  have k0 := h0
  have lt0 : ∀ x ∈ p0, x.block < W.heap.size := by obtain ⟨m, hm⟩ := k0; exact DataW.trod_lt m _ _ _ hm
  have w0 : TermIn W a0 len0 cap0 := by
    obtain ⟨fuel, hf⟩ := h0
    rcases open_ints Try.underlying36 Try.underlying3 (by kernel_rfl) hf with ⟨hcs, _⟩ | ⟨x, l, c, zs, hcs, _, hl, hm, hz, _, hcell, hwz⟩
    · simp [Value.cells] at hcs
      obtain ⟨rfl, rfl, rfl⟩ := hcs
      exact ints_of_row (.inl ⟨rfl, rfl, rfl, rfl⟩)
    · simp [Value.cells] at hcs
      obtain ⟨rfl, rfl, rfl⟩ := hcs
      exact ints_of_row (.inr ⟨_, rfl, hl, hm, by simpa using hz, hcell, hwz⟩)
  obtain ⟨a1, len1, cap1, rfl⟩ := okWide_slice Try.underlying30 (hval 1 30 v1 rfl rfl)
  have k1 := h1
  have lt1 : ∀ x ∈ p1, x.block < W.heap.size := by obtain ⟨m, hm⟩ := k1; exact DataW.trod_lt m _ _ _ hm
  have w1 : RulesIn W a1 len1 cap1 := by
    obtain ⟨fuel, hf⟩ := h1
    exact rulesIn_open Try.underlying30 Try.underlying42 (by kernel_rfl) rfl rfl rfl rfl (by simp [Value.cells]) hf
  obtain ⟨a2, rfl, rfl, rfl, w2⟩ := open_int Try.underlying3 (hval 2 3 v2 rfl rfl) h2
  clear hA0 hval0
  refine (walk a0 len0 cap0 a1 len1 cap1 a2 W w0 w1 w2).mono fun e W' ⟨he, bel⟩ => ?_
  subst he
  exact ⟨_, rfl, _, _, _, [], _, [], hW', trodAll_mk1 (shut_bool Try.underlying4 _), (trodAll_cons_mk (Below.trod laidOut (by kernel_rfl) (of_decide_eq_true (by kernel_rfl)) k0 bel lt0) (trodAll_cons_mk (Below.trod laidOut (by kernel_rfl) (of_decide_eq_true (by kernel_rfl)) k1 bel lt1) (trodAll_cons_mk (shut_int Try.underlying3 w2) trodAll_mk0))), rfl, bel.frame _, fun h => by cases h⟩

theorem over : Rows.closeTrueRow.holds Try.pinned (OpenSpec.ofChange Rows.closeTrueSpec) :=
  OpenClaim.holds_of_wide 6 Try.f6 rfl rfl rfl rfl rfl rfl rfl ⟨rfl, rfl, rfl, rfl, rfl⟩ rfl rfl rfl rfl rfl (by kernel_rfl) Try.func6 (by kernel_rfl)
    (of_decide_eq_true (by kernel_rfl)) (by unfold Func.isWrapper; first | (rw [if_pos (by decide +kernel)]; kernel_rfl) | (rw [if_neg (by decide +kernel)]; exact ⟨rfl, rfl⟩))
    (fun os started H enc _ => lifted os started H enc)

/-- The statement. -/
theorem proved : Rows.CloseTrueSaid := over
#print axioms proved
end Go.Proofs.Ytgeknojpcjadkaa.closeTrue
