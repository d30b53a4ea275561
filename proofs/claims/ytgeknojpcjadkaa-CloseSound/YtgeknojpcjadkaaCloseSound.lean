/-
  Whatever rank, pairs and world CloseSound is handed, it answers true and changes nothing that it was handed: in whatever world all pairs hold that close.Run is handed, all rules hold that it answers. No condition.
-/
import Derived.Test.YtgeknojpcjadkaaRows
import Derived.WalkKit
import Derived.ProofKit
import Derived.OpenShut
import Derived.ChangeOld
import Derived.Below
import Derived.Deep.Matrix
import Derived.Test.YtgeknojpcjadkaaBcs3
import Derived.Test.YtgeknojpcjadkaaBcs10
import Derived.Test.YtgeknojpcjadkaaBcs31
import Derived.Test.YtgeknojpcjadkaaBcs30
namespace Go.Proofs.Ytgeknojpcjadkaa.closeSound
open Go.ChangeShapes Go.WideShapes Go.ChangeAt Go.RowKit Go.Deep Go.Shelf Go.Maps
set_option linter.unusedVariables false

theorem own : ownKnob Try.prog.godebug = none := by kernel_rfl
theorem laidOut : laidOutB Try.prog = true := by kernel_rfl

/-! The walk. -/
set_option maxRecDepth 100000 in
set_option maxHeartbeats 2000000 in
theorem walk (a0 : Option Addr) (len0 cap0 : Nat) (a1 : Option Addr) (len1 cap1 : Nat) (zs2 : List Int) (w : World) (w0 : TermIn w a0 len0 cap0) (w1 : RulesIn w a1 len1 cap1) (w2 : MoOk zs2) :
    Calls Try.prog 7 #[.slice a0 len0 cap0, .slice a1 len1 cap1, moV zs2] w fun e w' => e = .returned (.bool true) ∧ Below w.heap.size w w' := by
  obtain ⟨rk, rfl, hK, hk1, hk2, hk3⟩ := w0
  obtain ⟨ps, rfl, hI, hi1, hi2⟩ := w1
  have hB0 : Below w.heap.size w (w.alloc (.cells (zs2.map (Value.int .i64)).toArray 29)) := (Below.refl _ w).alloc (Nat.le_refl _) _
  have bM := World.alloc_heap_new w (.cells (zs2.map (Value.int .i64)).toArray 29)
  obtain ⟨W1, hW1⟩ : ∃ W1, w.alloc (.cells (zs2.map (Value.int .i64)).toArray 29) = W1 := ⟨_, rfl⟩
  have hs1 : W1.heap.size = w.heap.size + 1 := by rw [← hW1]; simp
  rw [hW1] at hB0 bM
  have HI := hid (fun W (hW : Below W1.heap.size W1 W) => show RulesAt W.heap.size W a1 ps by have h := hB0.trans (hW.mono hB0.size); exact (hI.below h).mono h.size)
  have HbM := hid (fun W (hW : Below W1.heap.size W1 W) => (hW.block w.heap.size (by omega)).trans bM)
  have hszM := hid (mo_size w2)
  have hu53 := hid Try.underlying29
  have hi53 := hid (show (Try.prog.info? 29).map (·.size) = some (zs2.map (Value.int .i64)).length by rw [List.length_map, w2.len]; kernel_rfl)
  have hR := hid (Run_any rk ps a0 a1 cap0 cap1 W1 ((hK.below hB0).mono hB0.size) (HI.out W1 (Below.refl _ _)) hi1 hi2)
  have HW1 := hid hW1
  have Hz := hid w2
  clear hI hK bM hW1
  unfold moV
  go_enter Try.func7, Try.ntmps7
  go_wp2_with fail
  rw [HW1.out]
  refine hR.out.mono ?_
  rintro e u1 ⟨er, rs, n, al, cl, hs, rfl, hL, hcl1, hcl2, B1⟩
  clear hR
  by_cases he : er = 0
  · subst he
    have hq0 : Tm.bothErr rk ps = 0 := by
      rcases hs with ⟨h, h', _⟩ | ⟨h, _⟩
      · exact absurd h'.symm h
      · exact h
    have hq1 : Tm.eqsErr ps = 0 := by
      unfold Tm.bothErr at hq0
      by_cases h : Tm.rankErr rk = 0
      · rwa [if_pos h] at hq0
      · rw [if_neg h] at hq0; exact absurd hq0 h
    have hq2 : ps.length ≤ 40 ∧ Tm.firstPair ps = 0 := by
      unfold Tm.eqsErr at hq1
      by_cases h : 40 < ps.length
      · rw [if_pos h] at hq1; exact absurd hq1 (by decide)
      · rw [if_neg h] at hq1; exact ⟨by omega, hq1⟩
    have l40 : (ps.length : Int) ≤ 40 := by omega
    have hEe := hid (eqsError_any ps a1 cap1 u1 (HI.out u1 B1))
    rw [hq1] at hEe
    have Hs := hid hs
    have HPr := hid (Tm.firstP_zero hq2.2)
    have HPr' := hid (Tm.pairs_right hq2.2)
    clear hs hq0 hq1 hq2
    go_wp2_with fail
    refine hEe.out.mono ?_
    rintro e u2 ⟨rfl, b2⟩
    have B2 := B1.trans (b2.mono B1.size)
    have hL2 := (hL.below b2).mono b2.size
    clear hEe hL b2 B1
    have hRe := hid (rulesError_any rs al cl u2 hL2)
    by_cases hr : Tm.rulesErr rs = 0
    · rw [hr] at hRe
      have Hr := hid hr
      clear hr
      go_wp2_with fail
      refine hRe.out.mono ?_
      rintro e u3 ⟨rfl, b3⟩
      have B3 := B2.trans (b3.mono B2.size)
      have HL3 := hid ((hL2.below b3).mono b3.size)
      clear hRe hL2 b3 B2
      go_wp2
      go_loopw [10] (fun v wr => ∃ k : Nat, k ≤ ps.length ∧ v = .int .i64 (k : Int) ∧ Hid (∀ j, j < k → Tm.Holds (mo zs2) (ps[j]?.getD ([], [])).1 (ps[j]?.getD ([], [])).2) ∧ Below u3.heap.size u3 wr) (fun v _ => ps.length - (intOf v).toNat)
      case atStart => exact ⟨0, Nat.zero_le _, rfl, (fun j hj => by omega), Below.refl _ _⟩
      case round =>
        obtain ⟨k, hk, rfl, hst, hB⟩ := hrel
        have BW := B3.trans (hB.mono B3.size)
        by_cases hlt : k < ps.length
        · have hlt' : (k : Int) < (ps.length : Int) := by omega
          obtain ⟨b, off, rfl, hb, aL, cL, aR, cR, g1, g2, g3, g4, g5, g6, g7, g8⟩ := (HI.out wr BW) k hlt
          obtain ⟨eL, eR⟩ := HPr.out k hlt
          have hiff := hid (Tm.holds1 (zs := zs2) eL eR)
          have hst' : Hid (Tm.Holds (mo zs2) (ps[k]?.getD ([], [])).1 (ps[k]?.getD ([], [])).2 → ∀ j, j < k + 1 → Tm.Holds (mo zs2) (ps[j]?.getD ([], [])).1 (ps[j]?.getD ([], [])).2) := fun h j hj => by
            by_cases e : j = k
            · subst e; exact h
            · exact hst.out j (by omega)
          have hC := hid (fun W (hW : Below wr.heap.size wr W) => holds_any zs2 Hz.out (ps[k]?.getD ([], [])).1 (ps[k]?.getD ([], [])).2 aL aR cL cR W eL eR ((g3.below hW).mono hW.size) ((g4.below hW).mono hW.size))
          unfold moV at hC
          generalize (ps[k]?.getD ([], [])).1 = L at *
          generalize (ps[k]?.getD ([], [])).2 = R at *
          have hS := hid (fun w' (hW : Below wr.heap.size wr w') => (show w'.rangeAt w.heap.size 0 (zs2.map (Value.int .i64)) ∧ w'.cell? ⟨b, off + k * 2, none⟩ = some (.slice aL L.length cL) ∧ w'.cell? ⟨b, off + k * 2 + 1, none⟩ = some (.slice aR R.length cR) from
            ⟨mo_range (zs := zs2) (HbM.out w' (BW.trans (hW.mono BW.size))), (hW.cell (p := ⟨b, off + k * 2, none⟩) hb).trans g1, (hW.cell (p := ⟨b, off + k * 2 + 1, none⟩) hb).trans g2⟩))
          have hS0 := hS.out wr (Below.refl _ wr)
          have hS1 := hS.out _ (below_drewN (Below.refl _ wr) 1)
          clear g3 g4 g5 g6 g7 g8 eL eR
          cases hq : Tm.holdsB (mo zs2) L R (max (dpN L) (dpN R)) with
          | true =>
            have hT := hid (hst'.out (hiff.out.1 hq))
            rw [hq] at hC
            clear hq hst' hiff hst
            go_wp2_with fail
            refine wp_region_held_drew (S := fun w' => w'.rangeAt w.heap.size 0 (zs2.map (Value.int .i64)) ∧ w'.cell? ⟨b, off + k * 2, none⟩ = some (.slice aL L.length cL) ∧ w'.cell? ⟨b, off + k * 2 + 1, none⟩ = some (.slice aR R.length cR)) (by kernel_rfl) hS1 (fun hHeld => ?_)
            show wpAnyH _ _ _ _ _ 13 (Array.replicate 13 false) _ _
            refine wpAnyH_take (i := 0) (v := .agg (zs2.map (Value.int .i64)).toArray) rfl (by kernel_rfl) (by kernel_rfl) (by kernel_rfl) (fun _ _ _ h => h) (yieldsIf_load_mid (by rfl) 29 _ rfl _ _ rfl (zs2.map (Value.int .i64)) _ (fun w h => h.1) hu53.out rfl hi53.out) hHeld ?_
            refine wpAnyH_take (i := 1) (v := .slice (some ⟨b, off, none⟩) ps.length cap1) rfl (by kernel_rfl) (by kernel_rfl) (by kernel_rfl) (fun _ _ _ h => h) (Or.inl ⟨by rfl, fun w hSw => by obtain ⟨_, hSa, hSb⟩ := hSw; go_simp⟩) hHeld ?_
            refine wpAnyH_take (i := 2) (v := .int .i64 (k : Int)) rfl (by kernel_rfl) (by kernel_rfl) (by kernel_rfl) (fun _ _ _ h => h) (Or.inl ⟨by rfl, fun w hSw => by obtain ⟨_, hSa, hSb⟩ := hSw; go_simp⟩) hHeld ?_
            refine wpAnyH_take (i := 3) (v := .pointer (some ⟨b, off + k * 2, none⟩)) rfl (by kernel_rfl) (by kernel_rfl) (by kernel_rfl) (fun _ _ _ h => h) (Or.inl ⟨by rfl, fun w hSw => by obtain ⟨_, hSa, hSb⟩ := hSw; go_simp⟩) hHeld ?_
            refine wpAnyH_take (i := 4) (v := .pointer (some ⟨b, off + k * 2, none⟩)) rfl (by kernel_rfl) (by kernel_rfl) (by kernel_rfl) (fun _ _ _ h => h) (Or.inl ⟨by rfl, fun w hSw => by obtain ⟨_, hSa, hSb⟩ := hSw; go_simp⟩) hHeld ?_
            refine wpAnyH_take (i := 5) (v := .slice aL L.length cL) rfl (by kernel_rfl) (by kernel_rfl) (by kernel_rfl) (fun _ _ _ h => h) (Or.inl ⟨by rfl, fun w hSw => by obtain ⟨_, hSa, hSb⟩ := hSw; go_simp⟩) hHeld ?_
            refine wpAnyH_take (i := 6) (v := .slice (some ⟨b, off, none⟩) ps.length cap1) rfl (by kernel_rfl) (by kernel_rfl) (by kernel_rfl) (fun _ _ _ h => h) (Or.inl ⟨by rfl, fun w hSw => by obtain ⟨_, hSa, hSb⟩ := hSw; go_simp⟩) hHeld ?_
            refine wpAnyH_take (i := 7) (v := .int .i64 (k : Int)) rfl (by kernel_rfl) (by kernel_rfl) (by kernel_rfl) (fun _ _ _ h => h) (Or.inl ⟨by rfl, fun w hSw => by obtain ⟨_, hSa, hSb⟩ := hSw; go_simp⟩) hHeld ?_
            refine wpAnyH_take (i := 8) (v := .pointer (some ⟨b, off + k * 2, none⟩)) rfl (by kernel_rfl) (by kernel_rfl) (by kernel_rfl) (fun _ _ _ h => h) (Or.inl ⟨by rfl, fun w hSw => by obtain ⟨_, hSa, hSb⟩ := hSw; go_simp⟩) hHeld ?_
            refine wpAnyH_take (i := 9) (v := .pointer (some ⟨b, off + k * 2 + 1, none⟩)) rfl (by kernel_rfl) (by kernel_rfl) (by kernel_rfl) (fun _ _ _ h => h) (Or.inl ⟨by rfl, fun w hSw => by obtain ⟨_, hSa, hSb⟩ := hSw; go_simp⟩) hHeld ?_
            refine wpAnyH_take (i := 10) (v := .slice aR R.length cR) rfl (by kernel_rfl) (by kernel_rfl) (by kernel_rfl) (fun _ _ _ h => h) (Or.inl ⟨by rfl, fun w hSw => by obtain ⟨_, hSa, hSb⟩ := hSw; go_simp⟩) hHeld ?_
            refine wpAnyH_ready (rs := [11]) (by kernel_rfl) (by simp) (AllReadyH.cons rfl (fun K hK => ?_) AllReadyH.nil)
            go_simp
            refine (hC.out _ (below_drew1 (Below.refl _ wr))).mono ?_
            clear hC
            rintro e w2 ⟨rfl, b2⟩
            have b3 : Below wr.heap.size wr w2 := ⟨b2.os, b2.tape, b2.output, b2.size, b2.block⟩
            refine hK.out _ _ (hS.out w2 b3) (fun hHeld2 => ?_)
            clear hK K
            refine wpAnyH_ready (rs := [12]) (by kernel_rfl) (by simp) (AllReadyH.cons rfl (fun K hK => ?_) AllReadyH.nil)
            go_simp
            refine hK.out _ _ (hS.out w2 b3) (fun _ => ?_)
            clear hK K
            refine wpAnyH_done (by kernel_rfl) ?_ _
            go_wp2
            go_roundw
            case rel => exact ⟨k + 1, by omega, by go_num, hT, hB.trans (b3.mono hB.size)⟩
            case measure => simp [intOf]; omega
          | false =>
            rw [hq] at hC
            clear hq hst' hiff hst
            go_wp2_with fail
            refine wp_region_held_drew (S := fun w' => w'.rangeAt w.heap.size 0 (zs2.map (Value.int .i64)) ∧ w'.cell? ⟨b, off + k * 2, none⟩ = some (.slice aL L.length cL) ∧ w'.cell? ⟨b, off + k * 2 + 1, none⟩ = some (.slice aR R.length cR)) (by kernel_rfl) hS1 (fun hHeld => ?_)
            show wpAnyH _ _ _ _ _ 13 (Array.replicate 13 false) _ _
            refine wpAnyH_take (i := 0) (v := .agg (zs2.map (Value.int .i64)).toArray) rfl (by kernel_rfl) (by kernel_rfl) (by kernel_rfl) (fun _ _ _ h => h) (yieldsIf_load_mid (by rfl) 29 _ rfl _ _ rfl (zs2.map (Value.int .i64)) _ (fun w h => h.1) hu53.out rfl hi53.out) hHeld ?_
            refine wpAnyH_take (i := 1) (v := .slice (some ⟨b, off, none⟩) ps.length cap1) rfl (by kernel_rfl) (by kernel_rfl) (by kernel_rfl) (fun _ _ _ h => h) (Or.inl ⟨by rfl, fun w hSw => by obtain ⟨_, hSa, hSb⟩ := hSw; go_simp⟩) hHeld ?_
            refine wpAnyH_take (i := 2) (v := .int .i64 (k : Int)) rfl (by kernel_rfl) (by kernel_rfl) (by kernel_rfl) (fun _ _ _ h => h) (Or.inl ⟨by rfl, fun w hSw => by obtain ⟨_, hSa, hSb⟩ := hSw; go_simp⟩) hHeld ?_
            refine wpAnyH_take (i := 3) (v := .pointer (some ⟨b, off + k * 2, none⟩)) rfl (by kernel_rfl) (by kernel_rfl) (by kernel_rfl) (fun _ _ _ h => h) (Or.inl ⟨by rfl, fun w hSw => by obtain ⟨_, hSa, hSb⟩ := hSw; go_simp⟩) hHeld ?_
            refine wpAnyH_take (i := 4) (v := .pointer (some ⟨b, off + k * 2, none⟩)) rfl (by kernel_rfl) (by kernel_rfl) (by kernel_rfl) (fun _ _ _ h => h) (Or.inl ⟨by rfl, fun w hSw => by obtain ⟨_, hSa, hSb⟩ := hSw; go_simp⟩) hHeld ?_
            refine wpAnyH_take (i := 5) (v := .slice aL L.length cL) rfl (by kernel_rfl) (by kernel_rfl) (by kernel_rfl) (fun _ _ _ h => h) (Or.inl ⟨by rfl, fun w hSw => by obtain ⟨_, hSa, hSb⟩ := hSw; go_simp⟩) hHeld ?_
            refine wpAnyH_take (i := 6) (v := .slice (some ⟨b, off, none⟩) ps.length cap1) rfl (by kernel_rfl) (by kernel_rfl) (by kernel_rfl) (fun _ _ _ h => h) (Or.inl ⟨by rfl, fun w hSw => by obtain ⟨_, hSa, hSb⟩ := hSw; go_simp⟩) hHeld ?_
            refine wpAnyH_take (i := 7) (v := .int .i64 (k : Int)) rfl (by kernel_rfl) (by kernel_rfl) (by kernel_rfl) (fun _ _ _ h => h) (Or.inl ⟨by rfl, fun w hSw => by obtain ⟨_, hSa, hSb⟩ := hSw; go_simp⟩) hHeld ?_
            refine wpAnyH_take (i := 8) (v := .pointer (some ⟨b, off + k * 2, none⟩)) rfl (by kernel_rfl) (by kernel_rfl) (by kernel_rfl) (fun _ _ _ h => h) (Or.inl ⟨by rfl, fun w hSw => by obtain ⟨_, hSa, hSb⟩ := hSw; go_simp⟩) hHeld ?_
            refine wpAnyH_take (i := 9) (v := .pointer (some ⟨b, off + k * 2 + 1, none⟩)) rfl (by kernel_rfl) (by kernel_rfl) (by kernel_rfl) (fun _ _ _ h => h) (Or.inl ⟨by rfl, fun w hSw => by obtain ⟨_, hSa, hSb⟩ := hSw; go_simp⟩) hHeld ?_
            refine wpAnyH_take (i := 10) (v := .slice aR R.length cR) rfl (by kernel_rfl) (by kernel_rfl) (by kernel_rfl) (fun _ _ _ h => h) (Or.inl ⟨by rfl, fun w hSw => by obtain ⟨_, hSa, hSb⟩ := hSw; go_simp⟩) hHeld ?_
            refine wpAnyH_ready (rs := [11]) (by kernel_rfl) (by simp) (AllReadyH.cons rfl (fun K hK => ?_) AllReadyH.nil)
            go_simp
            refine (hC.out _ (below_drew1 (Below.refl _ wr))).mono ?_
            clear hC
            rintro e w2 ⟨rfl, b2⟩
            have b3 : Below wr.heap.size wr w2 := ⟨b2.os, b2.tape, b2.output, b2.size, b2.block⟩
            refine hK.out _ _ (hS.out w2 b3) (fun hHeld2 => ?_)
            clear hK K
            refine wpAnyH_ready (rs := [12]) (by kernel_rfl) (by simp) (AllReadyH.cons rfl (fun K hK => ?_) AllReadyH.nil)
            go_simp
            refine hK.out _ _ (hS.out w2 b3) (fun _ => ?_)
            clear hK K
            refine wpAnyH_done (by kernel_rfl) ?_ _
            go_wp2_with fail
            refine (closeBegun_any w2).mono ?_
            rintro e w4 ⟨rfl, b4⟩
            go_wp2
            go_ret
            have B4 := BW.trans (b3.mono BW.size)
            exact ⟨rfl, hB0.trans ((B4.trans (b4.mono B4.size)).mono (by omega))⟩
        · obtain rfl : k = ps.length := by omega
          have hall := Tm.run_holds Hs.out (Tm.allHold_of hst.out)
          have hwb : worldB zs2 rs = true := (worldB_iff (Tm.rules_right Hr.out)).2 hall
          have hWo := hid (fun W (hW : Below wr.heap.size wr W) => world_any zs2 Hz.out rs al cl W Hr.out (by have h := hB.trans (hW.mono hB.size); exact (HL3.out.below h).mono h.size))
          rw [hwb] at hWo
          unfold moV at hWo
          clear hall hwb hst
          go_wp2_with fail
          refine (closeBegun_any wr).mono ?_
          rintro e w4 ⟨rfl, b4⟩
          have B4 := BW.trans (b4.mono BW.size)
          have bM4 := hid (HbM.out w4 B4)
          go_wp2_with (first
            | (refine wpList_row_wanted rfl 29 _ rfl _ rfl _ _ _ _ bM4.out Try.underlying29 rfl hszM.out ?_)
            | (go_at_call 15; refine (hWo.out w4 b4).mono ?_; rintro e w5 ⟨rfl, b5⟩))
          go_ret
          exact ⟨rfl, hB0.trans ((B4.trans (b5.mono B4.size)).mono (by omega))⟩
    · have hne : (Tm.rulesErr rs != 0) = true := by simpa using hr
      clear hr Hs
      generalize Tm.rulesErr rs = q at *
      go_wp2_with fail
      refine hRe.out.mono ?_
      rintro e u3 ⟨rfl, b3⟩
      have B3 := B2.trans (b3.mono B2.size)
      clear hRe hL2
      go_wp2_with fail
      refine (closeBegun_any u3).mono ?_
      rintro e u4 ⟨rfl, b4⟩
      go_wp2
      go_ret
      exact ⟨rfl, hB0.trans ((B3.trans (b4.mono B3.size)).mono (by omega))⟩
  · have hne : (er != 0) = true := by simpa using he
    clear he hs
    go_wp2_with fail
    refine (closeBegun_any u1).mono ?_
    rintro e u2 ⟨rfl, b2⟩
    go_wp2
    go_ret
    exact ⟨rfl, hB0.trans ((B1.trans (b2.mono B1.size)).mono (by omega))⟩

/-! The row. -/
set_option maxRecDepth 100000 in
theorem lifted (os : Os) (started : os.Started) (H : Type) (enc : TypeId × Value → H) :
    ReturnsInHanded {} Try.checked os 7 .any (Rows.closeSoundSpec.pre6 enc Try.prog Try.f7 Rows.closeSoundRow.domain false) (Rows.closeSoundSpec.post enc Try.prog Try.f7 false true false false) := by
  refine returnsInHanded_of_change (C := Try.checked) own started (by kernel_rfl) Try.func7
    (ChangeSpec.witness6 (enc := enc) (C := Try.checked) false ⟨#[], #[.slice none 0 0, .slice none 0 0, .agg #[.int .i64 0, .int .i64 0, .int .i64 0, .int .i64 0, .int .i64 0, .int .i64 0, .int .i64 0, .int .i64 0, .int .i64 0, .int .i64 0, .int .i64 0, .int .i64 0, .int .i64 0, .int .i64 0, .int .i64 0, .int .i64 0, .int .i64 0, .int .i64 0, .int .i64 0, .int .i64 0, .int .i64 0, .int .i64 0, .int .i64 0, .int .i64 0, .int .i64 0, .int .i64 0]], []⟩ 8 (by kernel_rfl) (by kernel_rfl) (by kernel_rfl) (by kernel_rfl)) ?_
  intro W base args ds gs before hval0 hW hcnd _
  have hval : ∀ (j : Nat) t v, Try.f7.params[j]? = some t → args[j]? = some v → Value.okWide Try.prog W .any base t v := hval0
  have hW' := hW
  obtain ⟨p, q, hA0, hV, rfl, hfz, hnd⟩ := hW
  have hA : DataW.TrodAll enc Try.prog W 0 (fun _ => true) true Try.f7.params.toList args.toList ds p := hA0
  rw [Try.params7] at hA hval
  obtain ⟨v0, vs0, d0, ds0, p0, q0, hargs, rfl, rfl, h0, r0⟩ := trodAll_cons hA
  obtain ⟨v1, vs1, d1, ds1, p1, q1, rfl, rfl, rfl, h1, r1⟩ := trodAll_cons r0
  obtain ⟨v2, vs2, d2, ds2, p2, q2, rfl, rfl, rfl, h2, r2⟩ := trodAll_cons r1
  obtain ⟨rfl, rfl, rfl⟩ := trodAll_nil r2
  obtain rfl : args = #[v0, v1, v2] := by cases args; simp_all
  obtain ⟨rfl, rfl⟩ := trodVars_none hV
  obtain ⟨a0, len0, cap0, rfl⟩ := okWide_slice Try.underlying36 (hval 0 36 v0 rfl rfl)
  have k0 := h0
  have lt0 : ∀ x ∈ p0, x.block < W.heap.size := by obtain ⟨m, hm⟩ := k0; exact DataW.trod_lt m _ _ _ hm
  have w0 : TermIn W a0 len0 cap0 := by
    obtain ⟨fuel, hf⟩ := h0
    rcases open_ints Try.underlying36 Try.underlying3 (by kernel_rfl) hf with ⟨hcs, _⟩ | ⟨x, l, c, zs, hcs, _, hl, hm, hz, _, hcell, hwz⟩
    · simp [Value.cells] at hcs
      obtain ⟨rfl, rfl, rfl⟩ := hcs
      exact ints_of_row (.inl ⟨rfl, rfl, rfl, rfl⟩)
    · simp [Value.cells] at hcs
      obtain ⟨rfl, rfl, rfl⟩ := hcs
      exact ints_of_row (.inr ⟨_, rfl, hl, hm, by simpa using hz, hcell, hwz⟩)
  obtain ⟨a1, len1, cap1, rfl⟩ := okWide_slice Try.underlying30 (hval 1 30 v1 rfl rfl)
  have k1 := h1
  have lt1 : ∀ x ∈ p1, x.block < W.heap.size := by obtain ⟨m, hm⟩ := k1; exact DataW.trod_lt m _ _ _ hm
  have w1 : RulesIn W a1 len1 cap1 := by
    obtain ⟨fuel, hf⟩ := h1
    exact rulesIn_open Try.underlying30 Try.underlying42 (by kernel_rfl) rfl rfl rfl rfl (by simp [Value.cells]) hf
  have k2 := h2
  have lt2 : ∀ x ∈ p2, x.block < W.heap.size := by obtain ⟨m, hm⟩ := k2; exact DataW.trod_lt m _ _ _ hm
  obtain ⟨zs2, w2, e2⟩ : ∃ zs, MoOk zs ∧ v2 = moV zs := by
    obtain ⟨fuel, hf⟩ := h2
    exact model_open (hval 2 29 v2 rfl rfl) rfl hf
  subst e2
  clear hA0 hval0
  refine (walk a0 len0 cap0 a1 len1 cap1 zs2 W w0 w1 w2).mono fun e W' ⟨he, bel⟩ => ?_
  subst he
  exact ⟨_, rfl, _, _, _, [], _, [], hW', trodAll_mk1 (shut_bool Try.underlying4 _), (trodAll_cons_mk (Below.trod laidOut (by kernel_rfl) (of_decide_eq_true (by kernel_rfl)) k0 bel lt0) (trodAll_cons_mk (Below.trod laidOut (by kernel_rfl) (of_decide_eq_true (by kernel_rfl)) k1 bel lt1) (trodAll_cons_mk (Below.trod laidOut (by kernel_rfl) (of_decide_eq_true (by kernel_rfl)) k2 bel lt2) trodAll_mk0))), rfl, bel.frame _, fun h => by cases h⟩

theorem over : Rows.closeSoundRow.holds Try.pinned (OpenSpec.ofChange Rows.closeSoundSpec) :=
  OpenClaim.holds_of_wide 7 Try.f7 rfl rfl rfl rfl rfl rfl rfl ⟨rfl, rfl, rfl, rfl, rfl⟩ rfl rfl rfl rfl rfl (by kernel_rfl) Try.func7 (by kernel_rfl)
    (of_decide_eq_true (by kernel_rfl)) (by unfold Func.isWrapper; first | (rw [if_pos (by decide +kernel)]; kernel_rfl) | (rw [if_neg (by decide +kernel)]; exact ⟨rfl, rfl⟩))
    (fun os started H enc _ => lifted os started H enc)

/-- The statement. -/
theorem proved : Rows.CloseSoundSaid := over
#print axioms proved
end Go.Proofs.Ytgeknojpcjadkaa.closeSound
