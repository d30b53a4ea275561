/-
  Whatever rank, rules, pairs and world CloseKeeps is handed, it answers true and changes nothing that it was handed: all rules and pairs hold in a world ahead of a turn of close.Turn just if all hold there behind it. No condition.
-/
import Derived.Test.YtgeknojpcjadkaaRows
import Derived.WalkKit
import Derived.ProofKit
import Derived.OpenShut
import Derived.ChangeOld
import Derived.Below
import Derived.Deep.Matrix
import Derived.Test.YtgeknojpcjadkaaBck3
import Derived.Test.YtgeknojpcjadkaaBck10
import Derived.Test.YtgeknojpcjadkaaBck31
import Derived.Test.YtgeknojpcjadkaaBck30
namespace Go.Proofs.Ytgeknojpcjadkaa.closeKeeps
open Go.ChangeShapes Go.WideShapes Go.ChangeAt Go.RowKit Go.Deep Go.Shelf Go.Maps
set_option linter.unusedVariables false

theorem own : ownKnob Try.prog.godebug = none := by kernel_rfl
theorem laidOut : laidOutB Try.prog = true := by kernel_rfl

/-! The walk. -/
set_option maxRecDepth 100000 in
set_option maxHeartbeats 8000000 in
theorem walk (a0 : Option Addr) (len0 cap0 : Nat) (a1 : Option Addr) (len1 cap1 : Nat) (a2 : Option Addr) (len2 cap2 : Nat) (zs3 : List Int) (w : World) (w0 : TermIn w a0 len0 cap0) (w1 : RulesIn w a1 len1 cap1) (w2 : RulesIn w a2 len2 cap2) (w3 : MoOk zs3) :
    Calls Try.prog 8 #[.slice a0 len0 cap0, .slice a1 len1 cap1, .slice a2 len2 cap2, moV zs3] w fun e w' => e = .returned (.bool true) ∧ Below w.heap.size w w' := by
  obtain ⟨rk, rfl, hK, hk1, hk2, hk3⟩ := w0
  obtain ⟨rs, rfl, hR0, hr1, hr2⟩ := w1
  obtain ⟨ps, rfl, hI, hi1, hi2⟩ := w2
  have hB0 : Below w.heap.size w (w.alloc (.cells (zs3.map (Value.int .i64)).toArray 29)) := (Below.refl _ w).alloc (Nat.le_refl _) _
  have bM := World.alloc_heap_new w (.cells (zs3.map (Value.int .i64)).toArray 29)
  obtain ⟨W1, hW1⟩ : ∃ W1, w.alloc (.cells (zs3.map (Value.int .i64)).toArray 29) = W1 := ⟨_, rfl⟩
  have hs1 : W1.heap.size = w.heap.size + 1 := by rw [← hW1]; simp
  rw [hW1] at hB0 bM
  have HR := hid (fun W (hW : Below W1.heap.size W1 W) => show RulesAt W.heap.size W a1 rs by have h := hB0.trans (hW.mono hB0.size); exact (hR0.below h).mono h.size)
  have HI := hid (fun W (hW : Below W1.heap.size W1 W) => show RulesAt W.heap.size W a2 ps by have h := hB0.trans (hW.mono hB0.size); exact (hI.below h).mono h.size)
  have HbM := hid (fun W (hW : Below W1.heap.size W1 W) => (hW.block w.heap.size (by omega)).trans bM)
  have hszM := hid (mo_size w3)
  have hu53 := hid Try.underlying29
  have hi53 := hid (show (Try.prog.info? 29).map (·.size) = some (zs3.map (Value.int .i64)).length by rw [List.length_map, w3.len]; kernel_rfl)
  have hT := hid (Turn_any rk rs ps a0 a1 a2 cap0 cap1 cap2 W1 ((hK.below hB0).mono hB0.size) (HR.out W1 (Below.refl _ _)) (HI.out W1 (Below.refl _ _)) hi1 hi2)
  have HW1 := hid hW1
  have Hz := hid w3
  clear hI hK hR0 bM hW1
  unfold moV
  go_enter Try.func8, Try.ntmps8
  go_wp2_with fail
  rw [HW1.out]
  refine hT.out.mono ?_
  rintro e u1 ⟨er, rs', ps', v1, v2, hs, rfl, n1, n2, B1⟩
  obtain ⟨al, cl, rfl, hL, hcl1, hcl2⟩ := n1.at
  obtain ⟨ap, cp, rfl, hP, hcp1, hcp2⟩ := n2.at
  clear hT n1 n2
  by_cases he : er = 0
  · subst he
    have hq0 : Tm.turnErr rk rs ps = 0 := by
      rcases hs with ⟨h, h', _⟩ | ⟨h, _⟩
      · exact absurd h'.symm h
      · exact h
    obtain ⟨k1, k2, k3, k4, k5, k6, k7⟩ := Tm.turnErr_zero hq0
    have hq1 : Tm.eqsErr ps = 0 := by unfold Tm.eqsErr; rw [if_neg (by omega)]; exact k3
    have l40 : (ps.length : Int) ≤ 40 := by omega
    have hE1 := hid (fun W (hW : Below W1.heap.size W1 W) => eqsError_any ps a2 cap2 W (HI.out W hW))
    have hF1 := hid (fun W (hW : Below W1.heap.size W1 W) => rulesError_any rs a1 cap1 W (HR.out W hW))
    rw [hq1] at hE1
    rw [k4] at hF1
    have Hs := hid (Tm.turn_holds (zs := zs3) hs)
    have HPr := hid (Tm.firstP_zero k3)
    have HPr' := hid (Tm.pairs_right k3)
    have HRr := hid (Tm.rules_right k4)
    have Hk4 := hid k4
    clear hs hq0 hq1 k1 k2 k3 k4 k5 k6 k7
    go_wp2_with fail
    refine (hF1.out u1 B1).mono ?_
    rintro e u2 ⟨rfl, b2⟩
    have B2 := B1.trans (b2.mono B1.size)
    have hL2 := (hL.below b2).mono b2.size
    have hP2 := (hP.below b2).mono b2.size
    clear hL hP b2 B1 hF1
    go_wp2_with fail
    refine (hE1.out u2 B2).mono ?_
    rintro e u3 ⟨rfl, b3⟩
    have B3 := B2.trans (b3.mono B2.size)
    have hL3 := (hL2.below b3).mono b3.size
    have hP3 := (hP2.below b3).mono b3.size
    clear hL2 hP2 b3 B2 hE1
    have hF2 := hid (rulesError_any rs' al cl u3 hL3)
    by_cases hr : Tm.rulesErr rs' = 0
    · rw [hr] at hF2
      have Hr := hid hr
      clear hr
      go_wp2_with fail
      refine hF2.out.mono ?_
      rintro e u4 ⟨rfl, b4⟩
      have B4 := B3.trans (b4.mono B3.size)
      have hL4 := (hL3.below b4).mono b4.size
      have hP4 := (hP3.below b4).mono b4.size
      clear hL3 hP3 b4 B3 hF2
      have hE2 := hid (eqsError_any ps' ap cp u4 hP4)
      by_cases hr : Tm.eqsErr ps' = 0
      · have l40' : (ps'.length : Int) ≤ 40 := by
          unfold Tm.eqsErr at hr
          by_cases h : 40 < ps'.length
          · rw [if_pos h] at hr; exact absurd hr (by decide)
          · omega
        rw [hr] at hE2
        clear hr
        go_wp2_with fail
        refine hE2.out.mono ?_
        rintro e u5 ⟨rfl, b5⟩
        have B5 := B4.trans (b5.mono B4.size)
        have HL5 := hid ((hL4.below b5).mono b5.size)
        have HP5 := hid ((hP4.below b5).mono b5.size)
        clear hL4 hP4 b5 B4 hE2
        have hWo := hid (fun W (hW : Below u5.heap.size u5 W) => world_any zs3 Hz.out rs a1 cap1 W Hk4.out (HR.out W (B5.trans (hW.mono B5.size))))
        have hWx := hid (fun W (hW : Below u5.heap.size u5 W) => world_any zs3 Hz.out rs' al cl W Hr.out ((HL5.out.below hW).mono hW.size))
        unfold moV at hWo hWx
        have bM5 := hid (fun W (hW : Below u5.heap.size u5 W) => HbM.out W (B5.trans (hW.mono B5.size)))
        have hfin : Hid ((worldB zs3 rs && worldB zs3 ps) = (worldB zs3 rs' && worldB zs3 ps')) := by
          have h1 := worldB_iff (zs := zs3) HRr.out
          have h2 := worldB_iff (zs := zs3) HPr'.out
          have h3 := worldB_iff (zs := zs3) Hs.out.2.1
          have h4 := worldB_iff (zs := zs3) Hs.out.1
          have h5 := Hs.out.2.2
          rw [← h1, ← h2, ← h3, ← h4] at h5
          refine Bool.eq_iff_iff.2 ?_
          rw [Bool.and_eq_true, Bool.and_eq_true]
          exact h5
        have HPq : Hid (∀ k, k < ps'.length → Tm.err (ps'[k]?.getD ([], [])).1 = 0 ∧ Tm.err (ps'[k]?.getD ([], [])).2 = 0) := fun k hk => by
          rw [List.getElem?_eq_getElem hk]
          exact Hs.out.1 _ (List.getElem_mem hk)
        clear Hs HPr' HRr
        obtain ⟨q1, hq1⟩ : ∃ q, worldB zs3 rs = q := ⟨_, rfl⟩
        obtain ⟨q2, hq2⟩ : ∃ q, worldB zs3 rs' = q := ⟨_, rfl⟩
        rw [hq1] at hWo hfin
        rw [hq2] at hWx hfin
        clear hq1 hq2
        have hS := hid (fun w' (hW : Below u5.heap.size u5 w') => mo_range (zs := zs3) (bM5.out w' hW))
        have hS1 := hS.out _ (below_drewN (Below.refl _ u5) 1)
        go_wp2_with fail
        refine wp_region_held_drew (S := fun w' => w'.rangeAt w.heap.size 0 (zs3.map (Value.int .i64))) (by kernel_rfl) hS1 (fun hHeld => ?_)
        show wpAnyH _ _ _ _ _ 8 (Array.replicate 8 false) _ _
        refine wpAnyH_take (i := 0) (v := .agg (zs3.map (Value.int .i64)).toArray) rfl (by kernel_rfl) (by kernel_rfl) (by kernel_rfl) (fun _ _ _ h => h) (yieldsIf_load_mid (by rfl) 29 _ rfl _ _ rfl (zs3.map (Value.int .i64)) _ (fun w h => h) hu53.out rfl hi53.out) hHeld ?_
        refine wpAnyH_take (i := 1) (v := .slice a1 rs.length cap1) rfl (by kernel_rfl) (by kernel_rfl) (by kernel_rfl) (fun _ _ _ h => h) (Or.inl ⟨by rfl, fun w hSw => by go_simp⟩) hHeld ?_
        refine wpAnyH_take (i := 3) (v := .agg (zs3.map (Value.int .i64)).toArray) rfl (by kernel_rfl) (by kernel_rfl) (by kernel_rfl) (fun _ _ _ h => h) (yieldsIf_load_mid (by rfl) 29 _ rfl _ _ rfl (zs3.map (Value.int .i64)) _ (fun w h => h) hu53.out rfl hi53.out) hHeld ?_
        refine wpAnyH_take (i := 4) (v := .slice al rs'.length cl) rfl (by kernel_rfl) (by kernel_rfl) (by kernel_rfl) (fun _ _ _ h => h) (Or.inl ⟨by rfl, fun w hSw => by go_simp⟩) hHeld ?_
        refine wpAnyH_ready (rs := [2]) (by kernel_rfl) (by simp) (AllReadyH.cons rfl (fun K hK => ?_) AllReadyH.nil)
        go_simp
        refine (hWo.out _ (below_drew1 (Below.refl _ u5))).mono ?_
        clear hWo
        rintro e w6 ⟨rfl, b6'⟩
        have b6 : Below u5.heap.size u5 w6 := ⟨b6'.os, b6'.tape, b6'.output, b6'.size, b6'.block⟩
        refine hK.out _ _ (hS.out w6 b6) (fun hHeld2 => ?_)
        clear hK K
        refine wpAnyH_ready (rs := [5]) (by kernel_rfl) (by simp) (AllReadyH.cons rfl (fun K hK => ?_) AllReadyH.nil)
        go_simp
        refine (hWx.out w6 b6).mono ?_
        clear hWx
        rintro e w7 ⟨rfl, b7'⟩
        have b7 : Below u5.heap.size u5 w7 := b6.trans (b7'.mono b6.size)
        refine hK.out _ _ (hS.out w7 b7) (fun hHeld3 => ?_)
        clear hK K
        refine wpAnyH_ready (rs := [6]) (by kernel_rfl) (by simp) (AllReadyH.cons rfl (fun K hK => ?_) AllReadyH.nil)
        go_simp
        refine hK.out _ _ (hS.out w7 b7) (fun _ => ?_)
        clear hK K
        refine wpAnyH_ready (rs := [7]) (by kernel_rfl) (by simp) (AllReadyH.cons rfl (fun K hK => ?_) AllReadyH.nil)
        go_simp
        refine hK.out _ _ (hS.out w7 b7) (fun _ => ?_)
        clear hK K
        refine wpAnyH_done (by kernel_rfl) ?_ _
        have B7 := B5.trans (b7.mono B5.size)
        have HP7 := hid ((HP5.out.below b7).mono b7.size)
        clear b6 b7 b6' b7' hS hS1 hHeld hHeld2 hHeld3 HP5 HL5 bM5
        go_wp2
        go_loopw [12, 14] (fun wv kv wr => ∃ (k : Nat) (fl : Bool), k ≤ ps.length ∧ kv = .int .i64 (k : Int) ∧ wv = .bool fl ∧ Hid (fl = (q1 && worldB zs3 (ps.take k))) ∧ Below w7.heap.size w7 wr) (fun _ kv _ => ps.length - (intOf kv).toNat)
        case atStart => exact ⟨0, q1, Nat.zero_le _, rfl, rfl, hid (by simp [worldB]), Below.refl _ _⟩
        case round =>
          obtain ⟨k, fl, hk, rfl, rfl, hst, hB⟩ := hrel
          have BW := B7.trans (hB.mono B7.size)
          have hx : Hid (¬ (k < ps.length ∧ fl = true) → fl = (q2 && worldB zs3 ps')) := fun hn => by
            refine Eq.trans ?_ hfin.out
            rw [hst.out]
            by_cases h : k < ps.length
            · cases hf : (q1 && worldB zs3 (ps.take k)) with
              | true => exact absurd ⟨h, hst.out.trans hf⟩ hn
              | false =>
                cases q1 with
                | false => rfl
                | true =>
                  rw [Bool.true_and] at hf ⊢
                  cases hg : worldB zs3 ps with
                  | false => rfl
                  | true =>
                    unfold worldB at hf hg
                    rw [List.all_eq_true] at hg
                    rw [List.all_eq_false] at hf
                    obtain ⟨x, hx, hx'⟩ := hf
                    exact absurd (hg x (List.mem_of_mem_take hx)) hx'
            · rw [show k = ps.length from by omega, List.take_length]
          have hcase : (k < ps.length ∧ fl = true) ∨ (k < ps.length ∧ fl = false) ∨ k = ps.length := by
            cases fl
            · by_cases h : k < ps.length
              · exact .inr (.inl ⟨h, rfl⟩)
              · exact .inr (.inr (by omega))
            · by_cases h : k < ps.length
              · exact .inl ⟨h, rfl⟩
              · exact .inr (.inr (by omega))
          by_cases hgo : k < ps.length ∧ fl = true
          · obtain ⟨hlt, rfl⟩ := hgo
            have hlt' : (k : Int) < (ps.length : Int) := by omega
            obtain ⟨b, off, rfl, hb, aL, cL, aR, cR, g1, g2, g3, g4, g5, g6, g7, g8⟩ := (HI.out wr BW) k hlt
            obtain ⟨eL, eR⟩ := HPr.out k hlt
            have hq : Hid (q1 = true ∧ worldB zs3 (ps.take k) = true) := by have h := hst.out.symm; rw [Bool.and_eq_true] at h; exact h
            have hsn := hid (worldB_snoc hlt hq.out.2)
            have hC := hid (fun W (hW : Below wr.heap.size wr W) => holds_any zs3 Hz.out (ps[k]?.getD ([], [])).1 (ps[k]?.getD ([], [])).2 aL aR cL cR W eL eR ((g3.below hW).mono hW.size) ((g4.below hW).mono hW.size))
            unfold moV at hC
            generalize (ps[k]?.getD ([], [])).1 = L at *
            generalize (ps[k]?.getD ([], [])).2 = R at *
            have hS := hid (fun w' (hW : Below wr.heap.size wr w') => (show w'.rangeAt w.heap.size 0 (zs3.map (Value.int .i64)) ∧ w'.cell? ⟨b, off + k * 2, none⟩ = some (.slice aL L.length cL) ∧ w'.cell? ⟨b, off + k * 2 + 1, none⟩ = some (.slice aR R.length cR) from
              ⟨mo_range (zs := zs3) (HbM.out w' (BW.trans (hW.mono BW.size))), (hW.cell (p := ⟨b, off + k * 2, none⟩) hb).trans g1, (hW.cell (p := ⟨b, off + k * 2 + 1, none⟩) hb).trans g2⟩))
            have hS0 := hS.out wr (Below.refl _ wr)
            have hS1 := hS.out _ (below_drewN (Below.refl _ wr) 1)
            generalize Tm.holdsB (mo zs3) L R (max (dpN L) (dpN R)) = hb' at *
            clear g3 g4 g5 g6 g7 g8 eL eR hx hcase hst
            go_wp2_with fail
            refine wp_region_held_drew (S := fun w' => w'.rangeAt w.heap.size 0 (zs3.map (Value.int .i64)) ∧ w'.cell? ⟨b, off + k * 2, none⟩ = some (.slice aL L.length cL) ∧ w'.cell? ⟨b, off + k * 2 + 1, none⟩ = some (.slice aR R.length cR)) (by kernel_rfl) hS1 (fun hHeld => ?_)
            show wpAnyH _ _ _ _ _ 13 (Array.replicate 13 false) _ _
            refine wpAnyH_take (i := 0) (v := .agg (zs3.map (Value.int .i64)).toArray) rfl (by kernel_rfl) (by kernel_rfl) (by kernel_rfl) (fun _ _ _ h => h) (yieldsIf_load_mid (by rfl) 29 _ rfl _ _ rfl (zs3.map (Value.int .i64)) _ (fun w h => h.1) hu53.out rfl hi53.out) hHeld ?_
            refine wpAnyH_take (i := 1) (v := .slice (some ⟨b, off, none⟩) ps.length cap2) rfl (by kernel_rfl) (by kernel_rfl) (by kernel_rfl) (fun _ _ _ h => h) (Or.inl ⟨by rfl, fun w hSw => by obtain ⟨_, hSa, hSb⟩ := hSw; go_simp⟩) hHeld ?_
            refine wpAnyH_take (i := 2) (v := .int .i64 (k : Int)) rfl (by kernel_rfl) (by kernel_rfl) (by kernel_rfl) (fun _ _ _ h => h) (Or.inl ⟨by rfl, fun w hSw => by obtain ⟨_, hSa, hSb⟩ := hSw; go_simp⟩) hHeld ?_
            refine wpAnyH_take (i := 3) (v := .pointer (some ⟨b, off + k * 2, none⟩)) rfl (by kernel_rfl) (by kernel_rfl) (by kernel_rfl) (fun _ _ _ h => h) (Or.inl ⟨by rfl, fun w hSw => by obtain ⟨_, hSa, hSb⟩ := hSw; go_simp⟩) hHeld ?_
            refine wpAnyH_take (i := 4) (v := .pointer (some ⟨b, off + k * 2, none⟩)) rfl (by kernel_rfl) (by kernel_rfl) (by kernel_rfl) (fun _ _ _ h => h) (Or.inl ⟨by rfl, fun w hSw => by obtain ⟨_, hSa, hSb⟩ := hSw; go_simp⟩) hHeld ?_
            refine wpAnyH_take (i := 5) (v := .slice aL L.length cL) rfl (by kernel_rfl) (by kernel_rfl) (by kernel_rfl) (fun _ _ _ h => h) (Or.inl ⟨by rfl, fun w hSw => by obtain ⟨_, hSa, hSb⟩ := hSw; go_simp⟩) hHeld ?_
            refine wpAnyH_take (i := 6) (v := .slice (some ⟨b, off, none⟩) ps.length cap2) rfl (by kernel_rfl) (by kernel_rfl) (by kernel_rfl) (fun _ _ _ h => h) (Or.inl ⟨by rfl, fun w hSw => by obtain ⟨_, hSa, hSb⟩ := hSw; go_simp⟩) hHeld ?_
            refine wpAnyH_take (i := 7) (v := .int .i64 (k : Int)) rfl (by kernel_rfl) (by kernel_rfl) (by kernel_rfl) (fun _ _ _ h => h) (Or.inl ⟨by rfl, fun w hSw => by obtain ⟨_, hSa, hSb⟩ := hSw; go_simp⟩) hHeld ?_
            refine wpAnyH_take (i := 8) (v := .pointer (some ⟨b, off + k * 2, none⟩)) rfl (by kernel_rfl) (by kernel_rfl) (by kernel_rfl) (fun _ _ _ h => h) (Or.inl ⟨by rfl, fun w hSw => by obtain ⟨_, hSa, hSb⟩ := hSw; go_simp⟩) hHeld ?_
            refine wpAnyH_take (i := 9) (v := .pointer (some ⟨b, off + k * 2 + 1, none⟩)) rfl (by kernel_rfl) (by kernel_rfl) (by kernel_rfl) (fun _ _ _ h => h) (Or.inl ⟨by rfl, fun w hSw => by obtain ⟨_, hSa, hSb⟩ := hSw; go_simp⟩) hHeld ?_
            refine wpAnyH_take (i := 10) (v := .slice aR R.length cR) rfl (by kernel_rfl) (by kernel_rfl) (by kernel_rfl) (fun _ _ _ h => h) (Or.inl ⟨by rfl, fun w hSw => by obtain ⟨_, hSa, hSb⟩ := hSw; go_simp⟩) hHeld ?_
            refine wpAnyH_ready (rs := [11]) (by kernel_rfl) (by simp) (AllReadyH.cons rfl (fun K hK => ?_) AllReadyH.nil)
            go_simp
            refine (hC.out _ (below_drew1 (Below.refl _ wr))).mono ?_
            clear hC
            rintro e w2 ⟨rfl, b2⟩
            have b3 : Below wr.heap.size wr w2 := ⟨b2.os, b2.tape, b2.output, b2.size, b2.block⟩
            refine hK.out _ _ (hS.out w2 b3) (fun hHeld2 => ?_)
            clear hK K
            refine wpAnyH_ready (rs := [12]) (by kernel_rfl) (by simp) (AllReadyH.cons rfl (fun K hK => ?_) AllReadyH.nil)
            go_simp
            refine hK.out _ _ (hS.out w2 b3) (fun _ => ?_)
            clear hK K
            refine wpAnyH_done (by kernel_rfl) ?_ _
            go_wp2
            go_roundw
            case rel => exact ⟨k + 1, hb', by omega, by go_num, rfl, hid (by rw [hq.out.1, Bool.true_and]; exact hsn.out.symm), hB.trans (b3.mono hB.size)⟩
            case measure => simp [intOf]; omega
          · have hfx := hid (hx.out hgo)
            have HPw := hid ((HP7.out.below hB).mono hB.size)
            clear hx hst hfin
            have hcase' : (k < ps.length ∧ fl = false) ∨ (k = ps.length ∧ fl = false) ∨ (k = ps.length ∧ fl = true) := by
              cases fl
              · by_cases h : k < ps.length
                · exact .inl ⟨h, rfl⟩
                · exact .inr (.inl ⟨by omega, rfl⟩)
              · by_cases h : k < ps.length
                · exact absurd ⟨h, rfl⟩ hgo
                · exact .inr (.inr ⟨by omega, rfl⟩)
            clear hcase hgo hk
            have hdone : ∃ d : Bool, decide ((k : Int) < (ps.length : Int)) = d := ⟨_, rfl⟩
            obtain ⟨V, rfl⟩ : ∃ V, V = wr := ⟨wr, rfl⟩
            rcases hcase' with ⟨hlt, rfl⟩ | ⟨rfl, rfl⟩ | ⟨rfl, rfl⟩
            · have hlt' : (k : Int) < (ps.length : Int) := by omega
              clear hdone
              go_wp2
              go_loopw [13, 15] (fun wv kv wr => ∃ (k : Nat) (gl : Bool), k ≤ ps'.length ∧ kv = .int .i64 (k : Int) ∧ wv = .bool gl ∧ Hid (gl = (q2 && worldB zs3 (ps'.take k))) ∧ Below V.heap.size V wr) (fun _ kv _ => ps'.length - (intOf kv).toNat)
              case atStart => exact ⟨0, q2, Nat.zero_le _, rfl, rfl, hid (by simp [worldB]), Below.refl _ _⟩
              case round =>
                obtain ⟨k, gl, hk, rfl, rfl, hst, hBv⟩ := hrel
                have BX := BW.trans (hBv.mono BW.size)
                have hx : Hid (¬ (k < ps'.length ∧ gl = true) → gl = (q2 && worldB zs3 ps')) := fun hn => by
                  rw [hst.out]
                  by_cases h : k < ps'.length
                  · cases hf : (q2 && worldB zs3 (ps'.take k)) with
                    | true => exact absurd ⟨h, hst.out.trans hf⟩ hn
                    | false =>
                      cases q2 with
                      | false => rfl
                      | true =>
                        rw [Bool.true_and] at hf ⊢
                        cases hg : worldB zs3 ps' with
                        | false => rfl
                        | true =>
                          unfold worldB at hf hg
                          rw [List.all_eq_true] at hg
                          rw [List.all_eq_false] at hf
                          obtain ⟨x, hx, hx'⟩ := hf
                          exact absurd (hg x (List.mem_of_mem_take hx)) hx'
                  · rw [show k = ps'.length from by omega, List.take_length]
                by_cases hgo : k < ps'.length ∧ gl = true
                · obtain ⟨hlt2, rfl⟩ := hgo
                  have hlt2' : (k : Int) < (ps'.length : Int) := by omega
                  obtain ⟨b, off, rfl, hb, aL, cL, aR, cR, g1, g2, g3, g4, g5, g6, g7, g8⟩ := ((HPw.out.below hBv).mono hBv.size) k hlt2
                  obtain ⟨eL, eR⟩ := HPq.out k hlt2
                  have hq : Hid (q2 = true ∧ worldB zs3 (ps'.take k) = true) := by have h := hst.out.symm; rw [Bool.and_eq_true] at h; exact h
                  have hsn := hid (worldB_snoc hlt2 hq.out.2)
                  have hC := hid (fun W (hW : Below wr.heap.size wr W) => holds_any zs3 Hz.out (ps'[k]?.getD ([], [])).1 (ps'[k]?.getD ([], [])).2 aL aR cL cR W eL eR ((g3.below hW).mono hW.size) ((g4.below hW).mono hW.size))
                  unfold moV at hC
                  generalize (ps'[k]?.getD ([], [])).1 = L at *
                  generalize (ps'[k]?.getD ([], [])).2 = R at *
                  have hS := hid (fun w' (hW : Below wr.heap.size wr w') => (show w'.rangeAt w.heap.size 0 (zs3.map (Value.int .i64)) ∧ w'.cell? ⟨b, off + k * 2, none⟩ = some (.slice aL L.length cL) ∧ w'.cell? ⟨b, off + k * 2 + 1, none⟩ = some (.slice aR R.length cR) from
                    ⟨mo_range (zs := zs3) (HbM.out w' (BX.trans (hW.mono BX.size))), (hW.cell (p := ⟨b, off + k * 2, none⟩) hb).trans g1, (hW.cell (p := ⟨b, off + k * 2 + 1, none⟩) hb).trans g2⟩))
                  have hS0 := hS.out wr (Below.refl _ wr)
                  have hS1 := hS.out _ (below_drewN (Below.refl _ wr) 1)
                  generalize Tm.holdsB (mo zs3) L R (max (dpN L) (dpN R)) = hb' at *
                  clear g3 g4 g5 g6 g7 g8 eL eR hx hst
                  go_wp2_with fail
                  refine wp_region_held_drew (S := fun w' => w'.rangeAt w.heap.size 0 (zs3.map (Value.int .i64)) ∧ w'.cell? ⟨b, off + k * 2, none⟩ = some (.slice aL L.length cL) ∧ w'.cell? ⟨b, off + k * 2 + 1, none⟩ = some (.slice aR R.length cR)) (by kernel_rfl) hS1 (fun hHeld => ?_)
                  show wpAnyH _ _ _ _ _ 13 (Array.replicate 13 false) _ _
                  refine wpAnyH_take (i := 0) (v := .agg (zs3.map (Value.int .i64)).toArray) rfl (by kernel_rfl) (by kernel_rfl) (by kernel_rfl) (fun _ _ _ h => h) (yieldsIf_load_mid (by rfl) 29 _ rfl _ _ rfl (zs3.map (Value.int .i64)) _ (fun w h => h.1) hu53.out rfl hi53.out) hHeld ?_
                  refine wpAnyH_take (i := 1) (v := .slice (some ⟨b, off, none⟩) ps'.length cp) rfl (by kernel_rfl) (by kernel_rfl) (by kernel_rfl) (fun _ _ _ h => h) (Or.inl ⟨by rfl, fun w hSw => by obtain ⟨_, hSa, hSb⟩ := hSw; go_simp⟩) hHeld ?_
                  refine wpAnyH_take (i := 2) (v := .int .i64 (k : Int)) rfl (by kernel_rfl) (by kernel_rfl) (by kernel_rfl) (fun _ _ _ h => h) (Or.inl ⟨by rfl, fun w hSw => by obtain ⟨_, hSa, hSb⟩ := hSw; go_simp⟩) hHeld ?_
                  refine wpAnyH_take (i := 3) (v := .pointer (some ⟨b, off + k * 2, none⟩)) rfl (by kernel_rfl) (by kernel_rfl) (by kernel_rfl) (fun _ _ _ h => h) (Or.inl ⟨by rfl, fun w hSw => by obtain ⟨_, hSa, hSb⟩ := hSw; go_simp⟩) hHeld ?_
                  refine wpAnyH_take (i := 4) (v := .pointer (some ⟨b, off + k * 2, none⟩)) rfl (by kernel_rfl) (by kernel_rfl) (by kernel_rfl) (fun _ _ _ h => h) (Or.inl ⟨by rfl, fun w hSw => by obtain ⟨_, hSa, hSb⟩ := hSw; go_simp⟩) hHeld ?_
                  refine wpAnyH_take (i := 5) (v := .slice aL L.length cL) rfl (by kernel_rfl) (by kernel_rfl) (by kernel_rfl) (fun _ _ _ h => h) (Or.inl ⟨by rfl, fun w hSw => by obtain ⟨_, hSa, hSb⟩ := hSw; go_simp⟩) hHeld ?_
                  refine wpAnyH_take (i := 6) (v := .slice (some ⟨b, off, none⟩) ps'.length cp) rfl (by kernel_rfl) (by kernel_rfl) (by kernel_rfl) (fun _ _ _ h => h) (Or.inl ⟨by rfl, fun w hSw => by obtain ⟨_, hSa, hSb⟩ := hSw; go_simp⟩) hHeld ?_
                  refine wpAnyH_take (i := 7) (v := .int .i64 (k : Int)) rfl (by kernel_rfl) (by kernel_rfl) (by kernel_rfl) (fun _ _ _ h => h) (Or.inl ⟨by rfl, fun w hSw => by obtain ⟨_, hSa, hSb⟩ := hSw; go_simp⟩) hHeld ?_
                  refine wpAnyH_take (i := 8) (v := .pointer (some ⟨b, off + k * 2, none⟩)) rfl (by kernel_rfl) (by kernel_rfl) (by kernel_rfl) (fun _ _ _ h => h) (Or.inl ⟨by rfl, fun w hSw => by obtain ⟨_, hSa, hSb⟩ := hSw; go_simp⟩) hHeld ?_
                  refine wpAnyH_take (i := 9) (v := .pointer (some ⟨b, off + k * 2 + 1, none⟩)) rfl (by kernel_rfl) (by kernel_rfl) (by kernel_rfl) (fun _ _ _ h => h) (Or.inl ⟨by rfl, fun w hSw => by obtain ⟨_, hSa, hSb⟩ := hSw; go_simp⟩) hHeld ?_
                  refine wpAnyH_take (i := 10) (v := .slice aR R.length cR) rfl (by kernel_rfl) (by kernel_rfl) (by kernel_rfl) (fun _ _ _ h => h) (Or.inl ⟨by rfl, fun w hSw => by obtain ⟨_, hSa, hSb⟩ := hSw; go_simp⟩) hHeld ?_
                  refine wpAnyH_ready (rs := [11]) (by kernel_rfl) (by simp) (AllReadyH.cons rfl (fun K hK => ?_) AllReadyH.nil)
                  go_simp
                  refine (hC.out _ (below_drew1 (Below.refl _ wr))).mono ?_
                  clear hC
                  rintro e w2 ⟨rfl, b2⟩
                  have b3 : Below wr.heap.size wr w2 := ⟨b2.os, b2.tape, b2.output, b2.size, b2.block⟩
                  refine hK.out _ _ (hS.out w2 b3) (fun hHeld2 => ?_)
                  clear hK K
                  refine wpAnyH_ready (rs := [12]) (by kernel_rfl) (by simp) (AllReadyH.cons rfl (fun K hK => ?_) AllReadyH.nil)
                  go_simp
                  refine hK.out _ _ (hS.out w2 b3) (fun _ => ?_)
                  clear hK K
                  refine wpAnyH_done (by kernel_rfl) ?_ _
                  go_wp2
                  go_roundw
                  case rel => exact ⟨k + 1, hb', by omega, by go_num, rfl, hid (by rw [hq.out.1, Bool.true_and]; exact hsn.out.symm), hBv.trans (b3.mono hBv.size)⟩
                  case measure => simp [intOf]; omega
                · have hgf := (hx.out hgo).trans hfx.out.symm
                  clear hx hst hfx
                  by_cases hlt2 : k < ps'.length
                  · have hlt2' : (k : Int) < (ps'.length : Int) := by omega
                    subst hgf
                    go_wp2_with fail
                    refine (closeBegun_any wr).mono ?_
                    rintro e w9 ⟨rfl, b9⟩
                    go_wp2
                    go_ret
                    exact ⟨by simp, hB0.trans ((BX.trans (b9.mono BX.size)).mono (by omega))⟩
                  · obtain rfl : k = ps'.length := by omega
                    subst hgf
                    go_wp2_with fail
                    refine (closeBegun_any wr).mono ?_
                    rintro e w9 ⟨rfl, b9⟩
                    go_wp2
                    go_ret
                    exact ⟨by simp, hB0.trans ((BX.trans (b9.mono BX.size)).mono (by omega))⟩
            · clear hdone
              go_wp2
              go_loopw [13, 15] (fun wv kv wr => ∃ (k : Nat) (gl : Bool), k ≤ ps'.length ∧ kv = .int .i64 (k : Int) ∧ wv = .bool gl ∧ Hid (gl = (q2 && worldB zs3 (ps'.take k))) ∧ Below V.heap.size V wr) (fun _ kv _ => ps'.length - (intOf kv).toNat)
              case atStart => exact ⟨0, q2, Nat.zero_le _, rfl, rfl, hid (by simp [worldB]), Below.refl _ _⟩
              case round =>
                obtain ⟨k, gl, hk, rfl, rfl, hst, hBv⟩ := hrel
                have BX := BW.trans (hBv.mono BW.size)
                have hx : Hid (¬ (k < ps'.length ∧ gl = true) → gl = (q2 && worldB zs3 ps')) := fun hn => by
                  rw [hst.out]
                  by_cases h : k < ps'.length
                  · cases hf : (q2 && worldB zs3 (ps'.take k)) with
                    | true => exact absurd ⟨h, hst.out.trans hf⟩ hn
                    | false =>
                      cases q2 with
                      | false => rfl
                      | true =>
                        rw [Bool.true_and] at hf ⊢
                        cases hg : worldB zs3 ps' with
                        | false => rfl
                        | true =>
                          unfold worldB at hf hg
                          rw [List.all_eq_true] at hg
                          rw [List.all_eq_false] at hf
                          obtain ⟨x, hx, hx'⟩ := hf
                          exact absurd (hg x (List.mem_of_mem_take hx)) hx'
                  · rw [show k = ps'.length from by omega, List.take_length]
                by_cases hgo : k < ps'.length ∧ gl = true
                · obtain ⟨hlt2, rfl⟩ := hgo
                  have hlt2' : (k : Int) < (ps'.length : Int) := by omega
                  obtain ⟨b, off, rfl, hb, aL, cL, aR, cR, g1, g2, g3, g4, g5, g6, g7, g8⟩ := ((HPw.out.below hBv).mono hBv.size) k hlt2
                  obtain ⟨eL, eR⟩ := HPq.out k hlt2
                  have hq : Hid (q2 = true ∧ worldB zs3 (ps'.take k) = true) := by have h := hst.out.symm; rw [Bool.and_eq_true] at h; exact h
                  have hsn := hid (worldB_snoc hlt2 hq.out.2)
                  have hC := hid (fun W (hW : Below wr.heap.size wr W) => holds_any zs3 Hz.out (ps'[k]?.getD ([], [])).1 (ps'[k]?.getD ([], [])).2 aL aR cL cR W eL eR ((g3.below hW).mono hW.size) ((g4.below hW).mono hW.size))
                  unfold moV at hC
                  generalize (ps'[k]?.getD ([], [])).1 = L at *
                  generalize (ps'[k]?.getD ([], [])).2 = R at *
                  have hS := hid (fun w' (hW : Below wr.heap.size wr w') => (show w'.rangeAt w.heap.size 0 (zs3.map (Value.int .i64)) ∧ w'.cell? ⟨b, off + k * 2, none⟩ = some (.slice aL L.length cL) ∧ w'.cell? ⟨b, off + k * 2 + 1, none⟩ = some (.slice aR R.length cR) from
                    ⟨mo_range (zs := zs3) (HbM.out w' (BX.trans (hW.mono BX.size))), (hW.cell (p := ⟨b, off + k * 2, none⟩) hb).trans g1, (hW.cell (p := ⟨b, off + k * 2 + 1, none⟩) hb).trans g2⟩))
                  have hS0 := hS.out wr (Below.refl _ wr)
                  have hS1 := hS.out _ (below_drewN (Below.refl _ wr) 1)
                  generalize Tm.holdsB (mo zs3) L R (max (dpN L) (dpN R)) = hb' at *
                  clear g3 g4 g5 g6 g7 g8 eL eR hx hst
                  go_wp2_with fail
                  refine wp_region_held_drew (S := fun w' => w'.rangeAt w.heap.size 0 (zs3.map (Value.int .i64)) ∧ w'.cell? ⟨b, off + k * 2, none⟩ = some (.slice aL L.length cL) ∧ w'.cell? ⟨b, off + k * 2 + 1, none⟩ = some (.slice aR R.length cR)) (by kernel_rfl) hS1 (fun hHeld => ?_)
                  show wpAnyH _ _ _ _ _ 13 (Array.replicate 13 false) _ _
                  refine wpAnyH_take (i := 0) (v := .agg (zs3.map (Value.int .i64)).toArray) rfl (by kernel_rfl) (by kernel_rfl) (by kernel_rfl) (fun _ _ _ h => h) (yieldsIf_load_mid (by rfl) 29 _ rfl _ _ rfl (zs3.map (Value.int .i64)) _ (fun w h => h.1) hu53.out rfl hi53.out) hHeld ?_
                  refine wpAnyH_take (i := 1) (v := .slice (some ⟨b, off, none⟩) ps'.length cp) rfl (by kernel_rfl) (by kernel_rfl) (by kernel_rfl) (fun _ _ _ h => h) (Or.inl ⟨by rfl, fun w hSw => by obtain ⟨_, hSa, hSb⟩ := hSw; go_simp⟩) hHeld ?_
                  refine wpAnyH_take (i := 2) (v := .int .i64 (k : Int)) rfl (by kernel_rfl) (by kernel_rfl) (by kernel_rfl) (fun _ _ _ h => h) (Or.inl ⟨by rfl, fun w hSw => by obtain ⟨_, hSa, hSb⟩ := hSw; go_simp⟩) hHeld ?_
                  refine wpAnyH_take (i := 3) (v := .pointer (some ⟨b, off + k * 2, none⟩)) rfl (by kernel_rfl) (by kernel_rfl) (by kernel_rfl) (fun _ _ _ h => h) (Or.inl ⟨by rfl, fun w hSw => by obtain ⟨_, hSa, hSb⟩ := hSw; go_simp⟩) hHeld ?_
                  refine wpAnyH_take (i := 4) (v := .pointer (some ⟨b, off + k * 2, none⟩)) rfl (by kernel_rfl) (by kernel_rfl) (by kernel_rfl) (fun _ _ _ h => h) (Or.inl ⟨by rfl, fun w hSw => by obtain ⟨_, hSa, hSb⟩ := hSw; go_simp⟩) hHeld ?_
                  refine wpAnyH_take (i := 5) (v := .slice aL L.length cL) rfl (by kernel_rfl) (by kernel_rfl) (by kernel_rfl) (fun _ _ _ h => h) (Or.inl ⟨by rfl, fun w hSw => by obtain ⟨_, hSa, hSb⟩ := hSw; go_simp⟩) hHeld ?_
                  refine wpAnyH_take (i := 6) (v := .slice (some ⟨b, off, none⟩) ps'.length cp) rfl (by kernel_rfl) (by kernel_rfl) (by kernel_rfl) (fun _ _ _ h => h) (Or.inl ⟨by rfl, fun w hSw => by obtain ⟨_, hSa, hSb⟩ := hSw; go_simp⟩) hHeld ?_
                  refine wpAnyH_take (i := 7) (v := .int .i64 (k : Int)) rfl (by kernel_rfl) (by kernel_rfl) (by kernel_rfl) (fun _ _ _ h => h) (Or.inl ⟨by rfl, fun w hSw => by obtain ⟨_, hSa, hSb⟩ := hSw; go_simp⟩) hHeld ?_
                  refine wpAnyH_take (i := 8) (v := .pointer (some ⟨b, off + k * 2, none⟩)) rfl (by kernel_rfl) (by kernel_rfl) (by kernel_rfl) (fun _ _ _ h => h) (Or.inl ⟨by rfl, fun w hSw => by obtain ⟨_, hSa, hSb⟩ := hSw; go_simp⟩) hHeld ?_
                  refine wpAnyH_take (i := 9) (v := .pointer (some ⟨b, off + k * 2 + 1, none⟩)) rfl (by kernel_rfl) (by kernel_rfl) (by kernel_rfl) (fun _ _ _ h => h) (Or.inl ⟨by rfl, fun w hSw => by obtain ⟨_, hSa, hSb⟩ := hSw; go_simp⟩) hHeld ?_
                  refine wpAnyH_take (i := 10) (v := .slice aR R.length cR) rfl (by kernel_rfl) (by kernel_rfl) (by kernel_rfl) (fun _ _ _ h => h) (Or.inl ⟨by rfl, fun w hSw => by obtain ⟨_, hSa, hSb⟩ := hSw; go_simp⟩) hHeld ?_
                  refine wpAnyH_ready (rs := [11]) (by kernel_rfl) (by simp) (AllReadyH.cons rfl (fun K hK => ?_) AllReadyH.nil)
                  go_simp
                  refine (hC.out _ (below_drew1 (Below.refl _ wr))).mono ?_
                  clear hC
                  rintro e w2 ⟨rfl, b2⟩
                  have b3 : Below wr.heap.size wr w2 := ⟨b2.os, b2.tape, b2.output, b2.size, b2.block⟩
                  refine hK.out _ _ (hS.out w2 b3) (fun hHeld2 => ?_)
                  clear hK K
                  refine wpAnyH_ready (rs := [12]) (by kernel_rfl) (by simp) (AllReadyH.cons rfl (fun K hK => ?_) AllReadyH.nil)
                  go_simp
                  refine hK.out _ _ (hS.out w2 b3) (fun _ => ?_)
                  clear hK K
                  refine wpAnyH_done (by kernel_rfl) ?_ _
                  go_wp2
                  go_roundw
                  case rel => exact ⟨k + 1, hb', by omega, by go_num, rfl, hid (by rw [hq.out.1, Bool.true_and]; exact hsn.out.symm), hBv.trans (b3.mono hBv.size)⟩
                  case measure => simp [intOf]; omega
                · have hgf := (hx.out hgo).trans hfx.out.symm
                  clear hx hst hfx
                  by_cases hlt2 : k < ps'.length
                  · have hlt2' : (k : Int) < (ps'.length : Int) := by omega
                    subst hgf
                    go_wp2_with fail
                    refine (closeBegun_any wr).mono ?_
                    rintro e w9 ⟨rfl, b9⟩
                    go_wp2
                    go_ret
                    exact ⟨by simp, hB0.trans ((BX.trans (b9.mono BX.size)).mono (by omega))⟩
                  · obtain rfl : k = ps'.length := by omega
                    subst hgf
                    go_wp2_with fail
                    refine (closeBegun_any wr).mono ?_
                    rintro e w9 ⟨rfl, b9⟩
                    go_wp2
                    go_ret
                    exact ⟨by simp, hB0.trans ((BX.trans (b9.mono BX.size)).mono (by omega))⟩
            · clear hdone
              go_wp2
              go_loopw [13, 15] (fun wv kv wr => ∃ (k : Nat) (gl : Bool), k ≤ ps'.length ∧ kv = .int .i64 (k : Int) ∧ wv = .bool gl ∧ Hid (gl = (q2 && worldB zs3 (ps'.take k))) ∧ Below V.heap.size V wr) (fun _ kv _ => ps'.length - (intOf kv).toNat)
              case atStart => exact ⟨0, q2, Nat.zero_le _, rfl, rfl, hid (by simp [worldB]), Below.refl _ _⟩
              case round =>
                obtain ⟨k, gl, hk, rfl, rfl, hst, hBv⟩ := hrel
                have BX := BW.trans (hBv.mono BW.size)
                have hx : Hid (¬ (k < ps'.length ∧ gl = true) → gl = (q2 && worldB zs3 ps')) := fun hn => by
                  rw [hst.out]
                  by_cases h : k < ps'.length
                  · cases hf : (q2 && worldB zs3 (ps'.take k)) with
                    | true => exact absurd ⟨h, hst.out.trans hf⟩ hn
                    | false =>
                      cases q2 with
                      | false => rfl
                      | true =>
                        rw [Bool.true_and] at hf ⊢
                        cases hg : worldB zs3 ps' with
                        | false => rfl
                        | true =>
                          unfold worldB at hf hg
                          rw [List.all_eq_true] at hg
                          rw [List.all_eq_false] at hf
                          obtain ⟨x, hx, hx'⟩ := hf
                          exact absurd (hg x (List.mem_of_mem_take hx)) hx'
                  · rw [show k = ps'.length from by omega, List.take_length]
                by_cases hgo : k < ps'.length ∧ gl = true
                · obtain ⟨hlt2, rfl⟩ := hgo
                  have hlt2' : (k : Int) < (ps'.length : Int) := by omega
                  obtain ⟨b, off, rfl, hb, aL, cL, aR, cR, g1, g2, g3, g4, g5, g6, g7, g8⟩ := ((HPw.out.below hBv).mono hBv.size) k hlt2
                  obtain ⟨eL, eR⟩ := HPq.out k hlt2
                  have hq : Hid (q2 = true ∧ worldB zs3 (ps'.take k) = true) := by have h := hst.out.symm; rw [Bool.and_eq_true] at h; exact h
                  have hsn := hid (worldB_snoc hlt2 hq.out.2)
                  have hC := hid (fun W (hW : Below wr.heap.size wr W) => holds_any zs3 Hz.out (ps'[k]?.getD ([], [])).1 (ps'[k]?.getD ([], [])).2 aL aR cL cR W eL eR ((g3.below hW).mono hW.size) ((g4.below hW).mono hW.size))
                  unfold moV at hC
                  generalize (ps'[k]?.getD ([], [])).1 = L at *
                  generalize (ps'[k]?.getD ([], [])).2 = R at *
                  have hS := hid (fun w' (hW : Below wr.heap.size wr w') => (show w'.rangeAt w.heap.size 0 (zs3.map (Value.int .i64)) ∧ w'.cell? ⟨b, off + k * 2, none⟩ = some (.slice aL L.length cL) ∧ w'.cell? ⟨b, off + k * 2 + 1, none⟩ = some (.slice aR R.length cR) from
                    ⟨mo_range (zs := zs3) (HbM.out w' (BX.trans (hW.mono BX.size))), (hW.cell (p := ⟨b, off + k * 2, none⟩) hb).trans g1, (hW.cell (p := ⟨b, off + k * 2 + 1, none⟩) hb).trans g2⟩))
                  have hS0 := hS.out wr (Below.refl _ wr)
                  have hS1 := hS.out _ (below_drewN (Below.refl _ wr) 1)
                  generalize Tm.holdsB (mo zs3) L R (max (dpN L) (dpN R)) = hb' at *
                  clear g3 g4 g5 g6 g7 g8 eL eR hx hst
                  go_wp2_with fail
                  refine wp_region_held_drew (S := fun w' => w'.rangeAt w.heap.size 0 (zs3.map (Value.int .i64)) ∧ w'.cell? ⟨b, off + k * 2, none⟩ = some (.slice aL L.length cL) ∧ w'.cell? ⟨b, off + k * 2 + 1, none⟩ = some (.slice aR R.length cR)) (by kernel_rfl) hS1 (fun hHeld => ?_)
                  show wpAnyH _ _ _ _ _ 13 (Array.replicate 13 false) _ _
                  refine wpAnyH_take (i := 0) (v := .agg (zs3.map (Value.int .i64)).toArray) rfl (by kernel_rfl) (by kernel_rfl) (by kernel_rfl) (fun _ _ _ h => h) (yieldsIf_load_mid (by rfl) 29 _ rfl _ _ rfl (zs3.map (Value.int .i64)) _ (fun w h => h.1) hu53.out rfl hi53.out) hHeld ?_
                  refine wpAnyH_take (i := 1) (v := .slice (some ⟨b, off, none⟩) ps'.length cp) rfl (by kernel_rfl) (by kernel_rfl) (by kernel_rfl) (fun _ _ _ h => h) (Or.inl ⟨by rfl, fun w hSw => by obtain ⟨_, hSa, hSb⟩ := hSw; go_simp⟩) hHeld ?_
                  refine wpAnyH_take (i := 2) (v := .int .i64 (k : Int)) rfl (by kernel_rfl) (by kernel_rfl) (by kernel_rfl) (fun _ _ _ h => h) (Or.inl ⟨by rfl, fun w hSw => by obtain ⟨_, hSa, hSb⟩ := hSw; go_simp⟩) hHeld ?_
                  refine wpAnyH_take (i := 3) (v := .pointer (some ⟨b, off + k * 2, none⟩)) rfl (by kernel_rfl) (by kernel_rfl) (by kernel_rfl) (fun _ _ _ h => h) (Or.inl ⟨by rfl, fun w hSw => by obtain ⟨_, hSa, hSb⟩ := hSw; go_simp⟩) hHeld ?_
                  refine wpAnyH_take (i := 4) (v := .pointer (some ⟨b, off + k * 2, none⟩)) rfl (by kernel_rfl) (by kernel_rfl) (by kernel_rfl) (fun _ _ _ h => h) (Or.inl ⟨by rfl, fun w hSw => by obtain ⟨_, hSa, hSb⟩ := hSw; go_simp⟩) hHeld ?_
                  refine wpAnyH_take (i := 5) (v := .slice aL L.length cL) rfl (by kernel_rfl) (by kernel_rfl) (by kernel_rfl) (fun _ _ _ h => h) (Or.inl ⟨by rfl, fun w hSw => by obtain ⟨_, hSa, hSb⟩ := hSw; go_simp⟩) hHeld ?_
                  refine wpAnyH_take (i := 6) (v := .slice (some ⟨b, off, none⟩) ps'.length cp) rfl (by kernel_rfl) (by kernel_rfl) (by kernel_rfl) (fun _ _ _ h => h) (Or.inl ⟨by rfl, fun w hSw => by obtain ⟨_, hSa, hSb⟩ := hSw; go_simp⟩) hHeld ?_
                  refine wpAnyH_take (i := 7) (v := .int .i64 (k : Int)) rfl (by kernel_rfl) (by kernel_rfl) (by kernel_rfl) (fun _ _ _ h => h) (Or.inl ⟨by rfl, fun w hSw => by obtain ⟨_, hSa, hSb⟩ := hSw; go_simp⟩) hHeld ?_
                  refine wpAnyH_take (i := 8) (v := .pointer (some ⟨b, off + k * 2, none⟩)) rfl (by kernel_rfl) (by kernel_rfl) (by kernel_rfl) (fun _ _ _ h => h) (Or.inl ⟨by rfl, fun w hSw => by obtain ⟨_, hSa, hSb⟩ := hSw; go_simp⟩) hHeld ?_
                  refine wpAnyH_take (i := 9) (v := .pointer (some ⟨b, off + k * 2 + 1, none⟩)) rfl (by kernel_rfl) (by kernel_rfl) (by kernel_rfl) (fun _ _ _ h => h) (Or.inl ⟨by rfl, fun w hSw => by obtain ⟨_, hSa, hSb⟩ := hSw; go_simp⟩) hHeld ?_
                  refine wpAnyH_take (i := 10) (v := .slice aR R.length cR) rfl (by kernel_rfl) (by kernel_rfl) (by kernel_rfl) (fun _ _ _ h => h) (Or.inl ⟨by rfl, fun w hSw => by obtain ⟨_, hSa, hSb⟩ := hSw; go_simp⟩) hHeld ?_
                  refine wpAnyH_ready (rs := [11]) (by kernel_rfl) (by simp) (AllReadyH.cons rfl (fun K hK => ?_) AllReadyH.nil)
                  go_simp
                  refine (hC.out _ (below_drew1 (Below.refl _ wr))).mono ?_
                  clear hC
                  rintro e w2 ⟨rfl, b2⟩
                  have b3 : Below wr.heap.size wr w2 := ⟨b2.os, b2.tape, b2.output, b2.size, b2.block⟩
                  refine hK.out _ _ (hS.out w2 b3) (fun hHeld2 => ?_)
                  clear hK K
                  refine wpAnyH_ready (rs := [12]) (by kernel_rfl) (by simp) (AllReadyH.cons rfl (fun K hK => ?_) AllReadyH.nil)
                  go_simp
                  refine hK.out _ _ (hS.out w2 b3) (fun _ => ?_)
                  clear hK K
                  refine wpAnyH_done (by kernel_rfl) ?_ _
                  go_wp2
                  go_roundw
                  case rel => exact ⟨k + 1, hb', by omega, by go_num, rfl, hid (by rw [hq.out.1, Bool.true_and]; exact hsn.out.symm), hBv.trans (b3.mono hBv.size)⟩
                  case measure => simp [intOf]; omega
                · have hgf := (hx.out hgo).trans hfx.out.symm
                  clear hx hst hfx
                  by_cases hlt2 : k < ps'.length
                  · have hlt2' : (k : Int) < (ps'.length : Int) := by omega
                    subst hgf
                    exact absurd ⟨hlt2, rfl⟩ hgo
                  · obtain rfl : k = ps'.length := by omega
                    subst hgf
                    go_wp2_with fail
                    refine (closeBegun_any wr).mono ?_
                    rintro e w9 ⟨rfl, b9⟩
                    go_wp2
                    go_ret
                    exact ⟨by simp, hB0.trans ((BX.trans (b9.mono BX.size)).mono (by omega))⟩
      · have hne : (Tm.eqsErr ps' != 0) = true := by simpa using hr
        clear hr Hs
        generalize Tm.eqsErr ps' = q at *
        go_wp2_with fail
        refine hE2.out.mono ?_
        rintro e u5 ⟨rfl, b5⟩
        have B5 := B4.trans (b5.mono B4.size)
        clear hE2
        go_wp2_with fail
        refine (closeBegun_any u5).mono ?_
        rintro e u6 ⟨rfl, b6⟩
        go_wp2
        go_ret
        exact ⟨rfl, hB0.trans ((B5.trans (b6.mono B5.size)).mono (by omega))⟩
    · have hne : (Tm.rulesErr rs' != 0) = true := by simpa using hr
      clear hr Hs
      generalize Tm.rulesErr rs' = q at *
      go_wp2_with fail
      refine hF2.out.mono ?_
      rintro e u4 ⟨rfl, b4⟩
      have B4 := B3.trans (b4.mono B3.size)
      clear hF2
      go_wp2_with fail
      refine (closeBegun_any u4).mono ?_
      rintro e u5 ⟨rfl, b5⟩
      go_wp2
      go_ret
      exact ⟨rfl, hB0.trans ((B4.trans (b5.mono B4.size)).mono (by omega))⟩
  · have hne : (er != 0) = true := by simpa using he
    clear he hs
    go_wp2_with fail
    refine (closeBegun_any u1).mono ?_
    rintro e u2 ⟨rfl, b2⟩
    go_wp2
    go_ret
    exact ⟨rfl, hB0.trans ((B1.trans (b2.mono B1.size)).mono (by omega))⟩

/-! The row. -/
set_option maxRecDepth 100000 in
theorem lifted (os : Os) (started : os.Started) (H : Type) (enc : TypeId × Value → H) :
    ReturnsInHanded {} Try.checked os 8 .any (Rows.closeKeepsSpec.pre6 enc Try.prog Try.f8 Rows.closeKeepsRow.domain false) (Rows.closeKeepsSpec.post enc Try.prog Try.f8 false true false false) := by
  refine returnsInHanded_of_change (C := Try.checked) own started (by kernel_rfl) Try.func8
    (ChangeSpec.witness6 (enc := enc) (C := Try.checked) false ⟨#[], #[.slice none 0 0, .slice none 0 0, .slice none 0 0, .agg #[.int .i64 0, .int .i64 0, .int .i64 0, .int .i64 0, .int .i64 0, .int .i64 0, .int .i64 0, .int .i64 0, .int .i64 0, .int .i64 0, .int .i64 0, .int .i64 0, .int .i64 0, .int .i64 0, .int .i64 0, .int .i64 0, .int .i64 0, .int .i64 0, .int .i64 0, .int .i64 0, .int .i64 0, .int .i64 0, .int .i64 0, .int .i64 0, .int .i64 0, .int .i64 0]], []⟩ 8 (by kernel_rfl) (by kernel_rfl) (by kernel_rfl) (by kernel_rfl)) ?_
  intro W base args ds gs before hval0 hW hcnd _
  have hval : ∀ (j : Nat) t v, Try.f8.params[j]? = some t → args[j]? = some v → Value.okWide Try.prog W .any base t v := hval0
  have hW' := hW
  obtain ⟨p, q, hA0, hV, rfl, hfz, hnd⟩ := hW
  have hA : DataW.TrodAll enc Try.prog W 0 (fun _ => true) true Try.f8.params.toList args.toList ds p := hA0
  rw [Try.params8] at hA hval
  obtain ⟨v0, vs0, d0, ds0, p0, q0, hargs, rfl, rfl, h0, r0⟩ := trodAll_cons hA
  obtain ⟨v1, vs1, d1, ds1, p1, q1, rfl, rfl, rfl, h1, r1⟩ := trodAll_cons r0
  obtain ⟨v2, vs2, d2, ds2, p2, q2, rfl, rfl, rfl, h2, r2⟩ := trodAll_cons r1
  obtain ⟨v3, vs3, d3, ds3, p3, q3, rfl, rfl, rfl, h3, r3⟩ := trodAll_cons r2
  obtain ⟨rfl, rfl, rfl⟩ := trodAll_nil r3
  obtain rfl : args = #[v0, v1, v2, v3] := by cases args; simp_all
  obtain ⟨rfl, rfl⟩ := trodVars_none hV
  obtain ⟨a0, len0, cap0, rfl⟩ := okWide_slice Try.underlying36 (hval 0 36 v0 rfl rfl)
  have k0 := h0
  have lt0 : ∀ x ∈ p0, x.block < W.heap.size := by obtain ⟨m, hm⟩ := k0; exact DataW.trod_lt m _ _ _ hm
  have w0 : TermIn W a0 len0 cap0 := by
    obtain ⟨fuel, hf⟩ := h0
    rcases open_ints Try.underlying36 Try.underlying3 (by kernel_rfl) hf with ⟨hcs, _⟩ | ⟨x, l, c, zs, hcs, _, hl, hm, hz, _, hcell, hwz⟩
    · simp [Value.cells] at hcs
      obtain ⟨rfl, rfl, rfl⟩ := hcs
      exact ints_of_row (.inl ⟨rfl, rfl, rfl, rfl⟩)
    · simp [Value.cells] at hcs
      obtain ⟨rfl, rfl, rfl⟩ := hcs
      exact ints_of_row (.inr ⟨_, rfl, hl, hm, by simpa using hz, hcell, hwz⟩)
  obtain ⟨a1, len1, cap1, rfl⟩ := okWide_slice Try.underlying22 (hval 1 22 v1 rfl rfl)
  have k1 := h1
  have lt1 : ∀ x ∈ p1, x.block < W.heap.size := by obtain ⟨m, hm⟩ := k1; exact DataW.trod_lt m _ _ _ hm
  have w1 : RulesIn W a1 len1 cap1 := by
    obtain ⟨fuel, hf⟩ := h1
    exact rulesIn_open Try.underlying22 Try.underlying39 (by kernel_rfl) rfl rfl rfl rfl (by simp [Value.cells]) hf
  obtain ⟨a2, len2, cap2, rfl⟩ := okWide_slice Try.underlying30 (hval 2 30 v2 rfl rfl)
  have k2 := h2
  have lt2 : ∀ x ∈ p2, x.block < W.heap.size := by obtain ⟨m, hm⟩ := k2; exact DataW.trod_lt m _ _ _ hm
  have w2 : RulesIn W a2 len2 cap2 := by
    obtain ⟨fuel, hf⟩ := h2
    exact rulesIn_open Try.underlying30 Try.underlying42 (by kernel_rfl) rfl rfl rfl rfl (by simp [Value.cells]) hf
  have k3 := h3
  have lt3 : ∀ x ∈ p3, x.block < W.heap.size := by obtain ⟨m, hm⟩ := k3; exact DataW.trod_lt m _ _ _ hm
  obtain ⟨zs3, w3, e3⟩ : ∃ zs, MoOk zs ∧ v3 = moV zs := by
    obtain ⟨fuel, hf⟩ := h3
    exact model_open (hval 3 29 v3 rfl rfl) rfl hf
  subst e3
  clear hA0 hval0
  refine (walk a0 len0 cap0 a1 len1 cap1 a2 len2 cap2 zs3 W w0 w1 w2 w3).mono fun e W' ⟨he, bel⟩ => ?_
  subst he
  exact ⟨_, rfl, _, _, _, [], _, [], hW', trodAll_mk1 (shut_bool Try.underlying4 _), (trodAll_cons_mk (Below.trod laidOut (by kernel_rfl) (of_decide_eq_true (by kernel_rfl)) k0 bel lt0) (trodAll_cons_mk (Below.trod laidOut (by kernel_rfl) (of_decide_eq_true (by kernel_rfl)) k1 bel lt1) (trodAll_cons_mk (Below.trod laidOut (by kernel_rfl) (of_decide_eq_true (by kernel_rfl)) k2 bel lt2) (trodAll_cons_mk (Below.trod laidOut (by kernel_rfl) (of_decide_eq_true (by kernel_rfl)) k3 bel lt3) trodAll_mk0)))), rfl, bel.frame _, fun h => by cases h⟩

theorem over : Rows.closeKeepsRow.holds Try.pinned (OpenSpec.ofChange Rows.closeKeepsSpec) :=
  OpenClaim.holds_of_wide 8 Try.f8 rfl rfl rfl rfl rfl rfl rfl ⟨rfl, rfl, rfl, rfl, rfl⟩ rfl rfl rfl rfl rfl (by kernel_rfl) Try.func8 (by kernel_rfl)
    (of_decide_eq_true (by kernel_rfl)) (by unfold Func.isWrapper; first | (rw [if_pos (by decide +kernel)]; kernel_rfl) | (rw [if_neg (by decide +kernel)]; exact ⟨rfl, rfl⟩))
    (fun os started H enc _ => lifted os started H enc)

/-- The statement. -/
theorem proved : Rows.CloseKeepsSaid := over
#print axioms proved
end Go.Proofs.Ytgeknojpcjadkaa.closeKeeps
