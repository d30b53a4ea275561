/-
  Whatever rules, two numbers and world PairsModel is handed, it answers true and changes nothing that it was handed: in whatever world all rules hold, all pairs that pairs.Of answers hold, too; they are terms, their variables stand in order, and there are no more of them than the first rule has symbols in its L. No condition.
-/
import Derived.Test.YtgeknojpcjadkaaRows
import Derived.WalkKit
import Derived.ProofKit
import Derived.OpenShut
import Derived.ChangeOld
import Derived.Below
import Derived.Deep.Matrix
import Derived.Test.YtgeknojpcjadkaaBpm2
import Derived.Test.YtgeknojpcjadkaaBpm7
import Derived.Test.YtgeknojpcjadkaaBpm24
namespace Go.Proofs.Ytgeknojpcjadkaa.pairsModel
open Go.ChangeShapes Go.WideShapes Go.ChangeAt Go.RowKit Go.Deep Go.Shelf Go.Maps
set_option linter.unusedVariables false

theorem own : ownKnob Try.prog.godebug = none := by kernel_rfl
theorem laidOut : laidOutB Try.prog = true := by kernel_rfl

/-! The walk. -/
set_option maxRecDepth 100000 in
set_option maxHeartbeats 40000000 in
theorem walk (a0 : Option Addr) (len0 cap0 : Nat) (a1 : Int) (a2 : Int) (zs3 : List Int) (w : World) (w0 : RulesIn w a0 len0 cap0) (w1 : (Lit.int .i64 a1).wf = true) (w2 : (Lit.int .i64 a2).wf = true) (w3 : MoOk zs3) :
    Calls Try.prog 3 #[.slice a0 len0 cap0, .int .i64 a1, .int .i64 a2, moV zs3] w fun e w' => e = .returned (.bool true) ∧ Below w.heap.size w w' := by
  obtain ⟨rs, rfl, hI, hi1, hi2⟩ := w0
  have hB0 : Below w.heap.size w (w.alloc (.cells (zs3.map (Value.int .i64)).toArray 29)) := (Below.refl _ w).alloc (Nat.le_refl _) _
  have bM := World.alloc_heap_new w (.cells (zs3.map (Value.int .i64)).toArray 29)
  obtain ⟨W1, hW1⟩ : ∃ W1, w.alloc (.cells (zs3.map (Value.int .i64)).toArray 29) = W1 := ⟨_, rfl⟩
  have hs1 : W1.heap.size = w.heap.size + 1 := by rw [← hW1]; simp
  rw [hW1] at hB0 bM
  have HI := hid (fun W (hW : Below W1.heap.size W1 W) => show RulesAt W.heap.size W a0 rs by have h := hB0.trans (hW.mono hB0.size); exact (hI.below h).mono h.size)
  have HbM := hid (fun W (hW : Below W1.heap.size W1 W) => (hW.block w.heap.size (by omega)).trans bM)
  have hszM := hid (mo_size w3)
  have hO := hid (Of_any rs a1 a2 a0 cap0 W1 (HI.out W1 (Below.refl _ _)))
  have HW1 := hid hW1
  clear hI bM hW1
  unfold moV
  go_enter Try.func3, Try.ntmps3
  go_wp2_with fail
  rw [HW1.out]
  refine hO.out.mono ?_
  rintro e u1 ⟨er, ps, v1, hsay, rfl, hN1, B1⟩
  obtain ⟨pa, pc, rfl, hP, hpl, hpc⟩ := hN1.at
  clear hO hN1
  by_cases he : er = 0
  · subst he
    obtain ⟨hr, a, ha, rfl, hc1, hc2, hgood⟩ := Tm.of_good hsay
    have ha' : (a : Int) < (rs.length : Int) := by omega
    have ha0 : ¬ (a : Int) < 0 := by omega
    have hd0 : decide ((a : Int) < 0) = false := by simp
    have hd1 : decide ((rs.length : Int) ≤ (a : Int)) = false := by simp; omega
    have hRe := hid (fun W (hW : Below W1.heap.size W1 W) => rulesError_any rs a0 cap0 W (HI.out W hW))
    rw [hr] at hRe
    have hWo := hid (fun W (hW : Below W1.heap.size W1 W) => world_any zs3 w3 rs a0 cap0 W hr (HI.out W hW))
    unfold moV at hWo
    have Hgood := hid hgood
    have HP := hid hP
    have hl30 : ps.length ≤ 30 := by
      rcases hsay with ⟨h1, h2, _⟩ | ⟨_, _, h2, _⟩ | ⟨_, a', b', ha2, _, _, _, h3⟩
      · exact absurd h2.symm h1
      · omega
      · rcases h3 with ⟨_, h4⟩ | ⟨h4, _⟩
        · have := h4.len
          obtain ⟨eL, _⟩ := Tm.ruleErr_ok ((Tm.rulesErr_ok hr).2 a' ha2)
          have := Tm.err_len eL
          omega
        · exact absurd rfl h4.1
    have hl30' : (ps.length : Int) ≤ 30 := by omega
    obtain ⟨eL, _⟩ := Tm.ruleErr_ok ((Tm.rulesErr_ok hr).2 a ha)
    have lL := Tm.err_len eL
    obtain ⟨L, hL⟩ : ∃ L, (rs[a]?.getD ([], [])).1 = L := ⟨_, rfl⟩
    rw [hL] at hc1 hc2 lL
    have Hc1 := hid hc1
    have Hc2 := hid hc2
    have lL' : (L.length : Int) ≤ 30 := by omega
    clear hsay hgood hP hr hc1 hc2 eL
    go_wp2_with fail
    refine (hRe.out u1 B1).mono ?_
    rintro e u2 ⟨rfl, b2⟩
    have B2 := B1.trans (b2.mono B1.size)
    have HP2 := hid ((HP.out.below b2).mono b2.size)
    clear hRe HP B1 b2
    go_wp2
    go_loopw [11, 12] (fun n x wr => ∃ k : Nat, k ≤ L.length ∧ x = .int .i64 (k : Int) ∧ n = .int .i64 (symN (L.take k) : Int) ∧ wr = u2) (fun _ x _ => L.length - (intOf x).toNat)
    case atStart => exact ⟨0, Nat.zero_le _, rfl, rfl, rfl⟩
    case round =>
      obtain ⟨k, hk, rfl, rfl, rfl⟩ := hrel
      obtain ⟨b, off, rfl, hb, aL, cL, aR, cR, g1, g2, g3, g4, _⟩ := (HI.out _ B2) a ha
      rw [hL] at g1 g3
      by_cases hlt : k < L.length
      · have hlt' : (k : Int) < (L.length : Int) := by omega
        obtain ⟨bl, ol, rfl, hbl, hcl⟩ := g3.at (by omega)
        have hck := hcl k hlt
        have hsn := hid (symN_snoc hlt)
        have hle : symN (L.take k) ≤ 30 := by
          have h1 : symN (L.take k) ≤ (L.take k).length := List.length_filter_le _ _
          rw [List.length_take] at h1
          omega
        have hle' : (symN (L.take k) : Int) ≤ 30 := by omega
        clear hcl g2 g3 g4
        generalize L[k]?.getD 0 = s at *
        by_cases hs : 0 ≤ s
        · rw [if_pos hs] at hsn
          go_wp2
          go_roundw
          case rel => exact ⟨k + 1, by omega, by go_num, by rw [hsn.out]; go_num, by first | rfl | trivial⟩
          case measure => simp [intOf]; omega
        · rw [if_neg hs] at hsn
          have hs' : decide (0 ≤ s) = false := by simpa using hs
          go_wp2
          go_roundw
          case rel => exact ⟨k + 1, by omega, by go_num, by rw [hsn.out]; rfl, by first | rfl | trivial⟩
          case measure => simp [intOf]; omega
      · obtain rfl : k = L.length := by omega
        rw [List.take_length]
        have hle : symN L ≤ L.length := List.length_filter_le _ _
        have hq0 : decide ((symN L : Int) < (ps.length : Int)) = false := by have := Hc1.out; simp; omega
        have hq0' : decide (symN L < ps.length) = false := by have := Hc1.out; simp; omega
        have hij : ((a : Int) = a2 ∧ decide ((symN L : Int) ≤ (ps.length : Int)) = false ∧ decide (symN L ≤ ps.length) = false) ∨ ((a : Int) == a2) = false := by
          by_cases e : (a : Int) = a2
          · left
            have := Hc2.out e
            exact ⟨e, by simp; omega, by simp; omega⟩
          · right
            simpa using e
        have HG : Hid (∀ k, k < ps.length → Tm.err (ps[k]?.getD ([], [])).1 = 0 ∧ Tm.err (ps[k]?.getD ([], [])).2 = 0 ∧ Ordered ((ps[k]?.getD ([], [])).1 ++ (ps[k]?.getD ([], [])).2) ∧ (worldB zs3 rs = true → Tm.Holds (mo zs3) (ps[k]?.getD ([], [])).1 (ps[k]?.getD ([], [])).2)) := fun k hk => by
          obtain ⟨g1, g2, g3, g4⟩ := Hgood.out k hk
          exact ⟨g1, g2, g3, g4 zs3⟩
        have bM2 := hid (HbM.out wr B2)
        clear hk hlt g2 g3 g4 Hc1 Hc2 Hgood hb hL lL lL' hle
        generalize symN L = sy at *
        generalize worldB zs3 rs = wq at *
        rcases hij with ⟨rfl, hq1, hq2⟩ | hij
        all_goals (
          go_wp2_with (first
            | (refine wpList_row_wanted rfl 29 _ rfl _ rfl _ _ _ _ bM2.out Try.underlying29 rfl hszM.out ?_)
            | (go_at_call 15; refine (hWo.out wr B2).mono ?_; rintro e u3 ⟨rfl, b3⟩))
          have B3 := B2.trans (b3.mono B2.size)
          have HP3 := hid ((HP2.out.below b3).mono b3.size)
          clear hWo bM2 HP2 hq0 hq0' g1
          go_loopw [14] (fun x wr => ∃ k : Nat, k ≤ ps.length ∧ x = .int .i64 (k : Int) ∧ Below u3.heap.size u3 wr) (fun x _ => ps.length - (intOf x).toNat)
          case atStart => exact ⟨0, Nat.zero_le _, rfl, Below.refl _ _⟩
          case round =>
            obtain ⟨k, hk, rfl, hBk⟩ := hrel
            have BW := B3.trans (hBk.mono B3.size)
            by_cases hlt : k < ps.length
            · have hlt' : (k : Int) < (ps.length : Int) := by omega
              obtain ⟨bp, op, rfl, hbp, aP, cP, aQ, cQ, g1, g2, g3, g4, g5, g6, g7, g8⟩ := (HP3.out.below hBk) k hlt
              obtain ⟨eP, eQ, hord, hh⟩ := HG.out k hlt
              generalize (ps[k]?.getD ([], [])).1 = P at *
              generalize (ps[k]?.getD ([], [])).2 = Q at *
              have IP := hid (g3.mono hBk.size)
              have IQ := hid (g4.mono hBk.size)
              have TP := hid (termError_any P aP cP wr IP.out)
              have TQ := hid (termError_any Q aQ cQ wr IQ.out)
              rw [eP] at TP
              rw [eQ] at TQ
              have lP := Tm.err_len eP
              have lQ := Tm.err_len eQ
              have pP := Tm.err_pos eP
              have pQ := Tm.err_pos eQ
              have Hord := hid hord
              have Hh := hid hh
              have HeP := hid eP
              have HeQ := hid eQ
              clear hord hh eP eQ g3 g4
              go_wp2_with fail
              refine TP.out.mono ?_
              rintro e wr ⟨rfl, rfl⟩
              go_wp2_with fail
              refine TQ.out.mono ?_
              rintro e wr ⟨rfl, rfl⟩
              clear TP TQ
              obtain ⟨b1, o1, rfl, _, _⟩ := IP.out.at pP
              obtain ⟨b2, o2, rfl, _, _⟩ := IQ.out.at pQ
              obtain ⟨nx, hn0, hnx⟩ := Hord.out
              have hBd : Below wr.heap.size wr ((wr.alloc (.cells #[] 3)).drew) := below_drewN ((Below.refl _ wr).alloc (Nat.le_refl _) _) 1
              have hN0 : New wr.heap.size ((wr.alloc (.cells #[] 3)).drew) (.slice (some ⟨wr.heap.size, 0, none⟩) 0 0) [] := New.lit wr.heap.size wr [] (Nat.le_refl _) (by unfold maxLen; simp)
              have IPx := hid (fun X (hX : Below wr.heap.size wr X) => (IP.out.below hX).mono hX.size)
              have IQx := hid (fun X (hX : Below wr.heap.size wr X) => (IQ.out.below hX).mono hX.size)
              have hS : Hid (∀ X, Below wr.heap.size wr X → X.cell? ⟨bp, op + k * 2, none⟩ = some (.slice (some ⟨b1, o1, none⟩) P.length cP) ∧ X.cell? ⟨bp, op + k * 2 + 1, none⟩ = some (.slice (some ⟨b2, o2, none⟩) Q.length cQ)) := fun X hX => by
                have hb : bp < wr.heap.size := by have := hBk.size; omega
                exact ⟨(hX.cell (p := ⟨bp, op + k * 2, none⟩) hb).trans g1, (hX.cell (p := ⟨bp, op + k * 2 + 1, none⟩) hb).trans g2⟩
              have hS0 := hS.out _ (Below.refl _ wr)
              have hS1 := hS.out _ hBd
              have hS2 := hS.out _ (below_drewN (Below.refl _ wr) 1)
              clear hnx hn0 nx
              go_wp2_with fail
              go_region_held3 (fun w' => w'.cell? ⟨bp, op + k * 2, none⟩ = some (.slice (some ⟨b1, o1, none⟩) P.length cP) ∧ w'.cell? ⟨bp, op + k * 2 + 1, none⟩ = some (.slice (some ⟨b2, o2, none⟩) Q.length cQ)) (first | assumption | exact hS0 | exact hS1 | exact hS2)
                (first
                  | (refine step_append_new _ (by rfl) _ _ (by rfl) wr.heap.size _ [] (by rfl) hN0 ⟨b1, o1, none⟩ P cP (by rfl) pP (IPx.out _ hBd) (by simp; omega) (by have := hBd.size; omega) ?_; intro x5 c5 w5 hN5 hB5; have hBw5 := hBd.trans hB5; have hS5 := hS.out _ hBw5)
                  | (refine step_append_new _ (by rfl) _ _ (by rfl) wr.heap.size _ ([] ++ P) (by rfl) hN5 ⟨b2, o2, none⟩ Q cQ (by rfl) pQ (IQx.out _ hBw5) (by simp; omega) (by have := hBw5.size; omega) ?_; intro x6 c6 w6 hN6 hB6; have hBw6 := hBw5.trans hB6; have hS6 := hS.out _ hBw6))
              rw [List.nil_append] at hN6
              obtain ⟨a6, c6', e6, hI6, _⟩ := New.ints hN6
              obtain ⟨nx, hn0, hnx⟩ := Hord.out
              have hBk6 := hBk.trans (hBw6.mono hBk.size)
              have BW6 := BW.trans (hBw6.mono BW.size)
              have HS7 : Hid (∀ V, Below w6.heap.size w6 V → V.rangeAt w.heap.size 0 (zs3.map (Value.int .i64)) ∧ V.cell? ⟨bp, op + k * 2, none⟩ = some (.slice (some ⟨b1, o1, none⟩) P.length cP) ∧ V.cell? ⟨bp, op + k * 2 + 1, none⟩ = some (.slice (some ⟨b2, o2, none⟩) Q.length cQ)) := fun V hV =>
                ⟨mo_range (zs := zs3) (HbM.out V (BW6.trans (hV.mono BW6.size))), hS.out V (hBw6.trans (hV.mono hBw6.size))⟩
              have hszL := hid (show (Try.prog.info? 29).map (·.size) = some (zs3.map (Value.int .i64)).length by rw [← List.size_toArray]; exact hszM.out)
              have g1' := (hS.out w6 hBw6).1
              have g2' := (hS.out w6 hBw6).2
              have g1d : w6.drew.cell? ⟨bp, op + k * 2, none⟩ = some (.slice (some ⟨b1, o1, none⟩) P.length cP) := g1'
              have g2d : w6.drew.cell? ⟨bp, op + k * 2 + 1, none⟩ = some (.slice (some ⟨b2, o2, none⟩) Q.length cQ) := g2'
              have hHo := hid (holds_any zs3 w3 P Q (some ⟨b1, o1, none⟩) (some ⟨b2, o2, none⟩) cP cQ w6.drew HeP.out HeQ.out (IPx.out w6 hBw6) (IQx.out w6 hBw6))
              have Hhb := hid (fun (h : wq = true) => ((Tm.holdsB_iff HeP.out HeQ.out (dp_all _ (by omega)) (dp_all _ (by omega))).2 (Hh.out h) : Tm.holdsB (mo zs3) P Q (max (dpN P) (dpN Q)) = true))
              unfold moV at hHo
              have hIx : Ints w6.heap.size w6 (some ⟨x6, 0, none⟩) (P ++ Q) := by
                rw [List.length_append] at e6
                cases e6
                exact hI6
              have HIx := hid hIx
              have Hlen := hid (show (P ++ Q).length = P.length + Q.length from List.length_append)
              have lPQ : ((P.length + Q.length : Nat) : Int) ≤ 60 := by omega
              have lPQ' : (P.length : Int) + (Q.length : Int) ≤ 60 := by omega
              clear hN6 hI6 e6 hIx hS5 hS6 hN5 hB5 hB6 hBw5 hS0 hS1 hS2 hN0 hBd Hh Hord
              go_wp2
              go_loopw [16, 17] (fun x n wz => ∃ m : Nat, m ≤ P.length + Q.length ∧ n = .int .i64 (m : Int) ∧ x = .int .i64 (nx m) ∧ wz = w6) (fun _ n _ => P.length + Q.length - (intOf n).toNat)
              case atStart => exact ⟨0, Nat.zero_le _, rfl, by rw [hn0], rfl⟩
              case round =>
                obtain ⟨m, hm, rfl, rfl, rfl⟩ := hrel
                by_cases hml : m < P.length + Q.length
                · have hml' : (m : Int) < (P.length : Int) + (Q.length : Int) := by omega
                  have hml2 : (m : Int) < ((P.length + Q.length : Nat) : Int) := by omega
                  obtain ⟨d1, d2, d3⟩ := hnx m (by rw [Hlen.out]; exact hml)
                  obtain ⟨bx, ox, ex, _, hcx⟩ := HIx.out.at (by rw [Hlen.out]; omega)
                  cases ex
                  have hck := hcx m (by rw [Hlen.out]; exact hml)
                  rw [Nat.zero_add] at hck
                  have hub : (P ++ Q)[m]?.getD 0 < 6 := by
                    have hmem : (P ++ Q)[m]?.getD 0 ∈ P ++ Q := by rw [List.getElem?_eq_getElem (by rw [Hlen.out]; exact hml)]; exact List.getElem_mem _
                    have kP := Tm.err_all HeP.out
                    have kQ := Tm.err_all HeQ.out
                    rw [List.all_eq_true] at kP kQ
                    rcases List.mem_append.1 hmem with h | h
                    · exact Tm.known_lt (kP _ h)
                    · exact Tm.known_lt (kQ _ h)
                  have Hd2 := hid d2
                  clear hcx d2
                  generalize (P ++ Q)[m]?.getD 0 = s at *
                  generalize nx m = y at *
                  have hd1 : decide (s < y) = false := by simpa using d1
                  by_cases e : s = y
                  · subst e
                    rw [if_pos rfl] at Hd2
                    clear hd1 d1
                    go_wp2
                    go_roundw
                    case rel => exact ⟨m + 1, by omega, by go_num, by first | (rw [Hd2.out]; done) | (rw [Hd2.out]; go_num), by first | rfl | trivial⟩
                    case measure => simp [intOf]; omega
                  · rw [if_neg e] at Hd2
                    have he' : (s == y) = false := by simpa using e
                    go_wp2
                    go_roundw
                    case rel => exact ⟨m + 1, by omega, by go_num, by first | (rw [Hd2.out]; done) | (rw [Hd2.out]; go_num), by first | rfl | trivial⟩
                    case measure => simp [intOf]; omega
                · obtain rfl : m = P.length + Q.length := by omega
                  cases wq with
                  | false =>
                    clear hHo Hhb
                    go_wp2_with fail
                    go_big_region
                    go_wp2
                    go_roundw
                    case rel => exact ⟨k + 1, by omega, by go_num, by first | exact hBk6 | exact below_drewN hBk6 1⟩
                    case measure => simp [intOf]; omega
                  | true =>
                    rw [Hhb.out rfl] at hHo
                    have hS8 := HS7.out _ (below_drewN (Below.refl _ wr) 1)
                    clear g1' g2' g1d g2d Hhb IPx IQx HIx hnx hn0 hm hml
                    go_wp2_with fail
                    refine wp_region_held_drew (S := fun w' => w'.rangeAt w.heap.size 0 (zs3.map (Value.int .i64)) ∧ w'.cell? ⟨bp, op + k * 2, none⟩ = some (.slice (some ⟨b1, o1, none⟩) P.length cP) ∧ w'.cell? ⟨bp, op + k * 2 + 1, none⟩ = some (.slice (some ⟨b2, o2, none⟩) Q.length cQ)) (by kernel_rfl) hS8 (fun hHeld => ?_)
                    show wpAnyH _ _ _ _ _ 16 (Array.replicate 16 false) _ _
                    refine wpAnyH_take (i := 0) (oi := { dst := some 137, op := _, type := _, pos := _, after := _, guard := _ }) (v := .bool true) rfl (by kernel_rfl) (by kernel_rfl) (by kernel_rfl) (fun _ _ _ h => h) (Or.inl ⟨by rfl, fun w hSw => by obtain ⟨_, hSa, hSb⟩ := hSw; go_simp⟩) hHeld ?_
                    simp only [Act.put, List.setIfInBounds_toArray, List.set_cons_zero, List.set_cons_succ]
                    refine wpAnyH_take (i := 1) (oi := { dst := some 138, op := _, type := _, pos := _, after := _, guard := _ }) (v := .bool true) rfl (by kernel_rfl) (by kernel_rfl) (by kernel_rfl) (fun _ _ _ h => h) (Or.inl ⟨by rfl, fun w hSw => by obtain ⟨_, hSa, hSb⟩ := hSw; go_simp⟩) hHeld ?_
                    simp only [Act.put, List.setIfInBounds_toArray, List.set_cons_zero, List.set_cons_succ]
                    refine wpAnyH_take (i := 2) (oi := { dst := some 139, op := _, type := _, pos := _, after := _, guard := _ }) (v := .agg (zs3.map (Value.int .i64)).toArray) rfl (by kernel_rfl) (by kernel_rfl) (by kernel_rfl) (fun _ _ _ h => h) (yieldsIf_load_mid (by rfl) 29 _ rfl _ _ rfl (zs3.map (Value.int .i64)) _ (fun w h => h.1) Try.underlying29 rfl hszL.out) hHeld ?_
                    simp only [Act.put, List.setIfInBounds_toArray, List.set_cons_zero, List.set_cons_succ]
                    refine wpAnyH_take (i := 3) (oi := { dst := some 140, op := _, type := _, pos := _, after := _, guard := _ }) (v := .slice (some ⟨bp, op, none⟩) ps.length pc) rfl (by kernel_rfl) (by kernel_rfl) (by kernel_rfl) (fun _ _ _ h => h) (Or.inl ⟨by rfl, fun w hSw => by obtain ⟨_, hSa, hSb⟩ := hSw; go_simp⟩) hHeld ?_
                    simp only [Act.put, List.setIfInBounds_toArray, List.set_cons_zero, List.set_cons_succ]
                    refine wpAnyH_take (i := 4) (oi := { dst := some 141, op := _, type := _, pos := _, after := _, guard := _ }) (v := .int .i64 (k : Int)) rfl (by kernel_rfl) (by kernel_rfl) (by kernel_rfl) (fun _ _ _ h => h) (Or.inl ⟨by rfl, fun w hSw => by obtain ⟨_, hSa, hSb⟩ := hSw; go_simp⟩) hHeld ?_
                    simp only [Act.put, List.setIfInBounds_toArray, List.set_cons_zero, List.set_cons_succ]
                    refine wpAnyH_take (i := 5) (oi := { dst := some 142, op := _, type := _, pos := _, after := _, guard := _ }) (v := .pointer (some ⟨bp, op + k * 2, none⟩)) rfl (by kernel_rfl) (by kernel_rfl) (by kernel_rfl) (fun _ _ _ h => h) (Or.inl ⟨by rfl, fun w hSw => by obtain ⟨_, hSa, hSb⟩ := hSw; go_simp⟩) hHeld ?_
                    simp only [Act.put, List.setIfInBounds_toArray, List.set_cons_zero, List.set_cons_succ]
                    refine wpAnyH_take (i := 6) (oi := { dst := some 143, op := _, type := _, pos := _, after := _, guard := _ }) (v := .pointer (some ⟨bp, op + k * 2, none⟩)) rfl (by kernel_rfl) (by kernel_rfl) (by kernel_rfl) (fun _ _ _ h => h) (Or.inl ⟨by rfl, fun w hSw => by obtain ⟨_, hSa, hSb⟩ := hSw; go_simp⟩) hHeld ?_
                    simp only [Act.put, List.setIfInBounds_toArray, List.set_cons_zero, List.set_cons_succ]
                    refine wpAnyH_take (i := 7) (oi := { dst := some 144, op := _, type := _, pos := _, after := _, guard := _ }) (v := .slice (some ⟨b1, o1, none⟩) P.length cP) rfl (by kernel_rfl) (by kernel_rfl) (by kernel_rfl) (fun _ _ _ h => h) (Or.inl ⟨by rfl, fun w hSw => by obtain ⟨_, hSa, hSb⟩ := hSw; go_simp⟩) hHeld ?_
                    simp only [Act.put, List.setIfInBounds_toArray, List.set_cons_zero, List.set_cons_succ]
                    refine wpAnyH_take (i := 8) (oi := { dst := some 145, op := _, type := _, pos := _, after := _, guard := _ }) (v := .slice (some ⟨bp, op, none⟩) ps.length pc) rfl (by kernel_rfl) (by kernel_rfl) (by kernel_rfl) (fun _ _ _ h => h) (Or.inl ⟨by rfl, fun w hSw => by obtain ⟨_, hSa, hSb⟩ := hSw; go_simp⟩) hHeld ?_
                    simp only [Act.put, List.setIfInBounds_toArray, List.set_cons_zero, List.set_cons_succ]
                    refine wpAnyH_take (i := 9) (oi := { dst := some 146, op := _, type := _, pos := _, after := _, guard := _ }) (v := .int .i64 (k : Int)) rfl (by kernel_rfl) (by kernel_rfl) (by kernel_rfl) (fun _ _ _ h => h) (Or.inl ⟨by rfl, fun w hSw => by obtain ⟨_, hSa, hSb⟩ := hSw; go_simp⟩) hHeld ?_
                    simp only [Act.put, List.setIfInBounds_toArray, List.set_cons_zero, List.set_cons_succ]
                    refine wpAnyH_take (i := 10) (oi := { dst := some 147, op := _, type := _, pos := _, after := _, guard := _ }) (v := .pointer (some ⟨bp, op + k * 2, none⟩)) rfl (by kernel_rfl) (by kernel_rfl) (by kernel_rfl) (fun _ _ _ h => h) (Or.inl ⟨by rfl, fun w hSw => by obtain ⟨_, hSa, hSb⟩ := hSw; go_simp⟩) hHeld ?_
                    simp only [Act.put, List.setIfInBounds_toArray, List.set_cons_zero, List.set_cons_succ]
                    refine wpAnyH_take (i := 11) (oi := { dst := some 148, op := _, type := _, pos := _, after := _, guard := _ }) (v := .pointer (some ⟨bp, op + k * 2 + 1, none⟩)) rfl (by kernel_rfl) (by kernel_rfl) (by kernel_rfl) (fun _ _ _ h => h) (Or.inl ⟨by rfl, fun w hSw => by obtain ⟨_, hSa, hSb⟩ := hSw; go_simp⟩) hHeld ?_
                    simp only [Act.put, List.setIfInBounds_toArray, List.set_cons_zero, List.set_cons_succ]
                    refine wpAnyH_take (i := 12) (oi := { dst := some 149, op := _, type := _, pos := _, after := _, guard := _ }) (v := .slice (some ⟨b2, o2, none⟩) Q.length cQ) rfl (by kernel_rfl) (by kernel_rfl) (by kernel_rfl) (fun _ _ _ h => h) (Or.inl ⟨by rfl, fun w hSw => by obtain ⟨_, hSa, hSb⟩ := hSw; go_simp⟩) hHeld ?_
                    simp only [Act.put, List.setIfInBounds_toArray, List.set_cons_zero, List.set_cons_succ]
                    refine wpAnyH_ready (rs := [13]) (by kernel_rfl) (by simp) (AllReadyH.cons (o := { dst := some 150, op := _, type := _, pos := _, after := _, guard := _ }) rfl (fun K hK => ?_) AllReadyH.nil)
                    go_simp
                    refine hHo.out.mono ?_
                    clear hHo
                    rintro e w7 ⟨rfl, b7⟩
                    have b8 : Below wr.heap.size wr w7 := ⟨b7.os, b7.tape, b7.output, b7.size, b7.block⟩
                    refine hK.out _ _ (HS7.out w7 b8) (fun hHeld2 => ?_)
                    clear hK K
                    refine wpAnyH_take (i := 14) (oi := { dst := some 151, op := _, type := _, pos := _, after := _, guard := _ }) (v := .bool false) rfl (by kernel_rfl) (by kernel_rfl) (by kernel_rfl) (fun _ _ _ h => h) (Or.inl ⟨by rfl, fun w hSw => by obtain ⟨_, hSa, hSb⟩ := hSw; go_simp⟩) hHeld2 ?_
                    simp only [Act.put, List.setIfInBounds_toArray, List.set_cons_zero, List.set_cons_succ]
                    refine wpAnyH_ready (rs := [15]) (by kernel_rfl) (by simp) (AllReadyH.cons (o := { dst := some 152, op := _, type := _, pos := _, after := _, guard := _ }) rfl (fun K hK => ?_) AllReadyH.nil)
                    go_simp
                    refine hK.out _ _ (HS7.out w7 b8) (fun _ => ?_)
                    clear hK K
                    refine wpAnyH_done (by kernel_rfl) ?_ _
                    go_wp2
                    go_roundw
                    case rel => exact ⟨k + 1, by omega, by go_num, hBk6.trans (b8.mono hBk6.size)⟩
                    case measure => simp [intOf]; omega
            · obtain rfl : k = ps.length := by omega
              go_wp2_with fail
              refine (pairsBegun_any _).mono ?_
              rintro e u9 ⟨rfl, b9⟩
              go_wp2
              go_ret
              exact ⟨rfl, hB0.trans ((BW.trans (b9.mono BW.size)).mono hB0.size)⟩)
  · have hne : (er != 0) = true := by simpa using he
    clear he hsay hP
    go_wp2_with fail
    refine (pairsBegun_any u1).mono ?_
    rintro e u2 ⟨rfl, b2⟩
    go_wp2
    go_ret
    exact ⟨rfl, hB0.trans ((B1.trans (b2.mono B1.size)).mono hB0.size)⟩

/-! The row. -/
set_option maxRecDepth 100000 in
theorem lifted (os : Os) (started : os.Started) (H : Type) (enc : TypeId × Value → H) :
    ReturnsInHanded {} Try.checked os 3 .any (Rows.pairsModelSpec.pre6 enc Try.prog Try.f3 Rows.pairsModelRow.domain false) (Rows.pairsModelSpec.post enc Try.prog Try.f3 false true false false) := by
  refine returnsInHanded_of_change (C := Try.checked) own started (by kernel_rfl) Try.func3
    (ChangeSpec.witness6 (enc := enc) (C := Try.checked) false ⟨#[], #[.slice none 0 0, .int .i64 0, .int .i64 0, .agg #[.int .i64 0, .int .i64 0, .int .i64 0, .int .i64 0, .int .i64 0, .int .i64 0, .int .i64 0, .int .i64 0, .int .i64 0, .int .i64 0, .int .i64 0, .int .i64 0, .int .i64 0, .int .i64 0, .int .i64 0, .int .i64 0, .int .i64 0, .int .i64 0, .int .i64 0, .int .i64 0, .int .i64 0, .int .i64 0, .int .i64 0, .int .i64 0, .int .i64 0, .int .i64 0]], []⟩ 8 (by kernel_rfl) (by kernel_rfl) (by kernel_rfl) (by kernel_rfl)) ?_
  intro W base args ds gs before hval0 hW hcnd _
  have hval : ∀ (j : Nat) t v, Try.f3.params[j]? = some t → args[j]? = some v → Value.okWide Try.prog W .any base t v := hval0
  have hW' := hW
  obtain ⟨p, q, hA0, hV, rfl, hfz, hnd⟩ := hW
  have hA : DataW.TrodAll enc Try.prog W 0 (fun _ => true) true Try.f3.params.toList args.toList ds p := hA0
  rw [Try.params3] at hA hval
  obtain ⟨v0, vs0, d0, ds0, p0, q0, hargs, rfl, rfl, h0, r0⟩ := trodAll_cons hA
  obtain ⟨v1, vs1, d1, ds1, p1, q1, rfl, rfl, rfl, h1, r1⟩ := trodAll_cons r0
  obtain ⟨v2, vs2, d2, ds2, p2, q2, rfl, rfl, rfl, h2, r2⟩ := trodAll_cons r1
  obtain ⟨v3, vs3, d3, ds3, p3, q3, rfl, rfl, rfl, h3, r3⟩ := trodAll_cons r2
  obtain ⟨rfl, rfl, rfl⟩ := trodAll_nil r3
  obtain rfl : args = #[v0, v1, v2, v3] := by cases args; simp_all
  obtain ⟨rfl, rfl⟩ := trodVars_none hV
  obtain ⟨a0, len0, cap0, rfl⟩ := okWide_slice Try.underlying22 (hval 0 22 v0 rfl rfl)
  have k0 := h0
  have lt0 : ∀ x ∈ p0, x.block < W.heap.size := by obtain ⟨m, hm⟩ := k0; exact DataW.trod_lt m _ _ _ hm
  have w0 : RulesIn W a0 len0 cap0 := by
    obtain ⟨fuel, hf⟩ := h0
    exact rulesIn_open Try.underlying22 Try.underlying39 (by kernel_rfl) rfl rfl rfl rfl (by simp [Value.cells]) hf
  obtain ⟨a1, rfl, rfl, rfl, w1⟩ := open_int Try.underlying3 (hval 1 3 v1 rfl rfl) h1
  obtain ⟨a2, rfl, rfl, rfl, w2⟩ := open_int Try.underlying3 (hval 2 3 v2 rfl rfl) h2
  have k3 := h3
  have lt3 : ∀ x ∈ p3, x.block < W.heap.size := by obtain ⟨m, hm⟩ := k3; exact DataW.trod_lt m _ _ _ hm
  obtain ⟨zs3, w3, e3⟩ : ∃ zs, MoOk zs ∧ v3 = moV zs := by
    obtain ⟨fuel, hf⟩ := h3
    exact model_open (hval 3 29 v3 rfl rfl) rfl hf
  subst e3
  clear hA0 hval0
  refine (walk a0 len0 cap0 a1 a2 zs3 W w0 w1 w2 w3).mono fun e W' ⟨he, bel⟩ => ?_
  subst he
  exact ⟨_, rfl, _, _, _, [], _, [], hW', trodAll_mk1 (shut_bool Try.underlying4 _), (trodAll_cons_mk (Below.trod laidOut (by kernel_rfl) (of_decide_eq_true (by kernel_rfl)) k0 bel lt0) (trodAll_cons_mk (shut_int Try.underlying3 w1) (trodAll_cons_mk (shut_int Try.underlying3 w2) (trodAll_cons_mk (Below.trod laidOut (by kernel_rfl) (of_decide_eq_true (by kernel_rfl)) k3 bel lt3) trodAll_mk0)))), rfl, bel.frame _, fun h => by cases h⟩

theorem over : Rows.pairsModelRow.holds Try.pinned (OpenSpec.ofChange Rows.pairsModelSpec) :=
  OpenClaim.holds_of_wide 3 Try.f3 rfl rfl rfl rfl rfl rfl rfl ⟨rfl, rfl, rfl, rfl, rfl⟩ rfl rfl rfl rfl rfl (by kernel_rfl) Try.func3 (by kernel_rfl)
    (of_decide_eq_true (by kernel_rfl)) (by unfold Func.isWrapper; first | (rw [if_pos (by decide +kernel)]; kernel_rfl) | (rw [if_neg (by decide +kernel)]; exact ⟨rfl, rfl⟩))
    (fun os started H enc _ => lifted os started H enc)

/-- The statement. -/
theorem proved : Rows.PairsModelSaid := over
#print axioms proved
end Go.Proofs.Ytgeknojpcjadkaa.pairsModel
