/-
  haspref.own, stands, RulesError. · haspref.RulesError. · PLAIN MATHEMATICS of worlds: what a term is there; what variables become, and what is put at a place, there; in whatever world all rules hold a term is what its Form is. · hasplaw.deepest, hasplaw.valued.
-/
import Derived.Deep.QuietTactic
import Derived.BigQuiet
import Derived.Test.YtjaikmlbajdedadBun11
import Derived.Test.YtjaikmlbajdedadBun17
import Derived.Deep.MidRow
namespace Go.Proofs.Ytjaikmlbajdedad
open Go.Proofs Go.RowKit Go.Shelf Go.Maps

set_option maxRecDepth 100000 in
set_option maxHeartbeats 400000 in
theorem refOwn_any (zs : List Int) (a : Option Addr) (cap : Nat) (w : World) (hI : Ints w.heap.size w a zs) (hm : zs.length ≤ maxLen) :
    Calls Try.prog 45 #[.slice a zs.length cap] w fun e w' => e = .returned (.bool (!zs.any foreignB)) ∧ w' = w := by
  unfold maxLen at hm
  go_enter Try.func45, Try.ntmps45
  go_wp2
  go_loop [3] (fun i => ∃ k : Nat, k ≤ zs.length ∧ i = .int .i64 (k : Int) ∧ (zs.take k).any foreignB = false) (fun i => zs.length - (intOf i).toNat)
  case atStart => exact ⟨0, Nat.zero_le _, rfl, by simp⟩
  case round =>
    obtain ⟨k, hk, rfl, hno⟩ := hrel
    by_cases hlt : k < zs.length
    · have hlt' : (k : Int) < (zs.length : Int) := by omega
      obtain ⟨b, off, rfl, hb, hc⟩ := hI.at (by omega)
      have hck := hc k hlt
      have hsn := hid (any_snoc (p := foreignB) hlt hno)
      have hye := hid (any_yes (p := foreignB) hlt)
      clear hc hI hno
      generalize zs[k]?.getD 0 = s at *
      by_cases hq : s < -4
      · have Hy := hid (hye.out (decide_eq_true hq))
        clear hsn
        go_wp2
        go_ret
        exact ⟨by rw [Hy.out]; rfl, rfl⟩
      · have hq' : decide (s < -4) = false := by simpa using hq
        have Hn := hid (hsn.out hq')
        clear hye hq
        go_wp2
        go_round
        case rel => exact ⟨k + 1, by omega, by go_num, Hn.out⟩
        case measure => simp [intOf]; omega
    · obtain rfl : k = zs.length := by omega
      rw [List.take_length] at hno
      have hn := hid hno
      clear hno
      go_wp2
      go_ret
      exact ⟨by rw [hn.out]; rfl, rfl⟩

set_option maxRecDepth 100000 in
set_option maxHeartbeats 400000 in
theorem refStands_any (zs : List Int) (x : Int) (a : Option Addr) (cap : Nat) (w : World) (hI : Ints w.heap.size w a zs) (hm : zs.length ≤ maxLen) :
    Calls Try.prog 46 #[.slice a zs.length cap, .int .i64 x] w fun e w' => e = .returned (.bool (Tm.hasB zs x)) ∧ w' = w := by
  unfold maxLen at hm
  go_enter Try.func46, Try.ntmps46
  go_wp2
  go_loop [5] (fun i => ∃ k : Nat, k ≤ zs.length ∧ i = .int .i64 (k : Int) ∧ ∀ j, j < k → zs[j]?.getD 0 ≠ x) (fun i => zs.length - (intOf i).toNat)
  case atStart => exact ⟨0, Nat.zero_le _, rfl, fun j hj => by omega⟩
  case round =>
    obtain ⟨k, hk, rfl, hno⟩ := hrel
    by_cases hlt : k < zs.length
    · have hlt' : (k : Int) < (zs.length : Int) := by omega
      obtain ⟨b, off, rfl, hb, hc⟩ := hI.at (by omega)
      have hck := hc k hlt
      have hsn := hid (has_no hno)
      have hye := hid (@has_yes zs x k hlt)
      clear hc hI hno
      generalize zs[k]?.getD 0 = s at *
      by_cases he : s = x
      · have hb1 : (s == x) = true := by simp [he]
        have He := hid (hye.out he)
        clear he
        go_wp2
        go_ret
        exact ⟨by rw [He.out]; rfl, rfl⟩
      · have hb1 : (s == x) = false := by simpa using he
        have He := hid (hsn.out he)
        clear he
        go_wp2
        go_round
        case rel => exact ⟨k + 1, by omega, by go_num, He.out⟩
        case measure => simp [intOf]; omega
    · obtain rfl : k = zs.length := by omega
      have hn := hid (has_none hno)
      clear hno
      go_wp2
      go_ret
      exact ⟨by rw [hn.out]; rfl, rfl⟩

end Go.Proofs.Ytjaikmlbajdedad

namespace Go.Proofs.Ytjaikmlbajdedad
open Go.Proofs Go.RowKit Go.Shelf Go.Maps

theorem ruleErr_fit {L R : List Int} (h : Tm.fitErr L R ≠ 0) : Tm.ruleErr L R = Tm.fitErr L R := by
  unfold Tm.fitErr at h ⊢
  unfold Tm.ruleErr
  simp only [Tm.firstErr] at h ⊢
  by_cases h1 : Tm.err L = 0
  · rw [if_pos h1] at h ⊢
    rw [if_pos h1]
    by_cases h2 : Tm.err R = 0
    · rw [if_pos h2] at h; exact absurd rfl h
    · rw [if_neg h2, if_neg h2]
  · rw [if_neg h1, if_neg h1]
theorem ruleErr_fit0 {L R : List Int} (h : Tm.fitErr L R = 0) : Tm.ruleErr L R = (if L.any foreignB = true then 3 else if R.any foreignB = true then 3 else if L[0]?.getD 0 < 0 then 1 else if R.any (freeIn L) = true then 4 else 0) := by
  obtain ⟨h1, h2⟩ := Tm.fitErr_ok h
  unfold Tm.ruleErr
  rw [if_pos h1, if_pos h2]
theorem below_drewO {n : Nat} {a b : World} (h : Below n a b) (d : Nat) : Below n a (b.drewN d) := ⟨h.os, h.tape, h.output, h.size, h.block⟩

set_option maxRecDepth 100000 in
set_option maxHeartbeats 2000000 in
theorem rulesError_any (rs : RuleL) (a : Option Addr) (cap : Nat) (w : World) (hI : RulesAt w.heap.size w a rs) :
    Calls Try.prog 21 #[.slice a rs.length cap] w fun e w' => e = .returned (.int .i64 (Tm.rulesErr rs)) ∧ Below w.heap.size w w' := by
  by_cases h8 : 8 < rs.length
  · have h8' : (8 : Int) < (rs.length : Int) := by omega
    have hv : Tm.rulesErr rs = 2 := by unfold Tm.rulesErr; rw [if_pos h8]
    rw [hv]
    clear h8 hv hI
    go_enter Try.func21, Try.ntmps21
    go_wp2
    go_ret
    exact ⟨rfl, Below.refl _ _⟩
  · have h8' : (rs.length : Int) ≤ 8 := by omega
    have hv : Tm.rulesErr rs = Tm.firstRule rs := by unfold Tm.rulesErr; rw [if_neg h8]
    rw [hv]
    clear hv h8
    go_enter Try.func21, Try.ntmps21
    go_wp2
    go_loopw [3] (fun v wr => ∃ k : Nat, k ≤ rs.length ∧ v = .int .i64 (k : Int) ∧ Hid (Tm.firstRule rs = Tm.firstRule (rs.drop k)) ∧ Below w.heap.size w wr) (fun v _ => rs.length - (intOf v).toNat)
    case atStart => exact ⟨0, Nat.zero_le _, rfl, hid rfl, Below.refl _ _⟩
    case round =>
      obtain ⟨k, hk, rfl, hst, hB⟩ := hrel
      obtain ⟨u0, rfl⟩ : ∃ u0, u0 = wr := ⟨wr, rfl⟩
      by_cases hlt : k < rs.length
      · have hlt' : (k : Int) < (rs.length : Int) := by omega
        obtain ⟨b, off, rfl, hb, aL, cL, aR, cR, h1, h2, h3, h4, _⟩ := (hI.below hB) k hlt
        have hs1 := hid (Tm.firstRule_step hlt)
        have hs2 := hid (Tm.firstRule_at hlt)
        obtain ⟨L, hL⟩ : ∃ L, (rs[k]?.getD ([], [])).1 = L := ⟨_, rfl⟩
        obtain ⟨R, hR⟩ : ∃ R, (rs[k]?.getD ([], [])).2 = R := ⟨_, rfl⟩
        rw [hL] at h1 h3 hs1 hs2
        rw [hR] at h2 h4 hs1 hs2
        have hBa : Below u0.heap.size u0 (u0.alloc (.cells #[.slice aL L.length cL, .slice aR R.length cR] 35)) := (Below.refl _ u0).alloc (Nat.le_refl _) _
        have hblk := World.alloc_heap_new u0 (.cells #[.slice aL L.length cL, .slice aR R.length cR] 35)
        have d0 : (u0.alloc (.cells #[.slice aL L.length cL, .slice aR R.length cR] 35)).cell? ⟨u0.heap.size, 0, none⟩ = some (.slice aL L.length cL) := by rw [cell_at hblk]; rfl
        have d1 : (u0.alloc (.cells #[.slice aL L.length cL, .slice aR R.length cR] 35)).cell? ⟨u0.heap.size, 1, none⟩ = some (.slice aR R.length cR) := by rw [cell_at hblk]; rfl
        have hltB : u0.heap.size < (u0.alloc (.cells #[.slice aL L.length cL, .slice aR R.length cR] 35)).heap.size := by simp
        have iL := ((h3.mono hB.size).below hBa).mono hBa.size
        have iR := ((h4.mono hB.size).below hBa).mono hBa.size
        have hBw := hB.trans (hBa.mono hB.size)
        have C1 := hid (twoErrors_any L R aL aR cL cR (u0.alloc (.cells #[.slice aL L.length cL, .slice aR R.length cR] 35)) iL iR)
        clear hL hR h3 h4 hI hblk
        by_cases hf : Tm.fitErr L R = 0
        · obtain ⟨k1, k2⟩ := Tm.fitErr_ok hf
          have lL := Tm.err_len k1
          have lR := Tm.err_len k2
          have pL := Tm.err_pos k1
          have pL' : (0 : Int) < (L.length : Int) := by omega
          have lR' : (R.length : Int) ≤ 30 := by omega
          have hre := ruleErr_fit0 hf
          rw [hf] at C1
          have C3 := hid (refOwn_any L aL cL (u0.alloc (.cells #[.slice aL L.length cL, .slice aR R.length cR] 35)) iL (by unfold maxLen; omega))
          have C4 := hid (refOwn_any R aR cR (u0.alloc (.cells #[.slice aL L.length cL, .slice aR R.length cR] 35)) iR (by unfold maxLen; omega))
          obtain ⟨bl, ol, rfl, _, cl⟩ := iL.at pL
          have c0 := cl 0 pL
          simp only [Nat.add_zero] at c0
          clear cl hf k1 k2
          have HL := hid (fun W (hW : Below (u0.alloc (.cells #[.slice (some ⟨bl, ol, none⟩) L.length cL, .slice aR R.length cR] 35)).heap.size (u0.alloc (.cells #[.slice (some ⟨bl, ol, none⟩) L.length cL, .slice aR R.length cR] 35)) W) => (iL.below hW).mono hW.size)
          have HR := hid (fun W (hW : Below (u0.alloc (.cells #[.slice (some ⟨bl, ol, none⟩) L.length cL, .slice aR R.length cR] 35)).heap.size (u0.alloc (.cells #[.slice (some ⟨bl, ol, none⟩) L.length cL, .slice aR R.length cR] 35)) W) => (iR.below hW).mono hW.size)
          have D0 := hid (fun W (hW : Below (u0.alloc (.cells #[.slice (some ⟨bl, ol, none⟩) L.length cL, .slice aR R.length cR] 35)).heap.size (u0.alloc (.cells #[.slice (some ⟨bl, ol, none⟩) L.length cL, .slice aR R.length cR] 35)) W) => (hW.cell (p := ⟨u0.heap.size, 0, none⟩) hltB).trans d0)
          have D1 := hid (fun W (hW : Below (u0.alloc (.cells #[.slice (some ⟨bl, ol, none⟩) L.length cL, .slice aR R.length cR] 35)).heap.size (u0.alloc (.cells #[.slice (some ⟨bl, ol, none⟩) L.length cL, .slice aR R.length cR] 35)) W) => (hW.cell (p := ⟨u0.heap.size, 1, none⟩) hltB).trans d1)
          clear iL iR
          cases q1 : L.any foreignB with
          | true =>
            rw [q1, if_pos rfl] at hre
            rw [q1] at C3
            have Hs := hid ((hs2.out (by rw [hre]; decide)).trans hre)
            clear q1 hre hs1 hs2 C4
            go_wp2_with (first
              | (go_at_call 44; refine C1.out.mono ?_; clear C1; rintro e w2 ⟨rfl, rfl⟩)
              | (go_at_call 45; refine C3.out.mono ?_; clear C3; rintro e w2 ⟨rfl, rfl⟩))
            go_ret
            exact ⟨ret_int (hst.out.trans Hs.out).symm, hBw⟩
          | false =>
            rw [q1, if_neg (by decide)] at hre
            rw [q1] at C3
            cases q2 : R.any foreignB with
            | true =>
              rw [q2, if_pos rfl] at hre
              rw [q2] at C4
              have Hs := hid ((hs2.out (by rw [hre]; decide)).trans hre)
              clear q1 q2 hre hs1 hs2
              go_wp2_with (first
                | (go_at_call 44; refine C1.out.mono ?_; clear C1; rintro e w2 ⟨rfl, rfl⟩)
                | (go_at_call_of 45 (Value.slice (some ⟨bl, ol, none⟩) L.length cL); refine C3.out.mono ?_; clear C3; rintro e w2 ⟨rfl, rfl⟩)
                | (go_at_call_of 45 (Value.slice aR R.length cR); refine C4.out.mono ?_; clear C4; rintro e w2 ⟨rfl, rfl⟩))
              go_ret
              exact ⟨ret_int (hst.out.trans Hs.out).symm, hBw⟩
            | false =>
              rw [q2, if_neg (by decide)] at hre
              rw [q2] at C4
              clear q1 q2
              generalize L[0]?.getD 0 = s0 at *
              by_cases hs : s0 < 0
              · rw [if_pos hs] at hre
                have Hs := hid ((hs2.out (by rw [hre]; decide)).trans hre)
                clear hre hs1 hs2
                go_wp2_with (first
                  | (go_at_call 44; refine C1.out.mono ?_; clear C1; rintro e w2 ⟨rfl, rfl⟩)
                  | (go_at_call_of 45 (Value.slice (some ⟨bl, ol, none⟩) L.length cL); refine C3.out.mono ?_; clear C3; rintro e w2 ⟨rfl, rfl⟩)
                  | (go_at_call_of 45 (Value.slice aR R.length cR); refine C4.out.mono ?_; clear C4; rintro e w2 ⟨rfl, rfl⟩))
                go_ret
                exact ⟨ret_int (hst.out.trans Hs.out).symm, hBw⟩
              · rw [if_neg hs] at hre
                have hs' : decide (s0 < 0) = false := by simpa using hs
                have Hre := hid hre
                clear hre hs
                go_wp2_with (first
                  | (go_at_call 44; refine C1.out.mono ?_; clear C1; rintro e w2 ⟨rfl, rfl⟩)
                  | (go_at_call_of 45 (Value.slice (some ⟨bl, ol, none⟩) L.length cL); refine C3.out.mono ?_; clear C3; rintro e w2 ⟨rfl, rfl⟩)
                  | (go_at_call_of 45 (Value.slice aR R.length cR); refine C4.out.mono ?_; clear C4; rintro e w2 ⟨rfl, rfl⟩))
                go_loopw [6] (fun v W => ∃ m : Nat, m ≤ R.length ∧ v = .int .i64 (m : Int) ∧ Hid ((R.take m).any (freeIn L) = false) ∧ Below (u0.alloc (.cells #[.slice (some ⟨bl, ol, none⟩) L.length cL, .slice aR R.length cR] 35)).heap.size (u0.alloc (.cells #[.slice (some ⟨bl, ol, none⟩) L.length cL, .slice aR R.length cR] 35)) W) (fun v _ => R.length - (intOf v).toNat)
                case atStart => exact ⟨0, Nat.zero_le _, rfl, hid (by simp), Below.refl _ _⟩
                case round =>
                  obtain ⟨m, hm, rfl, hfr, hBm⟩ := hrel
                  have d0 := D0.out wr hBm
                  have d1 := D1.out wr hBm
                  by_cases hm2 : m < R.length
                  · have hm2' : (m : Int) < (R.length : Int) := by omega
                    obtain ⟨br, or', eR, _, cr⟩ := (HR.out wr hBm) m hm2
                    rw [eR] at d1
                    have hsn := hid (any_snoc (p := freeIn L) hm2 hfr.out)
                    have hye := hid (any_yes (p := freeIn L) hm2)
                    have hSt := hid (fun W (hW : Below (u0.alloc (.cells #[.slice (some ⟨bl, ol, none⟩) L.length cL, .slice aR R.length cR] 35)).heap.size (u0.alloc (.cells #[.slice (some ⟨bl, ol, none⟩) L.length cL, .slice aR R.length cR] 35)) W) => refStands_any L (R[m]?.getD 0) (some ⟨bl, ol, none⟩) cL W (HL.out W hW) (by unfold maxLen; omega))
                    generalize R[m]?.getD 0 = x at *
                    by_cases hx : x < 0
                    · cases hq : Tm.hasB L x with
                      | true =>
                        rw [hq] at hSt
                        have hz : freeIn L x = false := by unfold freeIn; rw [hq]; simp
                        have Hn := hid (hsn.out hz)
                        clear hz hq hsn hye
                        go_wp2_with fail
                        go_quiet ((go_at_call 46; exact Calls.quiet_of_same (hSt.out _ (below_drewO hBm _))))
                        go_wp2
                        go_roundw
                        case rel => exact ⟨m + 1, by omega, by go_num, hid Hn.out, below_drewO hBm _⟩
                        case measure => simp [intOf]; omega
                      | false =>
                        rw [hq] at hSt
                        have hz : freeIn L x = true := by unfold freeIn; rw [hq, decide_eq_true hx]; rfl
                        have hre := Hre.out
                        rw [hye.out hz, if_pos rfl] at hre
                        have Hs := hid ((hs2.out (by rw [hre]; decide)).trans hre)
                        clear hz hq hsn hye hre
                        go_wp2_with fail
                        go_quiet ((go_at_call 46; exact Calls.quiet_of_same (hSt.out _ (below_drewO hBm _))))
                        go_wp2
                        go_ret
                        exact ⟨ret_int (hst.out.trans Hs.out).symm, hBw.trans ((below_drewO hBm _).mono hBw.size)⟩
                    · have hx' : decide (x < 0) = false := by simpa using hx
                      have hz : freeIn L x = false := by unfold freeIn; rw [hx']; rfl
                      have Hn := hid (hsn.out hz)
                      clear hz hsn hye hx
                      go_wp2_with fail
                      go_quiet (fail)
                      go_wp2
                      go_roundw
                      case rel => exact ⟨m + 1, by omega, by go_num, hid Hn.out, below_drewO hBm _⟩
                      case measure => simp [intOf]; omega
                  · obtain rfl : m = R.length := by omega
                    rw [List.take_length] at hfr
                    have hre := Hre.out
                    rw [hfr.out, if_neg (by decide)] at hre
                    have Hs := hid (hs1.out hre)
                    clear hre
                    go_wp2
                    go_roundw
                    case rel => exact ⟨k + 1, by omega, by go_num, hid (hst.out.trans Hs.out), hBw.trans (hBm.mono hBw.size)⟩
                    case measure => simp [intOf]; omega
        · have hn : (Tm.fitErr L R != 0) = true := by simpa using hf
          have hre := ruleErr_fit hf
          have Hs := hid ((hs2.out (by rw [hre]; exact hf)).trans hre)
          clear hf hre hs1 hs2
          generalize Tm.fitErr L R = q at *
          go_wp2_with (first
            | (go_at_call 44; refine C1.out.mono ?_; clear C1; rintro e w2 ⟨rfl, rfl⟩))
          go_ret
          exact ⟨ret_int (hst.out.trans Hs.out).symm, hBw⟩
      · obtain rfl : k = rs.length := by omega
        go_wp2
        go_ret
        exact ⟨by rw [hst.out, List.drop_length]; rfl, hB⟩

end Go.Proofs.Ytjaikmlbajdedad

namespace Go.Proofs.Ytjaikmlbajdedad
open Go.Proofs Go.RowKit Go.Shelf Go.Maps

/-- What a term is, A telling what symbols are, vs what variables are. -/
def Tm.val (A : Int → Nat → Nat → Nat) (vs : Nat → Nat) (x : List Int) : Nat :=
  if Tm.sym x < 0 then vs (-1 - Tm.sym x).toNat
  else A (Tm.sym x) (if _h : 0 < Tm.room (Tm.sym x) then Tm.val A vs (Tm.kid x 0) else 0) (if _h : 1 < Tm.room (Tm.sym x) then Tm.val A vs (Tm.kid x 1) else 0)
termination_by x.length
decreasing_by
  · exact Tm.kid_short (by assumption)
  · exact Tm.kid_short (by assumption)
theorem Tm.val_var {A : Int → Nat → Nat → Nat} {vs : Nat → Nat} {x : List Int} (h : Tm.sym x < 0) : Tm.val A vs x = vs (-1 - Tm.sym x).toNat := by rw [Tm.val, if_pos h]
theorem Tm.val_sym {A : Int → Nat → Nat → Nat} {vs : Nat → Nat} {x : List Int} (h : ¬ Tm.sym x < 0) : Tm.val A vs x = A (Tm.sym x) (if 0 < Tm.room (Tm.sym x) then Tm.val A vs (Tm.kid x 0) else 0) (if 1 < Tm.room (Tm.sym x) then Tm.val A vs (Tm.kid x 1) else 0) := by
  rw [Tm.val, if_neg h]
  simp only [dite_eq_ite]
/-- Two terms with the same sign and parts that are the same there. -/
theorem Tm.val_same {A : Int → Nat → Nat → Nat} {vs us : Nat → Nat} {x y : List Int} (h0 : ¬ Tm.sym x < 0) (hs : Tm.sym x = Tm.sym y) (hk : ∀ m, m < Tm.room (Tm.sym x) → Tm.val A vs (Tm.kid x m) = Tm.val A us (Tm.kid y m)) : Tm.val A vs x = Tm.val A us y := by
  rw [Tm.val_sym (x := x) h0, Tm.val_sym (x := y) (vs := us) (by rw [← hs]; exact h0), ← hs]
  congr 1
  · by_cases h : 0 < Tm.room (Tm.sym x)
    · rw [if_pos h, if_pos h, hk 0 h]
    · rw [if_neg h, if_neg h]
  · by_cases h : 1 < Tm.room (Tm.sym x)
    · rw [if_pos h, if_pos h, hk 1 h]
    · rw [if_neg h, if_neg h]
theorem Tm.val_lt {A : Int → Nat → Nat → Nat} {vs : Nat → Nat} (hA : ∀ s x y, A s x y < 3) (hv : ∀ i, vs i < 3) (x : List Int) : Tm.val A vs x < 3 := by
  by_cases h : Tm.sym x < 0
  · rw [Tm.val_var h]; exact hv _
  · rw [Tm.val_sym h]; exact hA _ _ _
theorem Tm.var_only {a : List Int} (ha : Tm.err a = 0) (h : Tm.sym a < 0) : a = [Tm.sym a] := by
  have hv := Tm.view ha
  rw [Tm.room_neg h] at hv
  simpa [Tm.kids] using hv
theorem Tm.sym_known {a : List Int} (ha : Tm.err a = 0) : -8 ≤ Tm.sym a := Tm.known8 ha 0 (Tm.err_pos ha)
/-- What variables become, there. -/
theorem Tm.val_applied {A : Int → Nat → Nat → Nat} {vs : Nat → Nat} {ss : List (List Int)} (hss : Terms ss) : ∀ (n : Nat) (a : List Int), a.length < n → Tm.err a = 0 → Tm.val A vs (Tm.applied ss a) = Tm.val A (fun i => Tm.val A vs (ss[i]?.getD [])) a := by
  intro n
  induction n with
  | zero => intro a h; omega
  | succ n ih =>
    intro a hn ha
    by_cases h0 : Tm.sym a < 0
    · rw [Tm.val_var h0]
      have e : Tm.applied ss a = ss[(-1 - Tm.sym a).toNat]?.getD [] := by
        conv => lhs; rw [Tm.var_only ha h0]
        rw [Tm.applied_cons]
        unfold Tm.piece
        rw [if_pos h0]
        simp [Tm.applied]
      rw [e]
    · obtain ⟨e1, e2⟩ := Tm.applied_view hss ha (by omega)
      refine Tm.val_same (by rw [e1]; exact h0) e1 fun m hm => ?_
      rw [e1] at hm
      rw [e2 m hm]
      exact ih _ (by have := Tm.kid_short hm; omega) (Tm.kid_err ha hm)
/-- What is put at a place, there. -/
theorem Tm.val_put {A : Int → Nat → Nat → Nat} {vs : Nat → Nat} {u v : List Int} (huv : Tm.val A vs u = Tm.val A vs v) (hu : Tm.err u = 0) (hv : Tm.err v = 0) : ∀ (n : Nat) (t : List Int) (k : Nat), t.length < n → Tm.err t = 0 → k < t.length → Tm.val A vs (Tm.put t k u) = Tm.val A vs (Tm.put t k v) := by
  intro n
  induction n with
  | zero => intro t k h; omega
  | succ n ih =>
    intro t k hn ht hk
    by_cases h0 : k = 0
    · subst h0; rw [Tm.put_zero ht, Tm.put_zero ht]; exact huv
    · obtain ⟨m, hm, h1, h2⟩ := Tm.place_kid ht (by omega) hk
      obtain ⟨su, hkl, ku⟩ := Tm.put_view ht hu hm h1 h2
      obtain ⟨sv, _, kv⟩ := Tm.put_view ht hv hm h1 h2
      have hs0 : 0 ≤ Tm.sym t := Tm.Gt.pos (r := fun _ => 0) (.eq t _ m hm rfl)
      refine Tm.val_same (by rw [su]; omega) (by rw [su, sv]) fun l hl => ?_
      rw [su] at hl
      rw [ku l hl, kv l hl]
      by_cases el : l = m
      · rw [if_pos el, if_pos el]
        exact ih _ _ (by have := Tm.kid_short hm; omega) (Tm.kid_err ht hm) hkl
      · rw [if_neg el, if_neg el]
/-- Only the variables that stand there count. -/
theorem Tm.val_vars {A : Int → Nat → Nat → Nat} {vs us : Nat → Nat} {d : Nat} (hvu : ∀ i, i < d → vs i = us i) : ∀ (n : Nat) (a : List Int), a.length < n → Tm.err a = 0 → (∀ s ∈ a, s < 0 → -s ≤ (d : Int)) → Tm.val A vs a = Tm.val A us a := by
  intro n
  induction n with
  | zero => intro a h; omega
  | succ n ih =>
    intro a hn ha hd
    by_cases h0 : Tm.sym a < 0
    · rw [Tm.val_var h0, Tm.val_var h0]
      have := hd _ (Tm.sym_mem (Tm.err_pos ha)) h0
      exact hvu _ (by omega)
    · refine Tm.val_same h0 rfl fun m hm => ?_
      exact ih _ (by have := Tm.kid_short hm; omega) (Tm.kid_err ha hm) (fun s hs => hd s (List.mem_of_mem_drop (List.mem_of_mem_take hs)))
/-- A rule holds, whatever variables are. -/
def Tm.Holds (A : Int → Nat → Nat → Nat) (a b : List Int) : Prop := ∀ vs : Nat → Nat, (∀ i, vs i < 3) → Tm.val A vs a = Tm.val A vs b
theorem Tm.Step1.val {A : Int → Nat → Nat → Nat} {vs : Nat → Nat} {L R t u : List Int} {a : Nat} {m : Asg} (h : Tm.Step1 L R t u a m) (hL : Tm.err L = 0) (hR : Tm.err R = 0) (ht : Tm.err t = 0) (ha : a < t.length) (hA : ∀ s x y, A s x y < 3) (hv : ∀ i, vs i < 3) (hh : Tm.Holds A L R) : Tm.val A vs t = Tm.val A vs u := by
  obtain ⟨hs, e1, e2, _⟩ := h.parts hL hR ht ha
  have h1 : Tm.val A vs (Tm.applied (Tm.fitL m 8) L) = Tm.val A vs (Tm.applied (Tm.fitL m 8) R) := by
    rw [Tm.val_applied hs _ L (Nat.lt_succ_self _) hL, Tm.val_applied hs _ R (Nat.lt_succ_self _) hR]
    exact hh _ (fun i => Tm.val_lt hA hv _)
  have h2 := Tm.val_put h1 (by rw [e1]; exact Tm.part_err ht ha) e2 _ t a (Nat.lt_succ_self _) ht ha
  rw [e1, Tm.put_self, ← h.goes] at h2
  exact h2
/-- A step of a list of rules that all hold. -/
theorem Tm.step_val {A : Int → Nat → Nat → Nat} {vs : Nat → Nat} {rs : RuleL} {t : List Int} (hA : ∀ s x y, A s x y < 3) (hv : ∀ i, vs i < 3) (hw : ∀ k, k < rs.length → Tm.Holds A (rs[k]?.getD ([], [])).1 (rs[k]?.getD ([], [])).2) (h2 : Tm.stepErr rs t = 0) {j : Nat} (hj : j < (Tm.stepVal rs t).length) :
    Tm.val A vs t = Tm.val A vs ((Tm.stepVal rs t)[j]?.getD (0, 0, [])).2.2 := by
  obtain ⟨hru, ht, hall⟩ := Tm.stepErr_term h2
  have hvv : Tm.stepVal rs t = Tm.allL rs t t.length := by unfold Tm.stepVal; rw [if_pos h2]
  rw [hvv] at hj ⊢
  obtain ⟨x, hx⟩ : ∃ x, (Tm.allL rs t t.length)[j]?.getD (0, 0, []) = x := ⟨_, rfl⟩
  have hm : x ∈ Tm.allL rs t t.length := by rw [← hx, List.getElem?_eq_getElem hj, Option.getD_some]; exact List.getElem_mem hj
  rw [hx]
  obtain ⟨ha, hk, hb, hu⟩ := Tm.allL_mem _ hm
  have he := Tm.allE_all _ hall _ ha _ hk hb
  obtain ⟨eL, eR, _⟩ := Tm.ruleErr_ok ((Tm.rulesErr_ok hru).2 _ hk)
  obtain ⟨m, hs⟩ := Tm.hit_step hru ht ha hk hb he
  rw [← hu] at hs
  exact hs.val eL eR ht ha hA hv (hw _ hk)
theorem Tm.runs_val {A : Int → Nat → Nat → Nat} {vs : Nat → Nat} {rs : RuleL} (hA : ∀ s x y, A s x y < 3) (hv : ∀ i, vs i < 3) (hw : ∀ k, k < rs.length → Tm.Holds A (rs[k]?.getD ([], [])).1 (rs[k]?.getD ([], [])).2) {t x : List Int} {n : Nat} (h : Tm.Runs rs t n x) : Tm.val A vs t = Tm.val A vs x := by
  induction h with
  | stop _ _ => rfl
  | go h hn hr ih => exact (Tm.step_val hA hv hw h hn).trans ih

/-! Numbers in threes. -/
def asg (n x : Nat) (i : Nat) : Nat := if i < n then x / 3 ^ i % 3 else 0
theorem asg_lt (n x i : Nat) : asg n x i < 3 := by unfold asg; split <;> omega
theorem asg_all : ∀ (n : Nat) (vs : Nat → Nat), (∀ i, vs i < 3) → ∃ x, x < 3 ^ n ∧ ∀ i, i < n → asg n x i = vs i := by
  intro n
  induction n with
  | zero => intro vs _; exact ⟨0, by simp, fun i hi => by omega⟩
  | succ n ih =>
    intro vs hv
    obtain ⟨x, hx, hd⟩ := ih (fun i => vs (i + 1)) (fun i => hv _)
    have h0 := hv 0
    refine ⟨vs 0 + 3 * x, by rw [Nat.pow_succ]; omega, fun i hi => ?_⟩
    unfold asg
    rw [if_pos hi]
    cases i with
    | zero => simp only [Nat.pow_zero, Nat.div_one]; omega
    | succ i =>
      have h1 := hd i (by omega)
      unfold asg at h1
      rw [if_pos (by omega)] at h1
      rw [show 3 ^ (i + 1) = 3 * 3 ^ i by rw [Nat.pow_succ, Nat.mul_comm], ← Nat.div_div_eq_div_mul, show (vs 0 + 3 * x) / 3 = x by omega]
      exact h1
/-- Are both the same, whatever their variables are? -/
def Tm.holdsB (A : Int → Nat → Nat → Nat) (a b : List Int) (n : Nat) : Bool := decide (∀ x, x < 3 ^ n → Tm.val A (asg n x) a = Tm.val A (asg n x) b)
theorem Tm.holdsB_iff {A : Int → Nat → Nat → Nat} {a b : List Int} {n : Nat} (ha : Tm.err a = 0) (hb : Tm.err b = 0) (da : ∀ s ∈ a, s < 0 → -s ≤ (n : Int)) (db : ∀ s ∈ b, s < 0 → -s ≤ (n : Int)) : Tm.holdsB A a b n = true ↔ Tm.Holds A a b := by
  unfold Tm.holdsB
  rw [decide_eq_true_eq]
  constructor
  · intro h vs hv
    obtain ⟨x, hx, hd⟩ := asg_all n vs hv
    have h1 := h x hx
    rw [Tm.val_vars hd _ a (Nat.lt_succ_self _) ha da, Tm.val_vars hd _ b (Nat.lt_succ_self _) hb db] at h1
    exact h1
  · intro h x _
    exact h _ (asg_lt n x)

end Go.Proofs.Ytjaikmlbajdedad

namespace Go.Proofs.Ytjaikmlbajdedad
open Go.Proofs Go.RowKit Go.Shelf Go.Maps

def dpN (t : List Int) : Nat := t.foldl (fun n s => max n (-s).toNat) 0
theorem dpN_snoc {t : List Int} {k : Nat} (h : k < t.length) : dpN (t.take (k + 1)) = max (dpN (t.take k)) (-(t[k]?.getD 0)).toNat := by
  unfold dpN
  rw [take_snoc h, List.foldl_append]
  rfl
theorem dpN_le {t : List Int} (h : ∀ k, k < t.length → -8 ≤ t[k]?.getD 0) : ∀ k, k ≤ t.length → dpN (t.take k) ≤ 8 := by
  intro k
  induction k with
  | zero => intro _; simp [dpN]
  | succ k ih =>
    intro hk
    rw [dpN_snoc (by omega)]
    have h1 := ih (by omega)
    have h2 := h k (by omega)
    omega
theorem dpN_in {t : List Int} : ∀ k, k ≤ t.length → ∀ s ∈ t.take k, -s ≤ (dpN (t.take k) : Int) := by
  intro k
  induction k with
  | zero => intro _ s hs; simp at hs
  | succ k ih =>
    intro hk s hs
    rw [dpN_snoc (by omega)]
    rw [take_snoc (by omega), List.mem_append] at hs
    rcases hs with hs | hs
    · have := ih (by omega) s hs
      omega
    · simp only [List.mem_cons, List.not_mem_nil, or_false] at hs
      subst hs
      omega

set_option maxRecDepth 100000 in
set_option maxHeartbeats 1000000 in
theorem deepest_any (t : List Int) (a : Option Addr) (c : Nat) (w : World) (ht : Tm.err t = 0) (hI : Ints w.heap.size w a t) :
    Calls Try.prog 49 #[.slice a t.length c] w fun e w' => e = .returned (.int .i64 (dpN t : Int)) ∧ w' = w := by
  have l30 := Tm.err_len ht
  have l30' : (t.length : Int) ≤ 30 := by omega
  have k8 := hid (Tm.known8 ht)
  have k6 := hid (fun k (hk : k < t.length) => Tm.known_lt (Tm.all_at (Tm.err_all ht) hk))
  clear ht
  go_enter Try.func49, Try.ntmps49
  go_wp2
  go_loop [3, 4] (fun n i => ∃ k : Nat, k ≤ t.length ∧ i = .int .i64 (k : Int) ∧ n = .int .i64 (dpN (t.take k) : Int)) (fun _ i => t.length - (intOf i).toNat)
  case atStart => exact ⟨0, Nat.zero_le _, rfl, rfl⟩
  case round =>
    obtain ⟨k, hk, rfl, rfl⟩ := hrel
    by_cases hlt : k < t.length
    · have hlt' : (k : Int) < (t.length : Int) := by omega
      obtain ⟨b, off, rfl, hb, hc⟩ := hI.at (by omega)
      have hck := hc k hlt
      have hs1 := k8.out k hlt
      have hs2 := k6.out k hlt
      have hsn := hid (dpN_snoc hlt)
      have hdl := dpN_le k8.out k (by omega)
      clear hc
      generalize t[k]?.getD 0 = s at *
      generalize dpN (t.take k) = d at *
      have hmx : max (d : Int) (-s) = ((max d (-s).toNat : Nat) : Int) := by omega
      go_wp2
      go_round
      case rel => exact ⟨k + 1, by omega, by go_num, by rw [hsn.out, ← hmx]; go_num⟩
      case measure => simp [intOf]; omega
    · obtain rfl : k = t.length := by omega
      rw [List.take_length]
      go_wp2
      go_ret
      exact ⟨rfl, rfl⟩

end Go.Proofs.Ytjaikmlbajdedad
