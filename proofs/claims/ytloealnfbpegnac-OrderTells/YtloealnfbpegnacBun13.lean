/-
  haspref.AboveOf.
-/
import Derived.Test.YtloealnfbpegnacBun12
namespace Go.Proofs.Ytloealnfbpegnac
open Go.Proofs Go.RowKit Go.Shelf Go.Maps

theorem aboveErr_fit {rk za zb : List Int} (h : Tm.rankErr rk = 0) : Tm.aboveErr rk za zb = Tm.fitErr za zb := by
  unfold Tm.aboveErr Tm.fitErr
  rw [if_pos h]
  simp only [Tm.firstErr]
  by_cases h1 : Tm.err za = 0
  · by_cases h2 : Tm.err zb = 0
    · simp [h1, h2]
    · simp [h1, h2]
  · simp [h1]

set_option maxRecDepth 100000 in
set_option maxHeartbeats 1000000 in
theorem aboveOf_any (rk za zb : List Int) (ar aa ab : Option Addr) (cr ca cb : Nat) (w : World) (hR : Ints w.heap.size w ar rk) (hA : Ints w.heap.size w aa za) (hB : Ints w.heap.size w ab zb) (hca : za.length ≤ ca) (hca' : ca ≤ maxLen) (hcb : zb.length ≤ cb) (hcb' : cb ≤ maxLen) :
    Calls Try.prog 16 #[.slice ar rk.length cr, .slice aa za.length ca, .slice ab zb.length cb] w fun e w' => e = .returned (.tuple #[.bool (Tm.aboveVal rk za zb), .int .i64 (Tm.aboveErr rk za zb)]) ∧ Below w.heap.size w w' := by
  have hC1 := rankError_any rk ar cr w hR
  by_cases h1 : Tm.rankErr rk = 0
  · rw [h1] at hC1
    have hC2 := twoErrors_any za zb aa ab ca cb w hA hB
    have he := aboveErr_fit (za := za) (zb := zb) h1
    rw [he]
    by_cases h2 : Tm.fitErr za zb = 0
    · rw [h2] at hC2 ⊢
      rw [h2] at he
      obtain ⟨_, k2, k3⟩ := Tm.aboveErr_ok he
      have hv : Tm.aboveVal rk za zb = Tm.ab rk za zb 0 0 := by
        unfold Tm.aboveVal Tm.ab
        rw [if_pos he, Tm.part_all0 (Tm.err_run k2), Tm.part_all0 (Tm.err_run k3)]
      rw [hv]
      have hC3 := refabove_any rk za zb ar aa ab cr ca cb w hR hA hB hca hca' hcb hcb' k2 k3 (rank_six h1)
      clear h1 h2 he hv hR hA hB hca hcb hca' hcb' k2 k3
      generalize Tm.ab rk za zb 0 0 = q at *
      go_enter Try.func16, Try.ntmps16
      go_wp2_with fail
      refine hC1.mono ?_
      rintro e w ⟨rfl, rfl⟩
      go_wp2_with fail
      refine hC2.mono ?_
      rintro e w ⟨rfl, rfl⟩
      go_wp2_with fail
      refine hC3.mono ?_
      rintro e w3 ⟨rfl, b3⟩
      go_wp2
      go_ret2
      exact ⟨rfl, b3⟩
    · have hv : Tm.aboveVal rk za zb = false := by unfold Tm.aboveVal; rw [he, if_neg h2]
      have hn : (Tm.fitErr za zb != 0) = true := by simpa using h2
      rw [hv]
      clear h1 h2 he hv hca hcb hca' hcb'
      generalize Tm.fitErr za zb = q at *
      go_enter Try.func16, Try.ntmps16
      go_wp2_with fail
      refine hC1.mono ?_
      rintro e w ⟨rfl, rfl⟩
      go_wp2_with fail
      refine hC2.mono ?_
      rintro e w ⟨rfl, rfl⟩
      go_wp2
      go_ret2
      exact ⟨rfl, Below.refl _ _⟩
  · have he : Tm.aboveErr rk za zb = Tm.rankErr rk := by unfold Tm.aboveErr; rw [if_neg h1]
    have hv : Tm.aboveVal rk za zb = false := by unfold Tm.aboveVal; rw [he, if_neg h1]
    have hn : (Tm.rankErr rk != 0) = true := by simpa using h1
    rw [he, hv]
    clear h1 he hv hca hcb hca' hcb'
    generalize Tm.rankErr rk = q at *
    go_enter Try.func16, Try.ntmps16
    go_wp2_with fail
    refine hC1.mono ?_
    rintro e w ⟨rfl, rfl⟩
    go_wp2
    go_ret2
    exact ⟨rfl, Below.refl _ _⟩

end Go.Proofs.Ytloealnfbpegnac
