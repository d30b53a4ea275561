/-
  hasplaw.choose: of n things, one.
-/
import Derived.Test.YtbelnlemjcoifaaTrue1
namespace Go.Proofs.Ytbelnlemjcoifaa
open Go.Proofs Go.RowKit Go.Shelf

set_option maxHeartbeats 400000 in
/-- A number below n. -/
theorem choose_any (c : Int) (n : Nat) (hc : (Lit.int .i64 c).wf = true) (h0 : 0 < n) (h1 : n ≤ 1000) (w : World) : Calls Try.prog 24 #[.int .i64 c, .int .i64 (n : Int)] w fun e w' => (∃ j : Nat, j < n ∧ e = .returned (.int .i64 (j : Int))) ∧ w' = w := by
  have hx : -9223372036854775808 ≤ c ∧ c ≤ 9223372036854775807 := by simpa [Lit.wf, IntKind.min, IntKind.max, IntKind.signed, IntKind.bits] using hc
  obtain ⟨hx1, hx2⟩ := hx
  clear hc
  have hn0 : (0 : Int) < (n : Int) := by omega
  have hn1 : (n : Int) ≤ 1000 := by omega
  have hnz : ((n : Int) == 0) = false := by simp; omega
  by_cases hneg : c < 0
  · go_enter Try.func24, Try.ntmps24
    go_wp2
    go_ret
    have hm := Int.emod_lt_of_pos (-(c + 1)) hn0
    have hm0 := Int.emod_nonneg (-(c + 1)) (b := (n : Int)) (by omega)
    refine ⟨⟨((-(c + 1)) % (n : Int)).toNat, by omega, ret_int ?_⟩, rfl⟩
    rw [Int.toNat_of_nonneg hm0, ← Int.neg_tmod, Int.tmod_eq_emod_of_nonneg (by omega)]
  · go_enter Try.func24, Try.ntmps24
    go_wp2
    go_ret
    have hm := Int.emod_lt_of_pos c hn0
    have hm0 := Int.emod_nonneg c (b := (n : Int)) (by omega)
    refine ⟨⟨(c % (n : Int)).toNat, by omega, ret_int ?_⟩, rfl⟩
    rw [Int.toNat_of_nonneg hm0]

end Go.Proofs.Ytbelnlemjcoifaa
