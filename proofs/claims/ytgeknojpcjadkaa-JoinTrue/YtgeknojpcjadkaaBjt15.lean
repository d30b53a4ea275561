/-
  What RulesTrue leans on: sums, and what stands in the term that a step comes to. · norm.Form, norm.Is. · hasplaw.normBegun.
-/
import Derived.Test.YtgeknojpcjadkaaBjt10
import Derived.Test.YtgeknojpcjadkaaBjt14
import Derived.Test.YtgeknojpcjadkaaBjt9
namespace Go.Proofs.Ytgeknojpcjadkaa
open Go.Proofs Go.RowKit Go.Shelf Go.Maps

theorem Tm.stepErr_term {rs : RuleL} {t : List Int} (h : Tm.stepErr rs t = 0) : Tm.rulesErr rs = 0 ∧ Tm.err t = 0 ∧ Tm.allE rs t t.length = 0 := by
  unfold Tm.stepErr at h
  by_cases h1 : Tm.rulesErr rs = 0
  · rw [if_pos h1] at h
    by_cases h2 : Tm.err t = 0
    · rw [if_pos h2] at h; exact ⟨h1, h2, h⟩
    · rw [if_neg h2] at h; exact absurd h h2
  · rw [if_neg h1] at h; exact absurd h h1
theorem len_no {n : Nat} (h : n ≠ 0) : ((n : Int) == 0) = false := by rw [beq_eq_false_iff_ne]; omega
/-- Is the sign a symbol, or among the first j of t? -/
def isB (s : Int) (t : List Int) (j : Nat) : Bool := decide (0 ≤ s) || (t.take j).any fun x => x == s
end Go.Proofs.Ytgeknojpcjadkaa

namespace Go.Proofs.Ytgeknojpcjadkaa
open Go.Proofs Go.RowKit Go.Shelf Go.Maps

/-- G1: always the first of the steps, k having been taken. -/
def Tm.fm (rs : RuleL) : Nat → List Int → Nat → List Int × Nat × Int
  | 0, _, _ => ([], 0, 2)
  | f + 1, t, k => if Tm.stepErr rs t = 0 then (match Tm.stepVal rs t with | [] => (t, k, 0) | s :: _ => Tm.fm rs f s.2.2 (k + 1)) else ([], 0, Tm.stepErr rs t)
def Tm.form (rs : RuleL) (t : List Int) : List Int × Nat × Int := Tm.fm rs 61 t 0
theorem Tm.fm_bad {rs : RuleL} {t : List Int} {f k : Nat} (h : Tm.stepErr rs t ≠ 0) : Tm.fm rs (f + 1) t k = ([], 0, Tm.stepErr rs t) := by rw [Tm.fm, if_neg h]
theorem Tm.fm_end {rs : RuleL} {t : List Int} {f k : Nat} (h : Tm.stepErr rs t = 0) (hn : (Tm.stepVal rs t).length = 0) : Tm.fm rs (f + 1) t k = (t, k, 0) := by
  rw [Tm.fm, if_pos h, List.eq_nil_of_length_eq_zero hn]
theorem Tm.fm_go {rs : RuleL} {t : List Int} {f k : Nat} (h : Tm.stepErr rs t = 0) (hn : 0 < (Tm.stepVal rs t).length) : Tm.fm rs (f + 1) t k = Tm.fm rs f ((Tm.stepVal rs t)[0]?.getD (0, 0, [])).2.2 (k + 1) := by
  rw [Tm.fm, if_pos h]
  cases hs : Tm.stepVal rs t with
  | nil => rw [hs] at hn; simp at hn
  | cons s l => rfl
theorem clone_right (zs : List Int) (a : Option Addr) (cap : Nat) (w : World) (he : Tm.err zs = 0) (hI : Ints w.heap.size w a zs) :
    Calls Try.prog 52 #[.slice a zs.length cap] w fun e w' => ∃ v, e = .returned v ∧ New w.heap.size w' v zs ∧ Below w.heap.size w w' := by
  obtain ⟨b, off, rfl, _, _⟩ := hI.at (Tm.err_pos he)
  exact clone_any zs b off cap w (Tm.err_len he) hI

set_option maxRecDepth 100000 in
set_option maxHeartbeats 2000000 in
theorem form_any (rs : RuleL) (t : List Int) (al at' : Option Addr) (cl ct : Nat) (w : World) (hR : RulesAt w.heap.size w al rs) (hT : Ints w.heap.size w at' t) (h1 : t.length ≤ ct) (h2 : ct ≤ maxLen) :
    Calls Try.prog 20 #[.slice al rs.length cl, .slice at' t.length ct] w fun e w' => ∃ v, e = .returned (.tuple #[v, .int .i64 ((Tm.form rs t).2.1 : Int), .int .i64 (Tm.form rs t).2.2]) ∧ New w.heap.size w' v (Tm.form rs t).1 ∧ Below w.heap.size w w' := by
  unfold Tm.form
  generalize hg : Tm.fm rs 61 t 0 = res
  have HR := hid hR
  clear hR
  go_enter Try.func20, Try.ntmps20
  go_wp2
  go_loopw [1, 10] (fun tv v wr => ∃ (k : Nat) (u : List Int) (a : Option Addr) (c : Nat), k ≤ 61 ∧ v = .int .i64 (k : Int) ∧ tv = .slice a u.length c ∧ Hid (Ints wr.heap.size wr a u) ∧ u.length ≤ c ∧ c ≤ maxLen ∧ Hid (Tm.fm rs (61 - k) u k = res) ∧ Below w.heap.size w wr) (fun _ v _ => 61 - (intOf v).toNat)
  case atStart => exact ⟨0, t, at', ct, by omega, rfl, rfl, hid hT, h1, h2, hid hg, Below.refl _ _⟩
  case round =>
    obtain ⟨k, u, a, c, hk, rfl, rfl, hI, hc1, hc2, hst, hB⟩ := hrel
    by_cases hlt : k < 61
    · have hlt' : (k : Int) < 61 := by omega
      have hC := hid (steps_any rs u al a cl c wr ((HR.out.below hB).mono hB.size) hI.out hc1 hc2)
      obtain ⟨f, hf⟩ : ∃ f, 61 - k = f + 1 := ⟨60 - k, by omega⟩
      rw [hf] at hst
      by_cases he : Tm.stepErr rs u = 0
      · obtain ⟨_, hu, _⟩ := Tm.stepErr_term he
        by_cases hn : (Tm.stepVal rs u).length = 0
        · have hr := hid ((Tm.fm_end (f := f) (k := k) he hn).symm.trans hst.out)
          have hCl := hid (fun W (hW : Below wr.heap.size wr W) => clone_right u a c W hu ((hI.out.below hW).mono hW.size))
          unfold StepsAns at hC
          rw [he, List.eq_nil_of_length_eq_zero hn] at hC
          clear he hn hu hst hI
          go_wp2_with (first
            | (go_at_call 22; refine hC.out.mono ?_; clear hC; rintro e w1 ⟨v1, rfl, hN1, b1⟩; obtain ⟨va, vc, rfl⟩ := hN1.slice; have HN := hid hN1; clear hN1)
            | (go_at_call 52; refine (hCl.out w1 b1).mono ?_; clear hCl; rintro e w2 ⟨v2, rfl, hN2, b2⟩; obtain ⟨xa, xc, rfl, _⟩ := New.ints hN2))
          go_ret3
          have B1 := hB.trans (b1.mono hB.size)
          rw [← hr.out]
          exact ⟨_, rfl, hN2.mono B1.size, B1.trans (b2.mono B1.size)⟩
        · have hp : 0 < (Tm.stepVal rs u).length := by omega
          have hr := hid ((Tm.fm_go (f := f) (k := k) he hp).symm.trans hst.out)
          have hle := hid (show (Tm.stepVal rs u).length ≤ 1000 by
            obtain ⟨k1, k2, k3⟩ := Tm.stepErr_term he
            have h3 := Tm.allL_le rs u u.length
            have h4 := Tm.err_len k2
            have h5 := (Tm.rulesErr_ok k1).1
            have h6 : u.length * rs.length ≤ 30 * 8 := Nat.mul_le_mul h4 h5
            unfold Tm.stepVal
            rw [if_pos he]
            omega)
          unfold StepsAns at hC
          rw [he] at hC
          have hff : f = 61 - (k + 1) := by omega
          rw [hff] at hr
          clear he hn hu hst hI hf hff
          generalize Tm.stepVal rs u = sts at *
          have hpi : (0 : Int) < (sts.length : Int) := by omega
          have hne : ((sts.length : Int) == 0) = false := len_no (by omega)
          go_wp2_with (first
            | (go_at_call 22; refine hC.out.mono ?_; clear hC; rintro e w1 ⟨v1, rfl, hN1, b1⟩; obtain ⟨g, cg, rfl, hat⟩ := hN1.at hp; obtain ⟨x0, y0, _, _, c02, i0, q0, q1⟩ := hat 0 hp; clear hat; simp only [Nat.zero_mul, Nat.zero_add] at c02; have HN := hid hN1; clear hN1; generalize (sts[0]?.getD (0, 0, [])).2.2 = u1 at *))
          go_roundw
          case rel => exact ⟨k + 1, u1, x0, y0, by omega, by go_num, rfl, hid i0, q0, q1, hid hr.out, hB.trans (b1.mono hB.size)⟩
          case measure => simp [intOf]; omega
      · have hr := hid ((Tm.fm_bad (f := f) (k := k) he).symm.trans hst.out)
        have hne : (Tm.stepErr rs u != 0) = true := by simpa using he
        unfold StepsAns at hC
        clear he hst hI
        generalize Tm.stepErr rs u = q at *
        go_wp2_with (first
          | (go_at_call 22; refine hC.out.mono ?_; clear hC; rintro e w1 ⟨v1, rfl, hN1, b1⟩; obtain ⟨va, vc, rfl⟩ := hN1.slice; clear hN1))
        go_ret3
        rw [← hr.out]
        exact ⟨_, rfl, New.nil _ _, hB.trans (b1.mono hB.size)⟩
    · obtain rfl : k = 61 := by omega
      have hr := hst.out
      rw [Nat.sub_self, Tm.fm] at hr
      have Hr := hid hr
      clear hr hst hI
      go_wp2
      go_ret3
      rw [← Hr.out]
      exact ⟨_, rfl, New.nil _ _, hB⟩

end Go.Proofs.Ytgeknojpcjadkaa

namespace Go.Proofs.Ytgeknojpcjadkaa
open Go.Proofs Go.RowKit Go.Shelf Go.Maps

end Go.Proofs.Ytgeknojpcjadkaa
