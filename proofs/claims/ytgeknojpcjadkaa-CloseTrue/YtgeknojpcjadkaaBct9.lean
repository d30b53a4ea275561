/-
  (*sides).above, wherever it is asked; order.Check; order.Above. · slices.Index, slices.Contains of a list of numbers; order.Check; order.Above. · order.Above. · hasplaw.rank, orderBegun. · hasplaw.choose: of n things, one. · PLAIN MATHEMATICS of OrderTrue and OrderKeeps: of right ones no error comes; what Above answers is an order. · PLAIN MATHEMATICS of fitting: what comes is a list of terms; by it the one becomes the other, without an error. · hasplaw.choose, which number it is; PLAIN MATHEMATICS of OrderKeeps: ranks differ; without variables one of two that differ is above; who is above stays above. · rules.checkOne's two tests, slices.ContainsFunc of them; slices.Contains of a term. · rules.checkOne; rules.Check. · Rules in memory. · Rules in memory; rules.Check. · From the frame's word on a slice of rules (or of pairs) that came in to ours. · pairs.apart: a rule with its variables made others.
-/
import Derived.Test.YtgeknojpcjadkaaBct8
import Derived.Test.YtgeknojpcjadkaaBct2
import Derived.Test.YtgeknojpcjadkaaBct5
import Derived.Deep.SlicePairs
import Derived.ChangeOld
namespace Go.Proofs.Ytgeknojpcjadkaa
open Go.Proofs Go.RowKit Go.Shelf Go.Maps

theorem above_all (C : Sd) (O : SdOk C) : ∀ (n i j : Nat), (C.za.length - i) + (C.zb.length - j) < n → i < C.za.length → j < C.zb.length → AboveAt C 87 i j (Tm.ab C.rk C.za C.zb i j) fun k l => k < i ∨ l < j := by
  intro n
  induction n with
  | zero => intro i j h; omega
  | succ n ih =>
    intro i j hn hi hj
    exact above_step C O i j hi hj (byPart_step C O i j hi hj fun k h1 h2 => ih k j (by omega) h2 hj)
      (bySymbol_step C O i j hi hj (fun l h1 h2 => ih i l (by omega) hi h2) fun e => byFirst_step C O i j hi hj e fun k l h1 h2 h3 h4 => ih k l (by omega) h2 h4)

end Go.Proofs.Ytgeknojpcjadkaa

namespace Go.Proofs.Ytgeknojpcjadkaa
open Go.Proofs Go.RowKit Go.Shelf Go.Maps

/-- Is a number among them? -/
def Tm.hasB (zs : List Int) (x : Int) : Bool := decide (x ∈ zs)
theorem has_no {zs : List Int} {x : Int} {k : Nat} (h : ∀ j, j < k → zs[j]?.getD 0 ≠ x) (hx : zs[k]?.getD 0 ≠ x) : ∀ j, j < k + 1 → zs[j]?.getD 0 ≠ x := fun j hj => by
  by_cases e : j = k
  · rw [e]; exact hx
  · exact h j (by omega)
theorem has_yes {zs : List Int} {x : Int} {k : Nat} (hk : k < zs.length) (hx : zs[k]?.getD 0 = x) : Tm.hasB zs x = true := by
  unfold Tm.hasB
  rw [decide_eq_true_eq, ← hx]
  simp [hk]
theorem has_none {zs : List Int} {x : Int} (h : ∀ j, j < zs.length → zs[j]?.getD 0 ≠ x) : Tm.hasB zs x = false := by
  unfold Tm.hasB
  rw [decide_eq_false_iff_not]
  intro hm
  obtain ⟨j, hj, e⟩ := List.mem_iff_getElem.1 hm
  exact h j hj (by simp [hj, e])

set_option maxRecDepth 100000 in
set_option maxHeartbeats 400000 in
theorem index_any (zs : List Int) (x : Int) (a : Option Addr) (cap : Nat) (w : World) (hI : Ints w.heap.size w a zs) (hm : zs.length ≤ maxLen) :
    Calls Try.prog 118 #[.slice a zs.length cap, .int .i64 x] w fun e w' => ∃ k : Int, e = .returned (.int .i64 k) ∧ decide (0 ≤ k) = Tm.hasB zs x ∧ w' = w := by
  unfold maxLen at hm
  go_enter Try.func118, Try.ntmps118
  go_wp2
  go_loop [8] (fun i => ∃ k : Nat, k ≤ zs.length ∧ i = .int .i64 (k : Int) ∧ ∀ j, j < k → zs[j]?.getD 0 ≠ x) (fun i => zs.length - (intOf i).toNat)
  case atStart => exact ⟨0, Nat.zero_le _, rfl, fun j hj => by omega⟩
  case round =>
    obtain ⟨k, hk, rfl, hno⟩ := hrel
    by_cases hlt : k < zs.length
    · have hlt' : (k : Int) < (zs.length : Int) := by omega
      obtain ⟨b, off, rfl, hb, hc⟩ := hI.at (by omega)
      have hck := hc k hlt
      have hsn := hid (has_no hno)
      have hye := hid (@has_yes zs x k hlt)
      clear hc hI hno
      generalize zs[k]?.getD 0 = s at *
      by_cases he : s = x
      · have hb1 : (x == s) = true := by simp [he]
        have He := hid he
        clear he
        go_wp2
        go_ret
        exact ⟨_, rfl, by rw [hye.out He.out]; simp, rfl⟩
      · have hb1 : (x == s) = false := by simp; exact fun e => he e.symm
        have He := hid he
        clear he
        go_wp2
        go_round
        case rel => exact ⟨k + 1, by omega, by go_num, hsn.out He.out⟩
        case measure => simp [intOf]; omega
    · obtain rfl : k = zs.length := by omega
      have hn := hid (has_none hno)
      clear hno
      go_wp2
      go_ret
      exact ⟨-1, rfl, by rw [hn.out]; rfl, rfl⟩

set_option maxHeartbeats 400000 in
theorem contains_any (zs : List Int) (x : Int) (a : Option Addr) (cap : Nat) (w : World) (hI : Ints w.heap.size w a zs) (hm : zs.length ≤ maxLen) :
    Calls Try.prog 86 #[.slice a zs.length cap, .int .i64 x] w fun e w' => e = .returned (.bool (Tm.hasB zs x)) ∧ w' = w := by
  have hC := index_any zs x a cap w hI hm
  go_enter Try.func86, Try.ntmps86
  go_wp2_with fail
  refine hC.mono ?_
  rintro e w ⟨k, rfl, hk, rfl⟩
  have Hk := hid hk
  clear hk hC
  go_wp2
  go_ret
  exact ⟨ret_bool Hk.out, rfl⟩

/-- E1. -/
def Tm.rankErr (rk : List Int) : Int := if rk.length = 6 then (if (List.range 6).all (fun n => Tm.hasB rk (n : Int)) = true then 0 else 3) else 1
theorem rank_bad {rk : List Int} (h6 : rk.length = 6) {n : Nat} (hn : n < 6) (h : Tm.hasB rk (n : Int) = false) : Tm.rankErr rk = 3 := by
  unfold Tm.rankErr
  rw [if_pos h6, if_neg]
  intro e
  rw [List.all_eq_true] at e
  have := e n (List.mem_range.2 hn)
  rw [h] at this
  cases this
theorem rank_good {rk : List Int} (h6 : rk.length = 6) (h : ∀ n : Nat, n < 6 → Tm.hasB rk (n : Int) = true) : Tm.rankErr rk = 0 := by
  unfold Tm.rankErr
  rw [if_pos h6, if_pos]
  rw [List.all_eq_true]
  exact fun n hn => h n (List.mem_range.1 hn)

set_option maxRecDepth 100000 in
set_option maxHeartbeats 400000 in
theorem orderCheck_any (rk : List Int) (a : Option Addr) (cap : Nat) (w : World) (hI : Ints w.heap.size w a rk) :
    Calls Try.prog 50 #[.slice a rk.length cap] w fun e w' => e = .returned (.int .i64 (Tm.rankErr rk)) ∧ w' = w := by
  by_cases h6 : rk.length = 6
  · have hC := hid (fun (n : Nat) => contains_any rk (n : Int) a cap w hI (by unfold maxLen; omega))
    have hbad := hid (fun (n : Nat) (h1 : n < 6) h2 => rank_bad h6 h1 h2)
    have hgood := hid (rank_good h6)
    have hne : ((rk.length : Int) != 6) = false := by simp; omega
    clear h6
    generalize Tm.rankErr rk = q at *
    go_enter Try.func50, Try.ntmps50
    go_wp2
    go_loop [7] (fun i => ∃ k : Nat, k ≤ 6 ∧ i = .int .i64 (k : Int) ∧ ∀ j : Nat, j < k → Tm.hasB rk (j : Int) = true) (fun i => 6 - (intOf i).toNat)
    case atStart => exact ⟨0, Nat.zero_le _, rfl, fun j hj => by omega⟩
    case round =>
      obtain ⟨k, hk, rfl, hall⟩ := hrel
      by_cases hlt : k < 6
      · have hlt' : (k : Int) < 6 := by omega
        have hCk := hC.out k
        cases hq : Tm.hasB rk (k : Int) with
        | true =>
          rw [hq] at hCk
          have hall' := hid (fun (j : Nat) (hj : j < k + 1) => show Tm.hasB rk (j : Int) = true by
            by_cases e : j = k
            · rw [e]; exact hq
            · exact hall j (by omega))
          clear hq hall
          go_wp2_with (go_at_call 86; refine hCk.mono ?_; rintro e w ⟨rfl, rfl⟩)
          go_round
          case rel => exact ⟨k + 1, by omega, by go_num, hall'.out⟩
          case measure => simp [intOf]; omega
        | false =>
          rw [hq] at hCk
          have hb := hid (hbad.out k hlt hq)
          clear hq hall hbad
          go_wp2_with (go_at_call 86; refine hCk.mono ?_; rintro e w ⟨rfl, rfl⟩)
          go_ret
          exact ⟨by rw [hb.out]; rfl, rfl⟩
      · obtain rfl : k = 6 := by omega
        have hg := hid (hgood.out hall)
        clear hall
        go_wp2
        go_ret
        exact ⟨by rw [hg.out]; rfl, rfl⟩
  · have hne : ((rk.length : Int) != 6) = true := by simp; omega
    have he : Tm.rankErr rk = 1 := by unfold Tm.rankErr; rw [if_neg h6]
    rw [he]
    clear h6 he
    go_enter Try.func50, Try.ntmps50
    go_wp2
    go_ret
    exact ⟨rfl, rfl⟩

end Go.Proofs.Ytgeknojpcjadkaa

namespace Go.Proofs.Ytgeknojpcjadkaa
open Go.Proofs Go.RowKit Go.Shelf Go.Maps

/-- E1, E2: Above's error and answer. -/
def Tm.aboveErr (rk za zb : List Int) : Int := if Tm.rankErr rk = 0 then (if Tm.err za = 0 then Tm.err zb else Tm.err za) else Tm.rankErr rk
def Tm.aboveVal (rk za zb : List Int) : Bool := if Tm.aboveErr rk za zb = 0 then Tm.above (Tm.rankOf rk) za zb else false
theorem rank_six {rk : List Int} (h : Tm.rankErr rk = 0) : rk.length = 6 := by
  unfold Tm.rankErr at h
  by_cases h6 : rk.length = 6
  · exact h6
  · rw [if_neg h6] at h; omega

/-- At the start. -/
theorem sides_new (w : World) (br fr cr ba fa ca bb fb cb : Nat) (rk za zb : List Int) (hR : Ints w.heap.size w (some ⟨br, fr, none⟩) rk) (hA : Ints w.heap.size w (some ⟨ba, fa, none⟩) za) (hB : Ints w.heap.size w (some ⟨bb, fb, none⟩) zb) :
    Sides ⟨w.heap.size + 1, w.heap.size, br, fr, cr, ba, fa, ca, bb, fb, cb, rk, za, zb⟩ ((w.alloc (.map #[] 0)).alloc (.cells #[.slice (some ⟨br, fr, none⟩) rk.length cr, .slice (some ⟨ba, fa, none⟩) za.length ca, .slice (some ⟨bb, fb, none⟩) zb.length cb, .map (some w.heap.size)] 135)) (fun _ => none) := by
  have hb : Below w.heap.size w ((w.alloc (.map #[] 0)).alloc (.cells #[.slice (some ⟨br, fr, none⟩) rk.length cr, .slice (some ⟨ba, fa, none⟩) za.length ca, .slice (some ⟨bb, fb, none⟩) zb.length cb, .map (some w.heap.size)] 135)) := ((Below.refl _ w).alloc (Nat.le_refl _) _).alloc (by simp) _
  refine ⟨?_, (hR.below hb).mono hb.size, (hA.below hb).mono hb.size, (hB.below hb).mono hb.size, 0, (KMap.made _ w).keep (Below.heap_alloc _ _ _ (by simp)), (fun _ _ _ h => by cases h), Nat.zero_le _⟩
  have h := World.alloc_heap_new (w.alloc (.map #[] 0)) (.cells #[.slice (some ⟨br, fr, none⟩) rk.length cr, .slice (some ⟨ba, fa, none⟩) za.length ca, .slice (some ⟨bb, fb, none⟩) zb.length cb, .map (some w.heap.size)] 135)
  rw [World.size_alloc] at h
  exact h

set_option maxRecDepth 100000 in
set_option maxHeartbeats 1000000 in
theorem orderAbove_any (rk za zb : List Int) (ar aa ab : Option Addr) (cr ca cb : Nat) (w : World) (hR : Ints w.heap.size w ar rk) (hA : Ints w.heap.size w aa za) (hB : Ints w.heap.size w ab zb) (hca : za.length ≤ ca) (hca' : ca ≤ maxLen) (hcb : zb.length ≤ cb) (hcb' : cb ≤ maxLen) :
    Calls Try.prog 51 #[.slice ar rk.length cr, .slice aa za.length ca, .slice ab zb.length cb] w fun e w' => e = .returned (.tuple #[.bool (Tm.aboveVal rk za zb), .int .i64 (Tm.aboveErr rk za zb)]) ∧ Below w.heap.size w w' := by
  have hC1 := orderCheck_any rk ar cr w hR
  by_cases h1 : Tm.rankErr rk = 0
  · rw [h1] at hC1
    have hC2 := check_any za aa ca w hA
    by_cases h2 : Tm.err za = 0
    · rw [h2] at hC2
      have hC3 := hid (fun w' (hb : Below w.heap.size w w') => check_any zb ab cb w' ((hB.below hb).mono hb.size))
      have he : Tm.aboveErr rk za zb = Tm.err zb := by unfold Tm.aboveErr; rw [if_pos h1, if_pos h2]
      by_cases h3 : Tm.err zb = 0
      · rw [h3] at hC3 he
        have hv : Tm.aboveVal rk za zb = Tm.ab rk za zb 0 0 := by
          unfold Tm.aboveVal Tm.ab
          rw [if_pos he, Tm.part_all0 (Tm.err_run h2), Tm.part_all0 (Tm.err_run h3)]
        rw [he, hv]
        have h6 := rank_six h1
        obtain ⟨br, fr, rfl, hbr, _⟩ := hR.at (by omega)
        obtain ⟨ba, fa, rfl, hba, _⟩ := hA.at (Tm.err_pos h2)
        obtain ⟨bb, fb, rfl, hbb, _⟩ := hB.at (Tm.err_pos h3)
        have hfin := hid (fun (w2 : World) (hb : Below w.heap.size w w2) => above_all ⟨w2.heap.size + 1, w2.heap.size, br, fr, cr, ba, fa, ca, bb, fb, cb, rk, za, zb⟩ ⟨h2, h3, h6, hca, hcb, hca', hcb'⟩ _ 0 0 (Nat.lt_succ_self _) (Tm.err_pos h2) (Tm.err_pos h3)
          ((w2.alloc (.map #[] 0)).alloc (.cells #[.slice (some ⟨br, fr, none⟩) rk.length cr, .slice (some ⟨ba, fa, none⟩) za.length ca, .slice (some ⟨bb, fb, none⟩) zb.length cb, .map (some w2.heap.size)] 135)) (fun _ => none) (sides_new w2 br fr cr ba fa ca bb fb cb rk za zb ((hR.below hb).mono hb.size) ((hA.below hb).mono hb.size) ((hB.below hb).mono hb.size)))
        clear h1 h2 h3 h6 he hv hR hA hB hca hcb hca' hcb'
        have hmm := @run_makeMap Try.prog
        go_enter Try.func51, Try.ntmps51
        go_wp2_with (first
          | (go_at_call 50; refine hC1.mono ?_; clear hC1; rintro e w ⟨rfl, rfl⟩)
          | (go_at_call_of 53 (Value.slice (some ⟨ba, fa, none⟩) za.length ca); refine hC2.mono ?_; clear hC2; rintro e w1 ⟨rfl, hb1⟩)
          | (go_at_call_of 53 (Value.slice (some ⟨bb, fb, none⟩) zb.length cb); refine (hC3.out _ hb1).mono ?_; clear hC3; rintro e w2 ⟨rfl, hb2⟩; have hb3 := hb1.trans (hb2.mono hb1.size); have hF := hid (hfin.out w2 hb3); clear hfin)
          | (go_at_call 87; refine hF.out.mono ?_; clear hF; rintro e w3 ⟨rfl, hK, _⟩))
        go_ret2
        have hb4 : Below w2.heap.size w2 ((w2.alloc (.map #[] 0)).alloc (.cells #[.slice (some ⟨br, fr, none⟩) rk.length cr, .slice (some ⟨ba, fa, none⟩) za.length ca, .slice (some ⟨bb, fb, none⟩) zb.length cb, .map (some w2.heap.size)] 135)) := ((Below.refl _ w2).alloc (Nat.le_refl _) _).alloc (by simp) _
        exact ⟨rfl, hb3.trans ((hb4.trans ((hK.mono hb4.size).below (Nat.le_refl _))).mono hb3.size)⟩
      · have hv : Tm.aboveVal rk za zb = false := by unfold Tm.aboveVal; rw [he, if_neg h3]
        have hn : (Tm.err zb != 0) = true := by simpa using h3
        rw [he, hv]
        clear h1 h2 h3 he hv hca hcb hca' hcb'
        generalize Tm.err zb = q at *
        go_enter Try.func51, Try.ntmps51
        go_wp2_with fail
        refine hC1.mono ?_
        rintro e w ⟨rfl, rfl⟩
        go_wp2_with fail
        refine hC2.mono ?_
        rintro e w1 ⟨rfl, hb1⟩
        go_wp2_with fail
        refine (hC3.out _ hb1).mono ?_
        rintro e w2 ⟨rfl, hb2⟩
        go_wp2
        go_ret2
        exact ⟨rfl, hb1.trans (hb2.mono hb1.size)⟩
    · have he : Tm.aboveErr rk za zb = Tm.err za := by unfold Tm.aboveErr; rw [if_pos h1, if_neg h2]
      have hv : Tm.aboveVal rk za zb = false := by unfold Tm.aboveVal; rw [he, if_neg h2]
      have hn : (Tm.err za != 0) = true := by simpa using h2
      rw [he, hv]
      clear h1 h2 he hv hca hcb hca' hcb'
      generalize Tm.err za = q at *
      go_enter Try.func51, Try.ntmps51
      go_wp2_with fail
      refine hC1.mono ?_
      rintro e w ⟨rfl, rfl⟩
      go_wp2_with fail
      refine hC2.mono ?_
      rintro e w1 ⟨rfl, hb1⟩
      go_wp2
      go_ret2
      exact ⟨rfl, hb1⟩
  · have he : Tm.aboveErr rk za zb = Tm.rankErr rk := by unfold Tm.aboveErr; rw [if_neg h1]
    have hv : Tm.aboveVal rk za zb = false := by unfold Tm.aboveVal; rw [he, if_neg h1]
    have hn : (Tm.rankErr rk != 0) = true := by simpa using h1
    rw [he, hv]
    clear h1 he hv hca hcb hca' hcb'
    generalize Tm.rankErr rk = q at *
    go_enter Try.func51, Try.ntmps51
    go_wp2_with fail
    refine hC1.mono ?_
    rintro e w ⟨rfl, rfl⟩
    go_wp2
    go_ret2
    exact ⟨rfl, Below.refl _ _⟩

end Go.Proofs.Ytgeknojpcjadkaa

namespace Go.Proofs.Ytgeknojpcjadkaa
open Go.Proofs Go.RowKit Go.Shelf Go.Maps

def rk6 : List Int := [0, 1, 2, 3, 4, 5]
theorem Tm.o1 : Tm.aboveErr rk6 [4, -1, 2, 0] [2, 0] = 0 := by decide +kernel
theorem Tm.o2 : Tm.aboveVal rk6 [4, -1, 2, 0] [2, 0] = true := by decide +kernel
set_option maxHeartbeats 400000 in
theorem rank_any (w : World) : Calls Try.prog 61 #[] w fun e w' => ∃ a, e = .returned (.slice a 6 6) ∧ Ints w'.heap.size w' a rk6 ∧ Below w.heap.size w w' := by
  have h := ints_lit w [0, 1, 2, 3, 4, 5] _ rfl
  simp only [List.map_cons, List.map_nil] at h
  go_enter Try.func61, Try.ntmps61
  go_wp2
  go_ret
  exact ⟨_, rfl, by simpa [rk6] using h, (Below.refl _ _).alloc (Nat.le_refl _) _⟩
end Go.Proofs.Ytgeknojpcjadkaa

namespace Go.Proofs.Ytgeknojpcjadkaa
open Go.Proofs Go.RowKit Go.Shelf

set_option maxHeartbeats 400000 in
/-- A number below n. -/
theorem choose_any (c : Int) (n : Nat) (hc : (Lit.int .i64 c).wf = true) (h0 : 0 < n) (h1 : n ≤ 1000) (w : World) : Calls Try.prog 23 #[.int .i64 c, .int .i64 (n : Int)] w fun e w' => (∃ j : Nat, j < n ∧ e = .returned (.int .i64 (j : Int))) ∧ w' = w := by
  have hx : -9223372036854775808 ≤ c ∧ c ≤ 9223372036854775807 := by simpa [Lit.wf, IntKind.min, IntKind.max, IntKind.signed, IntKind.bits] using hc
  obtain ⟨hx1, hx2⟩ := hx
  clear hc
  have hn0 : (0 : Int) < (n : Int) := by omega
  have hn1 : (n : Int) ≤ 1000 := by omega
  have hnz : ((n : Int) == 0) = false := by simp; omega
  by_cases hneg : c < 0
  · go_enter Try.func23, Try.ntmps23
    go_wp2
    go_ret
    have hm := Int.emod_lt_of_pos (-(c + 1)) hn0
    have hm0 := Int.emod_nonneg (-(c + 1)) (b := (n : Int)) (by omega)
    refine ⟨⟨((-(c + 1)) % (n : Int)).toNat, by omega, ret_int ?_⟩, rfl⟩
    rw [Int.toNat_of_nonneg hm0, ← Int.neg_tmod, Int.tmod_eq_emod_of_nonneg (by omega)]
  · go_enter Try.func23, Try.ntmps23
    go_wp2
    go_ret
    have hm := Int.emod_lt_of_pos c hn0
    have hm0 := Int.emod_nonneg c (b := (n : Int)) (by omega)
    refine ⟨⟨(c % (n : Int)).toNat, by omega, ret_int ?_⟩, rfl⟩
    rw [Int.toNat_of_nonneg hm0]

end Go.Proofs.Ytgeknojpcjadkaa

namespace Go.Proofs.Ytgeknojpcjadkaa
open Go.Proofs Go.RowKit Go.Shelf Go.Maps

theorem Tm.aboveErr_of {rk za zb : List Int} (h1 : Tm.rankErr rk = 0) (h2 : Tm.err za = 0) (h3 : Tm.err zb = 0) : Tm.aboveErr rk za zb = 0 := by unfold Tm.aboveErr; rw [if_pos h1, if_pos h2, h3]
theorem Tm.aboveVal_iff {rk za zb : List Int} (h : Tm.aboveErr rk za zb = 0) : Tm.aboveVal rk za zb = true ↔ Tm.Gt (Tm.rankOf rk) za zb := by
  unfold Tm.aboveVal; rw [if_pos h]; exact Tm.above_iff
end Go.Proofs.Ytgeknojpcjadkaa

namespace Go.Proofs.Ytgeknojpcjadkaa
open Go.Proofs Go.RowKit Go.Shelf

theorem Tm.fit_terms (p t : List Int) (ht : Tm.err t = 0) : ∀ (n i k : Nat) (m m' : Asg), p.length - i = n → i ≤ p.length → Against p t i k → (∀ x z, m x = some z → Tm.err z = 0) → Tm.fitGo t (p.drop i) k m = some m' → ∀ x z, m' x = some z → Tm.err z = 0 := by
  intro n
  induction n with
  | zero =>
    intro i k m m' hn hi ha hm h
    obtain rfl : i = p.length := by omega
    rw [List.drop_length, Tm.fitGo_nil] at h
    cases h
    exact hm
  | succ n ih =>
    intro i k m m' hn hi ha hm h
    have hlt : i < p.length := by omega
    have hk := ha.pos hlt
    rw [List.drop_eq_getElem_cons hlt, Tm.fitGo] at h
    by_cases hs : p[i] < 0
    · rw [if_pos hs] at h
      by_cases hc : (m p[i]).isSome = true ∧ m p[i] ≠ some (Tm.part t k)
      · rw [if_pos hc] at h; cases h
      · rw [if_neg hc] at h
        refine ih (i + 1) (Tm.endAt t k) _ m' (by omega) (by omega) (ha.var hlt (by simpa [hlt] using hs)) (fun x z hx => ?_) h
        by_cases e : x = p[i]
        · subst e; rw [upd_same] at hx; cases hx; exact Tm.part_err ht hk
        · rw [upd_other _ _ e] at hx; exact hm x z hx
    · rw [if_neg hs] at h
      by_cases hu : t[k]?.getD 0 = p[i]
      · rw [if_pos hu] at h
        exact ih (i + 1) (k + 1) m m' (by omega) (by omega) (ha.sym hlt (by simpa [hlt] using hu)) hm h
      · rw [if_neg hu] at h; cases h
theorem Tm.firstErr_zero : ∀ (l : List (List Int)), (∀ t ∈ l, Tm.err t = 0) → Tm.firstErr l = 0 := by
  intro l
  induction l with
  | nil => intro _; rfl
  | cons t l ih =>
    intro h
    unfold Tm.firstErr
    rw [if_pos (h t (by simp))]
    exact ih (fun x hx => h x (by simp [hx]))
theorem Tm.err_var (i : Nat) (h : i < 8) : Tm.err [-1 - (i : Int)] = 0 := by
  refine Tm.err_ok (by simp) ?_ ?_
  · simp [Tm.known]; omega
  · rw [show (1 : Nat) = 0 + 1 from rfl, Tm.run_cons, Tm.room_neg (by omega), Tm.run_zero]; rfl
theorem Tm.subErr_fitL {p t : List Int} {m : Asg} (hp : Tm.err p = 0) (ht : Tm.err t = 0) (h : Tm.fit p t = some m) : Tm.subErr (Tm.fitL m 8) = 0 := by
  have hm := Tm.fit_terms p t ht _ 0 0 (fun _ => none) m rfl (by omega) (Against.start hp ht) (fun x z hx => by cases hx) (by simpa [Tm.fit] using h)
  unfold Tm.subErr
  rw [if_pos (Tm.fitL_length _ _)]
  refine Tm.firstErr_zero _ fun x hx => ?_
  unfold Tm.fitL at hx
  rw [List.mem_map] at hx
  obtain ⟨i, hi, rfl⟩ := hx
  rw [List.mem_range] at hi
  rw [if_pos hi]
  cases e : m (-1 - (i : Int)) with
  | none => exact Tm.err_var i hi
  | some z => exact hm _ z e
theorem Tm.apply_zero {ss : List (List Int)} {p : List Int} (h : Tm.applyErr ss p = 0) : Tm.subErr ss = 0 ∧ Tm.err p = 0 ∧ (Tm.applied ss p).length ≤ 30 ∧ Tm.applyVal ss p = Tm.applied ss p := by
  by_cases hs : Tm.subErr ss = 0
  · by_cases hp : Tm.err p = 0
    · obtain ⟨e1, e2⟩ := Tm.apply_ok hs hp
      rw [h] at e1
      by_cases hl : 30 < (Tm.applied ss p).length
      · rw [if_pos hl] at e1; omega
      · rw [if_neg hl] at e2; exact ⟨hs, hp, by omega, e2⟩
    · rw [(Tm.apply_t hs hp).1] at h; exact absurd h hp
  · rw [(Tm.apply_s hs).1] at h; exact absurd h hs

end Go.Proofs.Ytgeknojpcjadkaa

namespace Go.Proofs.Ytgeknojpcjadkaa
open Go.Proofs Go.RowKit Go.Shelf Go.Maps

/-- Which one. -/
def chN (c : Int) (n : Nat) : Nat := ((if c < 0 then -(c + 1) else c) % (n : Int)).toNat
/-- No variable in it. -/
def Tm.freeB (x : List Int) : Bool := x.all fun s => decide (0 ≤ s)
end Go.Proofs.Ytgeknojpcjadkaa

namespace Go.Proofs.Ytgeknojpcjadkaa
open Go.Proofs Go.RowKit Go.Shelf Go.Maps

set_option maxRecDepth 100000 in
set_option maxHeartbeats 400000 in
theorem indexT_any (zs : List Int) (x : Int) (a : Option Addr) (cap : Nat) (w : World) (hI : Ints w.heap.size w a zs) (hm : zs.length ≤ maxLen) :
    Calls Try.prog 137 #[.slice a zs.length cap, .int .i64 x] w fun e w' => ∃ k : Int, e = .returned (.int .i64 k) ∧ decide (0 ≤ k) = Tm.hasB zs x ∧ w' = w := by
  unfold maxLen at hm
  go_enter Try.func137, Try.ntmps137
  go_wp2
  go_loop [8] (fun i => ∃ k : Nat, k ≤ zs.length ∧ i = .int .i64 (k : Int) ∧ ∀ j, j < k → zs[j]?.getD 0 ≠ x) (fun i => zs.length - (intOf i).toNat)
  case atStart => exact ⟨0, Nat.zero_le _, rfl, fun j hj => by omega⟩
  case round =>
    obtain ⟨k, hk, rfl, hno⟩ := hrel
    by_cases hlt : k < zs.length
    · have hlt' : (k : Int) < (zs.length : Int) := by omega
      obtain ⟨b, off, rfl, hb, hc⟩ := hI.at (by omega)
      have hck := hc k hlt
      have hsn := hid (has_no hno)
      have hye := hid (@has_yes zs x k hlt)
      clear hc hI hno
      generalize zs[k]?.getD 0 = s at *
      by_cases he : s = x
      · have hb1 : (x == s) = true := by simp [he]
        have He := hid he
        clear he
        go_wp2
        go_ret
        exact ⟨_, rfl, by rw [hye.out He.out]; simp, rfl⟩
      · have hb1 : (x == s) = false := by simp; exact fun e => he e.symm
        have He := hid he
        clear he
        go_wp2
        go_round
        case rel => exact ⟨k + 1, by omega, by go_num, hsn.out He.out⟩
        case measure => simp [intOf]; omega
    · obtain rfl : k = zs.length := by omega
      have hn := hid (has_none hno)
      clear hno
      go_wp2
      go_ret
      exact ⟨-1, rfl, by rw [hn.out]; rfl, rfl⟩

set_option maxHeartbeats 400000 in
theorem containsT_any (zs : List Int) (x : Int) (a : Option Addr) (cap : Nat) (w : World) (hI : Ints w.heap.size w a zs) (hm : zs.length ≤ maxLen) :
    Calls Try.prog 114 #[.slice a zs.length cap, .int .i64 x] w fun e w' => e = .returned (.bool (Tm.hasB zs x)) ∧ w' = w := by
  have hC := indexT_any zs x a cap w hI hm
  go_enter Try.func114, Try.ntmps114
  go_wp2_with fail
  refine hC.mono ?_
  rintro e w ⟨k, rfl, hk, rfl⟩
  have Hk := hid hk
  clear hk hC
  go_wp2
  go_ret
  exact ⟨ret_bool Hk.out, rfl⟩

theorem any_snoc {zs : List Int} {p : Int → Bool} {k : Nat} (hk : k < zs.length) (h : (zs.take k).any p = false) (hs : p (zs[k]?.getD 0) = false) : (zs.take (k + 1)).any p = false := by
  rw [take_snoc hk, List.any_append, h]
  simpa using hs
theorem any_yes {zs : List Int} {p : Int → Bool} {k : Nat} (hk : k < zs.length) (hs : p (zs[k]?.getD 0) = true) : zs.any p = true := by
  rw [List.any_eq_true]
  exact ⟨zs[k], List.getElem_mem hk, by simpa [hk] using hs⟩

/-- Is the sign a variable below those of rules? -/
def foreignB (s : Int) : Bool := decide (s < -4)
/-- Is the sign a variable that does not stand in L? -/
def freeIn (L : List Int) (s : Int) : Bool := decide (s < 0) && !Tm.hasB L s

set_option maxHeartbeats 400000 in
theorem foreign_any (s : Int) (w : World) : Calls Try.prog 112 #[.int .i64 s] w fun e w' => e = .returned (.bool (foreignB s)) ∧ w' = w := by
  go_enter Try.func112, Try.ntmps112
  go_wp2
  go_ret
  exact ⟨rfl, rfl⟩
set_option maxHeartbeats 400000 in
theorem free_any (L : List Int) (s : Int) (B : Nat) (aL : Option Addr) (cL : Nat) (w : World) (hB : w.cell? ⟨B, 0, none⟩ = some (.slice aL L.length cL)) (hI : Ints w.heap.size w aL L) (hm : L.length ≤ maxLen) :
    Calls Try.prog 113 #[.int .i64 s, .pointer (some ⟨B, 0, none⟩)] w fun e w' => e = .returned (.bool (freeIn L s)) ∧ w' = w := by
  have hC := containsT_any L s aL cL w hI hm
  by_cases h0 : s < 0
  · have hv : freeIn L s = !Tm.hasB L s := by unfold freeIn; rw [decide_eq_true h0]; rfl
    rw [hv]
    clear hv
    generalize Tm.hasB L s = q at *
    go_enter Try.func113, Try.ntmps113
    go_wp2_with (first
      | (go_at_call 114; refine hC.mono ?_; rintro e w ⟨rfl, rfl⟩))
    go_ret
    exact ⟨rfl, rfl⟩
  · have hv : freeIn L s = false := by unfold freeIn; rw [decide_eq_false h0]; rfl
    have h0' : decide (s < 0) = false := by simpa using h0
    rw [hv]
    clear hv
    go_enter Try.func113, Try.ntmps113
    go_wp2
    go_ret
    exact ⟨rfl, rfl⟩

set_option maxRecDepth 100000 in
set_option maxHeartbeats 400000 in
theorem indexF1_any (zs : List Int) (a : Option Addr) (cap : Nat) (w : World) (hI : Ints w.heap.size w a zs) (hm : zs.length ≤ maxLen) :
    Calls Try.prog 138 #[.slice a zs.length cap, .func (.func 112) #[] #[]] w fun e w' => ∃ k : Int, e = .returned (.int .i64 k) ∧ decide (0 ≤ k) = zs.any (fun s => foreignB s) ∧ w' = w := by
  unfold maxLen at hm
  have hF := fun s => foreign_any s w
  go_enter Try.func138, Try.ntmps138
  go_wp2
  go_loop [8] (fun i => ∃ k : Nat, k ≤ zs.length ∧ i = .int .i64 (k : Int) ∧ (zs.take k).any (fun s => foreignB s) = false) (fun i => zs.length - (intOf i).toNat)
  case atStart => exact ⟨0, Nat.zero_le _, rfl, by simp⟩
  case round =>
    obtain ⟨k, hk, rfl, hno⟩ := hrel
    by_cases hlt : k < zs.length
    · have hlt' : (k : Int) < (zs.length : Int) := by omega
      obtain ⟨b, off, rfl, hb, hc⟩ := hI.at (by omega)
      have hck := hc k hlt
      have hsn := hid (any_snoc (p := fun s => foreignB s) hlt hno)
      have hye := hid (any_yes (p := fun s => foreignB s) hlt)
      have hCk := hid (hF (zs[k]?.getD 0))
      clear hc hI hno
      generalize zs[k]?.getD 0 = s at *
      cases hq : (foreignB s) with
      | true =>
        rw [hq] at hCk
        have Hy := hid (hye.out hq)
        clear hq hsn
        go_wp2_with (go_at_call 112; refine hCk.out.mono ?_; rintro e w ⟨rfl, rfl⟩)
        go_ret
        exact ⟨_, rfl, by rw [Hy.out]; simp, rfl⟩
      | false =>
        rw [hq] at hCk
        have Hn := hid (hsn.out hq)
        clear hq hye
        go_wp2_with (go_at_call 112; refine hCk.out.mono ?_; rintro e w ⟨rfl, rfl⟩)
        go_round
        case rel => exact ⟨k + 1, by omega, by go_num, Hn.out⟩
        case measure => simp [intOf]; omega
    · obtain rfl : k = zs.length := by omega
      rw [List.take_length] at hno
      have hn := hid hno
      clear hno
      go_wp2
      go_ret
      exact ⟨-1, rfl, by rw [hn.out]; rfl, rfl⟩

set_option maxHeartbeats 400000 in
theorem containsF1_any (zs : List Int) (a : Option Addr) (cap : Nat) (w : World) (hI : Ints w.heap.size w a zs) (hm : zs.length ≤ maxLen) :
    Calls Try.prog 115 #[.slice a zs.length cap, .func (.func 112) #[] #[]] w fun e w' => e = .returned (.bool (zs.any (fun s => foreignB s))) ∧ w' = w := by
  have hC := indexF1_any zs a cap w hI hm
  go_enter Try.func115, Try.ntmps115
  go_wp2_with fail
  refine hC.mono ?_
  rintro e w ⟨k, rfl, hk, rfl⟩
  have Hk := hid hk
  clear hk hC
  go_wp2
  go_ret
  exact ⟨ret_bool Hk.out, rfl⟩

set_option maxRecDepth 100000 in
set_option maxHeartbeats 400000 in
theorem indexF2_any (zs : List Int) (L : List Int) (B : Nat) (aL : Option Addr) (cL : Nat) (a : Option Addr) (cap : Nat) (w : World) (hI : Ints w.heap.size w a zs) (hm : zs.length ≤ maxLen) (hB : w.cell? ⟨B, 0, none⟩ = some (.slice aL L.length cL)) (hL : Ints w.heap.size w aL L) (hmL : L.length ≤ maxLen) :
    Calls Try.prog 138 #[.slice a zs.length cap, .func (.func 113) #[] #[.pointer (some ⟨B, 0, none⟩)]] w fun e w' => ∃ k : Int, e = .returned (.int .i64 k) ∧ decide (0 ≤ k) = zs.any (fun s => freeIn L s) ∧ w' = w := by
  unfold maxLen at hm
  have hF := fun s => free_any L s B aL cL w hB hL hmL
  clear hB hL hmL
  go_enter Try.func138, Try.ntmps138
  go_wp2
  go_loop [8] (fun i => ∃ k : Nat, k ≤ zs.length ∧ i = .int .i64 (k : Int) ∧ (zs.take k).any (fun s => freeIn L s) = false) (fun i => zs.length - (intOf i).toNat)
  case atStart => exact ⟨0, Nat.zero_le _, rfl, by simp⟩
  case round =>
    obtain ⟨k, hk, rfl, hno⟩ := hrel
    by_cases hlt : k < zs.length
    · have hlt' : (k : Int) < (zs.length : Int) := by omega
      obtain ⟨b, off, rfl, hb, hc⟩ := hI.at (by omega)
      have hck := hc k hlt
      have hsn := hid (any_snoc (p := fun s => freeIn L s) hlt hno)
      have hye := hid (any_yes (p := fun s => freeIn L s) hlt)
      have hCk := hid (hF (zs[k]?.getD 0))
      clear hc hI hno
      generalize zs[k]?.getD 0 = s at *
      cases hq : (freeIn L s) with
      | true =>
        rw [hq] at hCk
        have Hy := hid (hye.out hq)
        clear hq hsn
        go_wp2_with (go_at_call 113; refine hCk.out.mono ?_; rintro e w ⟨rfl, rfl⟩)
        go_ret
        exact ⟨_, rfl, by rw [Hy.out]; simp, rfl⟩
      | false =>
        rw [hq] at hCk
        have Hn := hid (hsn.out hq)
        clear hq hye
        go_wp2_with (go_at_call 113; refine hCk.out.mono ?_; rintro e w ⟨rfl, rfl⟩)
        go_round
        case rel => exact ⟨k + 1, by omega, by go_num, Hn.out⟩
        case measure => simp [intOf]; omega
    · obtain rfl : k = zs.length := by omega
      rw [List.take_length] at hno
      have hn := hid hno
      clear hno
      go_wp2
      go_ret
      exact ⟨-1, rfl, by rw [hn.out]; rfl, rfl⟩

set_option maxHeartbeats 400000 in
theorem containsF2_any (zs : List Int) (L : List Int) (B : Nat) (aL : Option Addr) (cL : Nat) (a : Option Addr) (cap : Nat) (w : World) (hI : Ints w.heap.size w a zs) (hm : zs.length ≤ maxLen) (hB : w.cell? ⟨B, 0, none⟩ = some (.slice aL L.length cL)) (hL : Ints w.heap.size w aL L) (hmL : L.length ≤ maxLen) :
    Calls Try.prog 115 #[.slice a zs.length cap, .func (.func 113) #[] #[.pointer (some ⟨B, 0, none⟩)]] w fun e w' => e = .returned (.bool (zs.any (fun s => freeIn L s))) ∧ w' = w := by
  have hC := indexF2_any zs L B aL cL a cap w hI hm hB hL hmL
  go_enter Try.func115, Try.ntmps115
  go_wp2_with fail
  refine hC.mono ?_
  rintro e w ⟨k, rfl, hk, rfl⟩
  have Hk := hid hk
  clear hk hC
  go_wp2
  go_ret
  exact ⟨ret_bool Hk.out, rfl⟩

end Go.Proofs.Ytgeknojpcjadkaa

namespace Go.Proofs.Ytgeknojpcjadkaa
open Go.Proofs Go.RowKit Go.Shelf Go.Maps

/-- F1, of one rule. -/
def Tm.ruleErr (L R : List Int) : Int :=
  if Tm.err L = 0 then (if Tm.err R = 0 then (if L.any foreignB = true then 3 else if R.any foreignB = true then 3 else if L[0]?.getD 0 < 0 then 1 else if R.any (freeIn L) = true then 4 else 0) else Tm.err R) else Tm.err L

set_option maxRecDepth 100000 in
set_option maxHeartbeats 1000000 in
theorem checkOne_any (L R : List Int) (aL aR : Option Addr) (cL cR : Nat) (w : World) (hL : Ints w.heap.size w aL L) (hR : Ints w.heap.size w aR R) :
    Calls Try.prog 81 #[.agg #[.slice aL L.length cL, .slice aR R.length cR]] w fun e w' => e = .returned (.int .i64 (Tm.ruleErr L R)) ∧ Below w.heap.size w w' := by
  have hB0 : Below w.heap.size w (w.alloc (.cells #[.slice aL L.length cL, .slice aR R.length cR] 39)) := (Below.refl _ w).alloc (Nat.le_refl _) _
  have hblk := World.alloc_heap_new w (.cells #[.slice aL L.length cL, .slice aR R.length cR] 39)
  obtain ⟨w1, hw1⟩ : ∃ w1, w.alloc (.cells #[.slice aL L.length cL, .slice aR R.length cR] 39) = w1 := ⟨_, rfl⟩
  rw [hw1] at hB0 hblk
  have HW := hid hw1
  clear hw1
  have d0 : w1.cell? ⟨w.heap.size, 0, none⟩ = some (.slice aL L.length cL) := by simp [World.cell?, hblk]
  have d1 : w1.cell? ⟨w.heap.size, 1, none⟩ = some (.slice aR R.length cR) := by simp [World.cell?, hblk]
  have hlt : w.heap.size < w1.heap.size := (Array.getElem?_eq_some_iff.1 hblk).1
  have hL1 := (hL.below hB0).mono hB0.size
  have hR1 := (hR.below hB0).mono hB0.size
  have C1 := check_any L aL cL w1 hL1
  have C2 := hid (fun W (hW : Below w1.heap.size w1 W) => check_any R aR cR W ((hR1.below hW).mono hW.size))
  have D0 := hid (fun W (hW : Below w1.heap.size w1 W) => (hW.cell (p := ⟨w.heap.size, 0, none⟩) hlt).trans d0)
  have D1 := hid (fun W (hW : Below w1.heap.size w1 W) => (hW.cell (p := ⟨w.heap.size, 1, none⟩) hlt).trans d1)
  have d0e : (w.alloc (.cells #[.slice aL L.length cL, .slice aR R.length cR] 39)).cell? ⟨w.heap.size, 0, none⟩ = some (.slice aL L.length cL) := by rw [HW.out]; exact d0
  have hmf : ∀ (fn : Fn) (first cap : Array Value) (w : World), (Instr.makeFunc fn first cap).run Try.prog w = .ok (.func fn first cap) w := fun _ _ _ _ => rfl
  have HB0 := hid hB0
  clear hblk hB0
  by_cases h1 : Tm.err L = 0
  · by_cases h2 : Tm.err R = 0
    · have lL := Tm.err_len h1
      have lR := Tm.err_len h2
      have pL := Tm.err_pos h1
      have pL' : (0 : Int) < (L.length : Int) := by omega
      have C3 := hid (fun W (hW : Below w1.heap.size w1 W) => containsF1_any L aL cL W ((hL1.below hW).mono hW.size) (by unfold maxLen; omega))
      have C4 := hid (fun W (hW : Below w1.heap.size w1 W) => containsF1_any R aR cR W ((hR1.below hW).mono hW.size) (by unfold maxLen; omega))
      have C5 := hid (fun W (hW : Below w1.heap.size w1 W) => containsF2_any R L w.heap.size aL cL aR cR W ((hR1.below hW).mono hW.size) (by unfold maxLen; omega) (D0.out W hW) ((hL1.below hW).mono hW.size) (by unfold maxLen; omega))
      obtain ⟨b, off, rfl, _, _⟩ := hL1.at pL
      have C6 := hid (fun W (hW : Below w1.heap.size w1 W) => show W.cell? ⟨b, off + 0, none⟩ = some (.int .i64 (L[0]?.getD 0)) by
        obtain ⟨_, _, e, _, hc⟩ := ((hL1.below hW).mono hW.size) 0 pL
        cases e; exact hc)
      simp only [Nat.add_zero] at C6
      have hv : Tm.ruleErr L R = (if L.any foreignB = true then 3 else if R.any foreignB = true then 3 else if L[0]?.getD 0 < 0 then 1 else if R.any (freeIn L) = true then 4 else 0) := by unfold Tm.ruleErr; rw [if_pos h1, if_pos h2]
      rw [hv]
      rw [h1] at C1
      rw [h2] at C2
      clear h1 h2 hv hL hR hL1 hR1
      generalize L[0]?.getD 0 = s at *
      change Hid (∀ W, Below w1.heap.size w1 W → Calls _ _ _ W fun e w' => e = .returned (.bool (R.any (freeIn L))) ∧ w' = W) at C5
      change Hid (∀ W, Below w1.heap.size w1 W → Calls _ _ _ W fun e w' => e = .returned (.bool (L.any foreignB)) ∧ w' = W) at C3
      change Hid (∀ W, Below w1.heap.size w1 W → Calls _ _ _ W fun e w' => e = .returned (.bool (R.any foreignB)) ∧ w' = W) at C4
      generalize R.any (freeIn L) = q3 at *
      generalize L.any foreignB = q1 at *
      generalize R.any foreignB = q2 at *
      cases q1 with
      | true =>
        rw [if_pos rfl]
        go_enter Try.func81, Try.ntmps81
        go_wp2_with (first
          | (go_at_call_of 53 (Value.slice (some ⟨b, off, none⟩) L.length cL); rw [HW.out]; refine C1.mono ?_; clear C1; rintro e w2 ⟨rfl, b2⟩; have e2 := D1.out w2 b2)
          | (go_at_call_of 53 (Value.slice aR R.length cR); refine (C2.out w2 b2).mono ?_; clear C2; rintro e w3 ⟨rfl, b3'⟩; have b3 := b2.trans (b3'.mono b2.size); have f0 := D0.out w3 b3; have f1 := D1.out w3 b3)
          | (go_at_call_of 115 (Value.slice (some ⟨b, off, none⟩) L.length cL); refine (C3.out w3 b3).mono ?_; rintro e w3 ⟨rfl, rfl⟩))
        go_ret
        exact ⟨rfl, HB0.out.trans (b3.mono HB0.out.size)⟩
      | false =>
        rw [if_neg (by decide)]
        cases q2 with
        | true =>
          rw [if_pos rfl]
          go_enter Try.func81, Try.ntmps81
          go_wp2_with (first
            | (go_at_call_of 53 (Value.slice (some ⟨b, off, none⟩) L.length cL); rw [HW.out]; refine C1.mono ?_; clear C1; rintro e w2 ⟨rfl, b2⟩; have e2 := D1.out w2 b2)
            | (go_at_call_of 53 (Value.slice aR R.length cR); refine (C2.out w2 b2).mono ?_; clear C2; rintro e w3 ⟨rfl, b3'⟩; have b3 := b2.trans (b3'.mono b2.size); have f0 := D0.out w3 b3; have f1 := D1.out w3 b3)
            | (go_at_call_of 115 (Value.slice (some ⟨b, off, none⟩) L.length cL); refine (C3.out w3 b3).mono ?_; rintro e w3 ⟨rfl, rfl⟩)
            | (go_at_call_of 115 (Value.slice aR R.length cR); refine (C4.out w3 b3).mono ?_; clear C4; rintro e w3 ⟨rfl, rfl⟩; have c6 := C6.out w3 b3))
          go_ret
          exact ⟨rfl, HB0.out.trans (b3.mono HB0.out.size)⟩
        | false =>
          rw [if_neg (by decide)]
          by_cases hs : s < 0
          · rw [if_pos hs]
            go_enter Try.func81, Try.ntmps81
            go_wp2_with (first
              | (go_at_call_of 53 (Value.slice (some ⟨b, off, none⟩) L.length cL); rw [HW.out]; refine C1.mono ?_; clear C1; rintro e w2 ⟨rfl, b2⟩; have e2 := D1.out w2 b2)
              | (go_at_call_of 53 (Value.slice aR R.length cR); refine (C2.out w2 b2).mono ?_; clear C2; rintro e w3 ⟨rfl, b3'⟩; have b3 := b2.trans (b3'.mono b2.size); have f0 := D0.out w3 b3; have f1 := D1.out w3 b3)
              | (go_at_call_of 115 (Value.slice (some ⟨b, off, none⟩) L.length cL); refine (C3.out w3 b3).mono ?_; rintro e w3 ⟨rfl, rfl⟩)
              | (go_at_call_of 115 (Value.slice aR R.length cR); refine (C4.out w3 b3).mono ?_; clear C4; rintro e w3 ⟨rfl, rfl⟩; have c6 := C6.out w3 b3))
            go_ret
            exact ⟨rfl, HB0.out.trans (b3.mono HB0.out.size)⟩
          · rw [if_neg hs]
            have hs' : decide (s < 0) = false := by simpa using hs
            clear hs
            cases q3 with
            | true =>
              rw [if_pos rfl]
              go_enter Try.func81, Try.ntmps81
              go_wp2_with (first
                | (go_at_call_of 53 (Value.slice (some ⟨b, off, none⟩) L.length cL); rw [HW.out]; refine C1.mono ?_; clear C1; rintro e w2 ⟨rfl, b2⟩; have e2 := D1.out w2 b2)
                | (go_at_call_of 53 (Value.slice aR R.length cR); refine (C2.out w2 b2).mono ?_; clear C2; rintro e w3 ⟨rfl, b3'⟩; have b3 := b2.trans (b3'.mono b2.size); have f0 := D0.out w3 b3; have f1 := D1.out w3 b3)
                | (go_at_call_of 115 (Value.slice (some ⟨b, off, none⟩) L.length cL); refine (C3.out w3 b3).mono ?_; rintro e w3 ⟨rfl, rfl⟩)
                | (go_at_call_of 115 (Value.slice aR R.length cR); refine (C4.out w3 b3).mono ?_; clear C4; rintro e w3 ⟨rfl, rfl⟩; have c6 := C6.out w3 b3)
                | (go_at_call_of 115 (Value.slice aR R.length cR); refine (C5.out w3 b3).mono ?_; rintro e w3 ⟨rfl, rfl⟩))
              go_ret
              exact ⟨rfl, HB0.out.trans (b3.mono HB0.out.size)⟩
            | false =>
              rw [if_neg (by decide)]
              go_enter Try.func81, Try.ntmps81
              go_wp2_with (first
                | (go_at_call_of 53 (Value.slice (some ⟨b, off, none⟩) L.length cL); rw [HW.out]; refine C1.mono ?_; clear C1; rintro e w2 ⟨rfl, b2⟩; have e2 := D1.out w2 b2)
                | (go_at_call_of 53 (Value.slice aR R.length cR); refine (C2.out w2 b2).mono ?_; clear C2; rintro e w3 ⟨rfl, b3'⟩; have b3 := b2.trans (b3'.mono b2.size); have f0 := D0.out w3 b3; have f1 := D1.out w3 b3)
                | (go_at_call_of 115 (Value.slice (some ⟨b, off, none⟩) L.length cL); refine (C3.out w3 b3).mono ?_; rintro e w3 ⟨rfl, rfl⟩)
                | (go_at_call_of 115 (Value.slice aR R.length cR); refine (C4.out w3 b3).mono ?_; clear C4; rintro e w3 ⟨rfl, rfl⟩; have c6 := C6.out w3 b3)
                | (go_at_call_of 115 (Value.slice aR R.length cR); refine (C5.out w3 b3).mono ?_; rintro e w3 ⟨rfl, rfl⟩))
              go_ret
              exact ⟨rfl, HB0.out.trans (b3.mono HB0.out.size)⟩
    · have hv : Tm.ruleErr L R = Tm.err R := by unfold Tm.ruleErr; rw [if_pos h1, if_neg h2]
      have hn : (Tm.err R != 0) = true := by simpa using h2
      rw [hv]
      rw [h1] at C1
      clear h1 h2 hv hL hR hL1 hR1
      generalize Tm.err R = q at *
      go_enter Try.func81, Try.ntmps81
      go_wp2_with (first
        | (go_at_call_of 53 (Value.slice aL L.length cL); rw [HW.out]; refine C1.mono ?_; clear C1; rintro e w2 ⟨rfl, b2⟩; have e2 := D1.out w2 b2)
        | (go_at_call_of 53 (Value.slice aR R.length cR); refine (C2.out w2 b2).mono ?_; clear C2; rintro e w3 ⟨rfl, b3'⟩; have b3 := b2.trans (b3'.mono b2.size); have f0 := D0.out w3 b3; have f1 := D1.out w3 b3))
      go_ret
      exact ⟨rfl, HB0.out.trans (b3.mono HB0.out.size)⟩
  · have hv : Tm.ruleErr L R = Tm.err L := by unfold Tm.ruleErr; rw [if_neg h1]
    have hn : (Tm.err L != 0) = true := by simpa using h1
    rw [hv]
    clear h1 hv hL hR hL1 hR1
    generalize Tm.err L = q at *
    go_enter Try.func81, Try.ntmps81
    go_wp2_with (first
      | (go_at_call_of 53 (Value.slice aL L.length cL); rw [HW.out]; refine C1.mono ?_; clear C1; rintro e w2 ⟨rfl, b2⟩; have e2 := D1.out w2 b2))
    go_ret
    exact ⟨rfl, HB0.out.trans (b2.mono HB0.out.size)⟩

end Go.Proofs.Ytgeknojpcjadkaa

namespace Go.Proofs.Ytgeknojpcjadkaa
open Go.Proofs Go.RowKit Go.Shelf Go.Maps

abbrev RuleL := List (List Int × List Int)
/-- A SLICE OF RULES THAT CAN BE READ. -/
def RulesAt (n : Nat) (W : World) (a : Option Addr) (rs : RuleL) : Prop :=
  ∀ k, k < rs.length → ∃ b off, a = some ⟨b, off, none⟩ ∧ b < n ∧ ∃ aL cL aR cR, W.cell? ⟨b, off + k * 2, none⟩ = some (.slice aL (rs[k]?.getD ([], [])).1.length cL) ∧ W.cell? ⟨b, off + k * 2 + 1, none⟩ = some (.slice aR (rs[k]?.getD ([], [])).2.length cR) ∧
    Ints n W aL (rs[k]?.getD ([], [])).1 ∧ Ints n W aR (rs[k]?.getD ([], [])).2 ∧ (rs[k]?.getD ([], [])).1.length ≤ cL ∧ cL ≤ maxLen ∧ (rs[k]?.getD ([], [])).2.length ≤ cR ∧ cR ≤ maxLen
theorem RulesAt.below {n : Nat} {A B : World} (h : Below n A B) {a : Option Addr} {rs : RuleL} (hi : RulesAt n A a rs) : RulesAt n B a rs := fun k hk => by
  obtain ⟨b, off, e, hb, aL, cL, aR, cR, h1, h2, h3, h4, r⟩ := hi k hk
  exact ⟨b, off, e, hb, aL, cL, aR, cR, (h.cell (p := ⟨b, off + k * 2, none⟩) hb).trans h1, (h.cell (p := ⟨b, off + k * 2 + 1, none⟩) hb).trans h2, h3.below h, h4.below h, r⟩
theorem RulesAt.mono {n m : Nat} (h : n ≤ m) {W : World} {a : Option Addr} {rs : RuleL} (hi : RulesAt n W a rs) : RulesAt m W a rs := fun k hk => by
  obtain ⟨b, off, e, hb, aL, cL, aR, cR, h1, h2, h3, h4, r⟩ := hi k hk
  exact ⟨b, off, e, by omega, aL, cL, aR, cR, h1, h2, h3.mono h, h4.mono h, r⟩

end Go.Proofs.Ytgeknojpcjadkaa

namespace Go.Proofs.Ytgeknojpcjadkaa
open Go.Proofs Go.RowKit Go.Shelf Go.Maps

/-- The first error of rules. -/
def Tm.firstRule : RuleL → Int
  | [] => 0
  | r :: l => if Tm.ruleErr r.1 r.2 = 0 then Tm.firstRule l else Tm.ruleErr r.1 r.2
/-- F1. -/
def Tm.rulesErr (rs : RuleL) : Int := if 8 < rs.length then 2 else Tm.firstRule rs
theorem Tm.firstRule_step {rs : RuleL} {k : Nat} (hk : k < rs.length) (he : Tm.ruleErr (rs[k]?.getD ([], [])).1 (rs[k]?.getD ([], [])).2 = 0) : Tm.firstRule (rs.drop k) = Tm.firstRule (rs.drop (k + 1)) := by
  rw [List.drop_eq_getElem_cons hk, Tm.firstRule]
  simp only [hk, List.getElem?_eq_getElem, Option.getD_some] at he
  rw [if_pos he]
theorem Tm.firstRule_at {rs : RuleL} {k : Nat} (hk : k < rs.length) (he : Tm.ruleErr (rs[k]?.getD ([], [])).1 (rs[k]?.getD ([], [])).2 ≠ 0) : Tm.firstRule (rs.drop k) = Tm.ruleErr (rs[k]?.getD ([], [])).1 (rs[k]?.getD ([], [])).2 := by
  rw [List.drop_eq_getElem_cons hk, Tm.firstRule]
  simp only [hk, List.getElem?_eq_getElem, Option.getD_some] at he ⊢
  rw [if_neg he]

set_option maxRecDepth 100000 in
set_option maxHeartbeats 1000000 in
theorem rulesCheck_any (rs : RuleL) (a : Option Addr) (cap : Nat) (w : World) (hI : RulesAt w.heap.size w a rs) :
    Calls Try.prog 36 #[.slice a rs.length cap] w fun e w' => e = .returned (.int .i64 (Tm.rulesErr rs)) ∧ Below w.heap.size w w' := by
  by_cases h8 : 8 < rs.length
  · have h8' : (8 : Int) < (rs.length : Int) := by omega
    have hv : Tm.rulesErr rs = 2 := by unfold Tm.rulesErr; rw [if_pos h8]
    rw [hv]
    clear h8 hv hI
    go_enter Try.func36, Try.ntmps36
    go_wp2
    go_ret
    exact ⟨rfl, Below.refl _ _⟩
  · have h8' : (rs.length : Int) ≤ 8 := by omega
    have hv : Tm.rulesErr rs = Tm.firstRule rs := by unfold Tm.rulesErr; rw [if_neg h8]
    rw [hv]
    clear hv h8
    go_enter Try.func36, Try.ntmps36
    go_wp2
    go_loopw [11] (fun v wr => ∃ k : Nat, k ≤ rs.length ∧ v = .int .i64 (k : Int) ∧ Hid (Tm.firstRule rs = Tm.firstRule (rs.drop k)) ∧ Below w.heap.size w wr) (fun v _ => rs.length - (intOf v).toNat)
    case atStart => exact ⟨0, Nat.zero_le _, rfl, hid rfl, Below.refl _ _⟩
    case round =>
      obtain ⟨k, hk, rfl, hst, hB⟩ := hrel
      by_cases hlt : k < rs.length
      · have hlt' : (k : Int) < (rs.length : Int) := by omega
        obtain ⟨b, off, rfl, hb, aL, cL, aR, cR, h1, h2, h3, h4, _⟩ := (hI.below hB) k hlt
        have hs1 := hid (Tm.firstRule_step hlt)
        have hs2 := hid (Tm.firstRule_at hlt)
        obtain ⟨L, hL⟩ : ∃ L, (rs[k]?.getD ([], [])).1 = L := ⟨_, rfl⟩
        obtain ⟨R, hR⟩ : ∃ R, (rs[k]?.getD ([], [])).2 = R := ⟨_, rfl⟩
        rw [hL] at h1 h3 hs1 hs2
        rw [hR] at h2 h4 hs1 hs2
        have hBa : Below wr.heap.size wr (wr.alloc (.cells #[.slice aL L.length cL, .slice aR R.length cR] 39)) := (Below.refl _ wr).alloc (Nat.le_refl _) _
        have hC := hid (checkOne_any L R aL aR cL cR (wr.alloc (.cells #[.slice aL L.length cL, .slice aR R.length cR] 39)) (((h3.mono hB.size).below hBa).mono hBa.size) (((h4.mono hB.size).below hBa).mono hBa.size))
        have hBw := hB.trans (hBa.mono hB.size)
        clear hL hR h3 h4 hI
        by_cases he : Tm.ruleErr L R = 0
        · rw [he] at hC
          have Hs := hid (hs1.out he)
          clear he hs1 hs2
          go_wp2_with (first
            | (go_at_call 81; refine hC.out.mono ?_; clear hC; rintro e w2 ⟨rfl, b2⟩))
          go_roundw
          case rel => exact ⟨k + 1, by omega, by go_num, hid (hst.out.trans Hs.out), hBw.trans (b2.mono hBw.size)⟩
          case measure => simp [intOf]; omega
        · have hn : (Tm.ruleErr L R != 0) = true := by simpa using he
          have Hs := hid (hs2.out he)
          clear he hs1 hs2
          generalize Tm.ruleErr L R = q at *
          go_wp2_with (first
            | (go_at_call 81; refine hC.out.mono ?_; clear hC; rintro e w2 ⟨rfl, b2⟩))
          go_ret
          exact ⟨ret_int (hst.out.trans Hs.out).symm, hBw.trans (b2.mono hBw.size)⟩
      · obtain rfl : k = rs.length := by omega
        go_wp2
        go_ret
        exact ⟨by rw [hst.out, List.drop_length]; rfl, hB⟩

end Go.Proofs.Ytgeknojpcjadkaa

namespace Go.Proofs.Ytgeknojpcjadkaa
open Go.Proofs Go.RowKit Go.Shelf Go.Deep Go.ChangeShapes Go.WideShapes

def RulesIn (w : World) (a : Option Addr) (len cap : Nat) : Prop := ∃ rs : RuleL, rs.length = len ∧ RulesAt w.heap.size w a rs ∧ len ≤ cap ∧ cap ≤ maxLen
theorem term_open {H : Type} {enc : TypeId × Value → H} {w : World} {fuel : Nat} {v : Value} {x : DataW H × List MemPlace} (h : DataW.trod enc Try.prog w 0 (fun _ => true) true fuel 37 [v] = some x) :
    ∃ y : List Int × Option Addr × Nat, v = .slice y.2.1 y.1.length y.2.2 ∧ Ints w.heap.size w y.2.1 y.1 ∧ y.1.length ≤ y.2.2 ∧ y.2.2 ≤ maxLen := by
  rcases open_ints Try.underlying37 Try.underlying3 (by kernel_rfl) h with ⟨hcs, _⟩ | ⟨a, l, c, zs, hcs, _, hl, hm, hz, _, hcell, hwz⟩
  · simp only [List.cons.injEq, and_true] at hcs
    subst hcs
    exact ⟨([], none, 0), rfl, Ints.nil _ _ _, Nat.le_refl _, Nat.zero_le _⟩
  · simp only [List.cons.injEq, and_true] at hcs
    subst hcs
    simp only [if_true] at hz
    have hI := ints_of_cells (w := w) (a := some a) (L := l) (C := c) (Z := zs) hl hz (fun y hy k hk => by cases hy; exact hcell k (by omega)) (fun e => by cases e)
    have hlen : (zs.take l).length = l := by rw [List.length_take]; omega
    exact ⟨(zs.take l, some a, c), by rw [hlen], hI, by rw [hlen]; exact hl, hm⟩
theorem rulesIn_open {H : Type} {enc : TypeId × Value → H} {w : World} {fuel : Nat} {a : Option Addr} {len cap : Nat} {cs : List Value} {x : DataW H × List MemPlace} {t e : TypeId} {f0 f1 : Field} (ht : Try.prog.underlying t = some (.slice e)) (he : Try.prog.underlying e = some (.struct #[f0, f1]))
    (ce : Try.prog.cellsOf e = 2) (o0 : f0.offset = 0) (o1 : f1.offset = 1) (t0 : f0.type = 37) (t1 : f1.type = 37) (hcs : cs = [.slice a len cap]) (h : DataW.trod enc Try.prog w 0 (fun _ => true) true fuel t cs = some x) : RulesIn w a len cap := by
  have c1 : Try.prog.cellsOf 37 = 1 := by kernel_rfl
  rcases open_slice_pairs ht he ce o0 o1 (by rw [t0]; exact c1) (by rw [t1]; exact c1) h with ⟨hc, _⟩ | ⟨ad, l, c, m, n, V0, V1, D0, D1, P0, P1, hc, _, hl, hm, hmm, _, hrow⟩
  · rw [hcs] at hc
    simp only [List.cons.injEq, Value.slice.injEq, and_true] at hc
    obtain ⟨rfl, rfl, rfl⟩ := hc
    exact ⟨[], rfl, fun k hk => by simp at hk, Nat.le_refl _, Nat.zero_le _⟩
  · rw [hcs] at hc
    simp only [List.cons.injEq, Value.slice.injEq, and_true] at hc
    obtain ⟨rfl, rfl, rfl⟩ := hc
    simp only [if_true] at hmm
    rw [t0, t1] at hrow
    have each : ∀ i, i < m → ∃ y : (List Int × Option Addr × Nat) × (List Int × Option Addr × Nat), (V0 i = .slice y.1.2.1 y.1.1.length y.1.2.2 ∧ Ints w.heap.size w y.1.2.1 y.1.1 ∧ y.1.1.length ≤ y.1.2.2 ∧ y.1.2.2 ≤ maxLen) ∧ (V1 i = .slice y.2.2.1 y.2.1.length y.2.2.2 ∧ Ints w.heap.size w y.2.2.1 y.2.1 ∧ y.2.1.length ≤ y.2.2.2 ∧ y.2.2.2 ≤ maxLen) := fun i hi => by
      obtain ⟨_, _, h0, h1⟩ := hrow i hi
      obtain ⟨y0, hy0⟩ := term_open h0
      obtain ⟨y1, hy1⟩ := term_open h1
      exact ⟨(y0, y1), hy0, hy1⟩
    obtain ⟨y, hy⟩ := choose_lt each
    refine ⟨(List.range len).map fun i => ((y i).1.1, (y i).2.1), by simp, fun k hk => ?_, hl, hm⟩
    have hk' : k < len := by simpa using hk
    obtain ⟨c0, c1', _, _⟩ := hrow k (by omega)
    obtain ⟨⟨e0, i0, q0, r0⟩, ⟨e1, i1, q1, r1⟩⟩ := hy k (by omega)
    have hsp := World.cell?_spot (hrow 0 (by omega)).1
    obtain ⟨b, off, spot⟩ := ad
    have hspot : spot = none := by simpa [Addr.add] using hsp
    subst hspot
    rw [add_plain] at c0 c1'
    have e : ((List.range len).map fun i => ((y i).1.1, (y i).2.1))[k]?.getD ([], []) = ((y k).1.1, (y k).2.1) := by simp [hk']
    rw [e]
    exact ⟨b, off, rfl, by simpa using lt_of_cell c0, _, _, _, _, by rw [← e0]; exact c0, by rw [← e1, Nat.add_assoc]; exact c1', i0, i1, q0, r0, q1, r1⟩

end Go.Proofs.Ytgeknojpcjadkaa

namespace Go.Proofs.Ytgeknojpcjadkaa
open Go.Proofs Go.RowKit Go.Shelf Go.Maps

def Tm.oth (s : Int) : Int := if s < 0 then s - 4 else s
def Tm.others (t : List Int) : List Int := t.map Tm.oth
theorem Tm.others_length (t : List Int) : (Tm.others t).length = t.length := by simp [Tm.others]
theorem Tm.others_snoc {t : List Int} {k : Nat} (h : k < t.length) : Tm.others (t.take (k + 1)) = Tm.others (t.take k) ++ [Tm.oth (t[k]?.getD 0)] := by
  rw [take_snoc h]
  simp [Tm.others]

set_option maxRecDepth 100000 in
/-- The function literal of apart. -/
theorem apart1_any (s : Int) (h8 : -100 ≤ s) (w : World) :
    Calls Try.prog 84 #[.int .i64 s] w fun e w' => ∃ b, e = .returned (.slice (some b) 1 1) ∧ Ints w'.heap.size w' (some b) [Tm.oth s] ∧ Below w.heap.size w w' := by
  by_cases hs : s < 0
  · have ho : Hid (Tm.oth s = s - 4) := by show _ = _; unfold Tm.oth; rw [if_pos hs]
    have h := ints_lit w [s - 4] _ rfl
    simp only [List.map_cons, List.map_nil] at h
    go_enter Try.func84, Try.ntmps84
    go_wp2
    go_ret
    exact ⟨_, rfl, by rw [ho.out]; simpa using h, (Below.refl _ _).alloc (Nat.le_refl _) _⟩
  · have ho : Hid (Tm.oth s = s) := by show _ = _; unfold Tm.oth; rw [if_neg hs]
    have h := ints_lit w [s] _ rfl
    simp only [List.map_cons, List.map_nil] at h
    go_enter Try.func84, Try.ntmps84
    go_wp2
    go_ret
    exact ⟨_, rfl, by rw [ho.out]; simpa using h, (Below.refl _ _).alloc (Nat.le_refl _) _⟩

set_option maxRecDepth 100000 in
set_option maxHeartbeats 400000 in
/-- signs.Change by it. -/
theorem change_apart (t : List Int) (at' : Option Addr) (ct : Nat) (ht : t.length ≤ 1000) (h8 : ∀ k, k < t.length → -100 ≤ t[k]?.getD 0) (w : World) (hT : Ints w.heap.size w at' t) :
    Calls Try.prog 85 #[.slice at' t.length ct, .func (.func 84) #[] #[]] w fun e w' => ∃ v, e = .returned v ∧ New w.heap.size w' v (Tm.others t) ∧ Below w.heap.size w w' := by
  have hlen : (t.length : Int) ≤ 1000 := by omega
  have HT := hid hT
  have H8 := hid h8
  clear hT h8
  go_enter Try.func85, Try.ntmps85
  go_wp2
  go_loopw [5, 10] (fun v i wr => ∃ k : Nat, k ≤ t.length ∧ i = .int .i64 (k : Int) ∧ New w.heap.size wr v (Tm.others (t.take k)) ∧ Below w.heap.size w wr) (fun _ i _ => t.length - (intOf i).toNat)
  case atStart => exact ⟨0, Nat.zero_le _, rfl, New.nil _ _, Below.refl _ _⟩
  case round =>
    obtain ⟨k, hk, rfl, hN, hBr⟩ := hrel
    by_cases hlt : k < t.length
    · have hlt' : (k : Int) < (t.length : Int) := by omega
      obtain ⟨b, off, rfl, hb, hc⟩ := HT.out.at (by omega)
      have hck := (hBr.cell (p := ⟨b, off + k, none⟩) hb).trans (hc k hlt)
      have hf := apart1_any (t[k]?.getD 0) (H8.out k hlt) wr
      have hsn := hid (Tm.others_snoc hlt)
      have hle := Tm.others_length (t.take k)
      rw [List.length_take] at hle
      have hle2 : (Tm.others (t.take k)).length ≤ 1000 := by omega
      clear hc hle
      generalize Tm.oth (t[k]?.getD 0) = pc at *
      generalize t[k]?.getD 0 = s at *
      generalize Tm.others (t.take k) = xs at *
      obtain ⟨a0, c0, rfl, _⟩ := New.ints hN
      go_wp2_with (first
        | (go_at_call 84; refine hf.mono ?_; clear hf; rintro e w1 ⟨b1, rfl, hI1, hB1⟩; have hN1 := New.below hN hB1; have hB2 := hBr.trans (hB1.mono hBr.size))
        | (at_builtin; go_loud (refine wp_append_ints _ rfl _ _ rfl w.heap.size _ xs rfl hN1 (some b1) [pc] 1 rfl (fun e => by cases e) hI1 (by simp; omega) hB2.size ?_); intro v' w2 hN2 hB3; obtain ⟨a2, c2, rfl, _⟩ := New.ints hN2))
      go_roundw
      case rel => exact ⟨k + 1, by omega, by go_num, by rw [hsn.out]; simpa using hN2, hB2.trans hB3⟩
      case measure => simp [intOf]; omega
    · obtain rfl : k = t.length := by omega
      rw [List.take_length] at hN
      obtain ⟨a2, c2, rfl, _⟩ := New.ints hN
      go_wp2
      go_ret
      exact ⟨_, rfl, hN, hBr⟩

end Go.Proofs.Ytgeknojpcjadkaa
