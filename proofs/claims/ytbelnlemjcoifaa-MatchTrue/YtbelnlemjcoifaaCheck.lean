/-
  term.Check and haspref.TermError: for every list of signs: the error's number that the document names.
-/
import Derived.Test.YtbelnlemjcoifaaEnd
namespace Go.Proofs.Ytbelnlemjcoifaa
open Go.Proofs Go.RowKit Go.Shelf

theorem Tm.err_many {zs : List Int} (h : 30 < zs.length) : Tm.err zs = 2 := by simp [Tm.err, h]
theorem Tm.err_range {zs : List Int} (h : zs.length ≤ 30) {k : Nat} (hk : k < zs.length) (hs : Tm.known (zs[k]?.getD 0) = false) : Tm.err zs = 3 := by
  have : zs.all Tm.known = false := by
    rw [List.all_eq_false]
    exact ⟨zs[k], List.getElem_mem hk, by simpa [hk] using hs⟩
  simp only [Tm.err, this]
  rw [if_neg (by omega)]
  rfl
theorem Tm.err_ok {zs : List Int} (h : zs.length ≤ 30) (ha : zs.all Tm.known = true) (hr : Tm.run zs 1 = zs.length) : Tm.err zs = 0 := by
  simp only [Tm.err, ha, hr]
  rw [if_neg (by omega)]
  rfl
theorem Tm.err_form {zs : List Int} (h : zs.length ≤ 30) (ha : zs.all Tm.known = true) (hr : Tm.run zs 1 ≠ zs.length) : Tm.err zs = 1 := by
  simp only [Tm.err, ha]
  rw [if_neg (by omega), if_neg (by simp), if_neg hr]
theorem Tm.all_snoc {zs : List Int} {k : Nat} (hk : k < zs.length) (h : (zs.take k).all Tm.known = true) (hs : Tm.known (zs[k]?.getD 0) = true) : (zs.take (k + 1)).all Tm.known = true := by
  rw [List.take_succ_eq_append_getElem hk, List.all_append, h]
  simpa [hk] using hs
theorem Tm.endAt_zero (zs : List Int) : Tm.endAt zs 0 = Tm.run zs 1 := by simp [Tm.endAt]

theorem end_zero (zs : List Int) (hlen : zs.length ≤ 30) (a : Option Addr) (cap : Nat) (w : World) (hI : Ints w.heap.size w a zs) :
    Calls Try.prog 44 #[.slice a zs.length cap, .int .i64 0] w fun e w' => e = .returned (.int .i64 (Tm.run zs 1 : Int)) ∧ Below w.heap.size w w' := by
  have h := end_any zs hlen a cap 0 (by omega) w hI
  rw [Tm.endAt_zero] at h
  exact h

set_option maxHeartbeats 400000 in
theorem check_many (len : Nat) (a : Option Addr) (cap : Nat) (w : World) (hlen : 30 < len) :
    Calls Try.prog 19 #[.slice a len cap] w fun e w' => e = .returned (.int .i64 2) ∧ Below w.heap.size w w' := by
  have h1 : (30 : Int) < (len : Int) := by omega
  go_enter Try.func19, Try.ntmps19
  go_wp2
  go_ret
  exact ⟨rfl, Below.refl _ _⟩

set_option maxRecDepth 100000 in
set_option maxHeartbeats 1000000 in
theorem check_few (zs : List Int) (hlen : zs.length ≤ 30) (a : Option Addr) (cap : Nat) (w : World) (hI : Ints w.heap.size w a zs) :
    Calls Try.prog 19 #[.slice a zs.length cap] w fun e w' => e = .returned (.int .i64 (Tm.err zs)) ∧ Below w.heap.size w w' := by
  have h1 : (zs.length : Int) ≤ 30 := by omega
  go_enter Try.func19, Try.ntmps19
  go_wp2
  go_loop [10] (fun i => ∃ k : Nat, k ≤ zs.length ∧ i = .int .i64 (k : Int) ∧ (zs.take k).all Tm.known = true) (fun i => zs.length - (intOf i).toNat)
  case atStart => exact ⟨0, Nat.zero_le _, rfl, by simp⟩
  case round =>
    obtain ⟨k, hk, rfl, hall⟩ := hrel
    by_cases hlt : k < zs.length
    · have hlt' : (k : Int) < (zs.length : Int) := by omega
      obtain ⟨b, off, rfl, hb, hc⟩ := hI.at (by omega)
      have hck := hc k hlt
      have hsn := Tm.all_snoc hlt hall
      have her := Tm.err_range hlen hlt
      clear hc hI hall
      generalize zs[k]?.getD 0 = s at *
      cases hkn : Tm.known s with
      | true =>
        have hsn' := show Hid _ from hsn hkn
        clear hsn her
        go_wp2_with (go_at_call 50; refine (known_any _ _).mono ?_; rw [hkn]; rintro e w ⟨rfl, rfl⟩)
        go_round
        case rel => exact ⟨k + 1, by omega, by go_num, hsn'.out⟩
        case measure => simp [intOf]; omega
      | false =>
        have her' := show Hid _ from her hkn
        clear hsn her
        go_wp2_with (go_at_call 50; refine (known_any _ _).mono ?_; rw [hkn]; rintro e w ⟨rfl, rfl⟩)
        go_ret
        exact ⟨by rw [her'.out]; rfl, Below.refl _ _⟩
    · obtain rfl : k = zs.length := by omega
      rw [List.take_length] at hall
      by_cases hr : Tm.run zs 1 = zs.length
      · have he := show Hid _ from Tm.err_ok hlen hall hr
        have hne : ((Tm.run zs 1 : Int) != (zs.length : Int)) = false := by simp [hr]
        have hE := end_zero zs hlen a cap w hI
        clear hall hr hI
        generalize Tm.run zs 1 = q at *
        go_wp2_with (go_at_call 44; refine hE.mono ?_; clear hE; rintro e w1 ⟨rfl, hB⟩)
        go_ret
        exact ⟨by rw [he.out]; rfl, hB⟩
      · have he := show Hid _ from Tm.err_form hlen hall hr
        have hne : ((Tm.run zs 1 : Int) != (zs.length : Int)) = true := by simp; omega
        have hE := end_zero zs hlen a cap w hI
        clear hall hr hI
        generalize Tm.run zs 1 = q at *
        go_wp2_with (go_at_call 44; refine hE.mono ?_; clear hE; rintro e w1 ⟨rfl, hB⟩)
        go_ret
        exact ⟨by rw [he.out]; rfl, hB⟩

/-- term.Check. -/
theorem check_any (zs : List Int) (a : Option Addr) (cap : Nat) (w : World) (hI : Ints w.heap.size w a zs) :
    Calls Try.prog 19 #[.slice a zs.length cap] w fun e w' => e = .returned (.int .i64 (Tm.err zs)) ∧ Below w.heap.size w w' := by
  by_cases h : zs.length ≤ 30
  · exact check_few zs h a cap w hI
  · rw [Tm.err_many (by omega)]
    exact check_many _ a cap w (by omega)

end Go.Proofs.Ytbelnlemjcoifaa
