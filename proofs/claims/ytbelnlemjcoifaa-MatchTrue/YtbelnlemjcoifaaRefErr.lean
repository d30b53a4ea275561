/-
  haspref.TermError and haspref.PlaceError: for every list of signs, at every place.
-/
import Derived.Test.YtbelnlemjcoifaaCheck
namespace Go.Proofs.Ytbelnlemjcoifaa
open Go.Proofs Go.RowKit Go.Shelf

theorem inside_known (s : Int) : insideB s (-8) 5 = Tm.known s := by
  unfold insideB Tm.known
  congr 1
  simp only [decide_eq_decide]
  omega
theorem Tm.known_lt {s : Int} (h : Tm.known s = true) : s < 6 := by simp [Tm.known] at h; omega
theorem Tm.known_ge {s : Int} (h : Tm.known s = true) : -8 ≤ s := by simp [Tm.known] at h; omega
theorem Tm.all_at {zs : List Int} (h : zs.all Tm.known = true) {k : Nat} (hk : k < zs.length) : Tm.known (zs[k]?.getD 0) = true := by
  rw [List.all_eq_true] at h
  simpa [hk] using h zs[k] (List.getElem_mem hk)
theorem Tm.run_step {zs : List Int} {k o : Nat} (hk : k < zs.length) : Tm.run (zs.drop k) (o + 1) = 1 + Tm.run (zs.drop (k + 1)) (o + Tm.room (zs[k]?.getD 0)) := by
  rw [List.drop_eq_getElem_cons hk, Tm.run_cons]
  simp [hk]

set_option maxHeartbeats 400000 in
theorem termError_many (len : Nat) (a : Option Addr) (cap : Nat) (w : World) (hlen : 30 < len) :
    Calls Try.prog 20 #[.slice a len cap] w fun e w' => e = .returned (.int .i64 2) ∧ w' = w := by
  have h1 : (30 : Int) < (len : Int) := by omega
  go_enter Try.func20, Try.ntmps20
  go_wp2
  go_ret
  exact ⟨rfl, rfl⟩

set_option maxRecDepth 100000 in
set_option maxHeartbeats 1000000 in
theorem termError_few (zs : List Int) (hlen : zs.length ≤ 30) (a : Option Addr) (cap : Nat) (w : World) (hI : Ints w.heap.size w a zs) :
    Calls Try.prog 20 #[.slice a zs.length cap] w fun e w' => e = .returned (.int .i64 (Tm.err zs)) ∧ w' = w := by
  have h1 : (zs.length : Int) ≤ 30 := by omega
  go_enter Try.func20, Try.ntmps20
  go_wp2
  go_loop [3] (fun i => ∃ k : Nat, k ≤ zs.length ∧ i = .int .i64 (k : Int) ∧ (zs.take k).all Tm.known = true) (fun i => zs.length - (intOf i).toNat)
  case atStart => exact ⟨0, Nat.zero_le _, rfl, by simp⟩
  case round =>
    obtain ⟨k, hk, rfl, hall⟩ := hrel
    by_cases hlt : k < zs.length
    · have hlt' : (k : Int) < (zs.length : Int) := by omega
      obtain ⟨b, off, rfl, hb, hc⟩ := hI.at (by omega)
      have hck := hc k hlt
      have hsn := Tm.all_snoc hlt hall
      have her := Tm.err_range hlen hlt
      clear hc hI hall
      generalize zs[k]?.getD 0 = s at *
      cases hkn : Tm.known s with
      | true =>
        have hsn' := show Hid _ from hsn hkn
        clear hsn her
        go_wp2_with (go_at_call 51; refine (within_any _ _ _ _).mono ?_; rw [inside_known, hkn]; rintro e w ⟨rfl, rfl⟩)
        go_round
        case rel => exact ⟨k + 1, by omega, by go_num, hsn'.out⟩
        case measure => simp [intOf]; omega
      | false =>
        have her' := show Hid _ from her hkn
        clear hsn her
        go_wp2_with (go_at_call 51; refine (within_any _ _ _ _).mono ?_; rw [inside_known, hkn]; rintro e w ⟨rfl, rfl⟩)
        go_ret
        exact ⟨by rw [her'.out]; rfl, rfl⟩
    · obtain rfl : k = zs.length := by omega
      rw [List.take_length] at hall
      have Hall := show Hid _ from hall
      clear hall
      go_wp2
      go_loop [4, 5] (fun o i => ∃ k n : Nat, k ≤ zs.length ∧ n ≤ k + 1 ∧ i = .int .i64 (k : Int) ∧ o = .int .i64 (n : Int) ∧ Tm.run zs 1 = k + Tm.run (zs.drop k) n) (fun _ i => zs.length - (intOf i).toNat)
      case atStart => exact ⟨0, 1, Nat.zero_le _, by omega, rfl, rfl, by simp⟩
      case round =>
        obtain ⟨k, n, hk, hn, rfl, rfl, hrun⟩ := hrel
        have Hrun := show Hid _ from hrun
        clear hrun
        by_cases hlt : k < zs.length
        · have hlt' : (k : Int) < (zs.length : Int) := by omega
          by_cases hn0 : n = 0
          · subst hn0
            have he := show Hid _ from Tm.err_form hlen Hall.out (by rw [Hrun.out, Tm.run_zero]; omega)
            clear hI
            go_wp2
            go_ret
            exact ⟨by rw [he.out]; rfl, rfl⟩
          · obtain ⟨m, rfl⟩ : ∃ m, n = m + 1 := ⟨n - 1, by omega⟩
            have hn0' : (((m + 1 : Nat) : Int) == 0) = false := by simp; omega
            obtain ⟨b, off, rfl, hb, hc⟩ := hI.at (by omega)
            have hck := hc k hlt
            have hs6 := Tm.known_lt (Tm.all_at Hall.out hlt)
            have hst := show Hid _ from Tm.run_step (o := m) hlt
            have hr2 := Tm.room_le (zs[k]?.getD 0)
            clear hc hI
            generalize zs[k]?.getD 0 = s at *
            have hsz := size_any s w hs6
            generalize Tm.room s = r at *
            go_wp2_with (go_at_call 52; refine hsz.mono ?_; clear hsz; rintro e w ⟨rfl, rfl⟩)
            go_round
            case rel => exact ⟨k + 1, m + r, by omega, by omega, by go_num, by go_num, by rw [Hrun.out, hst.out]; omega⟩
            case measure => simp [intOf]; omega
        · obtain rfl : k = zs.length := by omega
          have hrn : Tm.run zs 1 = zs.length + n := by rw [Hrun.out, List.drop_length, Tm.run_nil]
          by_cases hn0 : n = 0
          · subst hn0
            have he := show Hid _ from Tm.err_ok hlen Hall.out (by omega)
            clear hI hrn
            go_wp2
            go_ret
            exact ⟨by rw [he.out]; rfl, rfl⟩
          · have he := show Hid _ from Tm.err_form hlen Hall.out (by omega)
            have hn0' : ((n : Int) != 0) = true := by simp; omega
            clear hI hrn
            go_wp2
            go_ret
            exact ⟨by rw [he.out]; rfl, rfl⟩

/-- haspref.TermError. -/
theorem termError_any (zs : List Int) (a : Option Addr) (cap : Nat) (w : World) (hI : Ints w.heap.size w a zs) :
    Calls Try.prog 20 #[.slice a zs.length cap] w fun e w' => e = .returned (.int .i64 (Tm.err zs)) ∧ w' = w := by
  by_cases h : zs.length ≤ 30
  · exact termError_few zs h a cap w hI
  · rw [Tm.err_many (by omega)]
    exact termError_many _ a cap w (by omega)

end Go.Proofs.Ytbelnlemjcoifaa
