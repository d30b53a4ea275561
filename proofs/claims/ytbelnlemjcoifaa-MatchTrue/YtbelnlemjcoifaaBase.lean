/-
  THE SMALL FUNCTIONS: what signs.Room, signs.Known, haspref.size, haspref.within, term.hasPlace answer, for every argument.
-/
import Derived.Test.YtbelnlemjcoifaaMath
import Derived.Test.YtbelnlemjcoifaaProg
import Derived.WalkKit
import Derived.WalkSpells
namespace Go.Proofs.Ytbelnlemjcoifaa
open Go.Proofs Go.RowKit

theorem hid {p : Prop} (h : p) : Hid p := h
theorem ret_int {k : IntKind} {a b : Int} (h : a = b) : Ending.returned (.int k a) = .returned (.int k b) := by rw [h]
theorem ret_bool {a b : Bool} (h : a = b) : Ending.returned (.bool a) = .returned (.bool b) := by rw [h]

set_option maxHeartbeats 400000 in
theorem room_any (s : Int) (w : World) : Calls Try.prog 85 #[.int .i64 s] w fun e w' => e = .returned (.int .i64 (Tm.room s : Int)) ∧ w' = w := by
  by_cases h2 : s = 2
  · subst h2; go_enter Try.func85, Try.ntmps85; go_wp2; go_ret; exact ⟨rfl, rfl⟩
  by_cases h3 : s = 3
  · subst h3; go_enter Try.func85, Try.ntmps85; go_wp2; go_ret; exact ⟨rfl, rfl⟩
  by_cases h4 : s = 4
  · subst h4; go_enter Try.func85, Try.ntmps85; go_wp2; go_ret; exact ⟨rfl, rfl⟩
  by_cases h5 : s = 5
  · subst h5; go_enter Try.func85, Try.ntmps85; go_wp2; go_ret; exact ⟨rfl, rfl⟩
  have e : Tm.room s = 0 := by simp [Tm.room, h2, h3, h4, h5]
  have b2 : (s == 2) = false := by simp [h2]
  have b3 : (s == 3) = false := by simp [h3]
  have b4 : (s == 4) = false := by simp [h4]
  have b5 : (s == 5) = false := by simp [h5]
  clear h2 h3 h4 h5
  rw [e]
  clear e
  go_enter Try.func85, Try.ntmps85
  go_wp2
  go_ret
  exact ⟨rfl, rfl⟩

set_option maxHeartbeats 400000 in
theorem known_any (s : Int) (w : World) : Calls Try.prog 50 #[.int .i64 s] w fun e w' => e = .returned (.bool (Tm.known s)) ∧ w' = w := by
  by_cases h1 : -8 ≤ s
  · by_cases h2 : s < 6
    · go_enter Try.func50, Try.ntmps50; go_wp2; go_ret; exact ⟨ret_bool (by simp [Tm.known, h1, h2]), rfl⟩
    · go_enter Try.func50, Try.ntmps50; go_wp2; go_ret; exact ⟨ret_bool (by simp [Tm.known, h1, h2]), rfl⟩
  · have h1' : decide (-8 ≤ s) = false := by simpa using h1
    go_enter Try.func50, Try.ntmps50; go_wp2; go_ret; exact ⟨ret_bool (by simp [Tm.known]; omega), rfl⟩

/-- haspref.size, of a sign below 6. -/
theorem size_any (s : Int) (w : World) (h : s < 6) : Calls Try.prog 52 #[.int .i64 s] w fun e w' => e = .returned (.int .i64 (Tm.room s : Int)) ∧ w' = w := by
  by_cases h2 : s < 2
  · have e : Tm.room s = 0 := by unfold Tm.room; rw [if_neg (by omega), if_neg (by omega)]
    rw [e]; clear e
    go_enter Try.func52, Try.ntmps52; go_wp2; go_ret; exact ⟨rfl, rfl⟩
  by_cases h4 : s < 4
  · have e : Tm.room s = 1 := by unfold Tm.room; rw [if_pos (by omega)]
    rw [e]; clear e
    go_enter Try.func52, Try.ntmps52; go_wp2; go_ret; exact ⟨rfl, rfl⟩
  · have e : Tm.room s = 2 := by unfold Tm.room; rw [if_neg (by omega), if_pos (by omega)]
    rw [e]; clear e
    go_enter Try.func52, Try.ntmps52; go_wp2; go_ret; exact ⟨rfl, rfl⟩

/-- low ≤ n ≤ high, as a Bool that the walk does not take apart. -/
def insideB (n low high : Int) : Bool := decide (low ≤ n) && decide (n ≤ high)
theorem insideB_iff (n low high : Int) : insideB n low high = true ↔ low ≤ n ∧ n ≤ high := by simp [insideB]

set_option maxHeartbeats 400000 in
theorem within_any (n low high : Int) (w : World) : Calls Try.prog 51 #[.int .i64 n, .int .i64 low, .int .i64 high] w fun e w' => e = .returned (.bool (insideB n low high)) ∧ w' = w := by
  by_cases h1 : low ≤ n
  · by_cases h2 : n ≤ high
    · go_enter Try.func51, Try.ntmps51; go_wp2; go_ret; exact ⟨ret_bool (by simp [insideB, h1, h2]), rfl⟩
    · go_enter Try.func51, Try.ntmps51; go_wp2; go_ret; exact ⟨ret_bool (by simp [insideB, h1, h2]), rfl⟩
  · have h1' : decide (low ≤ n) = false := by simpa using h1
    go_enter Try.func51, Try.ntmps51; go_wp2; go_ret; exact ⟨ret_bool (by simp [insideB]; omega), rfl⟩

set_option maxHeartbeats 400000 in
theorem hasPlace_any (a : Option Addr) (len cap : Nat) (k : Int) (w : World) : Calls Try.prog 43 #[.slice a len cap, .int .i64 k] w fun e w' => e = .returned (.bool (insideB k 0 ((len : Int) - 1))) ∧ w' = w := by
  by_cases h1 : 0 ≤ k
  · by_cases h2 : k < (len : Int)
    · go_enter Try.func43, Try.ntmps43; go_wp2; go_ret; exact ⟨ret_bool (by simp [insideB]; omega), rfl⟩
    · go_enter Try.func43, Try.ntmps43; go_wp2; go_ret; exact ⟨ret_bool (by simp [insideB]; omega), rfl⟩
  · have h1' : decide (0 ≤ k) = false := by simpa using h1
    go_enter Try.func43, Try.ntmps43; go_wp2; go_ret; exact ⟨ret_bool (by simp [insideB]; omega), rfl⟩

end Go.Proofs.Ytbelnlemjcoifaa
