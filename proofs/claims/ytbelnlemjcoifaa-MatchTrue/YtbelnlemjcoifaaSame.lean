/-
  haspref.SameTerms and haspref.PlaceError.
-/
import Derived.Deep.QuietTactic
import Derived.BigQuiet
import Derived.WalkSmall
import Derived.Test.YtbelnlemjcoifaaRefErr
namespace Go.Proofs.Ytbelnlemjcoifaa
open Go.Proofs Go.RowKit Go.Shelf

/-- Are the lists the same? (a Bool that the walk does not take apart) -/
def sameB (xs ys : List Int) : Bool := decide (xs = ys)

theorem take_snoc {zs : List Int} {k : Nat} (h : k < zs.length) : zs.take (k + 1) = zs.take k ++ [zs[k]?.getD 0] := by
  rw [List.take_succ_eq_append_getElem h]; simp [h]
theorem same_step {xs ys : List Int} {k : Nat} (hx : k < xs.length) (hy : k < ys.length) (h : xs.take k = ys.take k) (he : xs[k]?.getD 0 = ys[k]?.getD 0) : xs.take (k + 1) = ys.take (k + 1) := by
  rw [take_snoc hx, take_snoc hy, h, he]
theorem same_not {xs ys : List Int} {k : Nat} (he : xs[k]?.getD 0 ≠ ys[k]?.getD 0) : sameB xs ys = false := by
  simp only [sameB, decide_eq_false_iff_not]
  rintro rfl
  exact he rfl
theorem same_len {xs ys : List Int} (h : xs.length ≠ ys.length) : sameB xs ys = false := by
  simp only [sameB, decide_eq_false_iff_not]
  rintro rfl
  exact h rfl
theorem same_yes {xs ys : List Int} (h : xs.take xs.length = ys.take xs.length) (hl : xs.length = ys.length) : sameB xs ys = true := by
  simp only [sameB, decide_eq_true_eq]
  rw [List.take_length, hl, List.take_length] at h
  exact h

set_option maxRecDepth 100000 in
set_option maxHeartbeats 1000000 in
theorem same_any (xs ys : List Int) (a b : Option Addr) (ca cb : Nat) (w : World) (hX : Ints w.heap.size w a xs) (hY : Ints w.heap.size w b ys) (hm : xs.length ≤ maxLen) :
    Calls Try.prog 21 #[.slice a xs.length ca, .slice b ys.length cb] w fun e w' => e = .returned (.bool (sameB xs ys)) ∧ Below w.heap.size w w' := by
  unfold maxLen at hm
  by_cases hl : xs.length = ys.length
  · have hne : ((xs.length : Int) != (ys.length : Int)) = false := by simp [hl]
    have Hl : Hid (xs.length = ys.length) := hl
    clear hl
    go_enter Try.func21, Try.ntmps21
    go_wp2
    go_loopw [5] (fun i wr => ∃ k : Nat, k ≤ xs.length ∧ i = .int .i64 (k : Int) ∧ Hid (xs.take k = ys.take k) ∧ Below w.heap.size w wr) (fun i _ => xs.length - (intOf i).toNat)
    case atStart => exact ⟨0, Nat.zero_le _, rfl, by simp [Hid], Below.refl _ _⟩
    case round =>
      obtain ⟨k, hk, rfl, hsame, hB⟩ := hrel
      by_cases hlt : k < xs.length
      · have hlt' : (k : Int) < (xs.length : Int) := by omega
        have hly : k < ys.length := by have := Hl.out; omega
        have hly' : (k : Int) < (ys.length : Int) := by omega
        obtain ⟨b1, off1, rfl, hb1, hc1⟩ := (hX.below hB).at (by omega)
        obtain ⟨b2, off2, rfl, hb2, hc2⟩ := (hY.below hB).at (by omega)
        have hx := hc1 k hlt
        have hy := hc2 k hly
        have hst := show Hid _ from @same_step xs ys k hlt hly hsame.out
        have hno := show Hid _ from @same_not xs ys k
        clear hc1 hc2 hX hY hly
        generalize xs[k]?.getD 0 = s at *
        generalize ys[k]?.getD 0 = u at *
        by_cases he : s = u
        · have hn : (s != u) = false := by simp [he]
          have He : Hid (s = u) := he
          clear he hno
          go_wp2
          go_quiet (fail)
          go_wp2
          go_roundw
          case rel => exact ⟨k + 1, by omega, by go_num, hst.out He.out, below_drewN hB _⟩
          case measure => simp [intOf]; omega
        · have hn : (s != u) = true := by simp [he]
          have hf := show Hid _ from hno.out he
          clear he hno hst
          go_wp2
          go_quiet (fail)
          go_wp2
          go_ret
          exact ⟨by rw [hf.out]; rfl, below_drewN hB _⟩
      · obtain rfl : k = xs.length := by omega
        have hy := show Hid _ from same_yes hsame.out Hl.out
        clear hX hY
        go_wp2
        go_ret
        exact ⟨by rw [hy.out]; rfl, hB⟩
  · have hne : ((xs.length : Int) != (ys.length : Int)) = true := by simp; omega
    rw [same_len hl]
    clear hl hX hY
    go_enter Try.func21, Try.ntmps21
    go_wp2
    go_ret
    exact ⟨rfl, Below.refl _ _⟩

end Go.Proofs.Ytbelnlemjcoifaa
