/-
  sub.Check and haspref.SubError: for every list of lists of signs.
-/
import Derived.Test.YtbelnlemjcoifaaRow
namespace Go.Proofs.Ytbelnlemjcoifaa
open Go.Proofs Go.RowKit Go.Shelf

/-- THE SLICE OF SLICES AT a HOLDS THE LISTS ss, all below block n. -/
def Subs (n : Nat) (W : World) (a : Option Addr) (ss : List (List Int)) : Prop :=
  ∀ j, j < ss.length → ∃ b off aj cj, a = some ⟨b, off, none⟩ ∧ b < n ∧ W.cell? ⟨b, off + j, none⟩ = some (.slice aj (ss[j]?.getD []).length cj) ∧ Ints n W aj (ss[j]?.getD []) ∧ (ss[j]?.getD []).length ≤ cj ∧ cj ≤ maxLen ∧ (aj = none → cj = 0)
theorem Subs.below {n : Nat} {A B : World} (h : Below n A B) {a : Option Addr} {ss : List (List Int)} (hs : Subs n A a ss) : Subs n B a ss := fun j hj => by
  obtain ⟨b, off, aj, cj, e, hb, hc, hI, h1, h2, h3⟩ := hs j hj
  exact ⟨b, off, aj, cj, e, hb, (h.cell (p := ⟨b, off + j, none⟩) hb).trans hc, hI.below h, h1, h2, h3⟩
theorem Subs.mono {n m : Nat} (h : n ≤ m) {W : World} {a : Option Addr} {ss : List (List Int)} (hs : Subs n W a ss) : Subs m W a ss := fun j hj => by
  obtain ⟨b, off, aj, cj, e, hb, hc, hI, h1, h2, h3⟩ := hs j hj
  exact ⟨b, off, aj, cj, e, by omega, hc, hI.mono h, h1, h2, h3⟩
theorem Subs.at {n : Nat} {W : World} {a : Option Addr} {ss : List (List Int)} (hs : Subs n W a ss) (h : 0 < ss.length) :
    ∃ b off, a = some ⟨b, off, none⟩ ∧ b < n ∧ ∀ j, j < ss.length → ∃ aj cj, W.cell? ⟨b, off + j, none⟩ = some (.slice aj (ss[j]?.getD []).length cj) ∧ Ints n W aj (ss[j]?.getD []) ∧ (ss[j]?.getD []).length ≤ cj ∧ cj ≤ maxLen ∧ (aj = none → cj = 0) := by
  obtain ⟨b, off, _, _, rfl, hb, _⟩ := hs 0 h
  refine ⟨b, off, rfl, hb, fun j hj => ?_⟩
  obtain ⟨b', off', aj, cj, e, _, hc, hr⟩ := hs j hj
  cases e
  exact ⟨aj, cj, hc, hr⟩
theorem Subs.nil (n : Nat) (W : World) (a : Option Addr) : Subs n W a [] := fun j hj => by simp at hj

/-- The first error of a list of terms. -/
def Tm.firstErr : List (List Int) → Int
  | [] => 0
  | t :: l => if Tm.err t = 0 then Tm.firstErr l else Tm.err t
def Tm.subErr (ss : List (List Int)) : Int := if ss.length = 8 then Tm.firstErr ss else 1
theorem Tm.firstErr_step {ss : List (List Int)} {k : Nat} (hk : k < ss.length) (he : Tm.err (ss[k]?.getD []) = 0) : Tm.firstErr (ss.drop k) = Tm.firstErr (ss.drop (k + 1)) := by
  rw [List.drop_eq_getElem_cons hk, Tm.firstErr]
  simp only [hk, List.getElem?_eq_getElem, Option.getD_some] at he
  rw [if_pos he]
theorem Tm.firstErr_stop {ss : List (List Int)} {k : Nat} (hk : k < ss.length) (he : Tm.err (ss[k]?.getD []) ≠ 0) : Tm.firstErr (ss.drop k) = Tm.err (ss[k]?.getD []) := by
  rw [List.drop_eq_getElem_cons hk, Tm.firstErr]
  simp only [hk, List.getElem?_eq_getElem, Option.getD_some] at he ⊢
  rw [if_neg he]
theorem Tm.firstErr_all {ss : List (List Int)} (h : Tm.firstErr ss = 0) : ∀ k, k < ss.length → Tm.err (ss[k]?.getD []) = 0 := by
  induction ss with
  | nil => intro k hk; simp at hk
  | cons t l ih =>
    intro k hk
    unfold Tm.firstErr at h
    by_cases he : Tm.err t = 0
    · rw [if_pos he] at h
      cases k with
      | zero => simpa using he
      | succ k => simpa using ih h k (by simpa using hk)
    · rw [if_neg he] at h; exact absurd h he

set_option maxHeartbeats 400000 in
theorem subCheck_len (len : Nat) (a : Option Addr) (cap : Nat) (w : World) (hl : len ≠ 8) : Calls Try.prog 28 #[.slice a len cap] w fun e w' => e = .returned (.int .i64 1) ∧ Below w.heap.size w w' := by
  have h1 : ((len : Int) != 8) = true := by simp; omega
  go_enter Try.func28, Try.ntmps28
  go_wp2
  go_ret
  exact ⟨rfl, Below.refl _ _⟩

set_option maxRecDepth 100000 in
set_option maxHeartbeats 400000 in
theorem subCheck_eight (ss : List (List Int)) (hl : ss.length = 8) (a : Option Addr) (cap : Nat) (w : World) (hS : Subs w.heap.size w a ss) :
    Calls Try.prog 28 #[.slice a 8 cap] w fun e w' => e = .returned (.int .i64 (Tm.firstErr ss)) ∧ Below w.heap.size w w' := by
  obtain ⟨b, off, rfl, hb, hc⟩ := hS.at (by omega)
  have Hc := hid hc
  have Hl := hid hl
  clear hc hS hl
  go_enter Try.func28, Try.ntmps28
  go_wp2
  go_loopw [11] (fun i wr => ∃ k : Nat, k ≤ 8 ∧ i = .int .i64 (k : Int) ∧ Hid (Tm.firstErr ss = Tm.firstErr (ss.drop k)) ∧ Below w.heap.size w wr) (fun i _ => 8 - (intOf i).toNat)
  case atStart => exact ⟨0, Nat.zero_le _, rfl, rfl, Below.refl _ _⟩
  case round =>
    obtain ⟨k, hk, rfl, hf, hB⟩ := hrel
    by_cases hlt : k < 8
    · have hlt' : (k : Int) < 8 := by omega
      obtain ⟨aj, cj, hcj, hIj, _⟩ := Hc.out k (by rw [Hl.out]; exact hlt)
      have hcj' := (hB.cell (p := ⟨b, off + k, none⟩) hb).trans hcj
      have hC := check_any (ss[k]?.getD []) aj cj wr ((hIj.below hB).mono hB.size)
      have hst := hid (Tm.firstErr_step (ss := ss) (k := k) (by rw [Hl.out]; exact hlt))
      have hsp := hid (Tm.firstErr_stop (ss := ss) (k := k) (by rw [Hl.out]; exact hlt))
      clear hcj hIj
      generalize ss[k]?.getD [] = t at *
      by_cases he : Tm.err t = 0
      · have hst' := hid (hf.out.trans (hst.out he))
        rw [he] at hC
        clear hst hsp he hf
        go_wp2_with (go_at_call 19; refine hC.mono ?_; clear hC; rintro e w1 ⟨rfl, hB1⟩)
        go_roundw
        case rel => exact ⟨k + 1, by omega, by go_num, hst'.out, hB.trans (hB1.mono hB.size)⟩
        case measure => simp [intOf]; omega
      · have hsp' := hid (hf.out.trans (hsp.out he))
        have hne : (Tm.err t != 0) = true := by simp [he]
        clear hst hsp he hf
        generalize Tm.err t = q at *
        go_wp2_with (go_at_call 19; refine hC.mono ?_; clear hC; rintro e w1 ⟨rfl, hB1⟩)
        go_ret
        exact ⟨by rw [hsp'.out]; rfl, hB.trans (hB1.mono hB.size)⟩
    · obtain rfl : k = 8 := by omega
      have h0 : Hid (Tm.firstErr ss = 0) := by
        show _ = _
        rw [hf.out, ← Hl.out, List.drop_length]
        rfl
      clear hf
      go_wp2
      go_ret
      exact ⟨by rw [h0.out]; rfl, hB⟩

/-- sub.Check. -/
theorem subCheck_any (ss : List (List Int)) (a : Option Addr) (cap : Nat) (w : World) (hS : Subs w.heap.size w a ss) :
    Calls Try.prog 28 #[.slice a ss.length cap] w fun e w' => e = .returned (.int .i64 (Tm.subErr ss)) ∧ Below w.heap.size w w' := by
  unfold Tm.subErr
  by_cases hl : ss.length = 8
  · rw [if_pos hl, hl]; exact subCheck_eight ss hl a cap w hS
  · rw [if_neg hl]; exact subCheck_len _ a cap w hl

set_option maxHeartbeats 400000 in
theorem subError_len (len : Nat) (a : Option Addr) (cap : Nat) (w : World) (hl : len ≠ 8) : Calls Try.prog 29 #[.slice a len cap] w fun e w' => e = .returned (.int .i64 1) ∧ w' = w := by
  have h1 : ((len : Int) != 8) = true := by simp; omega
  go_enter Try.func29, Try.ntmps29
  go_wp2
  go_ret
  exact ⟨rfl, rfl⟩

set_option maxRecDepth 100000 in
set_option maxHeartbeats 400000 in
theorem subError_eight (ss : List (List Int)) (hl : ss.length = 8) (a : Option Addr) (cap : Nat) (w : World) (hS : Subs w.heap.size w a ss) :
    Calls Try.prog 29 #[.slice a 8 cap] w fun e w' => e = .returned (.int .i64 (Tm.firstErr ss)) ∧ w' = w := by
  obtain ⟨b, off, rfl, hb, hc⟩ := hS.at (by omega)
  have Hc := hid hc
  have Hl := hid hl
  clear hc hS hl
  go_enter Try.func29, Try.ntmps29
  go_wp2
  go_loop [3] (fun i => ∃ k : Nat, k ≤ 8 ∧ i = .int .i64 (k : Int) ∧ Hid (Tm.firstErr ss = Tm.firstErr (ss.drop k))) (fun i => 8 - (intOf i).toNat)
  case atStart => exact ⟨0, Nat.zero_le _, rfl, rfl⟩
  case round =>
    obtain ⟨k, hk, rfl, hf⟩ := hrel
    by_cases hlt : k < 8
    · have hlt' : (k : Int) < 8 := by omega
      obtain ⟨aj, cj, hcj, hIj, _⟩ := Hc.out k (by rw [Hl.out]; exact hlt)
      have hC := termError_any (ss[k]?.getD []) aj cj w hIj
      have hst := hid (Tm.firstErr_step (ss := ss) (k := k) (by rw [Hl.out]; exact hlt))
      have hsp := hid (Tm.firstErr_stop (ss := ss) (k := k) (by rw [Hl.out]; exact hlt))
      clear hIj
      generalize ss[k]?.getD [] = t at *
      by_cases he : Tm.err t = 0
      · have hst' := hid (hf.out.trans (hst.out he))
        rw [he] at hC
        clear hst hsp he hf
        go_wp2_with (go_at_call 20; refine hC.mono ?_; clear hC; rintro e w ⟨rfl, rfl⟩)
        go_round
        case rel => exact ⟨k + 1, by omega, by go_num, hst'.out⟩
        case measure => simp [intOf]; omega
      · have hsp' := hid (hf.out.trans (hsp.out he))
        have hne : (Tm.err t != 0) = true := by simp [he]
        clear hst hsp he hf
        generalize Tm.err t = q at *
        go_wp2_with (go_at_call 20; refine hC.mono ?_; clear hC; rintro e w ⟨rfl, rfl⟩)
        go_ret
        exact ⟨by rw [hsp'.out]; rfl, rfl⟩
    · obtain rfl : k = 8 := by omega
      have h0 : Hid (Tm.firstErr ss = 0) := by
        show _ = _
        rw [hf.out, ← Hl.out, List.drop_length]
        rfl
      clear hf
      go_wp2
      go_ret
      exact ⟨by rw [h0.out]; rfl, rfl⟩

/-- haspref.SubError. -/
theorem subError_any (ss : List (List Int)) (a : Option Addr) (cap : Nat) (w : World) (hS : Subs w.heap.size w a ss) :
    Calls Try.prog 29 #[.slice a ss.length cap] w fun e w' => e = .returned (.int .i64 (Tm.subErr ss)) ∧ w' = w := by
  unfold Tm.subErr
  by_cases hl : ss.length = 8
  · rw [if_pos hl, hl]; exact subError_eight ss hl a cap w hS
  · rw [if_neg hl]; exact subError_len _ a cap w hl

end Go.Proofs.Ytbelnlemjcoifaa
