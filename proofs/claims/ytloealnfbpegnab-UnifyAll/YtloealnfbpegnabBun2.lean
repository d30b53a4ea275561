/-
  term.Put whatever it is handed; haspref.put, PutOf. · haspref.PutOf; hasplaw.fxga, termBegun. · hasplaw.termBegun: it answers true. · From the frame's word on a slice of ints that came in to ours. · sub.Check and haspref.SubError: for every list of lists of signs. · signs.Change by what a list says (sub.become's function literal), sub.become, sub.Apply. · haspref.applied, ApplyOf. · Slices of slices in new memory; haspref.SameSubs. · sub.None, haspref.NoneOf, hasplaw.some; sub.After, haspref.AfterOf. · hasplaw.some; sub.After, haspref.AfterOf. · sub.After, haspref.AfterOf. · haspref.AfterOf. · PLAIN MATHEMATICS: variables made plain in the order in which they first stand; and the map that keeps them. · signs.Plain's function literal; signs.Change by it. · signs.Plain of one term, sub.Plain.
-/
import Derived.Test.YtloealnfbpegnabBun1
import Derived.Deep.DeepCutAuto
import Derived.Maps.OwnSet
import Derived.Maps.OwnOps
namespace Go.Proofs.Ytloealnfbpegnab
open Go.Proofs Go.RowKit Go.Shelf

theorem Tm.putErr_zs {zs us : List Int} {k : Int} (he : Tm.err zs ≠ 0) : Tm.putErr zs k us = Tm.err zs := by simp [Tm.putErr, he]
theorem Tm.putErr_us {zs us : List Int} {k : Int} (he : Tm.err zs = 0) (hu : Tm.err us ≠ 0) : Tm.putErr zs k us = Tm.err us := by simp [Tm.putErr, he, hu]
theorem Tm.putErr_k {zs us : List Int} {k : Int} (he : Tm.err zs = 0) (hu : Tm.err us = 0) (hk : insideB k 0 ((zs.length : Int) - 1) = false) : Tm.putErr zs k us = 3 := by simp [Tm.putErr, he, hu, hk]
theorem Tm.putErr_in {zs us : List Int} {j : Nat} (he : Tm.err zs = 0) (hu : Tm.err us = 0) (hk : insideB (j : Int) 0 ((zs.length : Int) - 1) = true) : Tm.putErr zs (j : Int) us = if 30 < (Tm.put zs j us).length then 2 else 0 := by
  simp [Tm.putErr, he, hu, hk]
theorem Tm.putVal_in {zs us : List Int} {j : Nat} (he : Tm.err zs = 0) (hu : Tm.err us = 0) (hk : insideB (j : Int) 0 ((zs.length : Int) - 1) = true) : Tm.putVal zs (j : Int) us = if 30 < (Tm.put zs j us).length then [] else Tm.put zs j us := by
  unfold Tm.putVal
  rw [Tm.putErr_in he hu hk]
  by_cases h : 30 < (Tm.put zs j us).length <;> simp [h]
theorem Tm.putVal_out {zs us : List Int} {k : Int} (h : Tm.putErr zs k us ≠ 0) : Tm.putVal zs k us = [] := by simp [Tm.putVal, h]

theorem Tm.putVal_le (zs us : List Int) (k : Int) : (Tm.putVal zs k us).length ≤ 30 := by
  unfold Tm.putVal
  by_cases h : Tm.putErr zs k us = 0
  · rw [if_pos h]
    unfold Tm.putErr at h
    by_cases h1 : Tm.err zs = 0
    · rw [if_pos h1] at h
      by_cases h2 : Tm.err us = 0
      · rw [if_pos h2] at h
        by_cases h3 : insideB k 0 ((zs.length : Int) - 1) = true
        · rw [if_pos h3] at h
          by_cases h4 : 30 < (Tm.put zs k.toNat us).length
          · rw [if_pos h4] at h; omega
          · omega
        · rw [if_neg h3] at h; omega
      · rw [if_neg h2] at h; exact absurd h h2
    · rw [if_neg h1] at h; exact absurd h h1
  · rw [if_neg h]; exact Nat.zero_le _

end Go.Proofs.Ytloealnfbpegnab

namespace Go.Proofs.Ytloealnfbpegnab
open Go.Proofs Go.RowKit Go.Shelf

theorem ints_lit (W : World) (zs : List Int) (n : Nat) (hn : n = W.heap.size + 1) : Ints n (W.alloc (.cells (zs.map (Value.int .i64)).toArray 3)) (some ⟨W.heap.size, 0, none⟩) zs := by
  subst hn
  intro j hj
  refine ⟨W.heap.size, 0, rfl, by omega, ?_⟩
  rw [cell_at (World.alloc_heap_new W _)]
  simp [hj]

set_option maxHeartbeats 400000 in
theorem fxga_any (w : World) : Calls Try.prog 29 #[] w fun e w' => ∃ a, e = .returned (.slice a 4 4) ∧ Ints w'.heap.size w' a [4, -1, 2, 0] ∧ Below w.heap.size w w' := by
  have h := ints_lit w [4, -1, 2, 0] _ rfl
  simp only [List.map_cons, List.map_nil] at h
  go_enter Try.func29, Try.ntmps29
  go_wp2
  go_ret
  exact ⟨_, rfl, by simpa using h, (Below.refl _ _).alloc (Nat.le_refl _) _⟩

end Go.Proofs.Ytloealnfbpegnab

namespace Go.Proofs.Ytloealnfbpegnab
open Go.Proofs Go.RowKit Go.Shelf

theorem Tm.q1 : Tm.endVal [4, -1, 2, 0] 2 = 4 := by decide +kernel
theorem Tm.q2 : Tm.placeErr [4, -1, 2, 0] 2 = 0 := by decide +kernel
theorem Tm.q3 : Tm.partVal [4, -1, 2, 0] 2 = [2, 0] := by decide +kernel
theorem Tm.q4 : Tm.putErr [4, -1, 2, 0] 1 [3, 1] = 0 := by decide +kernel
theorem Tm.q5 : Tm.putVal [4, -1, 2, 0] 1 [3, 1] = [4, 3, 1, 2, 0] := by decide +kernel
theorem Tm.q6 : Tm.placeErr [4, -1, 2, 0] 4 = 3 := by decide +kernel
theorem Tm.q7 : Tm.partVal [4, -1, 2, 0] 4 = [] := by decide +kernel
theorem Tm.q8 : Tm.putErr (List.replicate 31 0) 0 [4, -1, 2, 0] = 2 := by decide +kernel
theorem Tm.q9 : Tm.putVal (List.replicate 31 0) 0 [4, -1, 2, 0] = [] := by decide +kernel
theorem Tm.q10 : Tm.err [4, -1, 2, 0] = 0 := by decide +kernel
theorem Tm.q11 : Tm.err [4, 0] = 1 := by decide +kernel
theorem Tm.q12 : Tm.err [0, 0] = 1 := by decide +kernel
theorem Tm.q13 : Tm.err [6] = 3 := by decide +kernel
theorem Tm.q14 : Tm.err [] = 1 := by decide +kernel

theorem make31 : ∃ M : Array Value, (∀ W : World, (Instr.makeSlice 23 (.int .i64 31) (.int .i64 31)).run Try.prog W = .ok (.slice (some ⟨W.heap.size, 0, none⟩) 31 31) (W.alloc (.cells M 3))) ∧
    ∀ W : World, Ints (W.alloc (.cells M 3)).heap.size (W.alloc (.cells M 3)) (some ⟨W.heap.size, 0, none⟩) (List.replicate 31 0) := by
  obtain ⟨i0, hi, hz0, hz1, hz2⟩ := info_parts Try.info3
  refine ⟨madeCells #[.int .i64 0] 31, fun W => ?_, fun W j hj => ?_⟩
  · have h := run_makeSlice (P := Try.prog) W 23 3 i0 (.int .i64 0) Try.underlying23 hi hz0 .i64 .i64 31 31 (by omega) (by omega) (by rw [hz1]; decide) (by rw [hz2]; decide) (by decide)
    rw [hz1] at h
    exact h
  · refine ⟨W.heap.size, 0, rfl, by simp, ?_⟩
    rw [cell_at (World.alloc_heap_new W _)]
    have h := toList_madeCells_one (.int .i64 0) 31
    rw [List.length_replicate] at hj
    rw [← Array.getElem?_toList, h, List.getElem?_replicate, if_pos (by omega), List.getElem?_replicate, if_pos hj]
    rfl

end Go.Proofs.Ytloealnfbpegnab

namespace Go.Proofs.Ytloealnfbpegnab
open Go.Proofs Go.RowKit Go.Shelf

theorem lt_of_cell {W : World} {a : Addr} {v : Value} (h : W.cell? a = some v) : a.block < W.heap.size := by
  obtain ⟨o, ho, _⟩ := not_walk_of_cell h
  exact (Array.getElem?_eq_some_iff.1 ho).1

theorem ints_of_row {w : World} {a : Option Addr} {len cap : Nat} {z : List Int}
    (h : (a = none ∧ len = 0 ∧ cap = 0 ∧ z = []) ∨ ∃ x, a = some x ∧ len ≤ cap ∧ cap ≤ maxLen ∧ z.length = cap ∧ (∀ i, i < z.length → w.cell? (x.add i) = some (.int .i64 (z.getD i 0))) ∧ ∀ n ∈ z, (Lit.int .i64 n).wf = true) :
    ∃ zs : List Int, zs.length = len ∧ Ints w.heap.size w a zs ∧ len ≤ cap ∧ cap ≤ maxLen ∧ (a = none → cap = 0) := by
  rcases h with ⟨rfl, rfl, rfl, rfl⟩ | ⟨x, rfl, h1, h2, h3, h4, _⟩
  · exact ⟨[], rfl, Ints.nil _ _ _, Nat.le_refl _, Nat.zero_le _, fun _ => rfl⟩
  · refine ⟨z.take len, by rw [List.length_take]; omega, fun j hj => ?_, h1, h2, fun h => by cases h⟩
    rw [List.length_take] at hj
    have hc := h4 j (by omega)
    have hsp := World.cell?_spot (h4 0 (by omega))
    obtain ⟨b, off, spot⟩ := x
    have hspot : spot = none := by simpa [Addr.add] using hsp
    subst hspot
    rw [Go.WideShapes.add_plain] at hc
    refine ⟨b, off, rfl, by simpa using lt_of_cell hc, ?_⟩
    rw [hc, List.getD_eq_getElem?_getD]
    simp [show j < len from by omega]

end Go.Proofs.Ytloealnfbpegnab

namespace Go.Proofs.Ytloealnfbpegnab
open Go.Proofs Go.RowKit Go.Shelf

/-- THE SLICE OF SLICES AT a HOLDS THE LISTS ss, all below block n. -/
def Subs (n : Nat) (W : World) (a : Option Addr) (ss : List (List Int)) : Prop :=
  ∀ j, j < ss.length → ∃ b off aj cj, a = some ⟨b, off, none⟩ ∧ b < n ∧ W.cell? ⟨b, off + j, none⟩ = some (.slice aj (ss[j]?.getD []).length cj) ∧ Ints n W aj (ss[j]?.getD []) ∧ (ss[j]?.getD []).length ≤ cj ∧ cj ≤ maxLen ∧ (aj = none → cj = 0)
theorem Subs.below {n : Nat} {A B : World} (h : Below n A B) {a : Option Addr} {ss : List (List Int)} (hs : Subs n A a ss) : Subs n B a ss := fun j hj => by
  obtain ⟨b, off, aj, cj, e, hb, hc, hI, h1, h2, h3⟩ := hs j hj
  exact ⟨b, off, aj, cj, e, hb, (h.cell (p := ⟨b, off + j, none⟩) hb).trans hc, hI.below h, h1, h2, h3⟩
theorem Subs.mono {n m : Nat} (h : n ≤ m) {W : World} {a : Option Addr} {ss : List (List Int)} (hs : Subs n W a ss) : Subs m W a ss := fun j hj => by
  obtain ⟨b, off, aj, cj, e, hb, hc, hI, h1, h2, h3⟩ := hs j hj
  exact ⟨b, off, aj, cj, e, by omega, hc, hI.mono h, h1, h2, h3⟩
theorem Subs.at {n : Nat} {W : World} {a : Option Addr} {ss : List (List Int)} (hs : Subs n W a ss) (h : 0 < ss.length) :
    ∃ b off, a = some ⟨b, off, none⟩ ∧ b < n ∧ ∀ j, j < ss.length → ∃ aj cj, W.cell? ⟨b, off + j, none⟩ = some (.slice aj (ss[j]?.getD []).length cj) ∧ Ints n W aj (ss[j]?.getD []) ∧ (ss[j]?.getD []).length ≤ cj ∧ cj ≤ maxLen ∧ (aj = none → cj = 0) := by
  obtain ⟨b, off, _, _, rfl, hb, _⟩ := hs 0 h
  refine ⟨b, off, rfl, hb, fun j hj => ?_⟩
  obtain ⟨b', off', aj, cj, e, _, hc, hr⟩ := hs j hj
  cases e
  exact ⟨aj, cj, hc, hr⟩
theorem Subs.nil (n : Nat) (W : World) (a : Option Addr) : Subs n W a [] := fun j hj => by simp at hj

/-- The first error of a list of terms. -/
def Tm.firstErr : List (List Int) → Int
  | [] => 0
  | t :: l => if Tm.err t = 0 then Tm.firstErr l else Tm.err t
def Tm.subErr (ss : List (List Int)) : Int := if ss.length = 8 then Tm.firstErr ss else 1
theorem Tm.firstErr_step {ss : List (List Int)} {k : Nat} (hk : k < ss.length) (he : Tm.err (ss[k]?.getD []) = 0) : Tm.firstErr (ss.drop k) = Tm.firstErr (ss.drop (k + 1)) := by
  rw [List.drop_eq_getElem_cons hk, Tm.firstErr]
  simp only [hk, List.getElem?_eq_getElem, Option.getD_some] at he
  rw [if_pos he]
theorem Tm.firstErr_stop {ss : List (List Int)} {k : Nat} (hk : k < ss.length) (he : Tm.err (ss[k]?.getD []) ≠ 0) : Tm.firstErr (ss.drop k) = Tm.err (ss[k]?.getD []) := by
  rw [List.drop_eq_getElem_cons hk, Tm.firstErr]
  simp only [hk, List.getElem?_eq_getElem, Option.getD_some] at he ⊢
  rw [if_neg he]
theorem Tm.firstErr_all {ss : List (List Int)} (h : Tm.firstErr ss = 0) : ∀ k, k < ss.length → Tm.err (ss[k]?.getD []) = 0 := by
  induction ss with
  | nil => intro k hk; simp at hk
  | cons t l ih =>
    intro k hk
    unfold Tm.firstErr at h
    by_cases he : Tm.err t = 0
    · rw [if_pos he] at h
      cases k with
      | zero => simpa using he
      | succ k => simpa using ih h k (by simpa using hk)
    · rw [if_neg he] at h; exact absurd h he

set_option maxHeartbeats 400000 in
theorem subCheck_len (len : Nat) (a : Option Addr) (cap : Nat) (w : World) (hl : len ≠ 8) : Calls Try.prog 32 #[.slice a len cap] w fun e w' => e = .returned (.int .i64 1) ∧ Below w.heap.size w w' := by
  have h1 : ((len : Int) != 8) = true := by simp; omega
  go_enter Try.func32, Try.ntmps32
  go_wp2
  go_ret
  exact ⟨rfl, Below.refl _ _⟩

set_option maxRecDepth 100000 in
set_option maxHeartbeats 400000 in
theorem subCheck_eight (ss : List (List Int)) (hl : ss.length = 8) (a : Option Addr) (cap : Nat) (w : World) (hS : Subs w.heap.size w a ss) :
    Calls Try.prog 32 #[.slice a 8 cap] w fun e w' => e = .returned (.int .i64 (Tm.firstErr ss)) ∧ Below w.heap.size w w' := by
  obtain ⟨b, off, rfl, hb, hc⟩ := hS.at (by omega)
  have Hc := hid hc
  have Hl := hid hl
  clear hc hS hl
  go_enter Try.func32, Try.ntmps32
  go_wp2
  go_loopw [11] (fun i wr => ∃ k : Nat, k ≤ 8 ∧ i = .int .i64 (k : Int) ∧ Hid (Tm.firstErr ss = Tm.firstErr (ss.drop k)) ∧ Below w.heap.size w wr) (fun i _ => 8 - (intOf i).toNat)
  case atStart => exact ⟨0, Nat.zero_le _, rfl, rfl, Below.refl _ _⟩
  case round =>
    obtain ⟨k, hk, rfl, hf, hB⟩ := hrel
    by_cases hlt : k < 8
    · have hlt' : (k : Int) < 8 := by omega
      obtain ⟨aj, cj, hcj, hIj, _⟩ := Hc.out k (by rw [Hl.out]; exact hlt)
      have hcj' := (hB.cell (p := ⟨b, off + k, none⟩) hb).trans hcj
      have hC := check_any (ss[k]?.getD []) aj cj wr ((hIj.below hB).mono hB.size)
      have hst := hid (Tm.firstErr_step (ss := ss) (k := k) (by rw [Hl.out]; exact hlt))
      have hsp := hid (Tm.firstErr_stop (ss := ss) (k := k) (by rw [Hl.out]; exact hlt))
      clear hcj hIj
      generalize ss[k]?.getD [] = t at *
      by_cases he : Tm.err t = 0
      · have hst' := hid (hf.out.trans (hst.out he))
        rw [he] at hC
        clear hst hsp he hf
        go_wp2_with (go_at_call 33; refine hC.mono ?_; clear hC; rintro e w1 ⟨rfl, hB1⟩)
        go_roundw
        case rel => exact ⟨k + 1, by omega, by go_num, hst'.out, hB.trans (hB1.mono hB.size)⟩
        case measure => simp [intOf]; omega
      · have hsp' := hid (hf.out.trans (hsp.out he))
        have hne : (Tm.err t != 0) = true := by simp [he]
        clear hst hsp he hf
        generalize Tm.err t = q at *
        go_wp2_with (go_at_call 33; refine hC.mono ?_; clear hC; rintro e w1 ⟨rfl, hB1⟩)
        go_ret
        exact ⟨by rw [hsp'.out]; rfl, hB.trans (hB1.mono hB.size)⟩
    · obtain rfl : k = 8 := by omega
      have h0 : Hid (Tm.firstErr ss = 0) := by
        show _ = _
        rw [hf.out, ← Hl.out, List.drop_length]
        rfl
      clear hf
      go_wp2
      go_ret
      exact ⟨by rw [h0.out]; rfl, hB⟩

/-- sub.Check. -/
theorem subCheck_any (ss : List (List Int)) (a : Option Addr) (cap : Nat) (w : World) (hS : Subs w.heap.size w a ss) :
    Calls Try.prog 32 #[.slice a ss.length cap] w fun e w' => e = .returned (.int .i64 (Tm.subErr ss)) ∧ Below w.heap.size w w' := by
  unfold Tm.subErr
  by_cases hl : ss.length = 8
  · rw [if_pos hl, hl]; exact subCheck_eight ss hl a cap w hS
  · rw [if_neg hl]; exact subCheck_len _ a cap w hl

end Go.Proofs.Ytloealnfbpegnab

namespace Go.Proofs.Ytloealnfbpegnab
open Go.Proofs Go.RowKit Go.Shelf

/-- What a sign becomes. -/
def Tm.piece (ss : List (List Int)) (s : Int) : List Int := if s < 0 then ss[(-1 - s).toNat]?.getD [] else [s]
def Tm.applied (ss : List (List Int)) (t : List Int) : List Int := t.flatMap (Tm.piece ss)
theorem Tm.applied_snoc (ss : List (List Int)) {t : List Int} {k : Nat} (h : k < t.length) : Tm.applied ss (t.take (k + 1)) = Tm.applied ss (t.take k) ++ Tm.piece ss (t[k]?.getD 0) := by
  rw [take_snoc h]
  simp [Tm.applied, List.flatMap_append]
/-- Each list is short. -/
def Short (ss : List (List Int)) : Prop := ∀ j, j < ss.length → (ss[j]?.getD []).length ≤ 30
theorem Short.of_ok {ss : List (List Int)} (h : Tm.firstErr ss = 0) : Short ss := fun j hj => Tm.err_len (Tm.firstErr_all h j hj)
theorem Short.any {ss : List (List Int)} (h : Short ss) (j : Nat) : (ss[j]?.getD []).length ≤ 30 := by
  by_cases hj : j < ss.length
  · exact h j hj
  · rw [List.getElem?_eq_none (by omega)]; simp
theorem Tm.piece_le {ss : List (List Int)} (h : Short ss) (s : Int) : (Tm.piece ss s).length ≤ 30 := by
  unfold Tm.piece
  by_cases hs : s < 0
  · rw [if_pos hs]; exact h.any _
  · rw [if_neg hs]; simp
theorem Tm.applied_le {ss : List (List Int)} (h : Short ss) (t : List Int) : (Tm.applied ss t).length ≤ 30 * t.length := by
  induction t with
  | nil => simp [Tm.applied]
  | cons s l ih =>
    have := Tm.piece_le h s
    simp only [Tm.applied, List.flatMap_cons, List.length_append, List.length_cons] at ih ⊢
    omega

set_option maxRecDepth 100000 in
set_option maxHeartbeats 400000 in
/-- The function literal of become. -/
theorem become1_any (ss : List (List Int)) (hl : ss.length = 8) (a : Option Addr) (cap Bs : Nat) (s : Int) (h8 : -8 ≤ s) (w : World) (hB : w.cell? ⟨Bs, 0, none⟩ = some (.slice a 8 cap)) (hS : Subs w.heap.size w a ss) :
    Calls Try.prog 48 #[.int .i64 s, .pointer (some ⟨Bs, 0, none⟩)] w fun e w' => ∃ b c, e = .returned (.slice b (Tm.piece ss s).length c) ∧ Ints w'.heap.size w' b (Tm.piece ss s) ∧ (b = none → (Tm.piece ss s).length = 0 ∧ c = 0) ∧ Below w.heap.size w w' := by
  by_cases hs : s < 0
  · obtain ⟨j, rfl⟩ : ∃ j : Nat, s = -1 - (j : Int) := ⟨(-1 - s).toNat, by omega⟩
    obtain ⟨b, off, rfl, hb, hc⟩ := hS.at (by omega)
    obtain ⟨aj, cj, hcj, hIj, h1, h2, h3⟩ := hc j (by omega)
    have hpc : Tm.piece ss (-1 - (j : Int)) = ss[j]?.getD [] := by
      unfold Tm.piece
      rw [if_pos hs]
      congr 2
      omega
    rw [hpc]
    have hj8 : (j : Int) < 8 := by omega
    have H3 : Hid (aj = none → (ss[j]?.getD []).length = 0 ∧ cj = 0) := fun e => ⟨by have := h3 e; omega, h3 e⟩
    clear hpc hc hS h3 h1 h2
    generalize ss[j]?.getD [] = t at *
    have hsub : (-1 : Int) - (-1 - (j : Int)) = (j : Int) := by omega
    go_enter Try.func48, Try.ntmps48
    go_wp2
    go_ret
    exact ⟨_, _, rfl, hIj, H3.out, Below.refl _ _⟩
  · have hpc : Tm.piece ss s = [s] := by simp [Tm.piece, hs]
    have h := ints_lit w [s] _ rfl
    simp only [List.map_cons, List.map_nil] at h
    have Hp := hid hpc
    clear hpc hS
    generalize Tm.piece ss s = pc at *
    go_enter Try.func48, Try.ntmps48
    go_wp2
    go_ret
    exact ⟨some ⟨w.heap.size, 0, none⟩, 1, by rw [Hp.out]; rfl, by rw [Hp.out]; simpa using h, (fun e => by cases e), (Below.refl _ _).alloc (Nat.le_refl _) _⟩

set_option maxRecDepth 100000 in
set_option maxHeartbeats 400000 in
/-- signs.Change by it. -/
theorem change_become (ss : List (List Int)) (hl : ss.length = 8) (hsh : Short ss) (a : Option Addr) (cap Bs : Nat) (t : List Int) (at' : Option Addr) (ct : Nat) (ht : t.length ≤ 30) (h8 : ∀ k, k < t.length → -8 ≤ t[k]?.getD 0) (w : World)
    (hBs : Bs < w.heap.size) (hB : w.cell? ⟨Bs, 0, none⟩ = some (.slice a 8 cap)) (hS : Subs w.heap.size w a ss) (hT : Ints w.heap.size w at' t) :
    Calls Try.prog 47 #[.slice at' t.length ct, .func (.func 48) #[] #[.pointer (some ⟨Bs, 0, none⟩)]] w fun e w' => ∃ v, e = .returned v ∧ New w.heap.size w' v (Tm.applied ss t) ∧ Below w.heap.size w w' := by
  have hlen : (t.length : Int) ≤ 30 := by omega
  have HB := hid hB
  have HS := hid hS
  have HT := hid hT
  have H8 := hid h8
  have Hl := hid hl
  clear hB hS hT h8 hl
  go_enter Try.func47, Try.ntmps47
  go_wp2
  go_loopw [5, 10] (fun v i wr => ∃ k : Nat, k ≤ t.length ∧ i = .int .i64 (k : Int) ∧ New w.heap.size wr v (Tm.applied ss (t.take k)) ∧ Below w.heap.size w wr) (fun _ i _ => t.length - (intOf i).toNat)
  case atStart => exact ⟨0, Nat.zero_le _, rfl, New.nil _ _, Below.refl _ _⟩
  case round =>
    obtain ⟨k, hk, rfl, hN, hBr⟩ := hrel
    by_cases hlt : k < t.length
    · have hlt' : (k : Int) < (t.length : Int) := by omega
      obtain ⟨b, off, rfl, hb, hc⟩ := HT.out.at (by omega)
      have hck := (hBr.cell (p := ⟨b, off + k, none⟩) hb).trans (hc k hlt)
      have hf := become1_any ss Hl.out a cap Bs (t[k]?.getD 0) (H8.out k hlt) wr ((hBr.cell (p := ⟨Bs, 0, none⟩) hBs).trans HB.out) ((HS.out.below hBr).mono hBr.size)
      have hsn := hid (Tm.applied_snoc ss hlt)
      have hle := Tm.applied_le hsh (t.take k)
      rw [List.length_take] at hle
      have hpl := Tm.piece_le hsh (t[k]?.getD 0)
      clear hc
      generalize Tm.piece ss (t[k]?.getD 0) = pc at *
      generalize t[k]?.getD 0 = s at *
      generalize Tm.applied ss (t.take k) = xs at *
      obtain ⟨a0, c0, rfl, _⟩ := New.ints hN
      go_wp2_with (first
        | (go_at_call 48; refine hf.mono ?_; clear hf; rintro e w1 ⟨b1, c1, rfl, hI1, hn1, hB1⟩; have hN1 := New.below hN hB1; have hB2 := hBr.trans (hB1.mono hBr.size))
        | (at_builtin; go_loud (refine wp_append_ints _ rfl _ _ rfl w.heap.size _ xs rfl hN1 b1 pc c1 rfl hn1 hI1 (by omega) hB2.size ?_); intro v' w2 hN2 hB3; obtain ⟨a2, c2, rfl, _⟩ := New.ints hN2))
      go_roundw
      case rel => exact ⟨k + 1, by omega, by go_num, by rw [hsn.out]; simpa using hN2, hB2.trans hB3⟩
      case measure => simp [intOf]; omega
    · obtain rfl : k = t.length := by omega
      rw [List.take_length] at hN
      obtain ⟨a2, c2, rfl, _⟩ := New.ints hN
      go_wp2
      go_ret
      exact ⟨_, rfl, hN, hBr⟩

/-- What Apply answers beside the error, of right ones. -/
theorem become_any (ss : List (List Int)) (hl : ss.length = 8) (hsh : Short ss) (a : Option Addr) (cap : Nat) (t : List Int) (at' : Option Addr) (ct : Nat) (ht : t.length ≤ 30) (h8 : ∀ k, k < t.length → -8 ≤ t[k]?.getD 0) (w : World)
    (hS : Subs w.heap.size w a ss) (hT : Ints w.heap.size w at' t) :
    Calls Try.prog 34 #[.slice a 8 cap, .slice at' t.length ct] w fun e w' => ∃ v, e = .returned (.tuple #[v, .int .i64 (if 30 < (Tm.applied ss t).length then 2 else 0)]) ∧ New w.heap.size w' v (if 30 < (Tm.applied ss t).length then [] else Tm.applied ss t) ∧ Below w.heap.size w w' := by
  have hmf : ∀ (fn : Fn) (first cap : Array Value) (w : World), (Instr.makeFunc fn first cap).run Try.prog w = .ok (.func fn first cap) w := fun _ _ _ _ => rfl
  have bS := Boxed.new w 24 (.slice a 8 cap)
  have hB : Below w.heap.size w (w.alloc (.cells #[.slice a 8 cap] 24)) := (Below.refl _ _).alloc (Nat.le_refl _) _
  have hC := change_become ss hl hsh a cap w.heap.size t at' ct ht h8 (w.alloc (.cells #[.slice a 8 cap] 24)) (by simp) bS.cell ((hS.below hB).mono hB.size) ((hT.below hB).mono hB.size)
  have hle := Tm.applied_le hsh t
  have Hle := hid hle
  clear hle hS hT h8 bS
  generalize Tm.applied ss t = xs at *
  have hx : (xs.length : Int) ≤ 1000 := by have := Hle.out; omega
  by_cases hbig : 30 < xs.length
  · have hbig' : (30 : Int) < (xs.length : Int) := by omega
    rw [if_pos hbig, if_pos hbig]
    clear hbig
    go_enter Try.func34, Try.ntmps34
    go_wp2_with (go_at_call 47; refine hC.mono ?_; clear hC; rintro e w1 ⟨v, rfl, hN, hB1⟩; obtain ⟨a1, c1, rfl, _⟩ := New.ints hN)
    go_ret2
    exact ⟨_, rfl, New.nil _ _, hB.trans (hB1.mono hB.size)⟩
  · have hbig' : (xs.length : Int) ≤ 30 := by omega
    rw [if_neg hbig, if_neg hbig]
    clear hbig
    go_enter Try.func34, Try.ntmps34
    go_wp2_with (go_at_call 47; refine hC.mono ?_; clear hC; rintro e w1 ⟨v, rfl, hN, hB1⟩; obtain ⟨a1, c1, rfl, _⟩ := New.ints hN)
    go_ret2
    exact ⟨_, rfl, hN.mono hB.size, hB.trans (hB1.mono hB.size)⟩

def Tm.applyErr (ss : List (List Int)) (t : List Int) : Int := if Tm.subErr ss = 0 then (if Tm.err t = 0 then (if 30 < (Tm.applied ss t).length then 2 else 0) else Tm.err t) else Tm.subErr ss
def Tm.applyVal (ss : List (List Int)) (t : List Int) : List Int := if Tm.applyErr ss t = 0 then Tm.applied ss t else []
theorem Tm.subErr_ok {ss : List (List Int)} (h : Tm.subErr ss = 0) : ss.length = 8 ∧ Tm.firstErr ss = 0 := by
  unfold Tm.subErr at h
  by_cases hl : ss.length = 8
  · rw [if_pos hl] at h; exact ⟨hl, h⟩
  · rw [if_neg hl] at h; omega
theorem Tm.known8 {t : List Int} (h : Tm.err t = 0) : ∀ k, k < t.length → -8 ≤ t[k]?.getD 0 := fun _ hk => Tm.known_ge (Tm.all_at (Tm.err_all h) hk)
theorem Tm.apply_ok {ss : List (List Int)} {t : List Int} (hs : Tm.subErr ss = 0) (ht : Tm.err t = 0) :
    Tm.applyErr ss t = (if 30 < (Tm.applied ss t).length then 2 else 0) ∧ Tm.applyVal ss t = (if 30 < (Tm.applied ss t).length then [] else Tm.applied ss t) := by
  have h1 : Tm.applyErr ss t = (if 30 < (Tm.applied ss t).length then 2 else 0) := by unfold Tm.applyErr; rw [if_pos hs, if_pos ht]
  refine ⟨h1, ?_⟩
  unfold Tm.applyVal
  rw [h1]
  by_cases h : 30 < (Tm.applied ss t).length <;> simp [h]
theorem Tm.apply_t {ss : List (List Int)} {t : List Int} (hs : Tm.subErr ss = 0) (ht : Tm.err t ≠ 0) : Tm.applyErr ss t = Tm.err t ∧ Tm.applyVal ss t = [] := by
  have h1 : Tm.applyErr ss t = Tm.err t := by unfold Tm.applyErr; rw [if_pos hs, if_neg ht]
  exact ⟨h1, by unfold Tm.applyVal; rw [h1, if_neg ht]⟩
theorem Tm.apply_s {ss : List (List Int)} {t : List Int} (hs : Tm.subErr ss ≠ 0) : Tm.applyErr ss t = Tm.subErr ss ∧ Tm.applyVal ss t = [] := by
  have h1 : Tm.applyErr ss t = Tm.subErr ss := by unfold Tm.applyErr; rw [if_neg hs]
  exact ⟨h1, by unfold Tm.applyVal; rw [h1, if_neg hs]⟩

set_option maxRecDepth 100000 in
set_option maxHeartbeats 400000 in
/-- sub.Apply. -/
theorem apply_any (ss : List (List Int)) (t : List Int) (a at' : Option Addr) (cap ct : Nat) (w : World) (hS : Subs w.heap.size w a ss) (hT : Ints w.heap.size w at' t) :
    Calls Try.prog 15 #[.slice a ss.length cap, .slice at' t.length ct] w fun e w' => ∃ v, e = .returned (.tuple #[v, .int .i64 (Tm.applyErr ss t)]) ∧ New w.heap.size w' v (Tm.applyVal ss t) ∧ Below w.heap.size w w' := by
  have hC1 := subCheck_any ss a cap w hS
  by_cases hs : Tm.subErr ss = 0
  · have hC2 : ∀ W, Below w.heap.size w W → Calls Try.prog 33 #[.slice at' t.length ct] W fun e w' => e = .returned (.int .i64 (Tm.err t)) ∧ Below W.heap.size W w' := fun W hW => check_any t at' ct W ((hT.below hW).mono hW.size)
    rw [hs] at hC1
    by_cases ht : Tm.err t = 0
    · obtain ⟨e1, e2⟩ := Tm.apply_ok hs ht
      obtain ⟨hl, hf⟩ := Tm.subErr_ok hs
      have hb : ∀ W, Below w.heap.size w W → Calls Try.prog 34 #[.slice a 8 cap, .slice at' t.length ct] W fun e w' => ∃ v, e = .returned (.tuple #[v, .int .i64 (Tm.applyErr ss t)]) ∧ New W.heap.size w' v (Tm.applyVal ss t) ∧ Below W.heap.size W w' := fun W hW => by
        rw [e1, e2]
        exact become_any ss hl (Short.of_ok hf) a cap t at' ct (Tm.err_len ht) (Tm.known8 ht) W ((hS.below hW).mono hW.size) ((hT.below hW).mono hW.size)
      rw [hl] at hC1 ⊢
      rw [ht] at hC2
      have HC2 := hid hC2
      have Hb := hid hb
      clear hC2 hb hS hT hl hf e1 e2 hs ht
      generalize Tm.applyErr ss t = q at *
      generalize Tm.applyVal ss t = xs at *
      go_enter Try.func15, Try.ntmps15
      go_wp2_with (first
        | (go_at_call 32; refine hC1.mono ?_; clear hC1; rintro e w1 ⟨rfl, hB1⟩)
        | (go_at_call 33; refine (HC2.out _ hB1).mono ?_; rintro e w2 ⟨rfl, hB2⟩; have hB3 := hB1.trans (hB2.mono hB1.size))
        | (go_at_call 34; refine (Hb.out _ hB3).mono ?_; rintro e w3 ⟨v, rfl, hN, hB4⟩; obtain ⟨a1, c1, rfl, _⟩ := New.ints hN))
      go_ret2
      exact ⟨_, rfl, hN.mono hB3.size, hB3.trans (hB4.mono hB3.size)⟩
    · obtain ⟨e1, e2⟩ := Tm.apply_t hs ht
      rw [e1, e2]
      have HC2 := hid hC2
      have hne : (Tm.err t != 0) = true := by simp [ht]
      clear hC2 hS hT e1 e2 hs ht
      generalize Tm.err t = q at *
      go_enter Try.func15, Try.ntmps15
      go_wp2_with (first
        | (go_at_call 32; refine hC1.mono ?_; clear hC1; rintro e w1 ⟨rfl, hB1⟩)
        | (go_at_call 33; refine (HC2.out _ hB1).mono ?_; rintro e w2 ⟨rfl, hB2⟩; have hB3 := hB1.trans (hB2.mono hB1.size)))
      go_ret2
      exact ⟨_, rfl, New.nil _ _, hB3⟩
  · obtain ⟨e1, e2⟩ := Tm.apply_s (t := t) hs
    rw [e1, e2]
    have hne : (Tm.subErr ss != 0) = true := by simp [hs]
    clear hS hT e1 e2 hs
    generalize Tm.subErr ss = q at *
    go_enter Try.func15, Try.ntmps15
    go_wp2_with (go_at_call 32; refine hC1.mono ?_; clear hC1; rintro e w1 ⟨rfl, hB1⟩)
    go_ret2
    exact ⟨_, rfl, New.nil _ _, hB1⟩

end Go.Proofs.Ytloealnfbpegnab

namespace Go.Proofs.Ytloealnfbpegnab
open Go.Proofs Go.RowKit Go.Shelf

end Go.Proofs.Ytloealnfbpegnab

namespace Go.Proofs.Ytloealnfbpegnab
open Go.Proofs Go.RowKit Go.Shelf

set_option maxRecDepth 100000 in
set_option maxHeartbeats 1000000 in
/-- haspref.SameTerms: it only reads. -/
theorem same_quiet (xs ys : List Int) (a b : Option Addr) (ca cb n : Nat) (w : World) (hX : Ints n w a xs) (hY : Ints n w b ys) (hm : xs.length ≤ maxLen) :
    Calls Try.prog 16 #[.slice a xs.length ca, .slice b ys.length cb] w fun e w' => e = .returned (.bool (sameB xs ys)) ∧ ∃ m, w' = w.drewN m := by
  unfold maxLen at hm
  by_cases hl : xs.length = ys.length
  · have hne : ((xs.length : Int) != (ys.length : Int)) = false := by simp [hl]
    have Hl : Hid (xs.length = ys.length) := hl
    clear hl
    go_enter Try.func16, Try.ntmps16
    go_wp2
    go_loopw [5] (fun i wr => ∃ k d : Nat, k ≤ xs.length ∧ i = .int .i64 (k : Int) ∧ Hid (xs.take k = ys.take k) ∧ wr = w.drewN d) (fun i _ => xs.length - (intOf i).toNat)
    case atStart => exact ⟨0, 0, Nat.zero_le _, rfl, by simp [Hid], rfl⟩
    case round =>
      obtain ⟨k, d, hk, rfl, hsame, rfl⟩ := hrel
      by_cases hlt : k < xs.length
      · have hlt' : (k : Int) < (xs.length : Int) := by omega
        have hly : k < ys.length := by have := Hl.out; omega
        have hly' : (k : Int) < (ys.length : Int) := by omega
        obtain ⟨b1, off1, rfl, hb1, hc1⟩ := hX.at (by omega)
        obtain ⟨b2, off2, rfl, hb2, hc2⟩ := hY.at (by omega)
        have hx := hc1 k hlt
        have hy := hc2 k hly
        have hst := hid (@same_step xs ys k hlt hly hsame.out)
        have hno := hid (@same_not xs ys k)
        clear hc1 hc2 hX hY hly
        generalize xs[k]?.getD 0 = s at *
        generalize ys[k]?.getD 0 = u at *
        by_cases he : s = u
        · have hn : (s != u) = false := by simp [he]
          have He : Hid (s = u) := he
          clear he hno
          go_wp2
          go_quiet (fail)
          go_wp2
          go_roundw
          case rel => exact ⟨k + 1, _, by omega, by go_num, hst.out He.out, rfl⟩
          case measure => simp [intOf]; omega
        · have hn : (s != u) = true := by simp [he]
          have hf := hid (hno.out he)
          clear he hno hst
          go_wp2
          go_quiet (fail)
          go_wp2
          go_ret
          exact ⟨by rw [hf.out]; rfl, _, by rw [World.drewN_drewN]⟩
      · obtain rfl : k = xs.length := by omega
        have hy := hid (same_yes hsame.out Hl.out)
        clear hX hY
        go_wp2
        go_ret
        exact ⟨by rw [hy.out]; rfl, _, rfl⟩
  · have hne : ((xs.length : Int) != (ys.length : Int)) = true := by simp; omega
    rw [same_len hl]
    clear hl hX hY
    go_enter Try.func16, Try.ntmps16
    go_wp2
    go_ret
    exact ⟨rfl, 0, rfl⟩

theorem Try.info23 : (Try.prog.info? 23).map (fun i => (i.zero, i.size, i.bytes)) = some (some (.slice none 0 0), 1, 24) := by kernel_rfl

/-- v IS A SLICE OF SLICES IN NEW MEMORY, which are in new memory too: it holds ss. -/
def NewS (base : Nat) (W : World) (v : Value) (ss : List (List Int)) : Prop :=
  ∃ us : List Value, W.ownsRow base 23 1 v ss.length us ∧ ∀ j, j < ss.length → ∃ u, us[j]? = some u ∧ New base W u (ss[j]?.getD [])
theorem NewS.nil (base : Nat) (W : World) : NewS base W (.slice none 0 0) [] := ⟨[], World.ownsRow_nil _ _ _ _, fun j hj => by simp at hj⟩
theorem New.apart {base : Nat} {W : World} {u v : Value} {t : List Int} {n : Nat} {us : List Value} (hu : New base W u t) (hv : W.ownsRow base 23 1 v n us) : u.ownBlock = none ∨ u.ownBlock ≠ v.ownBlock := by
  rcases hu.2 with ⟨rfl, _⟩ | ⟨g, cap, cur, rfl, _, hg, _⟩
  · exact .inl rfl
  · rcases hv.2 with ⟨rfl, _⟩ | ⟨g', cap', cur', rfl, _, hg', _⟩
    · exact .inr (by simp [Value.ownBlock])
    · refine .inr fun e => ?_
      have e' : g = g' := by simpa [Value.ownBlock] using e
      subst e'
      rw [hg] at hg'
      simp at hg'
theorem NewS.below {base : Nat} {W W' : World} {v : Value} {ss : List (List Int)} (h : NewS base W v ss) (hB : Below W.heap.size W W') : NewS base W' v ss := by
  obtain ⟨us, h1, h2⟩ := h
  refine ⟨us, World.ownsRow.kept h1 (grown_of_below hB) (by cases h : v.ownBlock with | none => exact .inl rfl | some k => exact .inr (by simp)), fun j hj => ?_⟩
  obtain ⟨u, hu, hN⟩ := h2 j hj
  exact ⟨u, hu, hN.below hB⟩
theorem NewS.mono {base base' : Nat} {W : World} {v : Value} {ss : List (List Int)} (h : NewS base W v ss) (hb : base' ≤ base) : NewS base' W v ss := by
  obtain ⟨us, h1, h2⟩ := h
  refine ⟨us, ⟨h1.1, h1.2.elim .inl (fun ⟨g, cap, cur, e1, e2, e3⟩ => .inr ⟨g, cap, cur, e1, Nat.le_trans hb e2, e3⟩)⟩, fun j hj => ?_⟩
  obtain ⟨u, hu, hN⟩ := h2 j hj
  exact ⟨u, hu, hN.mono hb⟩
theorem NewS.subs {base : Nat} {W : World} {v : Value} {ss : List (List Int)} (h : NewS base W v ss) : ∃ a cap, v = .slice a ss.length cap ∧ Subs W.heap.size W a ss ∧ ss.length ≤ cap ∧ cap ≤ maxLen ∧ (a = none → cap = 0) := by
  obtain ⟨us, h1, h2⟩ := h
  rcases h1.2 with ⟨rfl, hn⟩ | ⟨g, cap, cur, rfl, hb, hg, e1, e2, e3, e4⟩
  · exact ⟨none, 0, by rw [hn], fun j hj => by omega, by omega, by omega, fun _ => rfl⟩
  · refine ⟨_, _, rfl, fun j hj => ?_, e1, e2, fun e => by cases e⟩
    obtain ⟨u, hu, hN⟩ := h2 j hj
    have h5 := World.ownsRow.cellAt h1 j (by omega)
    obtain ⟨aj, cj, rfl, hI, q1, q2⟩ := New.ints hN
    refine ⟨g, 0, aj, cj, rfl, (Array.getElem?_eq_some_iff.1 hg).1, ?_, hI, q1, q2, fun e => ?_⟩
    · rw [Nat.zero_add, h5, hu]
    · subst e
      rcases hN.2 with ⟨e, _⟩ | ⟨_, _, _, e, _⟩
      · simp only [Value.slice.injEq] at e; exact e.2.2
      · simp at e

/-- 'append(s, x)' of one list, onto what the call itself made. -/
theorem wp_append_sub {ops : Array Oper} {rest : List Oper} {o : Oper} {a : Act} {Q : Exit → Act → World → Prop} (w : World) (hgd : o.guard = none) (s x : Operand)
    (ho : o.op = .call { callee := .builtin .append, args := #[s, x], argTypes := #[24, 24] }) (base : Nat) (v : Value) (ss : List (List Int)) (hs : a.eval s = v) (hN : NewS base w v ss)
    (u : Value) (t : List Int) (B : Nat) (hx : a.eval x = .slice (some ⟨B, 0, none⟩) 1 1) (hB : w.cell? ⟨B, 0, none⟩ = some u) (hu : New base w u t) (hlen : ss.length ≤ 1000000) (hbase : base ≤ w.heap.size)
    (h : ∀ v' w', NewS base w' v' (ss ++ [t]) → Below base w w' → wpList Try.prog ops Q rest (a.put o.dst v') w') : wpList Try.prog ops Q (o :: rest) a w := by
  obtain ⟨i0, hi, hz0, hz1, hz2⟩ := info_parts Try.info23
  obtain ⟨us, h1, h2⟩ := hN
  have hul : us.length = ss.length := by have := h1.1; omega
  refine wpList_append_own w hgd s x 24 ho base 23 i0 (.slice none 0 0) 1 24 Try.underlying24 hi hz0 hz1 hz2 rfl (by decide) v ss.length us hs h1 ⟨B, 0, none⟩ 1 1 [u] hx (by simp)
    (by intro j z hj
        match j, hj with
        | 0, hj => simp at hj; subst hj; rw [Go.WideShapes.add_plain]; simpa using hB)
    (by intro z hz; simp at hz; subst hz; obtain ⟨_, _, rfl, _⟩ := New.ints hu; rfl) (by unfold maxLen; omega) (by omega) hbase ?_
  intro v' w' hown hg _
  have hkeep : ∀ (u' : Value) (t' : List Int), New base w u' t' → New base w' u' t' := fun u' t' hN' => World.ownsRow.kept hN' hg (New.apart hN' h1)
  refine h v' w' ⟨us ++ [u], by simpa using hown, fun j hj => ?_⟩ ((Below.refl base w).grown hg hbase (fun k e => (World.ownsRow.lt h1 k e).1))
  by_cases hjl : j < ss.length
  · obtain ⟨u', hu', hN'⟩ := h2 j hjl
    refine ⟨u', by rw [List.getElem?_append_left (by omega)]; exact hu', ?_⟩
    rw [List.getElem?_append_left hjl]
    exact hkeep u' _ hN'
  · have hje : j = ss.length := by simp at hj; omega
    subst hje
    refine ⟨u, by rw [List.getElem?_append_right (by omega), hul]; simp, ?_⟩
    rw [List.getElem?_append_right (by omega)]
    simpa using hkeep u t hu

def sameSB (xs ys : List (List Int)) : Bool := decide (xs = ys)
theorem sameS_len {xs ys : List (List Int)} (h : xs.length ≠ ys.length) : sameSB xs ys = false := by
  simp only [sameSB, decide_eq_false_iff_not]
  rintro rfl
  exact h rfl
theorem takeS_snoc {zs : List (List Int)} {k : Nat} (h : k < zs.length) : zs.take (k + 1) = zs.take k ++ [zs[k]?.getD []] := by
  rw [List.take_succ_eq_append_getElem h]; simp [h]
theorem sameS_step {xs ys : List (List Int)} {k : Nat} (hx : k < xs.length) (hy : k < ys.length) (h : xs.take k = ys.take k) (he : sameB (xs[k]?.getD []) (ys[k]?.getD []) = true) : xs.take (k + 1) = ys.take (k + 1) := by
  simp only [sameB, decide_eq_true_eq] at he
  rw [takeS_snoc hx, takeS_snoc hy, h, he]
theorem sameS_not {xs ys : List (List Int)} {k : Nat} (he : sameB (xs[k]?.getD []) (ys[k]?.getD []) = false) : sameSB xs ys = false := by
  simp only [sameB, decide_eq_false_iff_not] at he
  simp only [sameSB, decide_eq_false_iff_not]
  rintro rfl
  exact he rfl
theorem sameS_yes {xs ys : List (List Int)} (h : xs.take xs.length = ys.take xs.length) (hl : xs.length = ys.length) : sameSB xs ys = true := by
  simp only [sameSB, decide_eq_true_eq]
  rw [List.take_length, hl, List.take_length] at h
  exact h

set_option maxRecDepth 100000 in
set_option maxHeartbeats 1000000 in
/-- haspref.SameSubs: of lists whose terms are short. -/
theorem sameSubs_any (xs ys : List (List Int)) (a b : Option Addr) (ca cb : Nat) (w : World) (hX : Subs w.heap.size w a xs) (hY : Subs w.heap.size w b ys) (hm : xs.length ≤ 1000) :
    Calls Try.prog 12 #[.slice a xs.length ca, .slice b ys.length cb] w fun e w' => e = .returned (.bool (sameSB xs ys)) ∧ Below w.heap.size w w' := by
  by_cases hl : xs.length = ys.length
  · have hne : ((xs.length : Int) != (ys.length : Int)) = false := by simp [hl]
    have hxm : (xs.length : Int) ≤ 1000 := by omega
    have Hl : Hid (xs.length = ys.length) := hl
    have HX := hid hX
    have HY := hid hY
    clear hl hX hY
    go_enter Try.func12, Try.ntmps12
    go_wp2
    go_loopw [5] (fun i wr => ∃ k : Nat, k ≤ xs.length ∧ i = .int .i64 (k : Int) ∧ Hid (xs.take k = ys.take k) ∧ Below w.heap.size w wr) (fun i _ => xs.length - (intOf i).toNat)
    case atStart => exact ⟨0, Nat.zero_le _, rfl, by simp [Hid], Below.refl _ _⟩
    case round =>
      obtain ⟨k, hk, rfl, hsame, hB⟩ := hrel
      by_cases hlt : k < xs.length
      · have hlt' : (k : Int) < (xs.length : Int) := by omega
        have hly : k < ys.length := by have := Hl.out; omega
        have hly' : (k : Int) < (ys.length : Int) := by omega
        obtain ⟨b1, off1, rfl, hb1, hc1⟩ := (HX.out.below hB).at (by omega)
        obtain ⟨b2, off2, rfl, hb2, hc2⟩ := (HY.out.below hB).at (by omega)
        obtain ⟨ax, cx, hx, hIx, qx, qx2, _⟩ := hc1 k hlt
        obtain ⟨ay, cy, hy, hIy, _⟩ := hc2 k hly
        have hst := hid (@sameS_step xs ys k hlt hly hsame.out)
        have hno := hid (@sameS_not xs ys k)
        have hS : ∀ n : Nat, Calls Try.prog 16 #[.slice ax (xs[k]?.getD []).length cx, .slice ay (ys[k]?.getD []).length cy] (wr.drewN n) fun e w' => e = .returned (.bool (sameB (xs[k]?.getD []) (ys[k]?.getD []))) ∧ ∃ m, w' = (wr.drewN n).drewN m :=
          fun n => same_quiet _ _ ax ay cx cy w.heap.size (wr.drewN n) hIx hIy (by omega)
        have HS := hid hS
        clear hc1 hc2 hly hIx hIy qx qx2 hS
        generalize xs[k]?.getD [] = s at *
        generalize ys[k]?.getD [] = u at *
        cases hsb : sameB s u with
        | true =>
          have hst' := hid (hst.out hsb)
          rw [hsb] at HS
          clear hst hno hsb
          go_wp2
          go_quiet ((go_at_call 16; exact Calls.quiet_of (HS.out _)))
          go_wp2
          go_roundw
          case rel => exact ⟨k + 1, by omega, by go_num, hst'.out, below_drewN hB _⟩
          case measure => simp [intOf]; omega
        | false =>
          have hf := hid (hno.out hsb)
          rw [hsb] at HS
          clear hst hno hsb
          go_wp2
          go_quiet ((go_at_call 16; exact Calls.quiet_of (HS.out _)))
          go_wp2
          go_ret
          exact ⟨by rw [hf.out]; rfl, below_drewN hB _⟩
      · obtain rfl : k = xs.length := by omega
        have hy := hid (sameS_yes hsame.out Hl.out)
        go_wp2
        go_ret
        exact ⟨by rw [hy.out]; rfl, hB⟩
  · have hne : ((xs.length : Int) != (ys.length : Int)) = true := by simp; omega
    rw [sameS_len hl]
    clear hl hX hY
    go_enter Try.func12, Try.ntmps12
    go_wp2
    go_ret
    exact ⟨rfl, Below.refl _ _⟩

end Go.Proofs.Ytloealnfbpegnab

namespace Go.Proofs.Ytloealnfbpegnab
open Go.Proofs Go.RowKit Go.Shelf

/-- The first k variables, each itself. -/
def Tm.noneL (k : Nat) : List (List Int) := (List.range k).map fun i : Nat => [-1 - (i : Int)]
theorem Tm.noneL_succ (k : Nat) : Tm.noneL (k + 1) = Tm.noneL k ++ [[-1 - (k : Int)]] := by simp [Tm.noneL, List.range_succ]
theorem Tm.noneL_length (k : Nat) : (Tm.noneL k).length = k := by simp [Tm.noneL]

theorem NewS.alloc {base : Nat} {W : World} {v : Value} {ss : List (List Int)} (h : NewS base W v ss) (o : Obj) : NewS base (W.alloc o) v ss := h.below ((Below.refl _ _).alloc (Nat.le_refl _) _)
theorem New.alloc {base : Nat} {W : World} {v : Value} {zs : List Int} (h : New base W v zs) (o : Obj) : New base (W.alloc o) v zs := h.below ((Below.refl _ _).alloc (Nat.le_refl _) _)
theorem cell_new (W : World) (v : Value) (t : TypeId) (n : Nat) (hn : n = W.heap.size) : (W.alloc (.cells #[v] t)).cell? ⟨n, 0, none⟩ = some v := by
  subst hn
  rw [cell_at (World.alloc_heap_new W _)]
  rfl

set_option maxRecDepth 100000 in
set_option maxHeartbeats 400000 in
/-- sub.None. -/
theorem none_any (w : World) : Calls Try.prog 25 #[] w fun e w' => ∃ v, e = .returned v ∧ NewS w.heap.size w' v (Tm.noneL 8) ∧ Below w.heap.size w w' := by
  go_enter Try.func25, Try.ntmps25
  go_wp2
  go_loopw [1, 3] (fun v i wr => ∃ k : Nat, k ≤ 8 ∧ i = .int .i64 (k : Int) ∧ NewS w.heap.size wr v (Tm.noneL k) ∧ Below w.heap.size w wr) (fun _ i _ => 8 - (intOf i).toNat)
  case atStart => exact ⟨0, Nat.zero_le _, rfl, NewS.nil _ _, Below.refl _ _⟩
  case round =>
    obtain ⟨k, hk, rfl, hN, hB⟩ := hrel
    by_cases hlt : k < 8
    · have hlt' : (k : Int) < 8 := by omega
      have hsn := hid (Tm.noneL_succ k)
      have Hln := hid (Tm.noneL_length k)
      obtain ⟨a0, c0, rfl, _⟩ := NewS.subs hN
      have hu := New.lit w.heap.size wr [-1 - (k : Int)] hB.size (by unfold maxLen; simp)
      simp only [List.map_cons, List.map_nil, List.length_cons, List.length_nil, Nat.zero_add] at hu
      have hA : Below w.heap.size w (((wr.alloc (.cells #[.int .i64 (-1 - (k : Int))] 3)).alloc (.cells #[.slice (some ⟨wr.heap.size, 0, none⟩) 1 1] 23))) := (hB.alloc hB.size _).alloc (by have := hB.size; simp; omega) _
      have hN2 := (hN.alloc (.cells #[.int .i64 (-1 - (k : Int))] 3)).alloc (.cells #[.slice (some ⟨wr.heap.size, 0, none⟩) 1 1] 23)
      have hu2 := hu.alloc (.cells #[.slice (some ⟨wr.heap.size, 0, none⟩) 1 1] 23)
      have hcn := cell_new (wr.alloc (.cells #[.int .i64 (-1 - (k : Int))] 3)) (.slice (some ⟨wr.heap.size, 0, none⟩) 1 1) 23 (wr.heap.size + 1) (by simp)
      have HN2 := hid hN2
      have Hu2 := hid hu2
      have Hcn := hid hcn
      clear hu hN2 hu2 hcn
      go_wp2_with (at_builtin; go_loud (refine wp_append_sub _ rfl _ _ rfl w.heap.size _ (Tm.noneL k) rfl HN2.out (.slice (some ⟨wr.heap.size, 0, none⟩) 1 1) [-1 - (k : Int)] (wr.heap.size + 1) rfl Hcn.out Hu2.out (by rw [Hln.out]; omega) hA.size ?_); intro v' w2 hN3 hB3; obtain ⟨a2, c2, rfl, _⟩ := NewS.subs hN3)
      go_roundw
      case rel => exact ⟨k + 1, by omega, by go_num, by rw [hsn.out]; simpa using hN3, hA.trans hB3⟩
      case measure => simp [intOf]; omega
    · obtain rfl : k = 8 := by omega
      obtain ⟨a2, c2, rfl, _⟩ := NewS.subs hN
      go_wp2
      go_ret
      exact ⟨_, rfl, hN, hB⟩

set_option maxRecDepth 100000 in
set_option maxHeartbeats 400000 in
/-- haspref.NoneOf. -/
theorem noneOf_any (w : World) : Calls Try.prog 42 #[] w fun e w' => ∃ v, e = .returned v ∧ NewS w.heap.size w' v (Tm.noneL 8) ∧ Below w.heap.size w w' := by
  go_enter Try.func42, Try.ntmps42
  go_wp2
  go_loopw [1, 2] (fun v i wr => ∃ k : Nat, k ≤ 8 ∧ i = .int .i64 ((k : Int) + 1) ∧ NewS w.heap.size wr v (Tm.noneL k) ∧ Below w.heap.size w wr) (fun _ i _ => 9 - (intOf i).toNat)
  case atStart => exact ⟨0, Nat.zero_le _, rfl, NewS.nil _ _, Below.refl _ _⟩
  case round =>
    obtain ⟨k, hk, rfl, hN, hB⟩ := hrel
    by_cases hlt : k < 8
    · have hlt' : (k : Int) + 1 ≤ 8 := by omega
      have hsn : Hid (Tm.noneL (k + 1) = Tm.noneL k ++ [[-((k : Int) + 1)]]) := by
        show _ = _
        rw [Tm.noneL_succ, show (-1 : Int) - (k : Int) = -((k : Int) + 1) from by omega]
      have Hln := hid (Tm.noneL_length k)
      obtain ⟨a0, c0, rfl, _⟩ := NewS.subs hN
      have hu := New.lit w.heap.size wr [-((k : Int) + 1)] hB.size (by unfold maxLen; simp)
      simp only [List.map_cons, List.map_nil, List.length_cons, List.length_nil, Nat.zero_add] at hu
      have hA : Below w.heap.size w (((wr.alloc (.cells #[.int .i64 (-((k : Int) + 1))] 3)).alloc (.cells #[.slice (some ⟨wr.heap.size, 0, none⟩) 1 1] 23))) := (hB.alloc hB.size _).alloc (by have := hB.size; simp; omega) _
      have HN2 := hid ((hN.alloc (.cells #[.int .i64 (-((k : Int) + 1))] 3)).alloc (.cells #[.slice (some ⟨wr.heap.size, 0, none⟩) 1 1] 23))
      have Hu2 := hid (hu.alloc (.cells #[.slice (some ⟨wr.heap.size, 0, none⟩) 1 1] 23))
      have Hcn := hid (cell_new (wr.alloc (.cells #[.int .i64 (-((k : Int) + 1))] 3)) (.slice (some ⟨wr.heap.size, 0, none⟩) 1 1) 23 (wr.heap.size + 1) (by simp))
      clear hu
      go_wp2_with (at_builtin; go_loud (refine wp_append_sub _ rfl _ _ rfl w.heap.size _ (Tm.noneL k) rfl HN2.out (.slice (some ⟨wr.heap.size, 0, none⟩) 1 1) [-((k : Int) + 1)] (wr.heap.size + 1) rfl Hcn.out Hu2.out (by rw [Hln.out]; omega) hA.size ?_); intro v' w2 hN3 hB3; obtain ⟨a2, c2, rfl, _⟩ := NewS.subs hN3)
      go_roundw
      case rel => exact ⟨k + 1, by omega, by go_num, by rw [hsn.out]; simpa using hN3, hA.trans hB3⟩
      case measure => simp [intOf]; omega
    · obtain rfl : k = 8 := by omega
      obtain ⟨a2, c2, rfl, _⟩ := NewS.subs hN
      go_wp2
      go_ret
      exact ⟨_, rfl, hN, hB⟩

/-- One of the lists is stored anew. -/
theorem NewS.set {base : Nat} {W : World} {g c n : Nat} {ss : List (List Int)} (h : NewS base W (.slice (some ⟨g, 0, none⟩) n c) ss) (hn : n = ss.length) {u : Value} {t : List Int} (hu : New base W u t) (j : Nat) :
    NewS base (W.setCell ⟨g, j, none⟩ u) (.slice (some ⟨g, 0, none⟩) n c) (ss.set j t) := by
  subst hn
  obtain ⟨us, h1, h2⟩ := h
  have hul : us.length = ss.length := by have := h1.1; omega
  have hkeep : ∀ (u' : Value) (t' : List Int), New base W u' t' → New base (W.setCell ⟨g, j, none⟩ u) u' t' := fun u' t' hN' => World.ownsRow.kept hN' (grownBy_setCell1 W g j u) (by
    have := New.apart hN' h1
    simpa [Value.ownBlock] using this)
  refine ⟨us.set j u, ?_, fun i hi => ?_⟩
  · have := World.ownsRow.stored h1 j u
    rw [List.length_set]
    exact this.1
  · rw [List.length_set] at hi
    by_cases e : i = j
    · subst e
      refine ⟨u, by simp [hul, hi], ?_⟩
      simpa [hi] using hkeep u t hu
    · obtain ⟨u', hu', hN'⟩ := h2 i hi
      have e' : ¬ j = i := fun h => e h.symm
      refine ⟨u', by rw [List.getElem?_set_ne e']; exact hu', ?_⟩
      rw [List.getElem?_set_ne e']
      exact hkeep u' _ hN'

end Go.Proofs.Ytloealnfbpegnab

namespace Go.Proofs.Ytloealnfbpegnab
open Go.Proofs Go.RowKit Go.Shelf

def Tm.someL : List (List Int) := [[2, -2], [-1], [-3], [-4], [-5], [-6], [-7], [-8]]
theorem Tm.someL_eq : ((Tm.noneL 8).set 0 [2, -2]).set 1 [-1] = Tm.someL := by decide

end Go.Proofs.Ytloealnfbpegnab

namespace Go.Proofs.Ytloealnfbpegnab
open Go.Proofs Go.RowKit Go.Shelf

/-- Is what t becomes small enough? -/
def Tm.fits (us : List (List Int)) (t : List Int) : Bool := decide ((Tm.applied us t).length ≤ 30)
def Tm.afterL (ss us : List (List Int)) : List (List Int) := ss.map (Tm.applied us)
def Tm.afterErr (ss us : List (List Int)) : Int := if Tm.subErr ss = 0 then (if Tm.subErr us = 0 then (if ss.all (Tm.fits us) = true then 0 else 2) else Tm.subErr us) else Tm.subErr ss
def Tm.afterVal (ss us : List (List Int)) : List (List Int) := if Tm.afterErr ss us = 0 then Tm.afterL ss us else []
theorem Tm.after_s {ss us : List (List Int)} (h : Tm.subErr ss ≠ 0) : Tm.afterErr ss us = Tm.subErr ss ∧ Tm.afterVal ss us = [] := by
  have h1 : Tm.afterErr ss us = Tm.subErr ss := by unfold Tm.afterErr; rw [if_neg h]
  exact ⟨h1, by unfold Tm.afterVal; rw [h1, if_neg h]⟩
theorem Tm.after_u {ss us : List (List Int)} (hs : Tm.subErr ss = 0) (h : Tm.subErr us ≠ 0) : Tm.afterErr ss us = Tm.subErr us ∧ Tm.afterVal ss us = [] := by
  have h1 : Tm.afterErr ss us = Tm.subErr us := by unfold Tm.afterErr; rw [if_pos hs, if_neg h]
  exact ⟨h1, by unfold Tm.afterVal; rw [h1, if_neg h]⟩
theorem Tm.after_big {ss us : List (List Int)} (hs : Tm.subErr ss = 0) (hu : Tm.subErr us = 0) {k : Nat} (hk : k < ss.length) (h : Tm.fits us (ss[k]?.getD []) = false) : Tm.afterErr ss us = 2 ∧ Tm.afterVal ss us = [] := by
  have ha : ¬ ss.all (Tm.fits us) = true := by
    rw [List.all_eq_true]
    intro hall
    have := hall ss[k] (List.getElem_mem hk)
    simp only [hk, List.getElem?_eq_getElem, Option.getD_some] at h
    rw [h] at this
    cases this
  have h1 : Tm.afterErr ss us = 2 := by unfold Tm.afterErr; rw [if_pos hs, if_pos hu, if_neg ha]
  exact ⟨h1, by unfold Tm.afterVal; rw [h1, if_neg (by decide)]⟩
theorem Tm.after_ok {ss us : List (List Int)} (hs : Tm.subErr ss = 0) (hu : Tm.subErr us = 0) (h : ss.all (Tm.fits us) = true) : Tm.afterErr ss us = 0 ∧ Tm.afterVal ss us = Tm.afterL ss us := by
  have h1 : Tm.afterErr ss us = 0 := by unfold Tm.afterErr; rw [if_pos hs, if_pos hu, if_pos h]
  exact ⟨h1, by unfold Tm.afterVal; rw [h1, if_pos rfl]⟩
theorem Tm.fits_snoc {ss us : List (List Int)} {k : Nat} (hk : k < ss.length) (h : (ss.take k).all (Tm.fits us) = true) (hf : Tm.fits us (ss[k]?.getD []) = true) : (ss.take (k + 1)).all (Tm.fits us) = true := by
  rw [takeS_snoc hk, List.all_append, h]
  simp [hf]
theorem Tm.afterL_snoc {ss us : List (List Int)} {k : Nat} (hk : k < ss.length) : Tm.afterL (ss.take (k + 1)) us = Tm.afterL (ss.take k) us ++ [Tm.applied us (ss[k]?.getD [])] := by
  rw [takeS_snoc hk]
  simp [Tm.afterL]
theorem Tm.afterL_length {ss us : List (List Int)} : (Tm.afterL ss us).length = ss.length := by simp [Tm.afterL]

set_option maxRecDepth 100000 in
set_option maxHeartbeats 1000000 in
/-- sub.After, of right ones. -/
theorem after_right (ss us : List (List Int)) (hs : Tm.subErr ss = 0) (hu : Tm.subErr us = 0) (a b : Option Addr) (ca cb : Nat) (w : World) (hS : Subs w.heap.size w a ss) (hU : Subs w.heap.size w b us) :
    Calls Try.prog 22 #[.slice a 8 ca, .slice b 8 cb] w fun e w' => ∃ v, e = .returned (.tuple #[v, .int .i64 (Tm.afterErr ss us)]) ∧ NewS w.heap.size w' v (Tm.afterVal ss us) ∧ Below w.heap.size w w' := by
  obtain ⟨hsl, hsf⟩ := Tm.subErr_ok hs
  obtain ⟨hul, huf⟩ := Tm.subErr_ok hu
  have hC1 := subCheck_any ss a ca w hS
  rw [hs, hsl] at hC1
  have hC2 : ∀ W, Below w.heap.size w W → Calls Try.prog 32 #[.slice b 8 cb] W fun e w' => e = .returned (.int .i64 0) ∧ Below W.heap.size W w' := fun W hW => by
    have h := subCheck_any us b cb W ((hU.below hW).mono hW.size)
    rw [hu, hul] at h
    exact h
  obtain ⟨bs, os, rfl, hbs, hcs⟩ := hS.at (by omega)
  have hb : ∀ (k : Nat), k < 8 → ∀ (aj : Option Addr) (cj : Nat) (W : World), Below w.heap.size w W → Ints W.heap.size W aj (ss[k]?.getD []) → Calls Try.prog 34 #[.slice b 8 cb, .slice aj (ss[k]?.getD []).length cj] W fun e w' =>
      ∃ v, e = .returned (.tuple #[v, .int .i64 (if 30 < (Tm.applied us (ss[k]?.getD [])).length then 2 else 0)]) ∧ New W.heap.size w' v (if 30 < (Tm.applied us (ss[k]?.getD [])).length then [] else Tm.applied us (ss[k]?.getD [])) ∧ Below W.heap.size W w' := fun k hk aj cj W hW hI => by
    have he := Tm.firstErr_all hsf k (by omega)
    exact become_any us hul (Short.of_ok huf) b cb _ aj cj (Tm.err_len he) (Tm.known8 he) W ((hU.below hW).mono hW.size) hI
  have hbig : ∀ k, k < 8 → Tm.fits us (ss[k]?.getD []) = false → Tm.afterErr ss us = 2 ∧ Tm.afterVal ss us = [] := fun k hk h => Tm.after_big hs hu (by omega) h
  have hok : ss.all (Tm.fits us) = true → Tm.afterErr ss us = 0 ∧ Tm.afterVal ss us = Tm.afterL ss us := Tm.after_ok hs hu
  have HC2 := hid hC2
  have Hb := hid hb
  have Hcs := hid hcs
  have Hsl := hid hsl
  have Hbig := hid hbig
  have Hok := hid hok
  clear hC2 hb hcs hsl hbig hok hs hu hsf huf hul hS hU
  go_enter Try.func22, Try.ntmps22
  go_wp2_with fail
  refine hC1.mono ?_
  rintro e w1 ⟨rfl, hB1⟩
  clear hC1
  go_wp2_with fail
  refine (HC2.out _ hB1).mono ?_
  rintro e w2 ⟨rfl, hB2⟩
  have hB3 := hB1.trans (hB2.mono hB1.size)
  clear hB1 hB2 HC2
  go_wp2
  go_loopw [8, 25] (fun v i wr => ∃ k : Nat, k ≤ 8 ∧ i = .int .i64 (k : Int) ∧ Hid ((ss.take k).all (Tm.fits us) = true) ∧ NewS w.heap.size wr v (Tm.afterL (ss.take k) us) ∧ Below w.heap.size w wr) (fun _ i _ => 8 - (intOf i).toNat)
  case atStart => exact ⟨0, Nat.zero_le _, rfl, rfl, NewS.nil _ _, hB3⟩
  case round =>
    obtain ⟨k, hk, rfl, hall, hN, hB⟩ := hrel
    clear hB3
    by_cases hlt : k < 8
    · have hlt' : (k : Int) < 8 := by omega
      have hks : k < ss.length := by have := Hsl.out; omega
      obtain ⟨aj, cj, hcj0, hIj0, _⟩ := Hcs.out k hks
      have hcj := (hB.cell (p := ⟨bs, os + k, none⟩) hbs).trans hcj0
      have hbe := Hb.out k hlt aj cj wr hB ((hIj0.below hB).mono hB.size)
      have hsn := hid (Tm.afterL_snoc (us := us) hks)
      have hln : Hid ((Tm.afterL (ss.take k) us).length ≤ 1000000) := by
        show _ ≤ _
        rw [Tm.afterL_length, List.length_take]
        omega
      cases hfit : Tm.fits us (ss[k]?.getD []) with
      | true =>
        have hfs := hid (Tm.fits_snoc hks hall.out hfit)
        have hno : ¬ 30 < (Tm.applied us (ss[k]?.getD [])).length := by
          simp only [Tm.fits, decide_eq_true_eq] at hfit
          omega
        rw [if_neg hno, if_neg hno] at hbe
        clear hno hfit hcj0 hIj0 hks
        generalize Tm.applied us (ss[k]?.getD []) = pt at *
        generalize ss[k]?.getD [] = t at *
        generalize Tm.afterL (ss.take k) us = xs at *
        obtain ⟨a0, c0, rfl, _⟩ := NewS.subs hN
        go_wp2_with fail
        refine hbe.mono ?_
        rintro e w3 ⟨v3, rfl, hN3, hB3⟩
        obtain ⟨a3, c3, rfl, _⟩ := New.ints hN3
        have hB4 := hB.trans (hB3.mono hB.size)
        have HN4 := hid ((hN.below hB3).alloc (.cells #[.slice a3 pt.length c3] 23))
        have Hu4 := hid ((hN3.mono hB.size).alloc (.cells #[.slice a3 pt.length c3] 23))
        have Hcn := hid (cell_new w3 (.slice a3 pt.length c3) 23 w3.heap.size rfl)
        have hA : Below w.heap.size w (w3.alloc (.cells #[.slice a3 pt.length c3] 23)) := hB4.alloc hB4.size _
        clear hN hN3 hB3 hB hbe
        go_wp2_with (at_builtin; go_loud (refine wp_append_sub _ rfl _ _ rfl w.heap.size _ xs rfl HN4.out (.slice a3 pt.length c3) pt w3.heap.size rfl Hcn.out Hu4.out hln.out hA.size ?_); intro v' w5 hN5 hB5; obtain ⟨a5, c5, rfl, _⟩ := NewS.subs hN5)
        go_roundw
        case rel => exact ⟨k + 1, by omega, by go_num, hfs.out, by rw [hsn.out]; simpa using hN5, hA.trans hB5⟩
        case measure => simp [intOf]; omega
      | false =>
        obtain ⟨e1, e2⟩ := Hbig.out k hlt hfit
        have E1 := hid e1
        have E2 := hid e2
        have hyes : 30 < (Tm.applied us (ss[k]?.getD [])).length := by
          simp only [Tm.fits, decide_eq_false_iff_not] at hfit
          omega
        rw [if_pos hyes, if_pos hyes] at hbe
        clear hyes hfit hcj0 hIj0 hks e1 e2 hsn hln
        generalize ss[k]?.getD [] = t at *
        go_wp2_with fail
        refine hbe.mono ?_
        rintro e w3 ⟨v3, rfl, hN3, hB3⟩
        obtain ⟨a3, c3, rfl, _⟩ := New.ints hN3
        go_wp2
        go_ret2
        exact ⟨_, by rw [E1.out]; rfl, by rw [E2.out]; exact NewS.nil _ _, hB.trans (hB3.mono hB.size)⟩
    · obtain rfl : k = 8 := by omega
      have e8 : ss.take 8 = ss := by rw [← Hsl.out, List.take_length]
      obtain ⟨e1, e2⟩ := Hok.out (by have := hall.out; rw [e8] at this; exact this)
      have E1 := hid e1
      have E2 := hid e2
      rw [e8] at hN
      clear e1 e2 e8
      obtain ⟨a0, c0, rfl, _⟩ := NewS.subs hN
      go_wp2
      go_ret2
      exact ⟨_, by rw [E1.out]; rfl, by rw [E2.out]; exact hN, hB⟩

set_option maxRecDepth 100000 in
set_option maxHeartbeats 400000 in
/-- sub.After. -/
theorem after_any (ss us : List (List Int)) (a b : Option Addr) (ca cb : Nat) (w : World) (hS : Subs w.heap.size w a ss) (hU : Subs w.heap.size w b us) :
    Calls Try.prog 22 #[.slice a ss.length ca, .slice b us.length cb] w fun e w' => ∃ v, e = .returned (.tuple #[v, .int .i64 (Tm.afterErr ss us)]) ∧ NewS w.heap.size w' v (Tm.afterVal ss us) ∧ Below w.heap.size w w' := by
  by_cases hs : Tm.subErr ss = 0
  · by_cases hu : Tm.subErr us = 0
    · rw [(Tm.subErr_ok hs).1, (Tm.subErr_ok hu).1]
      exact after_right ss us hs hu a b ca cb w hS hU
    · obtain ⟨e1, e2⟩ := Tm.after_u hs hu
      rw [e1, e2]
      have hC1 := subCheck_any ss a ca w hS
      rw [hs] at hC1
      have hC2 : ∀ W, Below w.heap.size w W → Calls Try.prog 32 #[.slice b us.length cb] W fun e w' => e = .returned (.int .i64 (Tm.subErr us)) ∧ Below W.heap.size W w' := fun W hW => subCheck_any us b cb W ((hU.below hW).mono hW.size)
      have HC2 := hid hC2
      have hne : (Tm.subErr us != 0) = true := by simp [hu]
      clear hC2 e1 e2 hs hu hS hU
      generalize Tm.subErr us = q at *
      go_enter Try.func22, Try.ntmps22
      go_wp2_with fail
      refine hC1.mono ?_
      rintro e w1 ⟨rfl, hB1⟩
      clear hC1
      go_wp2_with fail
      refine (HC2.out _ hB1).mono ?_
      rintro e w2 ⟨rfl, hB2⟩
      go_wp2
      go_ret2
      exact ⟨_, rfl, NewS.nil _ _, hB1.trans (hB2.mono hB1.size)⟩
  · obtain ⟨e1, e2⟩ := Tm.after_s (us := us) hs
    rw [e1, e2]
    have hC1 := subCheck_any ss a ca w hS
    have hne : (Tm.subErr ss != 0) = true := by simp [hs]
    clear e1 e2 hs hS hU
    generalize Tm.subErr ss = q at *
    go_enter Try.func22, Try.ntmps22
    go_wp2_with fail
    refine hC1.mono ?_
    rintro e w1 ⟨rfl, hB1⟩
    go_wp2
    go_ret2
    exact ⟨_, rfl, NewS.nil _ _, hB1⟩

end Go.Proofs.Ytloealnfbpegnab

namespace Go.Proofs.Ytloealnfbpegnab
open Go.Proofs Go.RowKit Go.Shelf

end Go.Proofs.Ytloealnfbpegnab

namespace Go.Proofs.Ytloealnfbpegnab
open Go.Proofs Go.RowKit Go.Shelf Go.Maps

def Tm.idx (seen : List Int) (s : Int) : Nat := seen.findIdx (fun x => x == s)
def Tm.see (seen : List Int) (s : Int) : List Int := if s < 0 then (if seen.contains s = true then seen else seen ++ [s]) else seen
def Tm.name (seen : List Int) (s : Int) : Int := if s < 0 then -1 - (Tm.idx seen s : Int) else s
def Tm.seenFrom (seen : List Int) (l : List Int) : List Int := l.foldl Tm.see seen
/-- The first k signs of t made plain, where 'seen' have been seen. -/
def Tm.plainTo (seen : List Int) (t : List Int) (k : Nat) : List Int := (List.range k).map fun i : Nat => Tm.name (Tm.seenFrom seen (t.take i)) (t[i]?.getD 0)

theorem Tm.plainTo_succ (seen t : List Int) (k : Nat) : Tm.plainTo seen t (k + 1) = Tm.plainTo seen t k ++ [Tm.name (Tm.seenFrom seen (t.take k)) (t[k]?.getD 0)] := by simp [Tm.plainTo, List.range_succ]
theorem Tm.plainTo_length (seen t : List Int) (k : Nat) : (Tm.plainTo seen t k).length = k := by simp [Tm.plainTo]
theorem Tm.seen_succ (seen : List Int) {t : List Int} {k : Nat} (h : k < t.length) : Tm.seenFrom seen (t.take (k + 1)) = Tm.see (Tm.seenFrom seen (t.take k)) (t[k]?.getD 0) := by
  rw [take_snoc h]
  simp [Tm.seenFrom, List.foldl_append]
theorem Tm.idx_le (seen : List Int) (s : Int) : Tm.idx seen s ≤ seen.length := List.findIdx_le_length
theorem Tm.idx_new {seen : List Int} {s : Int} (h : seen.contains s = false) : Tm.idx seen s = seen.length := by
  unfold Tm.idx
  rw [List.findIdx_eq_length]
  intro x hx
  have : ¬ s ∈ seen := by simpa using h
  simp only [beq_eq_false_iff_ne]
  rintro rfl
  exact this hx
theorem Tm.idx_app {seen : List Int} {s : Int} (h : seen.contains s = true) (r : List Int) : Tm.idx (seen ++ r) s = Tm.idx seen s := by
  unfold Tm.idx
  rw [List.findIdx_append, if_pos]
  rw [List.findIdx_lt_length]
  exact ⟨s, by simpa using h, by simp⟩
theorem Tm.see_len (seen : List Int) (s : Int) : (Tm.see seen s).length ≤ seen.length + 1 := by
  unfold Tm.see
  split
  · split
    · omega
    · simp
  · omega
theorem Tm.seen_len (t : List Int) : ∀ seen : List Int, (Tm.seenFrom seen t).length ≤ seen.length + t.length := by
  induction t with
  | nil => intro seen; simp [Tm.seenFrom]
  | cons s l ih =>
    intro seen
    have h1 := ih (Tm.see seen s)
    have h2 := Tm.see_len seen s
    simp only [Tm.seenFrom, List.foldl_cons, List.length_cons] at h1 ⊢
    omega

/-- THE MAP D KEEPS the variables that have been seen, each with its new name. -/
structure MapIs (seen : List Int) (D : DataW Unit) : Prop where
  has : ∀ s : Int, Maps.has D (.int .i64 s) = seen.contains s
  at_ : ∀ s : Int, seen.contains s = true → D.atKey (.int .i64 s) (.lit (.int .i64 0)) = .lit (.int .i64 (-1 - (Tm.idx seen s : Int)))
  size : Maps.size D = seen.length

theorem MapIs.empty : MapIs [] (.map []) := ⟨fun _ => rfl, fun s h => by simp at h, rfl⟩
theorem MapIs.put {seen : List Int} {D : DataW Unit} (h : MapIs seen D) (hT : Tidy D) {s : Int} (hs : seen.contains s = false) :
    MapIs (seen ++ [s]) (D.put (.int .i64 s) (.lit (.int .i64 (-1 - (seen.length : Int))))) := by
  have hk : WideAt.IsKeyLit (.int .i64 s) := trivial
  have hh : Maps.has D (.int .i64 s) = false := by rw [h.has, hs]
  have hne : ¬ s ∈ seen := by simpa using hs
  refine ⟨fun x => ?_, fun x hx => ?_, ?_⟩
  · by_cases e : x = s
    · subst e
      rw [has_put_same hT.isMap hk]
      simp
    · rw [has_put_other (by simp [e]), h.has]
      simp [e]
  · by_cases e : x = s
    · subst e
      rw [atKey_put_same hT.isMap hk]
      have : Tm.idx (seen ++ [x]) x = seen.length := by
        unfold Tm.idx
        rw [List.findIdx_append, if_neg]
        · simp
        · rw [List.findIdx_lt_length]
          rintro ⟨y, hy, e⟩
          have : y = x := by simpa using e
          subst this
          exact hne hy
      rw [this]
    · rw [atKey_put_other (by simp [e])]
      have hx' : seen.contains x = true := by simpa [e] using hx
      rw [Tm.idx_app hx']
      exact h.at_ x hx'
  · rw [size_put hT, hh, h.size]
    simp

/-- Block Bf is the box of the map 'fresh', block Bm the map: it keeps 'seen'. -/
def FreshAt (W : World) (Bf Bm : Nat) (seen : List Int) : Prop :=
  W.cell? ⟨Bf, 0, none⟩ = some (.map (some Bm)) ∧ ∃ D : DataW Unit, W.ownsMap Try.prog 3 (plainElem Try.prog 3) Bm seen.length D ∧ MapIs seen D
theorem FreshAt.keep {W W' : World} {Bf Bm : Nat} {seen : List Int} (h : FreshAt W Bf Bm seen) (h1 : W'.heap[Bf]? = W.heap[Bf]?) (h2 : W'.heap[Bm]? = W.heap[Bm]?) : FreshAt W' Bf Bm seen := by
  obtain ⟨hc, D, ⟨es, clock, hb, r⟩, hM⟩ := h
  exact ⟨(World.cell?_of_block (a := ⟨Bf, 0, none⟩) h1).trans hc, D, ⟨es, clock, h2.trans hb, r⟩, hM⟩
theorem FreshAt.map {W : World} {Bf Bm : Nat} {seen : List Int} (h : FreshAt W Bf Bm seen) : ∃ es clock, W.heap[Bm]? = some (.map es clock) := by
  obtain ⟨_, D, ⟨es, clock, hb, _⟩, _⟩ := h
  exact ⟨es, clock, hb⟩
theorem FreshAt.lt {W : World} {Bf Bm : Nat} {seen : List Int} (h : FreshAt W Bf Bm seen) : Bf < W.heap.size ∧ Bm < W.heap.size := by
  obtain ⟨es, clock, hb⟩ := h.map
  exact ⟨lt_of_cell h.1, (Array.getElem?_eq_some_iff.1 hb).1⟩
theorem ne_map {W : World} {b o Bm : Nat} {v : Value} (hc : W.cell? ⟨b, o, none⟩ = some v) {es : Array (MapEntry)} {clock : Nat} (hm : W.heap[Bm]? = some (.map es clock)) : b ≠ Bm := by
  rintro rfl
  simp [World.cell?, hm] at hc

/-- w' is w below block n, but for block m. -/
structure Keep (n m : Nat) (w w' : World) : Prop where
  os : w'.os = w.os
  tape : w'.tape = w.tape
  output : w'.output = w.output
  size : w.heap.size ≤ w'.heap.size
  block : ∀ k, k < n → k ≠ m → w'.heap[k]? = w.heap[k]?
theorem Keep.refl (n m : Nat) (w : World) : Keep n m w w := ⟨rfl, rfl, rfl, Nat.le_refl _, fun _ _ _ => rfl⟩
theorem Keep.trans {n m : Nat} {a b c : World} (h : Keep n m a b) (k : Keep n m b c) : Keep n m a c :=
  ⟨k.os.trans h.os, k.tape.trans h.tape, k.output.trans h.output, Nat.le_trans h.size k.size, fun i hi hm => (k.block i hi hm).trans (h.block i hi hm)⟩
theorem Keep.of_below {n m : Nat} {a b : World} (h : Below n a b) : Keep n m a b := ⟨h.os, h.tape, h.output, h.size, fun k hk _ => h.block k hk⟩
theorem Keep.of_grown {n m : Nat} {a b : World} (h : a.grownBy b (some m)) (hn : n ≤ a.heap.size) : Keep n m a b :=
  ⟨h.os, h.tape, h.output, h.size, fun k hk hm => h.block k (by omega) (by simpa using hm)⟩
theorem Keep.mono {n n' m : Nat} {a b : World} (h : Keep n m a b) (hn : n' ≤ n) : Keep n' m a b := ⟨h.os, h.tape, h.output, h.size, fun k hk hm => h.block k (by omega) hm⟩
theorem Keep.below {n m : Nat} {a b : World} (h : Keep n m a b) (hm : n ≤ m) : Below n a b := ⟨h.os, h.tape, h.output, h.size, fun k hk => h.block k hk (by omega)⟩

end Go.Proofs.Ytloealnfbpegnab

namespace Go.Proofs.Ytloealnfbpegnab
open Go.Proofs Go.RowKit Go.Shelf Go.Maps

theorem lawInt : Keyed Try.prog 3 := int_keyed Try.underlying3
theorem zeroInt (w : World) : (zeroValue 3).run Try.prog w = .ok (.int .i64 0) w := by kernel_rfl
theorem wf64 {s : Int} (h1 : -1000 ≤ s) (h2 : s ≤ 1000) : (Lit.int .i64 s).wf = true := by
  simp [Lit.wf, IntKind.min, IntKind.max, IntKind.signed, IntKind.bits]
  omega

end Go.Proofs.Ytloealnfbpegnab

namespace Go.Proofs.Ytloealnfbpegnab
open Go.Proofs Go.RowKit Go.Shelf Go.Maps

/-- A term made plain. -/
def Tm.plain (t : List Int) : List Int := Tm.plainTo [] t t.length

def Tm.plainVal (t : List Int) : List Int := if Tm.err t = 0 then Tm.plain t else []
theorem Tm.known6 {t : List Int} (h : Tm.err t = 0) : ∀ k, k < t.length → t[k]?.getD 0 < 6 := fun _ hk => Tm.known_lt (Tm.all_at (Tm.err_all h) hk)

end Go.Proofs.Ytloealnfbpegnab
