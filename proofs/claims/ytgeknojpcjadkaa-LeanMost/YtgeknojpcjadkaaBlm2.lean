/-
  Parts of the proof: Put2, Begun, Begun2, Row, Sub1, Sub2, Sub4, Sub5, Sub6, Sub7, Plain1, Plain2, Plain3, Plain4, Plain5, Sub9, Row2, IntMap, True1.
-/
import Derived.Test.YtgeknojpcjadkaaBlm1
import Derived.Deep.DeepCutAuto
import Derived.Maps.OwnSet
import Derived.Maps.OwnOps
import Derived.Maps.OwnIn
namespace Go.Proofs.Ytgeknojpcjadkaa
open Go.Proofs Go.RowKit Go.Shelf
theorem Tm.putErr_zs {zs us : List Int} {k : Int} (he : Tm.err zs ≠ 0) : Tm.putErr zs k us = Tm.err zs := by simp [Tm.putErr, he]
theorem Tm.putErr_us {zs us : List Int} {k : Int} (he : Tm.err zs = 0) (hu : Tm.err us ≠ 0) : Tm.putErr zs k us = Tm.err us := by simp [Tm.putErr, he, hu]
theorem Tm.putErr_k {zs us : List Int} {k : Int} (he : Tm.err zs = 0) (hu : Tm.err us = 0) (hk : insideB k 0 ((zs.length : Int) - 1) = false) : Tm.putErr zs k us = 3 := by simp [Tm.putErr, he, hu, hk]
theorem Tm.putErr_in {zs us : List Int} {j : Nat} (he : Tm.err zs = 0) (hu : Tm.err us = 0) (hk : insideB (j : Int) 0 ((zs.length : Int) - 1) = true) : Tm.putErr zs (j : Int) us = if 30 < (Tm.put zs j us).length then 2 else 0 := by
  simp [Tm.putErr, he, hu, hk]
theorem Tm.putVal_in {zs us : List Int} {j : Nat} (he : Tm.err zs = 0) (hu : Tm.err us = 0) (hk : insideB (j : Int) 0 ((zs.length : Int) - 1) = true) : Tm.putVal zs (j : Int) us = if 30 < (Tm.put zs j us).length then [] else Tm.put zs j us := by
  unfold Tm.putVal
  rw [Tm.putErr_in he hu hk]
  by_cases h : 30 < (Tm.put zs j us).length <;> simp [h]
theorem Tm.putVal_out {zs us : List Int} {k : Int} (h : Tm.putErr zs k us ≠ 0) : Tm.putVal zs k us = [] := by simp [Tm.putVal, h]
set_option maxRecDepth 100000 in
set_option maxHeartbeats 400000 in
theorem termPut_any (zs us : List Int) (a au : Option Addr) (cap cu : Nat) (k : Int) (w : World) (hI : Ints w.heap.size w a zs) (hU : Ints w.heap.size w au us) (hcap : zs.length ≤ cap) (hcap2 : cap ≤ maxLen) :
    Calls Try.prog 94 #[.slice a zs.length cap, .int .i64 k, .slice au us.length cu] w fun e w' => ∃ v, e = .returned (.tuple #[v, .int .i64 (Tm.putErr zs k us)]) ∧ New w.heap.size w' v (Tm.putVal zs k us) ∧ Below w.heap.size w w' := by
  have hC1 := check_any zs a cap w hI
  by_cases he : Tm.err zs = 0
  · have hC2 : ∀ W, Below w.heap.size w W → Calls Try.prog 53 #[.slice au us.length cu] W fun e w' => e = .returned (.int .i64 (Tm.err us)) ∧ Below W.heap.size W w' := fun W hW => check_any us au cu W ((hU.below hW).mono hW.size)
    have HC2 := hid (hC2)
    clear hC2
    by_cases hu : Tm.err us = 0
    · by_cases hp : insideB k 0 ((zs.length : Int) - 1) = true
      · have hk := (insideB_iff _ _ _).1 hp
        obtain ⟨j, rfl⟩ : ∃ j : Nat, k = (j : Int) := ⟨k.toNat, by omega⟩
        obtain ⟨b, off, rfl, _⟩ := hI.at (by omega)
        rw [Tm.putErr_in he hu hp, Tm.putVal_in he hu hp]
        exact put_try zs us b off au cap cu j w hI hU hcap hcap2 he hu (by omega)
      · have hp' : insideB k 0 ((zs.length : Int) - 1) = false := by simpa using hp
        have hpe := Tm.putErr_k (us := us) he hu hp'
        rw [Tm.putVal_out (by rw [hpe]; decide), hpe]
        rw [he] at hC1
        rw [hu] at HC2
        clear hpe hp he hu hI hU hcap2
        go_enter Try.func94, Try.ntmps94
        go_wp2_with fail
        refine hC1.mono ?_
        rintro e w1 ⟨rfl, hB1⟩
        go_wp2_with fail
        refine (HC2.out _ hB1).mono ?_
        rintro e w2 ⟨rfl, hB2⟩
        go_wp2_with (go_at_call 122; refine (hasPlace_any _ _ _ _ _).mono ?_; rw [hp']; rintro e w2 ⟨rfl, rfl⟩)
        go_ret2
        exact ⟨_, rfl, New.nil _ _, hB1.trans (hB2.mono hB1.size)⟩
    · have hpe := Tm.putErr_us (k := k) he hu
      rw [Tm.putVal_out (by rw [hpe]; exact hu), hpe]
      have hne : (Tm.err us != 0) = true := by simp [hu]
      rw [he] at hC1
      clear hpe he hu hI hU hcap2
      generalize Tm.err us = q at *
      go_enter Try.func94, Try.ntmps94
      go_wp2_with fail
      refine hC1.mono ?_
      rintro e w1 ⟨rfl, hB1⟩
      go_wp2_with fail
      refine (HC2.out _ hB1).mono ?_
      rintro e w2 ⟨rfl, hB2⟩
      go_wp2
      go_ret2
      exact ⟨_, rfl, New.nil _ _, hB1.trans (hB2.mono hB1.size)⟩
  · have hpe := Tm.putErr_zs (us := us) (k := k) he
    rw [Tm.putVal_out (by rw [hpe]; exact he), hpe]
    have hne : (Tm.err zs != 0) = true := by simp [he]
    clear hpe he hI hU hcap2
    generalize Tm.err zs = q at *
    go_enter Try.func94, Try.ntmps94
    go_wp2_with fail
    refine hC1.mono ?_
    rintro e w1 ⟨rfl, hB1⟩
    go_wp2
    go_ret2
    exact ⟨_, rfl, New.nil _ _, hB1⟩
theorem ints_lit (W : World) (zs : List Int) (n : Nat) (hn : n = W.heap.size + 1) : Ints n (W.alloc (.cells (zs.map (Value.int .i64)).toArray 3)) (some ⟨W.heap.size, 0, none⟩) zs := by
  subst hn
  intro j hj
  refine ⟨W.heap.size, 0, rfl, by omega, ?_⟩
  rw [cell_at (World.alloc_heap_new W _)]
  simp [hj]
theorem Tm.q1 : Tm.endVal [4, -1, 2, 0] 2 = 4 := by decide +kernel
theorem Tm.q2 : Tm.placeErr [4, -1, 2, 0] 2 = 0 := by decide +kernel
theorem Tm.q3 : Tm.partVal [4, -1, 2, 0] 2 = [2, 0] := by decide +kernel
theorem Tm.q4 : Tm.putErr [4, -1, 2, 0] 1 [3, 1] = 0 := by decide +kernel
theorem Tm.q5 : Tm.putVal [4, -1, 2, 0] 1 [3, 1] = [4, 3, 1, 2, 0] := by decide +kernel
theorem Tm.q6 : Tm.placeErr [4, -1, 2, 0] 4 = 3 := by decide +kernel
theorem lt_of_cell {W : World} {a : Addr} {v : Value} (h : W.cell? a = some v) : a.block < W.heap.size := by
  obtain ⟨o, ho, _⟩ := not_walk_of_cell h
  exact (Array.getElem?_eq_some_iff.1 ho).1
theorem ints_of_row {w : World} {a : Option Addr} {len cap : Nat} {z : List Int}
    (h : (a = none ∧ len = 0 ∧ cap = 0 ∧ z = []) ∨ ∃ x, a = some x ∧ len ≤ cap ∧ cap ≤ maxLen ∧ z.length = cap ∧ (∀ i, i < z.length → w.cell? (x.add i) = some (.int .i64 (z.getD i 0))) ∧ ∀ n ∈ z, (Lit.int .i64 n).wf = true) :
    ∃ zs : List Int, zs.length = len ∧ Ints w.heap.size w a zs ∧ len ≤ cap ∧ cap ≤ maxLen ∧ (a = none → cap = 0) := by
  rcases h with ⟨rfl, rfl, rfl, rfl⟩ | ⟨x, rfl, h1, h2, h3, h4, _⟩
  · exact ⟨[], rfl, Ints.nil _ _ _, Nat.le_refl _, Nat.zero_le _, fun _ => rfl⟩
  · refine ⟨z.take len, by rw [List.length_take]; omega, fun j hj => ?_, h1, h2, fun h => by cases h⟩
    rw [List.length_take] at hj
    have hc := h4 j (by omega)
    have hsp := World.cell?_spot (h4 0 (by omega))
    obtain ⟨b, off, spot⟩ := x
    have hspot : spot = none := by simpa [Addr.add] using hsp
    subst hspot
    rw [Go.WideShapes.add_plain] at hc
    refine ⟨b, off, rfl, by simpa using lt_of_cell hc, ?_⟩
    rw [hc, List.getD_eq_getElem?_getD]
    simp [show j < len from by omega]
def Subs (n : Nat) (W : World) (a : Option Addr) (ss : List (List Int)) : Prop :=
  ∀ j, j < ss.length → ∃ b off aj cj, a = some ⟨b, off, none⟩ ∧ b < n ∧ W.cell? ⟨b, off + j, none⟩ = some (.slice aj (ss[j]?.getD []).length cj) ∧ Ints n W aj (ss[j]?.getD []) ∧ (ss[j]?.getD []).length ≤ cj ∧ cj ≤ maxLen ∧ (aj = none → cj = 0)
theorem Subs.below {n : Nat} {A B : World} (h : Below n A B) {a : Option Addr} {ss : List (List Int)} (hs : Subs n A a ss) : Subs n B a ss := fun j hj => by
  obtain ⟨b, off, aj, cj, e, hb, hc, hI, h1, h2, h3⟩ := hs j hj
  exact ⟨b, off, aj, cj, e, hb, (h.cell (p := ⟨b, off + j, none⟩) hb).trans hc, hI.below h, h1, h2, h3⟩
theorem Subs.mono {n m : Nat} (h : n ≤ m) {W : World} {a : Option Addr} {ss : List (List Int)} (hs : Subs n W a ss) : Subs m W a ss := fun j hj => by
  obtain ⟨b, off, aj, cj, e, hb, hc, hI, h1, h2, h3⟩ := hs j hj
  exact ⟨b, off, aj, cj, e, by omega, hc, hI.mono h, h1, h2, h3⟩
theorem Subs.at {n : Nat} {W : World} {a : Option Addr} {ss : List (List Int)} (hs : Subs n W a ss) (h : 0 < ss.length) :
    ∃ b off, a = some ⟨b, off, none⟩ ∧ b < n ∧ ∀ j, j < ss.length → ∃ aj cj, W.cell? ⟨b, off + j, none⟩ = some (.slice aj (ss[j]?.getD []).length cj) ∧ Ints n W aj (ss[j]?.getD []) ∧ (ss[j]?.getD []).length ≤ cj ∧ cj ≤ maxLen ∧ (aj = none → cj = 0) := by
  obtain ⟨b, off, _, _, rfl, hb, _⟩ := hs 0 h
  refine ⟨b, off, rfl, hb, fun j hj => ?_⟩
  obtain ⟨b', off', aj, cj, e, _, hc, hr⟩ := hs j hj
  cases e
  exact ⟨aj, cj, hc, hr⟩
theorem Subs.nil (n : Nat) (W : World) (a : Option Addr) : Subs n W a [] := fun j hj => by simp at hj
def Tm.firstErr : List (List Int) → Int
  | [] => 0
  | t :: l => if Tm.err t = 0 then Tm.firstErr l else Tm.err t
def Tm.subErr (ss : List (List Int)) : Int := if ss.length = 8 then Tm.firstErr ss else 1
theorem Tm.firstErr_step {ss : List (List Int)} {k : Nat} (hk : k < ss.length) (he : Tm.err (ss[k]?.getD []) = 0) : Tm.firstErr (ss.drop k) = Tm.firstErr (ss.drop (k + 1)) := by
  rw [List.drop_eq_getElem_cons hk, Tm.firstErr]
  simp only [hk, List.getElem?_eq_getElem, Option.getD_some] at he
  rw [if_pos he]
theorem Tm.firstErr_stop {ss : List (List Int)} {k : Nat} (hk : k < ss.length) (he : Tm.err (ss[k]?.getD []) ≠ 0) : Tm.firstErr (ss.drop k) = Tm.err (ss[k]?.getD []) := by
  rw [List.drop_eq_getElem_cons hk, Tm.firstErr]
  simp only [hk, List.getElem?_eq_getElem, Option.getD_some] at he ⊢
  rw [if_neg he]
theorem Tm.firstErr_all {ss : List (List Int)} (h : Tm.firstErr ss = 0) : ∀ k, k < ss.length → Tm.err (ss[k]?.getD []) = 0 := by
  induction ss with
  | nil => intro k hk; simp at hk
  | cons t l ih =>
    intro k hk
    unfold Tm.firstErr at h
    by_cases he : Tm.err t = 0
    · rw [if_pos he] at h
      cases k with
      | zero => simpa using he
      | succ k => simpa using ih h k (by simpa using hk)
    · rw [if_neg he] at h; exact absurd h he
set_option maxHeartbeats 400000 in
theorem subCheck_len (len : Nat) (a : Option Addr) (cap : Nat) (w : World) (hl : len ≠ 8) : Calls Try.prog 58 #[.slice a len cap] w fun e w' => e = .returned (.int .i64 1) ∧ Below w.heap.size w w' := by
  have h1 : ((len : Int) != 8) = true := by simp; omega
  go_enter Try.func58, Try.ntmps58
  go_wp2
  go_ret
  exact ⟨rfl, Below.refl _ _⟩
set_option maxRecDepth 100000 in
set_option maxHeartbeats 400000 in
theorem subCheck_eight (ss : List (List Int)) (hl : ss.length = 8) (a : Option Addr) (cap : Nat) (w : World) (hS : Subs w.heap.size w a ss) :
    Calls Try.prog 58 #[.slice a 8 cap] w fun e w' => e = .returned (.int .i64 (Tm.firstErr ss)) ∧ Below w.heap.size w w' := by
  obtain ⟨b, off, rfl, hb, hc⟩ := hS.at (by omega)
  have Hc := hid hc
  have Hl := hid hl
  clear hc hS hl
  go_enter Try.func58, Try.ntmps58
  go_wp2
  go_loopw [11] (fun i wr => ∃ k : Nat, k ≤ 8 ∧ i = .int .i64 (k : Int) ∧ Hid (Tm.firstErr ss = Tm.firstErr (ss.drop k)) ∧ Below w.heap.size w wr) (fun i _ => 8 - (intOf i).toNat)
  case atStart => exact ⟨0, Nat.zero_le _, rfl, rfl, Below.refl _ _⟩
  case round =>
    obtain ⟨k, hk, rfl, hf, hB⟩ := hrel
    by_cases hlt : k < 8
    · have hlt' : (k : Int) < 8 := by omega
      obtain ⟨aj, cj, hcj, hIj, _⟩ := Hc.out k (by rw [Hl.out]; exact hlt)
      have hcj' := (hB.cell (p := ⟨b, off + k, none⟩) hb).trans hcj
      have hC := check_any (ss[k]?.getD []) aj cj wr ((hIj.below hB).mono hB.size)
      have hst := hid (Tm.firstErr_step (ss := ss) (k := k) (by rw [Hl.out]; exact hlt))
      have hsp := hid (Tm.firstErr_stop (ss := ss) (k := k) (by rw [Hl.out]; exact hlt))
      clear hcj hIj
      generalize ss[k]?.getD [] = t at *
      by_cases he : Tm.err t = 0
      · have hst' := hid (hf.out.trans (hst.out he))
        rw [he] at hC
        clear hst hsp he hf
        go_wp2_with (go_at_call 53; refine hC.mono ?_; clear hC; rintro e w1 ⟨rfl, hB1⟩)
        go_roundw
        case rel => exact ⟨k + 1, by omega, by go_num, hst'.out, hB.trans (hB1.mono hB.size)⟩
        case measure => simp [intOf]; omega
      · have hsp' := hid (hf.out.trans (hsp.out he))
        have hne : (Tm.err t != 0) = true := by simp [he]
        clear hst hsp he hf
        generalize Tm.err t = q at *
        go_wp2_with (go_at_call 53; refine hC.mono ?_; clear hC; rintro e w1 ⟨rfl, hB1⟩)
        go_ret
        exact ⟨by rw [hsp'.out]; rfl, hB.trans (hB1.mono hB.size)⟩
    · obtain rfl : k = 8 := by omega
      have h0 : Hid (Tm.firstErr ss = 0) := by
        show _ = _
        rw [hf.out, ← Hl.out, List.drop_length]
        rfl
      clear hf
      go_wp2
      go_ret
      exact ⟨by rw [h0.out]; rfl, hB⟩
theorem subCheck_any (ss : List (List Int)) (a : Option Addr) (cap : Nat) (w : World) (hS : Subs w.heap.size w a ss) :
    Calls Try.prog 58 #[.slice a ss.length cap] w fun e w' => e = .returned (.int .i64 (Tm.subErr ss)) ∧ Below w.heap.size w w' := by
  unfold Tm.subErr
  by_cases hl : ss.length = 8
  · rw [if_pos hl, hl]; exact subCheck_eight ss hl a cap w hS
  · rw [if_neg hl]; exact subCheck_len _ a cap w hl
set_option maxHeartbeats 400000 in
theorem subError_len (len : Nat) (a : Option Addr) (cap : Nat) (w : World) (hl : len ≠ 8) : Calls Try.prog 35 #[.slice a len cap] w fun e w' => e = .returned (.int .i64 1) ∧ w' = w := by
  have h1 : ((len : Int) != 8) = true := by simp; omega
  go_enter Try.func35, Try.ntmps35
  go_wp2
  go_ret
  exact ⟨rfl, rfl⟩
set_option maxRecDepth 100000 in
set_option maxHeartbeats 400000 in
theorem subError_eight (ss : List (List Int)) (hl : ss.length = 8) (a : Option Addr) (cap : Nat) (w : World) (hS : Subs w.heap.size w a ss) :
    Calls Try.prog 35 #[.slice a 8 cap] w fun e w' => e = .returned (.int .i64 (Tm.firstErr ss)) ∧ w' = w := by
  obtain ⟨b, off, rfl, hb, hc⟩ := hS.at (by omega)
  have Hc := hid hc
  have Hl := hid hl
  clear hc hS hl
  go_enter Try.func35, Try.ntmps35
  go_wp2
  go_loop [3] (fun i => ∃ k : Nat, k ≤ 8 ∧ i = .int .i64 (k : Int) ∧ Hid (Tm.firstErr ss = Tm.firstErr (ss.drop k))) (fun i => 8 - (intOf i).toNat)
  case atStart => exact ⟨0, Nat.zero_le _, rfl, rfl⟩
  case round =>
    obtain ⟨k, hk, rfl, hf⟩ := hrel
    by_cases hlt : k < 8
    · have hlt' : (k : Int) < 8 := by omega
      obtain ⟨aj, cj, hcj, hIj, _⟩ := Hc.out k (by rw [Hl.out]; exact hlt)
      have hC := termError_any (ss[k]?.getD []) aj cj w hIj
      have hst := hid (Tm.firstErr_step (ss := ss) (k := k) (by rw [Hl.out]; exact hlt))
      have hsp := hid (Tm.firstErr_stop (ss := ss) (k := k) (by rw [Hl.out]; exact hlt))
      clear hIj
      generalize ss[k]?.getD [] = t at *
      by_cases he : Tm.err t = 0
      · have hst' := hid (hf.out.trans (hst.out he))
        rw [he] at hC
        clear hst hsp he hf
        go_wp2_with (go_at_call 16; refine hC.mono ?_; clear hC; rintro e w ⟨rfl, rfl⟩)
        go_round
        case rel => exact ⟨k + 1, by omega, by go_num, hst'.out⟩
        case measure => simp [intOf]; omega
      · have hsp' := hid (hf.out.trans (hsp.out he))
        have hne : (Tm.err t != 0) = true := by simp [he]
        clear hst hsp he hf
        generalize Tm.err t = q at *
        go_wp2_with (go_at_call 16; refine hC.mono ?_; clear hC; rintro e w ⟨rfl, rfl⟩)
        go_ret
        exact ⟨by rw [hsp'.out]; rfl, rfl⟩
    · obtain rfl : k = 8 := by omega
      have h0 : Hid (Tm.firstErr ss = 0) := by
        show _ = _
        rw [hf.out, ← Hl.out, List.drop_length]
        rfl
      clear hf
      go_wp2
      go_ret
      exact ⟨by rw [h0.out]; rfl, rfl⟩
theorem subError_any (ss : List (List Int)) (a : Option Addr) (cap : Nat) (w : World) (hS : Subs w.heap.size w a ss) :
    Calls Try.prog 35 #[.slice a ss.length cap] w fun e w' => e = .returned (.int .i64 (Tm.subErr ss)) ∧ w' = w := by
  unfold Tm.subErr
  by_cases hl : ss.length = 8
  · rw [if_pos hl, hl]; exact subError_eight ss hl a cap w hS
  · rw [if_neg hl]; exact subError_len _ a cap w hl
def Tm.piece (ss : List (List Int)) (s : Int) : List Int := if s < 0 then ss[(-1 - s).toNat]?.getD [] else [s]
def Tm.applied (ss : List (List Int)) (t : List Int) : List Int := t.flatMap (Tm.piece ss)
theorem Tm.applied_snoc (ss : List (List Int)) {t : List Int} {k : Nat} (h : k < t.length) : Tm.applied ss (t.take (k + 1)) = Tm.applied ss (t.take k) ++ Tm.piece ss (t[k]?.getD 0) := by
  rw [take_snoc h]
  simp [Tm.applied, List.flatMap_append]
def Short (ss : List (List Int)) : Prop := ∀ j, j < ss.length → (ss[j]?.getD []).length ≤ 30
theorem Short.of_ok {ss : List (List Int)} (h : Tm.firstErr ss = 0) : Short ss := fun j hj => Tm.err_len (Tm.firstErr_all h j hj)
theorem Short.any {ss : List (List Int)} (h : Short ss) (j : Nat) : (ss[j]?.getD []).length ≤ 30 := by
  by_cases hj : j < ss.length
  · exact h j hj
  · rw [List.getElem?_eq_none (by omega)]; simp
theorem Tm.piece_le {ss : List (List Int)} (h : Short ss) (s : Int) : (Tm.piece ss s).length ≤ 30 := by
  unfold Tm.piece
  by_cases hs : s < 0
  · rw [if_pos hs]; exact h.any _
  · rw [if_neg hs]; simp
theorem Tm.applied_le {ss : List (List Int)} (h : Short ss) (t : List Int) : (Tm.applied ss t).length ≤ 30 * t.length := by
  induction t with
  | nil => simp [Tm.applied]
  | cons s l ih =>
    have := Tm.piece_le h s
    simp only [Tm.applied, List.flatMap_cons, List.length_append, List.length_cons] at ih ⊢
    omega
set_option maxRecDepth 100000 in
set_option maxHeartbeats 400000 in
theorem become1_any (ss : List (List Int)) (hl : ss.length = 8) (a : Option Addr) (cap Bs : Nat) (s : Int) (h8 : -8 ≤ s) (w : World) (hB : w.cell? ⟨Bs, 0, none⟩ = some (.slice a 8 cap)) (hS : Subs w.heap.size w a ss) :
    Calls Try.prog 95 #[.int .i64 s, .pointer (some ⟨Bs, 0, none⟩)] w fun e w' => ∃ b c, e = .returned (.slice b (Tm.piece ss s).length c) ∧ Ints w'.heap.size w' b (Tm.piece ss s) ∧ (b = none → (Tm.piece ss s).length = 0 ∧ c = 0) ∧ Below w.heap.size w w' := by
  by_cases hs : s < 0
  · obtain ⟨j, rfl⟩ : ∃ j : Nat, s = -1 - (j : Int) := ⟨(-1 - s).toNat, by omega⟩
    obtain ⟨b, off, rfl, hb, hc⟩ := hS.at (by omega)
    obtain ⟨aj, cj, hcj, hIj, h1, h2, h3⟩ := hc j (by omega)
    have hpc : Tm.piece ss (-1 - (j : Int)) = ss[j]?.getD [] := by
      unfold Tm.piece
      rw [if_pos hs]
      congr 2
      omega
    rw [hpc]
    have hj8 : (j : Int) < 8 := by omega
    have H3 : Hid (aj = none → (ss[j]?.getD []).length = 0 ∧ cj = 0) := fun e => ⟨by have := h3 e; omega, h3 e⟩
    clear hpc hc hS h3 h1 h2
    generalize ss[j]?.getD [] = t at *
    have hsub : (-1 : Int) - (-1 - (j : Int)) = (j : Int) := by omega
    go_enter Try.func95, Try.ntmps95
    go_wp2
    go_ret
    exact ⟨_, _, rfl, hIj, H3.out, Below.refl _ _⟩
  · have hpc : Tm.piece ss s = [s] := by simp [Tm.piece, hs]
    have h := ints_lit w [s] _ rfl
    simp only [List.map_cons, List.map_nil] at h
    have Hp := hid hpc
    clear hpc hS
    generalize Tm.piece ss s = pc at *
    go_enter Try.func95, Try.ntmps95
    go_wp2
    go_ret
    exact ⟨some ⟨w.heap.size, 0, none⟩, 1, by rw [Hp.out]; rfl, by rw [Hp.out]; simpa using h, (fun e => by cases e), (Below.refl _ _).alloc (Nat.le_refl _) _⟩
set_option maxRecDepth 100000 in
set_option maxHeartbeats 400000 in
theorem change_become (ss : List (List Int)) (hl : ss.length = 8) (hsh : Short ss) (a : Option Addr) (cap Bs : Nat) (t : List Int) (at' : Option Addr) (ct : Nat) (ht : t.length ≤ 30) (h8 : ∀ k, k < t.length → -8 ≤ t[k]?.getD 0) (w : World)
    (hBs : Bs < w.heap.size) (hB : w.cell? ⟨Bs, 0, none⟩ = some (.slice a 8 cap)) (hS : Subs w.heap.size w a ss) (hT : Ints w.heap.size w at' t) :
    Calls Try.prog 85 #[.slice at' t.length ct, .func (.func 95) #[] #[.pointer (some ⟨Bs, 0, none⟩)]] w fun e w' => ∃ v, e = .returned v ∧ New w.heap.size w' v (Tm.applied ss t) ∧ Below w.heap.size w w' := by
  have hlen : (t.length : Int) ≤ 30 := by omega
  have HB := hid hB
  have HS := hid hS
  have HT := hid hT
  have H8 := hid h8
  have Hl := hid hl
  clear hB hS hT h8 hl
  go_enter Try.func85, Try.ntmps85
  go_wp2
  go_loopw [5, 10] (fun v i wr => ∃ k : Nat, k ≤ t.length ∧ i = .int .i64 (k : Int) ∧ New w.heap.size wr v (Tm.applied ss (t.take k)) ∧ Below w.heap.size w wr) (fun _ i _ => t.length - (intOf i).toNat)
  case atStart => exact ⟨0, Nat.zero_le _, rfl, New.nil _ _, Below.refl _ _⟩
  case round =>
    obtain ⟨k, hk, rfl, hN, hBr⟩ := hrel
    by_cases hlt : k < t.length
    · have hlt' : (k : Int) < (t.length : Int) := by omega
      obtain ⟨b, off, rfl, hb, hc⟩ := HT.out.at (by omega)
      have hck := (hBr.cell (p := ⟨b, off + k, none⟩) hb).trans (hc k hlt)
      have hf := become1_any ss Hl.out a cap Bs (t[k]?.getD 0) (H8.out k hlt) wr ((hBr.cell (p := ⟨Bs, 0, none⟩) hBs).trans HB.out) ((HS.out.below hBr).mono hBr.size)
      have hsn := hid (Tm.applied_snoc ss hlt)
      have hle := Tm.applied_le hsh (t.take k)
      rw [List.length_take] at hle
      have hpl := Tm.piece_le hsh (t[k]?.getD 0)
      clear hc
      generalize Tm.piece ss (t[k]?.getD 0) = pc at *
      generalize t[k]?.getD 0 = s at *
      generalize Tm.applied ss (t.take k) = xs at *
      obtain ⟨a0, c0, rfl, _⟩ := New.ints hN
      go_wp2_with (first
        | (go_at_call 95; refine hf.mono ?_; clear hf; rintro e w1 ⟨b1, c1, rfl, hI1, hn1, hB1⟩; have hN1 := New.below hN hB1; have hB2 := hBr.trans (hB1.mono hBr.size))
        | (at_builtin; go_loud (refine wp_append_ints _ rfl _ _ rfl w.heap.size _ xs rfl hN1 b1 pc c1 rfl hn1 hI1 (by omega) hB2.size ?_); intro v' w2 hN2 hB3; obtain ⟨a2, c2, rfl, _⟩ := New.ints hN2))
      go_roundw
      case rel => exact ⟨k + 1, by omega, by go_num, by rw [hsn.out]; simpa using hN2, hB2.trans hB3⟩
      case measure => simp [intOf]; omega
    · obtain rfl : k = t.length := by omega
      rw [List.take_length] at hN
      obtain ⟨a2, c2, rfl, _⟩ := New.ints hN
      go_wp2
      go_ret
      exact ⟨_, rfl, hN, hBr⟩
theorem become_any (ss : List (List Int)) (hl : ss.length = 8) (hsh : Short ss) (a : Option Addr) (cap : Nat) (t : List Int) (at' : Option Addr) (ct : Nat) (ht : t.length ≤ 30) (h8 : ∀ k, k < t.length → -8 ≤ t[k]?.getD 0) (w : World)
    (hS : Subs w.heap.size w a ss) (hT : Ints w.heap.size w at' t) :
    Calls Try.prog 59 #[.slice a 8 cap, .slice at' t.length ct] w fun e w' => ∃ v, e = .returned (.tuple #[v, .int .i64 (if 30 < (Tm.applied ss t).length then 2 else 0)]) ∧ New w.heap.size w' v (if 30 < (Tm.applied ss t).length then [] else Tm.applied ss t) ∧ Below w.heap.size w w' := by
  have hmf : ∀ (fn : Fn) (first cap : Array Value) (w : World), (Instr.makeFunc fn first cap).run Try.prog w = .ok (.func fn first cap) w := fun _ _ _ _ => rfl
  have bS := Boxed.new w 58 (.slice a 8 cap)
  have hB : Below w.heap.size w (w.alloc (.cells #[.slice a 8 cap] 58)) := (Below.refl _ _).alloc (Nat.le_refl _) _
  have hC := change_become ss hl hsh a cap w.heap.size t at' ct ht h8 (w.alloc (.cells #[.slice a 8 cap] 58)) (by simp) bS.cell ((hS.below hB).mono hB.size) ((hT.below hB).mono hB.size)
  have hle := Tm.applied_le hsh t
  have Hle := hid hle
  clear hle hS hT h8 bS
  generalize Tm.applied ss t = xs at *
  have hx : (xs.length : Int) ≤ 1000 := by have := Hle.out; omega
  by_cases hbig : 30 < xs.length
  · have hbig' : (30 : Int) < (xs.length : Int) := by omega
    rw [if_pos hbig, if_pos hbig]
    clear hbig
    go_enter Try.func59, Try.ntmps59
    go_wp2_with (go_at_call 85; refine hC.mono ?_; clear hC; rintro e w1 ⟨v, rfl, hN, hB1⟩; obtain ⟨a1, c1, rfl, _⟩ := New.ints hN)
    go_ret2
    exact ⟨_, rfl, New.nil _ _, hB.trans (hB1.mono hB.size)⟩
  · have hbig' : (xs.length : Int) ≤ 30 := by omega
    rw [if_neg hbig, if_neg hbig]
    clear hbig
    go_enter Try.func59, Try.ntmps59
    go_wp2_with (go_at_call 85; refine hC.mono ?_; clear hC; rintro e w1 ⟨v, rfl, hN, hB1⟩; obtain ⟨a1, c1, rfl, _⟩ := New.ints hN)
    go_ret2
    exact ⟨_, rfl, hN.mono hB.size, hB.trans (hB1.mono hB.size)⟩
def Tm.applyErr (ss : List (List Int)) (t : List Int) : Int := if Tm.subErr ss = 0 then (if Tm.err t = 0 then (if 30 < (Tm.applied ss t).length then 2 else 0) else Tm.err t) else Tm.subErr ss
def Tm.applyVal (ss : List (List Int)) (t : List Int) : List Int := if Tm.applyErr ss t = 0 then Tm.applied ss t else []
theorem Tm.subErr_ok {ss : List (List Int)} (h : Tm.subErr ss = 0) : ss.length = 8 ∧ Tm.firstErr ss = 0 := by
  unfold Tm.subErr at h
  by_cases hl : ss.length = 8
  · rw [if_pos hl] at h; exact ⟨hl, h⟩
  · rw [if_neg hl] at h; omega
theorem Tm.known8 {t : List Int} (h : Tm.err t = 0) : ∀ k, k < t.length → -8 ≤ t[k]?.getD 0 := fun _ hk => Tm.known_ge (Tm.all_at (Tm.err_all h) hk)
theorem Tm.apply_ok {ss : List (List Int)} {t : List Int} (hs : Tm.subErr ss = 0) (ht : Tm.err t = 0) :
    Tm.applyErr ss t = (if 30 < (Tm.applied ss t).length then 2 else 0) ∧ Tm.applyVal ss t = (if 30 < (Tm.applied ss t).length then [] else Tm.applied ss t) := by
  have h1 : Tm.applyErr ss t = (if 30 < (Tm.applied ss t).length then 2 else 0) := by unfold Tm.applyErr; rw [if_pos hs, if_pos ht]
  refine ⟨h1, ?_⟩
  unfold Tm.applyVal
  rw [h1]
  by_cases h : 30 < (Tm.applied ss t).length <;> simp [h]
theorem Tm.apply_t {ss : List (List Int)} {t : List Int} (hs : Tm.subErr ss = 0) (ht : Tm.err t ≠ 0) : Tm.applyErr ss t = Tm.err t ∧ Tm.applyVal ss t = [] := by
  have h1 : Tm.applyErr ss t = Tm.err t := by unfold Tm.applyErr; rw [if_pos hs, if_neg ht]
  exact ⟨h1, by unfold Tm.applyVal; rw [h1, if_neg ht]⟩
theorem Tm.apply_s {ss : List (List Int)} {t : List Int} (hs : Tm.subErr ss ≠ 0) : Tm.applyErr ss t = Tm.subErr ss ∧ Tm.applyVal ss t = [] := by
  have h1 : Tm.applyErr ss t = Tm.subErr ss := by unfold Tm.applyErr; rw [if_neg hs]
  exact ⟨h1, by unfold Tm.applyVal; rw [h1, if_neg hs]⟩
set_option maxRecDepth 100000 in
set_option maxHeartbeats 400000 in
theorem apply_any (ss : List (List Int)) (t : List Int) (a at' : Option Addr) (cap ct : Nat) (w : World) (hS : Subs w.heap.size w a ss) (hT : Ints w.heap.size w at' t) :
    Calls Try.prog 26 #[.slice a ss.length cap, .slice at' t.length ct] w fun e w' => ∃ v, e = .returned (.tuple #[v, .int .i64 (Tm.applyErr ss t)]) ∧ New w.heap.size w' v (Tm.applyVal ss t) ∧ Below w.heap.size w w' := by
  have hC1 := subCheck_any ss a cap w hS
  by_cases hs : Tm.subErr ss = 0
  · have hC2 : ∀ W, Below w.heap.size w W → Calls Try.prog 53 #[.slice at' t.length ct] W fun e w' => e = .returned (.int .i64 (Tm.err t)) ∧ Below W.heap.size W w' := fun W hW => check_any t at' ct W ((hT.below hW).mono hW.size)
    rw [hs] at hC1
    by_cases ht : Tm.err t = 0
    · obtain ⟨e1, e2⟩ := Tm.apply_ok hs ht
      obtain ⟨hl, hf⟩ := Tm.subErr_ok hs
      have hb : ∀ W, Below w.heap.size w W → Calls Try.prog 59 #[.slice a 8 cap, .slice at' t.length ct] W fun e w' => ∃ v, e = .returned (.tuple #[v, .int .i64 (Tm.applyErr ss t)]) ∧ New W.heap.size w' v (Tm.applyVal ss t) ∧ Below W.heap.size W w' := fun W hW => by
        rw [e1, e2]
        exact become_any ss hl (Short.of_ok hf) a cap t at' ct (Tm.err_len ht) (Tm.known8 ht) W ((hS.below hW).mono hW.size) ((hT.below hW).mono hW.size)
      rw [hl] at hC1 ⊢
      rw [ht] at hC2
      have HC2 := hid hC2
      have Hb := hid hb
      clear hC2 hb hS hT hl hf e1 e2 hs ht
      generalize Tm.applyErr ss t = q at *
      generalize Tm.applyVal ss t = xs at *
      go_enter Try.func26, Try.ntmps26
      go_wp2_with (first
        | (go_at_call 58; refine hC1.mono ?_; clear hC1; rintro e w1 ⟨rfl, hB1⟩)
        | (go_at_call 53; refine (HC2.out _ hB1).mono ?_; rintro e w2 ⟨rfl, hB2⟩; have hB3 := hB1.trans (hB2.mono hB1.size))
        | (go_at_call 59; refine (Hb.out _ hB3).mono ?_; rintro e w3 ⟨v, rfl, hN, hB4⟩; obtain ⟨a1, c1, rfl, _⟩ := New.ints hN))
      go_ret2
      exact ⟨_, rfl, hN.mono hB3.size, hB3.trans (hB4.mono hB3.size)⟩
    · obtain ⟨e1, e2⟩ := Tm.apply_t hs ht
      rw [e1, e2]
      have HC2 := hid hC2
      have hne : (Tm.err t != 0) = true := by simp [ht]
      clear hC2 hS hT e1 e2 hs ht
      generalize Tm.err t = q at *
      go_enter Try.func26, Try.ntmps26
      go_wp2_with (first
        | (go_at_call 58; refine hC1.mono ?_; clear hC1; rintro e w1 ⟨rfl, hB1⟩)
        | (go_at_call 53; refine (HC2.out _ hB1).mono ?_; rintro e w2 ⟨rfl, hB2⟩; have hB3 := hB1.trans (hB2.mono hB1.size)))
      go_ret2
      exact ⟨_, rfl, New.nil _ _, hB3⟩
  · obtain ⟨e1, e2⟩ := Tm.apply_s (t := t) hs
    rw [e1, e2]
    have hne : (Tm.subErr ss != 0) = true := by simp [hs]
    clear hS hT e1 e2 hs
    generalize Tm.subErr ss = q at *
    go_enter Try.func26, Try.ntmps26
    go_wp2_with (go_at_call 58; refine hC1.mono ?_; clear hC1; rintro e w1 ⟨rfl, hB1⟩)
    go_ret2
    exact ⟨_, rfl, New.nil _ _, hB1⟩
theorem Try.info37 : (Try.prog.info? 37).map (fun i => (i.zero, i.size, i.bytes)) = some (some (.slice none 0 0), 1, 24) := by kernel_rfl
def NewS (base : Nat) (W : World) (v : Value) (ss : List (List Int)) : Prop :=
  ∃ us : List Value, W.ownsRow base 37 1 v ss.length us ∧ ∀ j, j < ss.length → ∃ u, us[j]? = some u ∧ New base W u (ss[j]?.getD [])
theorem NewS.nil (base : Nat) (W : World) : NewS base W (.slice none 0 0) [] := ⟨[], World.ownsRow_nil _ _ _ _, fun j hj => by simp at hj⟩
theorem New.apart {base : Nat} {W : World} {u v : Value} {t : List Int} {n : Nat} {us : List Value} (hu : New base W u t) (hv : W.ownsRow base 37 1 v n us) : u.ownBlock = none ∨ u.ownBlock ≠ v.ownBlock := by
  rcases hu.2 with ⟨rfl, _⟩ | ⟨g, cap, cur, rfl, _, hg, _⟩
  · exact .inl rfl
  · rcases hv.2 with ⟨rfl, _⟩ | ⟨g', cap', cur', rfl, _, hg', _⟩
    · exact .inr (by simp [Value.ownBlock])
    · refine .inr fun e => ?_
      have e' : g = g' := by simpa [Value.ownBlock] using e
      subst e'
      rw [hg] at hg'
      simp at hg'
theorem NewS.below {base : Nat} {W W' : World} {v : Value} {ss : List (List Int)} (h : NewS base W v ss) (hB : Below W.heap.size W W') : NewS base W' v ss := by
  obtain ⟨us, h1, h2⟩ := h
  refine ⟨us, World.ownsRow.kept h1 (grown_of_below hB) (by cases h : v.ownBlock with | none => exact .inl rfl | some k => exact .inr (by simp)), fun j hj => ?_⟩
  obtain ⟨u, hu, hN⟩ := h2 j hj
  exact ⟨u, hu, hN.below hB⟩
theorem NewS.mono {base base' : Nat} {W : World} {v : Value} {ss : List (List Int)} (h : NewS base W v ss) (hb : base' ≤ base) : NewS base' W v ss := by
  obtain ⟨us, h1, h2⟩ := h
  refine ⟨us, ⟨h1.1, h1.2.elim .inl (fun ⟨g, cap, cur, e1, e2, e3⟩ => .inr ⟨g, cap, cur, e1, Nat.le_trans hb e2, e3⟩)⟩, fun j hj => ?_⟩
  obtain ⟨u, hu, hN⟩ := h2 j hj
  exact ⟨u, hu, hN.mono hb⟩
theorem NewS.subs {base : Nat} {W : World} {v : Value} {ss : List (List Int)} (h : NewS base W v ss) : ∃ a cap, v = .slice a ss.length cap ∧ Subs W.heap.size W a ss ∧ ss.length ≤ cap ∧ cap ≤ maxLen ∧ (a = none → cap = 0) := by
  obtain ⟨us, h1, h2⟩ := h
  rcases h1.2 with ⟨rfl, hn⟩ | ⟨g, cap, cur, rfl, hb, hg, e1, e2, e3, e4⟩
  · exact ⟨none, 0, by rw [hn], fun j hj => by omega, by omega, by omega, fun _ => rfl⟩
  · refine ⟨_, _, rfl, fun j hj => ?_, e1, e2, fun e => by cases e⟩
    obtain ⟨u, hu, hN⟩ := h2 j hj
    have h5 := World.ownsRow.cellAt h1 j (by omega)
    obtain ⟨aj, cj, rfl, hI, q1, q2⟩ := New.ints hN
    refine ⟨g, 0, aj, cj, rfl, (Array.getElem?_eq_some_iff.1 hg).1, ?_, hI, q1, q2, fun e => ?_⟩
    · rw [Nat.zero_add, h5, hu]
    · subst e
      rcases hN.2 with ⟨e, _⟩ | ⟨_, _, _, e, _⟩
      · simp only [Value.slice.injEq] at e; exact e.2.2
      · simp at e
theorem wp_append_sub {ops : Array Oper} {rest : List Oper} {o : Oper} {a : Act} {Q : Exit → Act → World → Prop} (w : World) (hgd : o.guard = none) (s x : Operand)
    (ho : o.op = .call { callee := .builtin .append, args := #[s, x], argTypes := #[58, 58] }) (base : Nat) (v : Value) (ss : List (List Int)) (hs : a.eval s = v) (hN : NewS base w v ss)
    (u : Value) (t : List Int) (B : Nat) (hx : a.eval x = .slice (some ⟨B, 0, none⟩) 1 1) (hB : w.cell? ⟨B, 0, none⟩ = some u) (hu : New base w u t) (hlen : ss.length ≤ 1000000) (hbase : base ≤ w.heap.size)
    (h : ∀ v' w', NewS base w' v' (ss ++ [t]) → Below base w w' → wpList Try.prog ops Q rest (a.put o.dst v') w') : wpList Try.prog ops Q (o :: rest) a w := by
  obtain ⟨i0, hi, hz0, hz1, hz2⟩ := info_parts Try.info37
  obtain ⟨us, h1, h2⟩ := hN
  have hul : us.length = ss.length := by have := h1.1; omega
  refine wpList_append_own w hgd s x 58 ho base 37 i0 (.slice none 0 0) 1 24 Try.underlying58 hi hz0 hz1 hz2 rfl (by decide) v ss.length us hs h1 ⟨B, 0, none⟩ 1 1 [u] hx (by simp)
    (by intro j z hj
        match j, hj with
        | 0, hj => simp at hj; subst hj; rw [Go.WideShapes.add_plain]; simpa using hB)
    (by intro z hz; simp at hz; subst hz; obtain ⟨_, _, rfl, _⟩ := New.ints hu; rfl) (by unfold maxLen; omega) (by omega) hbase ?_
  intro v' w' hown hg _
  have hkeep : ∀ (u' : Value) (t' : List Int), New base w u' t' → New base w' u' t' := fun u' t' hN' => World.ownsRow.kept hN' hg (New.apart hN' h1)
  refine h v' w' ⟨us ++ [u], by simpa using hown, fun j hj => ?_⟩ ((Below.refl base w).grown hg hbase (fun k e => (World.ownsRow.lt h1 k e).1))
  by_cases hjl : j < ss.length
  · obtain ⟨u', hu', hN'⟩ := h2 j hjl
    refine ⟨u', by rw [List.getElem?_append_left (by omega)]; exact hu', ?_⟩
    rw [List.getElem?_append_left hjl]
    exact hkeep u' _ hN'
  · have hje : j = ss.length := by simp at hj; omega
    subst hje
    refine ⟨u, by rw [List.getElem?_append_right (by omega), hul]; simp, ?_⟩
    rw [List.getElem?_append_right (by omega)]
    simpa using hkeep u t hu
theorem takeS_snoc {zs : List (List Int)} {k : Nat} (h : k < zs.length) : zs.take (k + 1) = zs.take k ++ [zs[k]?.getD []] := by
  rw [List.take_succ_eq_append_getElem h]; simp [h]
def Tm.noneL (k : Nat) : List (List Int) := (List.range k).map fun i : Nat => [-1 - (i : Int)]
theorem Tm.noneL_succ (k : Nat) : Tm.noneL (k + 1) = Tm.noneL k ++ [[-1 - (k : Int)]] := by simp [Tm.noneL, List.range_succ]
theorem Tm.noneL_length (k : Nat) : (Tm.noneL k).length = k := by simp [Tm.noneL]
theorem NewS.alloc {base : Nat} {W : World} {v : Value} {ss : List (List Int)} (h : NewS base W v ss) (o : Obj) : NewS base (W.alloc o) v ss := h.below ((Below.refl _ _).alloc (Nat.le_refl _) _)
theorem New.alloc {base : Nat} {W : World} {v : Value} {zs : List Int} (h : New base W v zs) (o : Obj) : New base (W.alloc o) v zs := h.below ((Below.refl _ _).alloc (Nat.le_refl _) _)
theorem cell_new (W : World) (v : Value) (t : TypeId) (n : Nat) (hn : n = W.heap.size) : (W.alloc (.cells #[v] t)).cell? ⟨n, 0, none⟩ = some v := by
  subst hn
  rw [cell_at (World.alloc_heap_new W _)]
  rfl
set_option maxRecDepth 100000 in
set_option maxHeartbeats 400000 in
theorem none_any (w : World) : Calls Try.prog 93 #[] w fun e w' => ∃ v, e = .returned v ∧ NewS w.heap.size w' v (Tm.noneL 8) ∧ Below w.heap.size w w' := by
  go_enter Try.func93, Try.ntmps93
  go_wp2
  go_loopw [1, 3] (fun v i wr => ∃ k : Nat, k ≤ 8 ∧ i = .int .i64 (k : Int) ∧ NewS w.heap.size wr v (Tm.noneL k) ∧ Below w.heap.size w wr) (fun _ i _ => 8 - (intOf i).toNat)
  case atStart => exact ⟨0, Nat.zero_le _, rfl, NewS.nil _ _, Below.refl _ _⟩
  case round =>
    obtain ⟨k, hk, rfl, hN, hB⟩ := hrel
    by_cases hlt : k < 8
    · have hlt' : (k : Int) < 8 := by omega
      have hsn := hid (Tm.noneL_succ k)
      have Hln := hid (Tm.noneL_length k)
      obtain ⟨a0, c0, rfl, _⟩ := NewS.subs hN
      have hu := New.lit w.heap.size wr [-1 - (k : Int)] hB.size (by unfold maxLen; simp)
      simp only [List.map_cons, List.map_nil, List.length_cons, List.length_nil, Nat.zero_add] at hu
      have hA : Below w.heap.size w (((wr.alloc (.cells #[.int .i64 (-1 - (k : Int))] 3)).alloc (.cells #[.slice (some ⟨wr.heap.size, 0, none⟩) 1 1] 37))) := (hB.alloc hB.size _).alloc (by have := hB.size; simp; omega) _
      have hN2 := (hN.alloc (.cells #[.int .i64 (-1 - (k : Int))] 3)).alloc (.cells #[.slice (some ⟨wr.heap.size, 0, none⟩) 1 1] 37)
      have hu2 := hu.alloc (.cells #[.slice (some ⟨wr.heap.size, 0, none⟩) 1 1] 37)
      have hcn := cell_new (wr.alloc (.cells #[.int .i64 (-1 - (k : Int))] 3)) (.slice (some ⟨wr.heap.size, 0, none⟩) 1 1) 37 (wr.heap.size + 1) (by simp)
      have HN2 := hid hN2
      have Hu2 := hid hu2
      have Hcn := hid hcn
      clear hu hN2 hu2 hcn
      go_wp2_with (at_builtin; go_loud (refine wp_append_sub _ rfl _ _ rfl w.heap.size _ (Tm.noneL k) rfl HN2.out (.slice (some ⟨wr.heap.size, 0, none⟩) 1 1) [-1 - (k : Int)] (wr.heap.size + 1) rfl Hcn.out Hu2.out (by rw [Hln.out]; omega) hA.size ?_); intro v' w2 hN3 hB3; obtain ⟨a2, c2, rfl, _⟩ := NewS.subs hN3)
      go_roundw
      case rel => exact ⟨k + 1, by omega, by go_num, by rw [hsn.out]; simpa using hN3, hA.trans hB3⟩
      case measure => simp [intOf]; omega
    · obtain rfl : k = 8 := by omega
      obtain ⟨a2, c2, rfl, _⟩ := NewS.subs hN
      go_wp2
      go_ret
      exact ⟨_, rfl, hN, hB⟩
theorem NewS.set {base : Nat} {W : World} {g c n : Nat} {ss : List (List Int)} (h : NewS base W (.slice (some ⟨g, 0, none⟩) n c) ss) (hn : n = ss.length) {u : Value} {t : List Int} (hu : New base W u t) (j : Nat) :
    NewS base (W.setCell ⟨g, j, none⟩ u) (.slice (some ⟨g, 0, none⟩) n c) (ss.set j t) := by
  subst hn
  obtain ⟨us, h1, h2⟩ := h
  have hul : us.length = ss.length := by have := h1.1; omega
  have hkeep : ∀ (u' : Value) (t' : List Int), New base W u' t' → New base (W.setCell ⟨g, j, none⟩ u) u' t' := fun u' t' hN' => World.ownsRow.kept hN' (grownBy_setCell1 W g j u) (by
    have := New.apart hN' h1
    simpa [Value.ownBlock] using this)
  refine ⟨us.set j u, ?_, fun i hi => ?_⟩
  · have := World.ownsRow.stored h1 j u
    rw [List.length_set]
    exact this.1
  · rw [List.length_set] at hi
    by_cases e : i = j
    · subst e
      refine ⟨u, by simp [hul, hi], ?_⟩
      simpa [hi] using hkeep u t hu
    · obtain ⟨u', hu', hN'⟩ := h2 i hi
      have e' : ¬ j = i := fun h => e h.symm
      refine ⟨u', by rw [List.getElem?_set_ne e']; exact hu', ?_⟩
      rw [List.getElem?_set_ne e']
      exact hkeep u' _ hN'
def Tm.someL : List (List Int) := [[2, -2], [-1], [-3], [-4], [-5], [-6], [-7], [-8]]
def Tm.fits (us : List (List Int)) (t : List Int) : Bool := decide ((Tm.applied us t).length ≤ 30)
def Tm.afterL (ss us : List (List Int)) : List (List Int) := ss.map (Tm.applied us)
def Tm.afterErr (ss us : List (List Int)) : Int := if Tm.subErr ss = 0 then (if Tm.subErr us = 0 then (if ss.all (Tm.fits us) = true then 0 else 2) else Tm.subErr us) else Tm.subErr ss
def Tm.afterVal (ss us : List (List Int)) : List (List Int) := if Tm.afterErr ss us = 0 then Tm.afterL ss us else []
end Go.Proofs.Ytgeknojpcjadkaa
namespace Go.Proofs.Ytgeknojpcjadkaa
open Go.Proofs Go.RowKit Go.Shelf Go.Maps
def Tm.idx (seen : List Int) (s : Int) : Nat := seen.findIdx (fun x => x == s)
def Tm.see (seen : List Int) (s : Int) : List Int := if s < 0 then (if seen.contains s = true then seen else seen ++ [s]) else seen
def Tm.name (seen : List Int) (s : Int) : Int := if s < 0 then -1 - (Tm.idx seen s : Int) else s
def Tm.seenFrom (seen : List Int) (l : List Int) : List Int := l.foldl Tm.see seen
def Tm.plainTo (seen : List Int) (t : List Int) (k : Nat) : List Int := (List.range k).map fun i : Nat => Tm.name (Tm.seenFrom seen (t.take i)) (t[i]?.getD 0)
theorem Tm.plainTo_succ (seen t : List Int) (k : Nat) : Tm.plainTo seen t (k + 1) = Tm.plainTo seen t k ++ [Tm.name (Tm.seenFrom seen (t.take k)) (t[k]?.getD 0)] := by simp [Tm.plainTo, List.range_succ]
theorem Tm.plainTo_length (seen t : List Int) (k : Nat) : (Tm.plainTo seen t k).length = k := by simp [Tm.plainTo]
theorem Tm.seen_succ (seen : List Int) {t : List Int} {k : Nat} (h : k < t.length) : Tm.seenFrom seen (t.take (k + 1)) = Tm.see (Tm.seenFrom seen (t.take k)) (t[k]?.getD 0) := by
  rw [take_snoc h]
  simp [Tm.seenFrom, List.foldl_append]
theorem Tm.idx_new {seen : List Int} {s : Int} (h : seen.contains s = false) : Tm.idx seen s = seen.length := by
  unfold Tm.idx
  rw [List.findIdx_eq_length]
  intro x hx
  have : ¬ s ∈ seen := by simpa using h
  simp only [beq_eq_false_iff_ne]
  rintro rfl
  exact this hx
theorem Tm.idx_app {seen : List Int} {s : Int} (h : seen.contains s = true) (r : List Int) : Tm.idx (seen ++ r) s = Tm.idx seen s := by
  unfold Tm.idx
  rw [List.findIdx_append, if_pos]
  rw [List.findIdx_lt_length]
  exact ⟨s, by simpa using h, by simp⟩
theorem Tm.see_len (seen : List Int) (s : Int) : (Tm.see seen s).length ≤ seen.length + 1 := by
  unfold Tm.see
  split
  · split
    · omega
    · simp
  · omega
theorem Tm.seen_len (t : List Int) : ∀ seen : List Int, (Tm.seenFrom seen t).length ≤ seen.length + t.length := by
  induction t with
  | nil => intro seen; simp [Tm.seenFrom]
  | cons s l ih =>
    intro seen
    have h1 := ih (Tm.see seen s)
    have h2 := Tm.see_len seen s
    simp only [Tm.seenFrom, List.foldl_cons, List.length_cons] at h1 ⊢
    omega
structure MapIs (seen : List Int) (D : DataW Unit) : Prop where
  has : ∀ s : Int, Maps.has D (.int .i64 s) = seen.contains s
  at_ : ∀ s : Int, seen.contains s = true → D.atKey (.int .i64 s) (.lit (.int .i64 0)) = .lit (.int .i64 (-1 - (Tm.idx seen s : Int)))
  size : Maps.size D = seen.length
theorem MapIs.put {seen : List Int} {D : DataW Unit} (h : MapIs seen D) (hT : Tidy D) {s : Int} (hs : seen.contains s = false) :
    MapIs (seen ++ [s]) (D.put (.int .i64 s) (.lit (.int .i64 (-1 - (seen.length : Int))))) := by
  have hk : WideAt.IsKeyLit (.int .i64 s) := trivial
  have hh : Maps.has D (.int .i64 s) = false := by rw [h.has, hs]
  have hne : ¬ s ∈ seen := by simpa using hs
  refine ⟨fun x => ?_, fun x hx => ?_, ?_⟩
  · by_cases e : x = s
    · subst e
      rw [has_put_same hT.isMap hk]
      simp
    · rw [has_put_other (by simp [e]), h.has]
      simp [e]
  · by_cases e : x = s
    · subst e
      rw [atKey_put_same hT.isMap hk]
      have : Tm.idx (seen ++ [x]) x = seen.length := by
        unfold Tm.idx
        rw [List.findIdx_append, if_neg]
        · simp
        · rw [List.findIdx_lt_length]
          rintro ⟨y, hy, e⟩
          have : y = x := by simpa using e
          subst this
          exact hne hy
      rw [this]
    · rw [atKey_put_other (by simp [e])]
      have hx' : seen.contains x = true := by simpa [e] using hx
      rw [Tm.idx_app hx']
      exact h.at_ x hx'
  · rw [size_put hT, hh, h.size]
    simp
def FreshAt (W : World) (Bf Bm : Nat) (seen : List Int) : Prop :=
  W.cell? ⟨Bf, 0, none⟩ = some (.map (some Bm)) ∧ ∃ D : DataW Unit, W.ownsMap Try.prog 3 (plainElem Try.prog 3) Bm seen.length D ∧ MapIs seen D
theorem FreshAt.keep {W W' : World} {Bf Bm : Nat} {seen : List Int} (h : FreshAt W Bf Bm seen) (h1 : W'.heap[Bf]? = W.heap[Bf]?) (h2 : W'.heap[Bm]? = W.heap[Bm]?) : FreshAt W' Bf Bm seen := by
  obtain ⟨hc, D, ⟨es, clock, hb, r⟩, hM⟩ := h
  exact ⟨(World.cell?_of_block (a := ⟨Bf, 0, none⟩) h1).trans hc, D, ⟨es, clock, h2.trans hb, r⟩, hM⟩
theorem FreshAt.map {W : World} {Bf Bm : Nat} {seen : List Int} (h : FreshAt W Bf Bm seen) : ∃ es clock, W.heap[Bm]? = some (.map es clock) := by
  obtain ⟨_, D, ⟨es, clock, hb, _⟩, _⟩ := h
  exact ⟨es, clock, hb⟩
theorem FreshAt.lt {W : World} {Bf Bm : Nat} {seen : List Int} (h : FreshAt W Bf Bm seen) : Bf < W.heap.size ∧ Bm < W.heap.size := by
  obtain ⟨es, clock, hb⟩ := h.map
  exact ⟨lt_of_cell h.1, (Array.getElem?_eq_some_iff.1 hb).1⟩
theorem ne_map {W : World} {b o Bm : Nat} {v : Value} (hc : W.cell? ⟨b, o, none⟩ = some v) {es : Array (MapEntry)} {clock : Nat} (hm : W.heap[Bm]? = some (.map es clock)) : b ≠ Bm := by
  rintro rfl
  simp [World.cell?, hm] at hc
structure Keep (n m : Nat) (w w' : World) : Prop where
  os : w'.os = w.os
  tape : w'.tape = w.tape
  output : w'.output = w.output
  size : w.heap.size ≤ w'.heap.size
  block : ∀ k, k < n → k ≠ m → w'.heap[k]? = w.heap[k]?
theorem Keep.refl (n m : Nat) (w : World) : Keep n m w w := ⟨rfl, rfl, rfl, Nat.le_refl _, fun _ _ _ => rfl⟩
theorem Keep.trans {n m : Nat} {a b c : World} (h : Keep n m a b) (k : Keep n m b c) : Keep n m a c :=
  ⟨k.os.trans h.os, k.tape.trans h.tape, k.output.trans h.output, Nat.le_trans h.size k.size, fun i hi hm => (k.block i hi hm).trans (h.block i hi hm)⟩
theorem Keep.of_below {n m : Nat} {a b : World} (h : Below n a b) : Keep n m a b := ⟨h.os, h.tape, h.output, h.size, fun k hk _ => h.block k hk⟩
theorem Keep.of_grown {n m : Nat} {a b : World} (h : a.grownBy b (some m)) (hn : n ≤ a.heap.size) : Keep n m a b :=
  ⟨h.os, h.tape, h.output, h.size, fun k hk hm => h.block k (by omega) (by simpa using hm)⟩
theorem Keep.mono {n n' m : Nat} {a b : World} (h : Keep n m a b) (hn : n' ≤ n) : Keep n' m a b := ⟨h.os, h.tape, h.output, h.size, fun k hk hm => h.block k (by omega) hm⟩
theorem Keep.below {n m : Nat} {a b : World} (h : Keep n m a b) (hm : n ≤ m) : Below n a b := ⟨h.os, h.tape, h.output, h.size, fun k hk => h.block k hk (by omega)⟩
theorem lawInt : Keyed Try.prog 3 := int_keyed Try.underlying3
theorem zeroInt (w : World) : (zeroValue 3).run Try.prog w = .ok (.int .i64 0) w := by kernel_rfl
theorem wf64 {s : Int} (h1 : -1000 ≤ s) (h2 : s ≤ 1000) : (Lit.int .i64 s).wf = true := by
  simp [Lit.wf, IntKind.min, IntKind.max, IntKind.signed, IntKind.bits]
  omega
def Tm.plain (t : List Int) : List Int := Tm.plainTo [] t t.length
theorem Tm.see_nodup {seen : List Int} (h : seen.Nodup) (s : Int) : (Tm.see seen s).Nodup := by
  unfold Tm.see
  split
  · split
    · exact h
    · rename_i hc
      have : ¬ s ∈ seen := by simpa using hc
      rw [List.nodup_append]
      exact ⟨h, by simp, fun x hx y hy => by simp at hy; subst hy; rintro rfl; exact this hx⟩
  · exact h
theorem Tm.seen_nodup (t : List Int) : ∀ seen : List Int, seen.Nodup → (Tm.seenFrom seen t).Nodup := by
  induction t with
  | nil => intro seen h; exact h
  | cons s l ih => intro seen h; exact ih _ (Tm.see_nodup h s)
def Tm.half (t : List Int) (k : Nat) : List Int := Tm.plainTo [] t k ++ t.drop k
theorem Tm.half_same {t : List Int} {k : Nat} (h : k < t.length) (hs : 0 ≤ t[k]?.getD 0) : Tm.half t (k + 1) = Tm.half t k := by
  unfold Tm.half
  have hn : Tm.name (Tm.seenFrom [] (t.take k)) (t[k]?.getD 0) = t[k]?.getD 0 := by unfold Tm.name; rw [if_neg (by omega)]
  rw [Tm.plainTo_succ, hn, List.drop_eq_getElem_cons h]
  simp [h]
theorem Tm.see_same {seen : List Int} {s : Int} (hs : 0 ≤ s) : Tm.see seen s = seen := by unfold Tm.see; rw [if_neg (by omega)]
theorem New.set {base : Nat} {W : World} {g c n : Nat} {zs : List Int} (h : New base W (.slice (some ⟨g, 0, none⟩) n c) zs) (hn : n = zs.length) (j : Nat) (x : Int) :
    New base (W.setCell ⟨g, j, none⟩ (.int .i64 x)) (.slice (some ⟨g, 0, none⟩) n c) (zs.set j x) := by
  subst hn
  have := (World.ownsRow.stored h j (.int .i64 x)).1
  unfold New
  rw [List.length_set, List.map_set]
  exact this
theorem New.drewN {base : Nat} {W : World} {v : Value} {zs : List Int} (h : New base W v zs) (d : Nat) : New base (W.drewN d) v zs := h
theorem New.at0 {base : Nat} {W : World} {v : Value} {zs : List Int} (h : New base W v zs) (h0 : 0 < zs.length) : ∃ g c, v = .slice (some ⟨g, 0, none⟩) zs.length c ∧ (∀ j, j < zs.length → W.cell? ⟨g, j, none⟩ = some (.int .i64 (zs[j]?.getD 0))) ∧ ∀ j, W.frozen? ⟨g, j, none⟩ = false := by
  obtain ⟨m, hm⟩ : ∃ m, zs.length = m + 1 := ⟨zs.length - 1, by omega⟩
  have h' : W.ownsRow base 3 1 v (m + 1) (zs.map (Value.int .i64)) := by rw [← hm]; exact h
  obtain ⟨g, c, rfl⟩ := ownsRow_succ h'
  rw [← hm] at h'
  refine ⟨g, c, by rw [hm], fun j hj => ?_, fun j => ?_⟩
  · have := World.ownsRow.cellAt (by rw [hm] at h'; exact h') j (by omega)
    rw [this]
    simp [hj]
  · exact World.ownsRow.frozenAt (by rw [hm] at h'; exact h') j
def PlainSt (w W1 : World) (t : List Int) (g n c k : Nat) (vs : Value) (wr : World) : Prop :=
  New W1.heap.size wr vs (Tm.seenFrom [] (t.take k)) ∧ New w.heap.size wr (.slice (some ⟨g, 0, none⟩) n c) (Tm.half t k) ∧ Below w.heap.size w wr ∧ W1.heap.size ≤ wr.heap.size
theorem PlainSt.same {w W1 : World} {t : List Int} {g n c k : Nat} {vs : Value} {wr : World} (h : PlainSt w W1 t g n c k vs wr) (hk : k < t.length) (hs : 0 ≤ t[k]?.getD 0) : PlainSt w W1 t g n c (k + 1) vs wr := by
  obtain ⟨h1, h2, h3, h4⟩ := h
  refine ⟨?_, ?_, h3, h4⟩
  · rw [Tm.seen_succ [] hk, Tm.see_same hs]; exact h1
  · rw [Tm.half_same hk hs]; exact h2
theorem Tm.s1 : Tm.applyErr Tm.someL [4, -1, -2] = 0 := by decide +kernel
theorem Tm.s2 : Tm.applyVal Tm.someL [4, -1, -2] = [4, 2, -2, -1] := by decide +kernel
theorem Tm.s3 : Tm.afterErr Tm.someL Tm.someL = 0 := by decide +kernel
theorem Tm.s9 : Tm.subErr (Tm.noneL 8) = 0 := by decide +kernel
end Go.Proofs.Ytgeknojpcjadkaa
namespace Go.Proofs.Ytgeknojpcjadkaa
open Go.Proofs Go.RowKit Go.Shelf
def TermIn (w : World) (a : Option Addr) (len cap : Nat) : Prop := ∃ zs : List Int, zs.length = len ∧ Ints w.heap.size w a zs ∧ len ≤ cap ∧ cap ≤ maxLen ∧ (a = none → cap = 0)
def SubsIn (w : World) (a : Option Addr) (len cap : Nat) : Prop := ∃ ss : List (List Int), ss.length = len ∧ Subs w.heap.size w a ss ∧ len ≤ cap ∧ cap ≤ maxLen
theorem subsIn_nil (w : World) : SubsIn w none 0 0 := ⟨[], rfl, Subs.nil _ _ _, Nat.le_refl _, Nat.zero_le _⟩
theorem ints_of_cells {w : World} {a : Option Addr} {L C : Nat} {Z : List Int} (h1 : L ≤ C) (h2 : Z.length = C) (h3 : ∀ x, a = some x → ∀ c, c < C → w.cell? (x.add c) = some (.int .i64 (Z.getD c 0))) (h4 : a = none → C = 0) :
    Ints w.heap.size w a (Z.take L) := fun j hj => by
  rw [List.length_take] at hj
  cases a with
  | none => have := h4 rfl; omega
  | some x =>
    have hc := h3 x rfl j (by omega)
    have hsp := World.cell?_spot (h3 x rfl 0 (by omega))
    obtain ⟨b, off, spot⟩ := x
    have hspot : spot = none := by simpa [Addr.add] using hsp
    subst hspot
    rw [Go.WideShapes.add_plain] at hc
    refine ⟨b, off, rfl, by simpa using lt_of_cell hc, ?_⟩
    rw [hc, List.getD_eq_getElem?_getD]
    simp [show j < L from by omega]
theorem subsIn_rows {w : World} {a : Addr} {len cap : Nat} {A : Nat → Option Addr} {L C : Nat → Nat} {Z : Nat → List Int} (h1 : len ≤ cap) (h2 : cap ≤ maxLen)
    (h : ∀ r, r < cap → w.cell? (a.add r) = some (.slice (A r) (L r) (C r)) ∧ L r ≤ C r ∧ C r ≤ maxLen ∧ (Z r).length = C r ∧ (∀ n ∈ Z r, (Lit.int .i64 n).wf = true) ∧ (A r = none → C r = 0) ∧
        ∀ a', A r = some a' → 0 ≤ a'.block ∧ ∀ c, c < C r → w.cell? (a'.add c) = some (.int .i64 ((Z r).getD c 0))) : SubsIn w (some a) len cap := by
  refine ⟨(List.range len).map fun r => (Z r).take (L r), by simp, fun j hj => ?_, h1, h2⟩
  have hj' : j < len := by simpa using hj
  obtain ⟨hc, q1, q2, q3, _, q5, q6⟩ := h j (by omega)
  have hsp := World.cell?_spot (h 0 (by omega)).1
  obtain ⟨b, off, spot⟩ := a
  have hspot : spot = none := by simpa [Addr.add] using hsp
  subst hspot
  rw [Go.WideShapes.add_plain] at hc
  have e : ((List.range len).map fun r => (Z r).take (L r))[j]?.getD [] = (Z j).take (L j) := by simp [hj']
  rw [e]
  have el : ((Z j).take (L j)).length = L j := by rw [List.length_take]; omega
  refine ⟨b, off, A j, C j, rfl, by simpa using lt_of_cell hc, ?_, ints_of_cells q1 q3 (fun x hx => (q6 x hx).2) q5, ?_, q2, q5⟩
  · rw [el]; exact hc
  · rw [el]; exact q1
end Go.Proofs.Ytgeknojpcjadkaa
namespace Go.Proofs.Ytgeknojpcjadkaa
open Go.Proofs Go.RowKit Go.Shelf Go.Maps
def heldElem (v : Value) : Option (DataW Value × List MemPlace) := some (.held v, [])
def IntMap (W : World) (b n : Nat) (m : Int → Option Value) : Prop :=
  ∃ D : DataW Value, W.ownsMap Try.prog 3 heldElem b n D ∧ (∀ k : Int, Maps.has D (.int .i64 k) = (m k).isSome) ∧ ∀ (k : Int) (v : Value), m k = some v → ∀ z, D.atKey (.int .i64 k) z = .held v
def upd {α : Type} (m : Int → Option α) (s : Int) (v : α) : Int → Option α := fun x => if x = s then some v else m x
theorem upd_same {α : Type} (m : Int → Option α) (s : Int) (v : α) : upd m s v s = some v := by simp [upd]
theorem upd_other {α : Type} (m : Int → Option α) {s x : Int} (v : α) (h : x ≠ s) : upd m s v x = m x := by simp [upd, h]
theorem IntMap.made (w : World) : IntMap (w.alloc (.map #[] 0)) w.heap.size 0 (fun _ => none) :=
  ⟨_, World.ownsMap_made w _ _ _, fun _ => rfl, fun _ _ h => by cases h⟩
theorem IntMap.lt {W : World} {b n : Nat} {m : Int → Option Value} (h : IntMap W b n m) : b < W.heap.size := by
  obtain ⟨D, hD, _⟩ := h; exact hD.lt
theorem IntMap.keep {W W' : World} {b n : Nat} {m : Int → Option Value} (h : IntMap W b n m) (hb : W'.heap[b]? = W.heap[b]?) : IntMap W' b n m := by
  obtain ⟨D, ⟨es, clock, hes, r⟩, r2⟩ := h
  exact ⟨D, ⟨es, clock, hb.trans hes, r⟩, r2⟩
theorem IntMap.mono {W : World} {b n n' : Nat} {m : Int → Option Value} (h : IntMap W b n m) (hn : n ≤ n') : IntMap W b n' m := by
  obtain ⟨D, hD, r⟩ := h; exact ⟨D, hD.mono hn, r⟩
theorem IntMap.map {W : World} {b n : Nat} {m : Int → Option Value} (h : IntMap W b n m) : ∃ es clock, W.heap[b]? = some (.map es clock) := by
  obtain ⟨D, ⟨es, clock, hes, r⟩, r2⟩ := h; exact ⟨es, clock, hes⟩
theorem atKey_none {D : DataW Value} {k : Lit} (hD : IsMap D) (h : Maps.has D k = false) (z : DataW Value) : D.atKey k z = z := by
  cases D with
  | map es =>
    simp only [Maps.has, List.any_eq_false] at h
    simp only [DataW.atKey]
    have : es.find? (fun p => p.1.sameKey k) = none := by
      rw [List.find?_eq_none]; intro x hx; simpa using h x hx
    simp [this]
  | _ => simp [IsMap] at hD
theorem IntMap.look {w : World} {b n : Nat} {M : Int → Option Value} (h : IntMap w b n M) {t e : TypeId} (ht : Try.prog.underlying t = some (.map 3 e)) {z : Value} (hz : (zeroValue e).run Try.prog w = .ok z w) {key : Int} (hwf : (Lit.int .i64 key).wf = true) :
    (Instr.lookup t (.map (some b)) (.int .i64 key) true).run Try.prog w = .ok (.tuple #[(M key).getD z, .bool (M key).isSome]) w ∧ (Instr.lookup t (.map (some b)) (.int .i64 key) false).run Try.prog w = .ok ((M key).getD z) w := by
  obtain ⟨D, hD, hh, ha⟩ := h
  have hkey := keyOf_int_mk Try.underlying3 hwf
  have hv : ∀ v, heldElem v = some (D.atKey (.int .i64 key) (.held z), []) → v = (M key).getD z := fun v hv => by
    unfold heldElem at hv
    simp only [Option.some.injEq, Prod.mk.injEq, and_true] at hv
    cases hm : M key with
    | none =>
      rw [atKey_none (hD.tidy lawInt).isMap (by rw [hh, hm]; rfl)] at hv
      simpa using hv
    | some u =>
      rw [ha key u hm] at hv
      simpa using hv
  constructor
  · obtain ⟨v, ps, hrun, hR⟩ := hD.look_ok lawInt ht hz (R := heldElem) (zd := .held z) (zp := []) rfl hkey
    have : ps = [] := by unfold heldElem at hR; simp at hR; exact hR.2
    subst this
    rw [hrun, hv v hR, hh]
  · obtain ⟨v, ps, hrun, hR⟩ := hD.lookup lawInt ht hz (R := heldElem) (zd := .held z) (zp := []) rfl hkey
    have : ps = [] := by unfold heldElem at hR; simp at hR; exact hR.2
    subst this
    rw [hrun, hv v hR]
theorem IntMap.set {w : World} {b n : Nat} {M : Int → Option Value} (h : IntMap w b n M) {t e : TypeId} (ht : Try.prog.underlying t = some (.map 3 e)) (hn : n < maxLen) {key : Int} (hwf : (Lit.int .i64 key).wf = true) (v : Value) :
    ∃ w', (Instr.mapUpdate t (.map (some b)) (.int .i64 key) v).run Try.prog w = .ok () w' ∧ IntMap w' b (n + 1) (upd M key v) ∧ w.grownBy w' (some b) := by
  obtain ⟨D, hD, hh, ha⟩ := h
  have hkey := keyOf_int_mk Try.underlying3 hwf
  obtain ⟨w', hrun, h1, h2⟩ := hD.update (R := heldElem) lawInt ht hn hkey (val := v) (d := .held v) (ps := []) rfl
  have hk : WideAt.IsKeyLit (.int .i64 key) := trivial
  refine ⟨w', hrun, ⟨_, h1, fun x => ?_, fun x u hx z => ?_⟩, h2⟩
  · by_cases e : x = key
    · subst e; rw [has_put_same (hD.tidy lawInt).isMap hk, upd_same]; rfl
    · rw [has_put_other (by simp [e]), upd_other _ _ e, hh]
  · by_cases e : x = key
    · subst e; rw [upd_same] at hx; cases hx; exact atKey_put_same (hD.tidy lawInt).isMap hk _ _
    · rw [upd_other _ _ e] at hx; rw [atKey_put_other (by simp [e])]; exact ha x u hx z
section
variable (w : World) {ops : Array Oper} {rest : List Oper} {o : Oper} {a : Act} {Q : Exit → Act → World → Prop}
theorem wp_look_hit (hg : o.guard = none) (m x : Operand) (t : TypeId) (hop : o.op = Op.lookup t m x true) (e : TypeId) (ht : Try.prog.underlying t = some (.map 3 e)) {z : Value} (hz : (zeroValue e).run Try.prog w = .ok z w) (b n : Nat) (M : Int → Option Value)
    (hm : a.eval m = .map (some b)) (hI : IntMap w b n M) (key : Int) (hx : a.eval x = .int .i64 key) (hwf : (Lit.int .i64 key).wf = true) (v : Value) (hv : M key = some v)
    (hK : wpList Try.prog ops Q rest (a.put o.dst (.tuple #[v, .bool true])) w) : wpList Try.prog ops Q (o :: rest) a w := by
  refine wpList_plain hg fun K' hK' => ?_
  have hrun := (hI.look ht hz hwf).1
  rw [hv] at hrun
  unfold Oper.wp
  simp [execOp, hop, hm, hx, hrun, Result.andThen]
  exact hK' _ _ hK
theorem wp_look_miss (hg : o.guard = none) (m x : Operand) (t : TypeId) (hop : o.op = Op.lookup t m x true) (e : TypeId) (ht : Try.prog.underlying t = some (.map 3 e)) {z : Value} (hz : (zeroValue e).run Try.prog w = .ok z w) (b n : Nat) (M : Int → Option Value)
    (hm : a.eval m = .map (some b)) (hI : IntMap w b n M) (key : Int) (hx : a.eval x = .int .i64 key) (hwf : (Lit.int .i64 key).wf = true) (hv : M key = none)
    (hK : wpList Try.prog ops Q rest (a.put o.dst (.tuple #[z, .bool false])) w) : wpList Try.prog ops Q (o :: rest) a w := by
  refine wpList_plain hg fun K' hK' => ?_
  have hrun := (hI.look ht hz hwf).1
  rw [hv] at hrun
  unfold Oper.wp
  simp [execOp, hop, hm, hx, hrun, Result.andThen]
  exact hK' _ _ hK
theorem wp_mapset (hg : o.guard = none) (m x u : Operand) (t : TypeId) (hop : o.op = Op.mapUpdate t m x u) (e : TypeId) (ht : Try.prog.underlying t = some (.map 3 e)) (b n : Nat) (M : Int → Option Value)
    (hm : a.eval m = .map (some b)) (hI : IntMap w b n M) (hn : n < maxLen) (key : Int) (hx : a.eval x = .int .i64 key) (hwf : (Lit.int .i64 key).wf = true) (v : Value) (hv : a.eval u = v)
    (hK : ∀ w', IntMap w' b (n + 1) (upd M key v) → w.grownBy w' (some b) → wpList Try.prog ops Q rest (a.put o.dst undef) w') : wpList Try.prog ops Q (o :: rest) a w := by
  refine wpList_plain hg fun K' hK' => ?_
  obtain ⟨w', hrun, h1, h2⟩ := hI.set ht hn hwf v
  unfold Oper.wp
  simp [execOp, hop, hm, hx, hv, hrun, Result.andThen]
  exact hK' _ _ (hK w' h1 h2)
end
section
variable {F : Fence} {nF : Nat} (w : World) {ops : Array Oper} {rest : List Oper} {o : Oper} {a : Act} {Q : Exit → Act → World → Prop}
theorem wpi_look (hg : o.guard = none) (m x : Operand) (t : TypeId) (hop : o.op = Op.lookup t m x false) (e : TypeId) (ht : Try.prog.underlying t = some (.map 3 e)) {z : Value} (hz : (zeroValue e).run Try.prog w = .ok z w) (b n : Nat) (M : Int → Option Value)
    (hm : a.eval m = .map (some b)) (hI : IntMap w b n M) (key : Int) (hx : a.eval x = .int .i64 key) (hwf : (Lit.int .i64 key).wf = true) (v : Value) (hv : (M key).getD z = v)
    (hK : wpListIn F nF Try.prog ops Q rest (a.put o.dst v) w) : wpListIn F nF Try.prog ops Q (o :: rest) a w := by
  refine wpListIn_plain hg fun K' hK' => ?_
  have hrun := (hI.look ht hz hwf).2
  rw [hv] at hrun
  unfold Oper.wpIn
  refine ⟨by simp [Oper.about, hop], ?_⟩
  rw [Oper.semAt_plain F _ _ (by rw [hop]; intro c hc'; cases hc')]
  simp [execOp, hop, hm, hx, hrun, Result.andThen]
  exact hK' _ _ hK
theorem wpi_mapset (hg : o.guard = none) (m x u : Operand) (t : TypeId) (hop : o.op = Op.mapUpdate t m x u) (e : TypeId) (ht : Try.prog.underlying t = some (.map 3 e)) (b n : Nat) (M : Int → Option Value)
    (hm : a.eval m = .map (some b)) (hI : IntMap w b n M) (hn : n < maxLen) (key : Int) (hx : a.eval x = .int .i64 key) (hwf : (Lit.int .i64 key).wf = true) (v : Value) (hv : a.eval u = v)
    (hK : ∀ w', IntMap w' b (n + 1) (upd M key v) → w.grownBy w' (some b) → wpListIn F nF Try.prog ops Q rest (a.put o.dst undef) w') : wpListIn F nF Try.prog ops Q (o :: rest) a w := by
  refine wpListIn_plain hg fun K' hK' => ?_
  obtain ⟨w', hrun, h1, h2⟩ := hI.set ht hn hwf v
  unfold Oper.wpIn
  refine ⟨by simp [Oper.about, hop], ?_⟩
  rw [Oper.semAt_plain F _ _ (by rw [hop]; intro c hc'; cases hc')]
  simp [execOp, hop, hm, hx, hv, hrun, Result.andThen]
  exact hK' _ _ (hK w' h1 h2)
end
end Go.Proofs.Ytgeknojpcjadkaa
namespace Go.Proofs.Ytgeknojpcjadkaa
open Go.Proofs Go.RowKit Go.Shelf
theorem Tm.run_app (l : List Int) : ∀ (r : List Int) (n : Nat), Tm.run l n ≤ l.length → Tm.run (l ++ r) n = Tm.run l n := by
  induction l with
  | nil => intro r n h; rw [Tm.run_nil] at h; have : n = 0 := by simpa using h
           subst this; simp [Tm.run_zero]
  | cons s l ih =>
    intro r n h
    cases n with
    | zero => simp [Tm.run_zero]
    | succ n =>
      rw [List.cons_append, Tm.run_cons, Tm.run_cons, ih]
      rw [Tm.run_cons, List.length_cons] at h
      omega
theorem Tm.run_take (l : List Int) : ∀ (n : Nat), Tm.run l n ≤ l.length → Tm.run (l.take (Tm.run l n)) n = Tm.run l n := by
  induction l with
  | nil => intro n h; simp [Tm.run_nil]
  | cons s l ih =>
    intro n h
    cases n with
    | zero => simp [Tm.run_zero]
    | succ n =>
      rw [Tm.run_cons] at h ⊢
      rw [List.length_cons] at h
      rw [show 1 + Tm.run l (n + Tm.room s) = Tm.run l (n + Tm.room s) + 1 from by omega, List.take_succ_cons, Tm.run_cons, ih _ (by omega)]
      omega
theorem Tm.run_open (l : List Int) : ∀ (r : List Int) (n : Nat), l.length < Tm.run (l ++ r) n → ∃ m, ∀ x, Tm.run (l ++ x) n = l.length + Tm.run x (m + 1) := by
  induction l with
  | nil =>
    intro r n h
    cases n with
    | zero => simp [Tm.run_zero] at h
    | succ n => exact ⟨n, fun x => by simp⟩
  | cons s l ih =>
    intro r n h
    cases n with
    | zero => simp [Tm.run_zero] at h
    | succ n =>
      rw [List.cons_append, Tm.run_cons, List.length_cons] at h
      obtain ⟨m, hm⟩ := ih r (n + Tm.room s) (by omega)
      refine ⟨m, fun x => ?_⟩
      rw [List.cons_append, Tm.run_cons, hm, List.length_cons]
      omega
theorem Tm.split (zs : List Int) (k : Nat) : zs = zs.take k ++ (Tm.part zs k ++ zs.drop (Tm.endAt zs k)) := by
  have hg := Tm.endAt_gt zs k
  have hd : zs.drop (Tm.endAt zs k) = (zs.drop k).drop (Tm.endAt zs k - k) := by rw [List.drop_drop]; congr 1; omega
  rw [hd, Tm.part, List.take_append_drop, List.take_append_drop]
theorem Tm.part_run {zs : List Int} (he : Tm.err zs = 0) {k : Nat} (hk : k < zs.length) : Tm.run (Tm.part zs k) 1 = (Tm.part zs k).length := by
  rw [Tm.part_length he hk]
  have h1 := Tm.end_in he hk
  have h2 : Tm.endAt zs k - k = Tm.run (zs.drop k) 1 := by unfold Tm.endAt; omega
  unfold Tm.part
  rw [h2, Tm.run_take]
  rw [List.length_drop]
  omega
theorem Tm.part_all {zs : List Int} (he : Tm.err zs = 0) (k : Nat) : (Tm.part zs k).all Tm.known = true := by
  have h := Tm.err_all he
  rw [List.all_eq_true] at h ⊢
  intro x hx
  exact h x (List.mem_of_mem_drop (List.mem_of_mem_take hx))
theorem Tm.part_err {zs : List Int} (he : Tm.err zs = 0) {k : Nat} (hk : k < zs.length) : Tm.err (Tm.part zs k) = 0 := by
  refine Tm.err_ok ?_ (Tm.part_all he k) (Tm.part_run he hk)
  rw [Tm.part_length he hk]
  have := Tm.end_in he hk
  have := Tm.err_len he
  omega
theorem Tm.put_eq (zs us : List Int) (k : Nat) : Tm.put zs k us = zs.take k ++ (us ++ zs.drop (Tm.endAt zs k)) := by unfold Tm.put; rw [List.append_assoc]
theorem Tm.put_run {zs us : List Int} (he : Tm.err zs = 0) (hu : Tm.run us 1 = us.length) {k : Nat} (hk : k < zs.length) : Tm.run (Tm.put zs k us) 1 = (Tm.put zs k us).length := by
  have hs := Tm.split zs k
  have hr := Tm.err_run he
  have hp := Tm.part_run he hk
  have htl : (zs.take k).length = k := by rw [List.length_take]; omega
  generalize hP : Tm.part zs k = P at *
  rw [Tm.put_eq]
  generalize hA : zs.take k = A at *
  generalize hB : zs.drop (Tm.endAt zs k) = B at *
  clear hP hA hB
  rw [hs] at hr
  obtain ⟨m, hm⟩ := Tm.run_open A (P ++ B) 1 (by rw [hr]; rw [← hs]; omega)
  rw [hm, show m + 1 = 1 + m from by omega, Tm.run_add, Tm.run_app P B 1 (by omega), hp, List.drop_left] at hr
  rw [hm, show m + 1 = 1 + m from by omega, Tm.run_add, Tm.run_app us B 1 (by omega), hu, List.drop_left]
  simp only [List.length_append] at hr ⊢
  omega
theorem Tm.put_all {zs us : List Int} (he : Tm.err zs = 0) (hu : us.all Tm.known = true) (k : Nat) : (Tm.put zs k us).all Tm.known = true := by
  have h := Tm.err_all he
  rw [List.all_eq_true] at h hu ⊢
  intro x hx
  unfold Tm.put at hx
  rw [List.mem_append, List.mem_append] at hx
  rcases hx with (hx | hx) | hx
  · exact h x (List.mem_of_mem_take hx)
  · exact hu x hx
  · exact h x (List.mem_of_mem_drop hx)
theorem Tm.put_err {zs us : List Int} (he : Tm.err zs = 0) (hu : Tm.err us = 0) {k : Nat} (hk : k < zs.length) (hl : (Tm.put zs k us).length ≤ 30) : Tm.err (Tm.put zs k us) = 0 :=
  Tm.err_ok hl (Tm.put_all he (Tm.err_all hu) k) (Tm.put_run he (Tm.err_run hu) hk)
end Go.Proofs.Ytgeknojpcjadkaa
