/-
  haspref.applied, ApplyOf.
-/
import Derived.Test.YtbelnlemjcoifaaSub2
namespace Go.Proofs.Ytbelnlemjcoifaa
open Go.Proofs Go.RowKit Go.Shelf

set_option maxRecDepth 100000 in
set_option maxHeartbeats 1000000 in
/-- haspref.applied, of right ones. -/
theorem applied_any (ss : List (List Int)) (hl : ss.length = 8) (hsh : Short ss) (a : Option Addr) (cap : Nat) (t : List Int) (at' : Option Addr) (ct : Nat) (ht : t.length ≤ 30) (h8 : ∀ k, k < t.length → -8 ≤ t[k]?.getD 0) (w : World)
    (hS : Subs w.heap.size w a ss) (hT : Ints w.heap.size w at' t) :
    Calls Try.prog 56 #[.slice a 8 cap, .slice at' t.length ct] w fun e w' => ∃ v, e = .returned v ∧ New w.heap.size w' v (Tm.applied ss t) ∧ Below w.heap.size w w' := by
  have hlen : (t.length : Int) ≤ 30 := by omega
  obtain ⟨bs, os, rfl, hbs, hcs⟩ := hS.at (by omega)
  have Hcs := hid hcs
  have HT := hid hT
  have H8 := hid h8
  have Hl := hid hl
  clear hcs hS hT h8 hl
  go_enter Try.func56, Try.ntmps56
  go_wp2
  go_loopw [5, 6] (fun v i wr => ∃ k : Nat, k ≤ t.length ∧ i = .int .i64 (k : Int) ∧ New w.heap.size wr v (Tm.applied ss (t.take k)) ∧ Below w.heap.size w wr) (fun _ i _ => t.length - (intOf i).toNat)
  case atStart => exact ⟨0, Nat.zero_le _, rfl, New.nil _ _, Below.refl _ _⟩
  case round =>
    obtain ⟨k, hk, rfl, hN, hBr⟩ := hrel
    by_cases hlt : k < t.length
    · have hlt' : (k : Int) < (t.length : Int) := by omega
      obtain ⟨b, off, rfl, hb, hc⟩ := HT.out.at (by omega)
      have hck := (hBr.cell (p := ⟨b, off + k, none⟩) hb).trans (hc k hlt)
      have hsn := hid (Tm.applied_snoc ss hlt)
      have hle := Tm.applied_le hsh (t.take k)
      rw [List.length_take] at hle
      have hpl := Tm.piece_le hsh (t[k]?.getD 0)
      have hs8 := H8.out k hlt
      clear hc
      obtain ⟨a0, c0, rfl, _⟩ := New.ints hN
      by_cases hneg : t[k]?.getD 0 < 0
      · obtain ⟨j, hj⟩ : ∃ j : Nat, t[k]?.getD 0 = -1 - (j : Int) := ⟨(-1 - (t[k]?.getD 0)).toNat, by omega⟩
        have hj8 : (j : Int) < 8 := by omega
        obtain ⟨aj, cj, hcj0, hIj0, h1, h2, h3⟩ := Hcs.out j (by rw [Hl.out]; omega)
        have hcj := (hBr.cell (p := ⟨bs, os + j, none⟩) hbs).trans hcj0
        have hIj := (hIj0.below hBr).mono hBr.size
        have hpc : Tm.piece ss (t[k]?.getD 0) = ss[j]?.getD [] := by
          rw [hj]
          unfold Tm.piece
          rw [if_pos (by omega)]
          congr 2
          omega
        rw [hpc] at hsn hpl
        rw [hj] at hck
        have H3 : Hid (aj = none → (ss[j]?.getD []).length = 0 ∧ cj = 0) := fun e => ⟨by have := h3 e; omega, h3 e⟩
        clear hcj0 hIj0 hpc hj hneg hs8 h3 h1 h2
        generalize ss[j]?.getD [] = pc at *
        generalize Tm.applied ss (t.take k) = xs at *
        have hn1 : (-1 - (j : Int)) < 0 := by omega
        have hn2 : -(-1 - (j : Int)) - 1 = (j : Int) := by omega
        go_wp2_with (at_builtin; go_loud (refine wp_append_ints _ rfl _ _ rfl w.heap.size _ xs rfl hN aj pc cj rfl H3.out hIj (by omega) hBr.size ?_); intro v' w2 hN2 hB3; obtain ⟨a2, c2, rfl, _⟩ := New.ints hN2)
        go_roundw
        case rel => exact ⟨k + 1, by omega, by go_num, by rw [hsn.out]; simpa using hN2, hBr.trans hB3⟩
        case measure => simp [intOf]; omega
      · have hpc : Tm.piece ss (t[k]?.getD 0) = [t[k]?.getD 0] := by unfold Tm.piece; rw [if_neg hneg]
        rw [hpc] at hsn
        clear hpc hpl hs8
        generalize t[k]?.getD 0 = s at *
        generalize Tm.applied ss (t.take k) = xs at *
        have h1 := ints_lit wr [s] _ rfl
        simp only [List.map_cons, List.map_nil] at h1
        have hA : Below wr.heap.size wr (wr.alloc (.cells #[.int .i64 s] 3)) := (Below.refl _ _).alloc (Nat.le_refl _) _
        have hNA := New.below hN hA
        have hBA := hBr.trans (hA.mono hBr.size)
        go_wp2_with (at_builtin; go_loud (refine wp_append_ints _ rfl _ _ rfl w.heap.size _ xs rfl hNA (some ⟨wr.heap.size, 0, none⟩) [s] 1 rfl (fun e => by cases e) (by simpa using h1) (by simp; omega) hBA.size ?_); intro v' w2 hN2 hB3; obtain ⟨a2, c2, rfl, _⟩ := New.ints hN2)
        go_roundw
        case rel => exact ⟨k + 1, by omega, by go_num, by rw [hsn.out]; simpa using hN2, hBA.trans hB3⟩
        case measure => simp [intOf]; omega
    · obtain rfl : k = t.length := by omega
      rw [List.take_length] at hN
      obtain ⟨a2, c2, rfl, _⟩ := New.ints hN
      go_wp2
      go_ret
      exact ⟨_, rfl, hN, hBr⟩

set_option maxRecDepth 100000 in
set_option maxHeartbeats 400000 in
/-- haspref.ApplyOf. -/
theorem refApply_any (ss : List (List Int)) (t : List Int) (a at' : Option Addr) (cap ct : Nat) (w : World) (hS : Subs w.heap.size w a ss) (hT : Ints w.heap.size w at' t) :
    Calls Try.prog 26 #[.slice a ss.length cap, .slice at' t.length ct] w fun e w' => ∃ v, e = .returned (.tuple #[v, .int .i64 (Tm.applyErr ss t)]) ∧ New w.heap.size w' v (Tm.applyVal ss t) ∧ Below w.heap.size w w' := by
  have hC1 := subError_any ss a cap w hS
  by_cases hs : Tm.subErr ss = 0
  · have hC2 := termError_any t at' ct w hT
    rw [hs] at hC1
    by_cases ht : Tm.err t = 0
    · obtain ⟨e1, e2⟩ := Tm.apply_ok hs ht
      obtain ⟨hl, hf⟩ := Tm.subErr_ok hs
      have hb := applied_any ss hl (Short.of_ok hf) a cap t at' ct (Tm.err_len ht) (Tm.known8 ht) w hS hT
      have hle := Tm.applied_le (Short.of_ok hf) t
      have ht30 := Tm.err_len ht
      rw [hl] at hC1 ⊢
      rw [ht] at hC2
      rw [e1, e2]
      clear hS hT hl hf e1 e2 hs ht
      generalize Tm.applied ss t = xs at *
      have hx : (xs.length : Int) ≤ 1000 := by omega
      clear hle
      by_cases hbig : 30 < xs.length
      · have hbig' : (30 : Int) < (xs.length : Int) := by omega
        rw [if_pos hbig, if_pos hbig]
        clear hbig
        go_enter Try.func26, Try.ntmps26
        go_wp2_with (first
          | (go_at_call 29; refine hC1.mono ?_; clear hC1; rintro e w ⟨rfl, rfl⟩)
          | (go_at_call 20; refine hC2.mono ?_; clear hC2; rintro e w ⟨rfl, rfl⟩)
          | (go_at_call 56; refine hb.mono ?_; clear hb; rintro e w3 ⟨v, rfl, hN, hB⟩; obtain ⟨a1, c1, rfl, _⟩ := New.ints hN))
        go_ret2
        exact ⟨_, rfl, New.nil _ _, hB⟩
      · have hbig' : (xs.length : Int) ≤ 30 := by omega
        rw [if_neg hbig, if_neg hbig]
        clear hbig
        go_enter Try.func26, Try.ntmps26
        go_wp2_with (first
          | (go_at_call 29; refine hC1.mono ?_; clear hC1; rintro e w ⟨rfl, rfl⟩)
          | (go_at_call 20; refine hC2.mono ?_; clear hC2; rintro e w ⟨rfl, rfl⟩)
          | (go_at_call 56; refine hb.mono ?_; clear hb; rintro e w3 ⟨v, rfl, hN, hB⟩; obtain ⟨a1, c1, rfl, _⟩ := New.ints hN))
        go_ret2
        exact ⟨_, rfl, hN, hB⟩
    · obtain ⟨e1, e2⟩ := Tm.apply_t hs ht
      rw [e1, e2]
      have hne : (Tm.err t != 0) = true := by simp [ht]
      clear hS hT e1 e2 hs ht
      generalize Tm.err t = q at *
      go_enter Try.func26, Try.ntmps26
      go_wp2_with (first
        | (go_at_call 29; refine hC1.mono ?_; clear hC1; rintro e w ⟨rfl, rfl⟩)
        | (go_at_call 20; refine hC2.mono ?_; clear hC2; rintro e w ⟨rfl, rfl⟩))
      go_ret2
      exact ⟨_, rfl, New.nil _ _, Below.refl _ _⟩
  · obtain ⟨e1, e2⟩ := Tm.apply_s (t := t) hs
    rw [e1, e2]
    have hne : (Tm.subErr ss != 0) = true := by simp [hs]
    clear hS hT e1 e2 hs
    generalize Tm.subErr ss = q at *
    go_enter Try.func26, Try.ntmps26
    go_wp2_with (go_at_call 29; refine hC1.mono ?_; clear hC1; rintro e w ⟨rfl, rfl⟩)
    go_ret2
    exact ⟨_, rfl, New.nil _ _, Below.refl _ _⟩

end Go.Proofs.Ytbelnlemjcoifaa
