/-
  haspref.OverOf.
-/
import Derived.Test.YtbelnlemjcoifaaOver2
namespace Go.Proofs.Ytbelnlemjcoifaa
open Go.Proofs Go.RowKit Go.Shelf Go.Maps

set_option maxRecDepth 100000 in
set_option maxHeartbeats 1000000 in
theorem overOf_any (t p : List Int) (at' ap : Option Addr) (ct cp : Nat) (w : World) (hT : Ints w.heap.size w at' t) (hP : Ints w.heap.size w ap p) (h1 : t.length ≤ ct ∧ ct ≤ maxLen) (h2 : p.length ≤ cp ∧ cp ≤ maxLen) :
    Calls Try.prog 40 #[.slice at' t.length ct, .slice ap p.length cp] w fun e w' => ∃ v, e = .returned (.tuple #[v, .int .i64 (Tm.fitErr t p)]) ∧ New w.heap.size w' v (Tm.overVal t p) ∧ Below w.heap.size w w' := by
  have hC := twoErrors_any t p at' ap ct cp w hT hP
  unfold Tm.overVal
  by_cases he : Tm.fitErr t p = 0
  · obtain ⟨ht, hp⟩ := Tm.fitErr_ok he
    have hl30 := Tm.err_len ht
    have hl30' : (t.length : Int) ≤ 30 := by omega
    rw [if_pos he, he]
    rw [he] at hC
    have hpart := hid (fun W (hW : Below w.heap.size w W) k (hk : k < t.length) => partOf_any t at' ct k W ((hT.below hW).mono hW.size) h1.1 h1.2 ht hk)
    have hfit := hid (fun W (hW : Below w.heap.size w W) k (hk : k < t.length) a c (hI : Ints W.heap.size W a (Tm.part t k)) hc => fitted_any p (Tm.part t k) ap a cp c W hp (Tm.part_err ht hk) ((hP.below hW).mono hW.size) hI h2 hc)
    clear hT hP h1 h2 he ht hp
    go_enter Try.func40, Try.ntmps40
    go_wp2_with (first
      | (go_at_call 63; refine hC.mono ?_; clear hC; rintro e w ⟨rfl, rfl⟩))
    go_loopw [7, 8] (fun v i wr => ∃ k : Nat, k ≤ t.length ∧ i = .int .i64 (k : Int) ∧ New w.heap.size wr v (overL t p (placesTo t k)) ∧ Below w.heap.size w wr) (fun _ i _ => t.length - (intOf i).toNat)
    case atStart => exact ⟨0, Nat.zero_le _, rfl, New.nil _ _, Below.refl _ _⟩
    case round =>
      obtain ⟨k, hk, rfl, hN, hB⟩ := hrel
      obtain ⟨a0, c0, rfl, _⟩ := New.ints hN
      by_cases hlt : k < t.length
      · have hlt' : (k : Int) < (t.length : Int) := by omega
        have hp1 := hpart.out wr hB k hlt
        have hov1 := hid (overL_no (p := p) (placesTo t k) ⟨k, hlt⟩)
        have hov2 := hid (fun m => overL_yes (p := p) (m := m) (placesTo t k) ⟨k, hlt⟩)
        have hol := overL_le (p := p) (placesTo t k)
        rw [placesTo_length t k hk] at hol
        have hfk := hid (fun W hW a c hI hc => hfit.out W hW k hlt a c hI hc)
        have hsc := hid (placesTo_succ hlt)
        dsimp only at hov1 hov2
        cases hres : Tm.fit p (Tm.part t k) with
        | none =>
          rw [hres] at hfk
          have hst : Hid (overL t p (placesTo t (k + 1)) = overL t p (placesTo t k)) := by show _ = _; rw [hsc.out]; exact hov1.out hres
          clear hov1 hov2 hres
          go_wp2_with (first
            | (go_at_call 48; refine hp1.mono ?_; clear hp1; rintro e w1 ⟨v1, rfl, hN1, hB1⟩; obtain ⟨a1, c1, rfl, hI1, hc1⟩ := New.ints hN1; have hB2 := hB.trans (hB1.mono hB.size))
            | (go_at_call 64; refine (hfk.out _ hB2 _ _ hI1 hc1).mono ?_; rintro e w2 ⟨v2, rfl, _, hB3⟩; have hB4 := hB2.trans (hB3.mono hB2.size); simp only [Option.isSome_none]))
          go_roundw
          case rel => exact ⟨k + 1, by omega, by go_num, by rw [hst.out]; exact (New.below hN hB1).below hB3, hB4⟩
          case measure => simp [intOf]; omega
        | some m =>
          rw [hres] at hfk
          have hst : Hid (overL t p (placesTo t (k + 1)) = overL t p (placesTo t k) ++ [(k : Int)]) := by show _ = _; rw [hsc.out]; exact hov2.out m hres
          clear hov1 hov2 hres
          go_wp2_with (first
            | (go_at_call 48; refine hp1.mono ?_; clear hp1; rintro e w1 ⟨v1, rfl, hN1, hB1⟩; obtain ⟨a1, c1, rfl, hI1, hc1⟩ := New.ints hN1; have hB2 := hB.trans (hB1.mono hB.size))
            | (go_at_call 64; refine (hfk.out _ hB2 _ _ hI1 hc1).mono ?_; rintro e w2 ⟨v2, rfl, _, hB3⟩; have hB4 := hB2.trans (hB3.mono hB2.size); simp only [Option.isSome_some]; have hN2 := (New.below hN hB1).below hB3)
            | (at_builtin; go_loud (refine wp_append_int1 _ rfl _ _ rfl w.heap.size _ (overL t p (placesTo t k)) rfl (New.alloc hN2 _) w2.heap.size (k : Int) rfl (cell_new _ _ _ _ rfl) (by omega) (by have := hB4.size; simp; omega) ?_); intro v' w3 hN3 hg3 hB5; obtain ⟨a3, c3, rfl, _⟩ := New.ints hN3))
          go_roundw
          case rel => exact ⟨k + 1, by omega, by go_num, by rw [hst.out]; simpa using hN3, (hB4.alloc hB4.size _).trans hB5⟩
          case measure => simp [intOf]; omega
      · obtain rfl : k = t.length := by omega
        go_wp2
        go_ret2
        exact ⟨_, rfl, hN, hB⟩
  · rw [if_neg he]
    have hne : (Tm.fitErr t p != 0) = true := by simp [he]
    clear hT hP he h1 h2
    generalize Tm.fitErr t p = q at *
    go_enter Try.func40, Try.ntmps40
    go_wp2_with (first
      | (go_at_call 63; refine hC.mono ?_; clear hC; rintro e w ⟨rfl, rfl⟩))
    go_ret2
    exact ⟨_, rfl, New.nil _ _, Below.refl _ _⟩

end Go.Proofs.Ytbelnlemjcoifaa
