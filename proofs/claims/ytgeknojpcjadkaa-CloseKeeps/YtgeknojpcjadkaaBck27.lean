/-
  hasplaw.valued, of symbols with two parts; whatever stands there.
-/
import Derived.Test.YtgeknojpcjadkaaBck26
namespace Go.Proofs.Ytgeknojpcjadkaa
open Go.Proofs Go.RowKit Go.Shelf Go.Maps

set_option maxRecDepth 100000 in
set_option maxHeartbeats 4000000 in
theorem valued_two (zs : List Int) (hz : MoOk zs) (vs : Nat → Nat) (hvs : ∀ i, vs i < 3) (t : List Int) (at' : Option Addr) (ct k : Nat) (ht : Tm.err t = 0) (hk : k < t.length) (hs : t[k]?.getD 0 = 4 ∨ t[k]?.getD 0 = 5) (ih : ValuedAt zs vs t at' ct (k + 1)) (ih2 : ValuedAt zs vs t at' ct (Tm.endAt t (k + 1))) : ValuedAt zs vs t at' ct k := by
  intro w hI
  have l30 := Tm.err_len ht
  have hk' : (k : Int) < (t.length : Int) := by omega
  have hkb : (k : Int) ≤ 30 := by omega
  have hr : Tm.room (t[k]?.getD 0) = 2 := by rcases hs with e | e <;> rw [e] <;> rfl
  have hv := val_at (A := mo zs) (vs := vs) ht hk (by omega)
  have hp1 : Tm.pos t k 1 = Tm.endAt t (k + 1) := by rw [Tm.pos_succ, Tm.pos_zero]
  have he : Tm.endAt t k = Tm.endAt t (Tm.endAt t (k + 1)) := by rw [Tm.endAt_in t k hk, hr, Tm.pos_succ, hp1]
  rw [hr, Tm.pos_zero, hp1, if_pos (by omega), if_pos (by omega)] at hv
  rw [hv, he]
  have hx3 := Tm.val_lt (mo_lt zs) hvs (Tm.part t (k + 1))
  have hy3 := Tm.val_lt (mo_lt zs) hvs (Tm.part t (Tm.endAt t (k + 1)))
  have hend := Tm.end_in ht (k := k + 1) (by have := pos_lt ht hk (m := 0) (by omega); rwa [Tm.pos_zero] at this)
  have hendi : (Tm.endAt t (k + 1) : Int) ≤ 30 := by omega
  obtain ⟨b, off, rfl, hb, hc⟩ := hI.at (by omega)
  unfold ValuedAt at ih ih2
  unfold moV vaV at ih ih2 ⊢
  obtain ⟨W2, hW2⟩ : ∃ W2, (w.alloc (.cells (zs.map (Value.int .i64)).toArray 29)).alloc (.cells #[.int .i64 (vs 0 : Int), .int .i64 (vs 1 : Int), .int .i64 (vs 2 : Int), .int .i64 (vs 3 : Int), .int .i64 (vs 4 : Int), .int .i64 (vs 5 : Int), .int .i64 (vs 6 : Int), .int .i64 (vs 7 : Int)] 93) = W2 := ⟨_, rfl⟩
  obtain ⟨hBn, bM, bV, hs2⟩ := va_boxes zs vs w W2 hW2
  have ck := (hBn.cell (p := ⟨b, off + k, none⟩) hb).trans (hc k hk)
  have hszM := hid (mo_size hz)
  have HbM := hid bM
  have HbV := hid bV
  have hC := hid (ih W2 ((hI.below hBn).mono hBn.size))
  have hC2 := hid (fun W (hW : Below W2.heap.size W2 W) => ih2 W ((((hI.below hBn).mono hBn.size).below hW).mono hW.size))
  have HV := hid (fun W (hW : Below W2.heap.size W2 W) => (hW.block (w.heap.size + 1) (by omega)).trans bV)
  have HMb := hid (fun W (hW : Below W2.heap.size W2 W) => (hW.block w.heap.size (by omega)).trans bM)
  have hM := hid (fun W (hW : Below W2.heap.size W2 W) => mo_cell hz ((hW.block w.heap.size (by omega)).trans bM))
  have hch := hid (fun i (W : World) => choose_is (zs[i]?.getD 0) 3 (hz.wf i) (by omega) (by omega) W)
  have e4 : ∀ x y, mo zs 4 x y = chN (zs[8 + x * 3 + y]?.getD 0) 3 := fun x y => by simp [mo]
  have e5 : ∀ x y, mo zs 5 x y = chN (zs[17 + x * 3 + y]?.getD 0) 3 := fun x y => by simp [mo]
  have He4 := hid e4
  have He5 := hid e5
  clear hc hv he bM bV hI ih ih2 hr e4 e5 hvs hp1
  generalize t[k]?.getD 0 = s at *
  generalize Tm.val (mo zs) vs (Tm.part t (k + 1)) = x at *
  generalize Tm.val (mo zs) vs (Tm.part t (Tm.endAt t (k + 1))) = y at *
  generalize Tm.endAt t (Tm.endAt t (k + 1)) = en2 at *
  generalize Tm.endAt t (k + 1) = en at *
  have hxc : x = 0 ∨ x = 1 ∨ x = 2 := by omega
  have hyc : y = 0 ∨ y = 1 ∨ y = 2 := by omega
  rcases hs with rfl | rfl
  · rw [He4.out]
    rcases hxc with rfl | rfl | rfl
    all_goals (rcases hyc with rfl | rfl | rfl)
    all_goals (
      go_enter Try.func49, Try.ntmps49
      go_wp2_with (first
        | (refine wpList_load_row rfl 29 _ rfl _ rfl _ _ _ _ HbM.out Try.underlying29 rfl hszM.out ?_)
        | (refine wpList_load_row rfl 93 _ rfl _ rfl _ _ _ _ HbV.out Try.underlying93 rfl va_size ?_)
        | (refine wpList_load_row rfl 29 _ rfl _ rfl _ _ _ _ bM3.out Try.underlying29 rfl hszM.out ?_)
        | (refine wpList_load_row rfl 93 _ rfl _ rfl _ _ _ _ bV3.out Try.underlying93 rfl va_size ?_)
        | (go_at_call 49; refine hC.out.mono ?_; clear hC; rintro e w3 ⟨rfl, b3⟩; have bM3 := hid (HMb.out w3 b3); have bV3 := hid (HV.out w3 b3))
        | (go_at_call 49; refine (hC2.out w3 b3).mono ?_; clear hC2; rintro e w4 ⟨rfl, b4⟩; have b5 : Below W2.heap.size W2 w4 := b3.trans (b4.mono b3.size); have m0 := hM.out w4 b5 8 (by omega); have m1 := hM.out w4 b5 9 (by omega); have m2 := hM.out w4 b5 10 (by omega); have m3 := hM.out w4 b5 11 (by omega); have m4 := hM.out w4 b5 12 (by omega); have m5 := hM.out w4 b5 13 (by omega); have m6 := hM.out w4 b5 14 (by omega); have m7 := hM.out w4 b5 15 (by omega); have m8 := hM.out w4 b5 16 (by omega))
        | (go_at_call 23; refine (hch.out _ w4).mono ?_; rintro e w4 ⟨rfl, rfl⟩))
      go_ret2
      exact ⟨rfl, hBn.trans (b5.mono hBn.size)⟩)
  · rw [He5.out]
    rcases hxc with rfl | rfl | rfl
    all_goals (rcases hyc with rfl | rfl | rfl)
    all_goals (
      go_enter Try.func49, Try.ntmps49
      go_wp2_with (first
        | (refine wpList_load_row rfl 29 _ rfl _ rfl _ _ _ _ HbM.out Try.underlying29 rfl hszM.out ?_)
        | (refine wpList_load_row rfl 93 _ rfl _ rfl _ _ _ _ HbV.out Try.underlying93 rfl va_size ?_)
        | (refine wpList_load_row rfl 29 _ rfl _ rfl _ _ _ _ bM3.out Try.underlying29 rfl hszM.out ?_)
        | (refine wpList_load_row rfl 93 _ rfl _ rfl _ _ _ _ bV3.out Try.underlying93 rfl va_size ?_)
        | (go_at_call 49; refine hC.out.mono ?_; clear hC; rintro e w3 ⟨rfl, b3⟩; have bM3 := hid (HMb.out w3 b3); have bV3 := hid (HV.out w3 b3))
        | (go_at_call 49; refine (hC2.out w3 b3).mono ?_; clear hC2; rintro e w4 ⟨rfl, b4⟩; have b5 : Below W2.heap.size W2 w4 := b3.trans (b4.mono b3.size); have m0 := hM.out w4 b5 17 (by omega); have m1 := hM.out w4 b5 18 (by omega); have m2 := hM.out w4 b5 19 (by omega); have m3 := hM.out w4 b5 20 (by omega); have m4 := hM.out w4 b5 21 (by omega); have m5 := hM.out w4 b5 22 (by omega); have m6 := hM.out w4 b5 23 (by omega); have m7 := hM.out w4 b5 24 (by omega); have m8 := hM.out w4 b5 25 (by omega))
        | (go_at_call 23; refine (hch.out _ w4).mono ?_; rintro e w4 ⟨rfl, rfl⟩))
      go_ret2
      exact ⟨rfl, hBn.trans (b5.mono hBn.size)⟩)

/-- hasplaw.valued. -/
theorem valued_all (zs : List Int) (hz : MoOk zs) (vs : Nat → Nat) (hvs : ∀ i, vs i < 3) (t : List Int) (at' : Option Addr) (ct : Nat) (ht : Tm.err t = 0) : ∀ (n k : Nat), t.length - k ≤ n → k < t.length → ValuedAt zs vs t at' ct k := by
  intro n
  induction n with
  | zero => intro k h1 h2; omega
  | succ n ih =>
    intro k h1 hk
    have h8 := Tm.known8 ht k hk
    have h6 := Tm.known_lt (Tm.all_at (Tm.err_all ht) hk)
    by_cases h0 : t[k]?.getD 0 < 0
    · exact valued_var zs vs t at' ct k ht hk h0
    · by_cases h2 : t[k]?.getD 0 < 2
      · exact valued_none zs hz vs t at' ct k ht hk (by omega)
      · have hr1 : 0 < Tm.room (t[k]?.getD 0) := by
          have : t[k]?.getD 0 = 2 ∨ t[k]?.getD 0 = 3 ∨ t[k]?.getD 0 = 4 ∨ t[k]?.getD 0 = 5 := by omega
          rcases this with e | e | e | e <;> rw [e] <;> decide
        have hp := pos_lt ht hk hr1
        rw [Tm.pos_zero] at hp
        have i1 := ih (k + 1) (by omega) hp
        by_cases h4 : t[k]?.getD 0 < 4
        · exact valued_one zs hz vs hvs t at' ct k ht hk (by omega) i1
        · have hr2 : 1 < Tm.room (t[k]?.getD 0) := by
            have : t[k]?.getD 0 = 4 ∨ t[k]?.getD 0 = 5 := by omega
            rcases this with e | e <;> rw [e] <;> decide
          have hp2 := pos_lt ht hk hr2
          rw [Tm.pos_succ, Tm.pos_zero] at hp2
          exact valued_two zs hz vs hvs t at' ct k ht hk (by omega) i1 (ih _ (by have := Tm.endAt_gt t (k + 1); omega) hp2)

end Go.Proofs.Ytgeknojpcjadkaa
