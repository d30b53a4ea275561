/-
  hasplaw.valued.
-/
import Derived.Laws.Rows
import Derived.Test.YtgeknojpcjadkaaBck25
namespace Go.Proofs.Ytgeknojpcjadkaa
open Go.Proofs Go.RowKit Go.Shelf Go.Maps

/-- What symbols are, the 26 numbers of a world being zs. -/
def mo (zs : List Int) (s : Int) (x y : Nat) : Nat := if s < 2 then chN (zs[s.toNat]?.getD 0) 3 else if s < 4 then chN (zs[2 + (s.toNat - 2) * 3 + x]?.getD 0) 3 else chN (zs[8 + (s.toNat - 4) * 9 + x * 3 + y]?.getD 0) 3
theorem mo_lt (zs : List Int) (s : Int) (x y : Nat) : mo zs s x y < 3 := by
  unfold mo
  split
  · exact chN_lt _ (by omega)
  · split <;> exact chN_lt _ (by omega)
/-- A world's value; what variables are. -/
def moV (zs : List Int) : Value := .agg (zs.map (Value.int .i64)).toArray
def vaV (vs : Nat → Nat) : Value := .agg #[.int .i64 (vs 0 : Int), .int .i64 (vs 1 : Int), .int .i64 (vs 2 : Int), .int .i64 (vs 3 : Int), .int .i64 (vs 4 : Int), .int .i64 (vs 5 : Int), .int .i64 (vs 6 : Int), .int .i64 (vs 7 : Int)]
structure MoOk (zs : List Int) : Prop where
  len : zs.length = 26
  wf : ∀ i : Nat, (Lit.int .i64 (zs[i]?.getD 0)).wf = true
theorem mo_range {zs : List Int} {W : World} {B : Nat} (h : W.heap[B]? = some (.cells (zs.map (Value.int .i64)).toArray 29 (0, 0))) : W.rangeAt B 0 (zs.map (Value.int .i64)) := fun j v hv => by
  rw [Nat.zero_add, cell_at h, List.getElem?_toArray]
  exact hv
theorem mo_cell {zs : List Int} {W : World} {B : Nat} (hz : MoOk zs) (h : W.heap[B]? = some (.cells (zs.map (Value.int .i64)).toArray 29 (0, 0))) : ∀ i, i < 26 → W.cell? ⟨B, i, none⟩ = some (.int .i64 (zs[i]?.getD 0)) := fun i hi => by
  have := hz.len
  rw [cell_at h, List.getElem?_toArray, List.getElem?_map, List.getElem?_eq_getElem (by omega)]
  rfl
theorem mo_size {zs : List Int} (hz : MoOk zs) : (Try.prog.info? 29).map (·.size) = some (zs.map (Value.int .i64)).toArray.size := by
  rw [List.size_toArray, List.length_map, hz.len]; kernel_rfl
theorem va_size : (Try.prog.info? 93).map (·.size) = some 8 := by kernel_rfl

/-- What valued answers at a place. -/
def ValuedAt (zs : List Int) (vs : Nat → Nat) (t : List Int) (at' : Option Addr) (ct k : Nat) : Prop := ∀ w : World, Ints w.heap.size w at' t → Calls Try.prog 49 #[moV zs, .slice at' t.length ct, .int .i64 (k : Int), vaV vs] w fun e w' => e = .returned (.tuple #[.int .i64 (Tm.val (mo zs) vs (Tm.part t k) : Int), .int .i64 (Tm.endAt t k : Int)]) ∧ Below w.heap.size w w'

set_option maxRecDepth 100000 in
set_option maxHeartbeats 2000000 in
theorem valued_var (zs : List Int) (vs : Nat → Nat) (t : List Int) (at' : Option Addr) (ct k : Nat) (ht : Tm.err t = 0) (hk : k < t.length) (hs : t[k]?.getD 0 < 0) : ValuedAt zs vs t at' ct k := by
  intro w hI
  have l30 := Tm.err_len ht
  have hk' : (k : Int) < (t.length : Int) := by omega
  have h8 := Tm.known8 ht k hk
  have hsy := Tm.sym_part ht hk
  have hv : Tm.val (mo zs) vs (Tm.part t k) = vs (-1 - t[k]?.getD 0).toNat := by rw [Tm.val_var (by rw [hsy]; exact hs), hsy]
  have he : Tm.endAt t k = k + 1 := by rw [Tm.endAt_in t k hk, Tm.room_neg hs, Tm.pos_zero]
  rw [hv, he]
  have hkb : (k : Int) ≤ 30 := by omega
  obtain ⟨b, off, rfl, hb, hc⟩ := hI.at (by omega)
  unfold moV vaV
  have hBn : Below w.heap.size w ((w.alloc (.cells (zs.map (Value.int .i64)).toArray 29)).alloc (.cells #[.int .i64 (vs 0 : Int), .int .i64 (vs 1 : Int), .int .i64 (vs 2 : Int), .int .i64 (vs 3 : Int), .int .i64 (vs 4 : Int), .int .i64 (vs 5 : Int), .int .i64 (vs 6 : Int), .int .i64 (vs 7 : Int)] 93)) := ((Below.refl _ w).alloc (Nat.le_refl _) _).alloc (by simp) _
  have blk := World.alloc_heap_new (w.alloc (.cells (zs.map (Value.int .i64)).toArray 29)) (.cells #[.int .i64 (vs 0 : Int), .int .i64 (vs 1 : Int), .int .i64 (vs 2 : Int), .int .i64 (vs 3 : Int), .int .i64 (vs 4 : Int), .int .i64 (vs 5 : Int), .int .i64 (vs 6 : Int), .int .i64 (vs 7 : Int)] 93)
  rw [World.size_alloc] at blk
  obtain ⟨W2, hW2⟩ : ∃ W2, (w.alloc (.cells (zs.map (Value.int .i64)).toArray 29)).alloc (.cells #[.int .i64 (vs 0 : Int), .int .i64 (vs 1 : Int), .int .i64 (vs 2 : Int), .int .i64 (vs 3 : Int), .int .i64 (vs 4 : Int), .int .i64 (vs 5 : Int), .int .i64 (vs 6 : Int), .int .i64 (vs 7 : Int)] 93) = W2 := ⟨_, rfl⟩
  rw [hW2] at hBn blk
  have ck := (hBn.cell (p := ⟨b, off + k, none⟩) hb).trans (hc k hk)
  clear hc hv he hsy hI
  generalize t[k]?.getD 0 = s at *
  have c0 : W2.cell? ⟨w.heap.size + 1, 0, none⟩ = some (.int .i64 (vs 0 : Int)) := by rw [cell_at blk]; rfl
  have c1 : W2.cell? ⟨w.heap.size + 1, 1, none⟩ = some (.int .i64 (vs 1 : Int)) := by rw [cell_at blk]; rfl
  have c2 : W2.cell? ⟨w.heap.size + 1, 2, none⟩ = some (.int .i64 (vs 2 : Int)) := by rw [cell_at blk]; rfl
  have c3 : W2.cell? ⟨w.heap.size + 1, 3, none⟩ = some (.int .i64 (vs 3 : Int)) := by rw [cell_at blk]; rfl
  have c4 : W2.cell? ⟨w.heap.size + 1, 4, none⟩ = some (.int .i64 (vs 4 : Int)) := by rw [cell_at blk]; rfl
  have c5 : W2.cell? ⟨w.heap.size + 1, 5, none⟩ = some (.int .i64 (vs 5 : Int)) := by rw [cell_at blk]; rfl
  have c6 : W2.cell? ⟨w.heap.size + 1, 6, none⟩ = some (.int .i64 (vs 6 : Int)) := by rw [cell_at blk]; rfl
  have c7 : W2.cell? ⟨w.heap.size + 1, 7, none⟩ = some (.int .i64 (vs 7 : Int)) := by rw [cell_at blk]; rfl
  clear blk
  have hcs : s = -1 ∨ s = -2 ∨ s = -3 ∨ s = -4 ∨ s = -5 ∨ s = -6 ∨ s = -7 ∨ s = -8 := by omega
  clear hs h8
  rcases hcs with rfl | rfl | rfl | rfl | rfl | rfl | rfl | rfl
  all_goals (
    go_enter Try.func49, Try.ntmps49
    go_wp2
    go_ret2
    exact ⟨by simp, hBn⟩)

theorem pos_lt {t : List Int} (ht : Tm.err t = 0) {k : Nat} (hk : k < t.length) {m : Nat} (hm : m < Tm.room (t[k]?.getD 0)) : Tm.pos t k m < t.length := by
  have h1 := Tm.pos_part ht hk m (by omega)
  have h2 := Tm.pos_in (Tm.part_err ht hk) (m := m) (by rw [Tm.sym_part ht hk]; exact hm)
  rw [Tm.part_length ht hk] at h2
  have h3 := Tm.end_in ht hk
  omega
theorem val_at {A : Int → Nat → Nat → Nat} {vs : Nat → Nat} {t : List Int} (ht : Tm.err t = 0) {k : Nat} (hk : k < t.length) (h0 : ¬ t[k]?.getD 0 < 0) : Tm.val A vs (Tm.part t k) = A (t[k]?.getD 0) (if 0 < Tm.room (t[k]?.getD 0) then Tm.val A vs (Tm.part t (Tm.pos t k 0)) else 0) (if 1 < Tm.room (t[k]?.getD 0) then Tm.val A vs (Tm.part t (Tm.pos t k 1)) else 0) := by
  rw [Tm.val_sym (by rw [Tm.sym_part ht hk]; exact h0), Tm.sym_part ht hk]
  congr 1
  · by_cases h : 0 < Tm.room (t[k]?.getD 0)
    · rw [if_pos h, if_pos h, Tm.kid_part ht hk h]
    · rw [if_neg h, if_neg h]
  · by_cases h : 1 < Tm.room (t[k]?.getD 0)
    · rw [if_pos h, if_pos h, Tm.kid_part ht hk h]
    · rw [if_neg h, if_neg h]

/-- The two boxes. -/
theorem va_boxes (zs : List Int) (vs : Nat → Nat) (w W2 : World) (hW2 : (w.alloc (.cells (zs.map (Value.int .i64)).toArray 29)).alloc (.cells #[.int .i64 (vs 0 : Int), .int .i64 (vs 1 : Int), .int .i64 (vs 2 : Int), .int .i64 (vs 3 : Int), .int .i64 (vs 4 : Int), .int .i64 (vs 5 : Int), .int .i64 (vs 6 : Int), .int .i64 (vs 7 : Int)] 93) = W2) :
    Below w.heap.size w W2 ∧ W2.heap[w.heap.size]? = some (.cells (zs.map (Value.int .i64)).toArray 29 (0, 0)) ∧ W2.heap[w.heap.size + 1]? = some (.cells #[.int .i64 (vs 0 : Int), .int .i64 (vs 1 : Int), .int .i64 (vs 2 : Int), .int .i64 (vs 3 : Int), .int .i64 (vs 4 : Int), .int .i64 (vs 5 : Int), .int .i64 (vs 6 : Int), .int .i64 (vs 7 : Int)] 93 (0, 0)) ∧ W2.heap.size = w.heap.size + 1 + 1 := by
  subst hW2
  refine ⟨((Below.refl _ w).alloc (Nat.le_refl _) _).alloc (by simp) _, (Below.heap_alloc _ _ _ (by simp)).trans (World.alloc_heap_new w _), ?_, by simp⟩
  have blk := World.alloc_heap_new (w.alloc (.cells (zs.map (Value.int .i64)).toArray 29)) (.cells #[.int .i64 (vs 0 : Int), .int .i64 (vs 1 : Int), .int .i64 (vs 2 : Int), .int .i64 (vs 3 : Int), .int .i64 (vs 4 : Int), .int .i64 (vs 5 : Int), .int .i64 (vs 6 : Int), .int .i64 (vs 7 : Int)] 93)
  rw [World.size_alloc] at blk
  exact blk

set_option maxRecDepth 100000 in
set_option maxHeartbeats 2000000 in
theorem valued_none (zs : List Int) (hz : MoOk zs) (vs : Nat → Nat) (t : List Int) (at' : Option Addr) (ct k : Nat) (ht : Tm.err t = 0) (hk : k < t.length) (hs : t[k]?.getD 0 = 0 ∨ t[k]?.getD 0 = 1) : ValuedAt zs vs t at' ct k := by
  intro w hI
  have l30 := Tm.err_len ht
  have hk' : (k : Int) < (t.length : Int) := by omega
  have hkb : (k : Int) ≤ 30 := by omega
  have hv := val_at (A := mo zs) (vs := vs) ht hk (by omega)
  have he : Tm.endAt t k = k + 1 := by rw [Tm.endAt_in t k hk, show Tm.room (t[k]?.getD 0) = 0 by rcases hs with e | e <;> rw [e] <;> rfl, Tm.pos_zero]
  rw [hv, he]
  obtain ⟨b, off, rfl, hb, hc⟩ := hI.at (by omega)
  unfold moV vaV
  obtain ⟨W2, hW2⟩ : ∃ W2, (w.alloc (.cells (zs.map (Value.int .i64)).toArray 29)).alloc (.cells #[.int .i64 (vs 0 : Int), .int .i64 (vs 1 : Int), .int .i64 (vs 2 : Int), .int .i64 (vs 3 : Int), .int .i64 (vs 4 : Int), .int .i64 (vs 5 : Int), .int .i64 (vs 6 : Int), .int .i64 (vs 7 : Int)] 93) = W2 := ⟨_, rfl⟩
  obtain ⟨hBn, bM, _, hs2⟩ := va_boxes zs vs w W2 hW2
  have ck := (hBn.cell (p := ⟨b, off + k, none⟩) hb).trans (hc k hk)
  have m0 := mo_cell hz bM 0 (by omega)
  have m1 := mo_cell hz bM 1 (by omega)
  have h0 := hid (choose_is (zs[0]?.getD 0) 3 (hz.wf 0) (by omega) (by omega) W2)
  have h1 := hid (choose_is (zs[1]?.getD 0) 3 (hz.wf 1) (by omega) (by omega) W2)
  have e0 : mo zs 0 0 0 = chN (zs[0]?.getD 0) 3 := rfl
  have e1 : mo zs 1 0 0 = chN (zs[1]?.getD 0) 3 := rfl
  clear hc hv he bM hI
  generalize t[k]?.getD 0 = s at *
  rcases hs with rfl | rfl
  · rw [show (if 0 < Tm.room 0 then Tm.val (mo zs) vs (Tm.part t (Tm.pos t k 0)) else 0) = 0 from rfl, show (if 1 < Tm.room 0 then Tm.val (mo zs) vs (Tm.part t (Tm.pos t k 1)) else 0) = 0 from rfl, e0]
    clear e0 e1 h1
    generalize zs[0]?.getD 0 = z at *
    go_enter Try.func49, Try.ntmps49
    go_wp2_with (first
      | (go_at_call 23; refine h0.out.mono ?_; rintro e w3 ⟨rfl, rfl⟩))
    go_ret2
    exact ⟨by simp, hBn⟩
  · rw [show (if 0 < Tm.room 1 then Tm.val (mo zs) vs (Tm.part t (Tm.pos t k 0)) else 0) = 0 from rfl, show (if 1 < Tm.room 1 then Tm.val (mo zs) vs (Tm.part t (Tm.pos t k 1)) else 0) = 0 from rfl, e1]
    clear e0 e1 h0
    generalize zs[1]?.getD 0 = z at *
    go_enter Try.func49, Try.ntmps49
    go_wp2_with (first
      | (go_at_call 23; refine h1.out.mono ?_; rintro e w3 ⟨rfl, rfl⟩))
    go_ret2
    exact ⟨by simp, hBn⟩

set_option maxRecDepth 100000 in
set_option maxHeartbeats 4000000 in
theorem valued_one (zs : List Int) (hz : MoOk zs) (vs : Nat → Nat) (hvs : ∀ i, vs i < 3) (t : List Int) (at' : Option Addr) (ct k : Nat) (ht : Tm.err t = 0) (hk : k < t.length) (hs : t[k]?.getD 0 = 2 ∨ t[k]?.getD 0 = 3) (ih : ValuedAt zs vs t at' ct (k + 1)) : ValuedAt zs vs t at' ct k := by
  intro w hI
  have l30 := Tm.err_len ht
  have hk' : (k : Int) < (t.length : Int) := by omega
  have hkb : (k : Int) ≤ 30 := by omega
  have hr : Tm.room (t[k]?.getD 0) = 1 := by rcases hs with e | e <;> rw [e] <;> rfl
  have hv := val_at (A := mo zs) (vs := vs) ht hk (by omega)
  have he : Tm.endAt t k = Tm.endAt t (k + 1) := by rw [Tm.endAt_in t k hk, hr, Tm.pos_succ, Tm.pos_zero]
  rw [hr, Tm.pos_zero, if_pos (by omega), if_neg (by omega)] at hv
  rw [hv, he]
  have hx3 := Tm.val_lt (mo_lt zs) hvs (Tm.part t (k + 1))
  have hend := Tm.end_in ht (k := k + 1) (by have := pos_lt ht hk (m := 0) (by omega); rwa [Tm.pos_zero] at this)
  have hendi : (Tm.endAt t (k + 1) : Int) ≤ 30 := by omega
  obtain ⟨b, off, rfl, hb, hc⟩ := hI.at (by omega)
  unfold ValuedAt at ih
  unfold moV vaV at ih ⊢
  obtain ⟨W2, hW2⟩ : ∃ W2, (w.alloc (.cells (zs.map (Value.int .i64)).toArray 29)).alloc (.cells #[.int .i64 (vs 0 : Int), .int .i64 (vs 1 : Int), .int .i64 (vs 2 : Int), .int .i64 (vs 3 : Int), .int .i64 (vs 4 : Int), .int .i64 (vs 5 : Int), .int .i64 (vs 6 : Int), .int .i64 (vs 7 : Int)] 93) = W2 := ⟨_, rfl⟩
  obtain ⟨hBn, bM, bV, hs2⟩ := va_boxes zs vs w W2 hW2
  have ck := (hBn.cell (p := ⟨b, off + k, none⟩) hb).trans (hc k hk)
  have hszM := hid (mo_size hz)
  have HbM := hid bM
  have HbV := hid bV
  have hC := hid (ih W2 ((hI.below hBn).mono hBn.size))
  have hM := hid (fun W (hW : Below W2.heap.size W2 W) => mo_cell hz ((hW.block w.heap.size (by omega)).trans bM))
  have hch := hid (fun i (W : World) => choose_is (zs[i]?.getD 0) 3 (hz.wf i) (by omega) (by omega) W)
  have e2 : ∀ x, mo zs 2 x 0 = chN (zs[2 + x]?.getD 0) 3 := fun x => by simp [mo]
  have e3 : ∀ x, mo zs 3 x 0 = chN (zs[5 + x]?.getD 0) 3 := fun x => by simp [mo]
  have He2 := hid e2
  have He3 := hid e3
  clear hc hv he bM bV hI ih hr e2 e3 hvs
  generalize t[k]?.getD 0 = s at *
  generalize Tm.val (mo zs) vs (Tm.part t (k + 1)) = x at *
  generalize Tm.endAt t (k + 1) = en at *
  have hxc : x = 0 ∨ x = 1 ∨ x = 2 := by omega
  rcases hs with rfl | rfl
  · rw [He2.out]
    rcases hxc with rfl | rfl | rfl
    all_goals (
      go_enter Try.func49, Try.ntmps49
      go_wp2_with (first
        | (refine wpList_load_row rfl 29 _ rfl _ rfl _ _ _ _ HbM.out Try.underlying29 rfl hszM.out ?_)
        | (refine wpList_load_row rfl 93 _ rfl _ rfl _ _ _ _ HbV.out Try.underlying93 rfl va_size ?_)
        | (go_at_call 49; refine hC.out.mono ?_; clear hC; rintro e w3 ⟨rfl, b3⟩; have m2 := hM.out w3 b3 2 (by omega); have m3 := hM.out w3 b3 3 (by omega); have m4 := hM.out w3 b3 4 (by omega))
        | (go_at_call 23; refine (hch.out _ w3).mono ?_; rintro e w3 ⟨rfl, rfl⟩))
      go_ret2
      exact ⟨rfl, hBn.trans (b3.mono hBn.size)⟩)
  · rw [He3.out]
    rcases hxc with rfl | rfl | rfl
    all_goals (
      go_enter Try.func49, Try.ntmps49
      go_wp2_with (first
        | (refine wpList_load_row rfl 29 _ rfl _ rfl _ _ _ _ HbM.out Try.underlying29 rfl hszM.out ?_)
        | (refine wpList_load_row rfl 93 _ rfl _ rfl _ _ _ _ HbV.out Try.underlying93 rfl va_size ?_)
        | (go_at_call 49; refine hC.out.mono ?_; clear hC; rintro e w3 ⟨rfl, b3⟩; have m2 := hM.out w3 b3 5 (by omega); have m3 := hM.out w3 b3 6 (by omega); have m4 := hM.out w3 b3 7 (by omega))
        | (go_at_call 23; refine (hch.out _ w3).mono ?_; rintro e w3 ⟨rfl, rfl⟩))
      go_ret2
      exact ⟨rfl, hBn.trans (b3.mono hBn.size)⟩)

end Go.Proofs.Ytgeknojpcjadkaa
