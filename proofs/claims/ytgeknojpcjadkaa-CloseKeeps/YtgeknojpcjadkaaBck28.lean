/-
  hasplaw.holds.
-/
import Derived.Test.YtgeknojpcjadkaaBck27
namespace Go.Proofs.Ytgeknojpcjadkaa
open Go.Proofs Go.RowKit Go.Shelf Go.Maps

/-- Eight variables' cells. -/
abbrev vaC (vs : Nat → Nat) : Array Value := #[.int .i64 (vs 0 : Int), .int .i64 (vs 1 : Int), .int .i64 (vs 2 : Int), .int .i64 (vs 3 : Int), .int .i64 (vs 4 : Int), .int .i64 (vs 5 : Int), .int .i64 (vs 6 : Int), .int .i64 (vs 7 : Int)]
theorem asg_old {k x i : Nat} (h : i < k) : asg (k + 1) x i = asg k x i := by unfold asg; rw [if_pos (by omega), if_pos h]
theorem asg_new (k x : Nat) : asg (k + 1) x k = x / 3 ^ k % 3 := by unfold asg; rw [if_pos (by omega)]
theorem asg_far {k x i : Nat} (h : k < i) : asg (k + 1) x i = asg k x i := by unfold asg; rw [if_neg (by omega), if_neg (by omega)]
theorem vaC_cell {W : World} {B : Nat} {vs : Nat → Nat} (h : W.heap[B]? = some (.cells (vaC vs) 93 (0, 0))) : ∀ i, i < 8 → W.cell? ⟨B, i, none⟩ = some (.int .i64 (vs i : Int)) := fun i hi => by
  rw [cell_at h]
  match i, hi with
  | 0, _ => rfl
  | 1, _ => rfl
  | 2, _ => rfl
  | 3, _ => rfl
  | 4, _ => rfl
  | 5, _ => rfl
  | 6, _ => rfl
  | 7, _ => rfl
theorem vaC_frozen {W : World} {B : Nat} {vs : Nat → Nat} (h : W.heap[B]? = some (.cells (vaC vs) 93 (0, 0))) (i : Nat) : W.frozen? ⟨B, i, none⟩ = false := by simp [World.frozen?, h]
theorem vaC_set {W : World} {B k x : Nat} (h : W.heap[B]? = some (.cells (vaC (asg k x)) 93 (0, 0))) (hk : k < 8) : (W.setCell ⟨B, k, none⟩ (.int .i64 ((x / 3 ^ k % 3 : Nat) : Int))).heap[B]? = some (.cells (vaC (asg (k + 1) x)) 93 (0, 0)) := by
  obtain ⟨hlt, hb⟩ := Array.getElem?_eq_some_iff.1 h
  show (W.heap.modify B _)[B]? = _
  rw [Array.getElem?_eq_getElem (by rw [Array.size_modify]; exact hlt), Array.getElem_modify_self, hb]
  match k, hk with
  | 0, _ => simp [asg_new, asg_far]
  | 1, _ => simp [asg_new, asg_old, asg_far]
  | 2, _ => simp [asg_new, asg_old, asg_far]
  | 3, _ => simp [asg_new, asg_old, asg_far]
  | 4, _ => simp [asg_new, asg_old, asg_far]
  | 5, _ => simp [asg_new, asg_old, asg_far]
  | 6, _ => simp [asg_new, asg_old, asg_far]
  | 7, _ => simp [asg_new, asg_old]

theorem holds_no {A : Int → Nat → Nat → Nat} {a b : List Int} {n x : Nat} (hx : x < 3 ^ n) (h : Tm.val A (asg n x) a ≠ Tm.val A (asg n x) b) : Tm.holdsB A a b n = false := by
  unfold Tm.holdsB
  rw [decide_eq_false_iff_not]
  exact fun h' => h (h' x hx)
theorem pow3_le {k : Nat} (h : k ≤ 8) : 3 ^ k ≤ 6561 := Nat.le_trans (Nat.pow_le_pow_right (by omega) h) (by decide)

set_option maxRecDepth 100000 in
set_option maxHeartbeats 4000000 in
theorem holds_any (zs : List Int) (hz : MoOk zs) (a b : List Int) (aa ab : Option Addr) (ca cb : Nat) (w : World) (ea : Tm.err a = 0) (eb : Tm.err b = 0) (hA : Ints w.heap.size w aa a) (hB : Ints w.heap.size w ab b) :
    Calls Try.prog 17 #[moV zs, .slice aa a.length ca, .slice ab b.length cb] w fun e w' => e = .returned (.bool (Tm.holdsB (mo zs) a b (max (dpN a) (dpN b)))) ∧ Below w.heap.size w w' := by
  have da := dpN_le (Tm.known8 ea) a.length (Nat.le_refl _)
  have db := dpN_le (Tm.known8 eb) b.length (Nat.le_refl _)
  rw [List.take_length] at da db
  unfold moV
  have bM := World.alloc_heap_new w (.cells (zs.map (Value.int .i64)).toArray 29)
  have hB0 : Below w.heap.size w (w.alloc (.cells (zs.map (Value.int .i64)).toArray 29)) := (Below.refl _ w).alloc (Nat.le_refl _) _
  obtain ⟨W1, hW1⟩ : ∃ W1, w.alloc (.cells (zs.map (Value.int .i64)).toArray 29) = W1 := ⟨_, rfl⟩
  have hs1 : W1.heap.size = w.heap.size + 1 := by rw [← hW1]; simp
  rw [hW1] at bM hB0
  have Da := hid (deepest_any a aa ca W1 ea ((hA.below hB0).mono hB0.size))
  have Db := hid (deepest_any b ab cb W1 eb ((hB.below hB0).mono hB0.size))
  obtain ⟨n, hn⟩ : ∃ n, max (dpN a) (dpN b) = n := ⟨_, rfl⟩
  have hmx : max (dpN a : Int) (dpN b : Int) = (n : Int) := by omega
  have hn8 : n ≤ 8 := by omega
  have hn8' : (n : Int) ≤ 8 := by omega
  rw [hn]
  have dai : (dpN a : Int) ≤ 8 := by omega
  have dbi : (dpN b : Int) ≤ 8 := by omega
  have hszM := hid (mo_size hz)
  have HV := hid (fun x W (hW : Below W1.heap.size W1 W) => valued_all zs hz (asg n x) (asg_lt n x) a aa ca ea _ 0 (Nat.le_refl _) (Tm.err_pos ea) W ((((hA.below hB0).mono hB0.size).below hW).mono hW.size))
  have HU := hid (fun x W (hW : Below W1.heap.size W1 W) => valued_all zs hz (asg n x) (asg_lt n x) b ab cb eb _ 0 (Nat.le_refl _) (Tm.err_pos eb) W ((((hB.below hB0).mono hB0.size).below hW).mono hW.size))
  rw [Tm.part_all0 (Tm.err_run ea)] at HV
  rw [Tm.part_all0 (Tm.err_run eb)] at HU
  unfold moV vaV at HV HU
  have HbM := hid (fun W (hW : Below W1.heap.size W1 W) => (hW.block w.heap.size (by omega)).trans bM)
  clear bM hA hB hn da db ea eb
  generalize dpN a = na at *
  generalize dpN b = nb at *
  have hcs : ((na : Int) = (n : Int) ∧ (nb : Int) ≤ (n : Int)) ∨ ((nb : Int) = (n : Int) ∧ (na : Int) < (n : Int)) := by omega
  clear hmx dai dbi
  rcases hcs with ⟨hc1, hc2⟩ | ⟨hc1, hc2⟩
  all_goals (
    go_enter Try.func17, Try.ntmps17
    go_wp2_with (first
      | (go_at_call_of 48 (Value.slice aa a.length ca); refine Da.out.mono ?_; clear Da; rintro e W1 ⟨rfl, rfl⟩)
      | (go_at_call_of 48 (Value.slice ab b.length cb); refine Db.out.mono ?_; clear Db; rintro e W1 ⟨rfl, rfl⟩))
    clear hc1 hc2
    go_loop [8, 9] (fun m i => ∃ k : Nat, k ≤ n ∧ i = .int .i64 (k : Int) ∧ m = .int .i64 ((3 ^ k : Nat) : Int)) (fun _ i => n - (intOf i).toNat)
    case atStart => exact ⟨0, Nat.zero_le _, rfl, rfl⟩
    case round =>
      obtain ⟨k, hk, rfl, rfl⟩ := hrel
      have hp := pow3_le (k := k) (by omega)
      have hps := hid (Nat.pow_succ 3 k)
      obtain ⟨p, hpe⟩ : ∃ p, 3 ^ k = p := ⟨_, rfl⟩
      rw [hpe] at hp hps ⊢
      have hp' : (p : Int) ≤ 6561 := by omega
      have Hpe := hid hpe
      clear hpe
      by_cases hlt : k < n
      · have hlt' : (k : Int) < (n : Int) := by omega
        clear hp
        go_wp2
        go_round
        case rel => exact ⟨k + 1, by omega, by go_num, by rw [hps.out, Nat.mul_comm]; go_num⟩
        case measure => simp [intOf]; omega
      · obtain rfl : k = n := by omega
        have Hp := hid hp
        clear hp hps
        go_wp2
        go_loopw [10] (fun v W => ∃ x : Nat, x ≤ p ∧ v = .int .i64 (x : Int) ∧ Hid (∀ y, y < x → Tm.val (mo zs) (asg k y) a = Tm.val (mo zs) (asg k y) b) ∧ Below W1.heap.size W1 W) (fun v _ => p - (intOf v).toNat)
        case atStart => exact ⟨0, Nat.zero_le _, rfl, hid (fun y hy => by omega), Below.refl _ _⟩
        case round =>
          obtain ⟨W, rfl⟩ : ∃ W, W = wr := ⟨wr, rfl⟩
          obtain ⟨x, hx, rfl, hall, hBW⟩ := hrel
          by_cases hxp : x < p
          · have hxp' : (x : Int) < (p : Int) := by omega
            have hx6 : (x : Int) ≤ 6561 := by have := Hp.out; omega
            have hsW : W1.heap.size ≤ W.heap.size := hBW.size
            have blk : (W.alloc (.cells #[.int .i64 0, .int .i64 0, .int .i64 0, .int .i64 0, .int .i64 0, .int .i64 0, .int .i64 0, .int .i64 0] 93)).heap[W.heap.size]? = some (.cells (vaC (asg 0 x)) 93 (0, 0)) := World.alloc_heap_new W _
            have hBa : Below W.heap.size W (W.alloc (.cells #[.int .i64 0, .int .i64 0, .int .i64 0, .int .i64 0, .int .i64 0, .int .i64 0, .int .i64 0, .int .i64 0] 93)) := (Below.refl _ W).alloc (Nat.le_refl _) _
            have Hblk := hid blk
            clear blk
            go_wp2
            go_loopw [12, 13] (fun jv yv X => ∃ j : Nat, j ≤ k ∧ jv = .int .i64 (j : Int) ∧ yv = .int .i64 ((x / 3 ^ j : Nat) : Int) ∧ Hid (X.heap[W.heap.size]? = some (.cells (vaC (asg j x)) 93 (0, 0))) ∧ Below W.heap.size W X) (fun jv _ _ => k - (intOf jv).toNat)
            case atStart => exact ⟨0, Nat.zero_le _, rfl, by simp, Hblk, hBa⟩
            case round =>
              obtain ⟨X, rfl⟩ : ∃ X, X = wr := ⟨wr, rfl⟩
              obtain ⟨j, hj, rfl, rfl, hbX, hBX⟩ := hrel
              by_cases hjk : j < k
              · have hjk' : (j : Int) < (k : Int) := by omega
                have hj8 : (j : Int) < 8 := by omega
                have hj0 : (0 : Int) ≤ (j : Int) := by omega
                have cj := vaC_cell hbX.out j (by omega)
                have fj := vaC_frozen hbX.out j
                have hset := hid (vaC_set hbX.out (k := j) (by omega))
                have hdd := hid (show x / 3 ^ (j + 1) = x / 3 ^ j / 3 by rw [Nat.pow_succ, Nat.div_div_eq_div_mul])
                have hyl : x / 3 ^ j ≤ x := Nat.div_le_self _ _
                generalize x / 3 ^ j = y at *
                have hy6 : (y : Int) ≤ 6561 := by omega
                generalize asg j x j = old at *
                go_wp2
                go_roundw
                case rel => exact ⟨j + 1, by omega, by go_num, by rw [hdd.out]; go_num, hid (by simpa using hset.out), hBX.trans ((Below.refl _ X).setCell (p := ⟨W.heap.size, j, none⟩) (by show W.heap.size ≤ W.heap.size; omega) _)⟩
                case measure => simp [intOf]; omega
              · obtain rfl : j = k := by omega
                have bX : Below W1.heap.size W1 X := hBW.trans (hBX.mono hBW.size)
                have hC1 := hid (HV.out x X bX)
                have bM1 := hid (HbM.out X bX)
                have hC2 := hid (fun Y (hY : Below X.heap.size X Y) => HU.out x Y (bX.trans (hY.mono bX.size)))
                have bM2 := hid (fun Y (hY : Below X.heap.size X Y) => HbM.out Y (bX.trans (hY.mono bX.size)))
                have bV2 := hid (fun Y (hY : Below X.heap.size X Y) => (hY.block W.heap.size (Array.getElem?_eq_some_iff.1 hbX.out).1).trans hbX.out)
                have hnx := hid (holds_no (A := mo zs) (a := a) (b := b) (n := j) (x := x) (by rw [Hpe.out]; exact hxp))
                have hnext := hid (fun he : Tm.val (mo zs) (asg j x) a = Tm.val (mo zs) (asg j x) b => show ∀ y, y < x + 1 → Tm.val (mo zs) (asg j y) a = Tm.val (mo zs) (asg j y) b from fun y hy => by
                  by_cases e : y = x
                  · rw [e]; exact he
                  · exact hall.out y (by omega))
                generalize Tm.val (mo zs) (asg j x) a = u at *
                generalize Tm.val (mo zs) (asg j x) b = v at *
                by_cases huv : u = v
                · have hne : ((u : Int) != (v : Int)) = false := by simp [huv]
                  have Hn := hid (hnext.out huv)
                  clear huv hnx hnext
                  go_wp2_with (first
                    | (refine wpList_load_row rfl 29 _ rfl _ rfl _ _ _ _ bM1.out Try.underlying29 rfl hszM.out ?_)
                    | (refine wpList_load_row rfl 93 _ rfl _ rfl _ _ _ _ hbX.out Try.underlying93 rfl va_size ?_)
                    | (refine wpList_load_row rfl 29 _ rfl _ rfl _ _ _ _ bM3.out Try.underlying29 rfl hszM.out ?_)
                    | (refine wpList_load_row rfl 93 _ rfl _ rfl _ _ _ _ bV3.out Try.underlying93 rfl va_size ?_)
                    | (go_at_call_of 49 (Value.slice aa a.length ca); refine hC1.out.mono ?_; clear hC1; rintro e Y ⟨rfl, b3⟩; have bM3 := hid (bM2.out Y b3); have bV3 := hid (bV2.out Y b3))
                    | (go_at_call_of 49 (Value.slice ab b.length cb); refine (hC2.out Y b3).mono ?_; clear hC2; rintro e Z ⟨rfl, b4⟩))
                  go_roundw
                  case rel => exact ⟨x + 1, by omega, by go_num, hid Hn.out, (bX.trans (b3.mono bX.size)).trans (b4.mono (by have := bX.size; have := b3.size; omega))⟩
                  case measure => simp [intOf]; omega
                · have hne : ((u : Int) != (v : Int)) = true := by simp; omega
                  have Hn := hid (hnx.out huv)
                  clear huv hnx hnext
                  go_wp2_with (first
                    | (refine wpList_load_row rfl 29 _ rfl _ rfl _ _ _ _ bM1.out Try.underlying29 rfl hszM.out ?_)
                    | (refine wpList_load_row rfl 93 _ rfl _ rfl _ _ _ _ hbX.out Try.underlying93 rfl va_size ?_)
                    | (refine wpList_load_row rfl 29 _ rfl _ rfl _ _ _ _ bM3.out Try.underlying29 rfl hszM.out ?_)
                    | (refine wpList_load_row rfl 93 _ rfl _ rfl _ _ _ _ bV3.out Try.underlying93 rfl va_size ?_)
                    | (go_at_call_of 49 (Value.slice aa a.length ca); refine hC1.out.mono ?_; clear hC1; rintro e Y ⟨rfl, b3⟩; have bM3 := hid (bM2.out Y b3); have bV3 := hid (bV2.out Y b3))
                    | (go_at_call_of 49 (Value.slice ab b.length cb); refine (hC2.out Y b3).mono ?_; clear hC2; rintro e Z ⟨rfl, b4⟩))
                  go_ret
                  have bb := (bX.trans (b3.mono bX.size)).trans (b4.mono (by have := bX.size; have := b3.size; omega))
                  exact ⟨ret_bool Hn.out.symm, hB0.trans (bb.mono (by omega))⟩
          · obtain rfl : x = p := by omega
            have hh := hid (show Tm.holdsB (mo zs) a b k = true by unfold Tm.holdsB; rw [decide_eq_true_eq, Hpe.out]; exact hall.out)
            go_wp2
            go_ret
            exact ⟨ret_bool hh.out.symm, hB0.trans (hBW.mono (by omega))⟩)

end Go.Proofs.Ytgeknojpcjadkaa
