/-
  Parts of the proof: Lea5, Lea6, Lea7, Lea8, Uni3, Prs4, Prs5, Prs6, Prs7, Prs8.
-/
import Derived.Deep.RegionHeld3
import Derived.Test.YtgeknojpcjadkaaBlm13
import Derived.Test.YtgeknojpcjadkaaBlm12
import Derived.Test.YtgeknojpcjadkaaBlm11
import Derived.OwnWalkIn
import Derived.RangeFuncBox
import Derived.Test.YtgeknojpcjadkaaBlm10
import Derived.Deep.DrawnRows
import Derived.Test.YtgeknojpcjadkaaBlm7
namespace Go.Proofs.Ytgeknojpcjadkaa
open Go.Proofs Go.RowKit Go.Shelf Go.Maps
set_option maxRecDepth 100000 in
set_option maxHeartbeats 1000000 in
theorem min_any (t : List Int) (a : Option Addr) (c : Nat) (w : World) (hT : Ints w.heap.size w a t) (h0 : 0 < t.length) (h30 : t.length ≤ 30) :
    Calls Try.prog 99 #[.slice a t.length c] w fun e w' => (∃ x : Int, e = .returned (.int .i64 x) ∧ (∃ j, j < t.length ∧ t[j]?.getD 0 = x) ∧ ∀ j, j < t.length → x ≤ t[j]?.getD 0) ∧ w' = w := by
  obtain ⟨b, off, rfl, hb, hc⟩ := hT.at h0
  have hl : (t.length : Int) ≤ 30 := by omega
  have hl1 : ¬ (t.length : Int) < 1 := by omega
  have hl0 : (0 : Int) < (t.length : Int) := by omega
  have hc0 := hc 0 h0
  rw [Nat.add_zero] at hc0
  have Hc := hid hc
  have Hx : Hid (∃ j, j < 1 ∧ t[j]?.getD 0 = t[0]?.getD 0) := ⟨0, by omega, rfl⟩
  have Hm : Hid (∀ j, j < 1 → t[0]?.getD 0 ≤ t[j]?.getD 0) := fun j hj => by rw [show j = 0 from (by omega)]; exact Int.le_refl _
  clear hc hT
  generalize t[0]?.getD 0 = z at *
  go_enter Try.func99, Try.ntmps99
  go_wp2
  go_loopw [3, 4] (fun m i wr => wr = w ∧ ∃ (k : Nat) (x : Int), 1 ≤ k ∧ k ≤ t.length ∧ i = .int .i64 (k : Int) ∧ m = .int .i64 x ∧ Hid (∃ j, j < k ∧ t[j]?.getD 0 = x) ∧ Hid (∀ j, j < k → x ≤ t[j]?.getD 0)) (fun _ i _ => t.length - (intOf i).toNat)
  case atStart => exact ⟨rfl, 1, z, Nat.le_refl _, by omega, rfl, rfl, Hx, Hm⟩
  case round =>
    obtain ⟨rfl, k, x, hk1, hk, rfl, rfl, hx, hm⟩ := hrel
    by_cases hlt : k < t.length
    · have hlt' : (k : Int) < (t.length : Int) := by omega
      have hck := Hc.out k hlt
      have hn1 : Hid (x ≤ t[k]?.getD 0 → (∃ j, j < k + 1 ∧ t[j]?.getD 0 = x) ∧ ∀ j, j < k + 1 → x ≤ t[j]?.getD 0) := fun h => by
        obtain ⟨j, hj, e⟩ := hx.out
        exact ⟨⟨j, by omega, e⟩, fun j hj => if e : j = k then e ▸ h else hm.out j (by omega)⟩
      have hn2 : Hid (¬ x ≤ t[k]?.getD 0 → (∃ j, j < k + 1 ∧ t[j]?.getD 0 = t[k]?.getD 0) ∧ ∀ j, j < k + 1 → t[k]?.getD 0 ≤ t[j]?.getD 0) := fun h => ⟨⟨k, by omega, rfl⟩, fun j hj => if e : j = k then by rw [e]; exact Int.le_refl _ else by have := hm.out j (by omega); omega⟩
      generalize t[k]?.getD 0 = s at hck hn1 hn2
      by_cases hs : x ≤ s
      · have hmn : min x s = x := by omega
        have hN := hid (hn1.out hs)
        clear hn1 hn2 hs
        go_wp2
        go_roundw
        case rel => exact ⟨(by first | rfl | trivial), k + 1, x, by omega, by omega, by go_num, by first | rfl | (rw [hmn]), hN.out.1, hN.out.2⟩
        case measure => simp [intOf]; omega
      · have hmn : min x s = s := by omega
        have hN := hid (hn2.out hs)
        clear hn1 hn2 hs
        go_wp2
        go_roundw
        case rel => exact ⟨(by first | rfl | trivial), k + 1, s, by omega, by omega, by go_num, by first | rfl | (rw [hmn]), hN.out.1, hN.out.2⟩
        case measure => simp [intOf]; omega
    · obtain rfl : k = t.length := by omega
      go_wp2
      go_ret
      exact ⟨⟨x, rfl, hx.out, hm.out⟩, rfl⟩
set_option maxRecDepth 100000 in
set_option maxHeartbeats 1000000 in
theorem leanCheck_any (rs : RuleL) (t : List Int) (al at' : Option Addr) (cl ct : Nat) (w : World) (hR : RulesAt w.heap.size w al rs) (hT : Ints w.heap.size w at' t) :
    Calls Try.prog 69 #[.slice al rs.length cl, .slice at' t.length ct] w fun e w' => e = .returned (.int .i64 (Tm.leanErr rs t)) ∧ Below w.heap.size w w' := by
  have C1 := hid (rulesCheck_any rs al cl w hR)
  have C2 := hid (fun W (hW : Below w.heap.size w W) => check_any t at' ct W ((hT.below hW).mono hW.size))
  have HT := hid hT
  have hE : Hid (Tm.leanErr rs t = if Tm.rulesErr rs = 0 then (if Tm.err t = 0 then (if t.any foreignB = true then 3 else 0) else Tm.err t) else Tm.rulesErr rs) := rfl
  clear hR hT
  by_cases h1 : Tm.rulesErr rs = 0
  · rw [if_pos h1] at hE
    rw [h1] at C1
    by_cases h2 : Tm.err t = 0
    · rw [if_pos h2] at hE
      rw [h2] at C2
      have C3 := hid (fun W (hW : Below w.heap.size w W) => (min_any t at' ct W ((HT.out.below hW).mono hW.size) (Tm.err_pos h2) (Tm.err_len h2)).mono (R' := fun e w' => (∃ x : Int, e = .returned (.int .i64 x) ∧ (x < -4 ↔ t.any foreignB = true)) ∧ w' = W) (fun e w' ⟨⟨x, h1, ⟨j, hj, ej⟩, hm⟩, h2⟩ => ⟨⟨x, h1, by
        rw [List.any_eq_true]
        constructor
        · intro hx
          rw [List.getElem?_eq_getElem hj] at ej
          exact ⟨t[j], List.getElem_mem hj, by simp only [foreignB, decide_eq_true_eq]; rw [show t[j] = x from ej]; exact hx⟩
        · rintro ⟨s, hs, hf⟩
          obtain ⟨i, hi, rfl⟩ := List.getElem_of_mem hs
          have := hm i hi
          rw [List.getElem?_eq_getElem hi] at this
          simp only [Option.getD_some] at this
          simp only [foreignB, decide_eq_true_eq] at hf
          omega⟩, h2⟩))
      rw [hE.out]
      clear h1 h2 hE HT
      by_cases hany : t.any foreignB = true
      · rw [if_pos hany]
        simp only [hany, iff_true] at C3
        clear hany
        go_enter Try.func69, Try.ntmps69
        go_wp2_with fail
        refine C1.out.mono ?_
        rintro e w1 ⟨rfl, b1⟩
        clear C1
        go_wp2_with fail
        refine (C2.out w1 b1).mono ?_
        rintro e w2 ⟨rfl, b2⟩
        have B2 := b1.trans (b2.mono b1.size)
        clear C2
        go_wp2_with fail
        refine (C3.out w2 B2).mono ?_
        rintro e w2 ⟨⟨x, rfl, hx⟩, rfl⟩
        go_wp2
        go_ret
        exact ⟨rfl, B2⟩
      · rw [if_neg hany]
        simp only [hany] at C3
        clear hany
        go_enter Try.func69, Try.ntmps69
        go_wp2_with fail
        refine C1.out.mono ?_
        rintro e w1 ⟨rfl, b1⟩
        clear C1
        go_wp2_with fail
        refine (C2.out w1 b1).mono ?_
        rintro e w2 ⟨rfl, b2⟩
        have B2 := b1.trans (b2.mono b1.size)
        clear C2
        go_wp2_with fail
        refine (C3.out w2 B2).mono ?_
        rintro e w2 ⟨⟨x, rfl, hx⟩, rfl⟩
        have hx' : decide (x < -4) = false := by simpa using hx
        clear hx
        go_wp2
        go_ret
        exact ⟨rfl, B2⟩
    · rw [if_neg h2] at hE
      have hne : (Tm.err t != 0) = true := by simpa using h2
      rw [hE.out]
      clear h1 h2 hE HT
      generalize Tm.err t = q at *
      go_enter Try.func69, Try.ntmps69
      go_wp2_with fail
      refine C1.out.mono ?_
      rintro e w1 ⟨rfl, b1⟩
      clear C1
      go_wp2_with fail
      refine (C2.out w1 b1).mono ?_
      rintro e w2 ⟨rfl, b2⟩
      clear C2
      go_wp2
      go_ret
      exact ⟨rfl, b1.trans (b2.mono b1.size)⟩
  · rw [if_neg h1] at hE
    have hne : (Tm.rulesErr rs != 0) = true := by simpa using h1
    rw [hE.out]
    clear h1 hE HT C2
    generalize Tm.rulesErr rs = q at *
    go_enter Try.func69, Try.ntmps69
    go_wp2_with fail
    refine C1.out.mono ?_
    rintro e w1 ⟨rfl, b1⟩
    clear C1
    go_wp2
    go_ret
    exact ⟨rfl, b1⟩
end Go.Proofs.Ytgeknojpcjadkaa
namespace Go.Proofs.Ytgeknojpcjadkaa
open Go.Proofs Go.RowKit Go.Shelf Go.Maps Go.Sort
def cmpI (x y : Int) : Int := if x < y then -1 else if y < x then 1 else 0
def orI (p q : Int) : Int := if p = 0 then q else p
theorem isNaN_any (x : Int) (w : World) : Calls Try.prog 103 #[.int .i64 x] w fun e w' => e = .returned (.bool false) ∧ w' = w := by
  have hx : (x != x) = false := by simp
  go_enter Try.func103, Try.ntmps103
  go_wp2
  go_ret
  exact ⟨rfl, rfl⟩
set_option maxRecDepth 100000 in
theorem compare_any (x y : Int) (w : World) : Calls Try.prog 74 #[.int .i64 x, .int .i64 y] w fun e w' => e = .returned (.int .i64 (cmpI x y)) ∧ w' = w := by
  have hE : Hid (cmpI x y = if x < y then -1 else if y < x then 1 else 0) := rfl
  by_cases h1 : x < y
  · rw [if_pos h1] at hE
    rw [hE.out]
    go_enter Try.func74, Try.ntmps74
    go_wp2_with (go_at_call 103; refine (isNaN_any _ _).mono ?_; rintro e w ⟨rfl, rfl⟩)
    go_ret
    exact ⟨rfl, rfl⟩
  · rw [if_neg h1] at hE
    by_cases h2 : y < x
    · rw [if_pos h2] at hE
      rw [hE.out]
      go_enter Try.func74, Try.ntmps74
      go_wp2_with (go_at_call 103; refine (isNaN_any _ _).mono ?_; rintro e w ⟨rfl, rfl⟩)
      go_ret
      exact ⟨rfl, rfl⟩
    · rw [if_neg h2] at hE
      rw [hE.out]
      go_enter Try.func74, Try.ntmps74
      go_wp2_with (go_at_call 103; refine (isNaN_any _ _).mono ?_; rintro e w ⟨rfl, rfl⟩)
      go_ret
      exact ⟨rfl, rfl⟩
set_option maxRecDepth 100000 in
theorem or_any (p q : Int) (B : Nat) (w : World) (h0 : w.cell? ⟨B, 0, none⟩ = some (.int .i64 p)) (h1 : w.cell? ⟨B, 1, none⟩ = some (.int .i64 q)) : Calls Try.prog 73 #[.slice (some ⟨B, 0, none⟩) 2 2] w fun e w' => e = .returned (.int .i64 (orI p q)) ∧ w' = w := by
  have hE : Hid (orI p q = if p = 0 then q else p) := rfl
  by_cases hp : p = 0
  · rw [if_pos hp] at hE
    subst hp
    rw [hE.out]
    by_cases hq : q = 0
    · subst hq
      go_enter Try.func73, Try.ntmps73
      go_wp2
      go_loopw [8] (fun v wr => wr = w ∧ ∃ k : Nat, k ≤ 2 ∧ v = .int .i64 (k : Int)) (fun v _ => 2 - (intOf v).toNat)
      case atStart => exact ⟨rfl, 0, by omega, rfl⟩
      case round =>
        obtain ⟨rfl, k, hk, rfl⟩ := hrel
        match k, hk with
        | 0, _ =>
          go_wp2
          go_roundw
          case rel => exact ⟨(by first | rfl | trivial), 1, by omega, by go_num⟩
          case measure => simp [intOf]
        | 1, _ =>
          go_wp2
          go_roundw
          case rel => exact ⟨(by first | rfl | trivial), 2, by omega, by go_num⟩
          case measure => simp [intOf]
        | 2, _ =>
          go_wp2
          go_ret
          exact ⟨rfl, rfl⟩
    · have hq' : (q != 0) = true := by simpa using hq
      clear hq
      go_enter Try.func73, Try.ntmps73
      go_wp2
      go_loopw [8] (fun v wr => wr = w ∧ ∃ k : Nat, k ≤ 1 ∧ v = .int .i64 (k : Int)) (fun v _ => 2 - (intOf v).toNat)
      case atStart => exact ⟨rfl, 0, by omega, rfl⟩
      case round =>
        obtain ⟨rfl, k, hk, rfl⟩ := hrel
        match k, hk with
        | 0, _ =>
          go_wp2
          go_roundw
          case rel => exact ⟨(by first | rfl | trivial), 1, by omega, by go_num⟩
          case measure => simp [intOf]
        | 1, _ =>
          go_wp2
          go_ret
          exact ⟨rfl, rfl⟩
  · rw [if_neg hp] at hE
    rw [hE.out]
    have hp' : (p != 0) = true := by simpa using hp
    clear hp
    go_enter Try.func73, Try.ntmps73
    go_wp2
    go_loopw [8] (fun v wr => wr = w ∧ v = .int .i64 0) (fun v _ => 2 - (intOf v).toNat)
    case atStart => exact ⟨rfl, rfl⟩
    case round =>
      obtain ⟨rfl, rfl⟩ := hrel
      go_wp2
      go_ret
      exact ⟨rfl, rfl⟩
def cfL (x y : LnD) : Int := orI (cmpI (x.1.2.1 : Int) (y.1.2.1 : Int)) (cmpI (x.1.1 : Int) (y.1.1 : Int))
theorem ltL (x y : LnD) : ltOf cfL x y = true ↔ LnLt x.1 y.1 := by
  unfold ltOf cfL orI cmpI LnLt
  by_cases h1 : (x.1.2.1 : Int) < (y.1.2.1 : Int)
  · rw [if_pos h1]; simp; omega
  · rw [if_neg h1]
    by_cases h2 : (y.1.2.1 : Int) < (x.1.2.1 : Int)
    · rw [if_pos h2]; simp; omega
    · rw [if_neg h2, if_pos rfl]
      by_cases h3 : (x.1.1 : Int) < (y.1.1 : Int)
      · rw [if_pos h3]; simp; omega
      · rw [if_neg h3]
        by_cases h4 : (y.1.1 : Int) < (x.1.1 : Int)
        · rw [if_pos h4]; simp; omega
        · rw [if_neg h4]; simp; omega
theorem ltL_not (x y : LnD) : ltOf cfL x y = false ↔ ¬ LnLt x.1 y.1 := by rw [← ltL, Bool.not_eq_true]
theorem swoL : SWO (ltOf cfL) where
  irrefl x := by rw [ltL_not]; unfold LnLt; omega
  trans x y z h1 h2 := by rw [ltL] at *; unfold LnLt at *; omega
  ntrans x y z h1 h2 := by rw [ltL_not] at *; unfold LnLt at *; omega
set_option maxRecDepth 100000 in
set_option maxHeartbeats 2000000 in
theorem order_any (x y : LnD) (W : World) : Calls Try.prog 72 #[.agg (encL x).toArray, .agg (encL y).toArray] W fun e w' => e = .returned (.int .i64 (cfL x y)) ∧ ∃ q os', w' = grow (W.drewN q) os' := by
  obtain ⟨⟨r, p, S, T⟩, ⟨aS, cS⟩, ⟨aT, cT⟩⟩ := x
  obtain ⟨⟨r2, p2, S2, T2⟩, ⟨aS2, cS2⟩, ⟨aT2, cT2⟩⟩ := y
  have hcf : Hid (cfL ((r, p, S, T), (aS, cS), (aT, cT)) ((r2, p2, S2, T2), (aS2, cS2), (aT2, cT2)) = orI (cmpI (p : Int) (p2 : Int)) (cmpI (r : Int) (r2 : Int))) := rfl
  rw [hcf.out]
  simp only [encL]
  generalize S.length = n1
  generalize T.length = n2
  generalize S2.length = n3
  generalize T2.length = n4
  generalize (r : Int) = ri
  generalize (r2 : Int) = rj
  generalize (p : Int) = pi
  generalize (p2 : Int) = pj
  obtain ⟨W2, hW2⟩ : ∃ W2, (W.alloc (.cells #[.int .i64 ri, .int .i64 pi, .slice aS n1 cS, .slice aT n2 cT] 77)).alloc (.cells #[.int .i64 rj, .int .i64 pj, .slice aS2 n3 cS2, .slice aT2 n4 cT2] 77) = W2 := ⟨_, rfl⟩
  have blk0 : W2.heap[W.heap.size]? = some (.cells #[.int .i64 ri, .int .i64 pi, .slice aS n1 cS, .slice aT n2 cT] 77) := by
    rw [← hW2, Below.heap_alloc _ _ _ (by simp)]
    exact World.alloc_heap_new _ _
  have blk1 : W2.heap[W.heap.size + 1]? = some (.cells #[.int .i64 rj, .int .i64 pj, .slice aS2 n3 cS2, .slice aT2 n4 cT2] 77) := by
    rw [← hW2]
    have h := World.alloc_heap_new (W.alloc (.cells #[.int .i64 ri, .int .i64 pi, .slice aS n1 cS, .slice aT n2 cT] 77)) (.cells #[.int .i64 rj, .int .i64 pj, .slice aS2 n3 cS2, .slice aT2 n4 cT2] 77)
    rwa [World.size_alloc] at h
  have k00 : W2.cell? ⟨W.heap.size, 0, none⟩ = some (.int .i64 ri) := (cell_at blk0 0).trans rfl
  have k01 : W2.cell? ⟨W.heap.size, 1, none⟩ = some (.int .i64 pi) := (cell_at blk0 1).trans rfl
  have k10 : W2.cell? ⟨W.heap.size + 1, 0, none⟩ = some (.int .i64 rj) := (cell_at blk1 0).trans rfl
  have k11 : W2.cell? ⟨W.heap.size + 1, 1, none⟩ = some (.int .i64 pj) := (cell_at blk1 1).trans rfl
  have hO := hid (fun (a b : Int) => or_any a b W2.heap.size ((W2.alloc (.cells #[.int .i64 a, .int .i64 b] 3)).drew) ((cell_at (World.alloc_heap_new W2 (.cells #[.int .i64 a, .int .i64 b] 3)) 0).trans rfl) ((cell_at (World.alloc_heap_new W2 (.cells #[.int .i64 a, .int .i64 b] 3)) 1).trans rfl))
  have hK : Hid (∀ a b : Int, (W2.alloc (.cells #[.int .i64 a, .int .i64 b] 3)).cell? ⟨W.heap.size, 0, none⟩ = some (.int .i64 ri) ∧ (W2.alloc (.cells #[.int .i64 a, .int .i64 b] 3)).cell? ⟨W.heap.size, 1, none⟩ = some (.int .i64 pi) ∧ (W2.alloc (.cells #[.int .i64 a, .int .i64 b] 3)).cell? ⟨W.heap.size + 1, 0, none⟩ = some (.int .i64 rj) ∧ (W2.alloc (.cells #[.int .i64 a, .int .i64 b] 3)).cell? ⟨W.heap.size + 1, 1, none⟩ = some (.int .i64 pj)) := fun a b => by
    have hB := (Below.refl W2.heap.size W2).alloc (Nat.le_refl _) (.cells #[.int .i64 a, .int .i64 b] 3)
    have h0 := (Array.getElem?_eq_some_iff.1 blk0).1
    have h1 := (Array.getElem?_eq_some_iff.1 blk1).1
    exact ⟨(hB.cell (p := ⟨W.heap.size, 0, none⟩) h0).trans k00, (hB.cell (p := ⟨W.heap.size, 1, none⟩) h0).trans k01, (hB.cell (p := ⟨W.heap.size + 1, 0, none⟩) h1).trans k10, (hB.cell (p := ⟨W.heap.size + 1, 1, none⟩) h1).trans k11⟩
  have HW2 := hid hW2
  clear hW2 blk0 blk1 hcf
  go_enter Try.func72, Try.ntmps72
  go_wp2_with fail
  rw [HW2.out]
  go_region_held3 (fun w' => w'.cell? ⟨W.heap.size, 0, none⟩ = some (.int .i64 ri) ∧ w'.cell? ⟨W.heap.size, 1, none⟩ = some (.int .i64 pi) ∧ w'.cell? ⟨W.heap.size + 1, 0, none⟩ = some (.int .i64 rj) ∧ w'.cell? ⟨W.heap.size + 1, 1, none⟩ = some (.int .i64 pj)) (first | exact ⟨k00, k01, k10, k11⟩ | exact hK.out _ _)
    (first
      | (go_at_call 74; refine (compare_any _ _ _).mono ?_; rintro e w' ⟨rfl, rfl⟩)
      | (go_at_call 73; refine (hO.out _ _).mono ?_; rintro e w' ⟨rfl, rfl⟩))
  all_goals (
    go_wp2
    go_ret
    exact ⟨rfl, 1, #[.cells #[.int .i64 ri, .int .i64 pi, .slice aS n1 cS, .slice aT n2 cT] 77, .cells #[.int .i64 rj, .int .i64 pj, .slice aS2 n3 cS2, .slice aT2 n4 cT2] 77, .cells #[.int .i64 (cmpI pi pj), .int .i64 (cmpI ri rj)] 3], by rw [← HW2.out]; rfl⟩)
end Go.Proofs.Ytgeknojpcjadkaa
namespace Go.Proofs.Ytgeknojpcjadkaa
open Go.Proofs Go.RowKit Go.Shelf Go.Maps Go.Sort Go.Lib
set_option maxHeartbeats 2000000 in
theorem insertion_none (p : Option Addr) (cap : Nat) (fv : Value) (w : World) :
    Calls Try.prog 125 #[.slice p 0 cap, .int .i64 0, .int .i64 0, fv] w fun e w' => e = .returned (.tuple #[]) ∧ w' = w := by
  go_enter Try.func125, Try.ntmps125
  go_wp2
  refine wp_loop_rounds 1 ?_
  rw [rounds_succ]
  go_wp2
  go_end0
  exact ⟨rfl, rfl⟩
set_option maxHeartbeats 2000000 in
theorem pdq_none (p : Option Addr) (cap : Nat) (lim : Int) (fv : Value) (w : World) :
    Calls Try.prog 101 #[.slice p 0 cap, .int .i64 0, .int .i64 0, .int .i64 lim, fv] w fun e w' => e = .returned (.tuple #[]) ∧ w' = w := by
  go_enter Try.func101, Try.ntmps101
  go_wp2
  refine wp_loop_rounds 1 ?_
  rw [rounds_succ]
  go_wp2_with (go_at_call 125; refine (insertion_none _ _ _ _).mono ?_; rintro e w' ⟨rfl, rfl⟩)
  (try simp only [Exit.inBlock, Exit.then]); refine bodyPost_ret (results_none rfl _ _ _) rfl ?_
  exact ⟨rfl, rfl⟩
theorem bits_zero (W : World) : Calls Try.prog 102 #[.int .u64 0] W fun e w' => e = .returned (.int .i64 (Lib.bitLen 0 : Nat)) ∧ w' = W := by
  have L := Try.sortLean
  exact Any.bits_Len (SlLaysF0.n15.bits (P := Try.prog) (ρ := Try.sortLean_ren) { L with }) 0 W (by omega) (by omega)
set_option maxHeartbeats 2000000 in
theorem sort_none (p : Option Addr) (cap : Nat) (fv : Value) (w : World) :
    Calls Try.prog 71 #[.slice p 0 cap, fv] w fun e w' => e = .returned (.tuple #[]) ∧ w' = w := by
  go_enter Try.func71, Try.ntmps71
  go_wp2_with (first | (go_at_call 102; refine (bits_zero _).mono ?_; rintro e w' ⟨rfl, rfl⟩) | (go_at_call 101; refine (pdq_none _ _ _ _ _).mono ?_; rintro e w' ⟨rfl, rfl⟩))
  go_end0
  exact ⟨rfl, rfl⟩
theorem flat_get (ds : List LnD) (j : Nat) (hj : j < (flatK encL 4 ds.toArray).size) : (ds.flatMap encL)[j]? = some (flatK encL 4 ds.toArray)[j]! := by
  have hl : j < ds.length * 4 := by simpa using hj
  rw [get_flatK _ _ _ _ (by simpa using hl)]
  have h1 : j / 4 < ds.length := by omega
  have h2 := encL_get ds (j / 4) h1 (j % 4) (Nat.mod_lt _ (by omega))
  rw [show j / 4 * 4 + j % 4 = j by omega] at h2
  have h3 : (encL ds[j / 4])[j % 4]? = some ((encL ds[j / 4])[j % 4]!) := by
    have : j % 4 < (encL ds[j / 4]).length := by show _ < 4; omega
    rw [List.getElem?_eq_getElem this, getElem!_pos (encL ds[j / 4]) (j % 4) this]
  rw [h2, h3, getElem!_pos ds.toArray (j / 4) (by simpa using h1)]
  rfl
theorem mapBlock_other (w : World) (blk : Nat) (f : Array Value → Array Value) (q : Nat) (h : q ≠ blk) : (mapBlock w blk f).heap[q]? = w.heap[q]? := by
  unfold mapBlock
  simp only [Array.getElem?_modify]
  rw [if_neg (Ne.symm h)]
theorem mapBlock_same (w : World) (blk : Nat) (f : Array Value → Array Value) {cs : Array Value} {e : TypeId} {p : Nat × Nat} (h : w.heap[blk]? = some (.cells cs e p)) : (mapBlock w blk f).heap[blk]? = some (.cells (f cs) e p) := by
  unfold mapBlock
  simp only [Array.getElem?_modify, if_true, h]
  rfl
theorem grow_heap (w : World) (os : Array Obj) {q : Nat} (h : q < w.heap.size) : (grow w os).heap[q]? = w.heap[q]? := by
  show (w.heap ++ os)[q]? = _
  rw [Array.getElem?_append_left h]
set_option maxHeartbeats 1000000 in
theorem sort_any (base : Nat) (v : Value) (l : LeanL) (w : World) (hN : NewL base w v l) (hap : l.Pairwise LnNe) (hlen : l.length ≤ 1000) (hbase : base ≤ w.heap.size) :
    Calls Try.prog 71 #[v, .func (.func 72) #[] #[]] w fun e w' => e = .returned (.tuple #[]) ∧ ∃ l', NewL base w' v l' ∧ l'.length = l.length ∧ l'.Pairwise LnLt ∧ (∀ x, x ∈ l' ↔ x ∈ l) ∧ Below base w w' := by
  have hN0 := hN
  obtain ⟨ds, hds, h1, h2⟩ := hN
  have hl : ds.length = l.length := by rw [← hds, List.length_map]
  have h1' := h1
  rcases h1.2 with ⟨rfl, hn⟩ | ⟨g, cap, cur, rfl, hb, hg, q1, q2, q3, q4⟩
  · have hl0 : l = [] := List.eq_nil_of_length_eq_zero (by omega)
    subst hl0
    refine (sort_none none 0 (.func (.func 72) #[] #[]) w).mono ?_
    rintro e w' ⟨rfl, rfl⟩
    exact ⟨rfl, [], hN0, rfl, List.Pairwise.nil, fun x => Iff.rfl, Below.refl _ _⟩
  · have hgl : g < w.heap.size := (Array.getElem?_eq_some_iff.1 hg).1
    have eg : ∀ args w, (callFunc 72 args).run Try.prog w = .ok (.enter 72 args) w := enters_of Try.func72 (by kernel_rfl) rfl
    have hH : HoldsK encL 4 w g 0 ds.toArray := fun j hj => by
      have hc := World.ownsRow.cellAt h1' j (by simpa using hj)
      rw [flat_get ds j hj] at hc
      refine ⟨by rw [Nat.zero_add]; exact hc, ?_⟩
      simp only [World.frozen?]
      rw [hg]
      simp
    have hcon := AnyQ.slices_SortFunc Try.sortLean 4 (fun _ => by kernel_rfl) (fun _ => by kernel_rfl) encL (fun _ => rfl) encL_one cfL swoL 72 #[] g 0 cap ds.toArray w eg (fun m os dk _ x y => order_any x y _) hH hgl (by simp; omega)
    change Calls Try.prog 71 _ _ _ at hcon
    rw [List.size_toArray] at hcon
    refine hcon.mono ?_
    rintro e w' ⟨rfl, d', n, os, hp, hs, rfl⟩
    obtain ⟨es, rfl⟩ : ∃ es : List LnD, d' = es.toArray := ⟨d'.toList, by simp⟩
    obtain ⟨p1, _, p3⟩ := hp
    have hsz : es.length = ds.length := by simpa using p1
    have hperm : es.Perm ds := by
      have e1 : (es.toArray.extract 0 ds.length).toList = es := by rw [← hsz]; simp
      have e2 : (ds.toArray.extract 0 ds.length).toList = ds := by simp
      rw [e1, e2] at p3
      exact p3
    have hpl : (es.map Prod.fst).Perm l := by rw [← hds]; exact hperm.map _
    have hap' : (es.map Prod.fst).Pairwise LnNe := (hpl.pairwise_iff (fun {x y} h => h.imp Ne.symm Ne.symm)).2 hap
    obtain ⟨F, hF⟩ : ∃ F, F = flatK encL 4 es.toArray := ⟨_, rfl⟩
    have hFs : F.size = es.length * 4 := by rw [hF]; simp
    have hheap : ∀ q, q < w.heap.size → q ≠ g → (sortWorldK encL 4 w g 0 n es.toArray os).heap[q]? = w.heap[q]? := fun q hq hne => by
      show (grow (mapBlock (Sort.ahead w n) g (putCells id 0 _)) os).heap[q]? = _
      rw [grow_heap _ _ (by simpa [mapBlock] using hq), mapBlock_other _ _ _ _ hne]
      rfl
    have hblk : (sortWorldK encL 4 w g 0 n es.toArray os).heap[g]? = some (.cells (putCells id 0 F cur) 77 (0, 0)) := by
      show (grow (mapBlock (Sort.ahead w n) g (putCells id 0 _)) os).heap[g]? = _
      rw [grow_heap _ _ (by simpa [mapBlock] using hgl), hF]
      exact mapBlock_same _ _ _ hg
    have hBel : Below base w (sortWorldK encL 4 w g 0 n es.toArray os) := ⟨rfl, rfl, rfl, by
      show w.heap.size ≤ (grow (mapBlock (Sort.ahead w n) g (putCells id 0 _)) os).heap.size
      simp [grow, mapBlock], fun k hk => hheap k (by omega) (by omega)⟩
    have hgt : ∀ (b : Nat) (cs : Array Value) (t : TypeId) (p : Nat × Nat), w.heap[b]? = some (.cells cs t p) → t = 3 ∨ termT t → (sortWorldK encL 4 w g 0 n es.toArray os).heap[b]? = w.heap[b]? := fun b cs t p hbb ht => hheap b (Array.getElem?_eq_some_iff.1 hbb).1 fun e => by
      rw [e, hg] at hbb
      simp only [Option.some.injEq, Obj.cells.injEq] at hbb
      rcases ht with ht | ht
      · exact absurd (hbb.2.1.trans ht) (by decide)
      · exact absurd (hbb.2.1.symm ▸ ht) (by unfold termT; decide)
    refine ⟨rfl, es.map Prod.fst, ⟨es, rfl, ⟨by rw [encL_len], .inr ⟨g, cap, putCells id 0 F cur, by rw [hsz], hb, hblk, by omega, q2, by simp [putCells, q3], ?_⟩⟩, fun d hd => (h2 d (hperm.mem_iff.1 hd)).keep hgt⟩, by rw [List.length_map]; omega, ?_, fun x => hpl.mem_iff, hBel⟩
    · refine List.ext_getElem? fun j => ?_
      by_cases hj : j < es.length * 4
      · have h3 := flat_get es j (by rw [← hF, hFs]; exact hj)
        rw [h3, List.getElem?_take_of_lt hj, Array.getElem?_toList, ← hF]
        unfold putCells
        have hjc : j < cur.size := by omega
        rw [Array.getElem?_mapIdx, Array.getElem?_eq_getElem hjc]
        simp only [Option.map_some]
        rw [if_pos ⟨Nat.zero_le _, by omega⟩]
        rfl
      · rw [List.getElem?_eq_none (by rw [List.length_take]; omega), List.getElem?_eq_none (by rw [encL_len]; omega)]
    · rw [List.pairwise_iff_getElem] at hap' ⊢
      intro i j hi hj hij
      have h3 := hap' i j hi hj hij
      rw [List.length_map] at hi hj
      have h4 := hs i j (Nat.zero_le _) hij (by omega)
      rw [getElem!_pos es.toArray j (by simpa using hj), getElem!_pos es.toArray i (by simpa using hi), ltL_not] at h4
      simp only [List.getElem_toArray] at h4
      simp only [List.getElem_map] at h3 ⊢
      unfold LnLt at h4 ⊢
      unfold LnNe at h3
      omega
end Go.Proofs.Ytgeknojpcjadkaa
namespace Go.Proofs.Ytgeknojpcjadkaa
open Go.Proofs Go.RowKit Go.Shelf Go.Maps
theorem Tm.LnAll.ok {rs : RuleL} {t : List Int} {l l' : LeanL} (h : Tm.LnAll rs t rs.length l) (hs : l'.Pairwise LnLt) (hm : ∀ x, x ∈ l' ↔ x ∈ l) : Tm.LeanOk rs t l' := by
  refine ⟨fun k hk i hi => ?_, hs, fun x => (hm x).trans (h.mem x)⟩
  obtain ⟨f, h1, _⟩ := h
  exact (h1 k hk).all i hi
set_option maxRecDepth 100000 in
set_option maxHeartbeats 4000000 in
theorem leanAll_any (rs : RuleL) (t : List Int) (al at' : Option Addr) (cl ct : Nat) (w : World) (hR : RulesAt w.heap.size w al rs) (hT : Ints w.heap.size w at' t) (h1 : t.length ≤ ct) (h2 : ct ≤ maxLen) :
    Calls Try.prog 31 #[.slice al rs.length cl, .slice at' t.length ct] w fun e w' => ∃ er l v, Tm.LeanSays rs t er l ∧ e = .returned (.tuple #[v, .int .i64 er]) ∧ NewL w.heap.size w' v l ∧ Below w.heap.size w w' := by
  have hC := hid (leanCheck_any rs t al at' cl ct w hR hT)
  by_cases he : Tm.leanErr rs t = 0
  · obtain ⟨e1, e2, e3⟩ := Tm.leanErr_zero he
    have hS : Hid (∀ er l, ((er = 0 ∧ Tm.LeanOk rs t l) ∨ (Tm.LeanBad rs t er ∧ l = [])) → Tm.LeanSays rs t er l) := fun er l h => .inr ⟨he, h⟩
    rw [he] at hC
    obtain ⟨h8, hall⟩ := Tm.rulesErr_ok e1
    have h8' : (rs.length : Int) ≤ 8 := by omega
    have HR := hid hR
    have HT := hid hT
    have Hall := hid hall
    have l30 := Tm.err_len e2
    clear he hR hT hall e1 e3
    go_enter Try.func31, Try.ntmps31
    go_wp2_with fail
    refine hC.out.mono ?_
    rintro e w1 ⟨rfl, b1⟩
    clear hC
    go_wp2
    go_loopw [7, 20] (fun ov v wr => ∃ (k : Nat) (l : LeanL), k ≤ rs.length ∧ v = .int .i64 (k : Int) ∧ Hid (Tm.LnAll rs t k l) ∧ Hid (NewL w1.heap.size wr ov l) ∧ Below w1.heap.size w1 wr) (fun _ v _ => rs.length - (intOf v).toNat)
    case atStart => exact ⟨0, [], Nat.zero_le _, rfl, Tm.LnAll.zero _ _, NewL.nil _ _, Below.refl _ _⟩
    case round =>
      obtain ⟨k, l, hk, rfl, hA, hN, hB⟩ := hrel
      obtain ⟨va, vc, rfl⟩ := hN.out.slice
      have BW := b1.trans (hB.mono b1.size)
      have hlen := hA.out.len
      by_cases hlt : k < rs.length
      · have hlt' : (k : Int) < (rs.length : Int) := by omega
        obtain ⟨b, off, rfl, hb, aL, cL, aR, cR, g1, g2, g3, g4, g5, g6, g7, g8⟩ := (HR.out.below BW) k hlt
        obtain ⟨eL, eR, fL, fR, _⟩ := Tm.ruleErr_ok (Hall.out k hlt)
        have hnx := hid (fun l' hs => hA.out.next (l' := l') hs)
        have hbd : Hid (∀ e i, i < t.length → Tm.LnBad t (Tm.others (rs[k]?.getD ([], [])).1) (Tm.others (rs[k]?.getD ([], [])).2) i e → Tm.LeanBad rs t e) := fun e i hi h => ⟨k, i, hlt, hi, h⟩
        clear hA
        generalize (rs[k]?.getD ([], [])).1 = P at *
        generalize (rs[k]?.getD ([], [])).2 = Q at *
        have lP := Tm.err_len eL
        have lQ := Tm.err_len eR
        obtain ⟨W3, hW3⟩ : ∃ W3, wr.alloc (.cells #[.slice aL P.length cL, .slice aR Q.length cR] 39) = W3 := ⟨_, rfl⟩
        have hBa : Below wr.heap.size wr W3 := by rw [← hW3]; exact (Below.refl _ _).alloc (Nat.le_refl _) _
        have bx : Box2 W3 wr.heap.size 39 (.slice aL P.length cL) (.slice aR Q.length cR) := by rw [← hW3]; exact Box2.new wr _ _ _
        have d0 := bx.cell0
        have d1 := bx.cell1
        have HW3 := hid hW3
        have BW3 := BW.trans (hBa.mono BW.size)
        have hsz0 := BW.size
        have hAp := hid (apart_any P Q aL aR cL cR W3 (((g3.mono hsz0).below hBa).mono hBa.size) (((g4.mono hsz0).below hBa).mono hBa.size) (by omega) (by omega) (fun i hi => by have := Tm.known8 eL i hi; omega) (fun i hi => by have := Tm.known8 eR i hi; omega))
        have N3 := hid (hN.out.below hBa)
        clear hW3 bx g3 g4 hN
        go_wp2_with fail
        rw [HW3.out]
        go_wp2_with fail
        refine hAp.out.mono ?_
        rintro e w4 ⟨v4, u4, rfl, n4, m4, b4⟩
        obtain ⟨x4, k4, rfl, i4, p4, p4'⟩ := New.ints n4
        obtain ⟨x5, k5, rfl, i5, p5, p5'⟩ := New.ints m4
        have BW4 := BW3.trans (b4.mono BW3.size)
        have N4 := hid (N3.out.below b4)
        have hLn := hid (leans_any k t (Tm.others P) (Tm.others Q) at' x4 x5 ct k4 k5 w4 e2 ((HT.out.below BW4).mono BW4.size) i4 i5 h1 h2 p4 p4')
        have B4 := hB.trans ((hBa.trans (b4.mono hBa.size)).mono hB.size)
        clear hAp n4 m4 i4 i5 N3 d0 d1
        go_wp2_with fail
        refine hLn.out.mono ?_
        rintro e w6 ⟨er, l6, v6, hs6, rfl, n6, b6⟩
        obtain ⟨a6, c6, rfl⟩ := n6.slice
        have N6 := hid (N4.out.below b6)
        have M6 := hid n6
        have B6 := B4.trans (b6.mono B4.size)
        have BW6 := BW4.trans (b6.mono BW4.size)
        clear hLn n6 N4
        rcases hs6 with ⟨rfl, hs6⟩ | ⟨⟨i, hi, hs6⟩, rfl⟩
        · have hNx := hid (hnx.out l6 hs6)
          have hl6 := hs6.len
          have hll : l.length + l6.length ≤ 1000 := by
            have : k * t.length ≤ 8 * 30 := Nat.mul_le_mul (by omega) l30
            omega
          clear hs6 hnx hbd hlen
          go_wp2_with (at_builtin; go_loud (refine wp_apps_l _ rfl _ _ rfl w1.heap.size _ l rfl N6.out _ l6 rfl w4.heap.size M6.out (by omega) B6.size ?_); intro v8 w8 hN8 hB8; obtain ⟨a8, c8, rfl⟩ := hN8.slice)
          go_roundw
          case rel => exact ⟨k + 1, l ++ l6, by omega, by go_num, hNx, (by rw [List.length_append] at hN8; exact hN8), B6.trans hB8⟩
          case measure => simp [intOf]; omega
        · have hne : (er != 0) = true := by simpa using hs6.1
          have Hs := hid (hS.out er [] (.inr ⟨hbd.out er i hi hs6, rfl⟩))
          clear hs6 hnx hbd hS
          go_wp2
          go_ret2
          exact ⟨er, [], _, Hs.out, rfl, NewL.nil _ _, BW6⟩
      · obtain rfl : k = rs.length := by omega
        have hl1 : l.length ≤ 1000 := by
          have : rs.length * t.length ≤ 8 * 30 := Nat.mul_le_mul h8 l30
          omega
        have hSo := hid (sort_any w1.heap.size _ l wr hN.out hA.out.apart hl1 hB.size)
        have hok := hid (fun l' h1 h2 => hS.out 0 l' (.inl ⟨rfl, hA.out.ok h1 h2⟩))
        clear hA hN hS hlen hlt
        go_wp2_with fail
        refine hSo.out.mono ?_
        rintro e w9 ⟨rfl, l9, n9, hl9, s9, m9, b9⟩
        have Hs := hid (hok.out l9 s9 m9)
        have N9 := hid n9
        clear hSo hok n9 s9 m9
        go_wp2
        go_ret2
        exact ⟨0, l9, _, Hs.out, rfl, N9.out.mono b1.size, b1.trans ((hB.trans b9).mono b1.size)⟩
  · have Hs : Hid (Tm.LeanSays rs t (Tm.leanErr rs t) []) := .inl ⟨he, rfl, rfl⟩
    have hne : (Tm.leanErr rs t != 0) = true := by simpa using he
    clear he hR hT
    generalize Tm.leanErr rs t = q at *
    go_enter Try.func31, Try.ntmps31
    go_wp2_with fail
    refine hC.out.mono ?_
    rintro e w1 ⟨rfl, b1⟩
    clear hC
    go_wp2
    go_ret2
    exact ⟨q, [], _, Hs.out, rfl, NewL.nil _ _, b1⟩
theorem Wb.split {x y r s : List Int} (hx : Tm.run x 1 = x.length) (hy : Tm.run y 1 = y.length) (h : x ++ r = y ++ s) : x = y ∧ r = s := by
  have h1 := Tm.run_app x r 1 (by omega)
  have h2 := Tm.run_app y s 1 (by omega)
  rw [h, h2, hx, hy] at h1
  exact List.append_inj h h1.symm
theorem Wb.App1 (θ : Wb.Sb) {v : Int} (h : v < 0) : Wb.App θ [v] = θ v := by rw [Wb.App_cons, if_pos h, Wb.App_nil, List.append_nil]
def NewP (base : Nat) (W : World) (v : Value) (ps : PairL) : Prop :=
  ∃ us : List Value, W.ownsRow base 42 2 v ps.length us ∧ ∀ j, j < ps.length → ∃ u u', us[j * 2]? = some u ∧ us[j * 2 + 1]? = some u' ∧ New base W u (ps[j]?.getD ([], [])).1 ∧ New base W u' (ps[j]?.getD ([], [])).2
theorem NewP.nil (base : Nat) (W : World) : NewP base W (.slice none 0 0) [] := ⟨[], World.ownsRow_nil _ _ _ _, fun j hj => by simp at hj⟩
theorem NewP.below {base : Nat} {W W' : World} {v : Value} {ps : PairL} (h : NewP base W v ps) (hB : Below W.heap.size W W') : NewP base W' v ps := by
  obtain ⟨us, h1, h2⟩ := h
  refine ⟨us, World.ownsRow.kept h1 (grown_of_below hB) (by cases h : v.ownBlock with | none => exact .inl rfl | some k => exact .inr (by simp)), fun j hj => ?_⟩
  obtain ⟨u, u', a, b, c, d⟩ := h2 j hj
  exact ⟨u, u', a, b, New.below c hB, New.below d hB⟩
theorem NewP.grown {base : Nat} {W W' : World} {v : Value} {ps : PairL} {row : Option Nat} (h : NewP base W v ps) (hg : W.grownBy W' row) (hr : ∀ k, row = some k → ∀ cs p, W.heap[k]? ≠ some (.cells cs 42 p) ∧ W.heap[k]? ≠ some (.cells cs 3 p)) : NewP base W' v ps := by
  obtain ⟨us, h1, h2⟩ := h
  refine ⟨us, h1.kept hg (row_apart h1 fun k e cs p => (hr k e cs p).1), fun j hj => ?_⟩
  obtain ⟨u, u', a, b, c, d⟩ := h2 j hj
  exact ⟨u, u', a, b, World.ownsRow.kept c hg (row_apart c fun k e cs p => (hr k e cs p).2), World.ownsRow.kept d hg (row_apart d fun k e cs p => (hr k e cs p).2)⟩
theorem NewP.set {base : Nat} {W : World} {v : Value} {ps : PairL} (h : NewP base W v ps) {B : Nat} {t : TypeId} {x : Value} (hb : Boxed W B t x) (h1 : t ≠ 42) (h2 : t ≠ 3) (y : Value) : NewP base (W.setCell ⟨B, 0, none⟩ y) v ps :=
  h.grown (grownBy_setCell' W B y) fun k e cs p => by
    cases e
    exact ⟨boxed_ne hb h1 cs p, boxed_ne hb h2 cs p⟩
theorem NewP.other {base : Nat} {W W' : World} {v : Value} {ps : PairL} {row : Option Nat} (h : NewP base W v ps) (hg : W.grownBy W' row) (hr : ∀ r, row = some r → ∃ o : Obj, W.heap[r]? = some o ∧ o.isCells = false) : NewP base W' v ps :=
  h.grown hg fun k e cs p => by
    obtain ⟨o, ho, hc⟩ := hr k e
    rw [ho]
    refine ⟨?_, ?_⟩ <;> (intro h'; simp only [Option.some.injEq] at h'; subst h'; simp [Obj.isCells] at hc)
theorem NewP.mono {base base' : Nat} {W : World} {v : Value} {ps : PairL} (h : NewP base W v ps) (hb : base' ≤ base) : NewP base' W v ps := by
  obtain ⟨us, h1, h2⟩ := h
  refine ⟨us, ⟨h1.1, h1.2.elim .inl (fun ⟨g, cap, cur, e1, e2, e3⟩ => .inr ⟨g, cap, cur, e1, Nat.le_trans hb e2, e3⟩)⟩, fun j hj => ?_⟩
  obtain ⟨u, u', a, b, c, d⟩ := h2 j hj
  exact ⟨u, u', a, b, c.mono hb, d.mono hb⟩
theorem NewP.block {base : Nat} {W : World} {v : Value} {ps : PairL} (h : NewP base W v ps) {k : Nat} (hk : v.ownBlock = some k) : base ≤ k ∧ ∃ cs p, W.heap[k]? = some (.cells cs 42 p) := by
  obtain ⟨us, h1, _⟩ := h
  rcases h1.2 with ⟨rfl, _⟩ | ⟨g, cap, cur, rfl, hb, hgb, _⟩
  · cases hk
  · obtain rfl : g = k := by simpa [Value.ownBlock] using hk
    exact ⟨hb, _, _, hgb⟩
theorem NewP.slice {base : Nat} {W : World} {v : Value} {ps : PairL} (h : NewP base W v ps) : ∃ a cap, v = .slice a ps.length cap := by
  obtain ⟨us, h1, _⟩ := h
  rcases h1.2 with ⟨rfl, h0⟩ | ⟨g, cap, cur, rfl, _⟩
  · exact ⟨none, 0, by rw [h0]⟩
  · exact ⟨_, _, rfl⟩
theorem NewP.at {base : Nat} {W : World} {v : Value} {ps : PairL} (h : NewP base W v ps) : ∃ a cap, v = .slice a ps.length cap ∧ RulesAt W.heap.size W a ps ∧ ps.length ≤ cap ∧ cap ≤ maxLen := by
  obtain ⟨us, h1, h2⟩ := h
  have hl : us.length = ps.length * 2 := h1.1
  rcases h1.2 with ⟨rfl, hn⟩ | ⟨g, cap, cur, rfl, hb, hgb, q1, q2, _⟩
  · refine ⟨none, 0, by rw [hn], fun k hk => by omega, by omega, by omega⟩
  · refine ⟨_, cap, rfl, fun j hj => ?_, q1, q2⟩
    obtain ⟨u, u', p1, p2, n1, n2⟩ := h2 j hj
    obtain ⟨a1, c1, rfl, i1, m1, m1'⟩ := New.ints n1
    obtain ⟨a2, c2, rfl, i2, m2, m2'⟩ := New.ints n2
    have cc := fun k hk => World.ownsRow.cellAt h1 k hk
    exact ⟨g, 0, rfl, (Array.getElem?_eq_some_iff.1 hgb).1, a1, c1, a2, c2, by rw [Nat.zero_add, cc _ (by omega), p1], by rw [Nat.zero_add, cc _ (by omega), p2], i1, i2, m1, m1', m2, m2'⟩
def Tm.passB (L : List Int) (i j : Int) (m : Nat) : Bool := decide (L[m]?.getD 0 < 0) || (decide (m = 0) && decide (i = j))
structure PInv (w2 : World) (B : Nat) (tv : Value) (l : PairL) (W : World) : Prop where
  out : ∃ v, Boxed W B 30 v ∧ NewP B W v l
  bP : Boxed W (B + 1) 37 tv
  kp : Below B w2 W
theorem PInv.own {w2 X Y : World} {B D : Nat} {tv : Value} {l : PairL} {row : Option Nat} (hB : B ≤ w2.heap.size) (hD : B ≤ D) (h : PInv w2 B tv l X) (hg : X.grownBy Y row) (hr : ∀ r, row = some r → D ≤ r ∧ ∃ o : Obj, X.heap[r]? = some o ∧ o.isCells = false) : PInv w2 B tv l Y := by
  obtain ⟨⟨v, hv, hN⟩, bP, kp⟩ := h
  exact ⟨⟨v, cells_own hv hg hr, hN.other hg (fun r e => (hr r e).2)⟩, cells_own bP hg hr, ⟨hg.os.trans kp.os, hg.tape.trans kp.tape, hg.output.trans kp.output, Nat.le_trans kp.size hg.size, fun k hk => (hg.block k (by have := kp.size; omega) (fun e => by have := (hr k e.symm).1; omega)).trans (kp.block k hk)⟩⟩
theorem PInv.below {w2 W W' : World} {B : Nat} {tv : Value} {l : PairL} (hB : B ≤ w2.heap.size) (h : PInv w2 B tv l W) (hb : Below W.heap.size W W') : PInv w2 B tv l W' := by
  obtain ⟨⟨v, hv, hN⟩, bP, kp⟩ := h
  exact ⟨⟨v, (hb.block _ hv.lt).trans hv, hN.below hb⟩, (hb.block _ bP.lt).trans bP, kp.trans (hb.mono (Nat.le_trans hB kp.size))⟩
inductive Tm.Laps (L1 R1 L2 R2 : List Int) (pass : Nat → Bool) : Nat → PairL → Prop
  | zero : Tm.Laps L1 R1 L2 R2 pass 0 []
  | pass {m : Nat} {l : PairL} : Tm.Laps L1 R1 L2 R2 pass m l → pass m = true → Tm.Laps L1 R1 L2 R2 pass (m + 1) l
  | no {m : Nat} {l : PairL} {val : List (List Int)} : Tm.Laps L1 R1 L2 R2 pass m l → pass m = false → Tm.MeetSays [(Tm.part L1 m, L2)] 0 false val → Tm.Laps L1 R1 L2 R2 pass (m + 1) l
  | yes {m : Nat} {l : PairL} {val : List (List Int)} : Tm.Laps L1 R1 L2 R2 pass m l → pass m = false → Tm.MeetSays [(Tm.part L1 m, L2)] 0 true val → Tm.prtErr val L1 R1 (m : Int) R2 = 0 → Tm.Laps L1 R1 L2 R2 pass (m + 1) (l ++ [Tm.prtVal val L1 R1 (m : Int) R2])
theorem Tm.Laps.len {L1 R1 L2 R2 : List Int} {pass : Nat → Bool} {m : Nat} {l : PairL} (h : Tm.Laps L1 R1 L2 R2 pass m l) : l.length ≤ m := by
  induction h with
  | zero => exact Nat.le_refl _
  | pass _ _ ih => omega
  | no _ _ _ ih => omega
  | yes _ _ _ _ ih => rw [List.length_append]; simp; omega
def Tm.LapsErr (L1 R1 L2 R2 : List Int) (pass : Nat → Bool) (e : Int) : Prop := e ≠ 0 ∧ ∃ m l, m < L1.length ∧ Tm.Laps L1 R1 L2 R2 pass m l ∧ pass m = false ∧ ((∃ is val, Tm.MeetSays [(Tm.part L1 m, L2)] e is val) ∨ (∃ val, Tm.MeetSays [(Tm.part L1 m, L2)] 0 true val ∧ Tm.prtErr val L1 R1 (m : Int) R2 = e))
def Tm.LapsSays (L1 R1 L2 R2 : List Int) (pass : Nat → Bool) (e : Int) (ps : PairL) : Prop := (e = 0 ∧ Tm.Laps L1 R1 L2 R2 pass L1.length ps) ∨ (Tm.LapsErr L1 R1 L2 R2 pass e ∧ ps = [])
end Go.Proofs.Ytgeknojpcjadkaa
namespace Go.Proofs.Ytgeknojpcjadkaa
open Go.Proofs Go.RowKit Go.Shelf Go.Maps
attribute [local go_sem] Oper.semAt_some
attribute [local go_sem ↓] Go.wp_at_zero Go.wp_at_succ
end Go.Proofs.Ytgeknojpcjadkaa
namespace Go.Proofs.Ytgeknojpcjadkaa
open Go.Proofs Go.RowKit Go.Shelf Go.Maps
def Tm.OfSays (rs : RuleL) (i j er : Int) (ps : PairL) : Prop :=
  (Tm.rulesErr rs ≠ 0 ∧ er = Tm.rulesErr rs ∧ ps = []) ∨
  (Tm.rulesErr rs = 0 ∧ ¬ (0 ≤ i ∧ i < (rs.length : Int) ∧ 0 ≤ j ∧ j < (rs.length : Int)) ∧ er = 5 ∧ ps = []) ∨
  (Tm.rulesErr rs = 0 ∧ ∃ a b : Nat, a < rs.length ∧ b < rs.length ∧ i = (a : Int) ∧ j = (b : Int) ∧ Tm.LapsSays (rs[a]?.getD ([], [])).1 (rs[a]?.getD ([], [])).2 (Tm.others (rs[b]?.getD ([], [])).1) (Tm.others (rs[b]?.getD ([], [])).2) (Tm.passB (rs[a]?.getD ([], [])).1 i j) er ps)
inductive Tm.AllTo (rs : RuleL) : Nat → Nat → PairL → Prop
  | zero : Tm.AllTo rs 0 0 []
  | next {i j : Nat} {l ps : PairL} : Tm.AllTo rs i j l → j < rs.length → Tm.OfSays rs (i : Int) (j : Int) 0 ps → Tm.AllTo rs i (j + 1) (l ++ ps)
  | row {i : Nat} {l : PairL} : Tm.AllTo rs i rs.length l → Tm.AllTo rs (i + 1) 0 l
theorem Tm.OfSays.len {rs : RuleL} {i j : Nat} {ps : PairL} (h : Tm.OfSays rs (i : Int) (j : Int) 0 ps) : rs.length ≤ 8 ∧ ps.length ≤ 30 := by
  rcases h with ⟨h1, h2, _⟩ | ⟨_, _, h2, _⟩ | ⟨h1, a, b, ha, hb, _, _, h3⟩
  · exact absurd h2.symm h1
  · omega
  · obtain ⟨h8, hall⟩ := Tm.rulesErr_ok h1
    obtain ⟨eL, _⟩ := Tm.ruleErr_ok (hall a ha)
    have := Tm.err_len eL
    refine ⟨h8, ?_⟩
    rcases h3 with ⟨_, h4⟩ | ⟨h4, _⟩
    · have := h4.len
      omega
    · exact absurd rfl h4.1
theorem Tm.AllTo.len {rs : RuleL} {i j : Nat} {l : PairL} (h : Tm.AllTo rs i j l) : j ≤ rs.length ∧ l.length ≤ 30 * (i * rs.length + j) := by
  induction h with
  | zero => simp
  | next h1 h2 h3 ih =>
    have := h3.len.2
    rw [List.length_append]
    refine ⟨h2, ?_⟩
    have := ih.2
    rw [Nat.mul_add] at this ⊢
    omega
  | row h1 ih =>
    refine ⟨Nat.zero_le _, ?_⟩
    have := ih.2
    rw [Nat.add_zero, Nat.add_mul, Nat.one_mul]
    exact this
end Go.Proofs.Ytgeknojpcjadkaa
