/-
  haspref.PlaceError, haspref.grown, haspref.endOf.
-/
import Derived.Test.YtbelnlemjcoifaaSame
namespace Go.Proofs.Ytbelnlemjcoifaa
open Go.Proofs Go.RowKit Go.Shelf

/-- Check's error, and the place's. -/
def Tm.placeErr (zs : List Int) (k : Int) : Int := if Tm.err zs = 0 then (if insideB k 0 ((zs.length : Int) - 1) = true then 0 else 3) else Tm.err zs
theorem Tm.err_len {zs : List Int} (h : Tm.err zs = 0) : zs.length ≤ 30 := by
  by_cases h30 : 30 < zs.length
  · rw [Tm.err_many h30] at h; omega
  · omega
theorem Tm.err_all {zs : List Int} (h : Tm.err zs = 0) : zs.all Tm.known = true := by
  have hl := Tm.err_len h
  unfold Tm.err at h
  rw [if_neg (by omega)] at h
  by_cases ha : zs.all Tm.known = false
  · rw [if_pos ha] at h; omega
  · simpa using ha
theorem Tm.err_run {zs : List Int} (h : Tm.err zs = 0) : Tm.run zs 1 = zs.length := by
  have hl := Tm.err_len h
  have ha := Tm.err_all h
  unfold Tm.err at h
  rw [if_neg (by omega), if_neg (by simp [ha])] at h
  by_cases hr : Tm.run zs 1 = zs.length
  · exact hr
  · rw [if_neg hr] at h; omega

set_option maxHeartbeats 400000 in
theorem placeError_any (zs : List Int) (a : Option Addr) (cap : Nat) (k : Int) (w : World) (hI : Ints w.heap.size w a zs) :
    Calls Try.prog 46 #[.slice a zs.length cap, .int .i64 k] w fun e w' => e = .returned (.int .i64 (Tm.placeErr zs k)) ∧ w' = w := by
  have hT := termError_any zs a cap w hI
  clear hI
  by_cases he : Tm.err zs = 0
  · have h30 : (zs.length : Int) ≤ 30 := by have := Tm.err_len he; omega
    rw [he] at hT
    by_cases hp : insideB k 0 ((zs.length : Int) - 1) = true
    · have hpe : Tm.placeErr zs k = 0 := by simp [Tm.placeErr, he, hp]
      rw [hpe]
      clear hpe he
      go_enter Try.func46, Try.ntmps46
      go_wp2_with (first
        | (go_at_call 20; refine hT.mono ?_; clear hT; rintro e w ⟨rfl, rfl⟩)
        | (go_at_call 51; refine (within_any _ _ _ _).mono ?_; rw [hp]; rintro e w ⟨rfl, rfl⟩))
      go_ret
      exact ⟨rfl, rfl⟩
    · have hp' : insideB k 0 ((zs.length : Int) - 1) = false := by simpa using hp
      have hpe : Tm.placeErr zs k = 3 := by simp [Tm.placeErr, he, hp']
      rw [hpe]
      clear hpe he hp
      go_enter Try.func46, Try.ntmps46
      go_wp2_with (first
        | (go_at_call 20; refine hT.mono ?_; clear hT; rintro e w ⟨rfl, rfl⟩)
        | (go_at_call 51; refine (within_any _ _ _ _).mono ?_; rw [hp']; rintro e w ⟨rfl, rfl⟩))
      go_ret
      exact ⟨rfl, rfl⟩
  · have hpe : Tm.placeErr zs k = Tm.err zs := by simp [Tm.placeErr, he]
    rw [hpe]
    have hne : (Tm.err zs != 0) = true := by simp [he]
    clear hpe he
    generalize Tm.err zs = q at *
    go_enter Try.func46, Try.ntmps46
    go_wp2_with (go_at_call 20; refine hT.mono ?_; clear hT; rintro e w ⟨rfl, rfl⟩)
    go_ret
    exact ⟨rfl, rfl⟩

theorem Try.info80 : (Try.prog.info? 80).map (fun i => (i.zero, i.size, i.bytes)) = some (some (.pointer none), 1, 8) := by kernel_rfl

/-- BLOCK X IS A NODE: its sign; the slice of its parts. -/
def Node (W : World) (X : Nat) (s : Int) (v : Value) : Prop := W.heap[X]? = some (.cells #[.int .i64 s, v] 99 (0, 0))
theorem Node.cell0 {W : World} {X : Nat} {s : Int} {v : Value} (h : Node W X s v) : W.cell? ⟨X, 0, none⟩ = some (.int .i64 s) := by simp [World.cell?, show W.heap[X]? = _ from h]
theorem Node.cell1 {W : World} {X : Nat} {s : Int} {v : Value} (h : Node W X s v) : W.cell? ⟨X, 1, none⟩ = some v := by simp [World.cell?, show W.heap[X]? = _ from h]
theorem Node.frozen {W : World} {X : Nat} {s : Int} {v : Value} (h : Node W X s v) : W.frozen? ⟨X, 1, none⟩ = false := by simp [World.frozen?, show W.heap[X]? = _ from h]
theorem Node.lt {W : World} {X : Nat} {s : Int} {v : Value} (h : Node W X s v) : X < W.heap.size := (Array.getElem?_eq_some_iff.1 h).1
theorem Node.kept {W W' : World} {row : Option Nat} {X : Nat} {s : Int} {v : Value} (h : Node W X s v) (hg : W.grownBy W' row) (hne : some X ≠ row) : Node W' X s v := (hg.block X h.lt hne).trans h
theorem Node.set {W : World} {X : Nat} {s : Int} {v : Value} (v' : Value) (h : Node W X s v) : Node (W.setCell ⟨X, 1, none⟩ v') X s v' := by
  obtain ⟨hlt, hk⟩ := Array.getElem?_eq_some_iff.1 h
  show (W.heap.modify X _)[X]? = _
  rw [Array.getElem?_eq_getElem (by rw [Array.size_modify]; exact hlt), Array.getElem_modify_self, hk]
  rfl
theorem grownBy_setCell1 (W : World) (b o : Nat) (v : Value) : W.grownBy (W.setCell ⟨b, o, none⟩ v) (some b) :=
  ⟨rfl, rfl, rfl, (KeepsWalks.setCell W _ v).size, fun k _ hk => Below.heap_setCell _ _ _ k (fun e => hk (by rw [e]))⟩

theorem Node.appended {W w2 : World} {X : Nat} {s : Int} {v v' : Value} {e : TypeId} {n m : Nat} {xs ys : List Value} {tmp : Obj}
    (hN : Node W X s v) (hrow : W.ownsRow (X + 1) e 1 v n xs) (hown : w2.ownsRow (X + 1) e 1 v' m ys) (hgrow : (W.alloc tmp).grownBy w2 v.ownBlock) :
    Node w2 X s v ∧ Node (w2.setCell ⟨X, 1, none⟩ v') X s v' ∧ (w2.setCell ⟨X, 1, none⟩ v').ownsRow (X + 1) e 1 v' m ys ∧ Below X W (w2.setCell ⟨X, 1, none⟩ v') := by
  have h1 : ∀ k, v.ownBlock = some k → X + 1 ≤ k := fun k h => (hrow.lt k h).1
  have h2 : ∀ k, v'.ownBlock = some k → X + 1 ≤ k := fun k h => (hown.lt k h).1
  have hN2 : Node w2 X s v := (hN.kept (World.grownBy_alloc W tmp none) (by simp)).kept hgrow (fun e => by have := h1 X e.symm; omega)
  refine ⟨hN2, hN2.set v', hown.kept (grownBy_setCell1 w2 X 1 v') (.inr fun e => by have := h2 X e; omega), ?_⟩
  have hX := hN.lt
  exact (((Below.refl X W).alloc (by omega) tmp).grown hgrow (by simp; omega) (fun k e => by have := h1 k e; omega)).setCell (p := ⟨X, 1, none⟩) (Nat.le_refl _) v'

theorem own_form {W : World} {base : Nat} {e : TypeId} {v : Value} {n : Nat} {xs : List Value} (h : W.ownsRow base e 1 v n xs) : ∃ ao c, v = .slice ao n c := by
  rcases h.2 with ⟨rfl, rfl⟩ | ⟨g, cap, _, rfl, _⟩
  · exact ⟨_, _, rfl⟩
  · exact ⟨_, _, rfl⟩

theorem Tm.pos_mono (t : List Int) (k i j : Nat) (h : i ≤ j) : Tm.pos t k i ≤ Tm.pos t k j := by
  induction j with
  | zero => have : i = 0 := by omega
            subst this; omega
  | succ j ih =>
    by_cases e : i = j + 1
    · subst e; omega
    · have := ih (by omega); rw [Tm.pos_succ]; have := Tm.endAt_gt t (Tm.pos t k j); omega

/-- The slice at a, of zs, moved on by e: in Go's way its address stays where nothing is left of its capacity. -/
theorem Ints.drop {n : Nat} {W : World} {b off : Nat} {zs : List Int} (h : Ints n W (some ⟨b, off, none⟩) zs) (e : Nat) : Ints n W (some ⟨b, off + e, none⟩) (zs.drop e) := fun j hj => by
  rw [List.length_drop] at hj
  obtain ⟨b', off', he, hb, hc⟩ := h (e + j) (by omega)
  cases he
  refine ⟨b, off + e, rfl, hb, ?_⟩
  rw [show off + e + j = off + (e + j) from by omega, hc]
  simp
theorem Ints.nil (n : Nat) (W : World) (a : Option Addr) : Ints n W a [] := fun j hj => by simp at hj

set_option maxRecDepth 100000 in
set_option maxHeartbeats 1000000 in
theorem grown_step (zs : List Int) (a : Option Addr) (cap : Nat) (w : World) (hlen : zs.length ≤ 30) (h0 : 0 < zs.length) (hall : zs.all Tm.known = true) (hrun : Tm.run zs 1 ≤ zs.length) (hcap : zs.length ≤ cap) (hcap2 : cap ≤ maxLen)
    (hI : Ints w.heap.size w a zs)
    (ih : ∀ (e : Nat) (a' : Option Addr) (cap' : Nat) (W : World), 0 < e → e < zs.length → Tm.run (zs.drop e) 1 ≤ zs.length - e → zs.length - e ≤ cap' → cap' ≤ maxLen → Ints W.heap.size W a' (zs.drop e) →
      Calls Try.prog 69 #[.slice a' (zs.length - e) cap'] W fun r w' => ∃ p a2 c2, r = .returned (.tuple #[.pointer p, .slice a2 (zs.length - Tm.endAt zs e) c2]) ∧ Below W.heap.size W w' ∧ (∀ n X, Ints n X a' (zs.drop e) → Ints n X a2 (zs.drop (Tm.endAt zs e))) ∧ zs.length - Tm.endAt zs e ≤ c2 ∧ c2 ≤ maxLen) :
    Calls Try.prog 69 #[.slice a zs.length cap] w fun r w' => ∃ p a2 c2, r = .returned (.tuple #[.pointer p, .slice a2 (zs.length - Tm.run zs 1) c2]) ∧ Below w.heap.size w w' ∧ (∀ n X, Ints n X a zs → Ints n X a2 (zs.drop (Tm.run zs 1))) ∧ zs.length - Tm.run zs 1 ≤ c2 ∧ c2 ≤ maxLen := by
  have hcap3 : cap ≤ 9223372036854775807 := hcap2
  obtain ⟨b, off, rfl, hb, hc⟩ := hI.at h0
  have hc0 := hc 0 h0
  rw [Nat.add_zero] at hc0
  have h1 : (0 : Int) < (zs.length : Int) := by omega
  have h30 : (zs.length : Int) ≤ 30 := by omega
  have h2 : (zs.length : Int) ≤ (cap : Int) := by omega
  have hend := Tm.endAt_in zs 0 h0
  rw [Tm.endAt_zero] at hend
  rw [hend] at hrun ⊢
  have hs6 := Tm.known_lt (Tm.all_at hall h0)
  have hr2 := Tm.room_le (zs[0]?.getD 0)
  have hI' := show Hid _ from hI
  have ih' := show Hid _ from ih
  clear hc hI hend hall ih
  generalize zs[0]?.getD 0 = s at *
  have hsz : ∀ W, Calls Try.prog 52 #[.int .i64 s] W fun e w' => e = .returned (.int .i64 (Tm.room s : Int)) ∧ w' = W := fun W => size_any s W hs6
  clear hs6
  generalize Tm.room s = r at *
  obtain ⟨i0, hi, hz0, hz1, hz2⟩ := info_parts Try.info80
  have hNode : Node (w.alloc (.cells #[.int .i64 s, .slice none 0 0] 99)) w.heap.size s (.slice none 0 0) := World.alloc_heap_new w _
  have hB0 : Below w.heap.size w (w.alloc (.cells #[.int .i64 s, .slice none 0 0] 99)) := (Below.refl _ w).alloc (Nat.le_refl _) _
  obtain ⟨W0, hW0⟩ : ∃ W0, w.alloc (.cells #[.int .i64 s, .slice none 0 0] 99) = W0 := ⟨_, rfl⟩
  rw [hW0] at hNode hB0
  have HW0 : Hid (w.alloc (.cells #[.int .i64 s, .slice none 0 0] 99) = W0) := hW0
  clear hW0
  by_cases hc1 : cap = 1
  · subst hc1
    have hl1 : zs.length = 1 := by omega
    have hr0 : r = 0 := by have := Tm.pos_mono zs 0 1 r; have h := Tm.pos_succ zs 0 0; rw [Nat.zero_add] at h; have := Tm.endAt_gt zs (Tm.pos zs 0 0); have := Tm.pos_zero zs 0; omega
    subst hr0
    rw [Tm.pos_zero]
    go_enter Try.func69, Try.ntmps69
    go_wp2
    rw [HW0.out]
    have hn0 := hNode.cell0
    have HN := show Hid _ from hNode
    clear hNode hl1
    refine wp_loop_rounds 1 ?_
    rw [rounds_succ]
    go_wp2_with (go_at_call 52; refine (hsz _).mono ?_; rintro e wr ⟨rfl, rfl⟩)
    go_ret2
    refine ⟨some ⟨w.heap.size, 0, none⟩, some ⟨b, off, none⟩, 0, ?_, hB0, fun n X hX => by rw [List.drop_of_length_le (by omega)]; exact Ints.nil _ _ _, by omega, by unfold maxLen; omega⟩
    rw [show zs.length - (0 + 1) = 0 from by omega]; rfl
  · have Hc1 : Hid (¬ cap = 1) := hc1
    go_enter Try.func69, Try.ntmps69
    go_wp2
    rw [HW0.out]
    go_loopw [5, 6] (fun q i wr => ∃ (m : Nat) (a' : Option Addr) (c' : Nat) (v : Value) (xs : List Value), m ≤ r ∧ i = .int .i64 (m : Int) ∧ q = .slice a' (zs.length - Tm.pos zs 0 m) c' ∧ Hid (∀ n X, Ints n X (some ⟨b, off, none⟩) zs → Ints n X a' (zs.drop (Tm.pos zs 0 m))) ∧ zs.length - Tm.pos zs 0 m ≤ c' ∧ c' ≤ maxLen ∧
        Node wr w.heap.size s v ∧ wr.ownsRow (w.heap.size + 1) 80 1 v m xs ∧ Below w.heap.size w wr) (fun _ i _ => r - (intOf i).toNat)
    case atStart => exact ⟨0, _, _, _, [], Nat.zero_le _, rfl, by rw [Tm.pos_zero], fun n X hX => by rw [Tm.pos_zero]; exact hX.drop 1, by rw [Tm.pos_zero]; omega, by unfold maxLen; omega, hNode, World.ownsRow_nil _ _ _ _, hB0⟩
    case round =>
      obtain ⟨m, a', c', v, xs, hm, rfl, rfl, hIa, hca, hca2, hN, hown, hB⟩ := hrel
      have hn0 := hN.cell0
      by_cases hlt : m < r
      · have hlt' : (m : Int) < (r : Int) := by omega
        have hp1 := Tm.pos_gt zs 0 m
        have hp2 := Tm.pos_succ zs 0 m
        have hp3 := Tm.pos_mono zs 0 (m + 1) r (by omega)
        have hp4 := Tm.endAt_gt zs (Tm.pos zs 0 m)
        have hg := ih'.out (Tm.pos zs 0 m) a' c' wr hp1 (by omega) (by unfold Tm.endAt at hp2; omega) hca hca2 ((hIa.out _ _ (Ints.below hB hI'.out)).mono hB.size)
        rw [← hp2] at hg
        have hX := hN.lt
        have hca3 : c' ≤ 9223372036854775807 := hca2
        have Hp3 := show Hid _ from hp3
        clear hp1 hp2 hp3 hp4 hca2 hNode hB0 hcap2
        go_wp2_with (first
          | (go_at_call 52; refine (hsz _).mono ?_; rintro e wr ⟨rfl, rfl⟩)
          | (go_at_call 69; refine hg.mono ?_; clear hg; rintro e W1 ⟨p, a2, c2, rfl, hB1, hI2, hc2, hc22⟩; have hN1 := hN.kept (grown_of_below hB1) (by simp); have hown1 := hown.kept (grown_of_below hB1) (by cases h : v.ownBlock with | none => exact .inl rfl | some k => exact .inr (by simp)); obtain ⟨ao, co, rfl⟩ := own_form hown1; have hn1 := hN1.cell1; have hf1 := hN1.frozen; have HI2 := show Hid _ from hI2; clear hI2; have Hc22 := show Hid _ from hc22; clear hc22)
          | (at_builtin; go_loud (refine wpList_append_own _ rfl _ _ 97 rfl (w.heap.size + 1) 80 i0 (.pointer none) 1 8 Try.underlying97 hi hz0 hz1 hz2 rfl (by decide) _ _ _ rfl (hown1.alloc _) ⟨W1.heap.size, 0, none⟩ 1 1 [.pointer p] rfl rfl (cell_one_new _ _ _) (by simp [Value.oneCell']) (by unfold maxLen; omega) (by omega) (by have := hB1.size; simp; omega) ?_); intro v' w2 hown' hgrow _; obtain ⟨g', cap', rfl⟩ := ownsRow_succ hown'; have R := hN1.appended hown1 hown' hgrow; have hn2 := R.1.cell1; have hf2 := R.1.frozen; have HR := show Hid _ from R; clear R hown' hgrow))
        exact ⟨⟨m + 1, a2, c2, _, _, by omega, by go_num, rfl, fun n X hX => HI2.out n X (hIa.out n X hX), hc2, Hc22.out, HR.out.2.1, HR.out.2.2.1, (hB.trans (hB1.mono hB.size)).trans HR.out.2.2.2⟩, by simp [intOf]; omega⟩
      · obtain rfl : m = r := by omega
        go_wp2_with (go_at_call 52; refine (hsz _).mono ?_; rintro e wr ⟨rfl, rfl⟩)
        go_ret2
        exact ⟨_, _, _, rfl, hB, hIa, hca, hca2⟩

theorem Tm.endAt_drop (zs : List Int) (e : Nat) : Tm.endAt zs e = e + Tm.run (zs.drop e) 1 := rfl

/-- haspref.grown: of a list that begins with a term: what is behind it. -/
theorem grown_any : ∀ (m : Nat) (zs : List Int) (a : Option Addr) (cap : Nat) (w : World), zs.length ≤ m → zs.length ≤ 30 → 0 < zs.length → zs.all Tm.known = true → Tm.run zs 1 ≤ zs.length → zs.length ≤ cap → cap ≤ maxLen → Ints w.heap.size w a zs →
    Calls Try.prog 69 #[.slice a zs.length cap] w fun r w' => ∃ p a2 c2, r = .returned (.tuple #[.pointer p, .slice a2 (zs.length - Tm.run zs 1) c2]) ∧ Below w.heap.size w w' ∧ (∀ n X, Ints n X a zs → Ints n X a2 (zs.drop (Tm.run zs 1))) ∧ zs.length - Tm.run zs 1 ≤ c2 ∧ c2 ≤ maxLen := by
  intro m
  induction m with
  | zero => intro zs a cap w h1 _ h2; omega
  | succ m ih =>
    intro zs a cap w hm h30 h0 hall hrun hcap hcap2 hI
    refine grown_step zs a cap w h30 h0 hall hrun hcap hcap2 hI ?_
    intro e a' cap' W he1 he2 hr hc hc2 hIe
    have h := ih (zs.drop e) a' cap' W (by rw [List.length_drop]; omega) (by rw [List.length_drop]; omega) (by rw [List.length_drop]; omega)
      (by rw [List.all_eq_true] at hall ⊢; exact fun x hx => hall x (List.mem_of_mem_drop hx)) (by rw [List.length_drop]; exact hr) (by rw [List.length_drop]; exact hc) hc2 hIe
    simp only [List.length_drop, List.drop_drop] at h
    rw [Tm.endAt_drop, show zs.length - (e + Tm.run (zs.drop e) 1) = zs.length - e - Tm.run (zs.drop e) 1 from by omega]
    exact h

end Go.Proofs.Ytbelnlemjcoifaa
