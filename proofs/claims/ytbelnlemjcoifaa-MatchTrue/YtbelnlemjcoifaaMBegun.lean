/-
  hasplaw.matchBegun.
-/
import Derived.Test.YtbelnlemjcoifaaOver3
namespace Go.Proofs.Ytbelnlemjcoifaa
open Go.Proofs Go.RowKit Go.Shelf Go.Maps

theorem Tm.m1 : Tm.fitErr [4, -1, 2, -2] [4, 3, 0, 2, -1] = 0 := by decide +kernel
theorem Tm.m2 : Tm.fitIs [4, -1, 2, -2] [4, 3, 0, 2, -1] = true := by decide +kernel
theorem Tm.m3 : Tm.fitVal [4, -1, 2, -2] [4, 3, 0, 2, -1] = [[3, 0], [-1], [-3], [-4], [-5], [-6], [-7], [-8]] := by decide +kernel
theorem Tm.m4 : Tm.fitErr [4, -1, -1] [4, 0, 1] = 0 := by decide +kernel
theorem Tm.m5 : Tm.fitIs [4, -1, -1] [4, 0, 1] = false := by decide +kernel
theorem Tm.m6 : Tm.fitErr [4, 2, 2, 0, 2, 1] [2, -3] = 0 := by decide +kernel
theorem Tm.m7 : Tm.overVal [4, 2, 2, 0, 2, 1] [2, -3] = [1, 2, 4] := by decide +kernel
theorem Tm.m8 : Tm.fitErr [] [4, -1, 2, 0] = 1 := by decide +kernel
theorem Tm.m9 : Tm.fitIs [] [4, -1, 2, 0] = false := by decide +kernel

theorem cap_ok {n c : Nat} (a : Addr) (h : n ≤ c) (hc : c ≤ 1000) : n ≤ c ∧ c ≤ maxLen ∧ (some a = none → c = 0) := ⟨h, by unfold maxLen; omega, fun e => by cases e⟩
/-- Two literals, one behind the other. -/
theorem lits_two (w : World) (p t : List Int) : Ints (w.heap.size + 2) ((w.alloc (.cells (p.map (Value.int .i64)).toArray 3)).alloc (.cells (t.map (Value.int .i64)).toArray 3)) (some ⟨w.heap.size, 0, none⟩) p ∧
    Ints (w.heap.size + 2) ((w.alloc (.cells (p.map (Value.int .i64)).toArray 3)).alloc (.cells (t.map (Value.int .i64)).toArray 3)) (some ⟨w.heap.size + 1, 0, none⟩) t ∧
    Below w.heap.size w ((w.alloc (.cells (p.map (Value.int .i64)).toArray 3)).alloc (.cells (t.map (Value.int .i64)).toArray 3)) := by
  have h1 := ints_lit w p (w.heap.size + 1) rfl
  have h2 := ints_lit (w.alloc (.cells (p.map (Value.int .i64)).toArray 3)) t (w.heap.size + 2) (by simp)
  simp only [World.size_alloc] at h2
  exact ⟨(h1.below ((Below.refl _ _).alloc (by simp) _)).mono (by omega), h2, ((Below.refl _ w).alloc (Nat.le_refl _) _).alloc (by simp) _⟩
theorem d_fit (p t : List Int) (np nt : Nat) (is : Bool) (er : Int) (val : List (List Int)) (w : World) (hp : np = p.length) (ht : nt = t.length) (hl1 : p.length ≤ 1000) (hl2 : t.length ≤ 1000) (h1 : Tm.fitErr p t = er) (h2 : Tm.fitIs p t = is) (h3 : Tm.fitVal p t = val) :
    Calls Try.prog 36 #[.slice (some ⟨w.heap.size, 0, none⟩) np np, .slice (some ⟨w.heap.size + 1, 0, none⟩) nt nt] ((w.alloc (.cells (p.map (Value.int .i64)).toArray 3)).alloc (.cells (t.map (Value.int .i64)).toArray 3)) fun e w' =>
      ∃ a c, e = .returned (.tuple #[.slice a val.length c, .bool is, .int .i64 er]) ∧ Subs w'.heap.size w' a val ∧ Below w.heap.size w w' := by
  subst hp ht h1 h2 h3
  obtain ⟨i1, i2, hB⟩ := lits_two w p t
  refine (Fit_any p t _ _ _ _ _ (by simpa using i1) (by simpa using i2) (cap_ok _ (Nat.le_refl _) hl1) (cap_ok _ (Nat.le_refl _) hl2)).mono ?_
  rintro e w' ⟨v, rfl, hN, hB'⟩
  obtain ⟨a, c, rfl, hS, _⟩ := NewS.subs hN
  exact ⟨a, c, rfl, hS, hB.trans (hB'.mono hB.size)⟩
theorem d_over (w : World) :
    Calls Try.prog 39 #[.slice (some ⟨w.heap.size, 0, none⟩) 6 6, .slice (some ⟨w.heap.size + 1, 0, none⟩) 2 2] ((w.alloc (.cells #[.int .i64 4, .int .i64 2, .int .i64 2, .int .i64 0, .int .i64 2, .int .i64 1] 3)).alloc (.cells #[.int .i64 2, .int .i64 (-3)] 3)) fun e w' =>
      ∃ a c, e = .returned (.tuple #[.slice a 3 c, .int .i64 0]) ∧ Ints w'.heap.size w' a [1, 2, 4] ∧ Below w.heap.size w w' := by
  obtain ⟨i1, i2, hB⟩ := lits_two w [4, 2, 2, 0, 2, 1] [2, -3]
  refine (over_any [4, 2, 2, 0, 2, 1] [2, -3] _ _ 6 2 _ (by simpa using i1) (by simpa using i2) (cap_ok _ (by simp) (by simp)) (cap_ok _ (by simp) (by simp))).mono ?_
  rw [Tm.m6, Tm.m7]
  rintro e w' ⟨v, rfl, hN, hB'⟩
  obtain ⟨a, c, rfl, hS, _⟩ := New.ints hN
  exact ⟨a, c, rfl, hS, hB.trans (hB'.mono hB.size)⟩
theorem d_fitNil (b : Option Addr) (w : World) (hb : b ≠ none) (hI : Ints w.heap.size w b [4, -1, 2, 0]) :
    Calls Try.prog 36 #[.slice none 0 0, .slice b 4 4] w fun e w' => ∃ a c, e = .returned (.tuple #[.slice a 0 c, .bool false, .int .i64 1]) ∧ Below w.heap.size w w' := by
  refine (Fit_any [] [4, -1, 2, 0] none b 0 4 w (Ints.nil _ _ _) hI ⟨Nat.le_refl _, Nat.zero_le _, fun _ => rfl⟩ ⟨by simp, by unfold maxLen; omega, fun e => absurd e hb⟩).mono ?_
  rw [Tm.m8, Tm.m9, (Tm.fit_bad (p := []) (t := [4, -1, 2, 0]) (by rw [Tm.m8]; decide)).2]
  rintro e w' ⟨v, rfl, hN, hB'⟩
  obtain ⟨a, c, rfl, hS, _⟩ := NewS.subs hN
  exact ⟨a, c, rfl, hB'⟩
theorem d_same (zs : List Int) (n : Nat) (a b : Option Addr) (c d : Nat) (w : World) (hn : n = zs.length) (hm : zs.length ≤ 1000) (hI : Ints w.heap.size w a zs) (hJ : Ints w.heap.size w b zs) : Calls Try.prog 21 #[.slice a n c, .slice b n d] w fun e w' => e = .returned (.bool true) ∧ Below w.heap.size w w' := by
  subst hn
  have h := same_any zs zs a b c d w hI hJ (by unfold maxLen; omega)
  rw [show sameB zs zs = true by simp [sameB]] at h
  exact h
/-- A literal against a list that can be read. -/
theorem d_sameLit (zs : List Int) (n : Nat) (a : Option Addr) (c : Nat) (w : World) (hn : n = zs.length) (hm : zs.length ≤ 1000) (hI : Ints w.heap.size w a zs) :
    Calls Try.prog 21 #[.slice a n c, .slice (some ⟨w.heap.size, 0, none⟩) n n] (w.alloc (.cells (zs.map (Value.int .i64)).toArray 3)) fun e w' => e = .returned (.bool true) ∧ Below w.heap.size w w' := by
  have hA : Below w.heap.size w (w.alloc (.cells (zs.map (Value.int .i64)).toArray 3)) := (Below.refl _ _).alloc (Nat.le_refl _) _
  refine (d_same zs n a _ c n _ hn hm ((hI.below hA).mono hA.size) (ints_lit w zs _ (by simp))).mono ?_
  rintro e w' ⟨rfl, hB⟩
  exact ⟨rfl, hA.trans (hB.mono hA.size)⟩

set_option maxRecDepth 100000 in
set_option maxHeartbeats 2000000 in
theorem matchBegun_any (w : World) : Calls Try.prog 38 #[] w fun e w' => e = .returned (.bool true) ∧ Below w.heap.size w w' := by
  have h1 := d_fit [4, -1, 2, -2] [4, 3, 0, 2, -1] 4 5 _ _ _ w rfl rfl (by simp) (by simp) Tm.m1 Tm.m2 Tm.m3
  have h2 := hid (fun w => d_fit [4, -1, -1] [4, 0, 1] 3 3 _ _ _ w rfl rfl (by simp) (by simp) Tm.m4 Tm.m5 rfl)
  simp only [List.map_cons, List.map_nil, List.length_cons, List.length_nil, Nat.zero_add, Nat.reduceAdd] at h1 h2
  go_enter Try.func38, Try.ntmps38
  go_wp2_with fail
  refine h1.mono ?_
  rintro e w1 ⟨a1, c1, rfl, hS1, hB1⟩
  clear h1
  go_wp2_with fail
  refine (h2.out w1).mono ?_
  rintro e w2 ⟨a2, c2, rfl, _, hB2⟩
  go_wp2_with fail
  refine (d_over w2).mono ?_
  rintro e w3 ⟨a3, c3, rfl, hI3, hB3⟩
  go_wp2_with fail
  refine (fxga_any _).mono ?_
  rintro e w4 ⟨a4, rfl, hI4, hB4⟩
  go_wp2_with fail
  refine (d_fitNil _ _ (hI4.some (by simp)) hI4).mono ?_
  rintro e w5 ⟨a5, c5, rfl, hB5⟩
  have hB25 := hB2.trans ((hB3.trans ((hB4.trans (hB5.mono hB4.size)).mono hB3.size)).mono hB2.size)
  have hB35 := hB4.trans (hB5.mono hB4.size)
  have hB := hB1.trans (hB25.mono hB1.size)
  have hS5 := (hS1.below hB25).mono hB25.size
  have hI5 := (hI3.below hB35).mono hB35.size
  clear hS1 hI3 hI4 hB1 hB2 hB3 hB4 hB5 hB25 hB35 h2
  obtain ⟨b, off, rfl, hb, hc⟩ := hS5.at (by simp)
  obtain ⟨x0, y0, hc0, hi0, _⟩ := hc 0 (by simp)
  obtain ⟨x1, y1, hc1, hi1, _⟩ := hc 1 (by simp)
  obtain ⟨x2, y2, hc2, hi2, _⟩ := hc 2 (by simp)
  obtain ⟨b3, off3, rfl, hb3, hd⟩ := hI5.at (by simp)
  have hd0 := hd 0 (by simp)
  have hd1 := hd 1 (by simp)
  have hd2 := hd 2 (by simp)
  simp only [List.getElem?_cons_zero, List.getElem?_cons_succ, Option.getD_some, List.length_cons, List.length_nil, Nat.zero_add, Nat.reduceAdd, Nat.add_zero] at hc0 hc1 hc2 hi0 hi1 hi2 hd0 hd1 hd2
  have hs0 := hid (fun (W : World) (hW : Below w5.heap.size w5 W) => d_sameLit [3, 0] 2 x0 y0 W rfl (by simp) ((hi0.below hW).mono hW.size))
  have hs1 := hid (fun (W : World) (hW : Below w5.heap.size w5 W) => d_sameLit [-1] 1 x1 y1 W rfl (by simp) ((hi1.below hW).mono hW.size))
  have hs2 := hid (fun (W : World) (hW : Below w5.heap.size w5 W) => d_sameLit [-3] 1 x2 y2 W rfl (by simp) ((hi2.below hW).mono hW.size))
  simp only [List.map_cons, List.map_nil] at hs0 hs1 hs2
  clear hc hd hS5 hI5 hi0 hi1 hi2
  go_wp2_with fail
  refine (hs0.out w5 (Below.refl _ _)).mono ?_
  rintro e w6 ⟨rfl, hB6⟩
  have hc1' := (hB6.cell (p := ⟨b, off + 1, none⟩) hb).trans hc1
  clear hs0 hc0 hc1
  go_wp2_with fail
  refine (hs1.out w6 hB6).mono ?_
  rintro e w7 ⟨rfl, hB7⟩
  have hB57 := hB6.trans (hB7.mono hB6.size)
  have hc2' := (hB57.cell (p := ⟨b, off + 2, none⟩) hb).trans hc2
  clear hs1 hc1' hc2
  go_wp2_with fail
  refine (hs2.out w7 hB57).mono ?_
  rintro e w8 ⟨rfl, hB8⟩
  have hB58 := hB57.trans (hB8.mono hB57.size)
  have he0 := (hB58.cell (p := ⟨b3, off3, none⟩) hb3).trans hd0
  have he1 := (hB58.cell (p := ⟨b3, off3 + 1, none⟩) hb3).trans hd1
  have he2 := (hB58.cell (p := ⟨b3, off3 + 2, none⟩) hb3).trans hd2
  clear hs2 hc2' hd0 hd1 hd2
  go_wp2
  go_ret
  exact ⟨rfl, hB.trans (hB58.mono hB.size)⟩

end Go.Proofs.Ytbelnlemjcoifaa
