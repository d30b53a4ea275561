/-
  haspref.OverOf. · hasplaw.matchBegun. · PLAIN MATHEMATICS of what variables become: first by one list, then by another, is by After of both. · PLAIN MATHEMATICS: what meeting answers; what makes two terms the same, as a list. · Literals. · unify.Meet, unify.All. · hasplaw.unifyBegun. · PLAIN MATHEMATICS: how long what meeting and applying answer is.
-/
import Derived.Test.YtloealnfbpegnabBun10
import Derived.Test.YtloealnfbpegnabBun3
import Derived.Test.YtloealnfbpegnabBun8
import Derived.Test.YtloealnfbpegnabBun2
import Derived.Test.YtloealnfbpegnabBun1
namespace Go.Proofs.Ytloealnfbpegnab
open Go.Proofs Go.RowKit Go.Shelf Go.Maps

set_option maxRecDepth 100000 in
set_option maxHeartbeats 1000000 in
theorem overOf_any (t p : List Int) (at' ap : Option Addr) (ct cp : Nat) (w : World) (hT : Ints w.heap.size w at' t) (hP : Ints w.heap.size w ap p) (h1 : t.length ≤ ct ∧ ct ≤ maxLen) (h2 : p.length ≤ cp ∧ cp ≤ maxLen) :
    Calls Try.prog 14 #[.slice at' t.length ct, .slice ap p.length cp] w fun e w' => ∃ v, e = .returned (.tuple #[v, .int .i64 (Tm.fitErr t p)]) ∧ New w.heap.size w' v (Tm.overVal t p) ∧ Below w.heap.size w w' := by
  have hC := twoErrors_any t p at' ap ct cp w hT hP
  unfold Tm.overVal
  by_cases he : Tm.fitErr t p = 0
  · obtain ⟨ht, hp⟩ := Tm.fitErr_ok he
    have hl30 := Tm.err_len ht
    have hl30' : (t.length : Int) ≤ 30 := by omega
    rw [if_pos he, he]
    rw [he] at hC
    have hpart := hid (fun W (hW : Below w.heap.size w W) k (hk : k < t.length) => partOf_any t at' ct k W ((hT.below hW).mono hW.size) h1.1 h1.2 ht hk)
    have hfit := hid (fun W (hW : Below w.heap.size w W) k (hk : k < t.length) a c (hI : Ints W.heap.size W a (Tm.part t k)) hc => fitted_any p (Tm.part t k) ap a cp c W hp (Tm.part_err ht hk) ((hP.below hW).mono hW.size) hI h2 hc)
    clear hT hP h1 h2 he ht hp
    go_enter Try.func14, Try.ntmps14
    go_wp2_with (first
      | (go_at_call 27; refine hC.mono ?_; clear hC; rintro e w ⟨rfl, rfl⟩))
    go_loopw [7, 8] (fun v i wr => ∃ k : Nat, k ≤ t.length ∧ i = .int .i64 (k : Int) ∧ New w.heap.size wr v (overL t p (placesTo t k)) ∧ Below w.heap.size w wr) (fun _ i _ => t.length - (intOf i).toNat)
    case atStart => exact ⟨0, Nat.zero_le _, rfl, New.nil _ _, Below.refl _ _⟩
    case round =>
      obtain ⟨k, hk, rfl, hN, hB⟩ := hrel
      obtain ⟨a0, c0, rfl, _⟩ := New.ints hN
      by_cases hlt : k < t.length
      · have hlt' : (k : Int) < (t.length : Int) := by omega
        have hp1 := hpart.out wr hB k hlt
        have hov1 := hid (overL_no (p := p) (placesTo t k) ⟨k, hlt⟩)
        have hov2 := hid (fun m => overL_yes (p := p) (m := m) (placesTo t k) ⟨k, hlt⟩)
        have hol := overL_le (p := p) (placesTo t k)
        rw [placesTo_length t k hk] at hol
        have hfk := hid (fun W hW a c hI hc => hfit.out W hW k hlt a c hI hc)
        have hsc := hid (placesTo_succ hlt)
        dsimp only at hov1 hov2
        cases hres : Tm.fit p (Tm.part t k) with
        | none =>
          rw [hres] at hfk
          have hst : Hid (overL t p (placesTo t (k + 1)) = overL t p (placesTo t k)) := by show _ = _; rw [hsc.out]; exact hov1.out hres
          clear hov1 hov2 hres
          go_wp2_with (first
            | (go_at_call 31; refine hp1.mono ?_; clear hp1; rintro e w1 ⟨v1, rfl, hN1, hB1⟩; obtain ⟨a1, c1, rfl, hI1, hc1⟩ := New.ints hN1; have hB2 := hB.trans (hB1.mono hB.size))
            | (go_at_call 28; refine (hfk.out _ hB2 _ _ hI1 hc1).mono ?_; rintro e w2 ⟨v2, rfl, _, hB3⟩; have hB4 := hB2.trans (hB3.mono hB2.size); simp only [Option.isSome_none]))
          go_roundw
          case rel => exact ⟨k + 1, by omega, by go_num, by rw [hst.out]; exact (New.below hN hB1).below hB3, hB4⟩
          case measure => simp [intOf]; omega
        | some m =>
          rw [hres] at hfk
          have hst : Hid (overL t p (placesTo t (k + 1)) = overL t p (placesTo t k) ++ [(k : Int)]) := by show _ = _; rw [hsc.out]; exact hov2.out m hres
          clear hov1 hov2 hres
          go_wp2_with (first
            | (go_at_call 31; refine hp1.mono ?_; clear hp1; rintro e w1 ⟨v1, rfl, hN1, hB1⟩; obtain ⟨a1, c1, rfl, hI1, hc1⟩ := New.ints hN1; have hB2 := hB.trans (hB1.mono hB.size))
            | (go_at_call 28; refine (hfk.out _ hB2 _ _ hI1 hc1).mono ?_; rintro e w2 ⟨v2, rfl, _, hB3⟩; have hB4 := hB2.trans (hB3.mono hB2.size); simp only [Option.isSome_some]; have hN2 := (New.below hN hB1).below hB3)
            | (at_builtin; go_loud (refine wp_append_int1 _ rfl _ _ rfl w.heap.size _ (overL t p (placesTo t k)) rfl (New.alloc hN2 _) w2.heap.size (k : Int) rfl (cell_new _ _ _ _ rfl) (by omega) (by have := hB4.size; simp; omega) ?_); intro v' w3 hN3 hg3 hB5; obtain ⟨a3, c3, rfl, _⟩ := New.ints hN3))
          go_roundw
          case rel => exact ⟨k + 1, by omega, by go_num, by rw [hst.out]; simpa using hN3, (hB4.alloc hB4.size _).trans hB5⟩
          case measure => simp [intOf]; omega
      · obtain rfl : k = t.length := by omega
        go_wp2
        go_ret2
        exact ⟨_, rfl, hN, hB⟩
  · rw [if_neg he]
    have hne : (Tm.fitErr t p != 0) = true := by simp [he]
    clear hT hP he h1 h2
    generalize Tm.fitErr t p = q at *
    go_enter Try.func14, Try.ntmps14
    go_wp2_with (first
      | (go_at_call 27; refine hC.mono ?_; clear hC; rintro e w ⟨rfl, rfl⟩))
    go_ret2
    exact ⟨_, rfl, New.nil _ _, Below.refl _ _⟩

end Go.Proofs.Ytloealnfbpegnab

namespace Go.Proofs.Ytloealnfbpegnab
open Go.Proofs Go.RowKit Go.Shelf Go.Maps

theorem Tm.m1 : Tm.fitErr [4, -1, 2, -2] [4, 3, 0, 2, -1] = 0 := by decide +kernel
theorem Tm.m2 : Tm.fitIs [4, -1, 2, -2] [4, 3, 0, 2, -1] = true := by decide +kernel
theorem Tm.m3 : Tm.fitVal [4, -1, 2, -2] [4, 3, 0, 2, -1] = [[3, 0], [-1], [-3], [-4], [-5], [-6], [-7], [-8]] := by decide +kernel
theorem Tm.m4 : Tm.fitErr [4, -1, -1] [4, 0, 1] = 0 := by decide +kernel
theorem Tm.m5 : Tm.fitIs [4, -1, -1] [4, 0, 1] = false := by decide +kernel
theorem Tm.m6 : Tm.fitErr [4, 2, 2, 0, 2, 1] [2, -3] = 0 := by decide +kernel
theorem Tm.m7 : Tm.overVal [4, 2, 2, 0, 2, 1] [2, -3] = [1, 2, 4] := by decide +kernel
theorem Tm.m8 : Tm.fitErr [] [4, -1, 2, 0] = 1 := by decide +kernel
theorem Tm.m9 : Tm.fitIs [] [4, -1, 2, 0] = false := by decide +kernel

theorem cap_ok {n c : Nat} (a : Addr) (h : n ≤ c) (hc : c ≤ 1000) : n ≤ c ∧ c ≤ maxLen ∧ (some a = none → c = 0) := ⟨h, by unfold maxLen; omega, fun e => by cases e⟩
/-- Two literals, one behind the other. -/
theorem lits_two (w : World) (p t : List Int) : Ints (w.heap.size + 2) ((w.alloc (.cells (p.map (Value.int .i64)).toArray 3)).alloc (.cells (t.map (Value.int .i64)).toArray 3)) (some ⟨w.heap.size, 0, none⟩) p ∧
    Ints (w.heap.size + 2) ((w.alloc (.cells (p.map (Value.int .i64)).toArray 3)).alloc (.cells (t.map (Value.int .i64)).toArray 3)) (some ⟨w.heap.size + 1, 0, none⟩) t ∧
    Below w.heap.size w ((w.alloc (.cells (p.map (Value.int .i64)).toArray 3)).alloc (.cells (t.map (Value.int .i64)).toArray 3)) := by
  have h1 := ints_lit w p (w.heap.size + 1) rfl
  have h2 := ints_lit (w.alloc (.cells (p.map (Value.int .i64)).toArray 3)) t (w.heap.size + 2) (by simp)
  simp only [World.size_alloc] at h2
  exact ⟨(h1.below ((Below.refl _ _).alloc (by simp) _)).mono (by omega), h2, ((Below.refl _ w).alloc (Nat.le_refl _) _).alloc (by simp) _⟩
theorem d_fit (p t : List Int) (np nt : Nat) (is : Bool) (er : Int) (val : List (List Int)) (w : World) (hp : np = p.length) (ht : nt = t.length) (hl1 : p.length ≤ 1000) (hl2 : t.length ≤ 1000) (h1 : Tm.fitErr p t = er) (h2 : Tm.fitIs p t = is) (h3 : Tm.fitVal p t = val) :
    Calls Try.prog 9 #[.slice (some ⟨w.heap.size, 0, none⟩) np np, .slice (some ⟨w.heap.size + 1, 0, none⟩) nt nt] ((w.alloc (.cells (p.map (Value.int .i64)).toArray 3)).alloc (.cells (t.map (Value.int .i64)).toArray 3)) fun e w' =>
      ∃ a c, e = .returned (.tuple #[.slice a val.length c, .bool is, .int .i64 er]) ∧ Subs w'.heap.size w' a val ∧ Below w.heap.size w w' := by
  subst hp ht h1 h2 h3
  obtain ⟨i1, i2, hB⟩ := lits_two w p t
  refine (Fit_any p t _ _ _ _ _ (by simpa using i1) (by simpa using i2) (cap_ok _ (Nat.le_refl _) hl1) (cap_ok _ (Nat.le_refl _) hl2)).mono ?_
  rintro e w' ⟨v, rfl, hN, hB'⟩
  obtain ⟨a, c, rfl, hS, _⟩ := NewS.subs hN
  exact ⟨a, c, rfl, hS, hB.trans (hB'.mono hB.size)⟩
theorem d_over (w : World) :
    Calls Try.prog 13 #[.slice (some ⟨w.heap.size, 0, none⟩) 6 6, .slice (some ⟨w.heap.size + 1, 0, none⟩) 2 2] ((w.alloc (.cells #[.int .i64 4, .int .i64 2, .int .i64 2, .int .i64 0, .int .i64 2, .int .i64 1] 3)).alloc (.cells #[.int .i64 2, .int .i64 (-3)] 3)) fun e w' =>
      ∃ a c, e = .returned (.tuple #[.slice a 3 c, .int .i64 0]) ∧ Ints w'.heap.size w' a [1, 2, 4] ∧ Below w.heap.size w w' := by
  obtain ⟨i1, i2, hB⟩ := lits_two w [4, 2, 2, 0, 2, 1] [2, -3]
  refine (over_any [4, 2, 2, 0, 2, 1] [2, -3] _ _ 6 2 _ (by simpa using i1) (by simpa using i2) (cap_ok _ (by simp) (by simp)) (cap_ok _ (by simp) (by simp))).mono ?_
  rw [Tm.m6, Tm.m7]
  rintro e w' ⟨v, rfl, hN, hB'⟩
  obtain ⟨a, c, rfl, hS, _⟩ := New.ints hN
  exact ⟨a, c, rfl, hS, hB.trans (hB'.mono hB.size)⟩
theorem d_fitNil (b : Option Addr) (w : World) (hb : b ≠ none) (hI : Ints w.heap.size w b [4, -1, 2, 0]) :
    Calls Try.prog 9 #[.slice none 0 0, .slice b 4 4] w fun e w' => ∃ a c, e = .returned (.tuple #[.slice a 0 c, .bool false, .int .i64 1]) ∧ Below w.heap.size w w' := by
  refine (Fit_any [] [4, -1, 2, 0] none b 0 4 w (Ints.nil _ _ _) hI ⟨Nat.le_refl _, Nat.zero_le _, fun _ => rfl⟩ ⟨by simp, by unfold maxLen; omega, fun e => absurd e hb⟩).mono ?_
  rw [Tm.m8, Tm.m9, (Tm.fit_bad (p := []) (t := [4, -1, 2, 0]) (by rw [Tm.m8]; decide)).2]
  rintro e w' ⟨v, rfl, hN, hB'⟩
  obtain ⟨a, c, rfl, hS, _⟩ := NewS.subs hN
  exact ⟨a, c, rfl, hB'⟩
theorem d_same (zs : List Int) (n : Nat) (a b : Option Addr) (c d : Nat) (w : World) (hn : n = zs.length) (hm : zs.length ≤ 1000) (hI : Ints w.heap.size w a zs) (hJ : Ints w.heap.size w b zs) : Calls Try.prog 16 #[.slice a n c, .slice b n d] w fun e w' => e = .returned (.bool true) ∧ Below w.heap.size w w' := by
  subst hn
  have h := same_any zs zs a b c d w hI hJ (by unfold maxLen; omega)
  rw [show sameB zs zs = true by simp [sameB]] at h
  exact h
/-- A literal against a list that can be read. -/
theorem d_sameLit (zs : List Int) (n : Nat) (a : Option Addr) (c : Nat) (w : World) (hn : n = zs.length) (hm : zs.length ≤ 1000) (hI : Ints w.heap.size w a zs) :
    Calls Try.prog 16 #[.slice a n c, .slice (some ⟨w.heap.size, 0, none⟩) n n] (w.alloc (.cells (zs.map (Value.int .i64)).toArray 3)) fun e w' => e = .returned (.bool true) ∧ Below w.heap.size w w' := by
  have hA : Below w.heap.size w (w.alloc (.cells (zs.map (Value.int .i64)).toArray 3)) := (Below.refl _ _).alloc (Nat.le_refl _) _
  refine (d_same zs n a _ c n _ hn hm ((hI.below hA).mono hA.size) (ints_lit w zs _ (by simp))).mono ?_
  rintro e w' ⟨rfl, hB⟩
  exact ⟨rfl, hA.trans (hB.mono hA.size)⟩

set_option maxRecDepth 100000 in
set_option maxHeartbeats 2000000 in
theorem matchBegun_any (w : World) : Calls Try.prog 11 #[] w fun e w' => e = .returned (.bool true) ∧ Below w.heap.size w w' := by
  have h1 := d_fit [4, -1, 2, -2] [4, 3, 0, 2, -1] 4 5 _ _ _ w rfl rfl (by simp) (by simp) Tm.m1 Tm.m2 Tm.m3
  have h2 := hid (fun w => d_fit [4, -1, -1] [4, 0, 1] 3 3 _ _ _ w rfl rfl (by simp) (by simp) Tm.m4 Tm.m5 rfl)
  simp only [List.map_cons, List.map_nil, List.length_cons, List.length_nil, Nat.zero_add, Nat.reduceAdd] at h1 h2
  go_enter Try.func11, Try.ntmps11
  go_wp2_with fail
  refine h1.mono ?_
  rintro e w1 ⟨a1, c1, rfl, hS1, hB1⟩
  clear h1
  go_wp2_with fail
  refine (h2.out w1).mono ?_
  rintro e w2 ⟨a2, c2, rfl, _, hB2⟩
  go_wp2_with fail
  refine (d_over w2).mono ?_
  rintro e w3 ⟨a3, c3, rfl, hI3, hB3⟩
  go_wp2_with fail
  refine (fxga_any _).mono ?_
  rintro e w4 ⟨a4, rfl, hI4, hB4⟩
  go_wp2_with fail
  refine (d_fitNil _ _ (hI4.some (by simp)) hI4).mono ?_
  rintro e w5 ⟨a5, c5, rfl, hB5⟩
  have hB25 := hB2.trans ((hB3.trans ((hB4.trans (hB5.mono hB4.size)).mono hB3.size)).mono hB2.size)
  have hB35 := hB4.trans (hB5.mono hB4.size)
  have hB := hB1.trans (hB25.mono hB1.size)
  have hS5 := (hS1.below hB25).mono hB25.size
  have hI5 := (hI3.below hB35).mono hB35.size
  clear hS1 hI3 hI4 hB1 hB2 hB3 hB4 hB5 hB25 hB35 h2
  obtain ⟨b, off, rfl, hb, hc⟩ := hS5.at (by simp)
  obtain ⟨x0, y0, hc0, hi0, _⟩ := hc 0 (by simp)
  obtain ⟨x1, y1, hc1, hi1, _⟩ := hc 1 (by simp)
  obtain ⟨x2, y2, hc2, hi2, _⟩ := hc 2 (by simp)
  obtain ⟨b3, off3, rfl, hb3, hd⟩ := hI5.at (by simp)
  have hd0 := hd 0 (by simp)
  have hd1 := hd 1 (by simp)
  have hd2 := hd 2 (by simp)
  simp only [List.getElem?_cons_zero, List.getElem?_cons_succ, Option.getD_some, List.length_cons, List.length_nil, Nat.zero_add, Nat.reduceAdd, Nat.add_zero] at hc0 hc1 hc2 hi0 hi1 hi2 hd0 hd1 hd2
  have hs0 := hid (fun (W : World) (hW : Below w5.heap.size w5 W) => d_sameLit [3, 0] 2 x0 y0 W rfl (by simp) ((hi0.below hW).mono hW.size))
  have hs1 := hid (fun (W : World) (hW : Below w5.heap.size w5 W) => d_sameLit [-1] 1 x1 y1 W rfl (by simp) ((hi1.below hW).mono hW.size))
  have hs2 := hid (fun (W : World) (hW : Below w5.heap.size w5 W) => d_sameLit [-3] 1 x2 y2 W rfl (by simp) ((hi2.below hW).mono hW.size))
  simp only [List.map_cons, List.map_nil] at hs0 hs1 hs2
  clear hc hd hS5 hI5 hi0 hi1 hi2
  go_wp2_with fail
  refine (hs0.out w5 (Below.refl _ _)).mono ?_
  rintro e w6 ⟨rfl, hB6⟩
  have hc1' := (hB6.cell (p := ⟨b, off + 1, none⟩) hb).trans hc1
  clear hs0 hc0 hc1
  go_wp2_with fail
  refine (hs1.out w6 hB6).mono ?_
  rintro e w7 ⟨rfl, hB7⟩
  have hB57 := hB6.trans (hB7.mono hB6.size)
  have hc2' := (hB57.cell (p := ⟨b, off + 2, none⟩) hb).trans hc2
  clear hs1 hc1' hc2
  go_wp2_with fail
  refine (hs2.out w7 hB57).mono ?_
  rintro e w8 ⟨rfl, hB8⟩
  have hB58 := hB57.trans (hB8.mono hB57.size)
  have he0 := (hB58.cell (p := ⟨b3, off3, none⟩) hb3).trans hd0
  have he1 := (hB58.cell (p := ⟨b3, off3 + 1, none⟩) hb3).trans hd1
  have he2 := (hB58.cell (p := ⟨b3, off3 + 2, none⟩) hb3).trans hd2
  clear hs2 hc2' hd0 hd1 hd2
  go_wp2
  go_ret
  exact ⟨rfl, hB.trans (hB58.mono hB.size)⟩

end Go.Proofs.Ytloealnfbpegnab

namespace Go.Proofs.Ytloealnfbpegnab
open Go.Proofs Go.RowKit Go.Shelf

theorem Tm.applied_cons (ss : List (List Int)) (s : Int) (l : List Int) : Tm.applied ss (s :: l) = Tm.piece ss s ++ Tm.applied ss l := by simp [Tm.applied]
theorem Tm.piece_pos {ss : List (List Int)} {s : Int} (h : 0 ≤ s) : Tm.piece ss s = [s] := by unfold Tm.piece; rw [if_neg (by omega)]

/-- Each list is a term. -/
def Terms (ss : List (List Int)) : Prop := ∀ j, j < 8 → Tm.err (ss[j]?.getD []) = 0
theorem Terms.of {ss : List (List Int)} (h : Tm.subErr ss = 0) : Terms ss := fun j hj => Tm.firstErr_all (Tm.subErr_ok h).2 j (by rw [(Tm.subErr_ok h).1]; exact hj)
theorem Tm.piece_term {ss : List (List Int)} (h : Terms ss) {s : Int} (h8 : -8 ≤ s) (hs : s < 0) : Tm.err (Tm.piece ss s) = 0 := by
  unfold Tm.piece
  rw [if_pos hs]
  exact h _ (by omega)

theorem Tm.run_applied {ss : List (List Int)} (h : Terms ss) : ∀ (t : List Int) (n : Nat), t.all Tm.known = true → Tm.run t n = t.length → Tm.run (Tm.applied ss t) n = (Tm.applied ss t).length := by
  intro t
  induction t with
  | nil => intro n _ hr; rw [Tm.run_nil] at hr; subst hr; rw [List.length_nil, Tm.run_zero]; rfl
  | cons s l ih =>
    intro n hk hr
    rw [List.all_cons, Bool.and_eq_true] at hk
    cases n with
    | zero => rw [Tm.run_zero, List.length_cons] at hr; omega
    | succ n =>
      rw [Tm.run_cons, List.length_cons] at hr
      rw [Tm.applied_cons]
      by_cases hs : s < 0
      · rw [Tm.room_neg hs] at hr
        have hp := Tm.err_run (Tm.piece_term h (Tm.known_ge hk.1) hs)
        have hi := ih n hk.2 (by rw [Nat.add_zero] at hr; omega)
        rw [show n + 1 = 1 + n from by omega, Tm.run_add, Tm.run_app _ _ 1 (by omega), hp, List.drop_left, hi, List.length_append]
      · rw [Tm.piece_pos (by omega), List.singleton_append, Tm.run_cons, List.length_cons, ih _ hk.2 (by omega)]
        omega
theorem Tm.all_applied {ss : List (List Int)} (h : Terms ss) : ∀ (t : List Int), t.all Tm.known = true → (Tm.applied ss t).all Tm.known = true := by
  intro t
  induction t with
  | nil => intro _; rfl
  | cons s l ih =>
    intro hk
    rw [List.all_cons, Bool.and_eq_true] at hk
    rw [Tm.applied_cons, List.all_append, ih hk.2]
    by_cases hs : s < 0
    · rw [Tm.err_all (Tm.piece_term h (Tm.known_ge hk.1) hs)]; rfl
    · rw [Tm.piece_pos (by omega)]; simp [hk.1]
/-- What a term becomes is a term. -/
theorem Tm.err_applied {ss : List (List Int)} (h : Terms ss) {t : List Int} (ht : Tm.err t = 0) (hl : (Tm.applied ss t).length ≤ 30) : Tm.err (Tm.applied ss t) = 0 :=
  Tm.err_ok hl (Tm.all_applied h t (Tm.err_all ht)) (Tm.run_applied h t 1 (Tm.err_all ht) (Tm.err_run ht))

/-- First by one list, then by another, is by After of both. -/
theorem Tm.applied_after {ss us : List (List Int)} (hl : ss.length = 8) : ∀ (t : List Int), t.all Tm.known = true → Tm.applied us (Tm.applied ss t) = Tm.applied (Tm.afterL ss us) t := by
  intro t
  induction t with
  | nil => intro _; rfl
  | cons s l ih =>
    intro hk
    rw [List.all_cons, Bool.and_eq_true] at hk
    rw [Tm.applied_cons, Tm.applied_cons, ← ih hk.2]
    have e : Tm.applied us (Tm.piece ss s ++ Tm.applied ss l) = Tm.applied us (Tm.piece ss s) ++ Tm.applied us (Tm.applied ss l) := by simp [Tm.applied]
    rw [e]
    congr 1
    by_cases hs : s < 0
    · have h8 := Tm.known_ge hk.1
      unfold Tm.piece
      rw [if_pos hs, if_pos hs]
      have hj : (-1 - s).toNat < ss.length := by omega
      simp [Tm.afterL, hj]
    · rw [Tm.piece_pos (by omega), Tm.piece_pos (by omega)]
      simp [Tm.applied, Tm.piece_pos (show 0 ≤ s by omega)]
/-- By None nothing changes. -/
theorem Tm.applied_none : ∀ (t : List Int), t.all Tm.known = true → Tm.applied (Tm.noneL 8) t = t := by
  intro t
  induction t with
  | nil => intro _; rfl
  | cons s l ih =>
    intro hk
    rw [List.all_cons, Bool.and_eq_true] at hk
    rw [Tm.applied_cons, ih hk.2]
    have h8 := Tm.known_ge hk.1
    by_cases hs : s < 0
    · have hp : Tm.piece (Tm.noneL 8) s = [s] := by
        unfold Tm.piece
        rw [if_pos hs]
        have hj : (-1 - s).toNat < 8 := by omega
        simp only [Tm.noneL, List.getElem?_map]
        rw [List.getElem?_range hj]
        simp
        omega
      rw [hp]; rfl
    · rw [Tm.piece_pos (by omega)]; rfl
theorem Tm.subErr_after {ss us : List (List Int)} (hs : Tm.subErr ss = 0) (hu : Tm.subErr us = 0) (hf : ss.all (Tm.fits us) = true) : Tm.subErr (Tm.afterL ss us) = 0 := by
  have hl : (Tm.afterL ss us).length = 8 := by rw [Tm.afterL_length, (Tm.subErr_ok hs).1]
  unfold Tm.subErr
  rw [if_pos hl]
  have hall : ∀ t ∈ Tm.afterL ss us, Tm.err t = 0 := by
    intro t ht
    unfold Tm.afterL at ht
    rw [List.mem_map] at ht
    obtain ⟨x, hx, rfl⟩ := ht
    rw [List.all_eq_true] at hf
    have h1 := hf x hx
    simp only [Tm.fits, decide_eq_true_eq] at h1
    obtain ⟨k, hk, e⟩ := List.getElem_of_mem hx
    have h2 := Tm.firstErr_all (Tm.subErr_ok hs).2 k hk
    simp only [hk, List.getElem?_eq_getElem, Option.getD_some, e] at h2
    exact Tm.err_applied (Terms.of hu) h2 h1
  generalize Tm.afterL ss us = l at hall
  clear hl hf hs hu
  induction l with
  | nil => rfl
  | cons t l ih =>
    unfold Tm.firstErr
    rw [if_pos (hall t (by simp))]
    exact ih (fun x hx => hall x (by simp [hx]))

end Go.Proofs.Ytloealnfbpegnab

namespace Go.Proofs.Ytloealnfbpegnab
open Go.Proofs Go.RowKit Go.Shelf Go.Maps

theorem Tm.known_of {s : Int} (h1 : -8 ≤ s) (h2 : s < 6) : Tm.known s = true := by
  simp [Tm.known]
  omega
theorem Tm.firstErr_of {ss : List (List Int)} (h : ∀ k, k < ss.length → Tm.err (ss[k]?.getD []) = 0) : Tm.firstErr ss = 0 := by
  induction ss with
  | nil => rfl
  | cons t l ih =>
    rw [Tm.firstErr, if_pos (by simpa using h 0 (by simp))]
    exact ih fun k hk => by simpa using h (k + 1) (by simpa using hk)
/-- What the eight variables become. -/
def Tm.sbL (σ : Wb.Sb) : List (List Int) := (List.range 8).map fun i : Nat => σ (-1 - (i : Int))
theorem Tm.sbL_length (σ : Wb.Sb) : (Tm.sbL σ).length = 8 := by simp [Tm.sbL]
theorem Tm.sbL_at (σ : Wb.Sb) {i : Nat} (h : i < 8) : (Tm.sbL σ)[i]?.getD [] = σ (-1 - (i : Int)) := by
  unfold Tm.sbL
  rw [List.getElem?_map, List.getElem?_range h]
  rfl
theorem Tm.sbL_congr {σ τ : Wb.Sb} (h : ∀ v, -8 ≤ v → v < 0 → σ v = τ v) : Tm.sbL σ = Tm.sbL τ := by
  unfold Tm.sbL
  refine List.map_congr_left fun i hi => ?_
  have := List.mem_range.1 hi
  exact h _ (by omega) (by omega)
theorem Tm.piece_sbL (σ : Wb.Sb) {s : Int} (h8 : -8 ≤ s) : Tm.piece (Tm.sbL σ) s = if s < 0 then σ s else [s] := by
  unfold Tm.piece
  by_cases hs : s < 0
  · rw [if_pos hs, if_pos hs, Tm.sbL_at σ (by omega), show -1 - (((-1 - s).toNat : Nat) : Int) = s from by omega]
  · rw [if_neg hs, if_neg hs]
theorem Tm.applied_sbL (σ : Wb.Sb) : ∀ (t : List Int), t.all Tm.known = true → Tm.applied (Tm.sbL σ) t = Wb.App σ t := by
  intro t
  induction t with
  | nil => intro _; rfl
  | cons s l ih =>
    intro h
    rw [List.all_cons, Bool.and_eq_true] at h
    rw [Tm.applied_cons, Wb.App_cons, ih h.2, Tm.piece_sbL σ (Tm.known_ge h.1)]
/-- A list as what variables become. -/
def Tm.ofL (us : List (List Int)) (s : Int) : List Int := if -8 ≤ s then us[(-1 - s).toNat]?.getD [] else [s]
theorem Tm.ofL_at (us : List (List Int)) {i : Nat} (h : i < 8) : Tm.ofL us (-1 - (i : Int)) = us[i]?.getD [] := by
  unfold Tm.ofL
  rw [if_pos (by omega), show (-1 - (-1 - (i : Int))).toNat = i from by omega]
theorem Tm.sbL_ofL {us : List (List Int)} (h : us.length = 8) : Tm.sbL (Tm.ofL us) = us := by
  refine List.ext_getElem (by rw [Tm.sbL_length, h]) fun i h1 h2 => ?_
  rw [Tm.sbL_length] at h1
  have e := Tm.sbL_at (Tm.ofL us) h1
  rw [Tm.ofL_at us h1] at e
  rw [List.getElem?_eq_getElem (by rw [Tm.sbL_length]; exact h1), List.getElem?_eq_getElem h2] at e
  exact e
theorem Tm.applied_ofL {us : List (List Int)} (h : us.length = 8) {t : List Int} (ht : t.all Tm.known = true) : Tm.applied us t = Wb.App (Tm.ofL us) t := by
  have := Tm.applied_sbL (Tm.ofL us) t ht
  rwa [Tm.sbL_ofL h] at this
theorem Tm.ofL_term {us : List (List Int)} (h : Tm.subErr us = 0) : Wb.TermSb (Tm.ofL us) := fun s hs => by
  unfold Tm.ofL
  obtain ⟨h1, h2⟩ := Tm.subErr_ok h
  by_cases h8 : -8 ≤ s
  · rw [if_pos h8]
    exact Tm.err_run (Tm.firstErr_all h2 _ (by omega))
  · rw [if_neg h8]
    have : Tm.room s = 0 := Wb.room_var hs
    rw [show (1 : Nat) = 0 + 1 from rfl, Tm.run_cons, this, Tm.run_zero]
    rfl

/-- WHAT MEETING ANSWERS: the error, whether something comes, and what. -/
def Tm.MeetSays (ps : PairL) (er : Int) (is : Bool) (val : List (List Int)) : Prop :=
  (Tm.firstPair ps ≠ 0 ∧ er = Tm.firstPair ps ∧ is = false ∧ val = []) ∨
  (Tm.firstPair ps = 0 ∧ (∀ θ, Wb.TermSb θ → ¬ Wb.Same ps ps.length θ) ∧ er = 0 ∧ is = false ∧ val = []) ∨
  (Tm.firstPair ps = 0 ∧ ∃ σ, Wb.Mgu ps σ ∧ (∀ i : Nat, i < 8 → (σ (-1 - (i : Int))).length ≤ 30) ∧ er = 0 ∧ is = true ∧ val = Tm.sbL σ) ∨
  (Tm.firstPair ps = 0 ∧ ∃ σ, Wb.Mgu ps σ ∧ (∃ i : Nat, i < 8 ∧ 30 < (σ (-1 - (i : Int))).length) ∧ er = 2 ∧ is = false ∧ val = [])
theorem Tm.MeetSays.one {ps : PairL} {er er' : Int} {is is' : Bool} {val val' : List (List Int)} (A : Tm.MeetSays ps er is val) (B : Tm.MeetSays ps er' is' val') : er = er' ∧ is = is' ∧ val = val' := by
  rcases A with ⟨a1, rfl, rfl, rfl⟩ | ⟨a1, a2, rfl, rfl, rfl⟩ | ⟨a1, σ, a2, a3, rfl, rfl, rfl⟩ | ⟨a1, σ, a2, ⟨i, hi, a3⟩, rfl, rfl, rfl⟩ <;>
  rcases B with ⟨b1, rfl, rfl, rfl⟩ | ⟨b1, b2, rfl, rfl, rfl⟩ | ⟨b1, τ, b2, b3, rfl, rfl, rfl⟩ | ⟨b1, τ, b2, ⟨j, hj, b3⟩, rfl, rfl, rfl⟩
  · exact ⟨rfl, rfl, rfl⟩
  · exact absurd b1 a1
  · exact absurd b1 a1
  · exact absurd b1 a1
  · exact absurd a1 b1
  · exact ⟨rfl, rfl, rfl⟩
  · exact absurd b2.same (a2 τ b2.term)
  · exact absurd b2.same (a2 τ b2.term)
  · exact absurd a1 b1
  · exact absurd a2.same (b2 σ a2.term)
  · exact ⟨rfl, rfl, Tm.sbL_congr (a2.one b2)⟩
  · have := a2.one b2 (-1 - (j : Int)) (by omega) (by omega)
    have h := a3 j hj
    rw [this] at h
    omega
  · exact absurd a1 b1
  · exact absurd a2.same (b2 σ a2.term)
  · have := a2.one b2 (-1 - (i : Int)) (by omega) (by omega)
    have h := b3 i hi
    rw [← this] at h
    omega
  · exact ⟨rfl, rfl, rfl⟩
theorem Wb.Mgu.errs {ps : PairL} {σ : Wb.Sb} (M : Wb.Mgu ps σ) (h : ∀ i : Nat, i < 8 → (σ (-1 - (i : Int))).length ≤ 30) : Tm.subErr (Tm.sbL σ) = 0 := by
  have h1 : Tm.firstErr (Tm.sbL σ) = 0 := by
    refine Tm.firstErr_of fun i hi => ?_
    rw [Tm.sbL_length] at hi
    rw [Tm.sbL_at σ hi]
    refine Tm.err_ok (h i hi) ?_ (M.term _ (by omega))
    rw [List.all_eq_true]
    intro s hs
    obtain ⟨h1, h2⟩ := M.vars _ (by omega) (by omega) s hs
    exact Tm.known_of h1 h2
  unfold Tm.subErr
  rw [if_pos (Tm.sbL_length σ), h1]

/-- The other way round. -/
theorem Wb.Same.swap {a b : List Int} {θ : Wb.Sb} (h : Wb.Same [(a, b)] 1 θ) : Wb.Same [(b, a)] 1 θ := fun j hj => by
  obtain rfl : j = 0 := by omega
  exact (h 0 (by omega)).symm
theorem Wb.Mgu.swap {a b : List Int} {σ : Wb.Sb} (M : Wb.Mgu [(a, b)] σ) : Wb.Mgu [(b, a)] σ :=
  ⟨M.term, M.vars, M.same.swap, fun θ h1 h2 => M.most θ h1 h2.swap, M.least⟩
theorem Tm.firstPair_one (a b : List Int) : Tm.firstPair [(a, b)] = Tm.pairErr a b := by
  rw [Tm.firstPair]
  by_cases h : Tm.pairErr a b = 0
  · rw [if_pos h, h]; rfl
  · rw [if_neg h]
theorem Tm.pairErr_zero {a b : List Int} : Tm.pairErr a b = 0 ↔ Tm.err a = 0 ∧ Tm.err b = 0 := by
  unfold Tm.pairErr
  by_cases h : Tm.err a = 0
  · rw [if_pos h]; exact ⟨fun e => ⟨h, e⟩, fun e => e.2⟩
  · rw [if_neg h]; exact ⟨fun e => absurd e h, fun e => absurd e.1 h⟩
theorem Tm.MeetSays.swap {a b : List Int} {is : Bool} {val : List (List Int)} (A : Tm.MeetSays [(a, b)] 0 is val) : Tm.MeetSays [(b, a)] 0 is val := by
  have hsw : ∀ {x y : List Int}, Tm.firstPair [(x, y)] = 0 → Tm.firstPair [(y, x)] = 0 := fun {x y} h => by
    rw [Tm.firstPair_one, Tm.pairErr_zero] at h ⊢
    exact ⟨h.2, h.1⟩
  rcases A with ⟨a1, a2, rfl, rfl⟩ | ⟨a1, a2, _, rfl, rfl⟩ | ⟨a1, σ, a2, a3, _, rfl, rfl⟩ | ⟨a1, σ, a2, ⟨i, hi, a3⟩, e, rfl, rfl⟩
  · exact absurd a2.symm a1
  · exact .inr (.inl ⟨hsw a1, fun θ h1 h2 => a2 θ h1 h2.swap, rfl, rfl, rfl⟩)
  · exact .inr (.inr (.inl ⟨hsw a1, σ, a2.swap, a3, rfl, rfl, rfl⟩))
  · omega

/-- D2: what comes makes both the same; done twice it is done once. -/
theorem Tm.meet_true {a b : List Int} {val : List (List Int)} (A : Tm.MeetSays [(a, b)] 0 true val) : Tm.subErr val = 0 ∧ Tm.err a = 0 ∧ Tm.err b = 0 ∧ Tm.applied val a = Tm.applied val b ∧ Tm.afterErr val val = 0 ∧ Tm.afterVal val val = val := by
  rcases A with ⟨_, _, h, _⟩ | ⟨_, _, _, h, _⟩ | ⟨a1, σ, M, h30, _, _, rfl⟩ | ⟨_, σ, _, _, _, h, _⟩
  · cases h
  · cases h
  · rw [Tm.firstPair_one, Tm.pairErr_zero] at a1
    have hs := M.errs h30
    have hss : Tm.afterL (Tm.sbL σ) (Tm.sbL σ) = Tm.sbL σ := by
      unfold Tm.afterL
      rw [Tm.sbL, List.map_map]
      refine List.map_congr_left fun i hi => ?_
      have := List.mem_range.1 hi
      show Tm.applied (Tm.sbL σ) (σ _) = σ _
      rw [Tm.applied_sbL σ _ (by
        rw [List.all_eq_true]
        intro s hs
        obtain ⟨h1, h2⟩ := M.vars _ (by omega) (by omega) s hs
        exact Tm.known_of h1 h2)]
      exact (M.most σ M.term M.same _ (by omega) (by omega)).symm
    have he : Tm.afterErr (Tm.sbL σ) (Tm.sbL σ) = 0 := by
      unfold Tm.afterErr
      rw [if_pos hs, if_pos hs, if_pos]
      rw [List.all_eq_true]
      intro t ht
      have hm : Tm.applied (Tm.sbL σ) t ∈ Tm.afterL (Tm.sbL σ) (Tm.sbL σ) := List.mem_map_of_mem ht
      rw [hss] at hm
      unfold Tm.fits
      rw [decide_eq_true_eq]
      obtain ⟨i, hi, e⟩ := List.mem_map.1 hm
      rw [← e]
      exact h30 i (List.mem_range.1 hi)
    refine ⟨hs, a1.1, a1.2, ?_, he, by unfold Tm.afterVal; rw [if_pos he, hss]⟩
    rw [Tm.applied_sbL σ a (Tm.err_all a1.1), Tm.applied_sbL σ b (Tm.err_all a1.2)]
    exact M.same 0 (by simp)
  · cases h
/-- D2: whatever else makes both the same is made of what comes. -/
theorem Tm.meet_most {a b : List Int} {us : List (List Int)} {er : Int} {is : Bool} {val : List (List Int)} (hu : Tm.subErr us = 0) (ha : Tm.err a = 0) (hb : Tm.err b = 0) (e : Tm.applied us a = Tm.applied us b) (A : Tm.MeetSays [(a, b)] er is val) :
    (er = 2 ∧ is = false ∧ val = []) ∨ (er = 0 ∧ is = true ∧ val.length = 8 ∧ ((Tm.afterErr val us = 2 ∧ Tm.afterVal val us = []) ∨ (Tm.afterErr val us = 0 ∧ Tm.afterVal val us = us))) := by
  have hu8 := (Tm.subErr_ok hu).1
  have hS : Wb.Same [(a, b)] 1 (Tm.ofL us) := fun j hj => by
    obtain rfl : j = 0 := by omega
    show Wb.App (Tm.ofL us) a = Wb.App (Tm.ofL us) b
    rw [← Tm.applied_ofL hu8 (Tm.err_all ha), ← Tm.applied_ofL hu8 (Tm.err_all hb), e]
  rcases A with ⟨a1, _⟩ | ⟨_, a2, _⟩ | ⟨_, σ, M, h30, rfl, rfl, rfl⟩ | ⟨_, σ, M, _, rfl, rfl, rfl⟩
  · rw [Tm.firstPair_one] at a1
    exact absurd (Tm.pairErr_zero.2 ⟨ha, hb⟩) a1
  · exact absurd hS (a2 _ (Tm.ofL_term hu))
  · refine .inr ⟨rfl, rfl, Tm.sbL_length σ, ?_⟩
    have hs := M.errs h30
    have hL : Tm.afterL (Tm.sbL σ) us = us := by
      have h2 : Tm.afterL (Tm.sbL σ) us = Tm.sbL (Tm.ofL us) := by
        unfold Tm.afterL
        rw [show Tm.sbL σ = (List.range 8).map (fun i : Nat => σ (-1 - (i : Int))) from rfl, List.map_map]
        refine List.map_congr_left fun i hi => ?_
        have := List.mem_range.1 hi
        show Tm.applied us (σ _) = Tm.ofL us _
        rw [Tm.applied_ofL hu8 (by
          rw [List.all_eq_true]
          intro s hs
          obtain ⟨h1, h2⟩ := M.vars _ (by omega) (by omega) s hs
          exact Tm.known_of h1 h2)]
        exact (M.most _ (Tm.ofL_term hu) hS _ (by omega) (by omega)).symm
      rw [h2, Tm.sbL_ofL hu8]
    by_cases hf : (Tm.sbL σ).all (Tm.fits us) = true
    · have he : Tm.afterErr (Tm.sbL σ) us = 0 := by unfold Tm.afterErr; rw [if_pos hs, if_pos hu, if_pos hf]
      exact .inr ⟨he, by unfold Tm.afterVal; rw [if_pos he, hL]⟩
    · have he : Tm.afterErr (Tm.sbL σ) us = 2 := by unfold Tm.afterErr; rw [if_pos hs, if_pos hu, if_neg hf]
      exact .inl ⟨he, by unfold Tm.afterVal; rw [he, if_neg (by omega)]⟩
  · exact .inl ⟨rfl, rfl, rfl⟩

/-- unify.meet's answer in one form. -/
theorem MeetAns.says {ps : PairL} {W : World} {e : Ending} (h : MeetAns ps W e) : ∃ er is val a, Tm.MeetSays ps er is val ∧ e = .returned (.tuple #[.slice a val.length val.length, .bool is, .int .i64 er]) ∧ Subs W.heap.size W a val := by
  rcases h with ⟨h1, rfl⟩ | ⟨h1, ⟨h2, rfl⟩ | ⟨σ, M, ⟨h30, a, rfl, hS⟩ | ⟨h30, rfl⟩⟩⟩
  · exact ⟨_, _, [], none, .inl ⟨h1, rfl, rfl, rfl⟩, rfl, Subs.nil _ _ _⟩
  · exact ⟨_, _, [], none, .inr (.inl ⟨h1, h2, rfl, rfl, rfl⟩), rfl, Subs.nil _ _ _⟩
  · exact ⟨_, _, Tm.sbL σ, a, .inr (.inr (.inl ⟨h1, σ, M, h30, rfl, rfl, rfl⟩)), by rw [Tm.sbL_length], hS⟩
  · exact ⟨_, _, [], none, .inr (.inr (.inr ⟨h1, σ, M, h30, rfl, rfl, rfl⟩)), rfl, Subs.nil _ _ _⟩

end Go.Proofs.Ytloealnfbpegnab

namespace Go.Proofs.Ytloealnfbpegnab
open Go.Proofs Go.RowKit Go.Shelf Go.Maps

theorem rulesAt_of {n B : Nat} {W : World} {rs : RuleL} {cs : Array Value} {t : TypeId} {p : Nat × Nat} (hblk : W.heap[B]? = some (.cells cs t p)) (hB : B < n)
    (h : ∀ k, k < rs.length → ∃ aL aR, cs[k * 2]? = some (.slice aL (rs[k]?.getD ([], [])).1.length (rs[k]?.getD ([], [])).1.length) ∧ cs[k * 2 + 1]? = some (.slice aR (rs[k]?.getD ([], [])).2.length (rs[k]?.getD ([], [])).2.length) ∧
      Ints n W aL (rs[k]?.getD ([], [])).1 ∧ Ints n W aR (rs[k]?.getD ([], [])).2 ∧ (rs[k]?.getD ([], [])).1.length ≤ 1000 ∧ (rs[k]?.getD ([], [])).2.length ≤ 1000) : RulesAt n W (some ⟨B, 0, none⟩) rs := fun k hk => by
  obtain ⟨aL, aR, h1, h2, h3, h4, h5, h6⟩ := h k hk
  refine ⟨B, 0, rfl, hB, aL, _, aR, _, by rw [cell_at hblk, Nat.zero_add]; exact h1, by rw [cell_at hblk, Nat.zero_add]; exact h2, h3, h4, Nat.le_refl _, by unfold maxLen; omega, Nat.le_refl _, by unfold maxLen; omega⟩

/-- Lists laid one behind the other. -/
def allocs : World → List (List Int) → World
  | w, [] => w
  | w, z :: l => allocs (w.alloc (.cells (z.map (Value.int .i64)).toArray 3)) l
theorem allocs_size : ∀ (l : List (List Int)) (w : World), (allocs w l).heap.size = w.heap.size + l.length := by
  intro l
  induction l with
  | nil => intro w; rfl
  | cons z l ih => intro w; rw [allocs, ih, World.size_alloc, List.length_cons]; omega
theorem allocs_below : ∀ (l : List (List Int)) (w : World), Below w.heap.size w (allocs w l) := by
  intro l
  induction l with
  | nil => intro w; exact Below.refl _ _
  | cons z l ih =>
    intro w
    rw [allocs]
    exact ((Below.refl _ w).alloc (Nat.le_refl _) _).trans ((ih _).mono (by simp))
theorem allocs_ints : ∀ (l : List (List Int)) (w : World) (i : Nat), i < l.length → Ints (w.heap.size + l.length) (allocs w l) (some ⟨w.heap.size + i, 0, none⟩) (l[i]?.getD []) := by
  intro l
  induction l with
  | nil => intro w i hi; simp at hi
  | cons z l ih =>
    intro w i hi
    rw [allocs]
    cases i with
    | zero =>
      have h1 := ints_lit w z (w.heap.size + 1) rfl
      have h2 := h1.below (by rw [← World.size_alloc w (.cells (z.map (Value.int .i64)).toArray 3)]; exact allocs_below l _)
      exact h2.mono (by rw [List.length_cons]; omega)
    | succ i =>
      have h := ih (w.alloc (.cells (z.map (Value.int .i64)).toArray 3)) i (by simpa using hi)
      rw [World.size_alloc] at h
      rw [show w.heap.size + (i + 1) = w.heap.size + 1 + i from by omega, show w.heap.size + (z :: l).length = w.heap.size + 1 + l.length from by rw [List.length_cons]; omega]
      exact h

/-- A term against a literal. -/
theorem g_same (xs ys : List Int) (n m c : Nat) (a : Option Addr) (w : World) (hn : n = xs.length) (hm : m = ys.length) (hl : xs.length ≤ 1000) (hI : Ints w.heap.size w a xs) (h : sameB xs ys = true) :
    Calls Try.prog 16 #[.slice a n c, .slice (some ⟨w.heap.size, 0, none⟩) m m] (w.alloc (.cells (ys.map (Value.int .i64)).toArray 3)) fun e w' => e = .returned (.bool true) ∧ Below w.heap.size w w' := by
  subst hn hm
  have hB : Below w.heap.size w (w.alloc (.cells (ys.map (Value.int .i64)).toArray 3)) := (Below.refl _ _).alloc (Nat.le_refl _) _
  refine (same_any xs ys a _ c ys.length _ ((hI.below hB).mono hB.size) (ints_lit w ys _ (by simp)) (by unfold maxLen; omega)).mono ?_
  rintro e w' ⟨rfl, hB'⟩
  exact ⟨by rw [h], hB.trans (hB'.mono hB.size)⟩

end Go.Proofs.Ytloealnfbpegnab

namespace Go.Proofs.Ytloealnfbpegnab
open Go.Proofs Go.RowKit Go.Shelf Go.Maps

set_option maxRecDepth 100000 in
set_option maxHeartbeats 1000000 in
theorem Meet_any (a b : List Int) (aa ab : Option Addr) (ca cb : Nat) (w : World) (hA : Ints w.heap.size w aa a) (hB : Ints w.heap.size w ab b) (ha1 : a.length ≤ ca) (ha2 : ca ≤ maxLen) (hb1 : b.length ≤ cb) (hb2 : cb ≤ maxLen) :
    Calls Try.prog 17 #[.slice aa a.length ca, .slice ab b.length cb] w fun e w' => Below w.heap.size w w' ∧ ∃ er is val x, Tm.MeetSays [(a, b)] er is val ∧ e = .returned (.tuple #[.slice x val.length val.length, .bool is, .int .i64 er]) ∧ Subs w'.heap.size w' x val := by
  have hBl : Below w.heap.size w (w.alloc (.cells #[.slice aa a.length ca, .slice ab b.length cb] 60)) := (Below.refl _ w).alloc (Nat.le_refl _) _
  have blk : (w.alloc (.cells #[.slice aa a.length ca, .slice ab b.length cb] 60)).heap[w.heap.size]? = some (.cells #[.slice aa a.length ca, .slice ab b.length cb] 60) := World.alloc_heap_new w _
  have hR : RulesAt (w.alloc (.cells #[.slice aa a.length ca, .slice ab b.length cb] 60)).heap.size (w.alloc (.cells #[.slice aa a.length ca, .slice ab b.length cb] 60)) (some ⟨w.heap.size, 0, none⟩) [(a, b)] := by
    intro k hk
    obtain rfl : k = 0 := by simp at hk; omega
    exact ⟨w.heap.size, 0, rfl, by simp, aa, ca, ab, cb, (cell_at blk 0).trans rfl, (cell_at blk 1).trans rfl, (hA.below hBl).mono hBl.size, (hB.below hBl).mono hBl.size, ha1, ha2, hb1, hb2⟩
  have hM := hid (meet_any [(a, b)] (by simp) (some ⟨w.heap.size, 0, none⟩) 1 _ hR)
  have HB := hid hBl
  clear hR blk hA hB hBl
  go_enter Try.func17, Try.ntmps17
  go_wp2_with fail
  refine hM.out.mono ?_
  rintro e w2 ⟨hB2, hAns⟩
  obtain ⟨er, is, val, x, hs, rfl, hS⟩ := hAns.says
  have Hs := hid hs
  have HS := hid hS
  clear hM hAns hs hS
  go_wp2
  go_ret3
  exact ⟨HB.out.trans (hB2.mono HB.out.size), er, is, val, x, Hs.out, rfl, HS.out⟩

/-- What unify.All answers. -/
def Tm.AllSays (ps : PairL) (er : Int) (is : Bool) (val : List (List Int)) : Prop := (40 < ps.length ∧ er = 2 ∧ is = false ∧ val = []) ∨ (ps.length ≤ 40 ∧ Tm.MeetSays ps er is val)
set_option maxRecDepth 100000 in
set_option maxHeartbeats 1000000 in
theorem All_many (n : Nat) (h : 40 < n) (a : Option Addr) (cap : Nat) (w : World) :
    Calls Try.prog 20 #[.slice a n cap] w fun e w' => e = .returned (.tuple #[.slice none 0 0, .bool false, .int .i64 2]) ∧ Below w.heap.size w w' := by
  have h' : (40 : Int) < (n : Int) := by omega
  go_enter Try.func20, Try.ntmps20
  go_wp2
  go_ret3
  exact ⟨rfl, Below.refl _ _⟩

set_option maxRecDepth 100000 in
set_option maxHeartbeats 1000000 in
theorem All_any (ps : PairL) (a : Option Addr) (cap : Nat) (w : World) (hP : RulesAt w.heap.size w a ps) :
    Calls Try.prog 20 #[.slice a ps.length cap] w fun e w' => Below w.heap.size w w' ∧ ∃ er is val x, Tm.AllSays ps er is val ∧ e = .returned (.tuple #[.slice x val.length val.length, .bool is, .int .i64 er]) ∧ Subs w'.heap.size w' x val := by
  by_cases h : 40 < ps.length
  · refine (All_many ps.length h a cap w).mono ?_
    rintro e w' ⟨rfl, hB⟩
    exact ⟨hB, _, _, [], none, .inl ⟨h, rfl, rfl, rfl⟩, rfl, Subs.nil _ _ _⟩
  · have hn : decide ((40 : Int) < (ps.length : Int)) = false := by simp; omega
    have hM := hid (meet_any ps (by omega) a cap w hP)
    have hle := hid (Nat.le_of_not_lt h)
    clear hP h
    go_enter Try.func20, Try.ntmps20
    go_wp2_with fail
    refine hM.out.mono ?_
    rintro e w2 ⟨hB2, hAns⟩
    obtain ⟨er, is, val, x, hs, rfl, hS⟩ := hAns.says
    have Hs := hid hs
    have HS := hid hS
    clear hM hAns hs hS
    go_wp2
    go_ret3
    exact ⟨hB2, er, is, val, x, .inr ⟨hle.out, Hs.out⟩, rfl, HS.out⟩

end Go.Proofs.Ytloealnfbpegnab

namespace Go.Proofs.Ytloealnfbpegnab
open Go.Proofs Go.RowKit Go.Shelf Go.Maps

/-- Terms that open the same list are the same. -/
theorem Wb.split {x y r s : List Int} (hx : Tm.run x 1 = x.length) (hy : Tm.run y 1 = y.length) (h : x ++ r = y ++ s) : x = y ∧ r = s := by
  have h1 := Tm.run_app x r 1 (by omega)
  have h2 := Tm.run_app y s 1 (by omega)
  rw [h, h2, hx, hy] at h1
  exact List.append_inj h h1.symm
theorem Wb.var8 {v : Int} (h1 : -8 ≤ v) (h2 : v < 0) : v = -1 ∨ v = -2 ∨ v = -3 ∨ v = -4 ∨ v = -5 ∨ v = -6 ∨ v = -7 ∨ v = -8 := by omega
theorem Wb.App1 (θ : Wb.Sb) {v : Int} (h : v < 0) : Wb.App θ [v] = θ v := by rw [Wb.App_cons, if_pos h, Wb.App_nil, List.append_nil]

def Tm.mv1 : List (List Int) := [[2, -2], [-2], [2, -2], [-4], [-5], [-6], [-7], [-8]]
def Tm.mv3 : List (List Int) := [[-1], [-2], [-2], [-4], [-2], [-6], [-7], [-8]]
theorem Tm.mgu1 : Wb.Mgu [([4, -1, 2, -2], [4, -3, -1])] (Tm.ofL Tm.mv1) := by
  refine ⟨Tm.ofL_term (by decide +kernel), fun v h1 h2 => ?_, fun j hj => ?_, fun θ hθ H v h1 h2 => ?_, fun v u h1 h2 e hu => ?_⟩
  · rcases Wb.var8 h1 h2 with rfl | rfl | rfl | rfl | rfl | rfl | rfl | rfl <;> decide +kernel
  · obtain rfl : j = 0 := by simp at hj; omega
    decide +kernel
  · have h := H 0 (by simp)
    simp only [List.getElem?_cons_zero, Option.getD_some, Wb.App_cons, Wb.App_nil, List.append_nil] at h
    simp only [show ¬ ((4 : Int) < 0) from by omega, show ¬ ((2 : Int) < 0) from by omega, show ((-1 : Int) < 0) from by omega, show ((-2 : Int) < 0) from by omega, show ((-3 : Int) < 0) from by omega, if_true, if_false, List.singleton_append, List.cons.injEq, true_and] at h
    obtain ⟨e1, e2⟩ := Wb.split (hθ (-1) (by omega)) (hθ (-3) (by omega)) h
    have e3 : Wb.App θ [2, -2] = 2 :: θ (-2) := by rw [Wb.App_cons, if_neg (by omega), Wb.App1 θ (by omega)]; rfl
    rcases Wb.var8 h1 h2 with rfl | rfl | rfl | rfl | rfl | rfl | rfl | rfl
    · show _ = Wb.App θ [2, -2]
      rw [e3, e2]
    · exact (Wb.App1 θ (by omega)).symm
    · show _ = Wb.App θ [2, -2]
      rw [e3, e2, e1]
    all_goals exact (Wb.App1 θ (by omega)).symm
  · rcases Wb.var8 h1 h2 with rfl | rfl | rfl | rfl | rfl | rfl | rfl | rfl
    all_goals (simp [Tm.ofL, Tm.mv1] at e)
    all_goals omega
theorem Tm.mgu3 : Wb.Mgu [([-3], [-2]), ([-5], [-3])] (Tm.ofL Tm.mv3) := by
  refine ⟨Tm.ofL_term (by decide +kernel), fun v h1 h2 => ?_, fun j hj => ?_, fun θ hθ H v h1 h2 => ?_, fun v u h1 h2 e hu => ?_⟩
  · rcases Wb.var8 h1 h2 with rfl | rfl | rfl | rfl | rfl | rfl | rfl | rfl <;> decide +kernel
  · have : j = 0 ∨ j = 1 := by simp at hj; omega
    rcases this with rfl | rfl <;> decide +kernel
  · have h := H 0 (by simp)
    have h' := H 1 (by simp)
    simp only [List.getElem?_cons_zero, List.getElem?_cons_succ, Option.getD_some] at h h'
    rw [Wb.App1 θ (by omega), Wb.App1 θ (by omega)] at h h'
    rcases Wb.var8 h1 h2 with rfl | rfl | rfl | rfl | rfl | rfl | rfl | rfl
    · exact (Wb.App1 θ (by omega)).symm
    · exact (Wb.App1 θ (by omega)).symm
    · exact h.trans (Wb.App1 θ (by omega)).symm
    · exact (Wb.App1 θ (by omega)).symm
    · exact (h'.trans h).trans (Wb.App1 θ (by omega)).symm
    all_goals exact (Wb.App1 θ (by omega)).symm
  · rcases Wb.var8 h1 h2 with rfl | rfl | rfl | rfl | rfl | rfl | rfl | rfl
    all_goals (simp [Tm.ofL, Tm.mv3] at e)
    all_goals omega
theorem Tm.um1 : Tm.MeetSays [([4, -1, 2, -2], [4, -3, -1])] 0 true Tm.mv1 := by
  refine .inr (.inr (.inl ⟨by decide +kernel, _, Tm.mgu1, fun i hi => ?_, rfl, rfl, (Tm.sbL_ofL rfl).symm⟩))
  rw [Tm.ofL_at _ hi]
  have : ∀ i, i < 8 → ((Tm.mv1)[i]?.getD []).length ≤ 30 := by decide +kernel
  exact this i hi
theorem Tm.um2 : Tm.MeetSays [([-1], [2, -1])] 0 false [] := by
  refine .inr (.inl ⟨by decide +kernel, fun θ hθ H => ?_, rfl, rfl, rfl⟩)
  have h := H 0 (by simp)
  simp only [List.getElem?_cons_zero, Option.getD_some] at h
  rw [Wb.App1 θ (by omega), Wb.App_cons, if_neg (by omega), Wb.App1 θ (by omega)] at h
  have := congrArg List.length h
  simp at this
theorem Tm.um3 : Tm.MeetSays [([-3], [-2]), ([-5], [-3])] 0 true Tm.mv3 := by
  refine .inr (.inr (.inl ⟨by decide +kernel, _, Tm.mgu3, fun i hi => ?_, rfl, rfl, (Tm.sbL_ofL rfl).symm⟩))
  rw [Tm.ofL_at _ hi]
  have : ∀ i, i < 8 → ((Tm.mv3)[i]?.getD []).length ≤ 30 := by decide +kernel
  exact this i hi
theorem Tm.um4 : Tm.MeetSays [([9], [0])] 3 false [] := .inl ⟨by decide +kernel, by decide +kernel, rfl, rfl⟩

/-- Two literals meet. -/
theorem u_meet (p t : List Int) (np nt nv : Nat) (er : Int) (is : Bool) (val : List (List Int)) (w : World) (hp : np = p.length) (ht : nt = t.length) (hv : nv = val.length) (kp : p.length ≤ 1000) (kt : t.length ≤ 1000) (hS : Tm.MeetSays [(p, t)] er is val) :
    Calls Try.prog 17 #[.slice (some ⟨w.heap.size, 0, none⟩) np np, .slice (some ⟨w.heap.size + 1, 0, none⟩) nt nt] ((w.alloc (.cells (p.map (Value.int .i64)).toArray 3)).alloc (.cells (t.map (Value.int .i64)).toArray 3)) fun e w' => ∃ x, e = .returned (.tuple #[.slice x nv nv, .bool is, .int .i64 er]) ∧ Subs w'.heap.size w' x val ∧ Below w.heap.size w w' := by
  subst hp ht hv
  have hb := allocs_below [p, t] w
  have hi := allocs_ints [p, t] w
  have hs := allocs_size [p, t] w
  have i1 := hi 0 (by simp)
  have i2 := hi 1 (by simp)
  rw [show w.heap.size + [p, t].length = (allocs w [p, t]).heap.size from hs.symm] at i1 i2
  refine (Meet_any p t _ _ p.length t.length (allocs w [p, t]) i1 i2 (Nat.le_refl _) (by unfold maxLen; omega) (Nat.le_refl _) (by unfold maxLen; omega)).mono ?_
  rintro e w' ⟨hB, er', is', val', x, hS', rfl, hx⟩
  obtain ⟨rfl, rfl, rfl⟩ := hS.one hS'
  exact ⟨x, rfl, hx, hb.trans (hB.mono hb.size)⟩

theorem u_all (w : World) :
    Calls Try.prog 20 #[.slice (some ⟨w.heap.size + 1 + 1 + 1 + 1, 0, none⟩) 2 2] ((allocs w [[-3], [-2], [-5], [-3]]).alloc (.cells #[.slice (some ⟨w.heap.size, 0, none⟩) 1 1, .slice (some ⟨w.heap.size + 1, 0, none⟩) 1 1, .slice (some ⟨w.heap.size + 1 + 1, 0, none⟩) 1 1, .slice (some ⟨w.heap.size + 1 + 1 + 1, 0, none⟩) 1 1] 60)) fun e w' => ∃ x, e = .returned (.tuple #[.slice x 8 8, .bool true, .int .i64 0]) ∧ Subs w'.heap.size w' x Tm.mv3 ∧ Below w.heap.size w w' := by
  have hs := allocs_size [[-3], [-2], [-5], [-3]] w
  have hb := allocs_below [[-3], [-2], [-5], [-3]] w
  have hi := allocs_ints [[-3], [-2], [-5], [-3]] w
  have h4 : ([[-3], [-2], [-5], [-3]] : List (List Int)).length = 4 := rfl
  rw [h4] at hs hi
  obtain ⟨W4, hW⟩ : ∃ W4, allocs w [[-3], [-2], [-5], [-3]] = W4 := ⟨_, rfl⟩
  rw [hW] at hs hb hi ⊢
  obtain ⟨C, hC⟩ : ∃ C : Array Value, #[.slice (some ⟨w.heap.size, 0, none⟩) 1 1, .slice (some ⟨w.heap.size + 1, 0, none⟩) 1 1, .slice (some ⟨w.heap.size + 1 + 1, 0, none⟩) 1 1, .slice (some ⟨w.heap.size + 1 + 1 + 1, 0, none⟩) 1 1] = C := ⟨_, rfl⟩
  rw [hC]
  have blk := World.alloc_heap_new W4 (.cells C 60)
  have hb4 : Below W4.heap.size W4 (W4.alloc (.cells C 60)) := (Below.refl _ W4).alloc (Nat.le_refl _) _
  have hsz : (W4.alloc (.cells C 60)).heap.size = w.heap.size + 4 + 1 := by rw [World.size_alloc, hs]
  rw [hs] at blk hb4
  have hR : RulesAt (W4.alloc (.cells C 60)).heap.size (W4.alloc (.cells C 60)) (some ⟨w.heap.size + 4, 0, none⟩) [([-3], [-2]), ([-5], [-3])] := by
    rw [hsz]
    refine rulesAt_of blk (by omega) fun k hk => ?_
    have hk' : k < 2 := hk
    have hx := fun i hi6 => ((hi i hi6).below hb4).mono (show w.heap.size + 4 ≤ w.heap.size + 4 + 1 by omega)
    subst hC
    match k, hk' with
    | 0, _ => exact ⟨_, _, rfl, rfl, hx 0 (by omega), hx 1 (by omega), by decide, by decide⟩
    | 1, _ => exact ⟨_, _, rfl, rfl, hx 2 (by omega), hx 3 (by omega), by decide, by decide⟩
  have hBB := hb.trans (hb4.mono (by omega))
  refine (All_any [([-3], [-2]), ([-5], [-3])] _ 2 _ hR).mono ?_
  rintro e w' ⟨hB, er', is', val', x, hS', rfl, hx⟩
  rcases hS' with ⟨h, _⟩ | ⟨_, hS'⟩
  · simp at h
  · obtain ⟨rfl, rfl, rfl⟩ := Tm.um3.one hS'
    exact ⟨x, rfl, hx, hBB.trans (hB.mono hBB.size)⟩

theorem Try.info60 : (Try.prog.info? 60).map (fun i => (i.zero, i.size, i.bytes)) = some (some (.agg #[.slice none 0 0, .slice none 0 0]), 2, 48) := by kernel_rfl
theorem make41 : ∃ M : Array Value, ∀ W : World, (Instr.makeSlice 36 (.int .i64 41) (.int .i64 41)).run Try.prog W = .ok (.slice (some ⟨W.heap.size, 0, none⟩) 41 41) (W.alloc (.cells M 60)) := by
  obtain ⟨i0, hi, hz0, hz1, hz2⟩ := info_parts Try.info60
  refine ⟨madeCells (Value.agg #[.slice none 0 0, .slice none 0 0]).cells (Int.toNat 41 * 2), fun W => ?_⟩
  have h := run_makeSlice (P := Try.prog) W 36 60 i0 (.agg #[.slice none 0 0, .slice none 0 0]) Try.underlying36 hi hz0 .i64 .i64 41 41 (by omega) (by omega) (by rw [hz1]; decide) (by rw [hz2]; decide) (by decide)
  rw [hz1] at h
  exact h

theorem u_at {w : World} {x : Option Addr} {vs : List (List Int)} (h : Subs w.heap.size w x vs) (h0 : 0 < vs.length) : ∃ b off, x = some ⟨b, off, none⟩ ∧ ∀ j, j < vs.length → ∃ a c, w.cell? ⟨b, off + j, none⟩ = some (.slice a (vs[j]?.getD []).length c) ∧ Ints w.heap.size w a (vs[j]?.getD []) := by
  obtain ⟨b, off, aj, cj, e, _⟩ := h 0 h0
  refine ⟨b, off, e, fun j hj => ?_⟩
  obtain ⟨b', off', a, c, e', _, h1, h2, _⟩ := h j hj
  rw [e] at e'
  cases e'
  exact ⟨a, c, h1, h2⟩

set_option maxRecDepth 100000 in
set_option maxHeartbeats 4000000 in
theorem unifyBegun_any (w : World) : Calls Try.prog 19 #[] w fun e w' => e = .returned (.bool true) ∧ Below w.heap.size w w' := by
  have h1 := hid (fun w => u_meet [4, -1, 2, -2] [4, -3, -1] 4 3 8 0 true Tm.mv1 w rfl rfl rfl (by simp) (by simp) Tm.um1)
  have h2 := hid (fun w => u_meet [-1] [2, -1] 1 2 0 0 false [] w rfl rfl rfl (by simp) (by simp) Tm.um2)
  have h3 := hid (fun w => u_all w)
  have h4 := hid (fun w => u_meet [9] [0] 1 1 0 3 false [] w rfl rfl rfl (by simp) (by simp) Tm.um4)
  have h5 := hid (fun n (h : 40 < n) a c w => All_many n h a c w)
  have s1 := hid (fun w a c hI => g_same [2, -2] [2, -2] 2 2 c a w rfl rfl (by simp) hI (by simp [sameB]))
  have s2 := hid (fun w a c hI => g_same [-2] [-2] 1 1 c a w rfl rfl (by simp) hI (by simp [sameB]))
  simp only [List.map_cons, List.map_nil, allocs] at h1 h2 h3 h4 s1 s2
  obtain ⟨M, hmk⟩ := make41
  go_enter Try.func19, Try.ntmps19
  go_wp2_with fail
  refine (h1.out _).mono ?_
  rintro e w1 ⟨x1, rfl, S1, b1⟩
  clear h1
  go_wp2_with fail
  refine (h2.out _).mono ?_
  rintro e w2 ⟨x2, rfl, _, b2⟩
  have S2 := (S1.below b2).mono b2.size
  have B2 := b1.trans (b2.mono b1.size)
  clear h2 S1 b1 b2
  go_wp2_with fail
  refine (h3.out _).mono ?_
  rintro e w3 ⟨x3, rfl, T3, b3⟩
  have S3 := (S2.below b3).mono b3.size
  have B3 := B2.trans (b3.mono B2.size)
  clear h3 S2 B2 b3
  go_wp2_with fail
  refine (h4.out _).mono ?_
  rintro e w4 ⟨x4, rfl, _, b4⟩
  have S4 := (S3.below b4).mono b4.size
  have T4 := (T3.below b4).mono b4.size
  have B4 := B3.trans (b4.mono B3.size)
  clear h4 S3 T3 B3 b4
  have b5 : Below w4.heap.size w4 (w4.alloc (.cells M 60)) := (Below.refl _ _).alloc (Nat.le_refl _) _
  go_wp2_with fail
  refine (h5.out 41 (by omega) _ _ _).mono ?_
  rintro e w6 ⟨rfl, b6⟩
  have b56 := b5.trans (b6.mono b5.size)
  have S6 := hid ((S4.below b56).mono b56.size)
  have T6 := hid ((T4.below b56).mono b56.size)
  have B6 := B4.trans (b56.mono B4.size)
  clear h5 S4 T4 B4 b5 b6 b56 hmk
  obtain ⟨b, off, rfl, hS⟩ := u_at S6.out (by decide)
  obtain ⟨bt, ot, rfl, hT⟩ := u_at T6.out (by decide)
  obtain ⟨a0, c0, k0, i0⟩ := hS 0 (by decide)
  clear hS hT
  simp [Tm.mv1] at k0
  go_wp2_with fail
  refine (s1.out w6 a0 c0 i0).mono ?_
  rintro e w7 ⟨rfl, b7⟩
  have S7 := hid ((S6.out.below b7).mono b7.size)
  have T7 := hid ((T6.out.below b7).mono b7.size)
  have B7 := B6.trans (b7.mono B6.size)
  clear S6 T6 B6 b7 k0 i0
  obtain ⟨_, _, e, hS⟩ := u_at S7.out (by decide)
  cases e
  obtain ⟨a2, c2, k2, i2⟩ := hS 2 (by decide)
  clear hS
  simp [Tm.mv1] at k2
  go_wp2_with fail
  refine (s1.out w7 a2 c2 i2).mono ?_
  rintro e w8 ⟨rfl, b8⟩
  have S8 := hid ((S7.out.below b8).mono b8.size)
  have T8 := hid ((T7.out.below b8).mono b8.size)
  have B8 := B7.trans (b8.mono B7.size)
  clear S7 T7 B7 b8 k2 i2
  obtain ⟨_, _, e, hS⟩ := u_at S8.out (by decide)
  cases e
  obtain ⟨a1, c1, k1, i1⟩ := hS 1 (by decide)
  clear hS
  simp [Tm.mv1] at k1
  go_wp2_with fail
  refine (s2.out w8 a1 c1 i1).mono ?_
  rintro e w9 ⟨rfl, b9⟩
  have T9 := hid ((T8.out.below b9).mono b9.size)
  have B9 := B8.trans (b9.mono B8.size)
  clear S8 T8 B8 b9 k1 i1
  obtain ⟨_, _, e, hT⟩ := u_at T9.out (by decide)
  cases e
  obtain ⟨a2, c2, k2, i2⟩ := hT 2 (by decide)
  clear hT
  simp [Tm.mv3] at k2
  go_wp2_with fail
  refine (s2.out w9 a2 c2 i2).mono ?_
  rintro e w10 ⟨rfl, b10⟩
  have T10 := hid ((T9.out.below b10).mono b10.size)
  have B10 := B9.trans (b10.mono B9.size)
  clear T9 B9 b10 k2 i2
  obtain ⟨_, _, e, hT⟩ := u_at T10.out (by decide)
  cases e
  obtain ⟨a4, c4, k4, i4⟩ := hT 4 (by decide)
  clear hT
  simp [Tm.mv3] at k4
  go_wp2_with fail
  refine (s2.out w10 a4 c4 i4).mono ?_
  rintro e w11 ⟨rfl, b11⟩
  have B11 := B10.trans (b11.mono B10.size)
  go_wp2
  go_ret
  exact ⟨rfl, B11⟩

end Go.Proofs.Ytloealnfbpegnab

namespace Go.Proofs.Ytloealnfbpegnab
open Go.Proofs Go.RowKit Go.Shelf Go.Maps

theorem Tm.MeetSays.len {ps : PairL} {er : Int} {is : Bool} {val : List (List Int)} (A : Tm.MeetSays ps er is val) : val.length ≤ 8 := by
  rcases A with ⟨_, _, _, rfl⟩ | ⟨_, _, _, _, rfl⟩ | ⟨_, σ, _, _, _, _, rfl⟩ | ⟨_, _, _, _, _, _, rfl⟩
  · simp
  · simp
  · rw [Tm.sbL_length]; exact Nat.le_refl _
  · simp
theorem Tm.applyVal_len (ss : List (List Int)) (t : List Int) : (Tm.applyVal ss t).length ≤ 30 := by
  unfold Tm.applyVal
  by_cases h : Tm.applyErr ss t = 0
  · rw [if_pos h]
    unfold Tm.applyErr at h
    by_cases h1 : Tm.subErr ss = 0
    · rw [if_pos h1] at h
      by_cases h2 : Tm.err t = 0
      · rw [if_pos h2] at h
        by_cases h3 : 30 < (Tm.applied ss t).length
        · rw [if_pos h3] at h; omega
        · omega
      · rw [if_neg h2] at h; exact absurd h h2
    · rw [if_neg h1] at h; exact absurd h h1
  · rw [if_neg h]; simp

end Go.Proofs.Ytloealnfbpegnab
