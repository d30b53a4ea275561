/-
  The reader reads one term. · text.read, text.Read. · hasplaw.textBegun.
-/
import Derived.Test.YtcgljcbpcchcjaaBtx5
import Derived.Defers
import Derived.Recover
import Derived.Test.YtcgljcbpcchcjaaBtx1
namespace Go.Proofs.Ytcgljcbpcchcjaa
open Go.Proofs Go.RowKit Go.Shelf Go.Maps

theorem New.setR {R i : Nat} {W : World} {v x : Value} {zs : List Int} (h : New (R + 1) W v zs) : New (R + 1) (W.setCell ⟨R, i, none⟩ x) v zs :=
  ⟨h.1, h.2.elim .inl fun ⟨g, c, cur, h1, h2, h3, h4⟩ => .inr ⟨g, c, cur, h1, h2, (Below.heap_setCell W ⟨R, i, none⟩ x g (show g ≠ R by omega)).trans h3, h4⟩⟩
theorem Tm.rd_rest {f m : Nat} {l : List UInt8} {a : List Int} {r : List UInt8} (h : Tm.rd f m l = some (a, r)) : r.length ≤ l.length ∧ a.length ≤ m := by
  obtain ⟨x, _, _, _, h1, h2⟩ := Tm.rd_sound _ _ _ _ _ h
  exact ⟨by rw [h1, List.length_append]; omega, h2⟩
/-- What the reader leaves. -/
def TermAns (f m R : Nat) (l : List UInt8) (zs : List Int) (w : World) (e : Ending) (w' : World) : Prop :=
  Below R w w' ∧ ((∃ a r v', Tm.rd f m l = some (a, r) ∧ e = .returned (.tuple #[]) ∧ Rd2 w' R (sv r) v' ∧ New (R + 1) w' v' (zs ++ a)) ∨ (Tm.rd f m l = none ∧ e = .panicked formChain))

theorem Tm.rd_s0 {f m : Nat} {c : UInt8} {l : List UInt8} {s : Int} (h : Tm.sgn c = some s) (hr : Tm.room s = 0) : Tm.rd (f + 1) (m + 1) (c :: l) = some ([s], l) := by
  rw [Tm.rd, h, Option.bind_some, if_pos hr]
theorem Tm.rd_sn {f m : Nat} {c : UInt8} {l : List UInt8} (h : Tm.sgn c = none) : Tm.rd (f + 1) (m + 1) (c :: l) = none := by rw [Tm.rd, h]; rfl
theorem Tm.rd_m1 {f m : Nat} {c : UInt8} {l : List UInt8} {s : Int} (h : Tm.sgn c = some s) (hr : Tm.room s ≠ 0) (hm : Tm.mark 40 l = none) : Tm.rd (f + 1) (m + 1) (c :: l) = none := by
  rw [Tm.rd, h, Option.bind_some, if_neg hr, hm]; rfl
theorem Tm.rd_t1 {f m : Nat} {c : UInt8} {l : List UInt8} {s : Int} (h : Tm.sgn c = some s) (hr : Tm.room s ≠ 0) (ht : Tm.rd f m l = none) : Tm.rd (f + 1) (m + 1) (c :: 40 :: l) = none := by
  rw [Tm.rd, h, Option.bind_some, if_neg hr, Tm.mark_cons, Option.bind_some, ht]; rfl
theorem Tm.rd_o0 {f m : Nat} {c : UInt8} {l r : List UInt8} {s : Int} {a : List Int} (h : Tm.sgn c = some s) (hr : Tm.room s = 1) (ht : Tm.rd f m l = some (a, r)) (hm : Tm.mark 41 r = none) : Tm.rd (f + 1) (m + 1) (c :: 40 :: l) = none := by
  rw [Tm.rd, h, Option.bind_some, if_neg (by omega), Tm.mark_cons, Option.bind_some, ht, Option.bind_some, if_pos hr, hm]; rfl
theorem Tm.rd_o1 {f m : Nat} {c : UInt8} {l r : List UInt8} {s : Int} {a : List Int} (h : Tm.sgn c = some s) (hr : Tm.room s = 1) (ht : Tm.rd f m l = some (a, 41 :: r)) : Tm.rd (f + 1) (m + 1) (c :: 40 :: l) = some (s :: a, r) := by
  rw [Tm.rd, h, Option.bind_some, if_neg (by omega), Tm.mark_cons, Option.bind_some, ht, Option.bind_some, if_pos hr, Tm.mark_cons]; rfl
theorem Tm.rd_c0 {f m : Nat} {c : UInt8} {l r : List UInt8} {s : Int} {a : List Int} (h : Tm.sgn c = some s) (hr : Tm.room s = 2) (ht : Tm.rd f m l = some (a, r)) (hm : Tm.mark 44 r = none) : Tm.rd (f + 1) (m + 1) (c :: 40 :: l) = none := by
  rw [Tm.rd, h, Option.bind_some, if_neg (by omega), Tm.mark_cons, Option.bind_some, ht, Option.bind_some, if_neg (by omega), hm]; rfl
theorem Tm.rd_c1 {f m : Nat} {c : UInt8} {l r : List UInt8} {s : Int} {a : List Int} (h : Tm.sgn c = some s) (hr : Tm.room s = 2) (ht : Tm.rd f m l = some (a, 44 :: r)) (hq : Tm.rd f (m - a.length) r = none) : Tm.rd (f + 1) (m + 1) (c :: 40 :: l) = none := by
  rw [Tm.rd, h, Option.bind_some, if_neg (by omega), Tm.mark_cons, Option.bind_some, ht, Option.bind_some, if_neg (by omega), Tm.mark_cons, Option.bind_some, hq]; rfl
theorem Tm.rd_d0 {f m : Nat} {c : UInt8} {l r q : List UInt8} {s : Int} {a b : List Int} (h : Tm.sgn c = some s) (hr : Tm.room s = 2) (ht : Tm.rd f m l = some (a, 44 :: r)) (hq : Tm.rd f (m - a.length) r = some (b, q)) (hm : Tm.mark 41 q = none) : Tm.rd (f + 1) (m + 1) (c :: 40 :: l) = none := by
  rw [Tm.rd, h, Option.bind_some, if_neg (by omega), Tm.mark_cons, Option.bind_some, ht, Option.bind_some, if_neg (by omega), Tm.mark_cons, Option.bind_some, hq, Option.bind_some, hm]; rfl
theorem Tm.rd_d1 {f m : Nat} {c : UInt8} {l r q : List UInt8} {s : Int} {a b : List Int} (h : Tm.sgn c = some s) (hr : Tm.room s = 2) (ht : Tm.rd f m l = some (a, 44 :: r)) (hq : Tm.rd f (m - a.length) r = some (b, 41 :: q)) : Tm.rd (f + 1) (m + 1) (c :: 40 :: l) = some (s :: (a ++ b), q) := by
  rw [Tm.rd, h, Option.bind_some, if_neg (by omega), Tm.mark_cons, Option.bind_some, ht, Option.bind_some, if_neg (by omega), Tm.mark_cons, Option.bind_some, hq, Option.bind_some, Tm.mark_cons]; rfl

theorem mark_yes' (R : Nat) (b : UInt8) (n : Int) (hn : (b.toNat : Int) = n) (l : List UInt8) (y : Value) (w : World) (hl : l.length ≤ 5000) (h : Rd2 w R (sv (b :: l)) y) : Calls Try.prog 37 #[.pointer (some ⟨R, 0, none⟩), .int .u8 n] w fun e w' => e = .returned (.tuple #[]) ∧ w' = w.setCell ⟨R, 0, none⟩ (sv l) := by
  subst hn
  exact mark_yes R b l y w hl h
theorem mark_no' (R : Nat) (c : UInt8) (n : Int) (hn : (c.toNat : Int) = n) (l : List UInt8) (y : Value) (w : World) (hl : l.length ≤ 5000) (h : Rd2 w R (sv l) y) (hm : Tm.mark c l = none) : Calls Try.prog 37 #[.pointer (some ⟨R, 0, none⟩), .int .u8 n] w fun e w' => e = .panicked formChain ∧ Below R w w' := by
  subst hn
  exact mark_no R c l y w hl h hm

set_option maxRecDepth 100000 in
set_option maxHeartbeats 4000000 in
theorem term_step (f m R : Nat) (l : List UInt8) (zs : List Int) (v : Value) (w : World) (hmf : m ≤ f + 1) (hzm : zs.length + m = 30) (hl : l.length ≤ 5000) (hR : Rd2 w R (sv l) v) (hN : New (R + 1) w v zs)
    (ih : ∀ (m' : Nat) (l' : List UInt8) (zs' : List Int) (v' : Value) (w' : World), m' ≤ f → zs'.length + m' = 30 → l'.length ≤ 5000 → Rd2 w' R (sv l') v' → New (R + 1) w' v' zs' → Calls Try.prog 29 #[.pointer (some ⟨R, 0, none⟩)] w' fun e W => TermAns f m' R l' zs' w' e W) :
    Calls Try.prog 29 #[.pointer (some ⟨R, 0, none⟩)] w fun e w' => TermAns (f + 1) m R l zs w e w' := by
  obtain ⟨a, c, rfl, _⟩ := New.ints hN
  have c1 := hR.cell1
  have c0 := hR.cell0
  cases m with
  | zero =>
    have h30 : ((zs.length : Int) == 30) = true := by rw [beq_iff_eq]; omega
    clear ih
    go_enter Try.func29, Try.ntmps29
    go_wp2
    exact ⟨rfl, Below.refl _ _, .inr ⟨rfl, rfl⟩⟩
  | succ m =>
    have h30 : ((zs.length : Int) == 30) = false := by rw [beq_eq_false_iff_ne]; omega
    cases l with
    | nil =>
      have hC := hid (next_nil R _ w hR)
      clear ih
      go_enter Try.func29, Try.ntmps29
      go_wp2_with (go_at_call 36; refine hC.out.mono ?_; rintro e w1 ⟨rfl, rfl⟩)
      exact ⟨rfl, Below.refl _ _, .inr ⟨rfl, rfl⟩⟩
    | cons b l =>
      have hl' : l.length ≤ 4999 := by simp at hl; omega
      have hC := hid (next_cons R b l _ w (by omega) hR)
      have hR1 := hid (hR.set0 (sv l))
      have hN1 := hid (hN.setR (i := 0) (x := sv l))
      have hB1 : Hid (Below R w (w.setCell ⟨R, 0, none⟩ (sv l))) := (Below.refl _ _).setCell (p := ⟨R, 0, none⟩) (Nat.le_refl _) _
      have IH := hid ih
      have hSg := hid (fun W => signOf_any b W)
      clear ih hR hN hl
      go_enter Try.func29, Try.ntmps29
      go_wp2_with fail
      refine hC.out.mono ?_
      rintro e w1 ⟨rfl, hw1⟩
      rw [← hw1] at hR1 hN1 hB1
      clear hw1 hC c0 c1
      have c1 := hR1.out.cell1
      have f1 := hR1.out.frozen 1
      go_wp2_with fail
      refine (hSg.out w1).mono ?_
      rintro e w1 ⟨rfl, ⟨s, hs, rfl⟩ | ⟨hs, rfl⟩⟩
      rotate_left
      · go_wp2
        exact ⟨rfl, hB1.out, .inr ⟨Tm.rd_sn hs, rfl⟩⟩
      have Hs := hid hs
      have hrl := hR1.out.lt
      have i1 : Ints (w1.alloc (.cells #[.int .i64 s] 3)).heap.size (w1.alloc (.cells #[.int .i64 s] 3)) (some ⟨w1.heap.size, 0, none⟩) [s] := fun j hj => by
        obtain rfl : j = 0 := by simp at hj; omega
        exact ⟨w1.heap.size, 0, rfl, by simp, cell_new _ _ _ _ rfl⟩
      have I1 := hid i1
      have N1 := hid (New.alloc hN1.out (.cells #[.int .i64 s] 3))
      have Ba := hid ((Below.refl (R + 1) w1).alloc (show R + 1 ≤ w1.heap.size by omega) (.cells #[.int .i64 s] 3))
      clear i1 hSg hs
      go_wp2_with (at_builtin; go_loud (refine wp_append_ints _ rfl _ _ rfl (R + 1) _ zs rfl N1.out (some ⟨w1.heap.size, 0, none⟩) [s] 1 rfl (fun h => by cases h) I1.out (by simp; omega) (by simp; omega) ?_); intro v2 w2 hN2 hB2; have R2 := hid (show Rd2 w2 R (sv l) (.slice a zs.length c) from ((Ba.out.trans hB2).block R (by omega)).trans hR1.out); have c2 := R2.out.cell1; have f2 := R2.out.frozen 1; obtain ⟨a2, n2, e2, i2, _⟩ := New.ints hN2; have HN2 := hid hN2; have HB2 := hid (Ba.out.trans hB2); clear hN2 hB2)
      have e3 : v2 = .slice a2 (zs.length + 1) n2 := by rw [e2]; simp
      obtain ⟨W3, hW3⟩ : ∃ W3, w2.setCell ⟨R, 1, none⟩ (.slice a2 (zs.length + 1) n2) = W3 := ⟨_, rfl⟩
      rw [hW3]
      have R3 : Rd2 W3 R (sv l) (.slice a2 (zs.length + 1) n2) := by rw [← hW3]; exact R2.out.set1 _
      have N3 : New (R + 1) W3 (.slice a2 (zs.length + 1) n2) (zs ++ [s]) := by rw [← hW3, ← e3]; exact HN2.out.setR
      have B3 : Below R w W3 := by rw [← hW3]; exact (hB1.out.trans (HB2.out.mono (by omega))).setCell (p := ⟨R, 1, none⟩) (Nat.le_refl _) _
      have hR2 := Tm.room_le s
      have hRm := hid (fun W => room_any s W)
      clear hW3 e3 R2 HN2 HB2 hR1 hN1 hB1 I1 N1 Ba c1 f1 c2 f2 i2 hrl
      have hcase : Tm.room s = 0 ∨ Tm.room s = 1 ∨ Tm.room s = 2 := by omega
      rcases hcase with hr | hr | hr
      · have hA := hid (Tm.rd_s0 (f := f) (m := m) (l := l) Hs.out hr)
        rw [hr] at hRm
        clear hr hR2
        go_wp2_with (go_at_call 31; refine (hRm.out W3).mono ?_; rintro e W3 ⟨rfl, rfl⟩)
        go_end0
        exact ⟨B3, .inl ⟨_, _, _, hA.out, rfl, R3, N3⟩⟩
      · rw [hr] at hRm
        go_wp2_with fail
        refine (hRm.out W3).mono ?_
        rintro e W3 ⟨rfl, rfl⟩
        have Hr := hid hr
        clear hr hR2 hRm
        cases hm : Tm.mark 40 l with
        | none =>
          have hC := hid (mark_no' R 40 40 rfl l _ W3 (by omega) R3 hm)
          have hA := hid (Tm.rd_m1 (f := f) (m := m) Hs.out (by rw [Hr.out]; omega) hm)
          go_wp2_with fail
          refine hC.out.mono ?_
          rintro e w4 ⟨rfl, b4⟩
          go_wp2
          exact ⟨rfl, B3.trans b4, .inr ⟨hA.out, rfl⟩⟩
        | some l1 =>
          obtain rfl := Tm.mark_some hm
          have hC := hid (mark_yes' R 40 40 rfl l1 _ W3 (by simp at hl'; omega) R3)
          clear hm
          go_wp2_with fail
          refine hC.out.mono ?_
          rintro e W4 ⟨rfl, hW4⟩
          have R4 : Rd2 W4 R (sv l1) (.slice a2 (zs.length + 1) n2) := by rw [hW4]; exact R3.set0 _
          have N4 : New (R + 1) W4 (.slice a2 (zs.length + 1) n2) (zs ++ [s]) := by rw [hW4]; exact N3.setR
          have B4 : Below R w W4 := by rw [hW4]; exact B3.setCell (p := ⟨R, 0, none⟩) (Nat.le_refl _) _
          have hCt := hid (IH.out m l1 (zs ++ [s]) _ W4 (by omega) (by simp; omega) (by simp at hl'; omega) R4 N4)
          clear hC hW4 R3 N3 B3 R4 N4
          go_wp2_with fail
          refine hCt.out.mono ?_
          rintro e W5 ⟨b5, ⟨a1, r1, v5, hd5, rfl, R5, N5⟩ | ⟨hd5, rfl⟩⟩
          rotate_left
          · have hA := hid (Tm.rd_t1 (f := f) (m := m) Hs.out (by rw [Hr.out]; omega) hd5)
            clear hCt
            go_wp2
            exact ⟨rfl, B4.trans b5, .inr ⟨hA.out, rfl⟩⟩
          have B5 := B4.trans b5
          obtain ⟨g1, g2⟩ := Tm.rd_rest hd5
          have g3 : r1.length ≤ 4999 := by simp at hl'; omega
          have Hd5 := hid hd5
          clear hCt b5 B4 hd5
          go_wp2
          refine wp_loop_rounds 1 ?_
          rw [rounds_succ]
          cases hm : Tm.mark 41 r1 with
          | none =>
            have hC := hid (mark_no' R 41 41 rfl r1 _ W5 (by omega) R5 hm)
            have hA := hid (Tm.rd_o0 Hs.out Hr.out Hd5.out hm)
            go_wp2_with fail
            refine hC.out.mono ?_
            rintro e W6 ⟨rfl, b6⟩
            go_wp2
            exact ⟨rfl, B5.trans b6, .inr ⟨hA.out, rfl⟩⟩
          | some q1 =>
            obtain rfl := Tm.mark_some hm
            have hC := hid (mark_yes' R 41 41 rfl q1 _ W5 (by simp at g3; omega) R5)
            have hA := hid (Tm.rd_o1 Hs.out Hr.out Hd5.out)
            clear hm
            go_wp2_with fail
            refine hC.out.mono ?_
            rintro e W6 ⟨rfl, hW6⟩
            have R6 : Rd2 W6 R (sv q1) v5 := by rw [hW6]; exact R5.set0 _
            have N6 : New (R + 1) W6 v5 (zs ++ (s :: a1)) := by rw [hW6]; have h := N5.setR (i := 0) (x := sv q1); simpa using h
            have B6 : Below R w W6 := by rw [hW6]; exact B5.setCell (p := ⟨R, 0, none⟩) (Nat.le_refl _) _
            clear hW6 hC
            go_wp2
            go_end0
            exact ⟨B6, .inl ⟨_, _, _, hA.out, rfl, R6, N6⟩⟩
      · rw [hr] at hRm
        go_wp2_with fail
        refine (hRm.out W3).mono ?_
        rintro e W3 ⟨rfl, rfl⟩
        have Hr := hid hr
        clear hr hR2 hRm
        cases hm : Tm.mark 40 l with
        | none =>
          have hC := hid (mark_no' R 40 40 rfl l _ W3 (by omega) R3 hm)
          have hA := hid (Tm.rd_m1 (f := f) (m := m) Hs.out (by rw [Hr.out]; omega) hm)
          go_wp2_with fail
          refine hC.out.mono ?_
          rintro e w4 ⟨rfl, b4⟩
          go_wp2
          exact ⟨rfl, B3.trans b4, .inr ⟨hA.out, rfl⟩⟩
        | some l1 =>
          obtain rfl := Tm.mark_some hm
          have hC := hid (mark_yes' R 40 40 rfl l1 _ W3 (by simp at hl'; omega) R3)
          clear hm
          go_wp2_with fail
          refine hC.out.mono ?_
          rintro e W4 ⟨rfl, hW4⟩
          have R4 : Rd2 W4 R (sv l1) (.slice a2 (zs.length + 1) n2) := by rw [hW4]; exact R3.set0 _
          have N4 : New (R + 1) W4 (.slice a2 (zs.length + 1) n2) (zs ++ [s]) := by rw [hW4]; exact N3.setR
          have B4 : Below R w W4 := by rw [hW4]; exact B3.setCell (p := ⟨R, 0, none⟩) (Nat.le_refl _) _
          have hCt := hid (IH.out m l1 (zs ++ [s]) _ W4 (by omega) (by simp; omega) (by simp at hl'; omega) R4 N4)
          clear hC hW4 R3 N3 B3 R4 N4
          go_wp2_with fail
          refine hCt.out.mono ?_
          rintro e W5 ⟨b5, ⟨a1, r1, v5, hd5, rfl, R5, N5⟩ | ⟨hd5, rfl⟩⟩
          rotate_left
          · have hA := hid (Tm.rd_t1 (f := f) (m := m) Hs.out (by rw [Hr.out]; omega) hd5)
            clear hCt
            go_wp2
            exact ⟨rfl, B4.trans b5, .inr ⟨hA.out, rfl⟩⟩
          have B5 := B4.trans b5
          obtain ⟨g1, g2⟩ := Tm.rd_rest hd5
          have g3 : r1.length ≤ 4999 := by simp at hl'; omega
          have Hd5 := hid hd5
          clear hCt b5 B4 hd5
          go_wp2
          refine wp_loop_rounds 2 ?_
          rw [rounds_succ]
          cases hm : Tm.mark 44 r1 with
          | none =>
            have hC := hid (mark_no' R 44 44 rfl r1 _ W5 (by omega) R5 hm)
            have hA := hid (Tm.rd_c0 Hs.out Hr.out Hd5.out hm)
            go_wp2_with fail
            refine hC.out.mono ?_
            rintro e W6 ⟨rfl, b6⟩
            go_wp2
            exact ⟨rfl, B5.trans b6, .inr ⟨hA.out, rfl⟩⟩
          | some q1 =>
            obtain rfl := Tm.mark_some hm
            have hC := hid (mark_yes' R 44 44 rfl q1 _ W5 (by simp at g3; omega) R5)
            clear hm
            go_wp2_with fail
            refine hC.out.mono ?_
            rintro e W6 ⟨rfl, hW6⟩
            have R6 : Rd2 W6 R (sv q1) v5 := by rw [hW6]; exact R5.set0 _
            have N6 : New (R + 1) W6 v5 (zs ++ (s :: a1)) := by rw [hW6]; have h := N5.setR (i := 0) (x := sv q1); simpa using h
            have B6 : Below R w W6 := by rw [hW6]; exact B5.setCell (p := ⟨R, 0, none⟩) (Nat.le_refl _) _
            have hCt := hid (IH.out (m - a1.length) q1 (zs ++ (s :: a1)) v5 W6 (by omega) (by simp; omega) (by simp at g3; omega) R6 N6)
            clear hC hW6 R5 N5 B5 R6 N6
            go_wp2_with fail
            refine hCt.out.mono ?_
            rintro e W7 ⟨b7, ⟨a3, r3, v7, hd7, rfl, R7, N7⟩ | ⟨hd7, rfl⟩⟩
            rotate_left
            · have hA := hid (Tm.rd_c1 Hs.out Hr.out Hd5.out hd7)
              clear hCt
              go_wp2
              exact ⟨rfl, B6.trans b7, .inr ⟨hA.out, rfl⟩⟩
            have B7 := B6.trans b7
            obtain ⟨g4, g5⟩ := Tm.rd_rest hd7
            have g6 : r3.length ≤ 4999 := by simp at g3; omega
            have Hd7 := hid hd7
            clear hCt b7 B6 hd7
            go_wp2
            rw [rounds_succ]
            cases hm : Tm.mark 41 r3 with
            | none =>
              have hC := hid (mark_no' R 41 41 rfl r3 _ W7 (by omega) R7 hm)
              have hA := hid (Tm.rd_d0 Hs.out Hr.out Hd5.out Hd7.out hm)
              go_wp2_with fail
              refine hC.out.mono ?_
              rintro e W8 ⟨rfl, b8⟩
              go_wp2
              exact ⟨rfl, B7.trans b8, .inr ⟨hA.out, rfl⟩⟩
            | some q2 =>
              obtain rfl := Tm.mark_some hm
              have hC := hid (mark_yes' R 41 41 rfl q2 _ W7 (by simp at g6; omega) R7)
              have hA := hid (Tm.rd_d1 Hs.out Hr.out Hd5.out Hd7.out)
              clear hm
              go_wp2_with fail
              refine hC.out.mono ?_
              rintro e W8 ⟨rfl, hW8⟩
              have R8 : Rd2 W8 R (sv q2) v7 := by rw [hW8]; exact R7.set0 _
              have N8 : New (R + 1) W8 v7 (zs ++ (s :: (a1 ++ a3))) := by rw [hW8]; have h := N7.setR (i := 0) (x := sv q2); simpa using h
              have B8 : Below R w W8 := by rw [hW8]; exact B7.setCell (p := ⟨R, 0, none⟩) (Nat.le_refl _) _
              clear hW8 hC
              go_wp2
              go_end0
              exact ⟨B8, .inl ⟨_, _, _, hA.out, rfl, R8, N8⟩⟩

end Go.Proofs.Ytcgljcbpcchcjaa

namespace Go.Proofs.Ytcgljcbpcchcjaa
open Go.Proofs Go.RowKit Go.Shelf Go.Maps

set_option maxRecDepth 100000 in
set_option maxHeartbeats 1000000 in
theorem term_zero (f R : Nat) (l : List UInt8) (zs : List Int) (v : Value) (w : World) (hz : zs.length = 30) (hR : Rd2 w R (sv l) v) (hN : New (R + 1) w v zs) :
    Calls Try.prog 29 #[.pointer (some ⟨R, 0, none⟩)] w fun e W => TermAns f 0 R l zs w e W := by
  obtain ⟨a, c, rfl, _⟩ := New.ints hN
  have c1 := hR.cell1
  have h30 : ((zs.length : Int) == 30) = true := by rw [beq_iff_eq]; omega
  have hrd : Hid (Tm.rd f 0 l = none) := by cases f <;> rfl
  clear hz
  go_enter Try.func29, Try.ntmps29
  go_wp2
  exact ⟨rfl, Below.refl _ _, .inr ⟨hrd.out, rfl⟩⟩
theorem term_all (R : Nat) : ∀ (f m : Nat) (l : List UInt8) (zs : List Int) (v : Value) (w : World), m ≤ f → zs.length + m = 30 → l.length ≤ 5000 → Rd2 w R (sv l) v → New (R + 1) w v zs →
    Calls Try.prog 29 #[.pointer (some ⟨R, 0, none⟩)] w fun e W => TermAns f m R l zs w e W := by
  intro f
  induction f with
  | zero =>
    intro m l zs v w h1 h2 h3 h4 h5
    obtain rfl : m = 0 := by omega
    exact term_zero 0 R l zs v w (by omega) h4 h5
  | succ f ih =>
    intro m l zs v w h1 h2 h3 h4 h5
    exact term_step f m R l zs v w h1 h2 h3 h4 h5 ih

theorem read_idle (p q : Addr) (w : World) : CallsD Try.prog 28 #[.pointer (some p), .pointer (some q)] .returning w fun e u' w' => e = .returned (.tuple #[]) ∧ u' = .returning ∧ w' = w := by
  refine callsD_of_wpS Try.func28 rfl fun c₀ cs hu => ?_
  apply wpS_seq
  apply wpS_region
  simp [wpOpsS, go_sem, recoverD, hu, Try.ntmps28, Exit.thenS]
  simp only [Array.replicate_succ, Array.replicate_zero, List.push_toArray, List.nil_append, List.cons_append, List.setIfInBounds_toArray, List.set_cons_succ, List.set_cons_zero, List.append_toArray]
  refine wpS_of_wp ?_
  go_wp2
  cases c₀
  simp_all [bodyPostS, results, Try.results28]

theorem read_caught (B : Nat) (w : World) (h0 : Boxed w B 23 (.slice none 0 0)) (h1 : Boxed w (B + 1) 24 (.int .i64 0)) :
    CallsD Try.prog 28 #[.pointer (some ⟨B, 0, none⟩), .pointer (some ⟨B + 1, 0, none⟩)] (.panicking formChain) w fun e u' w' => e = .returned (.tuple #[]) ∧ u' = .panicking [{ v := .iface 24 (.int .i64 1), recovered := true }] ∧
      Below B w w' ∧ Boxed w' B 23 (.slice none 0 0) ∧ Boxed w' (B + 1) 24 (.int .i64 1) := by
  refine callsD_of_wpS Try.func28 rfl fun c₀ cs hu => ?_
  have c0 := h0.cell
  have c1 := h1.cell
  have f0 := h0.frozen
  have f1 := h1.frozen
  unfold formChain at hu
  have hta : ∀ (xT : TypeId) (w : World), (Instr.typeAssert (.iface 24 (.int .i64 1)) xT 24 false).run Try.prog w = .ok (.int .i64 1) w := fun _ _ => by kernel_rfl
  apply wpS_seq
  apply wpS_region
  simp [wpOpsS, go_sem, recoverD, hu, Try.ntmps28, Exit.thenS]
  simp only [Array.replicate_succ, Array.replicate_zero, List.push_toArray, List.nil_append, List.cons_append, List.setIfInBounds_toArray, List.set_cons_succ, List.set_cons_zero, List.append_toArray]
  refine wpS_of_wp ?_
  go_wp2
  go_region
  all_goals (
    refine ⟨rfl, _, rfl, _, results_none rfl _ _ _, rfl, rfl, ?_⟩
    refine ⟨below_drewN (((Below.refl B w).setCell (p := ⟨B, 0, none⟩) (Nat.le_refl _) _).setCell (p := ⟨B + 1, 0, none⟩) (by show B ≤ B + 1; omega) _) 1, ?_, ?_⟩
    · exact (h0.set _).other (by omega) _
    · exact (h1.other (by omega) _).set _)

theorem results_boxT {fn : Func} {tmps : Array Value} {w : World} {a b B C : Nat} {ad : Option Addr} {n c : Nat} {x : Int} (h : fn.results = #[.cell a 23, .cell b 24]) (ha : tmps.getD a undef = .pointer (some ⟨B, 0, none⟩)) (hb : tmps.getD b undef = .pointer (some ⟨C, 0, none⟩))
    (hc : w.cell? ⟨B, 0, none⟩ = some (.slice ad n c)) (hd : w.cell? ⟨C, 0, none⟩ = some (.int .i64 x)) : (results fn tmps).run Try.prog w = .ok (.tuple #[.slice ad n c, .int .i64 x]) w := by
  have ha' : tmps[a]?.getD undef = .pointer (some ⟨B, 0, none⟩) := by rw [← ha]; simp
  have hb' : tmps[b]?.getD undef = .pointer (some ⟨C, 0, none⟩) := by rw [← hb]; simp
  simp only [results, h]
  simp [go_sem, ha', hb', hc, hd]

theorem Tm.read_yes {l : List UInt8} {a : List Int} (h : Tm.rd 30 30 l = some (a, [])) : Tm.read l = (a, 0) := by unfold Tm.read; rw [h]
theorem Tm.read_none {l : List UInt8} (h : Tm.rd 30 30 l = none) : Tm.read l = ([], 1) := by unfold Tm.read; rw [h]
theorem Tm.read_more {l r : List UInt8} {b : UInt8} {a : List Int} (h : Tm.rd 30 30 l = some (a, b :: r)) : Tm.read l = ([], 1) := by unfold Tm.read; rw [h]
set_option maxRecDepth 100000 in
set_option maxHeartbeats 2000000 in
theorem read_any (l : List UInt8) (w : World) (hl : l.length ≤ 4096) : Calls Try.prog 18 #[sv l] w fun e w' => ∃ v, e = .returned (.tuple #[v, .int .i64 (Tm.read l).2]) ∧ New w.heap.size w' v (Tm.read l).1 ∧ Below w.heap.size w w' := by
  have hmf : ∀ (fn : Fn) (first cap : Array Value) (w : World), (Instr.makeFunc fn first cap).run Try.prog w = .ok (.func fn first cap) w := fun _ _ _ _ => rfl
  obtain ⟨W3, hW3⟩ : ∃ W3, ((w.alloc (.cells #[.slice none 0 0] 23)).alloc (.cells #[.int .i64 0] 24)).alloc (.cells #[sv l, .slice none 0 0] 62) = W3 := ⟨_, rfl⟩
  have b0 : Boxed W3 w.heap.size 23 (.slice none 0 0) := by rw [← hW3]; exact ((Boxed.new w _ _).alloc _).alloc _
  have b1 : Boxed W3 (w.heap.size + 1) 24 (.int .i64 0) := by
    rw [← hW3]
    have h := Boxed.new (w.alloc (.cells #[.slice none 0 0] 23)) 24 (.int .i64 0)
    rw [World.size_alloc] at h
    exact h.alloc _
  have hR : Rd2 W3 (w.heap.size + 1 + 1) (sv l) (.slice none 0 0) := by
    rw [← hW3]
    have h := Rd2.new ((w.alloc (.cells #[.slice none 0 0] 23)).alloc (.cells #[.int .i64 0] 24)) (sv l) (.slice none 0 0)
    simpa only [World.size_alloc] using h
  have hB3 : Below w.heap.size w W3 := by rw [← hW3]; exact (((Below.refl _ w).alloc (Nat.le_refl _) _).alloc (by simp) _).alloc (by simp; omega) _
  have hC := hid (term_all (w.heap.size + 1 + 1) 30 30 l [] _ W3 (Nat.le_refl _) rfl (by omega) hR (New.nil _ _))
  have HW3 := hid hW3
  clear hW3 hR
  go_enter_defers Try.func18, Try.ntmps18
  go_wp2_with fail
  rw [HW3.out]
  refine hC.out.mono ?_
  rintro e W4 ⟨b4, ⟨a, r, v, hd, rfl, R4, N4⟩ | ⟨hd, rfl⟩⟩
  · have bx0 : Boxed W4 w.heap.size 23 (.slice none 0 0) := (b4.block _ (by omega)).trans b0
    have bx1 : Boxed W4 (w.heap.size + 1) 24 (.int .i64 0) := (b4.block _ (by omega)).trans b1
    have B4 := hB3.trans (b4.mono (by omega))
    rw [List.nil_append] at N4
    have c0 := R4.cell0
    have c1 := R4.cell1
    obtain ⟨a4, n4, rfl, _⟩ := New.ints N4
    cases r with
    | nil =>
      have hA := hid (Tm.read_yes hd)
      have e0 := bx0.cell
      have f0 := bx0.frozen
      have e1 := bx1.cell
      have f1 := bx1.frozen
      clear hd hC
      go_wp2
      refine leaves_cons (f := 28) (args := #[.pointer (some ⟨w.heap.size, 0, none⟩), .pointer (some ⟨w.heap.size + 1, 0, none⟩)]) (by simp) (by simp [go_sem]) ?_
      refine (read_idle ⟨w.heap.size, 0, none⟩ ⟨w.heap.size + 1, 0, none⟩ _).mono ?_
      rintro e u' w2 ⟨rfl, rfl, rfl⟩
      have d0 := (bx0.set (.slice a4 a.length n4)).other (B' := w.heap.size + 1) (by omega) (.int .i64 0)
      have d1 := (bx1.other (B' := w.heap.size) (by omega) (.slice a4 a.length n4)).set (.int .i64 0)
      refine ⟨_, results_boxT rfl rfl rfl d0.cell d1.cell, ?_⟩
      rw [hA.out]
      refine ⟨_, rfl, ?_, (B4.setCell (p := ⟨w.heap.size, 0, none⟩) (Nat.le_refl _) _).setCell (p := ⟨w.heap.size + 1, 0, none⟩) (by show w.heap.size ≤ w.heap.size + 1; omega) _⟩
      refine ⟨N4.1, N4.2.elim .inl fun ⟨g, c, cur, h1, h2, h3, h4⟩ => .inr ⟨g, c, cur, h1, by omega, ?_, h4⟩⟩
      exact (Below.heap_setCell _ ⟨w.heap.size + 1, 0, none⟩ _ g (show g ≠ w.heap.size + 1 by omega)).trans ((Below.heap_setCell _ ⟨w.heap.size, 0, none⟩ _ g (show g ≠ w.heap.size by omega)).trans h3)
    | cons b r =>
      have hA := hid (Tm.read_more hd)
      clear hd hC
      go_wp2
      refine leaves_cons (f := 28) (args := #[.pointer (some ⟨w.heap.size, 0, none⟩), .pointer (some ⟨w.heap.size + 1, 0, none⟩)]) (by simp) (by simp [go_sem]) ?_
      refine (read_caught w.heap.size W4 bx0 bx1).mono ?_
      rintro e u' w2 ⟨rfl, rfl, b2, d0, d1⟩
      refine ⟨_, results_boxT rfl rfl rfl d0.cell d1.cell, ?_⟩
      rw [hA.out]
      exact ⟨_, rfl, New.nil _ _, B4.trans b2⟩
  · have bx0 : Boxed W4 w.heap.size 23 (.slice none 0 0) := (b4.block _ (by omega)).trans b0
    have bx1 : Boxed W4 (w.heap.size + 1) 24 (.int .i64 0) := (b4.block _ (by omega)).trans b1
    have B4 := hB3.trans (b4.mono (by omega))
    have hA := hid (Tm.read_none hd)
    clear hd hC
    go_wp2
    refine leaves_cons (f := 28) (args := #[.pointer (some ⟨w.heap.size, 0, none⟩), .pointer (some ⟨w.heap.size + 1, 0, none⟩)]) (by simp) (by simp [go_sem]) ?_
    refine (read_caught w.heap.size W4 bx0 bx1).mono ?_
    rintro e u' w2 ⟨rfl, rfl, b2, d0, d1⟩
    refine ⟨_, results_boxT rfl rfl rfl d0.cell d1.cell, ?_⟩
    rw [hA.out]
    exact ⟨_, rfl, New.nil _ _, B4.trans b2⟩

/-- What text.Read answers. -/
def Tm.readErr (l : List UInt8) : Int := if 4096 < l.length then 2 else (Tm.read l).2
def Tm.readVal (l : List UInt8) : List Int := if 4096 < l.length then [] else (Tm.read l).1
set_option maxRecDepth 100000 in
set_option maxHeartbeats 1000000 in
theorem Read_any (l : List UInt8) (w : World) (hm : l.length ≤ maxLen) : Calls Try.prog 8 #[sv l] w fun e w' => ∃ v, e = .returned (.tuple #[v, .int .i64 (Tm.readErr l)]) ∧ New w.heap.size w' v (Tm.readVal l) ∧ Below w.heap.size w w' := by
  have hm' : (l.length : Int) ≤ 9223372036854775807 := by unfold maxLen at hm; omega
  by_cases h : 4096 < l.length
  · have h' : (4096 : Int) < (l.length : Int) := by omega
    have hA : Hid (Tm.readErr l = 2 ∧ Tm.readVal l = []) := by unfold Tm.readErr Tm.readVal; rw [if_pos h, if_pos h]; exact ⟨rfl, rfl⟩
    clear h hm
    go_enter Try.func8, Try.ntmps8
    go_wp2
    go_ret2
    rw [hA.out.1, hA.out.2]
    exact ⟨_, rfl, New.nil _ _, Below.refl _ _⟩
  · have h' : ¬ (4096 : Int) < (l.length : Int) := by omega
    have hA : Hid (Tm.readErr l = (Tm.read l).2 ∧ Tm.readVal l = (Tm.read l).1) := by unfold Tm.readErr Tm.readVal; rw [if_neg h, if_neg h]; exact ⟨rfl, rfl⟩
    have hC := hid (read_any l w (by omega))
    clear h hm
    go_enter Try.func8, Try.ntmps8
    go_wp2_with fail
    refine hC.out.mono ?_
    rintro e w1 ⟨v, rfl, hN, b1⟩
    obtain ⟨a, c, rfl, _⟩ := New.ints hN
    go_wp2
    go_ret2
    rw [hA.out.1, hA.out.2]
    exact ⟨_, rfl, hN, b1⟩

end Go.Proofs.Ytcgljcbpcchcjaa

namespace Go.Proofs.Ytcgljcbpcchcjaa
open Go.Proofs Go.RowKit Go.Shelf Go.Maps

theorem Tm.fxga_show {l : List UInt8} {er : Int} (h : Tm.ShowSays [4, -1, 2, 0] l er) : er = 0 ∧ l = [102, 40, 120, 44, 103, 40, 97, 41, 41] := by
  rcases h with ⟨rfl, _, x, x1, _, x3, _, rfl⟩ | ⟨h1, h2, _⟩
  · have e : x = .two 4 (.leaf (-1)) (.one 2 (.leaf 0)) := Tr.flat_inj x1 ⟨.inl rfl, by show (-1 : Int) < 2; omega, .inl rfl, by show (0 : Int) < 2; omega⟩ x3
    subst e
    exact ⟨rfl, by decide +kernel⟩
  · exact absurd (h2.trans (by decide +kernel)) h1
set_option maxRecDepth 100000 in
set_option maxHeartbeats 2000000 in
theorem textBegun_any (w : World) : Calls Try.prog 9 #[] w fun e w' => e = .returned (.bool true) ∧ Below w.heap.size w w' := by
  have h1 := hid (fun W => Read_any [102, 40, 120, 44, 103, 40, 97, 41, 41] W (by unfold maxLen; simp))
  have h2 := hid (fun W => Read_any [102, 40, 120, 44, 32, 103, 40, 97, 41, 41] W (by unfold maxLen; simp))
  rw [show Tm.readErr [102, 40, 120, 44, 103, 40, 97, 41, 41] = 0 by decide +kernel, show Tm.readVal [102, 40, 120, 44, 103, 40, 97, 41, 41] = [4, -1, 2, 0] by decide +kernel] at h1
  rw [show Tm.readErr [102, 40, 120, 44, 32, 103, 40, 97, 41, 41] = 1 by decide +kernel, show Tm.readVal [102, 40, 120, 44, 32, 103, 40, 97, 41, 41] = [] by decide +kernel] at h2
  have hss := hid (fun W u v cu cv (hu : Ints W.heap.size W u [4, -1, 2, 0]) (hv : Ints W.heap.size W v [4, -1, 2, 0]) => same_any [4, -1, 2, 0] [4, -1, 2, 0] u v cu cv W hu hv (by unfold maxLen; simp))
  rw [show sameB [4, -1, 2, 0] [4, -1, 2, 0] = true by decide] at hss
  go_enter Try.func9, Try.ntmps9
  go_wp2_with fail
  refine (fxga_any _).mono ?_
  rintro e w1 ⟨a1, rfl, i1, b1⟩
  go_wp2_with fail
  refine (show_any [4, -1, 2, 0] a1 4 w1 i1).mono ?_
  rintro e w2 ⟨l, er, hs, rfl, b2⟩
  obtain ⟨rfl, rfl⟩ := Tm.fxga_show hs
  have B2 := b1.trans (b2.mono b1.size)
  clear hs i1 b1 b2
  go_wp2_with fail
  refine (h1.out w2).mono ?_
  rintro e w3 ⟨v3, rfl, hN3, b3⟩
  obtain ⟨a3, c3, rfl, i3, _⟩ := New.ints hN3
  have B3 := B2.trans (b3.mono B2.size)
  clear hN3 b3 B2
  go_wp2_with fail
  refine (h2.out w3).mono ?_
  rintro e w4 ⟨v4, rfl, hN4, b4⟩
  obtain ⟨a4, c4, rfl, _⟩ := New.ints hN4
  have i4 := (i3.below b4).mono b4.size
  have B4 := B3.trans (b4.mono B3.size)
  clear hN4 b4 B3 i3
  go_wp2_with fail
  refine (fxga_any _).mono ?_
  rintro e w5 ⟨a5, rfl, i5, b5⟩
  have i6 := (i4.below b5).mono b5.size
  have B5 := B4.trans (b5.mono B4.size)
  go_wp2_with fail
  refine (hss.out w5 a3 a5 c3 4 i6 i5).mono ?_
  rintro e w6 ⟨rfl, b6⟩
  go_wp2
  go_ret
  exact ⟨rfl, B5.trans (b6.mono B5.size)⟩

end Go.Proofs.Ytcgljcbpcchcjaa
