/-
  hasplaw.SubTrue: it answers true.
-/
import Derived.Test.YtbelnlemjcoifaaSub12
namespace Go.Proofs.Ytbelnlemjcoifaa
open Go.Proofs Go.RowKit Go.Shelf

theorem Tm.none_apply {t : List Int} (h : Tm.err t = 0) : Tm.applyErr (Tm.noneL 8) t = 0 ∧ Tm.applyVal (Tm.noneL 8) t = t := by
  have e := Tm.applied_none t (Tm.err_all h)
  have hl := Tm.err_len h
  obtain ⟨h1, h2⟩ := Tm.apply_ok Tm.s9 h
  rw [e, if_neg (by omega)] at h1 h2
  exact ⟨h1, h2⟩
theorem Tm.both_same {ss us : List (List Int)} {t : List Int} (ht : Tm.err t = 0) (he : Tm.applyErr ss t = 0) (hi : Tm.afterErr ss us = 0) :
    Tm.applyErr us (Tm.applyVal ss t) = Tm.applyErr (Tm.afterVal ss us) t ∧ Tm.applyVal us (Tm.applyVal ss t) = Tm.applyVal (Tm.afterVal ss us) t := by
  have hs : Tm.subErr ss = 0 := by
    by_cases h : Tm.subErr ss = 0
    · exact h
    · rw [(Tm.apply_s h).1] at he; exact he
  have hu : Tm.subErr us = 0 := by
    by_cases h : Tm.subErr us = 0
    · exact h
    · rw [(Tm.after_u hs h).1] at hi; exact hi
  have hf : ss.all (Tm.fits us) = true := by
    by_cases h : ss.all (Tm.fits us) = true
    · exact h
    · unfold Tm.afterErr at hi
      rw [if_pos hs, if_pos hu, if_neg h] at hi
      omega
  obtain ⟨h1, h2⟩ := Tm.apply_ok hs ht
  have hle : ¬ 30 < (Tm.applied ss t).length := by
    intro hb
    rw [if_pos hb] at h1
    omega
  rw [if_neg hle] at h2
  have hx := Tm.err_applied (Terms.of hs) ht (by omega)
  obtain ⟨_, h4⟩ := Tm.after_ok hs hu hf
  have hb := Tm.subErr_after hs hu hf
  have e := Tm.applied_after (us := us) (Tm.subErr_ok hs).1 t (Tm.err_all ht)
  obtain ⟨q1, q2⟩ := Tm.apply_ok hu hx
  obtain ⟨q3, q4⟩ := Tm.apply_ok hb ht
  rw [h2, h4, q1, q2, q3, q4, e]
  exact ⟨rfl, rfl⟩

set_option maxRecDepth 100000 in
set_option maxHeartbeats 400000 in
theorem subTrue_wrong (t : List Int) (a0 a1 a2 : Option Addr) (n0 n1 c0 c1 c2 : Nat) (w : World) (hT : Ints w.heap.size w a2 t) (he : Tm.err t ≠ 0) :
    Calls Try.prog 8 #[.slice a0 n0 c0, .slice a1 n1 c1, .slice a2 t.length c2] w fun e w' => e = .returned (.bool true) ∧ Below w.heap.size w w' := by
  have hP := subPlain_any t a2 c2 w hT
  have hne : (Tm.err t != 0) = true := by simp [he]
  clear he hT
  generalize Tm.err t = q at *
  go_enter Try.func8, Try.ntmps8
  go_wp2_with fail
  refine hP.mono ?_
  rintro e w1 ⟨v, rfl, hN, hB1⟩
  obtain ⟨x, c, rfl, _⟩ := New.ints hN
  go_wp2_with fail
  refine (subBegun_any _).mono ?_
  rintro e w2 ⟨rfl, hB2⟩
  go_wp2
  go_ret
  exact ⟨rfl, hB1.trans (hB2.mono hB1.size)⟩

theorem plain_at2 {t : List Int} (h : Tm.err t = 0) (a : Option Addr) (c : Nat) (W : World) (hI : Ints W.heap.size W a t) :
    Calls Try.prog 31 #[.slice a t.length c] W fun e w' => ∃ x y, e = .returned (.tuple #[.slice x (Tm.plain t).length y, .int .i64 0]) ∧ Ints w'.heap.size w' x (Tm.plain t) ∧ Below W.heap.size W w' := by
  have q := subPlain_any t a c W hI
  rw [h, show Tm.plainVal t = Tm.plain t by simp [Tm.plainVal, h]] at q
  refine q.mono ?_
  rintro e w' ⟨v, rfl, hN, hB⟩
  obtain ⟨x, y, rfl, h1, _⟩ := New.ints hN
  exact ⟨x, y, rfl, h1, hB⟩
theorem apply_at (ss : List (List Int)) (t : List Int) (a b : Option Addr) (c d : Nat) (W : World) (hS : Subs W.heap.size W a ss) (hT : Ints W.heap.size W b t) :
    Calls Try.prog 25 #[.slice a ss.length c, .slice b t.length d] W fun e w' => ∃ x y, e = .returned (.tuple #[.slice x (Tm.applyVal ss t).length y, .int .i64 (Tm.applyErr ss t)]) ∧ Ints w'.heap.size w' x (Tm.applyVal ss t) ∧ Below W.heap.size W w' := by
  refine (apply_any ss t a b c d W hS hT).mono ?_
  rintro e w' ⟨v, rfl, hN, hB⟩
  obtain ⟨x, y, rfl, h1, _⟩ := New.ints hN
  exact ⟨x, y, rfl, h1, hB⟩
theorem after_at (ss us : List (List Int)) (a b : Option Addr) (c d : Nat) (W : World) (hS : Subs W.heap.size W a ss) (hU : Subs W.heap.size W b us) :
    Calls Try.prog 30 #[.slice a ss.length c, .slice b us.length d] W fun e w' => ∃ x y, e = .returned (.tuple #[.slice x (Tm.afterVal ss us).length y, .int .i64 (Tm.afterErr ss us)]) ∧ Subs w'.heap.size w' x (Tm.afterVal ss us) ∧ Below W.heap.size W w' := by
  refine (after_any ss us a b c d W hS hU).mono ?_
  rintro e w' ⟨v, rfl, hN, hB⟩
  obtain ⟨x, y, rfl, h1, _⟩ := NewS.subs hN
  exact ⟨x, y, rfl, h1, hB⟩

set_option maxRecDepth 100000 in
set_option maxHeartbeats 2000000 in
theorem subTrue_right (ss us : List (List Int)) (t : List Int) (a0 a1 a2 : Option Addr) (c0 c1 c2 : Nat) (w : World) (hS : Subs w.heap.size w a0 ss) (hU : Subs w.heap.size w a1 us) (hT : Ints w.heap.size w a2 t) (he : Tm.err t = 0) :
    Calls Try.prog 8 #[.slice a0 ss.length c0, .slice a1 us.length c1, .slice a2 t.length c2] w fun e w' => e = .returned (.bool true) ∧ Below w.heap.size w w' := by
  have hP := plain_at2 he a2 c2 w hT
  have ht30 := Tm.err_len he
  have HN := hid (Tm.none_apply he)
  have Hpe := hid (Tm.plain_err he)
  have Hpp := hid (Tm.plain_plain t)
  have Hpl := hid (Tm.plain_length t)
  have Hboth : Hid (Tm.applyErr ss t = 0 → Tm.afterErr ss us = 0 → Tm.applyErr us (Tm.applyVal ss t) = Tm.applyErr (Tm.afterVal ss us) t ∧ Tm.applyVal us (Tm.applyVal ss t) = Tm.applyVal (Tm.afterVal ss us) t) := fun h1 h2 => Tm.both_same he h1 h2
  have HS := hid hS
  have HU := hid hU
  have HT := hid hT
  clear hS hU hT he
  go_enter Try.func8, Try.ntmps8
  go_wp2_with fail
  refine hP.mono ?_
  rintro e w1 ⟨xp, yp, rfl, hIp, hB1⟩
  clear hP
  go_wp2_with fail
  refine (c_none _).mono ?_
  rintro e w2 ⟨an, cn, rfl, hSn, hB2⟩
  have hB3 := hB1.trans (hB2.mono hB1.size)
  have hIp2 := (hIp.below hB2).mono hB2.size
  clear hB1 hB2 hIp
  have hA := apply_at (Tm.noneL 8) t an a2 cn c2 w2 hSn ((HT.out.below hB3).mono hB3.size)
  rw [HN.out.1, HN.out.2] at hA
  have hA' : Calls Try.prog 25 #[.slice an 8 cn, .slice a2 t.length c2] w2 fun e w' => ∃ x y, e = .returned (.tuple #[.slice x t.length y, .int .i64 0]) ∧ Ints w'.heap.size w' x t ∧ Below w2.heap.size w2 w' := hA
  clear hA hSn
  go_wp2_with fail
  refine hA'.mono ?_
  rintro e w3 ⟨xs, ys, rfl, hIs, hB4⟩
  have hB5 := hB3.trans (hB4.mono hB3.size)
  have hIp3 := (hIp2.below hB4).mono hB4.size
  clear hA' hB3 hB4 hIp2
  have hP2 := plain_at2 Hpe.out xp yp w3 hIp3
  rw [Hpp.out] at hP2
  go_wp2_with fail
  refine hP2.mono ?_
  rintro e w4 ⟨xa, ya, rfl, hIa, hB6⟩
  have hB7 := hB5.trans (hB6.mono hB5.size)
  have hIp4 := (hIp3.below hB6).mono hB6.size
  have hIs4 := (hIs.below hB6).mono hB6.size
  clear hP2 hB5 hB6 hIp3 hIs
  have hS1 := b_same t t.length xs a2 ys c2 w4 rfl (by omega) hIs4 ((HT.out.below hB7).mono hB7.size)
  go_wp2_with fail
  refine hS1.mono ?_
  rintro e w5 ⟨rfl, hB8⟩
  have hB9 := hB7.trans (hB8.mono hB7.size)
  have hIp5 := (hIp4.below hB8).mono hB8.size
  have hIa5 := (hIa.below hB8).mono hB8.size
  clear hS1 hB7 hB8 hIp4 hIa hIs4
  have hS2 := b_same (Tm.plain t) (Tm.plain t).length xa xp ya yp w5 rfl (by rw [Hpl.out]; omega) hIa5 hIp5
  have hne : (((Tm.plain t).length : Int) != (t.length : Int)) = false := by rw [Hpl.out]; simp
  go_wp2_with fail
  refine hS2.mono ?_
  rintro e w6 ⟨rfl, hB10⟩
  have hB11 := hB9.trans (hB10.mono hB9.size)
  clear hS2 hB9 hB10 hIp5 hIa5
  have hA1 := apply_at ss t a0 a2 c0 c2 w6 ((HS.out.below hB11).mono hB11.size) ((HT.out.below hB11).mono hB11.size)
  go_wp2_with fail
  refine hA1.mono ?_
  rintro e w7 ⟨xx, yx, rfl, hIx, hB12⟩
  have hB13 := hB11.trans (hB12.mono hB11.size)
  clear hA1 hB11 hB12 hne
  have hA2 := after_at ss us a0 a1 c0 c1 w7 ((HS.out.below hB13).mono hB13.size) ((HU.out.below hB13).mono hB13.size)
  go_wp2_with fail
  refine hA2.mono ?_
  rintro e w8 ⟨xb, yb, rfl, hSb, hB14⟩
  have hB15 := hB13.trans (hB14.mono hB13.size)
  have hIx8 := (hIx.below hB14).mono hB14.size
  clear hA2 hB13 hB14 hIx
  by_cases he : Tm.applyErr ss t = 0
  · by_cases hi : Tm.afterErr ss us = 0
    · obtain ⟨q1, q2⟩ := Hboth.out he hi
      rw [he, hi]
      have hA3 := apply_at us (Tm.applyVal ss t) a1 xx c1 yx w8 ((HU.out.below hB15).mono hB15.size) hIx8
      have hA4 : ∀ W, Below w8.heap.size w8 W → Calls Try.prog 25 #[.slice xb (Tm.afterVal ss us).length yb, .slice a2 t.length c2] W fun e w' => ∃ x y, e = .returned (.tuple #[.slice x (Tm.applyVal us (Tm.applyVal ss t)).length y, .int .i64 (Tm.applyErr us (Tm.applyVal ss t))]) ∧ Ints w'.heap.size w' x (Tm.applyVal us (Tm.applyVal ss t)) ∧ Below W.heap.size W w' := fun W hW => by
        rw [q1, q2]
        exact apply_at (Tm.afterVal ss us) t xb a2 yb c2 W ((hSb.below hW).mono hW.size) ((HT.out.below (hB15.trans (hW.mono hB15.size))).mono (by have := hB15.size; have := hW.size; omega))
      have HA4 := hid hA4
      have Hvl := hid (Tm.applyVal_le us (Tm.applyVal ss t))
      clear hA4 q1 q2 he hi hSb hIx8 Hboth
      generalize Tm.applyErr us (Tm.applyVal ss t) = q at *
      generalize Tm.applyVal us (Tm.applyVal ss t) = z at *
      go_wp2_with fail
      refine hA3.mono ?_
      rintro e w9 ⟨x9, y9, rfl, hI9, hB16⟩
      clear hA3
      go_wp2_with fail
      refine (HA4.out _ hB16).mono ?_
      rintro e w10 ⟨x10, y10, rfl, hI10, hB17⟩
      have hI9' := (hI9.below hB17).mono hB17.size
      have hB18 := (hB15.trans (hB16.mono hB15.size)).trans (hB17.mono (by have := hB15.size; have := hB16.size; omega))
      clear HA4 hI9 hB15 hB16 hB17
      go_wp2_with fail
      refine (subBegun_any _).mono ?_
      rintro e w11 ⟨rfl, hB19⟩
      have hS3 := b_same z z.length x9 x10 y9 y10 w11 rfl (by have := Hvl.out; omega) ((hI9'.below hB19).mono hB19.size) ((hI10.below hB19).mono hB19.size)
      have hB20 := hB18.trans (hB19.mono hB18.size)
      clear hB18 hB19 hI9' hI10
      go_wp2_with fail
      refine hS3.mono ?_
      rintro e w12 ⟨rfl, hB21⟩
      go_wp2
      go_ret
      exact ⟨rfl, hB20.trans (hB21.mono hB20.size)⟩
    · have hni : (Tm.afterErr ss us != 0) = true := by simp [hi]
      rw [he]
      clear he hi Hboth
      generalize Tm.afterErr ss us = q at *
      go_wp2_with fail
      refine (subBegun_any _).mono ?_
      rintro e w9 ⟨rfl, hB16⟩
      go_wp2
      go_ret
      exact ⟨rfl, hB15.trans (hB16.mono hB15.size)⟩
  · have hni : (Tm.applyErr ss t != 0) = true := by simp [he]
    clear he Hboth
    generalize Tm.applyErr ss t = q at *
    go_wp2_with fail
    refine (subBegun_any _).mono ?_
    rintro e w9 ⟨rfl, hB16⟩
    go_wp2
    go_ret
    exact ⟨rfl, hB15.trans (hB16.mono hB15.size)⟩

end Go.Proofs.Ytbelnlemjcoifaa
