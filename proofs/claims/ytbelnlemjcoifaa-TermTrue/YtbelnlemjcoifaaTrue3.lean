/-
  hasplaw.TermTrue: it answers true.
-/
import Derived.Deep.RegionHeld3
import Derived.Test.YtbelnlemjcoifaaTrue2
import Derived.Test.YtbelnlemjcoifaaRow
namespace Go.Proofs.Ytbelnlemjcoifaa
open Go.Proofs Go.RowKit Go.Shelf

set_option maxRecDepth 100000 in
set_option maxHeartbeats 400000 in
theorem true_wrong (zs us : List Int) (a au : Option Addr) (cap cu : Nat) (k : Int) (w : World) (hI : Ints w.heap.size w a zs) (he : Tm.err zs ≠ 0) :
    Calls Try.prog 5 #[.slice a zs.length cap, .int .i64 k, .slice au us.length cu] w fun e w' => e = .returned (.bool true) ∧ Below w.heap.size w w' := by
  have hC := check_any zs a cap w hI
  have hne : (Tm.err zs != 0) = true := by simp [he]
  clear he hI
  generalize Tm.err zs = q at *
  go_enter Try.func5, Try.ntmps5
  go_wp2_with fail
  refine hC.mono ?_
  rintro e w1 ⟨rfl, hB1⟩
  go_wp2_with fail
  refine (termBegun_any _).mono ?_
  rintro e w2 ⟨rfl, hB2⟩
  go_wp2
  go_ret
  exact ⟨rfl, hB1.trans (hB2.mono hB1.size)⟩

/-- What the middle of TermTrue leaves: p, n and x, g, whatever they are. -/
theorem part_at {zs : List Int} (he : Tm.err zs = 0) {j : Nat} (hj : j < zs.length) (a : Option Addr) (cap : Nat) (W : World) (hI : Ints W.heap.size W a zs) (hcap : zs.length ≤ cap) :
    Calls Try.prog 15 #[.slice a zs.length cap, .int .i64 (j : Int)] W fun e w' => ∃ b c, e = .returned (.tuple #[.slice b (Tm.part zs j).length c, .int .i64 0]) ∧ Ints w'.heap.size w' b (Tm.part zs j) ∧ (Tm.part zs j).length ≤ c ∧ c ≤ maxLen ∧ Below W.heap.size W w' := by
  have h := termPart_any zs a cap (j : Int) W hI hcap
  have hp := Tm.place_of (k := (j : Int)) he (by omega) (by omega)
  rw [hp, show Tm.partVal zs (j : Int) = Tm.part zs j by simp [Tm.partVal, hp]] at h
  refine h.mono ?_
  rintro e w' ⟨v, rfl, hN, hB⟩
  obtain ⟨b, c, rfl, h1, h2, h3⟩ := New.ints hN
  exact ⟨b, c, rfl, h1, h2, h3, hB⟩
theorem end_at {zs : List Int} (he : Tm.err zs = 0) {j : Nat} (hj : j < zs.length) (a : Option Addr) (cap : Nat) (W : World) (hI : Ints W.heap.size W a zs) :
    Calls Try.prog 14 #[.slice a zs.length cap, .int .i64 (j : Int)] W fun e w' => e = .returned (.tuple #[.int .i64 (Tm.endAt zs j : Int), .int .i64 0]) ∧ Below W.heap.size W w' := by
  have h := termEnd_any zs a cap (j : Int) W hI
  have hp := Tm.place_of (k := (j : Int)) he (by omega) (by omega)
  rw [hp, show Tm.endVal zs (j : Int) = (Tm.endAt zs j : Int) by simp [Tm.endVal, hp]] at h
  exact h
theorem put_at {zs us : List Int} (he : Tm.err zs = 0) (hu : Tm.err us = 0) {j : Nat} (hj : j < zs.length) (hl : (Tm.put zs j us).length ≤ 30) (a au : Option Addr) (cap cu : Nat) (W : World) (hI : Ints W.heap.size W a zs) (hU : Ints W.heap.size W au us) (hcap : zs.length ≤ cap) (hcap2 : cap ≤ maxLen) :
    Calls Try.prog 22 #[.slice a zs.length cap, .int .i64 (j : Int), .slice au us.length cu] W fun e w' => ∃ b c, e = .returned (.tuple #[.slice b (Tm.put zs j us).length c, .int .i64 0]) ∧ Ints w'.heap.size w' b (Tm.put zs j us) ∧ (Tm.put zs j us).length ≤ c ∧ c ≤ maxLen ∧ Below W.heap.size W w' := by
  have h := termPut_any zs us a au cap cu (j : Int) W hI hU hcap hcap2
  have hp : insideB (j : Int) 0 ((zs.length : Int) - 1) = true := (insideB_iff _ _ _).2 ⟨by omega, by omega⟩
  rw [Tm.putErr_in he hu hp, Tm.putVal_in he hu hp, if_neg (by omega), if_neg (by omega)] at h
  refine h.mono ?_
  rintro e w' ⟨v, rfl, hN, hB⟩
  obtain ⟨b, c, rfl, h1, h2, h3⟩ := New.ints hN
  exact ⟨b, c, rfl, h1, h2, h3, hB⟩
theorem put_not {zs us : List Int} {k : Int} (hne : Tm.putErr zs k us ≠ 0) (a au : Option Addr) (cap cu : Nat) (W : World) (hI : Ints W.heap.size W a zs) (hU : Ints W.heap.size W au us) (hcap : zs.length ≤ cap) (hcap2 : cap ≤ maxLen) :
    Calls Try.prog 22 #[.slice a zs.length cap, .int .i64 k, .slice au us.length cu] W fun e w' => ∃ b c, e = .returned (.tuple #[.slice b 0 c, .int .i64 (Tm.putErr zs k us)]) ∧ Below W.heap.size W w' := by
  have h := termPut_any zs us a au cap cu k W hI hU hcap hcap2
  rw [Tm.putVal_out hne] at h
  refine h.mono ?_
  rintro e w' ⟨v, rfl, hN, hB⟩
  obtain ⟨b, c, rfl, h1, h2, h3⟩ := New.ints hN
  exact ⟨b, c, rfl, hB⟩

set_option maxRecDepth 100000 in
set_option maxHeartbeats 20000000 in
theorem true_right (zs us : List Int) (a au : Option Addr) (cap cu : Nat) (k : Int) (w : World) (hI : Ints w.heap.size w a zs) (hU : Ints w.heap.size w au us) (hcap : zs.length ≤ cap) (hcap2 : cap ≤ maxLen) (hk : (Lit.int .i64 k).wf = true) (he : Tm.err zs = 0) :
    Calls Try.prog 5 #[.slice a zs.length cap, .int .i64 k, .slice au us.length cu] w fun e w' => e = .returned (.bool true) ∧ Below w.heap.size w w' := by
  have hC := check_any zs a cap w hI
  rw [he] at hC
  have h30 := Tm.err_len he
  have hpos := Tm.err_pos he
  have hz : ((zs.length : Int) == 0) = false := beq_eq_false_iff_ne.2 (by omega)
  have hz30 : (zs.length : Int) ≤ 30 := by omega
  have HI := hid hI
  have HU := hid hU
  have HE : Hid (Tm.err zs = 0) := he
  have Hcap2 := hid hcap2
  clear hI hU he hcap2
  go_enter Try.func5, Try.ntmps5
  go_wp2_with fail
  refine hC.mono ?_
  rintro e w1 ⟨rfl, hB1⟩
  clear hC
  go_wp2_with fail
  refine (choose_any k zs.length hk hpos (by omega) _).mono ?_
  rintro e w1 ⟨⟨j, hj, rfl⟩, rfl⟩
  clear hz hk hpos
  go_wp2_with fail
  refine (part_at HE.out hj a cap _ ((HI.out.below hB1).mono hB1.size) hcap).mono ?_
  rintro e w2 ⟨b2, c2, rfl, hI2, hc2, hc2', hB2⟩
  have hB3 := hB1.trans (hB2.mono hB1.size)
  clear hB1 hB2
  go_wp2_with fail
  refine (end_at HE.out hj a cap _ ((HI.out.below hB3).mono hB3.size)).mono ?_
  rintro e w3 ⟨rfl, hB4⟩
  have hB5 := hB3.trans (hB4.mono hB3.size)
  have hI3 := (hI2.below hB4).mono hB4.size
  clear hB3 hB4 hI2
  have hei := Tm.end_in HE.out hj
  have heg := Tm.endAt_gt zs j
  have hpl := Tm.part_length HE.out hj
  have Hpe := hid (Tm.part_err HE.out hj)
  have hCp := check_any (Tm.part zs j) b2 c2 w3 hI3
  rw [Hpe.out] at hCp
  have t1 : ¬ (Tm.endAt zs j : Int) ≤ (j : Int) := by omega
  have t2 : ¬ (zs.length : Int) < (Tm.endAt zs j : Int) := by omega
  have t3 : ((Tm.endAt zs j : Int) - (j : Int) != ((Tm.part zs j).length : Int)) = false := by rw [hpl]; simp; omega
  have t4 : (Tm.endAt zs j : Int) ≤ 30 := by omega
  have Hpl := hid hpl
  clear hpl
  go_wp2_with fail
  refine hCp.mono ?_
  rintro e w4 ⟨rfl, hB6⟩
  have hB7 := hB5.trans (hB6.mono hB5.size)
  have hI4 := (hI3.below hB6).mono hB6.size
  clear hCp hB5 hB6 hI3 t1 t2 t3 t4
  have hp : insideB (j : Int) 0 ((zs.length : Int) - 1) = true := (insideB_iff _ _ _).2 ⟨by omega, by omega⟩
  have Hp := hid hp
  clear hp
  by_cases hu : Tm.err us = 0
  · by_cases hl : (Tm.put zs j us).length ≤ 30
    · -- IT FITS
      have hxe := Tm.put_err HE.out hu hj hl
      have hxl := Tm.put_length (us := us) hj
      have hup := Tm.err_pos hu
      have hu30 := Tm.err_len hu
      have hxj : j < (Tm.put zs j us).length := by omega
      have hP1 := put_at HE.out hu hj hl a au cap cu w4 ((HI.out.below hB7).mono hB7.size) ((HU.out.below hB7).mono hB7.size) hcap Hcap2.out
      have hP2 : ∀ (b : Option Addr) (c : Nat) (W : World), Ints W.heap.size W b (Tm.put zs j us) → (Tm.put zs j us).length ≤ c → Calls Try.prog 15 #[.slice b (Tm.put zs j us).length c, .int .i64 (j : Int)] W fun e w' => ∃ b c, e = .returned (.tuple #[.slice b us.length c, .int .i64 0]) ∧ Ints w'.heap.size w' b us ∧ Below W.heap.size W w' := fun b c W hX hc => by
        have h := part_at hxe hxj b c W hX hc
        rw [Tm.put_part hu hj] at h
        exact h.mono fun e w' ⟨b, c, h1, h2, _, _, h3⟩ => ⟨b, c, h1, h2, h3⟩
      have hP3 : ∀ (b : Option Addr) (c : Nat) (W : World), Ints W.heap.size W b (Tm.put zs j us) → (Tm.put zs j us).length ≤ c → c ≤ maxLen → Ints W.heap.size W b2 (Tm.part zs j) → Calls Try.prog 22 #[.slice b (Tm.put zs j us).length c, .int .i64 (j : Int), .slice b2 (Tm.part zs j).length c2] W fun e w' => ∃ b c, e = .returned (.tuple #[.slice b zs.length c, .int .i64 0]) ∧ Ints w'.heap.size w' b zs ∧ Below W.heap.size W w' := fun b c W hX hc hc' hp => by
        have h := put_at hxe Hpe.out hxj (by rw [Tm.put_back hu hj]; exact h30) b b2 c c2 W hX hp hc hc'
        rw [Tm.put_back hu hj] at h
        exact h.mono fun e w' ⟨b, c, h1, h2, _, _, h3⟩ => ⟨b, c, h1, h2, h3⟩
      have HP2 := hid hP2
      have HP3 := hid hP3
      have Htake := hid (Tm.put_take (us := us) hj)
      have heq : (((Tm.put zs j us).length : Int) == (zs.length : Int) - ((Tm.part zs j).length : Int) + (us.length : Int)) = true := by
        rw [beq_iff_eq, hxl, Hpl.out]; omega
      have heq2 : ((Tm.put zs j us).length : Int) = (zs.length : Int) - ((Tm.part zs j).length : Int) + (us.length : Int) := by rw [hxl, Hpl.out]; omega
      have Heq2 := hid heq2
      clear heq2
      have hpl30 : ((Tm.part zs j).length : Int) ≤ 30 := by rw [Hpl.out]; omega
      have hu30' : (us.length : Int) ≤ 30 := by omega
      obtain ⟨ba, oa, rfl, _, _⟩ := HI.out.at (by omega)
      clear hP2 hP3 hxe hxl hu hl Hpe Hpl HE Hp
      generalize Tm.put zs j us = X at *
      generalize Tm.part zs j = P at *
      go_wp2_with fail
      refine hP1.mono ?_
      rintro e w5 ⟨b5, c5, rfl, hI5, hc5, hc5', hB8⟩
      have hB9 := hB7.trans (hB8.mono hB7.size)
      have hIp5 := (hI4.below hB8).mono hB8.size
      clear hP1 hB7 hB8 hI4
      go_wp2_with fail
      refine (HP2.out _ _ _ hI5 hc5).mono ?_
      rintro e w6 ⟨b6, c6, rfl, hI6, hB10⟩
      have hB11 := hB9.trans (hB10.mono hB9.size)
      have hIp6 := (hIp5.below hB10).mono hB10.size
      have hIx6 := (hI5.below hB10).mono hB10.size
      clear HP2 hB9 hB10 hI5 hIp5
      go_wp2_with fail
      refine (HP3.out _ _ _ hIx6 hc5 hc5' hIp6).mono ?_
      rintro e w7 ⟨b7, c7, rfl, hI7, hB12⟩
      have hB13 := hB11.trans (hB12.mono hB11.size)
      have hIq7 := (hI6.below hB12).mono hB12.size
      have hIx7 := (hIx6.below hB12).mono hB12.size
      clear HP3 hB11 hB12 hI6 hIx6 hIp6
      obtain ⟨bx, ox, rfl, _, _⟩ := hIx7.at (by omega)
      have hS1 : ∀ W, Below w7.heap.size w7 W → Calls Try.prog 21 #[.slice b6 us.length c6, .slice au us.length cu] W fun e w' => e = .returned (.bool true) ∧ Below W.heap.size W w' := fun W hW =>
        b_same us us.length b6 au c6 cu W rfl (by omega) ((hIq7.below hW).mono hW.size) ((HU.out.below (hB13.trans (hW.mono hB13.size))).mono (by have := hB13.size; have := hW.size; omega))
      have hS2 : ∀ W, Below w7.heap.size w7 W → Calls Try.prog 21 #[.slice b7 zs.length c7, .slice (some ⟨ba, oa, none⟩) zs.length cap] W fun e w' => e = .returned (.bool true) ∧ Below W.heap.size W w' := fun W hW =>
        b_same zs zs.length b7 _ c7 cap W rfl (by omega) ((hI7.below hW).mono hW.size) ((HI.out.below (hB13.trans (hW.mono hB13.size))).mono (by have := hB13.size; have := hW.size; omega))
      have hS3 : ∀ W, Below w7.heap.size w7 W → Calls Try.prog 21 #[.slice (some ⟨bx, ox, none⟩) j c5, .slice (some ⟨ba, oa, none⟩) j cap] W fun e w' => e = .returned (.bool true) ∧ Below W.heap.size W w' := fun W hW => by
        have h1 : Ints W.heap.size W (some ⟨bx, ox, none⟩) (zs.take j) := by rw [← Htake.out]; exact ((hIx7.below hW).mono hW.size).take j
        have h2 : Ints W.heap.size W (some ⟨ba, oa, none⟩) (zs.take j) := ((HI.out.below (hB13.trans (hW.mono hB13.size))).mono (by have := hB13.size; have := hW.size; omega)).take j
        exact b_same (zs.take j) j _ _ c5 cap W (by rw [List.length_take]; omega) (by rw [List.length_take]; omega) h1 h2
      have HS1 := hid hS1
      have HS2 := hid hS2
      have HS3 := hid hS3
      have hmc : cap ≤ 9223372036854775807 := Hcap2.out
      have hmc5 : c5 ≤ 9223372036854775807 := hc5'
      have q1 : (j : Int) ≤ (cap : Int) := by omega
      have q2 : (j : Int) ≤ (c5 : Int) := by omega
      clear hS1 hS2 hS3 hIq7 hI7 hIx7 HI HU Hcap2 hc5' hc2'
      go_wp2_with fail
      have heq2 := Heq2.out
      have hw1 : IntKind.i64.wrap ((zs.length : Int) - (P.length : Int)) = (zs.length : Int) - (P.length : Int) := by rw [IntKind.wrap_i64]; omega
      have hw2 : IntKind.i64.wrap ((zs.length : Int) - (P.length : Int) + (us.length : Int)) = (zs.length : Int) - (P.length : Int) + (us.length : Int) := by rw [IntKind.wrap_i64]; omega
      clear heq
      go_region_held3 (fun w' => Below w7.heap.size w7 w') (first | assumption | exact below_drewN (Below.refl _ _) 1) (first
        | (go_at_call 18; refine (termBegun_any _).mono ?_; rintro e w8 ⟨rfl, hB14⟩; have hB15 : Below w7.heap.size w7 w8 := (below_drewN (Below.refl _ w7) 1).trans (hB14.mono (by exact Nat.le_refl _)))
        | (go_at_call_of 21 (Value.slice b6 us.length c6); refine (HS1.out _ hB15).mono ?_; rintro e w9 ⟨rfl, hB16⟩; have hB17 := hB15.trans (hB16.mono hB15.size))
        | (go_at_call_of 21 (Value.slice b7 zs.length c7); refine (HS2.out _ hB17).mono ?_; rintro e w10 ⟨rfl, hB18⟩; have hB19 := hB17.trans (hB18.mono hB17.size))
        | (go_at_call_of 21 (Value.slice (some { block := bx, off := ox, spot := none }) j c5); refine (HS3.out _ hB19).mono ?_; rintro e w11 ⟨rfl, hB20⟩; have hB21 := hB19.trans (hB20.mono hB19.size)))
      all_goals (
        go_wp2
        go_ret
        exact ⟨rfl, hB13.trans (hB21.mono hB13.size)⟩)
    · -- TOO LARGE
      have hpe : Tm.putErr zs (j : Int) us = 2 := by rw [Tm.putErr_in HE.out hu Hp.out, if_pos (by omega)]
      have hP := put_not (k := (j : Int)) (by rw [hpe]; decide) a au cap cu w4 ((HI.out.below hB7).mono hB7.size) ((HU.out.below hB7).mono hB7.size) hcap Hcap2.out
      rw [hpe] at hP
      clear hpe hl hu
      go_wp2_with fail
      refine hP.mono ?_
      rintro e w5 ⟨b5, c5, rfl, hB8⟩
      clear hP
      go_wp2_with fail
      refine (termBegun_any _).mono ?_
      rintro e w6 ⟨rfl, hB9⟩
      go_wp2
      go_ret
      exact ⟨rfl, (hB7.trans (hB8.mono hB7.size)).trans (hB9.mono (by have := hB7.size; have := hB8.size; omega))⟩
  · -- u IS NO TERM
    have hpe : Tm.putErr zs (j : Int) us = Tm.err us := Tm.putErr_us HE.out hu
    have hP := put_not (k := (j : Int)) (by rw [hpe]; exact hu) a au cap cu w4 ((HI.out.below hB7).mono hB7.size) ((HU.out.below hB7).mono hB7.size) hcap Hcap2.out
    rw [hpe] at hP
    have hC2 : ∀ W, Below w.heap.size w W → Calls Try.prog 19 #[.slice au us.length cu] W fun e w' => e = .returned (.int .i64 (Tm.err us)) ∧ Below W.heap.size W w' := fun W hW => check_any us au cu W ((HU.out.below hW).mono hW.size)
    have HC2 := hid hC2
    have hne : (Tm.err us != 0) = true := by simp [hu]
    clear hpe hu hC2
    generalize Tm.err us = q at *
    by_cases h2 : q = 2
    · subst h2
      go_wp2_with fail
      refine hP.mono ?_
      rintro e w5 ⟨b5, c5, rfl, hB8⟩
      clear hP
      go_wp2_with fail
      refine (termBegun_any _).mono ?_
      rintro e w6 ⟨rfl, hB9⟩
      go_wp2
      go_ret
      exact ⟨rfl, (hB7.trans (hB8.mono hB7.size)).trans (hB9.mono (by have := hB7.size; have := hB8.size; omega))⟩
    · have h2' : (q == 2) = false := by simp [h2]
      clear h2
      go_wp2_with fail
      refine hP.mono ?_
      rintro e w5 ⟨b5, c5, rfl, hB8⟩
      clear hP
      go_wp2_with fail
      refine (termBegun_any _).mono ?_
      rintro e w6 ⟨rfl, hB9⟩
      have hB10 := (hB7.trans (hB8.mono hB7.size)).trans (hB9.mono (by have := hB7.size; have := hB8.size; omega))
      go_wp2_with fail
      refine (HC2.out _ hB10).mono ?_
      rintro e w7 ⟨rfl, hB11⟩
      go_wp2
      go_ret
      exact ⟨rfl, hB10.trans (hB11.mono hB10.size)⟩

/-- hasplaw.TermTrue. -/
theorem true_any (zs us : List Int) (a au : Option Addr) (cap cu : Nat) (k : Int) (w : World) (hI : Ints w.heap.size w a zs) (hU : Ints w.heap.size w au us) (hcap : zs.length ≤ cap) (hcap2 : cap ≤ maxLen) (hk : (Lit.int .i64 k).wf = true) :
    Calls Try.prog 5 #[.slice a zs.length cap, .int .i64 k, .slice au us.length cu] w fun e w' => e = .returned (.bool true) ∧ Below w.heap.size w w' := by
  by_cases he : Tm.err zs = 0
  · exact true_right zs us a au cap cu k w hI hU hcap hcap2 hk he
  · exact true_wrong zs us a au cap cu k w hI he

end Go.Proofs.Ytbelnlemjcoifaa
