/-
  term.Put whatever it is handed; haspref.put, PutOf.
-/
import Derived.Test.YtbelnlemjcoifaaPut
namespace Go.Proofs.Ytbelnlemjcoifaa
open Go.Proofs Go.RowKit Go.Shelf

theorem Tm.putErr_zs {zs us : List Int} {k : Int} (he : Tm.err zs ≠ 0) : Tm.putErr zs k us = Tm.err zs := by simp [Tm.putErr, he]
theorem Tm.putErr_us {zs us : List Int} {k : Int} (he : Tm.err zs = 0) (hu : Tm.err us ≠ 0) : Tm.putErr zs k us = Tm.err us := by simp [Tm.putErr, he, hu]
theorem Tm.putErr_k {zs us : List Int} {k : Int} (he : Tm.err zs = 0) (hu : Tm.err us = 0) (hk : insideB k 0 ((zs.length : Int) - 1) = false) : Tm.putErr zs k us = 3 := by simp [Tm.putErr, he, hu, hk]
theorem Tm.putErr_in {zs us : List Int} {j : Nat} (he : Tm.err zs = 0) (hu : Tm.err us = 0) (hk : insideB (j : Int) 0 ((zs.length : Int) - 1) = true) : Tm.putErr zs (j : Int) us = if 30 < (Tm.put zs j us).length then 2 else 0 := by
  simp [Tm.putErr, he, hu, hk]
theorem Tm.putVal_in {zs us : List Int} {j : Nat} (he : Tm.err zs = 0) (hu : Tm.err us = 0) (hk : insideB (j : Int) 0 ((zs.length : Int) - 1) = true) : Tm.putVal zs (j : Int) us = if 30 < (Tm.put zs j us).length then [] else Tm.put zs j us := by
  unfold Tm.putVal
  rw [Tm.putErr_in he hu hk]
  by_cases h : 30 < (Tm.put zs j us).length <;> simp [h]
theorem Tm.putVal_out {zs us : List Int} {k : Int} (h : Tm.putErr zs k us ≠ 0) : Tm.putVal zs k us = [] := by simp [Tm.putVal, h]

theorem Tm.putVal_le (zs us : List Int) (k : Int) : (Tm.putVal zs k us).length ≤ 30 := by
  unfold Tm.putVal
  by_cases h : Tm.putErr zs k us = 0
  · rw [if_pos h]
    unfold Tm.putErr at h
    by_cases h1 : Tm.err zs = 0
    · rw [if_pos h1] at h
      by_cases h2 : Tm.err us = 0
      · rw [if_pos h2] at h
        by_cases h3 : insideB k 0 ((zs.length : Int) - 1) = true
        · rw [if_pos h3] at h
          by_cases h4 : 30 < (Tm.put zs k.toNat us).length
          · rw [if_pos h4] at h; omega
          · omega
        · rw [if_neg h3] at h; omega
      · rw [if_neg h2] at h; exact absurd h h2
    · rw [if_neg h1] at h; exact absurd h h1
  · rw [if_neg h]; exact Nat.zero_le _

set_option maxRecDepth 100000 in
set_option maxHeartbeats 400000 in
/-- term.Put. -/
theorem termPut_any (zs us : List Int) (a au : Option Addr) (cap cu : Nat) (k : Int) (w : World) (hI : Ints w.heap.size w a zs) (hU : Ints w.heap.size w au us) (hcap : zs.length ≤ cap) (hcap2 : cap ≤ maxLen) :
    Calls Try.prog 22 #[.slice a zs.length cap, .int .i64 k, .slice au us.length cu] w fun e w' => ∃ v, e = .returned (.tuple #[v, .int .i64 (Tm.putErr zs k us)]) ∧ New w.heap.size w' v (Tm.putVal zs k us) ∧ Below w.heap.size w w' := by
  have hC1 := check_any zs a cap w hI
  by_cases he : Tm.err zs = 0
  · have hC2 : ∀ W, Below w.heap.size w W → Calls Try.prog 19 #[.slice au us.length cu] W fun e w' => e = .returned (.int .i64 (Tm.err us)) ∧ Below W.heap.size W w' := fun W hW => check_any us au cu W ((hU.below hW).mono hW.size)
    have HC2 := hid (hC2)
    clear hC2
    by_cases hu : Tm.err us = 0
    · by_cases hp : insideB k 0 ((zs.length : Int) - 1) = true
      · have hk := (insideB_iff _ _ _).1 hp
        obtain ⟨j, rfl⟩ : ∃ j : Nat, k = (j : Int) := ⟨k.toNat, by omega⟩
        obtain ⟨b, off, rfl, _⟩ := hI.at (by omega)
        rw [Tm.putErr_in he hu hp, Tm.putVal_in he hu hp]
        exact put_try zs us b off au cap cu j w hI hU hcap hcap2 he hu (by omega)
      · have hp' : insideB k 0 ((zs.length : Int) - 1) = false := by simpa using hp
        have hpe := Tm.putErr_k (us := us) he hu hp'
        rw [Tm.putVal_out (by rw [hpe]; decide), hpe]
        rw [he] at hC1
        rw [hu] at HC2
        clear hpe hp he hu hI hU hcap2
        go_enter Try.func22, Try.ntmps22
        go_wp2_with fail
        refine hC1.mono ?_
        rintro e w1 ⟨rfl, hB1⟩
        go_wp2_with fail
        refine (HC2.out _ hB1).mono ?_
        rintro e w2 ⟨rfl, hB2⟩
        go_wp2_with (go_at_call 43; refine (hasPlace_any _ _ _ _ _).mono ?_; rw [hp']; rintro e w2 ⟨rfl, rfl⟩)
        go_ret2
        exact ⟨_, rfl, New.nil _ _, hB1.trans (hB2.mono hB1.size)⟩
    · have hpe := Tm.putErr_us (k := k) he hu
      rw [Tm.putVal_out (by rw [hpe]; exact hu), hpe]
      have hne : (Tm.err us != 0) = true := by simp [hu]
      rw [he] at hC1
      clear hpe he hu hI hU hcap2
      generalize Tm.err us = q at *
      go_enter Try.func22, Try.ntmps22
      go_wp2_with fail
      refine hC1.mono ?_
      rintro e w1 ⟨rfl, hB1⟩
      go_wp2_with fail
      refine (HC2.out _ hB1).mono ?_
      rintro e w2 ⟨rfl, hB2⟩
      go_wp2
      go_ret2
      exact ⟨_, rfl, New.nil _ _, hB1.trans (hB2.mono hB1.size)⟩
  · have hpe := Tm.putErr_zs (us := us) (k := k) he
    rw [Tm.putVal_out (by rw [hpe]; exact he), hpe]
    have hne : (Tm.err zs != 0) = true := by simp [he]
    clear hpe he hI hU hcap2
    generalize Tm.err zs = q at *
    go_enter Try.func22, Try.ntmps22
    go_wp2_with fail
    refine hC1.mono ?_
    rintro e w1 ⟨rfl, hB1⟩
    go_wp2
    go_ret2
    exact ⟨_, rfl, New.nil _ _, hB1⟩

set_option maxRecDepth 100000 in
set_option maxHeartbeats 400000 in
/-- haspref.put, of right ones. -/
theorem refput_any (zs us : List Int) (a au : Option Addr) (cap cu j : Nat) (w : World) (hI : Ints w.heap.size w a zs) (hU : Ints w.heap.size w au us) (hcap : zs.length ≤ cap) (hcap2 : cap ≤ maxLen) (he : Tm.err zs = 0) (hu : Tm.err us = 0) (hj : j < zs.length) :
    Calls Try.prog 54 #[.slice a zs.length cap, .int .i64 (j : Int), .slice au us.length cu] w fun e w' => ∃ v, e = .returned v ∧ New w.heap.size w' v (Tm.put zs j us) ∧ Below w.heap.size w w' := by
  have h30 := Tm.err_len he
  have hu30 := Tm.err_len hu
  have hei := Tm.end_in he hj
  have heg := Tm.endAt_gt zs j
  have hUs := hid (hU.some (Tm.err_pos hu))
  obtain ⟨b, off, rfl, hb, _⟩ := hI.at (by omega)
  have hB0 : Below w.heap.size w (w.alloc (.cells #[] 3)) := (Below.refl _ _).alloc (Nat.le_refl _) _
  have hl : New w.heap.size (w.alloc (.cells #[] 3)) (.slice (some ⟨w.heap.size, 0, none⟩) 0 0) [] := New.lit w.heap.size w [] (Nat.le_refl _) (by unfold maxLen; simp)
  have hE : ∀ W, Below w.heap.size w W → Calls Try.prog 47 #[.slice (some ⟨b, off, none⟩) zs.length cap, .int .i64 (j : Int)] W fun e w' => e = .returned (.int .i64 (Tm.endAt zs j : Int)) ∧ Below W.heap.size W w' :=
    fun W hW => endOf_any zs (some ⟨b, off, none⟩) cap j W ((hI.below hW).mono hW.size) hcap hcap2 he hj
  have HE := hid (hE)
  have HU := hid (hU)
  have HI := hid (hI)
  have hput : Tm.put zs j us = [] ++ zs.take j ++ us ++ zs.drop (Tm.endAt zs j) := by simp [Tm.put]
  rw [hput]
  have htl : (zs.take j).length = j := by rw [List.length_take]; omega
  have hdl : (zs.drop (Tm.endAt zs j)).length = zs.length - Tm.endAt zs j := by rw [List.length_drop]
  have HT := hid (hI.take j)
  have HD : Hid (∀ n X, Ints n X (some ⟨b, off, none⟩) zs → ∀ c, Ints n X (if c = 0 then some ⟨b, off, none⟩ else some ⟨b, off + Tm.endAt zs j, none⟩) (zs.drop (Tm.endAt zs j)) ∨ (c = 0 ∧ zs.drop (Tm.endAt zs j) ≠ [])) := by
    intro n X hX c
    by_cases hc : c = 0
    · by_cases hd : zs.drop (Tm.endAt zs j) = []
      · left; rw [hd]; exact Ints.nil _ _ _
      · right; exact ⟨hc, hd⟩
    · left; rw [if_neg hc]; exact hX.drop _
  have Htl := hid (htl)
  have Hdl := hid (hdl)
  unfold maxLen at hcap2
  clear hE hU hI hput htl hdl he hu
  generalize Tm.endAt zs j = q at *
  generalize hxs : zs.take j = xs at *
  generalize hys : zs.drop q = ys at *
  clear hxs hys
  have h1 : (j : Int) ≤ (cap : Int) := by omega
  have h2 : (q : Int) ≤ (zs.length : Int) := by omega
  have h3 : (zs.length : Int) ≤ (cap : Int) := by omega
  have h4 : (zs.length : Int) ≤ 30 := by omega
  by_cases hz : cap - q = 0
  · have hys0 : ys = [] := List.eq_nil_of_length_eq_zero (by rw [Hdl.out]; omega)
    obtain ⟨rfl, rfl⟩ : zs.length = cap ∧ q = zs.length := by omega
    clear HD
    go_enter Try.func54, Try.ntmps54
    go_wp2_with (first
      | (at_builtin; refine wp_append_ints _ rfl (.tmp 7) (.tmp 10) rfl w.heap.size _ [] rfl hl (some ⟨b, off, none⟩) xs zs.length (by rw [Htl.out]; rfl) (fun h => by cases h) ((HT.out.below hB0).mono hB0.size) (by rw [Htl.out]; simp; omega) hB0.size ?_; intro v1 w1 hN1 hB1; have hB01 := hB0.trans hB1; clear hB1)
      | (at_builtin; refine wp_append_ints _ rfl (.tmp 11) (.tmp 12) rfl w.heap.size _ _ rfl hN1 au us _ rfl (fun h => absurd h hUs.out) ((HU.out.below hB01).mono hB01.size) (by rw [List.length_append, Htl.out]; simp; omega) hB01.size ?_; intro v2 w2 hN2 hB2; have hB02 := hB01.trans hB2; clear hB2)
      | (go_at_call 47; refine (HE.out _ hB02).mono ?_; rintro e w3 ⟨rfl, hB3⟩; have hN3 := New.below hN2 hB3; have hB03 := hB02.trans (hB3.mono hB02.size); clear hB3)
      | (at_builtin; go_loud (refine wp_append_ints _ rfl (.tmp 13) (.tmp 18) rfl w.heap.size _ _ rfl hN3 (some ⟨b, off, none⟩) ys 0 (by rw [hys0]; rfl) (fun h => by cases h) (by rw [hys0]; exact Ints.nil _ _ _) (by rw [List.length_append, List.length_append, Htl.out, Hdl.out]; simp; omega) hB03.size ?_); intro v4 w4 hN4 hB4))
    obtain ⟨a4, c4, rfl, _⟩ := New.ints hN4
    go_ret
    exact ⟨_, rfl, hN4, hB03.trans hB4⟩
  · have HY : Hid (∀ n X, Ints n X (some ⟨b, off, none⟩) zs → Ints n X (some ⟨b, off + q, none⟩) ys) := fun n X hX => by
      rcases HD.out n X hX 1 with h | h
      · simpa using h
      · exact absurd h.1 (by decide)
    clear HD
    go_enter Try.func54, Try.ntmps54
    go_wp2_with (first
      | (at_builtin; refine wp_append_ints _ rfl (.tmp 7) (.tmp 10) rfl w.heap.size _ [] rfl hl (some ⟨b, off, none⟩) xs cap (by rw [Htl.out]; rfl) (fun h => by cases h) ((HT.out.below hB0).mono hB0.size) (by rw [Htl.out]; simp; omega) hB0.size ?_; intro v1 w1 hN1 hB1; have hB01 := hB0.trans hB1; clear hB1)
      | (at_builtin; refine wp_append_ints _ rfl (.tmp 11) (.tmp 12) rfl w.heap.size _ _ rfl hN1 au us _ rfl (fun h => absurd h hUs.out) ((HU.out.below hB01).mono hB01.size) (by rw [List.length_append, Htl.out]; simp; omega) hB01.size ?_; intro v2 w2 hN2 hB2; have hB02 := hB01.trans hB2; clear hB2)
      | (go_at_call 47; refine (HE.out _ hB02).mono ?_; rintro e w3 ⟨rfl, hB3⟩; have hN3 := New.below hN2 hB3; have hB03 := hB02.trans (hB3.mono hB02.size); clear hB3)
      | (at_builtin; go_loud (refine wp_append_ints _ rfl (.tmp 13) (.tmp 18) rfl w.heap.size _ _ rfl hN3 (some ⟨b, off + q, none⟩) ys (cap - q) (by rw [Hdl.out]; rfl) (fun h => by cases h) (HY.out _ _ ((HI.out.below hB03).mono hB03.size)) (by rw [List.length_append, List.length_append, Htl.out, Hdl.out]; simp; omega) hB03.size ?_); intro v4 w4 hN4 hB4))
    obtain ⟨a4, c4, rfl, _⟩ := New.ints hN4
    go_ret
    exact ⟨_, rfl, hN4, hB03.trans hB4⟩

end Go.Proofs.Ytbelnlemjcoifaa
