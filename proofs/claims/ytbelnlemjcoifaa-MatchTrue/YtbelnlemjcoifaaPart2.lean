/-
  term.Part; haspref.endOf, EndOf, partOf, PartOf.
-/
import Derived.Test.YtbelnlemjcoifaaPart
namespace Go.Proofs.Ytbelnlemjcoifaa
open Go.Proofs Go.RowKit Go.Shelf

def Tm.partVal (zs : List Int) (k : Int) : List Int := if Tm.placeErr zs k = 0 then Tm.part zs k.toNat else []

theorem Ints.sub {n : Nat} {W : World} {b off : Nat} {zs : List Int} (h : Ints n W (some ⟨b, off, none⟩) zs) (k m : Nat) : Ints n W (some ⟨b, off + k, none⟩) ((zs.drop k).take m) := fun j hj => by
  have hj' : j < m ∧ j < zs.length - k := by
    simp only [List.length_take, List.length_drop] at hj
    omega
  obtain ⟨b', off', he, hb, hc⟩ := (h.drop k) j (by rw [List.length_drop]; omega)
  cases he
  refine ⟨b, off + k, rfl, hb, ?_⟩
  rw [hc]
  simp [hj'.1]

set_option maxRecDepth 100000 in
set_option maxHeartbeats 400000 in
theorem termPart_any (zs : List Int) (a : Option Addr) (cap : Nat) (k : Int) (w : World) (hI : Ints w.heap.size w a zs) (hcap : zs.length ≤ cap) :
    Calls Try.prog 15 #[.slice a zs.length cap, .int .i64 k] w fun e w' => ∃ v, e = .returned (.tuple #[v, .int .i64 (Tm.placeErr zs k)]) ∧ New w.heap.size w' v (Tm.partVal zs k) ∧ Below w.heap.size w w' := by
  have hE := termEnd_any zs a cap k w hI
  by_cases hpe : Tm.placeErr zs k = 0
  · obtain ⟨he, _, hk1, hk2⟩ := Tm.place_ok hpe
    obtain ⟨j, rfl⟩ : ∃ j : Nat, k = (j : Int) := ⟨k.toNat, by omega⟩
    have hpv : Tm.partVal zs (j : Int) = Tm.part zs j := by simp [Tm.partVal, hpe]
    have hev : Tm.endVal zs (j : Int) = (Tm.endAt zs j : Int) := by simp [Tm.endVal, hpe]
    have h30 := Tm.err_len he
    have hei := Tm.end_in he (k := j) (by omega)
    have heg := Tm.endAt_gt zs j
    have hpl := Tm.part_length he (k := j) (by omega)
    obtain ⟨b, off, rfl, hb, hc⟩ := hI.at (by omega)
    have hcl : ∀ W, Below w.heap.size w W → Calls Try.prog 45 #[.slice (some ⟨b, off + j, none⟩) (Tm.endAt zs j - j) (cap - j)] W fun e w' => ∃ v, e = .returned v ∧ New W.heap.size w' v (Tm.part zs j) ∧ Below W.heap.size W w' := fun W hW => by
      rw [← hpl]
      exact clone_any (Tm.part zs j) b (off + j) (cap - j) W (by rw [hpl]; omega) (((hI.below hW).mono hW.size).sub j _)
    have HC := show Hid _ from hcl
    rw [hev, hpe] at hE
    rw [hpv, hpe]
    clear hpv hev hpe he hc hcl hpl hI
    generalize Tm.endAt zs j = q at *
    generalize Tm.part zs j = pt at *
    have h1 : (j : Int) ≤ (q : Int) := by omega
    have h2 : (q : Int) ≤ (cap : Int) := by omega
    have h3 : ¬ cap - j = 0 := by omega
    go_enter Try.func15, Try.ntmps15
    go_wp2_with (first
      | (go_at_call 14; refine hE.mono ?_; clear hE; rintro e w1 ⟨rfl, hB1⟩)
      | (go_at_call 45; refine (HC.out _ hB1).mono ?_; rintro e w2 ⟨v, rfl, hN, hB2⟩; obtain ⟨a', c', rfl, _⟩ := New.ints hN))
    go_ret2
    exact ⟨_, rfl, hN.mono hB1.size, hB1.trans (hB2.mono hB1.size)⟩
  · have hpv : Tm.partVal zs k = [] := by simp [Tm.partVal, hpe]
    have hne : (Tm.placeErr zs k != 0) = true := by simp [hpe]
    rw [hpv]
    have hev : Tm.endVal zs k = 0 := by simp [Tm.endVal, hpe]
    rw [hev] at hE
    clear hpv hpe hI hev
    generalize Tm.placeErr zs k = q at *
    go_enter Try.func15, Try.ntmps15
    go_wp2_with (go_at_call 14; refine hE.mono ?_; clear hE; rintro e w1 ⟨rfl, hB1⟩)
    go_ret2
    exact ⟨_, rfl, New.nil _ _, hB1⟩

set_option maxRecDepth 100000 in
set_option maxHeartbeats 400000 in
/-- haspref.endOf, at a place of a right term. -/
theorem endOf_any (zs : List Int) (a : Option Addr) (cap j : Nat) (w : World) (hI : Ints w.heap.size w a zs) (hcap : zs.length ≤ cap) (hcap2 : cap ≤ maxLen) (he : Tm.err zs = 0) (hj : j < zs.length) :
    Calls Try.prog 47 #[.slice a zs.length cap, .int .i64 (j : Int)] w fun e w' => e = .returned (.int .i64 (Tm.endAt zs j : Int)) ∧ Below w.heap.size w w' := by
  have h30 := Tm.err_len he
  have hei := Tm.end_in he hj
  have heg := Tm.endAt_gt zs j
  have hall := Tm.err_all he
  obtain ⟨b, off, rfl, hb, hc⟩ := hI.at (by omega)
  have hg : Calls Try.prog 69 #[.slice (some ⟨b, off + j, none⟩) (zs.length - j) (cap - j)] w fun r w' => ∃ p a2 c2, r = .returned (.tuple #[.pointer p, .slice a2 (zs.length - Tm.endAt zs j) c2]) ∧ Below w.heap.size w w' := by
    have h := grown_any (zs.drop j).length (zs.drop j) (some ⟨b, off + j, none⟩) (cap - j) w (Nat.le_refl _) (by rw [List.length_drop]; omega) (by rw [List.length_drop]; omega)
      (by rw [List.all_eq_true] at hall ⊢; exact fun x hx => hall x (List.mem_of_mem_drop hx)) (by rw [List.length_drop]; unfold Tm.endAt at hei; omega) (by rw [List.length_drop]; omega) (by omega) (hI.drop j)
    rw [List.length_drop] at h
    refine h.mono ?_
    rintro e w' ⟨p, a2, c2, rfl, hB, _⟩
    exact ⟨p, a2, c2, by rw [Tm.endAt_drop, show zs.length - (j + Tm.run (zs.drop j) 1) = zs.length - j - Tm.run (zs.drop j) 1 from by omega], hB⟩
  unfold maxLen at hcap2
  clear hall hc hI he
  generalize Tm.endAt zs j = q at *
  have h1 : (j : Int) < (zs.length : Int) := by omega
  have h2 : (zs.length : Int) ≤ 30 := by omega
  have h3 : ¬ cap - j = 0 := by omega
  have h4 : (zs.length : Int) ≤ (cap : Int) := by omega
  have h5 : ((zs.length - q : Nat) : Int) ≤ 30 := by omega
  go_enter Try.func47, Try.ntmps47
  go_wp2_with (go_at_call 69; refine hg.mono ?_; clear hg; rintro e w1 ⟨p, a2, c2, rfl, hB1⟩)
  go_ret
  exact ⟨ret_int (by omega), hB1⟩

set_option maxRecDepth 100000 in
set_option maxHeartbeats 400000 in
/-- haspref.EndOf. -/
theorem refEnd_any (zs : List Int) (a : Option Addr) (cap : Nat) (k : Int) (w : World) (hI : Ints w.heap.size w a zs) (hcap : zs.length ≤ cap) (hcap2 : cap ≤ maxLen) :
    Calls Try.prog 16 #[.slice a zs.length cap, .int .i64 k] w fun e w' => e = .returned (.tuple #[.int .i64 (Tm.endVal zs k), .int .i64 (Tm.placeErr zs k)]) ∧ Below w.heap.size w w' := by
  have hP := placeError_any zs a cap k w hI
  by_cases hpe : Tm.placeErr zs k = 0
  · obtain ⟨he, _, hk1, hk2⟩ := Tm.place_ok hpe
    obtain ⟨j, rfl⟩ : ∃ j : Nat, k = (j : Int) := ⟨k.toNat, by omega⟩
    have hE := endOf_any zs a cap j w hI hcap hcap2 he (by omega)
    have hev : Tm.endVal zs (j : Int) = (Tm.endAt zs j : Int) := by simp [Tm.endVal, hpe]
    rw [hpe] at hP
    rw [hpe, hev]
    clear hpe hev he hI
    generalize Tm.endAt zs j = q at *
    go_enter Try.func16, Try.ntmps16
    go_wp2_with (first
      | (go_at_call 46; refine hP.mono ?_; clear hP; rintro e w ⟨rfl, rfl⟩)
      | (go_at_call 47; refine hE.mono ?_; clear hE; rintro e w1 ⟨rfl, hB⟩))
    go_ret2
    exact ⟨rfl, hB⟩
  · have hev : Tm.endVal zs k = 0 := by simp [Tm.endVal, hpe]
    have hne : (Tm.placeErr zs k != 0) = true := by simp [hpe]
    rw [hev]
    clear hpe hev hI
    generalize Tm.placeErr zs k = q at *
    go_enter Try.func16, Try.ntmps16
    go_wp2_with (go_at_call 46; refine hP.mono ?_; clear hP; rintro e w ⟨rfl, rfl⟩)
    go_ret2
    exact ⟨rfl, Below.refl _ _⟩

set_option maxRecDepth 100000 in
set_option maxHeartbeats 400000 in
/-- haspref.partOf, at a place of a right term. -/
theorem partOf_any (zs : List Int) (a : Option Addr) (cap j : Nat) (w : World) (hI : Ints w.heap.size w a zs) (hcap : zs.length ≤ cap) (hcap2 : cap ≤ maxLen) (he : Tm.err zs = 0) (hj : j < zs.length) :
    Calls Try.prog 48 #[.slice a zs.length cap, .int .i64 (j : Int)] w fun e w' => ∃ v, e = .returned v ∧ New w.heap.size w' v (Tm.part zs j) ∧ Below w.heap.size w w' := by
  have h30 := Tm.err_len he
  have hei := Tm.end_in he hj
  have heg := Tm.endAt_gt zs j
  have hpl := Tm.part_length he hj
  obtain ⟨b, off, rfl, hb, hc⟩ := hI.at (by omega)
  have hB0 : Below w.heap.size w (w.alloc (.cells #[] 3)) := (Below.refl _ _).alloc (Nat.le_refl _) _
  have hl : New w.heap.size (w.alloc (.cells #[] 3)) (.slice (some ⟨w.heap.size, 0, none⟩) 0 0) [] := New.lit w.heap.size w [] (Nat.le_refl _) (by unfold maxLen; simp)
  have hE := endOf_any zs (some ⟨b, off, none⟩) cap j (w.alloc (.cells #[] 3)) ((hI.below hB0).mono hB0.size) hcap hcap2 he hj
  have hIs := hI.sub j (Tm.endAt zs j - j)
  unfold maxLen at hcap2
  clear hc hI he
  have Hpl : Hid ((Tm.part zs j).length = Tm.endAt zs j - j) := hpl
  have HIs : Hid (Ints w.heap.size w (some ⟨b, off + j, none⟩) (Tm.part zs j)) := hIs
  clear hpl hIs
  generalize Tm.part zs j = pt at *
  generalize Tm.endAt zs j = q at *
  have h1 : (j : Int) ≤ (q : Int) := by omega
  have h2 : (q : Int) ≤ (cap : Int) := by omega
  have h3 : ¬ cap - j = 0 := by omega
  go_enter Try.func48, Try.ntmps48
  go_wp2_with (first
    | (go_at_call 47; refine hE.mono ?_; clear hE; rintro e w1 ⟨rfl, hB1⟩; have hl1 := New.below hl hB1; have hB2 := hB0.trans (hB1.mono hB0.size))
    | (at_builtin; go_loud (refine wp_append_ints _ rfl _ _ rfl w.heap.size _ [] rfl hl1 (some ⟨b, off + j, none⟩) pt (cap - j) (by rw [Hpl.out]; rfl) (fun h => by cases h) ((HIs.out.below hB2).mono hB2.size) (by simp [Hpl.out]; omega) hB2.size ?_); intro v' w2 hN hB3))
  obtain ⟨a', c', rfl, _⟩ := New.ints hN
  go_ret
  exact ⟨_, rfl, hN, hB2.trans hB3⟩

set_option maxRecDepth 100000 in
set_option maxHeartbeats 400000 in
/-- haspref.PartOf. -/
theorem refPart_any (zs : List Int) (a : Option Addr) (cap : Nat) (k : Int) (w : World) (hI : Ints w.heap.size w a zs) (hcap : zs.length ≤ cap) (hcap2 : cap ≤ maxLen) :
    Calls Try.prog 17 #[.slice a zs.length cap, .int .i64 k] w fun e w' => ∃ v, e = .returned (.tuple #[v, .int .i64 (Tm.placeErr zs k)]) ∧ New w.heap.size w' v (Tm.partVal zs k) ∧ Below w.heap.size w w' := by
  have hP := placeError_any zs a cap k w hI
  by_cases hpe : Tm.placeErr zs k = 0
  · obtain ⟨he, _, hk1, hk2⟩ := Tm.place_ok hpe
    obtain ⟨j, rfl⟩ : ∃ j : Nat, k = (j : Int) := ⟨k.toNat, by omega⟩
    have hE := partOf_any zs a cap j w hI hcap hcap2 he (by omega)
    have hpv : Tm.partVal zs (j : Int) = Tm.part zs j := by simp [Tm.partVal, hpe]
    rw [hpe] at hP
    rw [hpe, hpv]
    clear hpe hpv he hI
    generalize Tm.part zs j = q at *
    go_enter Try.func17, Try.ntmps17
    go_wp2_with (first
      | (go_at_call 46; refine hP.mono ?_; clear hP; rintro e w ⟨rfl, rfl⟩)
      | (go_at_call 48; refine hE.mono ?_; clear hE; rintro e w1 ⟨v, rfl, hN, hB⟩; obtain ⟨a', c', rfl, _⟩ := New.ints hN))
    go_ret2
    exact ⟨_, rfl, hN, hB⟩
  · have hpv : Tm.partVal zs k = [] := by simp [Tm.partVal, hpe]
    have hne : (Tm.placeErr zs k != 0) = true := by simp [hpe]
    rw [hpv]
    clear hpe hpv hI
    generalize Tm.placeErr zs k = q at *
    go_enter Try.func17, Try.ntmps17
    go_wp2_with (go_at_call 46; refine hP.mono ?_; clear hP; rintro e w ⟨rfl, rfl⟩)
    go_ret2
    exact ⟨_, rfl, New.nil _ _, Below.refl _ _⟩

end Go.Proofs.Ytbelnlemjcoifaa
