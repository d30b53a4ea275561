/-
  term.Part; haspref.endOf, EndOf, partOf, PartOf.
-/
import Derived.Test.YtknidkkhbkfpkabPart
namespace Go.Proofs.Ytknidkkhbkfpkab
open Go.Proofs Go.RowKit Go.Shelf

def Tm.partVal (zs : List Int) (k : Int) : List Int := if Tm.placeErr zs k = 0 then Tm.part zs k.toNat else []

theorem Ints.sub {n : Nat} {W : World} {b off : Nat} {zs : List Int} (h : Ints n W (some ⟨b, off, none⟩) zs) (k m : Nat) : Ints n W (some ⟨b, off + k, none⟩) ((zs.drop k).take m) := fun j hj => by
  have hj' : j < m ∧ j < zs.length - k := by
    simp only [List.length_take, List.length_drop] at hj
    omega
  obtain ⟨b', off', he, hb, hc⟩ := (h.drop k) j (by rw [List.length_drop]; omega)
  cases he
  refine ⟨b, off + k, rfl, hb, ?_⟩
  rw [hc]
  simp [hj'.1]

set_option maxRecDepth 100000 in
set_option maxHeartbeats 400000 in
/-- haspref.endOf, at a place of a right term. -/
theorem endOf_any (zs : List Int) (a : Option Addr) (cap j : Nat) (w : World) (hI : Ints w.heap.size w a zs) (hcap : zs.length ≤ cap) (hcap2 : cap ≤ maxLen) (he : Tm.err zs = 0) (hj : j < zs.length) :
    Calls Try.prog 45 #[.slice a zs.length cap, .int .i64 (j : Int)] w fun e w' => e = .returned (.int .i64 (Tm.endAt zs j : Int)) ∧ Below w.heap.size w w' := by
  have h30 := Tm.err_len he
  have hei := Tm.end_in he hj
  have heg := Tm.endAt_gt zs j
  have hall := Tm.err_all he
  obtain ⟨b, off, rfl, hb, hc⟩ := hI.at (by omega)
  have hg : Calls Try.prog 62 #[.slice (some ⟨b, off + j, none⟩) (zs.length - j) (cap - j)] w fun r w' => ∃ p a2 c2, r = .returned (.tuple #[.pointer p, .slice a2 (zs.length - Tm.endAt zs j) c2]) ∧ Below w.heap.size w w' := by
    have h := grown_any (zs.drop j).length (zs.drop j) (some ⟨b, off + j, none⟩) (cap - j) w (Nat.le_refl _) (by rw [List.length_drop]; omega) (by rw [List.length_drop]; omega)
      (by rw [List.all_eq_true] at hall ⊢; exact fun x hx => hall x (List.mem_of_mem_drop hx)) (by rw [List.length_drop]; unfold Tm.endAt at hei; omega) (by rw [List.length_drop]; omega) (by omega) (hI.drop j)
    rw [List.length_drop] at h
    refine h.mono ?_
    rintro e w' ⟨p, a2, c2, rfl, hB, _⟩
    exact ⟨p, a2, c2, by rw [Tm.endAt_drop, show zs.length - (j + Tm.run (zs.drop j) 1) = zs.length - j - Tm.run (zs.drop j) 1 from by omega], hB⟩
  unfold maxLen at hcap2
  clear hall hc hI he
  generalize Tm.endAt zs j = q at *
  have h1 : (j : Int) < (zs.length : Int) := by omega
  have h2 : (zs.length : Int) ≤ 30 := by omega
  have h3 : ¬ cap - j = 0 := by omega
  have h4 : (zs.length : Int) ≤ (cap : Int) := by omega
  have h5 : ((zs.length - q : Nat) : Int) ≤ 30 := by omega
  go_enter Try.func45, Try.ntmps45
  go_wp2_with (go_at_call 62; refine hg.mono ?_; clear hg; rintro e w1 ⟨p, a2, c2, rfl, hB1⟩)
  go_ret
  exact ⟨ret_int (by omega), hB1⟩

set_option maxRecDepth 100000 in
set_option maxHeartbeats 400000 in
/-- haspref.partOf, at a place of a right term. -/
theorem partOf_any (zs : List Int) (a : Option Addr) (cap j : Nat) (w : World) (hI : Ints w.heap.size w a zs) (hcap : zs.length ≤ cap) (hcap2 : cap ≤ maxLen) (he : Tm.err zs = 0) (hj : j < zs.length) :
    Calls Try.prog 31 #[.slice a zs.length cap, .int .i64 (j : Int)] w fun e w' => ∃ v, e = .returned v ∧ New w.heap.size w' v (Tm.part zs j) ∧ Below w.heap.size w w' := by
  have h30 := Tm.err_len he
  have hei := Tm.end_in he hj
  have heg := Tm.endAt_gt zs j
  have hpl := Tm.part_length he hj
  obtain ⟨b, off, rfl, hb, hc⟩ := hI.at (by omega)
  have hB0 : Below w.heap.size w (w.alloc (.cells #[] 3)) := (Below.refl _ _).alloc (Nat.le_refl _) _
  have hl : New w.heap.size (w.alloc (.cells #[] 3)) (.slice (some ⟨w.heap.size, 0, none⟩) 0 0) [] := New.lit w.heap.size w [] (Nat.le_refl _) (by unfold maxLen; simp)
  have hE := endOf_any zs (some ⟨b, off, none⟩) cap j (w.alloc (.cells #[] 3)) ((hI.below hB0).mono hB0.size) hcap hcap2 he hj
  have hIs := hI.sub j (Tm.endAt zs j - j)
  unfold maxLen at hcap2
  clear hc hI he
  have Hpl : Hid ((Tm.part zs j).length = Tm.endAt zs j - j) := hpl
  have HIs : Hid (Ints w.heap.size w (some ⟨b, off + j, none⟩) (Tm.part zs j)) := hIs
  clear hpl hIs
  generalize Tm.part zs j = pt at *
  generalize Tm.endAt zs j = q at *
  have h1 : (j : Int) ≤ (q : Int) := by omega
  have h2 : (q : Int) ≤ (cap : Int) := by omega
  have h3 : ¬ cap - j = 0 := by omega
  go_enter Try.func31, Try.ntmps31
  go_wp2_with (first
    | (go_at_call 45; refine hE.mono ?_; clear hE; rintro e w1 ⟨rfl, hB1⟩; have hl1 := New.below hl hB1; have hB2 := hB0.trans (hB1.mono hB0.size))
    | (at_builtin; go_loud (refine wp_append_ints _ rfl _ _ rfl w.heap.size _ [] rfl hl1 (some ⟨b, off + j, none⟩) pt (cap - j) (by rw [Hpl.out]; rfl) (fun h => by cases h) ((HIs.out.below hB2).mono hB2.size) (by simp [Hpl.out]; omega) hB2.size ?_); intro v' w2 hN hB3))
  obtain ⟨a', c', rfl, _⟩ := New.ints hN
  go_ret
  exact ⟨_, rfl, hN, hB2.trans hB3⟩

end Go.Proofs.Ytknidkkhbkfpkab
