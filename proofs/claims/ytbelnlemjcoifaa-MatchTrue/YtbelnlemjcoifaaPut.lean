/-
  term.Put; haspref.put, PutOf.
-/
import Derived.Deep.RegionWith
import Derived.Test.YtbelnlemjcoifaaConcat
namespace Go.Proofs.Ytbelnlemjcoifaa
open Go.Proofs Go.RowKit Go.Shelf

/-- The term at k becomes u. -/
def Tm.put (zs : List Int) (k : Nat) (us : List Int) : List Int := zs.take k ++ us ++ zs.drop (Tm.endAt zs k)
def Tm.putErr (zs : List Int) (k : Int) (us : List Int) : Int :=
  if Tm.err zs = 0 then (if Tm.err us = 0 then (if insideB k 0 ((zs.length : Int) - 1) = true then (if 30 < (Tm.put zs k.toNat us).length then 2 else 0) else 3) else Tm.err us) else Tm.err zs
def Tm.putVal (zs : List Int) (k : Int) (us : List Int) : List Int := if Tm.putErr zs k us = 0 then Tm.put zs k.toNat us else []
theorem Tm.put_length {zs us : List Int} {k : Nat} (hk : k < zs.length) : (Tm.put zs k us).length = k + us.length + (zs.length - Tm.endAt zs k) := by
  simp only [Tm.put, List.length_append, List.length_take, List.length_drop]; omega
theorem Tm.err_pos {zs : List Int} (he : Tm.err zs = 0) : 0 < zs.length := by
  have h := Tm.err_run he
  have := Tm.run_ge zs 1
  omega

theorem Ints.some {n : Nat} {W : World} {a : Option Addr} {zs : List Int} (h : Ints n W a zs) (h0 : 0 < zs.length) : a ≠ none := by
  obtain ⟨b, off, rfl, _⟩ := h.at h0
  simp
theorem Ints.take {n : Nat} {W : World} {a : Option Addr} {zs : List Int} (h : Ints n W a zs) (k : Nat) : Ints n W a (zs.take k) := fun j hj => by
  rw [List.length_take] at hj
  obtain ⟨b, off, e, hb, hc⟩ := h j (by omega)
  refine ⟨b, off, e, hb, ?_⟩
  rw [hc]
  simp [show j < k from by omega]

theorem cell_at {W : World} {b : Nat} {cs : Array Value} {t : TypeId} {fr : Nat × Nat} (h : W.heap[b]? = some (.cells cs t fr)) (k : Nat) : W.cell? ⟨b, k, none⟩ = cs[k]? := by simp [World.cell?, h]

/-- slices.Concat of three that were just laid. -/
theorem concat3 (xs us ys : List Int) (ax au ay : Option Addr) (cx cu cy nx ny : Nat) (W : World) (hX : Ints W.heap.size W ax xs) (hU : Ints W.heap.size W au us) (hY : Ints W.heap.size W ay ys) (hnx : nx = xs.length) (hny : ny = ys.length)
    (nX : ax ≠ none) (nU : au ≠ none) (nY : ay ≠ none) (h0 : 0 < us.length) (hl : xs.length + us.length + ys.length ≤ 1000) :
    Calls Try.prog 53 #[.slice (some ⟨W.heap.size, 0, none⟩) 3 3] (W.alloc (.cells #[.slice ax nx cx, .slice au us.length cu, .slice ay ny cy] 23)) fun e w' => ∃ v, e = .returned v ∧ New W.heap.size w' v (xs ++ us ++ ys) ∧ Below W.heap.size W w' := by
  subst hnx hny
  have hB : Below W.heap.size W (W.alloc (.cells #[.slice ax xs.length cx, .slice au us.length cu, .slice ay ys.length cy] 23)) := (Below.refl _ _).alloc (Nat.le_refl _) _
  have hh := World.alloc_heap_new W (.cells #[.slice ax xs.length cx, .slice au us.length cu, .slice ay ys.length cy] 23)
  have h := concat_any [xs, us, ys] (fun j => if j = 0 then ax else if j = 1 then au else ay) (fun j => if j = 0 then cx else if j = 1 then cu else cy) W.heap.size 3 (W.alloc (.cells #[.slice ax xs.length cx, .slice au us.length cu, .slice ay ys.length cy] 23))
    (by simp) (by simp [lens]; omega) (by simp [lens]; omega) (by simp)
    (fun j hj => by
      match j, hj with
      | 0, _ => rw [cell_at hh]; rfl
      | 1, _ => rw [cell_at hh]; rfl
      | 2, _ => rw [cell_at hh]; rfl)
    (fun j hj => by
      match j, hj with
      | 0, _ => exact (hX.below hB).mono hB.size
      | 1, _ => exact (hU.below hB).mono hB.size
      | 2, _ => exact (hY.below hB).mono hB.size)
    (fun j hj e => by
      match j, hj with
      | 0, _ => exact absurd e nX
      | 1, _ => exact absurd e nU
      | 2, _ => exact absurd e nY)
  refine h.mono ?_
  rintro e w' ⟨v, rfl, hN, hB'⟩
  exact ⟨v, rfl, by simpa using hN.mono (by simp), hB.trans (hB'.mono (by simp))⟩

set_option maxRecDepth 100000 in
set_option maxHeartbeats 2000000 in
/-- term.Put, where nothing is wrong but, perhaps, the size. -/
theorem put_try (zs us : List Int) (b off : Nat) (au : Option Addr) (cap cu j : Nat) (w : World) (hI : Ints w.heap.size w (some ⟨b, off, none⟩) zs) (hU : Ints w.heap.size w au us) (hcap : zs.length ≤ cap) (hcap2 : cap ≤ maxLen) (he : Tm.err zs = 0) (hu : Tm.err us = 0) (hj : j < zs.length) :
    Calls Try.prog 22 #[.slice (some ⟨b, off, none⟩) zs.length cap, .int .i64 (j : Int), .slice au us.length cu] w fun e w' => ∃ v, e = .returned (.tuple #[v, .int .i64 (if 30 < (Tm.put zs j us).length then 2 else 0)]) ∧ New w.heap.size w' v (if 30 < (Tm.put zs j us).length then [] else Tm.put zs j us) ∧ Below w.heap.size w w' := by
  have hC1 := check_any zs (some ⟨b, off, none⟩) cap w hI
  have hC2 : ∀ W, Below w.heap.size w W → Calls Try.prog 19 #[.slice au us.length cu] W fun e w' => e = .returned (.int .i64 0) ∧ Below W.heap.size W w' := fun W hW => by
    have h := check_any us au cu W ((hU.below hW).mono hW.size); rw [hu] at h; exact h
  have HC2 := show Hid _ from hC2
  rw [he] at hC1
  have hp : insideB (j : Int) 0 ((zs.length : Int) - 1) = true := (insideB_iff _ _ _).2 ⟨by omega, by omega⟩
  have hE : ∀ W, Below w.heap.size w W → Calls Try.prog 44 #[.slice (some ⟨b, off, none⟩) zs.length cap, .int .i64 (j : Int)] W fun e w' => e = .returned (.int .i64 (Tm.endAt zs j : Int)) ∧ Below W.heap.size W w' :=
    fun W hW => end_any zs (Tm.err_len he) _ cap j (by have := Tm.err_len he; omega) W ((hI.below hW).mono hW.size)
  have HE := show Hid _ from hE
  have hei := Tm.end_in he hj
  have heg := Tm.endAt_gt zs j
  have h30 := Tm.err_len he
  have hu30 := Tm.err_len hu
  have hlen := Tm.put_length (us := us) hj
  have hcon : ∀ (W : World) (a3 : Option Addr) (n3 c3 : Nat), Below w.heap.size w W → Ints w.heap.size w a3 (zs.drop (Tm.endAt zs j)) → a3 ≠ none → n3 = zs.length - Tm.endAt zs j →
      Calls Try.prog 53 #[.slice (some ⟨W.heap.size, 0, none⟩) 3 3] (W.alloc (.cells #[.slice (some ⟨b, off, none⟩) j cap, .slice au us.length cu, .slice a3 n3 c3] 23)) fun e w' => ∃ v, e = .returned v ∧ New w.heap.size w' v (Tm.put zs j us) ∧ Below w.heap.size w w' := by
    intro W a3 n3 c3 hW hI3 hn3 hl3
    refine (concat3 (zs.take j) us (zs.drop (Tm.endAt zs j)) (some ⟨b, off, none⟩) au a3 cap cu c3 j n3 W (((hI.below hW).mono hW.size).take j) ((hU.below hW).mono hW.size) ((hI3.below hW).mono hW.size)
      (by rw [List.length_take]; omega) (by rw [List.length_drop]; omega) (by simp) (hU.some (Tm.err_pos hu)) hn3 (Tm.err_pos hu) (by rw [List.length_take, List.length_drop]; omega)).mono ?_
    rintro e w' ⟨v, rfl, hN, hB⟩
    exact ⟨v, rfl, hN.mono hW.size, hW.trans (hB.mono hW.size)⟩
  have HCo := show Hid _ from hcon
  have HI := show Hid _ from hI
  clear hC2 hE hcon hI hU
  unfold maxLen at hcap2
  generalize hq : Tm.endAt zs j = q at *
  clear hq he hu
  generalize Tm.put zs j us = pt at *
  have h1 : (j : Int) < (zs.length : Int) := by omega
  have h2 : (zs.length : Int) ≤ (cap : Int) := by omega
  have h3 : (zs.length : Int) ≤ 30 := by omega
  have h4 : (q : Int) ≤ (zs.length : Int) := by omega
  have h5 : (j : Int) ≤ (cap : Int) := by omega
  have h6 : (cap : Int) ≤ 9223372036854775807 := by omega
  have hpl : (pt.length : Int) ≤ 1000 := by omega
  have Hlen := show Hid _ from hlen
  clear hlen
  by_cases hz : cap - q = 0
  · obtain ⟨rfl, rfl⟩ : zs.length = cap ∧ q = zs.length := by omega
    by_cases hbig : 30 < pt.length
    · have hbig' : (30 : Int) < (pt.length : Int) := by omega
      rw [if_pos hbig, if_pos hbig]
      clear hbig
      go_enter Try.func22, Try.ntmps22
      go_wp2_with fail
      refine hC1.mono ?_
      rintro e w1 ⟨rfl, hB1⟩
      go_wp2_with fail
      refine (HC2.out _ hB1).mono ?_
      rintro e w2 ⟨rfl, hB2⟩
      have hB12 := hB1.trans (hB2.mono hB1.size)
      go_wp2_with (go_at_call 43; refine (hasPlace_any _ _ _ _ _).mono ?_; rw [hp]; rintro e w2 ⟨rfl, rfl⟩)
      go_region_with (first
        | (go_at_call 44; refine (HE.out _ (by exact below_drewN hB12 1)).mono ?_; rintro e w3 ⟨rfl, hB3⟩; have hB13 := (below_drewN hB12 1).trans (hB3.mono hB12.size))
        | (go_at_call 53; refine (HCo.out _ (some ⟨b, off, none⟩) _ _ hB13 (by rw [List.drop_length]; exact Ints.nil _ _ _) (by simp) (by omega)).mono ?_; rintro e w4 ⟨v, rfl, hN, hB4⟩; obtain ⟨a', c', rfl, _⟩ := New.ints hN))
      all_goals (
        go_wp2
        go_ret2
        exact ⟨_, rfl, New.nil _ _, hB4⟩)
    · have hbig' : (pt.length : Int) ≤ 30 := by omega
      rw [if_neg hbig, if_neg hbig]
      clear hbig
      go_enter Try.func22, Try.ntmps22
      go_wp2_with fail
      refine hC1.mono ?_
      rintro e w1 ⟨rfl, hB1⟩
      go_wp2_with fail
      refine (HC2.out _ hB1).mono ?_
      rintro e w2 ⟨rfl, hB2⟩
      have hB12 := hB1.trans (hB2.mono hB1.size)
      go_wp2_with (go_at_call 43; refine (hasPlace_any _ _ _ _ _).mono ?_; rw [hp]; rintro e w2 ⟨rfl, rfl⟩)
      go_region_with (first
        | (go_at_call 44; refine (HE.out _ (by exact below_drewN hB12 1)).mono ?_; rintro e w3 ⟨rfl, hB3⟩; have hB13 := (below_drewN hB12 1).trans (hB3.mono hB12.size))
        | (go_at_call 53; refine (HCo.out _ (some ⟨b, off, none⟩) _ _ hB13 (by rw [List.drop_length]; exact Ints.nil _ _ _) (by simp) (by omega)).mono ?_; rintro e w4 ⟨v, rfl, hN, hB4⟩; obtain ⟨a', c', rfl, _⟩ := New.ints hN))
      all_goals (
        go_wp2
        go_ret2
        exact ⟨_, rfl, hN, hB4⟩)
  · by_cases hbig : 30 < pt.length
    · have hbig' : (30 : Int) < (pt.length : Int) := by omega
      rw [if_pos hbig, if_pos hbig]
      clear hbig
      go_enter Try.func22, Try.ntmps22
      go_wp2_with fail
      refine hC1.mono ?_
      rintro e w1 ⟨rfl, hB1⟩
      go_wp2_with fail
      refine (HC2.out _ hB1).mono ?_
      rintro e w2 ⟨rfl, hB2⟩
      have hB12 := hB1.trans (hB2.mono hB1.size)
      go_wp2_with (go_at_call 43; refine (hasPlace_any _ _ _ _ _).mono ?_; rw [hp]; rintro e w2 ⟨rfl, rfl⟩)
      go_region_with (first
        | (go_at_call 44; refine (HE.out _ (by exact below_drewN hB12 1)).mono ?_; rintro e w3 ⟨rfl, hB3⟩; have hB13 := (below_drewN hB12 1).trans (hB3.mono hB12.size))
        | (go_at_call 53; refine (HCo.out _ (some ⟨b, off + q, none⟩) _ _ hB13 (Ints.drop HI.out q) (by simp) (by omega)).mono ?_; rintro e w4 ⟨v, rfl, hN, hB4⟩; obtain ⟨a', c', rfl, _⟩ := New.ints hN))
      all_goals (
        go_wp2
        go_ret2
        exact ⟨_, rfl, New.nil _ _, hB4⟩)
    · have hbig' : (pt.length : Int) ≤ 30 := by omega
      rw [if_neg hbig, if_neg hbig]
      clear hbig
      go_enter Try.func22, Try.ntmps22
      go_wp2_with fail
      refine hC1.mono ?_
      rintro e w1 ⟨rfl, hB1⟩
      go_wp2_with fail
      refine (HC2.out _ hB1).mono ?_
      rintro e w2 ⟨rfl, hB2⟩
      have hB12 := hB1.trans (hB2.mono hB1.size)
      go_wp2_with (go_at_call 43; refine (hasPlace_any _ _ _ _ _).mono ?_; rw [hp]; rintro e w2 ⟨rfl, rfl⟩)
      go_region_with (first
        | (go_at_call 44; refine (HE.out _ (by exact below_drewN hB12 1)).mono ?_; rintro e w3 ⟨rfl, hB3⟩; have hB13 := (below_drewN hB12 1).trans (hB3.mono hB12.size))
        | (go_at_call 53; refine (HCo.out _ (some ⟨b, off + q, none⟩) _ _ hB13 (Ints.drop HI.out q) (by simp) (by omega)).mono ?_; rintro e w4 ⟨v, rfl, hN, hB4⟩; obtain ⟨a', c', rfl, _⟩ := New.ints hN))
      all_goals (
        go_wp2
        go_ret2
        exact ⟨_, rfl, hN, hB4⟩)

end Go.Proofs.Ytbelnlemjcoifaa
