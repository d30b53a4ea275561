/-
  haspref.PutOf; hasplaw.fxga, termBegun.
-/
import Derived.Deep.DeepCutAuto
import Derived.Test.YtbelnlemjcoifaaPut2
namespace Go.Proofs.Ytbelnlemjcoifaa
open Go.Proofs Go.RowKit Go.Shelf

set_option maxRecDepth 100000 in
set_option maxHeartbeats 400000 in
/-- haspref.PutOf. -/
theorem refPut_any (zs us : List Int) (a au : Option Addr) (cap cu : Nat) (k : Int) (w : World) (hI : Ints w.heap.size w a zs) (hU : Ints w.heap.size w au us) (hcap : zs.length ≤ cap) (hcap2 : cap ≤ maxLen) :
    Calls Try.prog 23 #[.slice a zs.length cap, .int .i64 k, .slice au us.length cu] w fun e w' => ∃ v, e = .returned (.tuple #[v, .int .i64 (Tm.putErr zs k us)]) ∧ New w.heap.size w' v (Tm.putVal zs k us) ∧ Below w.heap.size w w' := by
  have hC1 := termError_any zs a cap w hI
  by_cases he : Tm.err zs = 0
  · have hC2 := termError_any us au cu w hU
    have h30 := Tm.err_len he
    have h30' : (zs.length : Int) ≤ 30 := by omega
    rw [he] at hC1
    by_cases hu : Tm.err us = 0
    · rw [hu] at hC2
      by_cases hp : insideB k 0 ((zs.length : Int) - 1) = true
      · have hk := (insideB_iff _ _ _).1 hp
        obtain ⟨j, rfl⟩ : ∃ j : Nat, k = (j : Int) := ⟨k.toNat, by omega⟩
        rw [Tm.putErr_in he hu hp, Tm.putVal_in he hu hp]
        have hP := refput_any zs us a au cap cu j w hI hU hcap hcap2 he hu (by omega)
        have hlen := Tm.put_length (us := us) (zs := zs) (k := j) (by omega)
        have hu30 := Tm.err_len hu
        have hjl : j < zs.length := by omega
        clear he hu hI hU hcap2 hk
        generalize Tm.put zs j us = pt at *
        have hpl : (pt.length : Int) ≤ 1000 := by omega
        clear hlen
        by_cases hbig : 30 < pt.length
        · have hbig' : (30 : Int) < (pt.length : Int) := by omega
          rw [if_pos hbig, if_pos hbig]
          clear hbig
          go_enter Try.func23, Try.ntmps23
          go_wp2_with fail
          refine hC1.mono ?_
          rintro e w ⟨rfl, rfl⟩
          go_wp2_with fail
          refine hC2.mono ?_
          rintro e w ⟨rfl, rfl⟩
          go_wp2_with (first
            | (go_at_call 51; refine (within_any _ _ _ _).mono ?_; rw [hp]; rintro e w ⟨rfl, rfl⟩)
            | (go_at_call 54; refine hP.mono ?_; rintro e w4 ⟨v, rfl, hN, hB⟩; obtain ⟨a4, c4, rfl, _⟩ := New.ints hN))
          go_ret2
          exact ⟨_, rfl, New.nil _ _, hB⟩
        · have hbig' : (pt.length : Int) ≤ 30 := by omega
          rw [if_neg hbig, if_neg hbig]
          clear hbig
          go_enter Try.func23, Try.ntmps23
          go_wp2_with fail
          refine hC1.mono ?_
          rintro e w ⟨rfl, rfl⟩
          go_wp2_with fail
          refine hC2.mono ?_
          rintro e w ⟨rfl, rfl⟩
          go_wp2_with (first
            | (go_at_call 51; refine (within_any _ _ _ _).mono ?_; rw [hp]; rintro e w ⟨rfl, rfl⟩)
            | (go_at_call 54; refine hP.mono ?_; rintro e w4 ⟨v, rfl, hN, hB⟩; obtain ⟨a4, c4, rfl, _⟩ := New.ints hN))
          go_ret2
          exact ⟨_, rfl, hN, hB⟩
      · have hp' : insideB k 0 ((zs.length : Int) - 1) = false := by simpa using hp
        have hpe := Tm.putErr_k (us := us) he hu hp'
        rw [Tm.putVal_out (by rw [hpe]; decide), hpe]
        clear hpe hp he hu hI hU hcap2
        go_enter Try.func23, Try.ntmps23
        go_wp2_with fail
        refine hC1.mono ?_
        rintro e w ⟨rfl, rfl⟩
        go_wp2_with fail
        refine hC2.mono ?_
        rintro e w ⟨rfl, rfl⟩
        go_wp2_with (go_at_call 51; refine (within_any _ _ _ _).mono ?_; rw [hp']; rintro e w ⟨rfl, rfl⟩)
        go_ret2
        exact ⟨_, rfl, New.nil _ _, Below.refl _ _⟩
    · have hpe := Tm.putErr_us (k := k) he hu
      rw [Tm.putVal_out (by rw [hpe]; exact hu), hpe]
      have hne : (Tm.err us != 0) = true := by simp [hu]
      clear hpe he hu hI hU hcap2
      generalize Tm.err us = q at *
      go_enter Try.func23, Try.ntmps23
      go_wp2_with fail
      refine hC1.mono ?_
      rintro e w ⟨rfl, rfl⟩
      go_wp2_with fail
      refine hC2.mono ?_
      rintro e w ⟨rfl, rfl⟩
      go_wp2
      go_ret2
      exact ⟨_, rfl, New.nil _ _, Below.refl _ _⟩
  · have hpe := Tm.putErr_zs (us := us) (k := k) he
    rw [Tm.putVal_out (by rw [hpe]; exact he), hpe]
    have hne : (Tm.err zs != 0) = true := by simp [he]
    clear hpe he hI hU hcap2
    generalize Tm.err zs = q at *
    go_enter Try.func23, Try.ntmps23
    go_wp2_with fail
    refine hC1.mono ?_
    rintro e w ⟨rfl, rfl⟩
    go_wp2
    go_ret2
    exact ⟨_, rfl, New.nil _ _, Below.refl _ _⟩

theorem ints_lit (W : World) (zs : List Int) (n : Nat) (hn : n = W.heap.size + 1) : Ints n (W.alloc (.cells (zs.map (Value.int .i64)).toArray 3)) (some ⟨W.heap.size, 0, none⟩) zs := by
  subst hn
  intro j hj
  refine ⟨W.heap.size, 0, rfl, by omega, ?_⟩
  rw [cell_at (World.alloc_heap_new W _)]
  simp [hj]

set_option maxHeartbeats 400000 in
theorem fxga_any (w : World) : Calls Try.prog 49 #[] w fun e w' => ∃ a, e = .returned (.slice a 4 4) ∧ Ints w'.heap.size w' a [4, -1, 2, 0] ∧ Below w.heap.size w w' := by
  have h := ints_lit w [4, -1, 2, 0] _ rfl
  simp only [List.map_cons, List.map_nil] at h
  go_enter Try.func49, Try.ntmps49
  go_wp2
  go_ret
  exact ⟨_, rfl, by simpa using h, (Below.refl _ _).alloc (Nat.le_refl _) _⟩

end Go.Proofs.Ytbelnlemjcoifaa
