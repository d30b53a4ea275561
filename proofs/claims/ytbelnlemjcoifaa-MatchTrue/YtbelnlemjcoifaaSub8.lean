/-
  haspref.AfterOf.
-/
import Derived.Test.YtbelnlemjcoifaaSub7
namespace Go.Proofs.Ytbelnlemjcoifaa
open Go.Proofs Go.RowKit Go.Shelf

set_option maxRecDepth 100000 in
set_option maxHeartbeats 1000000 in
/-- haspref.AfterOf, of right ones. -/
theorem afterOf_right (ss us : List (List Int)) (hs : Tm.subErr ss = 0) (hu : Tm.subErr us = 0) (a b : Option Addr) (ca cb : Nat) (w : World) (hS : Subs w.heap.size w a ss) (hU : Subs w.heap.size w b us) :
    Calls Try.prog 32 #[.slice a 8 ca, .slice b 8 cb] w fun e w' => ∃ v, e = .returned (.tuple #[v, .int .i64 (Tm.afterErr ss us)]) ∧ NewS w.heap.size w' v (Tm.afterVal ss us) ∧ Below w.heap.size w w' := by
  obtain ⟨hsl, hsf⟩ := Tm.subErr_ok hs
  obtain ⟨hul, huf⟩ := Tm.subErr_ok hu
  have hC1 := subError_any ss a ca w hS
  rw [hs, hsl] at hC1
  have hC2 := subError_any us b cb w hU
  rw [hu, hul] at hC2
  obtain ⟨bs, os, rfl, hbs, hcs⟩ := hS.at (by omega)
  have hb : ∀ (k : Nat), k < 8 → ∀ (aj : Option Addr) (cj : Nat) (W : World), Below w.heap.size w W → Ints W.heap.size W aj (ss[k]?.getD []) → Calls Try.prog 56 #[.slice b 8 cb, .slice aj (ss[k]?.getD []).length cj] W fun e w' =>
      ∃ v, e = .returned v ∧ New W.heap.size w' v (Tm.applied us (ss[k]?.getD [])) ∧ Below W.heap.size W w' := fun k hk aj cj W hW hI => by
    have he := Tm.firstErr_all hsf k (by omega)
    exact applied_any us hul (Short.of_ok huf) b cb _ aj cj (Tm.err_len he) (Tm.known8 he) W ((hU.below hW).mono hW.size) hI
  have hle : ∀ k, k < 8 → (Tm.applied us (ss[k]?.getD [])).length ≤ 1000 := fun k hk => by
    have he := Tm.firstErr_all hsf k (by omega)
    have h1 := Tm.applied_le (Short.of_ok huf) (ss[k]?.getD [])
    have h2 := Tm.err_len he
    omega
  have hbig : ∀ k, k < 8 → Tm.fits us (ss[k]?.getD []) = false → Tm.afterErr ss us = 2 ∧ Tm.afterVal ss us = [] := fun k hk h => Tm.after_big hs hu (by omega) h
  have hok : ss.all (Tm.fits us) = true → Tm.afterErr ss us = 0 ∧ Tm.afterVal ss us = Tm.afterL ss us := Tm.after_ok hs hu
  have Hb := hid hb
  have Hcs := hid hcs
  have Hsl := hid hsl
  have Hbig := hid hbig
  have Hok := hid hok
  have Hle := hid hle
  clear hb hcs hsl hbig hok hs hu hsf huf hul hS hU hle
  go_enter Try.func32, Try.ntmps32
  go_wp2_with fail
  refine hC1.mono ?_
  rintro e w ⟨rfl, rfl⟩
  go_wp2_with fail
  refine hC2.mono ?_
  rintro e w ⟨rfl, rfl⟩
  clear hC1 hC2
  go_wp2
  go_loopw [8, 9] (fun v i wr => ∃ k : Nat, k ≤ 8 ∧ i = .int .i64 (k : Int) ∧ Hid ((ss.take k).all (Tm.fits us) = true) ∧ NewS w.heap.size wr v (Tm.afterL (ss.take k) us) ∧ Below w.heap.size w wr) (fun _ i _ => 8 - (intOf i).toNat)
  case atStart => exact ⟨0, Nat.zero_le _, rfl, rfl, NewS.nil _ _, Below.refl _ _⟩
  case round =>
    obtain ⟨k, hk, rfl, hall, hN, hB⟩ := hrel
    by_cases hlt : k < 8
    · have hlt' : (k : Int) < 8 := by omega
      have hks : k < ss.length := by have := Hsl.out; omega
      obtain ⟨aj, cj, hcj0, hIj0, _⟩ := Hcs.out k hks
      have hcj := (hB.cell (p := ⟨bs, os + k, none⟩) hbs).trans hcj0
      have hbe := Hb.out k hlt aj cj wr hB ((hIj0.below hB).mono hB.size)
      have hl1 := Hle.out k hlt
      have hsn := hid (Tm.afterL_snoc (us := us) hks)
      have hln : Hid ((Tm.afterL (ss.take k) us).length ≤ 1000000) := by
        show _ ≤ _
        rw [Tm.afterL_length, List.length_take]
        omega
      cases hfit : Tm.fits us (ss[k]?.getD []) with
      | true =>
        have hfs := hid (Tm.fits_snoc hks hall.out hfit)
        have hno : (Tm.applied us (ss[k]?.getD [])).length ≤ 30 := by simpa only [Tm.fits, decide_eq_true_eq] using hfit
        clear hfit hcj0 hIj0 hks hl1
        generalize Tm.applied us (ss[k]?.getD []) = pt at *
        generalize ss[k]?.getD [] = t at *
        generalize Tm.afterL (ss.take k) us = xs at *
        have hno' : (pt.length : Int) ≤ 30 := by omega
        obtain ⟨a0, c0, rfl, _⟩ := NewS.subs hN
        go_wp2_with fail
        refine hbe.mono ?_
        rintro e w3 ⟨v3, rfl, hN3, hB3⟩
        obtain ⟨a3, c3, rfl, _⟩ := New.ints hN3
        have hB4 := hB.trans (hB3.mono hB.size)
        have HN4 := hid ((hN.below hB3).alloc (.cells #[.slice a3 pt.length c3] 23))
        have Hu4 := hid ((hN3.mono hB.size).alloc (.cells #[.slice a3 pt.length c3] 23))
        have Hcn := hid (cell_new w3 (.slice a3 pt.length c3) 23 w3.heap.size rfl)
        have hA : Below w.heap.size w (w3.alloc (.cells #[.slice a3 pt.length c3] 23)) := hB4.alloc hB4.size _
        clear hN hN3 hB3 hB hbe
        go_wp2_with (at_builtin; go_loud (refine wp_append_sub _ rfl _ _ rfl w.heap.size _ xs rfl HN4.out (.slice a3 pt.length c3) pt w3.heap.size rfl Hcn.out Hu4.out hln.out hA.size ?_); intro v' w5 hN5 hB5; obtain ⟨a5, c5, rfl, _⟩ := NewS.subs hN5)
        go_roundw
        case rel => exact ⟨k + 1, by omega, by go_num, hfs.out, by rw [hsn.out]; simpa using hN5, hA.trans hB5⟩
        case measure => simp [intOf]; omega
      | false =>
        obtain ⟨e1, e2⟩ := Hbig.out k hlt hfit
        have E1 := hid e1
        have E2 := hid e2
        have hyes : 30 < (Tm.applied us (ss[k]?.getD [])).length := by
          simp only [Tm.fits, decide_eq_false_iff_not] at hfit
          omega
        clear hfit hcj0 hIj0 hks e1 e2 hsn hln
        generalize Tm.applied us (ss[k]?.getD []) = pt at *
        generalize ss[k]?.getD [] = t at *
        have hyes' : (30 : Int) < (pt.length : Int) := by omega
        have hl1' : (pt.length : Int) ≤ 1000 := by omega
        go_wp2_with fail
        refine hbe.mono ?_
        rintro e w3 ⟨v3, rfl, hN3, hB3⟩
        obtain ⟨a3, c3, rfl, _⟩ := New.ints hN3
        go_wp2
        go_ret2
        exact ⟨_, by rw [E1.out]; rfl, by rw [E2.out]; exact NewS.nil _ _, hB.trans (hB3.mono hB.size)⟩
    · obtain rfl : k = 8 := by omega
      have e8 : ss.take 8 = ss := by rw [← Hsl.out, List.take_length]
      obtain ⟨e1, e2⟩ := Hok.out (by have := hall.out; rw [e8] at this; exact this)
      have E1 := hid e1
      have E2 := hid e2
      rw [e8] at hN
      clear e1 e2 e8
      obtain ⟨a0, c0, rfl, _⟩ := NewS.subs hN
      go_wp2
      go_ret2
      exact ⟨_, by rw [E1.out]; rfl, by rw [E2.out]; exact hN, hB⟩

set_option maxRecDepth 100000 in
set_option maxHeartbeats 400000 in
/-- haspref.AfterOf. -/
theorem afterOf_any (ss us : List (List Int)) (a b : Option Addr) (ca cb : Nat) (w : World) (hS : Subs w.heap.size w a ss) (hU : Subs w.heap.size w b us) :
    Calls Try.prog 32 #[.slice a ss.length ca, .slice b us.length cb] w fun e w' => ∃ v, e = .returned (.tuple #[v, .int .i64 (Tm.afterErr ss us)]) ∧ NewS w.heap.size w' v (Tm.afterVal ss us) ∧ Below w.heap.size w w' := by
  by_cases hs : Tm.subErr ss = 0
  · by_cases hu : Tm.subErr us = 0
    · rw [(Tm.subErr_ok hs).1, (Tm.subErr_ok hu).1]
      exact afterOf_right ss us hs hu a b ca cb w hS hU
    · obtain ⟨e1, e2⟩ := Tm.after_u hs hu
      rw [e1, e2]
      have hC1 := subError_any ss a ca w hS
      rw [hs] at hC1
      have hC2 := subError_any us b cb w hU
      have hne : (Tm.subErr us != 0) = true := by simp [hu]
      clear e1 e2 hs hu hS hU
      generalize Tm.subErr us = q at *
      go_enter Try.func32, Try.ntmps32
      go_wp2_with fail
      refine hC1.mono ?_
      rintro e w ⟨rfl, rfl⟩
      clear hC1
      go_wp2_with fail
      refine hC2.mono ?_
      rintro e w ⟨rfl, rfl⟩
      go_wp2
      go_ret2
      exact ⟨_, rfl, NewS.nil _ _, Below.refl _ _⟩
  · obtain ⟨e1, e2⟩ := Tm.after_s (us := us) hs
    rw [e1, e2]
    have hC1 := subError_any ss a ca w hS
    have hne : (Tm.subErr ss != 0) = true := by simp [hs]
    clear e1 e2 hs hS hU
    generalize Tm.subErr ss = q at *
    go_enter Try.func32, Try.ntmps32
    go_wp2_with fail
    refine hC1.mono ?_
    rintro e w ⟨rfl, rfl⟩
    go_wp2
    go_ret2
    exact ⟨_, rfl, NewS.nil _ _, Below.refl _ _⟩

end Go.Proofs.Ytbelnlemjcoifaa
