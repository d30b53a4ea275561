/-
  sub.After, haspref.AfterOf.
-/
import Derived.Test.YtbelnlemjcoifaaSub6
namespace Go.Proofs.Ytbelnlemjcoifaa
open Go.Proofs Go.RowKit Go.Shelf

/-- Is what t becomes small enough? -/
def Tm.fits (us : List (List Int)) (t : List Int) : Bool := decide ((Tm.applied us t).length ≤ 30)
def Tm.afterL (ss us : List (List Int)) : List (List Int) := ss.map (Tm.applied us)
def Tm.afterErr (ss us : List (List Int)) : Int := if Tm.subErr ss = 0 then (if Tm.subErr us = 0 then (if ss.all (Tm.fits us) = true then 0 else 2) else Tm.subErr us) else Tm.subErr ss
def Tm.afterVal (ss us : List (List Int)) : List (List Int) := if Tm.afterErr ss us = 0 then Tm.afterL ss us else []
theorem Tm.after_s {ss us : List (List Int)} (h : Tm.subErr ss ≠ 0) : Tm.afterErr ss us = Tm.subErr ss ∧ Tm.afterVal ss us = [] := by
  have h1 : Tm.afterErr ss us = Tm.subErr ss := by unfold Tm.afterErr; rw [if_neg h]
  exact ⟨h1, by unfold Tm.afterVal; rw [h1, if_neg h]⟩
theorem Tm.after_u {ss us : List (List Int)} (hs : Tm.subErr ss = 0) (h : Tm.subErr us ≠ 0) : Tm.afterErr ss us = Tm.subErr us ∧ Tm.afterVal ss us = [] := by
  have h1 : Tm.afterErr ss us = Tm.subErr us := by unfold Tm.afterErr; rw [if_pos hs, if_neg h]
  exact ⟨h1, by unfold Tm.afterVal; rw [h1, if_neg h]⟩
theorem Tm.after_big {ss us : List (List Int)} (hs : Tm.subErr ss = 0) (hu : Tm.subErr us = 0) {k : Nat} (hk : k < ss.length) (h : Tm.fits us (ss[k]?.getD []) = false) : Tm.afterErr ss us = 2 ∧ Tm.afterVal ss us = [] := by
  have ha : ¬ ss.all (Tm.fits us) = true := by
    rw [List.all_eq_true]
    intro hall
    have := hall ss[k] (List.getElem_mem hk)
    simp only [hk, List.getElem?_eq_getElem, Option.getD_some] at h
    rw [h] at this
    cases this
  have h1 : Tm.afterErr ss us = 2 := by unfold Tm.afterErr; rw [if_pos hs, if_pos hu, if_neg ha]
  exact ⟨h1, by unfold Tm.afterVal; rw [h1, if_neg (by decide)]⟩
theorem Tm.after_ok {ss us : List (List Int)} (hs : Tm.subErr ss = 0) (hu : Tm.subErr us = 0) (h : ss.all (Tm.fits us) = true) : Tm.afterErr ss us = 0 ∧ Tm.afterVal ss us = Tm.afterL ss us := by
  have h1 : Tm.afterErr ss us = 0 := by unfold Tm.afterErr; rw [if_pos hs, if_pos hu, if_pos h]
  exact ⟨h1, by unfold Tm.afterVal; rw [h1, if_pos rfl]⟩
theorem Tm.fits_snoc {ss us : List (List Int)} {k : Nat} (hk : k < ss.length) (h : (ss.take k).all (Tm.fits us) = true) (hf : Tm.fits us (ss[k]?.getD []) = true) : (ss.take (k + 1)).all (Tm.fits us) = true := by
  rw [takeS_snoc hk, List.all_append, h]
  simp [hf]
theorem Tm.afterL_snoc {ss us : List (List Int)} {k : Nat} (hk : k < ss.length) : Tm.afterL (ss.take (k + 1)) us = Tm.afterL (ss.take k) us ++ [Tm.applied us (ss[k]?.getD [])] := by
  rw [takeS_snoc hk]
  simp [Tm.afterL]
theorem Tm.afterL_length {ss us : List (List Int)} : (Tm.afterL ss us).length = ss.length := by simp [Tm.afterL]

set_option maxRecDepth 100000 in
set_option maxHeartbeats 1000000 in
/-- sub.After, of right ones. -/
theorem after_right (ss us : List (List Int)) (hs : Tm.subErr ss = 0) (hu : Tm.subErr us = 0) (a b : Option Addr) (ca cb : Nat) (w : World) (hS : Subs w.heap.size w a ss) (hU : Subs w.heap.size w b us) :
    Calls Try.prog 30 #[.slice a 8 ca, .slice b 8 cb] w fun e w' => ∃ v, e = .returned (.tuple #[v, .int .i64 (Tm.afterErr ss us)]) ∧ NewS w.heap.size w' v (Tm.afterVal ss us) ∧ Below w.heap.size w w' := by
  obtain ⟨hsl, hsf⟩ := Tm.subErr_ok hs
  obtain ⟨hul, huf⟩ := Tm.subErr_ok hu
  have hC1 := subCheck_any ss a ca w hS
  rw [hs, hsl] at hC1
  have hC2 : ∀ W, Below w.heap.size w W → Calls Try.prog 28 #[.slice b 8 cb] W fun e w' => e = .returned (.int .i64 0) ∧ Below W.heap.size W w' := fun W hW => by
    have h := subCheck_any us b cb W ((hU.below hW).mono hW.size)
    rw [hu, hul] at h
    exact h
  obtain ⟨bs, os, rfl, hbs, hcs⟩ := hS.at (by omega)
  have hb : ∀ (k : Nat), k < 8 → ∀ (aj : Option Addr) (cj : Nat) (W : World), Below w.heap.size w W → Ints W.heap.size W aj (ss[k]?.getD []) → Calls Try.prog 55 #[.slice b 8 cb, .slice aj (ss[k]?.getD []).length cj] W fun e w' =>
      ∃ v, e = .returned (.tuple #[v, .int .i64 (if 30 < (Tm.applied us (ss[k]?.getD [])).length then 2 else 0)]) ∧ New W.heap.size w' v (if 30 < (Tm.applied us (ss[k]?.getD [])).length then [] else Tm.applied us (ss[k]?.getD [])) ∧ Below W.heap.size W w' := fun k hk aj cj W hW hI => by
    have he := Tm.firstErr_all hsf k (by omega)
    exact become_any us hul (Short.of_ok huf) b cb _ aj cj (Tm.err_len he) (Tm.known8 he) W ((hU.below hW).mono hW.size) hI
  have hbig : ∀ k, k < 8 → Tm.fits us (ss[k]?.getD []) = false → Tm.afterErr ss us = 2 ∧ Tm.afterVal ss us = [] := fun k hk h => Tm.after_big hs hu (by omega) h
  have hok : ss.all (Tm.fits us) = true → Tm.afterErr ss us = 0 ∧ Tm.afterVal ss us = Tm.afterL ss us := Tm.after_ok hs hu
  have HC2 := hid hC2
  have Hb := hid hb
  have Hcs := hid hcs
  have Hsl := hid hsl
  have Hbig := hid hbig
  have Hok := hid hok
  clear hC2 hb hcs hsl hbig hok hs hu hsf huf hul hS hU
  go_enter Try.func30, Try.ntmps30
  go_wp2_with fail
  refine hC1.mono ?_
  rintro e w1 ⟨rfl, hB1⟩
  clear hC1
  go_wp2_with fail
  refine (HC2.out _ hB1).mono ?_
  rintro e w2 ⟨rfl, hB2⟩
  have hB3 := hB1.trans (hB2.mono hB1.size)
  clear hB1 hB2 HC2
  go_wp2
  go_loopw [8, 25] (fun v i wr => ∃ k : Nat, k ≤ 8 ∧ i = .int .i64 (k : Int) ∧ Hid ((ss.take k).all (Tm.fits us) = true) ∧ NewS w.heap.size wr v (Tm.afterL (ss.take k) us) ∧ Below w.heap.size w wr) (fun _ i _ => 8 - (intOf i).toNat)
  case atStart => exact ⟨0, Nat.zero_le _, rfl, rfl, NewS.nil _ _, hB3⟩
  case round =>
    obtain ⟨k, hk, rfl, hall, hN, hB⟩ := hrel
    clear hB3
    by_cases hlt : k < 8
    · have hlt' : (k : Int) < 8 := by omega
      have hks : k < ss.length := by have := Hsl.out; omega
      obtain ⟨aj, cj, hcj0, hIj0, _⟩ := Hcs.out k hks
      have hcj := (hB.cell (p := ⟨bs, os + k, none⟩) hbs).trans hcj0
      have hbe := Hb.out k hlt aj cj wr hB ((hIj0.below hB).mono hB.size)
      have hsn := hid (Tm.afterL_snoc (us := us) hks)
      have hln : Hid ((Tm.afterL (ss.take k) us).length ≤ 1000000) := by
        show _ ≤ _
        rw [Tm.afterL_length, List.length_take]
        omega
      cases hfit : Tm.fits us (ss[k]?.getD []) with
      | true =>
        have hfs := hid (Tm.fits_snoc hks hall.out hfit)
        have hno : ¬ 30 < (Tm.applied us (ss[k]?.getD [])).length := by
          simp only [Tm.fits, decide_eq_true_eq] at hfit
          omega
        rw [if_neg hno, if_neg hno] at hbe
        clear hno hfit hcj0 hIj0 hks
        generalize Tm.applied us (ss[k]?.getD []) = pt at *
        generalize ss[k]?.getD [] = t at *
        generalize Tm.afterL (ss.take k) us = xs at *
        obtain ⟨a0, c0, rfl, _⟩ := NewS.subs hN
        go_wp2_with fail
        refine hbe.mono ?_
        rintro e w3 ⟨v3, rfl, hN3, hB3⟩
        obtain ⟨a3, c3, rfl, _⟩ := New.ints hN3
        have hB4 := hB.trans (hB3.mono hB.size)
        have HN4 := hid ((hN.below hB3).alloc (.cells #[.slice a3 pt.length c3] 23))
        have Hu4 := hid ((hN3.mono hB.size).alloc (.cells #[.slice a3 pt.length c3] 23))
        have Hcn := hid (cell_new w3 (.slice a3 pt.length c3) 23 w3.heap.size rfl)
        have hA : Below w.heap.size w (w3.alloc (.cells #[.slice a3 pt.length c3] 23)) := hB4.alloc hB4.size _
        clear hN hN3 hB3 hB hbe
        go_wp2_with (at_builtin; go_loud (refine wp_append_sub _ rfl _ _ rfl w.heap.size _ xs rfl HN4.out (.slice a3 pt.length c3) pt w3.heap.size rfl Hcn.out Hu4.out hln.out hA.size ?_); intro v' w5 hN5 hB5; obtain ⟨a5, c5, rfl, _⟩ := NewS.subs hN5)
        go_roundw
        case rel => exact ⟨k + 1, by omega, by go_num, hfs.out, by rw [hsn.out]; simpa using hN5, hA.trans hB5⟩
        case measure => simp [intOf]; omega
      | false =>
        obtain ⟨e1, e2⟩ := Hbig.out k hlt hfit
        have E1 := hid e1
        have E2 := hid e2
        have hyes : 30 < (Tm.applied us (ss[k]?.getD [])).length := by
          simp only [Tm.fits, decide_eq_false_iff_not] at hfit
          omega
        rw [if_pos hyes, if_pos hyes] at hbe
        clear hyes hfit hcj0 hIj0 hks e1 e2 hsn hln
        generalize ss[k]?.getD [] = t at *
        go_wp2_with fail
        refine hbe.mono ?_
        rintro e w3 ⟨v3, rfl, hN3, hB3⟩
        obtain ⟨a3, c3, rfl, _⟩ := New.ints hN3
        go_wp2
        go_ret2
        exact ⟨_, by rw [E1.out]; rfl, by rw [E2.out]; exact NewS.nil _ _, hB.trans (hB3.mono hB.size)⟩
    · obtain rfl : k = 8 := by omega
      have e8 : ss.take 8 = ss := by rw [← Hsl.out, List.take_length]
      obtain ⟨e1, e2⟩ := Hok.out (by have := hall.out; rw [e8] at this; exact this)
      have E1 := hid e1
      have E2 := hid e2
      rw [e8] at hN
      clear e1 e2 e8
      obtain ⟨a0, c0, rfl, _⟩ := NewS.subs hN
      go_wp2
      go_ret2
      exact ⟨_, by rw [E1.out]; rfl, by rw [E2.out]; exact hN, hB⟩

set_option maxRecDepth 100000 in
set_option maxHeartbeats 400000 in
/-- sub.After. -/
theorem after_any (ss us : List (List Int)) (a b : Option Addr) (ca cb : Nat) (w : World) (hS : Subs w.heap.size w a ss) (hU : Subs w.heap.size w b us) :
    Calls Try.prog 30 #[.slice a ss.length ca, .slice b us.length cb] w fun e w' => ∃ v, e = .returned (.tuple #[v, .int .i64 (Tm.afterErr ss us)]) ∧ NewS w.heap.size w' v (Tm.afterVal ss us) ∧ Below w.heap.size w w' := by
  by_cases hs : Tm.subErr ss = 0
  · by_cases hu : Tm.subErr us = 0
    · rw [(Tm.subErr_ok hs).1, (Tm.subErr_ok hu).1]
      exact after_right ss us hs hu a b ca cb w hS hU
    · obtain ⟨e1, e2⟩ := Tm.after_u hs hu
      rw [e1, e2]
      have hC1 := subCheck_any ss a ca w hS
      rw [hs] at hC1
      have hC2 : ∀ W, Below w.heap.size w W → Calls Try.prog 28 #[.slice b us.length cb] W fun e w' => e = .returned (.int .i64 (Tm.subErr us)) ∧ Below W.heap.size W w' := fun W hW => subCheck_any us b cb W ((hU.below hW).mono hW.size)
      have HC2 := hid hC2
      have hne : (Tm.subErr us != 0) = true := by simp [hu]
      clear hC2 e1 e2 hs hu hS hU
      generalize Tm.subErr us = q at *
      go_enter Try.func30, Try.ntmps30
      go_wp2_with fail
      refine hC1.mono ?_
      rintro e w1 ⟨rfl, hB1⟩
      clear hC1
      go_wp2_with fail
      refine (HC2.out _ hB1).mono ?_
      rintro e w2 ⟨rfl, hB2⟩
      go_wp2
      go_ret2
      exact ⟨_, rfl, NewS.nil _ _, hB1.trans (hB2.mono hB1.size)⟩
  · obtain ⟨e1, e2⟩ := Tm.after_s (us := us) hs
    rw [e1, e2]
    have hC1 := subCheck_any ss a ca w hS
    have hne : (Tm.subErr ss != 0) = true := by simp [hs]
    clear e1 e2 hs hS hU
    generalize Tm.subErr ss = q at *
    go_enter Try.func30, Try.ntmps30
    go_wp2_with fail
    refine hC1.mono ?_
    rintro e w1 ⟨rfl, hB1⟩
    go_wp2
    go_ret2
    exact ⟨_, rfl, NewS.nil _ _, hB1⟩

end Go.Proofs.Ytbelnlemjcoifaa
