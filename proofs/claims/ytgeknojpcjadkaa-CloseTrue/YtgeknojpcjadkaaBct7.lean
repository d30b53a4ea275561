/-
  (*sides).byFirstThatDiffers.
-/
import Derived.Deep.DrawnRows
import Derived.Shelf.RegionOpen
import Derived.Test.YtgeknojpcjadkaaBct6
namespace Go.Proofs.Ytgeknojpcjadkaa
open Go.Proofs Go.RowKit Go.Shelf Go.Maps

attribute [local go_sem] Oper.semAt_some
attribute [local go_sem ↓] Go.wp_at_zero Go.wp_at_succ

theorem sd_below {C : Sd} {w W W2 : World} {tbl : Value → Option Value} {dom : Nat → Nat → Prop} {i j : Nat} (h : SdInv C w tbl dom i j W) (hB : Below W.heap.size W W2) (hM : C.M < w.heap.size) : SdInv C w tbl dom i j W2 := by
  obtain ⟨⟨tf, hf, htf⟩, bS, bA, kp⟩ := h
  exact ⟨⟨tf, hf.keep (hB.block _ (by have := kp.size; omega)), htf⟩, (hB.block _ (Array.getElem?_eq_some_iff.1 bS).1).trans bS, (hB.block _ (Array.getElem?_eq_some_iff.1 bA).1).trans bA, kp.trans (Keep.of_below (hB.mono kp.size))⟩
/-- What holds ahead of round m of byFirstThatDiffers. -/
structure FDInv (C : Sd) (w : World) (tbl : Value → Option Value) (i j m : Nat) (W : World) : Prop where
  no : Tm.sms C.za C.zb i j m = true
  sd : SdInv C w tbl (fun k l => k ≤ i ∨ l ≤ j) i j W
  bR : Boxed W (w.heap.size + 1 + 1) 4 (.bool false)
  bG : Boxed W (w.heap.size + 1 + 1 + 1) 3 (.int .i64 (Tm.pos C.zb j m : Int))
  bT : Boxed W (w.heap.size + 1 + 1 + 1 + 1) 37 (.slice (some ⟨C.ba, C.fa, none⟩) C.za.length C.ca)
  bK : Boxed W (w.heap.size + 1 + 1 + 1 + 1 + 1) 3 (.int .i64 (i : Int))

set_option maxRecDepth 100000 in
set_option maxHeartbeats 2000000 in
theorem byFirst_step (C : Sd) (O : SdOk C) (i j : Nat) (hi : i < C.za.length) (hj : j < C.zb.length) (hsy : C.za[i]?.getD 0 = C.zb[j]?.getD 0)
    (hA : ∀ k l, i < k → k < C.za.length → j < l → l < C.zb.length → AboveAt C 87 k l (Tm.ab C.rk C.za C.zb k l) fun k' l' => k' < k ∨ l' < l) :
    AboveAt C 146 i j (Tm.fd C.rk C.za C.zb i j (Tm.room (C.za[i]?.getD 0))) fun k l => k ≤ i ∨ l ≤ j := by
  intro w tbl H
  obtain ⟨F, hF⟩ : ∃ F, F = Fence.wide := ⟨_, rfl⟩
  refine (callsIn_wide (n := 3)).1 ?_
  rw [← hF]
  obtain ⟨hro, hfn, hdd, hcin⟩ := wide_facts hF
  have HPl : Hid (Pl F) := by rw [hF]; exact wide_pl
  have HF := hid hF
  clear hF
  have hf1 := hfn 146
  have hf2 := hfn 87
  have hf3 := hfn 121
  have hf4 := hfn 147
  have hf5 := hfn 145
  have hfn' := hfn
  clear hfn
  have hf6 := hfn' 89
  have la := Tm.err_len O.ea
  have lb := Tm.err_len O.eb
  have hltM := H.ltM
  have hltS := H.lt
  obtain ⟨W3, hW3⟩ : ∃ W3, (((w.alloc (.cells #[.pointer (some ⟨C.S, 0, none⟩)] 132)).alloc (.cells #[.int .i64 (i : Int), .int .i64 (j : Int)] 138)).alloc (.cells #[.bool false] 4)).alloc (.cells #[.int .i64 ((j : Int) + 1)] 3) = W3 := ⟨_, rfl⟩
  have hB0 : Below w.heap.size w W3 := by rw [← hW3]; exact ((((Below.refl _ w).alloc (Nat.le_refl _) _).alloc (by simp) _).alloc (by simp; omega) _).alloc (by simp; omega) _
  have bS : Boxed W3 w.heap.size 132 (.pointer (some ⟨C.S, 0, none⟩)) := by rw [← hW3]; exact (((Boxed.new w 132 (.pointer (some ⟨C.S, 0, none⟩))).alloc _).alloc _).alloc _
  have bA : W3.heap[w.heap.size + 1]? = some (.cells #[.int .i64 (i : Int), .int .i64 (j : Int)] 138 (0, 0)) := by
    rw [← hW3]
    have h1 := World.alloc_heap_new (w.alloc (.cells #[.pointer (some ⟨C.S, 0, none⟩)] 132)) (.cells #[.int .i64 (i : Int), .int .i64 (j : Int)] 138)
    rw [World.size_alloc] at h1
    exact (Below.heap_alloc _ _ _ (by simp)).trans ((Below.heap_alloc _ _ _ (by simp)).trans h1)
  have bR : Boxed W3 (w.heap.size + 1 + 1) 4 (.bool false) := by
    rw [← hW3]
    have h1 := Boxed.new ((w.alloc (.cells #[.pointer (some ⟨C.S, 0, none⟩)] 132)).alloc (.cells #[.int .i64 (i : Int), .int .i64 (j : Int)] 138)) 4 (.bool false)
    simp only [World.size_alloc] at h1
    exact h1.alloc _
  have bG : Boxed W3 (w.heap.size + 1 + 1 + 1) 3 (.int .i64 (Tm.pos C.zb j 0 : Int)) := by
    rw [← hW3, Tm.pos_zero]
    have h1 := Boxed.new (((w.alloc (.cells #[.pointer (some ⟨C.S, 0, none⟩)] 132)).alloc (.cells #[.int .i64 (i : Int), .int .i64 (j : Int)] 138)).alloc (.cells #[.bool false] 4)) 3 (.int .i64 ((j : Int) + 1))
    simp only [World.size_alloc] at h1
    exact h1
  have hs3 : W3.heap.size = w.heap.size + 1 + 1 + 1 + 1 := by rw [← hW3]; simp
  have HW3 := hid hW3
  clear hW3
  have H3 := H.below hB0
  have c1 := H3.c1
  have cS := bS.cell
  have cA := pair_cell0 bA
  have hS := hid (fun w' (hB : Below W3.heap.size W3 w') => (show w'.cell? ⟨C.S, 1, none⟩ = some (.slice (some ⟨C.ba, C.fa, none⟩) C.za.length C.ca) ∧ w'.cell? ⟨w.heap.size, 0, none⟩ = some (.pointer (some ⟨C.S, 0, none⟩)) ∧ w'.cell? ⟨w.heap.size + 1, 0, none⟩ = some (.int .i64 (i : Int)) from
    ⟨(hB.cell H3.lt).trans c1, (hB.cell bS.lt).trans cS, (hB.cell (p := ⟨w.heap.size + 1, 0, none⟩) (by show w.heap.size + 1 < _; omega)).trans cA⟩))
  obtain ⟨W5, hW5⟩ : ∃ W5, ((W3.alloc (.cells #[.slice (some ⟨C.ba, C.fa, none⟩) C.za.length C.ca] 37)).alloc (.cells #[.int .i64 (i : Int)] 3)).drew = W5 := ⟨_, rfl⟩
  have hB35 : Below W3.heap.size W3 W5 := by rw [← hW5]; exact below_drew1 (((Below.refl _ W3).alloc (Nat.le_refl _) _).alloc (by simp) _)
  have bT5 : Boxed W5 (w.heap.size + 1 + 1 + 1 + 1) 37 (.slice (some ⟨C.ba, C.fa, none⟩) C.za.length C.ca) := by
    rw [← hW5, ← hs3]; exact (Boxed.new W3 37 (.slice (some ⟨C.ba, C.fa, none⟩) C.za.length C.ca)).alloc _
  have bK5 : Boxed W5 (w.heap.size + 1 + 1 + 1 + 1 + 1) 3 (.int .i64 (i : Int)) := by
    have h1 := Boxed.new (W3.alloc (.cells #[.slice (some ⟨C.ba, C.fa, none⟩) C.za.length C.ca] 37)) 3 (.int .i64 (i : Int))
    rw [World.size_alloc, hs3] at h1
    rw [← hW5]; exact h1
  have hs5 : W5.heap.size = w.heap.size + 1 + 1 + 1 + 1 + 1 + 1 := by rw [← hW5]; show ((W3.alloc _).alloc _).heap.size = _; simp [hs3]
  have HW5 := hid hW5
  clear hW5
  have bS5 : Boxed W5 w.heap.size 132 (.pointer (some ⟨C.S, 0, none⟩)) := (hB35.block _ bS.lt).trans bS
  have bA5 := (hB35.block _ (by omega)).trans bA
  have bR5 : Boxed W5 (w.heap.size + 1 + 1) 4 (.bool false) := (hB35.block _ bR.lt).trans bR
  have bG5 : Boxed W5 (w.heap.size + 1 + 1 + 1) 3 (.int .i64 (Tm.pos C.zb j 0 : Int)) := (hB35.block _ bG.lt).trans bG
  have hB5 : Below w.heap.size w W5 := hB0.trans (hB35.mono hB0.size)
  have I0 : FDInv C w tbl i j 0 W5 := ⟨rfl, ⟨⟨tbl, H.fnd.keep (hB5.block _ hltM), fun _ _ _ => rfl⟩, bS5, bA5, Keep.of_below hB5⟩, bR5, bG5, bT5, bK5⟩
  have hkp : ∀ m, m < Tm.room (C.za[i]?.getD 0) → Tm.pos C.za i m < C.za.length := fun m hm => by
    have h1 := Tm.pos_part O.ea hi m (by omega)
    have h2 := Tm.pos_in (Tm.part_err O.ea hi) (m := m) (by rw [Tm.sym_part O.ea hi]; exact hm)
    rw [Tm.part_length O.ea hi] at h2
    have h3 := Tm.end_in O.ea hi
    omega
  have hkp2 : ∀ m, m < Tm.room (C.za[i]?.getD 0) → Tm.pos C.zb j m < C.zb.length := fun m hm => by
    have h1 := Tm.pos_part O.eb hj m (by rw [← hsy]; omega)
    have h2 := Tm.pos_in (Tm.part_err O.eb hj) (m := m) (by rw [Tm.sym_part O.eb hj, ← hsy]; exact hm)
    rw [Tm.part_length O.eb hj] at h2
    have h3 := Tm.end_in O.eb hj
    omega
  have Hkp2 := hid hkp2
  have hjI : (j : Int) < 30 := by omega
  have HI0 := hid I0
  have Hkp := hid hkp
  have HH := hid H
  have HA := hid hA
  have HO := hid O
  clear H3 c1 cS cA bS bA bR bG bT5 bK5 bS5 bA5 bR5 bG5 I0 hkp hkp2 hsy hA hB35 hB5 hB0 H O
  refine callsIn_of_wp_marks Try.func146 rfl hf1 ?_ hro
  simp only [Try.ntmps146, List.size_toArray, List.length_cons, List.length_nil, Nat.reduceAdd, Nat.reduceSub, Array.replicate_succ, Array.replicate_zero, List.push_toArray, List.append_toArray, List.nil_append, List.cons_append]
  gi_wp2_with fail
  rw [HW3.out]
  rw [HF.out]
  refine wpIn_wide.2 ?_
  have hS0 := hS.out _ (Below.refl _ W3)
  go_region_held3 (fun w' => w'.cell? ⟨C.S, 1, none⟩ = some (.slice (some ⟨C.ba, C.fa, none⟩) C.za.length C.ca) ∧ w'.cell? ⟨w.heap.size, 0, none⟩ = some (.pointer (some ⟨C.S, 0, none⟩)) ∧ w'.cell? ⟨w.heap.size + 1, 0, none⟩ = some (.int .i64 (i : Int))) (first | assumption | exact hS.out _ (Below.refl _ W3) | exact hS.out _ (below_drewN (Below.refl _ W3) 1)) (first
    | (go_at_call 121; refine (callsIn_wide.1 (partsx_in Fence.wide wide_pl 0 _ _ _ _ _)).mono ?_; rintro e w' ⟨rfl, rfl⟩; have hS1 := hS.out _ (((below_drewN (Below.refl _ W3) 1).alloc (Nat.le_refl _) (.cells #[.slice (some ⟨C.ba, C.fa, none⟩) C.za.length C.ca] 37)).alloc (by simp) (.cells #[.int .i64 (i : Int)] 3))))
  rw [HW5.out]
  rename_i hHeld
  clear hS hS0 hS1 hHeld
  gi_wp2_with fail
  refine wpIn_rangeSteps hro (by omega) (gf := 147) (lb := #[.pointer (some ⟨w.heap.size + 1 + 1 + 1 + 1 + 1, 0, none⟩), .pointer (some ⟨w.heap.size + 1 + 1 + 1 + 1, 0, none⟩)]) rfl hf4 (enters_of Try.func147 (by kernel_rfl) rfl)
    (parts_steps F HPl.out _ (w.heap.size + 1 + 1 + 1 + 1 + 1) (w.heap.size + 1 + 1 + 1 + 1) i C.ca (some ⟨C.ba, C.fa, none⟩) C.za (by omega) hi (ends_beyond F HPl.out C.za (by omega) _ C.ca i)) (fun _ => rfl)
    (FDInv C w tbl i j)
    (fun c W => c = .ret ∧ SdInv C w tbl (fun k l => k ≤ i ∨ l ≤ j) i j W ∧ Boxed W (w.heap.size + 1 + 1) 4 (.bool (Tm.fd C.rk C.za C.zb i j (Tm.room (C.za[i]?.getD 0))))) (fun _ _ => False) (.inl fun _ _ h => h)
    (by
      rintro m X Y row ⟨no, sd, bR, bG, bT, bK⟩ hg hr
      exact ⟨no, sd.own hltM (by omega) hg hr, cells_own bR hg hr, cells_own bG hg hr, cells_own bT hg hr, cells_own bK hg hr⟩)
    (by
      rintro c X Y row ⟨e, sd, bR⟩ hg hr
      exact ⟨e, sd.own hltM (by omega) hg hr, cells_own bR hg hr⟩)
    (fun m W hI => ⟨hI.bK.cell, hI.bT.cell, by obtain ⟨tbl', hS, _⟩ := hI.sd.sides HH.out; exact hS.ia⟩)
    HI0.out
    (fun m => { tmps := #[.pointer (some ⟨C.S, 0, none⟩), .agg #[.int .i64 (i : Int), .int .i64 (j : Int)], .pointer (some ⟨w.heap.size, 0, none⟩), .pointer (some ⟨w.heap.size + 1, 0, none⟩), .pointer (some ⟨w.heap.size + 1 + 1, 0, none⟩), .pointer (some ⟨w.heap.size + 1 + 1 + 1, 0, none⟩), .int .i64 (Tm.pos C.za i m : Int), undef,
      .pointer (some ⟨w.heap.size + 1, 1, none⟩), .int .i64 (j : Int), .int .i64 ((j : Int) + 1),
      .pointer (some ⟨C.S, 0, none⟩), .pointer (some ⟨C.S, 0, none⟩), .pointer (some ⟨C.S, 1, none⟩), .slice (some ⟨C.ba, C.fa, none⟩) C.za.length C.ca, .pointer (some ⟨w.heap.size + 1, 0, none⟩), .int .i64 (i : Int), .func (.func 147) #[] #[.pointer (some ⟨w.heap.size + 1 + 1 + 1 + 1 + 1, 0, none⟩), .pointer (some ⟨w.heap.size + 1 + 1 + 1 + 1, 0, none⟩)],
      .int .i64 (Tm.pos C.za i m : Int), .int .i64 (Tm.pos C.za i (m + 1) : Int), undef, undef, undef, undef, undef, undef, undef, undef, undef, undef, undef, undef, undef, undef, undef, undef], defers := [] }) ?assign ?body ?done ?stop ?panic
  case assign =>
    intro l m W K hK
    simp only [encPart]
    gi_wp2
    exact hK
  case body =>
    rintro l m W hI hm
    obtain ⟨no, sd, bR, bG, bT, bK⟩ := hI
    have hm' : m < Tm.room (C.za[i]?.getD 0) := hm
    have hp := Hkp.out m hm'
    have hp2 := Hkp2.out m hm'
    have hgt := Tm.pos_gt C.za i m
    have hgt2 := Tm.pos_gt C.zb j m
    obtain ⟨tbl', Sd', ht'⟩ := sd.sides HH.out
    have hB1 : Below W.heap.size W (W.alloc (.cells #[.int .i64 (Tm.pos C.za i m : Int), .int .i64 (Tm.pos C.zb j m : Int)] 138)) := (Below.refl _ W).alloc (Nat.le_refl _) _
    have blk1 := World.alloc_heap_new W (.cells #[.int .i64 (Tm.pos C.za i m : Int), .int .i64 (Tm.pos C.zb j m : Int)] 138)
    have S1 := Sd'.below hB1
    have bS1 : Boxed (W.alloc (.cells #[.int .i64 (Tm.pos C.za i m : Int), .int .i64 (Tm.pos C.zb j m : Int)] 138)) w.heap.size 132 (.pointer (some ⟨C.S, 0, none⟩)) := (hB1.block _ sd.bS.lt).trans sd.bS
    have e1 := pair_cell0 blk1
    have e2 := pair_cell1 blk1
    have e3 := bS1.cell
    have e4 := bG.cell
    have hltW : W.heap.size < (W.alloc (.cells #[.int .i64 (Tm.pos C.za i m : Int), .int .i64 (Tm.pos C.zb j m : Int)] 138)).heap.size := by simp
    have hCs := hid (CallsIn.inRound l (hcin (n := 0) (sidesSame_any C HO.out (Tm.pos C.za i m) (Tm.pos C.zb j m) hp hp2 (W.alloc (.cells #[.int .i64 (Tm.pos C.za i m : Int), .int .i64 (Tm.pos C.zb j m : Int)] 138)) tbl' S1)))
    unfold pk at hCs
    have hkw := sd.kp
    have hCa := hid (fun W2 (hB2 : Below (W.alloc (.cells #[.int .i64 (Tm.pos C.za i m : Int), .int .i64 (Tm.pos C.zb j m : Int)] 138)).heap.size (W.alloc (.cells #[.int .i64 (Tm.pos C.za i m : Int), .int .i64 (Tm.pos C.zb j m : Int)] 138)) W2) => CallsIn.inRound l (hcin (n := 0) (HA.out (Tm.pos C.za i m) (Tm.pos C.zb j m) hgt hp hgt2 hp2 W2 tbl' (S1.below hB2))))
    have HS1 := hid S1
    have Hsd := hid sd
    have Hht := hid ht'
    have Hno := hid no
    clear sd S1 Sd' ht' no
    have hfb := fun (k : Nat) (o : Obj) (hk : W5.heap.size ≤ k) (ho : W.heap[k]? = some o) => (show k < W.heap.size ∧ k ≠ C.M from ⟨(Array.getElem?_eq_some_iff.1 ho).1, by omega⟩)
    cases hq1 : Tm.sm C.za C.zb (Tm.pos C.za i m) (Tm.pos C.zb j m) with
    | false =>
      rw [hq1] at hCs
      have hfd := Tm.fd_at (rk := C.rk) hm' Hno.out hq1
      rw [← hfd] at hCa
      generalize Tm.fd C.rk C.za C.zb i j (Tm.room (C.za[i]?.getD 0)) = q at *
      clear hfd
      gi_wp2_with (first
        | ((try refine ⟨hdd _, ?_⟩); gi_at_call 145; refine hCs.out.mono ?_; clear hCs; rintro e W2 ⟨rfl, hB2⟩; have hB12 : Below W.heap.size W W2 := hB1.trans (hB2.mono hB1.size); have bR2 : Boxed W2 (w.heap.size + 1 + 1) 4 (.bool false) := (hB12.block _ bR.lt).trans bR; have cR := bR2.cell; have fR := bR2.frozen; have g1 := (hB2.cell (p := ⟨W.heap.size, 0, none⟩) hltW).trans e1; have g2 := (hB2.cell (p := ⟨W.heap.size, 1, none⟩) hltW).trans e2; have bS2 : Boxed W2 w.heap.size 132 (.pointer (some ⟨C.S, 0, none⟩)) := (hB2.block _ bS1.lt).trans bS1; have g3 := bS2.cell)
        | ((try refine ⟨hdd _, ?_⟩); gi_at_call 87; refine (hCa.out W2 hB2).mono ?_; clear hCa; rintro e W4 ⟨rfl, hK4, tbl4, S4, ht4⟩; have hne : ∀ k, w.heap.size ≤ k → k ≠ C.M := (fun k hk e => by omega); have hltW2 := hB12.size; have bR4 : Boxed W4 (w.heap.size + 1 + 1) 4 (.bool false) := (hK4.block _ bR2.lt (hne _ (by omega))).trans bR2; have cR4 := bR4.cell; have fR4 := bR4.frozen))
      refine ⟨(⟨Nat.le_trans hB12.size hK4.size, fun k o hk ho _ => ((hK4.block k (Nat.lt_of_lt_of_le (hfb k o hk ho).1 hltW2) (hfb k o hk ho).2).trans (hB12.block k (hfb k o hk ho).1)).trans ho⟩ : KeepsFrom W5.heap.size W W4).trans ((KeepsOthers.setCell _ _ _).from _), rfl, ?_, bR4.set _⟩
      exact sd_set (sd_next Hsd.out hB12 hK4 hltM S4.fnd (fun k l h => (ht4 k l (by omega)).trans (Hht.out k l h))) hltM (by omega) _
    | true =>
      rw [hq1] at hCs
      clear hCa
      gi_wp2_with (first
        | ((try refine ⟨hdd _, ?_⟩); gi_at_call 145; refine hCs.out.mono ?_; clear hCs; rintro e W2 ⟨rfl, hB2⟩; have hB12 : Below W.heap.size W W2 := hB1.trans (hB2.mono hB1.size); have bR2 : Boxed W2 (w.heap.size + 1 + 1) 4 (.bool false) := (hB12.block _ bR.lt).trans bR; have cR := bR2.cell; have fR := bR2.frozen; have g1 := (hB2.cell (p := ⟨W.heap.size, 0, none⟩) hltW).trans e1; have g2 := (hB2.cell (p := ⟨W.heap.size, 1, none⟩) hltW).trans e2; have bS2 : Boxed W2 w.heap.size 132 (.pointer (some ⟨C.S, 0, none⟩)) := (hB2.block _ bS1.lt).trans bS1; have g3 := bS2.cell))
      have S2 := HS1.out.below hB2
      have c5 := S2.c2
      have bG2 : Boxed W2 (w.heap.size + 1 + 1 + 1) 3 (.int .i64 (Tm.pos C.zb j m : Int)) := (hB12.block _ bG.lt).trans bG
      have c4 := bG2.cell
      have f4 := bG2.frozen
      have mixed : Try.prog.follows .mixedOrders = true := by kernel_rfl
      have hpo := hid (Tm.pos_succ C.zb j m)
      have hEn := hid (endx_all F HPl.out C.zb (by omega) (some ⟨C.bb, C.fb, none⟩) C.cb _ (Tm.pos C.zb j m) 0 (Nat.le_refl _) (by omega) W2.drew S2.ib)
      gi_region_with_o (first | ((try refine ⟨hdd _, ?_⟩); gi_at_call 89; refine (CallsIn.inRound l hEn.out).mono ?_; rintro e W3' ⟨rfl, hB3⟩; have bG3 : Boxed W3' (w.heap.size + 1 + 1 + 1) 3 (.int .i64 (Tm.pos C.zb j m : Int)) := (hB3.block _ bG2.lt).trans bG2; have c6 := bG3.cell; have f6 := bG3.frozen))
      all_goals (
        gi_wp2
        have hB13 : Below W.heap.size W W3' := hB12.trans ⟨hB3.os, hB3.tape, hB3.output, hB3.size, fun k hk => hB3.block k (Nat.lt_of_lt_of_le hk hB12.size)⟩
        refine ⟨(⟨hB13.size, fun k o hk ho _ => (hB13.block k (hfb k o hk ho).1).trans ho⟩ : KeepsFrom W5.heap.size W W3').trans ((KeepsOthers.setCell _ _ _).from _), ?_⟩
        refine ⟨by rw [Tm.sms_succ, Hno.out, hq1]; rfl, sd_set (sd_below Hsd.out hB13 hltM) hltM (by omega) _, Boxed.other ((hB13.block _ bR.lt).trans bR) (by omega) _, by rw [hpo.out]; exact bG3.set _, Boxed.other ((hB13.block _ bT.lt).trans bT) (by omega) _, Boxed.other ((hB13.block _ bK.lt).trans bK) (by omega) _⟩)
  case done =>
    rintro D W hD ⟨no, sd, bR, bG, bT, bK⟩ hDd
    have c1 := bR.cell
    have c2 := bR.frozen
    rw [hs5] at hD
    have no' : Tm.fd C.rk C.za C.zb i j (Tm.room (C.za[i]?.getD 0)) = false := Tm.fd_same no
    gi_wp2
    have bR2 := bR.set (.bool false)
    have hDd2 : (W.setCell ⟨w.heap.size + 1 + 1, 0, none⟩ (.bool false)).heap[D]? = some (.deferred (some [])) := (Below.heap_setCell W ⟨w.heap.size + 1 + 1, 0, none⟩ _ D (show D ≠ w.heap.size + 1 + 1 by omega)).trans hDd
    refine ⟨by simp, .inl ⟨_, _, rfl, run_takeDeferred hDd2, ?_⟩⟩
    refine ⟨_, results_boxO rfl rfl ((World.cell?_of_block (a := ⟨w.heap.size + 1 + 1, 0, none⟩) (World.putObj_heap_other (show w.heap.size + 1 + 1 ≠ D by omega))).trans bR2.cell), ?_⟩
    rw [no']
    exact sd_done HH.out hltM (sd_set sd hltM (by omega) _) (by omega)
  case stop =>
    rintro D c W hD ⟨rfl, sd, bR⟩ hDd
    have c1 := bR.cell
    rw [hs5] at hD
    gi_wp2
    refine ⟨by simp, .inl ⟨_, _, rfl, run_takeDeferred hDd, ?_⟩⟩
    refine ⟨_, results_boxO rfl rfl ((World.cell?_of_block (a := ⟨w.heap.size + 1 + 1, 0, none⟩) (World.putObj_heap_other (show w.heap.size + 1 + 1 ≠ D by omega))).trans c1), ?_⟩
    exact sd_done HH.out hltM sd (by omega)
  case panic => exact fun _ _ _ _ h => h.elim

end Go.Proofs.Ytgeknojpcjadkaa
