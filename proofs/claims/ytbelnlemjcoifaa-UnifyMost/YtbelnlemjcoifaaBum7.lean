/-
  (*web).grown: the step. · (*web).grown, at every place that ends. · What unify.grow defers: it recovers 'too large'. · unify.grow. · (*web).lay once more: and which block the signs lie in then. · A WEB WHOSE SIGNS ARE ITS OWN, AND WHAT IS TIED IN IT: (*web).lay, (*web).tie of it; unify.newWeb.
-/
import Derived.Test.YtbelnlemjcoifaaBum6
import Derived.Defers
import Derived.Recover
namespace Go.Proofs.Ytbelnlemjcoifaa
open Go.Proofs Go.RowKit Go.Shelf Go.Maps

attribute [local go_sem] Oper.semAt_some

set_option maxRecDepth 100000 in
set_option maxHeartbeats 2000000 in
theorem webGrown_step (zs : List Int) (G : Wb.Good zs) (T : Nat → Option Nat) (h : Nat → Nat) (S : Wb.St zs T h) (Bw Bm b off cap N base p : Nat) (ls : List (List Int)) (v : Value) (xs : List Int) (w : World)
    (hW : WebAt w Bw Bm (some ⟨b, off, none⟩) cap zs N T) (hp : p < zs.length) (hN : New base w v xs) (hv : ∀ k, v.ownBlock = some k → k ≠ Bw ∧ k ≠ Bm ∧ k ≠ b) (hbase : base ≤ w.heap.size) (h29 : xs.length ≤ 29) (hls : ls.length = Tm.room (Wb.sg zs (Wb.hd zs h p)))
    (ih : ∀ i, i < Tm.room (Wb.sg zs (Wb.hd zs h p)) → ∀ (v1 : Value) (ys : List Int) (W : World), WebAt W Bw Bm (some ⟨b, off, none⟩) cap zs N T → New base W v1 ys → (∀ k, v1.ownBlock = some k → k ≠ Bw ∧ k ≠ Bm ∧ k ≠ b) → base ≤ W.heap.size → ys.length ≤ 30 →
      CallsIn Fx 3 Try.prog 90 #[.pointer (some ⟨Bw, 0, none⟩), v1, .int .i64 (Tm.pos zs (Wb.hd zs h p) i : Int)] W fun e W' => GrAns W W' base e v1 ys (ls[i]?.getD [])) :
    CallsIn Fx 3 Try.prog 90 #[.pointer (some ⟨Bw, 0, none⟩), v, .int .i64 (p : Int)] w fun e w' => GrAns w w' base e v xs (Wb.sg zs (Wb.hd zs h p) :: ls.flatten) := by
  obtain ⟨F, hF⟩ : ∃ F, F = Fx := ⟨_, rfl⟩
  have HPl : Hid (Pl F) := by rw [hF]; exact fx_pl
  have hall : Hid (∀ fn, F.fn fn → ∃ f, Try.prog.funcs[fn]? = some f) := by rw [hF]; exact fx_all
  rw [← hF]
  rw [← hF] at ih
  clear hF
  obtain ⟨hro, hfn, hdd⟩ := fx_facts HPl.out
  have hf1 := hfn _ _ Try.func90
  have hf2 := hfn _ _ Try.func86
  have hf3 := hfn _ _ Try.func68
  have hf4 := hfn _ _ Try.func84
  clear hfn
  have hl5 := G.len
  have hl5' : (zs.length : Int) ≤ 5000 := by omega
  obtain ⟨wl, ml⟩ := hW.lt
  obtain ⟨hr1, _, _⟩ := Wb.hd_lt G S hp
  have hr1' : (Wb.hd zs h p : Int) < (zs.length : Int) := by omega
  have hbl : b < w.heap.size := by
    obtain ⟨b', off', e, hb, _⟩ := hW.ints.at (by omega)
    cases e
    exact hb
  have hxl : ((xs.length : Int) == 30) = false := by simp; omega
  have hown := fun k (e : v.ownBlock = some k) => (World.ownsRow.lt hN k e).2
  have hB0 : Below w.heap.size w ((w.alloc (.cells #[.pointer (some ⟨Bw, 0, none⟩)] 93)).alloc (.cells #[v] 23)) := ((Below.refl _ w).alloc (Nat.le_refl _) _).alloc (by simp) _
  have bW := (Boxed.new w 93 (.pointer (some ⟨Bw, 0, none⟩))).alloc (.cells #[v] 23)
  have bO := Boxed.new (w.alloc (.cells #[.pointer (some ⟨Bw, 0, none⟩)] 93)) 23 v
  rw [World.size_alloc] at bO
  have hs3 : ((w.alloc (.cells #[.pointer (some ⟨Bw, 0, none⟩)] 93)).alloc (.cells #[v] 23)).heap.size = w.heap.size + 1 + 1 := by simp
  have hH := hid (head_in F HPl.out (3 - 1) zs T h G S Bw Bm _ cap N p hp _ (hW.below hB0))
  have hW0 := hW.below hB0
  have hN0 := hN.below hB0
  obtain ⟨a0, c0, rfl, _⟩ := New.ints hN
  obtain ⟨W3, hW3⟩ : ∃ W3, (w.alloc (.cells #[.pointer (some ⟨Bw, 0, none⟩)] 93)).alloc (.cells #[.slice a0 xs.length c0] 23) = W3 := ⟨_, rfl⟩
  have HW3 := hid hW3
  rw [hW3] at hB0 bW bO hH hW0 hs3 hN0
  have hcW := bW.cell
  have hcO := bO.cell
  have hfO := bO.frozen
  have hc0 := hW0.cell0
  have hcs := WebAt.sgn hW0 hr1
  have hkl := hid (fun i hi => Wb.kid_lt G hr1 (i := i) hi)
  have HN := hid hN
  have HN0 := hid hN0
  have HW := hid hW
  have HW0 := hid hW0
  have Hih := hid ih
  have Hls := hid hls
  have Hv := hid hv
  have Hown := hid hown
  clear hW3 G S hW hN ih hN0 hW0 hls hv hown
  generalize Wb.hd zs h p = r at *
  refine callsIn_of_wp_marks Try.func90 rfl hf1 ?_ hro
  simp only [Try.ntmps90, List.size_toArray, List.length_cons, List.length_nil, Nat.reduceAdd, Nat.reduceSub, Array.replicate_succ, Array.replicate_zero, List.push_toArray, List.append_toArray, List.nil_append, List.cons_append]
  gi_wp2_with (first
    | ((try refine ⟨hdd _, ?_⟩); gi_at_call 86; rw [HW3.out]; refine hH.out.mono ?_; clear hH; rintro e W3 ⟨rfl, rfl⟩))
  have mixed : Try.prog.follows .mixedOrders = true := by kernel_rfl
  have bO' := (show Boxed (W3.alloc (.cells #[.int .i64 (Wb.sg zs r)] 3)).drew (w.heap.size + 1) 23 (.slice a0 xs.length c0) from bO.alloc (.cells #[.int .i64 (Wb.sg zs r)] 3))
  have hs4 : (W3.alloc (.cells #[.int .i64 (Wb.sg zs r)] 3)).drew.heap.size = w.heap.size + 1 + 1 + 1 := by show (W3.alloc (.cells #[.int .i64 (Wb.sg zs r)] 3)).heap.size = _; simp [hs3]
  have hNx := hid (show New base (W3.alloc (.cells #[.int .i64 (Wb.sg zs r)] 3)).drew (.slice a0 xs.length c0) xs from New.alloc HN0.out (.cells #[.int .i64 (Wb.sg zs r)] 3))
  have hcx := hid (show (W3.alloc (.cells #[.int .i64 (Wb.sg zs r)] 3)).drew.cell? ⟨w.heap.size + 1 + 1, 0, none⟩ = some (.int .i64 (Wb.sg zs r)) from by rw [← hs3]; exact (Boxed.new W3 3 (.int .i64 (Wb.sg zs r))).cell)
  have hgr := hid (show ∀ (v1 : Value) (W4 : World), (W3.alloc (.cells #[.int .i64 (Wb.sg zs r)] 3)).drew.grownBy W4 (Value.slice a0 xs.length c0).ownBlock → (v1.ownBlock = (Value.slice a0 xs.length c0).ownBlock ∨ v1.ownBlock = some (W3.alloc (.cells #[.int .i64 (Wb.sg zs r)] 3)).drew.heap.size) →
      W3.grownBy W4 (Value.slice a0 xs.length c0).ownBlock ∧ ∀ k, v1.ownBlock = some k → (Value.slice a0 xs.length c0).ownBlock = some k ∨ w.heap.size + 1 + 1 ≤ k from fun v1 W4 hg1 ho1 => by
    refine ⟨⟨hg1.os, hg1.tape, hg1.output, by have := hg1.size; rw [hs4] at this; omega, fun k hk hn => (hg1.block k (by rw [hs4]; omega) hn).trans (Below.heap_alloc W3 _ k hk)⟩, fun k e => ?_⟩
    rcases ho1 with ho | ho
    · exact .inl (ho ▸ e)
    · rw [ho] at e
      cases e
      exact .inr (by rw [hs4]; omega))
  refine wpIn_mono (Q := fun e a W => e = .normal ∧ ∃ v1 W4 x21 x23, a = { tmps := #[.pointer (some ⟨Bw, 0, none⟩), .slice a0 xs.length c0, .int .i64 (r : Int), .pointer (some ⟨w.heap.size, 0, none⟩), .pointer (some ⟨w.heap.size + 1, 0, none⟩), undef, .slice none 0 0, undef, .slice a0 xs.length c0, .int .i64 (xs.length : Int), .bool false, undef, .pointer (some ⟨Bw, 0, none⟩), .int .i64 (p : Int), .int .i64 (r : Int),
      .slice a0 xs.length c0, .pointer (some ⟨Bw, 0, none⟩), .pointer (some ⟨Bw, 0, none⟩), .pointer (some ⟨Bw, 0, none⟩), .slice (some ⟨b, off, none⟩) zs.length cap, .int .i64 (r : Int), x21, .int .i64 (Wb.sg zs r), x23, v1, undef, undef, undef, undef, undef, undef, undef, undef, undef, undef, undef, undef, undef], defers := [] } ∧ W = W4.setCell ⟨w.heap.size + 1, 0, none⟩ v1 ∧ New base W4 v1 (xs ++ [Wb.sg zs r]) ∧
      W3.grownBy W4 (Value.slice a0 xs.length c0).ownBlock ∧ (∀ k, v1.ownBlock = some k → (Value.slice a0 xs.length c0).ownBlock = some k ∨ w.heap.size + 1 + 1 ≤ k) ∧ Boxed W4 (w.heap.size + 1) 23 (.slice a0 xs.length c0)) ?region ?rest
  case region =>
    refine wpIn_region_any mixed ?_
    change wpAnyIn _ _ _ _ _ _ _ _ _ (World.drew _)
    show wpAnyIn F _ _ _ _ _ 11 (Array.replicate 11 false) _ _
    refine wpAnyIn_take (i := 5) (v := .int .i64 (r : Int)) hro rfl (by kernel_rfl) (by kernel_rfl) (by kernel_rfl) (fun _ _ _ h => absurd h.1 (by simp)) ⟨Or.inl ⟨by rfl, fun w => by go_simp⟩, fun _ => rfl⟩ ?_
    refine wpAnyIn_ready (rs := [0, 1]) (by kernel_rfl) (by simp) ?_
    refine AllReadyIn.cons rfl (fun K hK => ?_) (AllReadyIn.cons rfl (fun K hK => ?_) AllReadyIn.nil)
    · go_simp
      refine hK _ _ ?_
      clear hK K
      refine wpAnyIn_ready (rs := [1]) (by kernel_rfl) (by simp) ?_
      refine AllReadyIn.cons rfl (fun K hK => ?_) AllReadyIn.nil
      go_simp
      refine hK _ _ ?_
      clear hK K
      refine wpAnyIn_ready (rs := [2]) (by kernel_rfl) (by simp) ?_
      refine AllReadyIn.cons rfl (fun K hK => ?_) AllReadyIn.nil
      go_simp
      refine hK _ _ ?_
      clear hK K
      refine wpAnyIn_ready (rs := [3]) (by kernel_rfl) (by simp) ?_
      refine AllReadyIn.cons rfl (fun K hK => ?_) AllReadyIn.nil
      go_simp
      refine hK _ _ ?_
      clear hK K
      refine wpAnyIn_ready (rs := [4]) (by kernel_rfl) (by simp) ?_
      refine AllReadyIn.cons rfl (fun K hK => ?_) AllReadyIn.nil
      go_simp
      refine hK _ _ ?_
      clear hK K
      refine wpAnyIn_ready (rs := [6]) (by kernel_rfl) (by simp) ?_
      refine AllReadyIn.cons rfl (fun K hK => ?_) AllReadyIn.nil
      go_simp
      refine hK _ _ ?_
      clear hK K
      refine wpAnyIn_ready (rs := [7]) (by kernel_rfl) (by simp) ?_
      refine AllReadyIn.cons rfl (fun K hK => ?_) AllReadyIn.nil
      go_simp
      refine hK _ _ ?_
      clear hK K
      refine wpAnyIn_ready (rs := [8]) (by kernel_rfl) (by simp) ?_
      refine AllReadyIn.cons rfl (fun K hK => ?_) AllReadyIn.nil
      go_simp
      refine hK _ _ ?_
      clear hK K
      refine wpAnyIn_ready (rs := [9]) (by kernel_rfl) (by simp) ?_
      refine AllReadyIn.cons rfl (fun K hK => ?_) AllReadyIn.nil
      rw [if_pos (by rfl)]
      refine opi_append1 _ _ _ rfl base _ xs rfl hNx.out (w.heap.size + 1 + 1) (Wb.sg zs r) rfl hcx.out (by omega) (by rw [hs4]; omega) ?_
      intro v1 W4 hN1 hg1 ho1
      refine hK _ _ ?_
      clear hK K
      have bO4 : Boxed W4 (w.heap.size + 1) 23 (.slice a0 xs.length c0) := (hg1.block _ (by rw [hs4]; omega) (fun e => by have := Hown.out _ e.symm; omega)).trans bO'
      have cO4 := bO4.cell
      have fO4 := bO4.frozen
      obtain ⟨a1, n1, c1, rfl⟩ := hN1.slice3
      refine wpAnyIn_ready (rs := [10]) (by kernel_rfl) (by simp) ?_
      refine AllReadyIn.cons rfl (fun K hK => ?_) AllReadyIn.nil
      go_simp
      refine hK _ _ ?_
      clear hK K
      refine wpAnyIn_done (by kernel_rfl) ?_ _
      exact ⟨rfl, .slice a1 n1 c1, W4, _, _, rfl, rfl, hN1, (hgr.out _ W4 hg1 ho1).1, (hgr.out _ W4 hg1 ho1).2, bO4⟩
    · go_simp
      refine hK _ _ ?_
      clear hK K
      refine wpAnyIn_ready (rs := [0, 2]) (by kernel_rfl) (by simp) ?_
      refine AllReadyIn.cons rfl (fun K hK => ?_) (AllReadyIn.cons rfl (fun K hK => ?_) AllReadyIn.nil)
      · go_simp
        refine hK _ _ ?_
        clear hK K
        refine wpAnyIn_ready (rs := [2]) (by kernel_rfl) (by simp) ?_
        refine AllReadyIn.cons rfl (fun K hK => ?_) AllReadyIn.nil
        go_simp
        refine hK _ _ ?_
        clear hK K
        refine wpAnyIn_ready (rs := [3]) (by kernel_rfl) (by simp) ?_
        refine AllReadyIn.cons rfl (fun K hK => ?_) AllReadyIn.nil
        go_simp
        refine hK _ _ ?_
        clear hK K
        refine wpAnyIn_ready (rs := [4]) (by kernel_rfl) (by simp) ?_
        refine AllReadyIn.cons rfl (fun K hK => ?_) AllReadyIn.nil
        go_simp
        refine hK _ _ ?_
        clear hK K
        refine wpAnyIn_ready (rs := [6]) (by kernel_rfl) (by simp) ?_
        refine AllReadyIn.cons rfl (fun K hK => ?_) AllReadyIn.nil
        go_simp
        refine hK _ _ ?_
        clear hK K
        refine wpAnyIn_ready (rs := [7]) (by kernel_rfl) (by simp) ?_
        refine AllReadyIn.cons rfl (fun K hK => ?_) AllReadyIn.nil
        go_simp
        refine hK _ _ ?_
        clear hK K
        refine wpAnyIn_ready (rs := [8]) (by kernel_rfl) (by simp) ?_
        refine AllReadyIn.cons rfl (fun K hK => ?_) AllReadyIn.nil
        go_simp
        refine hK _ _ ?_
        clear hK K
        refine wpAnyIn_ready (rs := [9]) (by kernel_rfl) (by simp) ?_
        refine AllReadyIn.cons rfl (fun K hK => ?_) AllReadyIn.nil
        rw [if_pos (by rfl)]
        refine opi_append1 _ _ _ rfl base _ xs rfl hNx.out (w.heap.size + 1 + 1) (Wb.sg zs r) rfl hcx.out (by omega) (by rw [hs4]; omega) ?_
        intro v1 W4 hN1 hg1 ho1
        refine hK _ _ ?_
        clear hK K
        have bO4 : Boxed W4 (w.heap.size + 1) 23 (.slice a0 xs.length c0) := (hg1.block _ (by rw [hs4]; omega) (fun e => by have := Hown.out _ e.symm; omega)).trans bO'
        have cO4 := bO4.cell
        have fO4 := bO4.frozen
        obtain ⟨a1, n1, c1, rfl⟩ := hN1.slice3
        refine wpAnyIn_ready (rs := [10]) (by kernel_rfl) (by simp) ?_
        refine AllReadyIn.cons rfl (fun K hK => ?_) AllReadyIn.nil
        go_simp
        refine hK _ _ ?_
        clear hK K
        refine wpAnyIn_done (by kernel_rfl) ?_ _
        exact ⟨rfl, .slice a1 n1 c1, W4, _, _, rfl, rfl, hN1, (hgr.out _ W4 hg1 ho1).1, (hgr.out _ W4 hg1 ho1).2, bO4⟩
      · go_simp
        refine hK _ _ ?_
        clear hK K
        refine wpAnyIn_ready (rs := [0, 3]) (by kernel_rfl) (by simp) ?_
        refine AllReadyIn.cons rfl (fun K hK => ?_) (AllReadyIn.cons rfl (fun K hK => ?_) AllReadyIn.nil)
        · go_simp
          refine hK _ _ ?_
          clear hK K
          refine wpAnyIn_ready (rs := [3]) (by kernel_rfl) (by simp) ?_
          refine AllReadyIn.cons rfl (fun K hK => ?_) AllReadyIn.nil
          go_simp
          refine hK _ _ ?_
          clear hK K
          refine wpAnyIn_ready (rs := [4]) (by kernel_rfl) (by simp) ?_
          refine AllReadyIn.cons rfl (fun K hK => ?_) AllReadyIn.nil
          go_simp
          refine hK _ _ ?_
          clear hK K
          refine wpAnyIn_ready (rs := [6]) (by kernel_rfl) (by simp) ?_
          refine AllReadyIn.cons rfl (fun K hK => ?_) AllReadyIn.nil
          go_simp
          refine hK _ _ ?_
          clear hK K
          refine wpAnyIn_ready (rs := [7]) (by kernel_rfl) (by simp) ?_
          refine AllReadyIn.cons rfl (fun K hK => ?_) AllReadyIn.nil
          go_simp
          refine hK _ _ ?_
          clear hK K
          refine wpAnyIn_ready (rs := [8]) (by kernel_rfl) (by simp) ?_
          refine AllReadyIn.cons rfl (fun K hK => ?_) AllReadyIn.nil
          go_simp
          refine hK _ _ ?_
          clear hK K
          refine wpAnyIn_ready (rs := [9]) (by kernel_rfl) (by simp) ?_
          refine AllReadyIn.cons rfl (fun K hK => ?_) AllReadyIn.nil
          rw [if_pos (by rfl)]
          refine opi_append1 _ _ _ rfl base _ xs rfl hNx.out (w.heap.size + 1 + 1) (Wb.sg zs r) rfl hcx.out (by omega) (by rw [hs4]; omega) ?_
          intro v1 W4 hN1 hg1 ho1
          refine hK _ _ ?_
          clear hK K
          have bO4 : Boxed W4 (w.heap.size + 1) 23 (.slice a0 xs.length c0) := (hg1.block _ (by rw [hs4]; omega) (fun e => by have := Hown.out _ e.symm; omega)).trans bO'
          have cO4 := bO4.cell
          have fO4 := bO4.frozen
          obtain ⟨a1, n1, c1, rfl⟩ := hN1.slice3
          refine wpAnyIn_ready (rs := [10]) (by kernel_rfl) (by simp) ?_
          refine AllReadyIn.cons rfl (fun K hK => ?_) AllReadyIn.nil
          go_simp
          refine hK _ _ ?_
          clear hK K
          refine wpAnyIn_done (by kernel_rfl) ?_ _
          exact ⟨rfl, .slice a1 n1 c1, W4, _, _, rfl, rfl, hN1, (hgr.out _ W4 hg1 ho1).1, (hgr.out _ W4 hg1 ho1).2, bO4⟩
        · go_simp
          refine hK _ _ ?_
          clear hK K
          refine wpAnyIn_ready (rs := [0, 4]) (by kernel_rfl) (by simp) ?_
          refine AllReadyIn.cons rfl (fun K hK => ?_) (AllReadyIn.cons rfl (fun K hK => ?_) AllReadyIn.nil)
          · go_simp
            refine hK _ _ ?_
            clear hK K
            refine wpAnyIn_ready (rs := [4]) (by kernel_rfl) (by simp) ?_
            refine AllReadyIn.cons rfl (fun K hK => ?_) AllReadyIn.nil
            go_simp
            refine hK _ _ ?_
            clear hK K
            refine wpAnyIn_ready (rs := [6]) (by kernel_rfl) (by simp) ?_
            refine AllReadyIn.cons rfl (fun K hK => ?_) AllReadyIn.nil
            go_simp
            refine hK _ _ ?_
            clear hK K
            refine wpAnyIn_ready (rs := [7]) (by kernel_rfl) (by simp) ?_
            refine AllReadyIn.cons rfl (fun K hK => ?_) AllReadyIn.nil
            go_simp
            refine hK _ _ ?_
            clear hK K
            refine wpAnyIn_ready (rs := [8]) (by kernel_rfl) (by simp) ?_
            refine AllReadyIn.cons rfl (fun K hK => ?_) AllReadyIn.nil
            go_simp
            refine hK _ _ ?_
            clear hK K
            refine wpAnyIn_ready (rs := [9]) (by kernel_rfl) (by simp) ?_
            refine AllReadyIn.cons rfl (fun K hK => ?_) AllReadyIn.nil
            rw [if_pos (by rfl)]
            refine opi_append1 _ _ _ rfl base _ xs rfl hNx.out (w.heap.size + 1 + 1) (Wb.sg zs r) rfl hcx.out (by omega) (by rw [hs4]; omega) ?_
            intro v1 W4 hN1 hg1 ho1
            refine hK _ _ ?_
            clear hK K
            have bO4 : Boxed W4 (w.heap.size + 1) 23 (.slice a0 xs.length c0) := (hg1.block _ (by rw [hs4]; omega) (fun e => by have := Hown.out _ e.symm; omega)).trans bO'
            have cO4 := bO4.cell
            have fO4 := bO4.frozen
            obtain ⟨a1, n1, c1, rfl⟩ := hN1.slice3
            refine wpAnyIn_ready (rs := [10]) (by kernel_rfl) (by simp) ?_
            refine AllReadyIn.cons rfl (fun K hK => ?_) AllReadyIn.nil
            go_simp
            refine hK _ _ ?_
            clear hK K
            refine wpAnyIn_done (by kernel_rfl) ?_ _
            exact ⟨rfl, .slice a1 n1 c1, W4, _, _, rfl, rfl, hN1, (hgr.out _ W4 hg1 ho1).1, (hgr.out _ W4 hg1 ho1).2, bO4⟩
          · go_simp
            refine hK _ _ ?_
            clear hK K
            refine wpAnyIn_ready (rs := [0, 6]) (by kernel_rfl) (by simp) ?_
            refine AllReadyIn.cons rfl (fun K hK => ?_) (AllReadyIn.cons rfl (fun K hK => ?_) AllReadyIn.nil)
            · go_simp
              refine hK _ _ ?_
              clear hK K
              refine wpAnyIn_ready (rs := [6]) (by kernel_rfl) (by simp) ?_
              refine AllReadyIn.cons rfl (fun K hK => ?_) AllReadyIn.nil
              go_simp
              refine hK _ _ ?_
              clear hK K
              refine wpAnyIn_ready (rs := [7]) (by kernel_rfl) (by simp) ?_
              refine AllReadyIn.cons rfl (fun K hK => ?_) AllReadyIn.nil
              go_simp
              refine hK _ _ ?_
              clear hK K
              refine wpAnyIn_ready (rs := [8]) (by kernel_rfl) (by simp) ?_
              refine AllReadyIn.cons rfl (fun K hK => ?_) AllReadyIn.nil
              go_simp
              refine hK _ _ ?_
              clear hK K
              refine wpAnyIn_ready (rs := [9]) (by kernel_rfl) (by simp) ?_
              refine AllReadyIn.cons rfl (fun K hK => ?_) AllReadyIn.nil
              rw [if_pos (by rfl)]
              refine opi_append1 _ _ _ rfl base _ xs rfl hNx.out (w.heap.size + 1 + 1) (Wb.sg zs r) rfl hcx.out (by omega) (by rw [hs4]; omega) ?_
              intro v1 W4 hN1 hg1 ho1
              refine hK _ _ ?_
              clear hK K
              have bO4 : Boxed W4 (w.heap.size + 1) 23 (.slice a0 xs.length c0) := (hg1.block _ (by rw [hs4]; omega) (fun e => by have := Hown.out _ e.symm; omega)).trans bO'
              have cO4 := bO4.cell
              have fO4 := bO4.frozen
              obtain ⟨a1, n1, c1, rfl⟩ := hN1.slice3
              refine wpAnyIn_ready (rs := [10]) (by kernel_rfl) (by simp) ?_
              refine AllReadyIn.cons rfl (fun K hK => ?_) AllReadyIn.nil
              go_simp
              refine hK _ _ ?_
              clear hK K
              refine wpAnyIn_done (by kernel_rfl) ?_ _
              exact ⟨rfl, .slice a1 n1 c1, W4, _, _, rfl, rfl, hN1, (hgr.out _ W4 hg1 ho1).1, (hgr.out _ W4 hg1 ho1).2, bO4⟩
            · go_simp
              refine hK _ _ ?_
              clear hK K
              refine wpAnyIn_ready (rs := [0, 7]) (by kernel_rfl) (by simp) ?_
              refine AllReadyIn.cons rfl (fun K hK => ?_) (AllReadyIn.cons rfl (fun K hK => ?_) AllReadyIn.nil)
              · go_simp
                refine hK _ _ ?_
                clear hK K
                refine wpAnyIn_ready (rs := [7]) (by kernel_rfl) (by simp) ?_
                refine AllReadyIn.cons rfl (fun K hK => ?_) AllReadyIn.nil
                go_simp
                refine hK _ _ ?_
                clear hK K
                refine wpAnyIn_ready (rs := [8]) (by kernel_rfl) (by simp) ?_
                refine AllReadyIn.cons rfl (fun K hK => ?_) AllReadyIn.nil
                go_simp
                refine hK _ _ ?_
                clear hK K
                refine wpAnyIn_ready (rs := [9]) (by kernel_rfl) (by simp) ?_
                refine AllReadyIn.cons rfl (fun K hK => ?_) AllReadyIn.nil
                rw [if_pos (by rfl)]
                refine opi_append1 _ _ _ rfl base _ xs rfl hNx.out (w.heap.size + 1 + 1) (Wb.sg zs r) rfl hcx.out (by omega) (by rw [hs4]; omega) ?_
                intro v1 W4 hN1 hg1 ho1
                refine hK _ _ ?_
                clear hK K
                have bO4 : Boxed W4 (w.heap.size + 1) 23 (.slice a0 xs.length c0) := (hg1.block _ (by rw [hs4]; omega) (fun e => by have := Hown.out _ e.symm; omega)).trans bO'
                have cO4 := bO4.cell
                have fO4 := bO4.frozen
                obtain ⟨a1, n1, c1, rfl⟩ := hN1.slice3
                refine wpAnyIn_ready (rs := [10]) (by kernel_rfl) (by simp) ?_
                refine AllReadyIn.cons rfl (fun K hK => ?_) AllReadyIn.nil
                go_simp
                refine hK _ _ ?_
                clear hK K
                refine wpAnyIn_done (by kernel_rfl) ?_ _
                exact ⟨rfl, .slice a1 n1 c1, W4, _, _, rfl, rfl, hN1, (hgr.out _ W4 hg1 ho1).1, (hgr.out _ W4 hg1 ho1).2, bO4⟩
              · go_simp
                refine hK _ _ ?_
                clear hK K
                refine wpAnyIn_ready (rs := [0, 8]) (by kernel_rfl) (by simp) ?_
                refine AllReadyIn.cons rfl (fun K hK => ?_) (AllReadyIn.cons rfl (fun K hK => ?_) AllReadyIn.nil)
                · go_simp
                  refine hK _ _ ?_
                  clear hK K
                  refine wpAnyIn_ready (rs := [8]) (by kernel_rfl) (by simp) ?_
                  refine AllReadyIn.cons rfl (fun K hK => ?_) AllReadyIn.nil
                  go_simp
                  refine hK _ _ ?_
                  clear hK K
                  refine wpAnyIn_ready (rs := [9]) (by kernel_rfl) (by simp) ?_
                  refine AllReadyIn.cons rfl (fun K hK => ?_) AllReadyIn.nil
                  rw [if_pos (by rfl)]
                  refine opi_append1 _ _ _ rfl base _ xs rfl hNx.out (w.heap.size + 1 + 1) (Wb.sg zs r) rfl hcx.out (by omega) (by rw [hs4]; omega) ?_
                  intro v1 W4 hN1 hg1 ho1
                  refine hK _ _ ?_
                  clear hK K
                  have bO4 : Boxed W4 (w.heap.size + 1) 23 (.slice a0 xs.length c0) := (hg1.block _ (by rw [hs4]; omega) (fun e => by have := Hown.out _ e.symm; omega)).trans bO'
                  have cO4 := bO4.cell
                  have fO4 := bO4.frozen
                  obtain ⟨a1, n1, c1, rfl⟩ := hN1.slice3
                  refine wpAnyIn_ready (rs := [10]) (by kernel_rfl) (by simp) ?_
                  refine AllReadyIn.cons rfl (fun K hK => ?_) AllReadyIn.nil
                  go_simp
                  refine hK _ _ ?_
                  clear hK K
                  refine wpAnyIn_done (by kernel_rfl) ?_ _
                  exact ⟨rfl, .slice a1 n1 c1, W4, _, _, rfl, rfl, hN1, (hgr.out _ W4 hg1 ho1).1, (hgr.out _ W4 hg1 ho1).2, bO4⟩
                · go_simp
                  refine hK _ _ ?_
                  clear hK K
                  refine wpAnyIn_ready (rs := [0]) (by kernel_rfl) (by simp) ?_
                  refine AllReadyIn.cons rfl (fun K hK => ?_) AllReadyIn.nil
                  go_simp
                  refine hK _ _ ?_
                  clear hK K
                  refine wpAnyIn_ready (rs := [9]) (by kernel_rfl) (by simp) ?_
                  refine AllReadyIn.cons rfl (fun K hK => ?_) AllReadyIn.nil
                  rw [if_pos (by rfl)]
                  refine opi_append1 _ _ _ rfl base _ xs rfl hNx.out (w.heap.size + 1 + 1) (Wb.sg zs r) rfl hcx.out (by omega) (by rw [hs4]; omega) ?_
                  intro v1 W4 hN1 hg1 ho1
                  refine hK _ _ ?_
                  clear hK K
                  have bO4 : Boxed W4 (w.heap.size + 1) 23 (.slice a0 xs.length c0) := (hg1.block _ (by rw [hs4]; omega) (fun e => by have := Hown.out _ e.symm; omega)).trans bO'
                  have cO4 := bO4.cell
                  have fO4 := bO4.frozen
                  obtain ⟨a1, n1, c1, rfl⟩ := hN1.slice3
                  refine wpAnyIn_ready (rs := [10]) (by kernel_rfl) (by simp) ?_
                  refine AllReadyIn.cons rfl (fun K hK => ?_) AllReadyIn.nil
                  go_simp
                  refine hK _ _ ?_
                  clear hK K
                  refine wpAnyIn_done (by kernel_rfl) ?_ _
                  exact ⟨rfl, .slice a1 n1 c1, W4, _, _, rfl, rfl, hN1, (hgr.out _ W4 hg1 ho1).1, (hgr.out _ W4 hg1 ho1).2, bO4⟩
  case rest =>
    rintro e a W ⟨rfl, v1, W4, x21, x23, rfl, rfl, hN1, hg1, ho1, bO4⟩
    obtain ⟨W5, hW5⟩ : ∃ W5, W4.setCell ⟨w.heap.size + 1, 0, none⟩ v1 = W5 := ⟨_, rfl⟩
    have bO5 : Boxed W5 (w.heap.size + 1) 23 v1 := hW5 ▸ bO4.set v1
    have g5 : W4.grownBy W5 (some (w.heap.size + 1)) := hW5 ▸ grownBy_setCell1 W4 _ 0 _
    have hz4 := hg1.size
    have hz5 := g5.size
    have hown1 : ∀ k, v1.ownBlock = some k → ((Value.slice a0 xs.length c0).ownBlock = some k ∨ w.heap.size ≤ k) ∧ k ≠ w.heap.size ∧ k ≠ w.heap.size + 1 ∧ k < W4.heap.size := fun k e => by
      have h1 := (World.ownsRow.lt hN1 k e).2
      rcases ho1 k e with h2 | h2
      · have h3 := Hown.out k h2
        exact ⟨.inl h2, by omega, by omega, h1⟩
      · exact ⟨.inr (by omega), by omega, by omega, h1⟩
    have hN5 : New base W5 v1 (xs ++ [Wb.sg zs r]) := World.ownsRow.kept hN1 g5 (by
      cases hv : v1.ownBlock with
      | none => exact .inl rfl
      | some k => exact .inr (by have := hown1 k hv; simp; omega))
    have hkk : ∀ k, k < w.heap.size → some k ≠ (Value.slice a0 xs.length c0).ownBlock → W5.heap[k]? = W3.heap[k]? := fun k hk hn => (g5.block k (by omega) (by simp; omega)).trans (hg1.block k (by omega) hn)
    have bW5 : Boxed W5 w.heap.size 93 (.pointer (some ⟨Bw, 0, none⟩)) := (g5.block _ (by omega) (by simp)).trans ((hg1.block _ (by omega) (fun e => by have := Hown.out _ e.symm; omega)).trans bW)
    have hWb5 : WebAt W5 Bw Bm (some ⟨b, off, none⟩) cap zs N T := HW0.out.of (hkk Bw wl (fun e => (Hv.out _ e.symm).1 rfl)) (hkk Bm ml (fun e => (Hv.out _ e.symm).2.1 rfl)) (hkk b hbl (fun e => (Hv.out _ e.symm).2.2 rfl)) (by omega)
    have gr5 : w.grownBy W5 (Value.slice a0 xs.length c0).ownBlock := ⟨(g5.os.trans hg1.os).trans hB0.os, (g5.tape.trans hg1.tape).trans hB0.tape, (g5.output.trans hg1.output).trans hB0.output, by omega, fun k hk hn => (hkk k hk hn).trans (hB0.block k hk)⟩
    have d1 := bW5.cell
    have d2 := hWb5.cell0
    rw [hW5]
    clear hW5 g5 hg1 hkk bO4 hN1 ho1 bO bW hB0 hcW hcO hfO hc0 hcs HW3 HN0 HW0 bO' hs4 hNx hcx hgr
    gi_wp2_with (first
      | ((try refine ⟨hdd _, ?_⟩); gi_at_call 68; refine (partsx_in F HPl.out _ _ _ _ _ _).mono ?_; rintro e w' ⟨rfl, rfl⟩))
    have hs6 : ((W5.alloc (.cells #[.slice (some ⟨b, off, none⟩) zs.length cap] 23)).alloc (.cells #[.int .i64 (r : Int)] 3)).heap.size = W5.heap.size + 1 + 1 := by simp
    have bT6 := (Boxed.new W5 23 (.slice (some ⟨b, off, none⟩) zs.length cap)).alloc (.cells #[.int .i64 (r : Int)] 3)
    have bK6 := Boxed.new (W5.alloc (.cells #[.slice (some ⟨b, off, none⟩) zs.length cap] 23)) 3 (.int .i64 (r : Int))
    rw [World.size_alloc] at bK6
    have bW6 := (bW5.alloc (.cells #[.slice (some ⟨b, off, none⟩) zs.length cap] 23)).alloc (.cells #[.int .i64 (r : Int)] 3)
    have bO6 := (bO5.alloc (.cells #[.slice (some ⟨b, off, none⟩) zs.length cap] 23)).alloc (.cells #[.int .i64 (r : Int)] 3)
    have hB56 : Below W5.heap.size W5 ((W5.alloc (.cells #[.slice (some ⟨b, off, none⟩) zs.length cap] 23)).alloc (.cells #[.int .i64 (r : Int)] 3)) := ((Below.refl _ W5).alloc (Nat.le_refl _) _).alloc (by simp) _
    refine wpIn_rangeSteps hro (by omega) (gf := 84) (lb := #[.pointer (some ⟨W5.heap.size + 1, 0, none⟩), .pointer (some ⟨W5.heap.size, 0, none⟩)]) rfl hf4 (enters_of Try.func84 (by kernel_rfl) rfl)
      (parts_steps F HPl.out _ (W5.heap.size + 1) W5.heap.size r cap (some ⟨b, off, none⟩) zs hl5 hr1 (ends_beyond F HPl.out zs hl5 _ cap r)) (fun _ => rfl)
      (GInv w W5.heap.size Bw Bm b off cap N base zs T (.slice a0 xs.length c0) (xs ++ [Wb.sg zs r]) ls r)
      (fun _ _ => False) (fun ch W => ch = manyChain ∧ 30 < xs.length + (Wb.sg zs r :: ls.flatten).length ∧ w.grownBy W (Value.slice a0 xs.length c0).ownBlock) (.inr hall.out)
      (GInv.own wl ml hbl (by rw [hs6]; omega))
      (fun _ _ _ _ h _ _ => h)
      (fun i W hI => ⟨hI.bK.cell, hI.bT.cell, hI.web.ints⟩)
      ⟨⟨v1, bO6, by simpa using hN5.below hB56, by simp; omega, fun k e => by have := hown1 k e; exact ⟨this.1, this.2.1, this.2.2.1, by omega, by omega⟩⟩, hWb5.below hB56, bW6, bK6, bT6, grown_trans gr5 ⟨hB56.os, hB56.tape, hB56.output, hB56.size, fun k hk _ => hB56.block k hk⟩ (row' := none) (fun k e => by cases e)⟩
      (fun i => { tmps := #[.pointer (some ⟨Bw, 0, none⟩), .slice a0 xs.length c0, .int .i64 (r : Int), .pointer (some ⟨w.heap.size, 0, none⟩), .pointer (some ⟨w.heap.size + 1, 0, none⟩), undef, .slice none 0 0, .int .i64 (Tm.pos zs r i : Int), .slice a0 xs.length c0, .int .i64 (xs.length : Int), .bool false, undef, .pointer (some ⟨Bw, 0, none⟩), .int .i64 (p : Int), .int .i64 (r : Int),
        .slice a0 xs.length c0, .pointer (some ⟨Bw, 0, none⟩), .pointer (some ⟨Bw, 0, none⟩), .pointer (some ⟨Bw, 0, none⟩), .slice (some ⟨b, off, none⟩) zs.length cap, .int .i64 (r : Int), x21, .int .i64 (Wb.sg zs r), x23, v1, .pointer (some ⟨Bw, 0, none⟩), .pointer (some ⟨Bw, 0, none⟩), .pointer (some ⟨Bw, 0, none⟩), .slice (some ⟨b, off, none⟩) zs.length cap, .int .i64 (r : Int),
        .func (.func 84) #[] #[.pointer (some ⟨W5.heap.size + 1, 0, none⟩), .pointer (some ⟨W5.heap.size, 0, none⟩)], .int .i64 (Tm.pos zs r i : Int), .int .i64 (Tm.pos zs r (i + 1) : Int), undef, undef, undef, undef, undef], defers := [] }) ?assign ?body ?done ?stop ?panic
    case assign =>
      intro l i W K hK
      simp only [encPart]
      gi_wp2
      exact hK
    case body =>
      rintro l i W ⟨⟨v2, bO, hN2, hl2, ho2⟩, hweb, bW, bK, bT, hG⟩ hi
      have hi' : i < Tm.room (Wb.sg zs r) := hi
      have hzw := hG.size
      have hnew := World.ownsRow.lt hN2
      have hC := fx_any HPl.out (m := 0) (Hih.out i hi' v2 _ W hweb hN2 (fun k e => by
        rcases (ho2 k e).1 with h1 | h1
        · exact Hv.out k h1
        · exact ⟨by omega, by omega, by omega⟩) (by omega) (by rw [List.length_append]; exact hl2))
      have hCt := hid (CallsIn.inRound l hC)
      have hlt : i < ls.length := by rw [Hls.out]; exact hi'
      have hfl := Wb.flat_take_succ ls i hlt
      have hfe := Wb.flat_take_le ls (i + 1)
      have hfn := congrArg List.length hfl
      rw [List.length_append] at hfn
      have Hfl := hid hfl
      have Hfn := hid hfn
      have Hfe := hid hfe
      have e1 := bW.cell
      have e2 := bO.cell
      have hbx : ∀ {C : Nat} {t : TypeId} {x : Value}, Boxed W C t x → C = w.heap.size ∨ C = w.heap.size + 1 ∨ C = W5.heap.size ∨ C = W5.heap.size + 1 → ∀ W1 : World, W.grownBy W1 v2.ownBlock → Boxed W1 C t x := fun {C t x} hb hc W1 hg => (hg.block C hb.lt (fun e => by have := ho2 C e.symm; omega)).trans hb
      clear hC hfl hfn hfe
      gi_wp2_with (first
        | ((try refine ⟨hdd _, ?_⟩); gi_at_call 90; refine hCt.out.mono ?_; clear hCt; rintro e W1 ⟨hg, (⟨hle, v3, rfl, hN3, ho3⟩ | ⟨hgt, rfl⟩)⟩; (have bO1 := hbx bO (by omega) W1 hg; have cO1 := bO1.cell; have fO1 := bO1.frozen; obtain ⟨a3, n3, c3, rfl⟩ := hN3.slice3)))
      · have hkf : KeepsFrom (W5.heap.size + 1 + 1) W W1 := keeps_new hN2 hg
        have hno : ∀ k, k < w.heap.size → k = Bw ∨ k = Bm ∨ k = b → W1.heap[k]? = W.heap[k]? := fun k hk hc => hg.block k (by omega) (fun e => by
          rcases (ho2 k e.symm).1 with h1 | h1
          · have := Hv.out k h1; omega
          · omega)
        have hset : ∀ k, k ≠ w.heap.size + 1 → (W1.setCell ⟨w.heap.size + 1, 0, none⟩ (.slice a3 n3 c3)).heap[k]? = W1.heap[k]? := fun k hk => Below.heap_setCell W1 ⟨w.heap.size + 1, 0, none⟩ _ k hk
        have hsz := hg.size
        have hsc := (KeepsWalks.setCell W1 ⟨w.heap.size + 1, 0, none⟩ (.slice a3 n3 c3)).size
        have hol := bO.lt
        have hkl2 := bK.lt
        have ho3' : ∀ k, (Value.slice a3 n3 c3).ownBlock = some k → ((Value.slice a0 xs.length c0).ownBlock = some k ∨ w.heap.size ≤ k) ∧ k ≠ w.heap.size ∧ k ≠ w.heap.size + 1 ∧ k ≠ W5.heap.size ∧ k ≠ W5.heap.size + 1 := fun k e => by
          rcases ho3 k e with h1 | h1
          · exact ho2 k h1
          · exact ⟨.inr (by omega), by omega, by omega, by omega, by omega⟩
        rw [hs6]
        refine ⟨hkf.trans ((KeepsOthers.setCell _ _ _).from _), ⟨_, bO1.set _, ?_, ?_, ho3'⟩, hweb.of ((hset Bw (by omega)).trans (hno Bw wl (by omega))) ((hset Bm (by omega)).trans (hno Bm ml (by omega))) ((hset b (by omega)).trans (hno b hbl (by omega))) (by omega), (hbx bW (by omega) W1 hg).other (by omega) _, (hbx bK (by omega) W1 hg).other (by omega) _, (hbx bT (by omega) W1 hg).other (by omega) _, ?_⟩
        · rw [Hfl.out, ← List.append_assoc]
          refine World.ownsRow.kept hN3 (grownBy_setCell1 W1 (w.heap.size + 1) 0 _) ?_
          cases hv : (Value.slice a3 n3 c3).ownBlock with
          | none => exact .inl rfl
          | some k => exact .inr (by have := ho3' k hv; simp; omega)
        · rw [Hfn.out]
          rw [List.length_append] at hle
          omega
        · exact grown_trans (grown_trans hG hg (fun k e => (ho2 k e).1)) (grownBy_setCell1 W1 (w.heap.size + 1) 0 _) (fun k e => by cases e; exact .inr (by omega))
      · refine ⟨rfl, keeps_new hN2 hg, rfl, ?_, grown_trans hG hg (fun k e => (ho2 k e).1)⟩
        have h1 := Hfn.out
        have h2 := Hfe.out
        simp only [List.length_append, List.length_cons, List.length_nil] at hgt ⊢
        omega
    case done =>
      rintro D W hD ⟨⟨v2, bO, hN2, hl2, ho2⟩, hweb, bW, bK, bT, hG⟩ hDd
      have e2 := bO.cell
      rw [hs6] at hD
      have hroom : Hid (ls.take (Tm.room (zs[r]?.getD 0)) = ls) := List.take_of_length_le (by rw [Hls.out]; exact Nat.le_refl _)
      have hgD : W.grownBy (W.putObj D (.deferred none)) (some D) := ⟨rfl, rfl, rfl, by simp, fun k _ hn => World.putObj_heap_other (by simpa using hn)⟩
      gi_wp2
      refine ⟨by simp, .inl ⟨_, _, rfl, run_takeDeferred hDd, ?_⟩⟩
      rw [hroom.out] at hN2 hl2
      refine ⟨_, results_tmp rfl _ _ _, grown_trans hG hgD (fun k e => by cases e; exact .inr (by omega)), .inl ⟨?_, v2, rfl, ?_, fun k e => (ho2 k e).1⟩⟩
      · simp only [List.length_append, List.length_cons, List.length_nil] at hl2 ⊢
        omega
      · have := hN2.own hgD (fun q e => by cases e; exact ⟨_, hDd, rfl⟩)
        rw [List.append_assoc] at this
        exact this
    case stop => exact fun _ _ _ _ h => h.elim
    case panic =>
      rintro D ch W hD ⟨rfl, hgt, hG⟩ hDd
      rw [hs6] at hD
      have hgD : W.grownBy (W.putObj D (.deferred none)) (some D) := ⟨rfl, rfl, rfl, by simp, fun k _ hn => World.putObj_heap_other (by simpa using hn)⟩
      refine ⟨by simp, .inl ⟨_, _, rfl, run_takeDeferred hDd, ?_⟩⟩
      exact ⟨grown_trans hG hgD (fun k e => by cases e; exact .inr (by omega)), .inr ⟨hgt, rfl⟩⟩

end Go.Proofs.Ytbelnlemjcoifaa

namespace Go.Proofs.Ytbelnlemjcoifaa
open Go.Proofs Go.RowKit Go.Shelf Go.Maps

theorem grown_all (zs : List Int) (G : Wb.Good zs) (T : Nat → Option Nat) (h : Nat → Nat) (S : Wb.St zs T h) (Bw Bm b off cap N base : Nat) {p : Nat} {l : List Int} (H : Wb.Exp zs h p l) : p < zs.length → ∀ (v : Value) (xs : List Int) (w : World), WebAt w Bw Bm (some ⟨b, off, none⟩) cap zs N T → New base w v xs →
    (∀ k, v.ownBlock = some k → k ≠ Bw ∧ k ≠ Bm ∧ k ≠ b) → base ≤ w.heap.size → xs.length ≤ 30 →
    CallsIn Fx 3 Try.prog 90 #[.pointer (some ⟨Bw, 0, none⟩), v, .int .i64 (p : Int)] w fun e w' => GrAns w w' base e v xs l := by
  induction H with
  | mk p ls hl _ ih =>
    intro hp v xs w hW hN hv hb hx
    by_cases h30 : xs.length = 30
    · exact grown_full 3 base Bw p v xs _ w hN h30 (by simp)
    · obtain ⟨hr1, _, _⟩ := Wb.hd_lt G S hp
      exact webGrown_step zs G T h S Bw Bm b off cap N base p ls v xs w hW hp hN hv hb (by omega) hl (fun i hi v1 ys W h1 h2 h3 h4 h5 => ih i hi (Wb.kid_lt G hr1 hi) v1 ys W h1 h2 h3 h4 h5)

/-- Of nothing, in a world of its own: what the place becomes, in new memory, or too large. -/
theorem grown_nil (zs : List Int) (G : Wb.Good zs) (T : Nat → Option Nat) (h : Nat → Nat) (S : Wb.St zs T h) (Bw Bm b off cap N : Nat) {p : Nat} {l : List Int} (H : Wb.Exp zs h p l) (hp : p < zs.length) (w : World) (hW : WebAt w Bw Bm (some ⟨b, off, none⟩) cap zs N T) :
    Calls Try.prog 90 #[.pointer (some ⟨Bw, 0, none⟩), .slice none 0 0, .int .i64 (p : Int)] w fun e w' => Below w.heap.size w w' ∧ ((l.length ≤ 30 ∧ ∃ v, e = .returned v ∧ New w.heap.size w' v l) ∨ (30 < l.length ∧ e = .panicked manyChain)) := by
  refine fx_calls (CallsIn.mono (grown_all zs G T h S Bw Bm b off cap N w.heap.size H hp (.slice none 0 0) [] w hW (New.nil _ _) (fun k e => by cases e) (Nat.le_refl _) (by simp)) ?_)
  rintro e w' ⟨hg, hA⟩
  refine ⟨⟨hg.os, hg.tape, hg.output, hg.size, fun k hk => hg.block k hk (by simp [Value.ownBlock])⟩, ?_⟩
  rcases hA with ⟨h1, v, h2, h3, _⟩ | ⟨h1, h2⟩
  · exact .inl ⟨by simpa using h1, v, h2, by simpa using h3⟩
  · exact .inr ⟨by simpa using h1, h2⟩

end Go.Proofs.Ytbelnlemjcoifaa

namespace Go.Proofs.Ytbelnlemjcoifaa
open Go.Proofs Go.RowKit Go.Shelf Go.Maps

theorem grow_idle (p q r : Addr) (w : World) : CallsD Try.prog 89 #[.pointer (some p), .pointer (some q), .pointer (some r)] .returning w fun e u' w' => e = .returned (.tuple #[]) ∧ u' = .returning ∧ w' = w := by
  refine callsD_of_wpS Try.func89 rfl fun c₀ cs hu => ?_
  apply wpS_seq
  apply wpS_region
  simp [wpOpsS, go_sem, recoverD, hu, Try.ntmps89, Exit.thenS]
  simp only [Array.replicate_succ, Array.replicate_zero, List.push_toArray, List.nil_append, List.cons_append, List.setIfInBounds_toArray, List.set_cons_succ, List.set_cons_zero, List.append_toArray]
  refine wpS_of_wp ?_
  go_wp2
  cases c₀
  simp_all [bodyPostS, results, Try.results89]

/-- What it leaves in the three results. -/
theorem grow_caught (B : Nat) (w : World) (h0 : Boxed w B 36 (.slice none 0 0)) (h1 : Boxed w (B + 1) 4 (.bool false)) (h2 : Boxed w (B + 1 + 1) 24 (.int .i64 0)) :
    CallsD Try.prog 89 #[.pointer (some ⟨B, 0, none⟩), .pointer (some ⟨B + 1, 0, none⟩), .pointer (some ⟨B + 1 + 1, 0, none⟩)] (.panicking manyChain) w fun e u' w' => e = .returned (.tuple #[]) ∧ u' = .panicking [{ v := .iface 24 (.int .i64 2), recovered := true }] ∧
      Below B w w' ∧ Boxed w' B 36 (.slice none 0 0) ∧ Boxed w' (B + 1) 4 (.bool false) ∧ Boxed w' (B + 1 + 1) 24 (.int .i64 2) := by
  refine callsD_of_wpS Try.func89 rfl fun c₀ cs hu => ?_
  have c0 := h0.cell
  have c1 := h1.cell
  have c2 := h2.cell
  have f0 := h0.frozen
  have f1 := h1.frozen
  have f2 := h2.frozen
  unfold manyChain at hu
  have hta : ∀ (xT : TypeId) (w : World), (Instr.typeAssert (.iface 24 (.int .i64 2)) xT 24 false).run Try.prog w = .ok (.int .i64 2) w := fun _ _ => by kernel_rfl
  apply wpS_seq
  apply wpS_region
  simp [wpOpsS, go_sem, recoverD, hu, Try.ntmps89, Exit.thenS]
  simp only [Array.replicate_succ, Array.replicate_zero, List.push_toArray, List.nil_append, List.cons_append, List.setIfInBounds_toArray, List.set_cons_succ, List.set_cons_zero, List.append_toArray]
  refine wpS_of_wp ?_
  go_wp2
  go_region
  all_goals (
    refine ⟨rfl, _, rfl, _, results_none rfl _ _ _, rfl, rfl, ?_⟩
    refine ⟨below_drewN (((Below.refl B w).setCell (p := ⟨B, 0, none⟩) (Nat.le_refl _) _).setCell (p := ⟨B + 1, 0, none⟩) (by show B ≤ B + 1; omega) _ |>.setCell (p := ⟨B + 1 + 1, 0, none⟩) (by show B ≤ B + 1 + 1; omega) _) 1, ?_, ?_, ?_⟩
    · exact ((h0.set _).other (by omega) _).other (by omega) _
    · exact ((h1.other (by omega) _).set _).other (by omega) _
    · exact ((h2.other (by omega) _).other (by omega) _).set _)

end Go.Proofs.Ytbelnlemjcoifaa

namespace Go.Proofs.Ytbelnlemjcoifaa
open Go.Proofs Go.RowKit Go.Shelf Go.Maps

theorem results_box3 {fn : Func} {tmps : Array Value} {w : World} {a b c A B C : Nat} {e : Bool} {s : Option Addr} {n m : Nat} {f : Int} (h : fn.results = #[.cell a 36, .cell b 4, .cell c 24])
    (ha : tmps.getD a undef = .pointer (some ⟨A, 0, none⟩)) (hb : tmps.getD b undef = .pointer (some ⟨B, 0, none⟩)) (hc : tmps.getD c undef = .pointer (some ⟨C, 0, none⟩))
    (h1 : w.cell? ⟨A, 0, none⟩ = some (.slice s n m)) (h2 : w.cell? ⟨B, 0, none⟩ = some (.bool e)) (h3 : w.cell? ⟨C, 0, none⟩ = some (.int .i64 f)) : (results fn tmps).run Try.prog w = .ok (.tuple #[.slice s n m, .bool e, .int .i64 f]) w := by
  have ha' : tmps[a]?.getD undef = .pointer (some ⟨A, 0, none⟩) := by rw [← ha]; simp
  have hb' : tmps[b]?.getD undef = .pointer (some ⟨B, 0, none⟩) := by rw [← hb]; simp
  have hc' : tmps[c]?.getD undef = .pointer (some ⟨C, 0, none⟩) := by rw [← hc]; simp
  simp only [results, h]
  simp [go_sem, ha', hb', hc', h1, h2, h3]

/-- What holds ahead of round k of grow. -/
structure GrowInv (w : World) (Bw Bm b off cap N : Nat) (zs : List Int) (T : Nat → Option Nat) (f : Nat → List Int) (k : Nat) (W : World) : Prop where
  arr : ∃ cs : Array Value, W.heap[w.heap.size + 1 + 1 + 1]? = some (.cells cs 103 (0, 0)) ∧ cs.size = 8 ∧ ∀ j, j < k → ∃ u, cs[j]? = some u ∧ New (w.heap.size + 1 + 1 + 1 + 1) W u (f j)
  b0 : Boxed W w.heap.size 36 (.slice none 0 0)
  b1 : Boxed W (w.heap.size + 1) 4 (.bool false)
  b2 : Boxed W (w.heap.size + 1 + 1) 24 (.int .i64 0)
  web : WebAt W Bw Bm (some ⟨b, off, none⟩) cap zs N T
  bl : Below w.heap.size w W

theorem GrowInv.below {w : World} {Bw Bm b off cap N : Nat} {zs : List Int} {T : Nat → Option Nat} {f : Nat → List Int} {k : Nat} {W W' : World} (H : GrowInv w Bw Bm b off cap N zs T f k W) (hB : Below W.heap.size W W') : GrowInv w Bw Bm b off cap N zs T f k W' := by
  obtain ⟨⟨cs, hblk, h8, hc⟩, b0, b1, b2, hweb, hbl⟩ := H
  refine ⟨⟨cs, (hB.block _ (Array.getElem?_eq_some_iff.1 hblk).1).trans hblk, h8, fun j hj => ?_⟩, (hB.block _ b0.lt).trans b0, (hB.block _ b1.lt).trans b1, (hB.block _ b2.lt).trans b2, hweb.below hB, hbl.trans (hB.mono hbl.size)⟩
  obtain ⟨u, hu, hN⟩ := hc j hj
  exact ⟨u, hu, hN.below hB⟩
theorem GrowInv.cellA {w : World} {Bw Bm b off cap N : Nat} {zs : List Int} {T : Nat → Option Nat} {f : Nat → List Int} {k : Nat} {W : World} (H : GrowInv w Bw Bm b off cap N zs T f k W) {j : Nat} (hj : j < 8) : ∃ x, W.cell? ⟨w.heap.size + 1 + 1 + 1, j, none⟩ = some x ∧ W.frozen? ⟨w.heap.size + 1 + 1 + 1, j, none⟩ = false := by
  obtain ⟨⟨cs, hblk, h8, hc⟩, b0, b1, b2, hweb, hbl⟩ := H
  refine ⟨cs[j]'(by omega), ?_, ?_⟩
  · rw [cell_at hblk, Array.getElem?_eq_getElem]
  · simp only [World.frozen?]
    rw [hblk]
    simp
theorem GrowInv.set {w : World} {Bw Bm b off cap N : Nat} {zs : List Int} {T : Nat → Option Nat} {f : Nat → List Int} {k : Nat} {W : World} (H : GrowInv w Bw Bm b off cap N zs T f k W) (hk : k < 8) (hwl : Bw < w.heap.size ∧ Bm < w.heap.size) (hb : b < w.heap.size) {v : Value} {base : Nat} (hN : New base W v (f k)) (hbase : w.heap.size + 1 + 1 + 1 + 1 ≤ base) : GrowInv w Bw Bm b off cap N zs T f (k + 1) (W.setCell ⟨w.heap.size + 1 + 1 + 1, k, none⟩ v) := by
  obtain ⟨⟨cs, hblk, h8, hc⟩, b0, b1, b2, hweb, hbl⟩ := H
  have hg := grownBy_setCell1 W (w.heap.size + 1 + 1 + 1) k v
  have hbx : ∀ {C : Nat} {t : TypeId} {x : Value}, Boxed W C t x → C ≠ w.heap.size + 1 + 1 + 1 → Boxed (W.setCell ⟨w.heap.size + 1 + 1 + 1, k, none⟩ v) C t x := fun {C t x} hb hne => (Below.heap_setCell W ⟨w.heap.size + 1 + 1 + 1, k, none⟩ v C hne).trans hb
  have hkk : ∀ q, q < w.heap.size → (W.setCell ⟨w.heap.size + 1 + 1 + 1, k, none⟩ v).heap[q]? = W.heap[q]? := fun q hq => Below.heap_setCell W ⟨w.heap.size + 1 + 1 + 1, k, none⟩ v q (show q ≠ w.heap.size + 1 + 1 + 1 by omega)
  have hkeep : ∀ (u : Value) (t : List Int), New (w.heap.size + 1 + 1 + 1 + 1) W u t → New (w.heap.size + 1 + 1 + 1 + 1) (W.setCell ⟨w.heap.size + 1 + 1 + 1, k, none⟩ v) u t := fun u t hu => World.ownsRow.kept hu hg (by
    cases e : u.ownBlock with
    | none => exact .inl rfl
    | some q => exact .inr (by have := (World.ownsRow.lt hu q e).1; simp; omega))
  refine ⟨⟨cs.setIfInBounds k v, ?_, by simp [h8], fun j hj => ?_⟩, hbx b0 (by omega), hbx b1 (by omega), hbx b2 (by omega), hweb.of (hkk Bw hwl.1) (hkk Bm hwl.2) (hkk b hb) (by have := hg.size; have := hbl.size; omega), hbl.setCell (p := ⟨w.heap.size + 1 + 1 + 1, k, none⟩) (by show w.heap.size ≤ w.heap.size + 1 + 1 + 1; omega) _⟩
  · obtain ⟨hlt, hx⟩ := Array.getElem?_eq_some_iff.1 hblk
    show (W.heap.modify (w.heap.size + 1 + 1 + 1) _)[w.heap.size + 1 + 1 + 1]? = _
    rw [Array.getElem?_eq_getElem (by rw [Array.size_modify]; exact hlt), Array.getElem_modify_self, hx]
    rfl
  · by_cases e : j = k
    · subst e
      exact ⟨v, by simp [h8, hk], hkeep v _ (hN.mono hbase)⟩
    · obtain ⟨u, hu, hN'⟩ := hc j (by omega)
      exact ⟨u, by simp [Ne.symm e, hu], hkeep u _ hN'⟩

theorem GrowInv.subs {w : World} {Bw Bm b off cap N : Nat} {zs : List Int} {T : Nat → Option Nat} {f : Nat → List Int} {W W' : World} (H : GrowInv w Bw Bm b off cap N zs T f 8 W) (hk : ∀ q, w.heap.size + 1 + 1 + 1 ≤ q → W'.heap[q]? = W.heap[q]?) (hs : W.heap.size ≤ W'.heap.size) : Subs W'.heap.size W' (some ⟨w.heap.size + 1 + 1 + 1, 0, none⟩) ((List.range 8).map f) := by
  obtain ⟨⟨cs, hblk, h8, hc⟩, b0, b1, b2, hweb, hbl⟩ := H
  intro j hj
  have hj8 : j < 8 := by simpa using hj
  have ej : ((List.range 8).map f)[j]?.getD [] = f j := by simp [hj8]
  obtain ⟨u, hu, hN⟩ := hc j hj8
  have hlt := (Array.getElem?_eq_some_iff.1 hblk).1
  have hblk' := (hk _ (Nat.le_refl _)).trans hblk
  have hN' : New (w.heap.size + 1 + 1 + 1 + 1) W' u (f j) := by
    refine ⟨hN.1, hN.2.elim .inl fun ⟨g, c, cur, h1, h2, h3, h4⟩ => .inr ⟨g, c, cur, h1, h2, (hk g (by omega)).trans h3, h4⟩⟩
  obtain ⟨a, c, rfl, hI, h1, h2⟩ := New.ints hN'
  refine ⟨w.heap.size + 1 + 1 + 1, 0, a, c, rfl, by omega, ?_, ?_, ?_, h2, fun e => ?_⟩
  · rw [ej, Nat.zero_add, cell_at hblk', hu]
  · rw [ej]; exact hI
  · rw [ej]; exact h1
  · subst e
    rcases hN'.2 with ⟨h3, _⟩ | ⟨g, _, _, h3, _⟩
    · simp at h3; exact h3.2
    · simp at h3

set_option maxRecDepth 100000 in
set_option maxHeartbeats 2000000 in
theorem grow_any (zs : List Int) (G : Wb.Good zs) (T : Nat → Option Nat) (h : Nat → Nat) (S : Wb.St zs T h) (Bw Bm b off cap N : Nat) (f : Nat → List Int) (hf : ∀ i, i < 8 → Wb.Exp zs h i (f i)) (w : World) (hW : WebAt w Bw Bm (some ⟨b, off, none⟩) cap zs N T) :
    Calls Try.prog 83 #[.pointer (some ⟨Bw, 0, none⟩)] w fun e w' => Below w.heap.size w w' ∧ (((∀ i, i < 8 → (f i).length ≤ 30) ∧ ∃ a, e = .returned (.tuple #[.slice a 8 8, .bool true, .int .i64 0]) ∧ Subs w'.heap.size w' a ((List.range 8).map f)) ∨
      ((∃ i, i < 8 ∧ 30 < (f i).length) ∧ e = .returned (.tuple #[.slice none 0 0, .bool false, .int .i64 2]))) := by
  have hmf : ∀ (fn : Fn) (first cap : Array Value) (w : World), (Instr.makeFunc fn first cap).run Try.prog w = .ok (.func fn first cap) w := fun _ _ _ _ => rfl
  have h8 := G.eight
  obtain ⟨wl, ml⟩ := hW.lt
  have hbl : b < w.heap.size := by
    obtain ⟨b', off', e, hb, _⟩ := hW.ints.at (by omega)
    cases e
    exact hb
  have hI0 : Hid (GrowInv w Bw Bm b off cap N zs T f 0 ((((w.alloc (.cells #[.slice none 0 0] 36)).alloc (.cells #[.bool false] 4)).alloc (.cells #[.int .i64 0] 24)).alloc (.cells #[.slice none 0 0, .slice none 0 0, .slice none 0 0, .slice none 0 0, .slice none 0 0, .slice none 0 0, .slice none 0 0, .slice none 0 0] 103))) := by
    have hB : Below w.heap.size w ((((w.alloc (.cells #[.slice none 0 0] 36)).alloc (.cells #[.bool false] 4)).alloc (.cells #[.int .i64 0] 24)).alloc (.cells #[.slice none 0 0, .slice none 0 0, .slice none 0 0, .slice none 0 0, .slice none 0 0, .slice none 0 0, .slice none 0 0, .slice none 0 0] 103)) :=
      ((((Below.refl _ w).alloc (Nat.le_refl _) _).alloc (by simp) _).alloc (by simp; omega) _).alloc (by simp; omega) _
    have a0 := (((Boxed.new w 36 (.slice none 0 0)).alloc (.cells #[.bool false] 4)).alloc (.cells #[.int .i64 0] 24)).alloc (.cells #[.slice none 0 0, .slice none 0 0, .slice none 0 0, .slice none 0 0, .slice none 0 0, .slice none 0 0, .slice none 0 0, .slice none 0 0] 103)
    have a1 := ((Boxed.new (w.alloc (.cells #[.slice none 0 0] 36)) 4 (.bool false)).alloc (.cells #[.int .i64 0] 24)).alloc (.cells #[.slice none 0 0, .slice none 0 0, .slice none 0 0, .slice none 0 0, .slice none 0 0, .slice none 0 0, .slice none 0 0, .slice none 0 0] 103)
    have a2 := (Boxed.new ((w.alloc (.cells #[.slice none 0 0] 36)).alloc (.cells #[.bool false] 4)) 24 (.int .i64 0)).alloc (.cells #[.slice none 0 0, .slice none 0 0, .slice none 0 0, .slice none 0 0, .slice none 0 0, .slice none 0 0, .slice none 0 0, .slice none 0 0] 103)
    have a3 := World.alloc_heap_new (((w.alloc (.cells #[.slice none 0 0] 36)).alloc (.cells #[.bool false] 4)).alloc (.cells #[.int .i64 0] 24)) (.cells #[.slice none 0 0, .slice none 0 0, .slice none 0 0, .slice none 0 0, .slice none 0 0, .slice none 0 0, .slice none 0 0, .slice none 0 0] 103)
    simp only [World.size_alloc] at a1 a2 a3
    exact ⟨⟨_, a3, rfl, fun j hj => by omega⟩, a0, a1, a2, hW.below hB, hB⟩
  have HG := hid G
  have HS := hid S
  have Hf := hid hf
  clear G S hf hW
  go_enter_defers Try.func83, Try.ntmps83
  go_wp2_with fail
  go_loopw [8] (fun i wr => ∃ k : Nat, k ≤ 8 ∧ i = .int .i64 (k : Int) ∧ Hid (∀ j, j < k → (f j).length ≤ 30) ∧ Hid (GrowInv w Bw Bm b off cap N zs T f k wr)) (fun i _ => 8 - (intOf i).toNat)
  case atStart => exact ⟨0, by omega, rfl, fun j hj => by omega, hI0⟩
  case round =>
    obtain ⟨k, hk, rfl, hle, hI⟩ := hrel
    by_cases hlt : k < 8
    · have hlt' : (k : Int) < 8 := by omega
      have hC := grown_nil zs HG.out T h HS.out Bw Bm b off cap N (Hf.out k hlt) (by omega) wr hI.out.web
      by_cases h30 : (f k).length ≤ 30
      · have hC' := hid (hC.mono (R' := fun e w' => Below wr.heap.size wr w' ∧ ∃ v, e = .returned v ∧ New wr.heap.size w' v (f k)) (fun e w' hA => ⟨hA.1, hA.2.elim (fun h => h.2) (fun h => absurd h.1 (by omega))⟩))
        have hle' := hid (show ∀ j, j < k + 1 → (f j).length ≤ 30 from fun j hj => if e : j = k then e ▸ h30 else hle.out j (by omega))
        have hsz : w.heap.size + 1 + 1 + 1 + 1 ≤ wr.heap.size := by
          obtain ⟨cs, hblk, _⟩ := hI.out.arr
          have := (Array.getElem?_eq_some_iff.1 hblk).1
          omega
        clear hC h30 hle
        go_wp2_with (first
          | (go_at_call 90; refine hC'.out.mono ?_; clear hC'; rintro e w1 ⟨hB1, v, rfl, hN1⟩; obtain ⟨av, nv, cv, rfl⟩ := hN1.slice3; have hI1 := hid (hI.out.below hB1); obtain ⟨x1, cA, fA⟩ := hI1.out.cellA hlt))
        go_roundw
        case rel => exact ⟨k + 1, by omega, by go_num, hle', hid (hI1.out.set hlt ⟨wl, ml⟩ hbl hN1 hsz)⟩
        case measure => simp [intOf]; omega
      · have hC' := hid (hC.mono (R' := fun e w' => Below wr.heap.size wr w' ∧ e = .panicked manyChain) (fun e w' hA => ⟨hA.1, hA.2.elim (fun h => absurd h.1 h30) (fun h => h.2)⟩))
        clear hC
        go_wp2_with (first
          | (go_at_call 90; refine hC'.out.mono ?_; clear hC'; rintro e w1 ⟨hB1, rfl⟩))
        have hI1 := hI.out.below hB1
        refine leaves_cons (f := 89) (args := #[.pointer (some ⟨w.heap.size, 0, none⟩), .pointer (some ⟨w.heap.size + 1, 0, none⟩), .pointer (some ⟨w.heap.size + 1 + 1, 0, none⟩)]) (by simp) (by simp [go_sem]) ?_
        refine (grow_caught w.heap.size w1 hI1.b0 hI1.b1 hI1.b2).mono ?_
        rintro e u' w2 ⟨rfl, rfl, hB2, d0, d1, d2⟩
        exact ⟨_, results_box3 rfl rfl rfl rfl d0.cell d1.cell d2.cell, hI1.bl.trans hB2, .inr ⟨⟨k, hlt, by omega⟩, rfl⟩⟩
    · obtain rfl : k = 8 := by omega
      have e0 := hI.out.b0.cell
      have e1 := hI.out.b1.cell
      have e2 := hI.out.b2.cell
      have f0 := hI.out.b0.frozen
      have f1 := hI.out.b1.frozen
      have f2 := hI.out.b2.frozen
      go_wp2
      refine leaves_cons (f := 89) (args := #[.pointer (some ⟨w.heap.size, 0, none⟩), .pointer (some ⟨w.heap.size + 1, 0, none⟩), .pointer (some ⟨w.heap.size + 1 + 1, 0, none⟩)]) (by simp) (by simp [go_sem]) ?_
      refine (grow_idle ⟨w.heap.size, 0, none⟩ ⟨w.heap.size + 1, 0, none⟩ ⟨w.heap.size + 1 + 1, 0, none⟩ _).mono ?_
      rintro e u' w2 ⟨rfl, rfl, rfl⟩
      have hI1 := hI.out
      have d0 := ((hI1.b0.set (.slice (some ⟨w.heap.size + 1 + 1 + 1, 0, none⟩) 8 8)).other (B' := w.heap.size + 1) (by omega) (.bool true)).other (B' := w.heap.size + 1 + 1) (by omega) (.int .i64 0)
      have d1 := ((hI1.b1.other (B' := w.heap.size) (by omega) (.slice (some ⟨w.heap.size + 1 + 1 + 1, 0, none⟩) 8 8)).set (.bool true)).other (B' := w.heap.size + 1 + 1) (by omega) (.int .i64 0)
      have d2 := ((hI1.b2.other (B' := w.heap.size) (by omega) (.slice (some ⟨w.heap.size + 1 + 1 + 1, 0, none⟩) 8 8)).other (B' := w.heap.size + 1) (by omega) (.bool true)).set (.int .i64 0)
      refine ⟨_, results_box3 rfl rfl rfl rfl d0.cell d1.cell d2.cell, ?_, .inl ⟨hle.out, _, rfl, ?_⟩⟩
      · exact ((hI1.bl.setCell (p := ⟨w.heap.size, 0, none⟩) (Nat.le_refl _) _).setCell (p := ⟨w.heap.size + 1, 0, none⟩) (by show w.heap.size ≤ w.heap.size + 1; omega) _).setCell (p := ⟨w.heap.size + 1 + 1, 0, none⟩) (by show w.heap.size ≤ w.heap.size + 1 + 1; omega) _
      · refine hI1.subs (fun q hq => ?_) ?_
        · exact ((Below.heap_setCell _ ⟨w.heap.size + 1 + 1, 0, none⟩ _ q (show q ≠ w.heap.size + 1 + 1 by omega)).trans (Below.heap_setCell _ ⟨w.heap.size + 1, 0, none⟩ _ q (show q ≠ w.heap.size + 1 by omega))).trans (Below.heap_setCell _ ⟨w.heap.size, 0, none⟩ _ q (show q ≠ w.heap.size by omega))
        · exact Nat.le_trans (Nat.le_trans (KeepsWalks.setCell wr _ _).size (KeepsWalks.setCell _ _ _).size) (KeepsWalks.setCell _ _ _).size

end Go.Proofs.Ytbelnlemjcoifaa

namespace Go.Proofs.Ytbelnlemjcoifaa
open Go.Proofs Go.RowKit Go.Shelf Go.Maps

theorem run_append_any (w : World) (ty : TypeId) (base : Nat) (v : Value) (xs : List Int) (hN : New base w v xs) (ad : Addr) (ys : List Int) (c : Nat) (hI : Ints w.heap.size w (some ad) ys) (hlen : xs.length + ys.length ≤ 1000000) (hbase : base ≤ w.heap.size) :
    ∃ v' w', (Builtin.append_ #[23, 23] ty #[v, .slice (some ad) ys.length c]).run Try.prog w = .ok v' w' ∧ New base w' v' (xs ++ ys) ∧ w.grownBy w' v.ownBlock ∧ (v'.ownBlock = v.ownBlock ∨ v'.ownBlock = some w.heap.size) := by
  obtain ⟨i0, hi, hz0, hz1, hz2⟩ := info_parts Try.info3
  have hc := hI.news
  have h1 : ∀ u ∈ ys.map (Value.int .i64), u.oneCell' = true := by intro u hu; simp at hu; obtain ⟨z, _, rfl⟩ := hu; rfl
  obtain ⟨v', w', hr, r1, r2, r3⟩ := run_append_own (P := Try.prog) w base 23 ty 3 i0 (.int .i64 0) 1 8 Try.underlying23 hi hz0 hz1 hz2 rfl (by decide) v xs.length (xs.map (Value.int .i64)) hN ad ys.length c (ys.map (Value.int .i64)) (by simp) hc h1 (by unfold maxLen; omega) (by omega) hbase
  refine ⟨v', w', hr, by simpa [New] using r1, r2, ?_⟩
  have hsz : i0.size = 1 := hz1
  have hby : i0.bytes = 8 := hz2
  rcases hN.2 with ⟨rfl, h0⟩ | ⟨g, cap, cur, rfl, hbg, hg, hnc, hcm, hcs, htake⟩
  · by_cases hm : ys.length = 0
    · rw [r3.2 ⟨rfl, hm⟩]
      exact .inl rfl
    · have hr2 := run_append_nil (P := Try.prog) w 23 ty 3 i0 (.int .i64 0) Try.underlying23 hi hz0 ad ys.length c (ys.map (Value.int .i64)) (by simp [hsz]) hc (by omega) (by omega) (by rw [hby]; omega)
      rw [hr] at hr2
      cases hr2
      exact .inr rfl
  · by_cases hroom : xs.length + ys.length ≤ cap
    · have hfit : xs.length * i0.size + (ys.map (Value.int .i64)).length ≤ cur.size := by rw [hcs, hsz]; simp; omega
      have hr2 := run_append_room (P := Try.prog) w 23 ty 3 i0 Try.underlying23 hi g xs.length cap cur hg ad ys.length c (ys.map (Value.int .i64)) (by simp [hsz]) hc h1 hroom hfit
      rw [hr] at hr2
      cases hr2
      exact .inl rfl
    · have hr2 := run_append_grow (P := Try.prog) w 23 ty 3 i0 (.int .i64 0) Try.underlying23 hi hz0 ⟨g, 0, none⟩ xs.length cap (xs.map (Value.int .i64)) (by simp [hsz]) (World.ownsRow.cells hN (g := g) rfl) ad ys.length c (ys.map (Value.int .i64)) (by simp [hsz]) hc (by omega) (by omega) (growslice_fits (by omega) (by rw [hby]; omega))
      rw [hr] at hr2
      cases hr2
      exact .inr rfl

theorem wp_append_own3 {ops : Array Oper} {rest : List Oper} {o : Oper} {a : Act} {Q : Exit → Act → World → Prop} (w : World) (hgd : o.guard = none) (s x : Operand)
    (ho : o.op = .call { callee := .builtin .append, args := #[s, x], argTypes := #[23, 23] }) (base : Nat) (v : Value) (xs : List Int) (hs : a.eval s = v) (hN : New base w v xs)
    (ao : Option Addr) (ys : List Int) (c : Nat) (hx : a.eval x = .slice ao ys.length c) (hn : ao = none → ys.length = 0 ∧ c = 0) (hI : Ints w.heap.size w ao ys) (hlen : xs.length + ys.length ≤ 1000000) (hbase : base ≤ w.heap.size)
    (h : ∀ v' w', New base w' v' (xs ++ ys) → w.grownBy w' v.ownBlock → (v'.ownBlock = v.ownBlock ∨ v'.ownBlock = some w.heap.size) → wpList Try.prog ops Q rest (a.put o.dst v') w') : wpList Try.prog ops Q (o :: rest) a w := by
  cases ao with
  | none =>
    obtain ⟨i0, hi, hz0, hz1, hz2⟩ := info_parts Try.info3
    obtain ⟨h0, rfl⟩ := hn rfl
    obtain rfl : ys = [] := List.eq_nil_of_length_eq_zero h0
    exact wpList_append_own_none hgd s x 23 ho base 3 i0 1 Try.underlying23 hi v xs.length (xs.map (Value.int .i64)) hs hN hx (h v w (by simpa using hN) ⟨rfl, rfl, rfl, Nat.le_refl _, fun _ _ _ => rfl⟩ (.inl rfl))
  | some ad =>
    refine wpList_plain hgd fun _ hK => ?_
    obtain ⟨v', w', hr, h2, h3, h4⟩ := run_append_any w o.type base v xs hN ad ys c hI hlen hbase
    unfold Oper.wp execOp
    simp only [ho, resolve, invoke, builtin, Sem.run_bind, Sem.run_pure, Result.andThen_ok, List.map_toArray, List.map_cons, List.map_nil, hs, hx, hr]
    exact hK _ _ (h v' w' h2 h3 h4)

set_option maxRecDepth 100000 in
set_option maxHeartbeats 1000000 in
theorem lay_own (zs t : List Int) (Bw Bm : Nat) (v : Value) (at' : Option Addr) (ct : Nat) (w : World) (hO : OwnWeb w Bw Bm v zs) (hT : Ints w.heap.size w at' t) (hct : at' = none → t.length = 0 ∧ ct = 0) (hl : zs.length + t.length ≤ 5000) :
    Calls Try.prog 81 #[.pointer (some ⟨Bw, 0, none⟩), .slice at' t.length ct] w fun e w' => e = .returned (.int .i64 (zs.length : Int)) ∧ ∃ v', OwnWeb w' Bw Bm v' (zs ++ t) ∧ w'.os = w.os ∧ w'.tape = w.tape ∧ w'.output = w.output ∧ w.heap.size ≤ w'.heap.size ∧
      (∀ k, v'.ownBlock = some k → v.ownBlock = some k ∨ w.heap.size ≤ k) ∧ ∀ k, k < w.heap.size → k ≠ Bw → some k ≠ v.ownBlock → w'.heap[k]? = w.heap[k]? := by
  obtain ⟨hw, hN⟩ := hO
  have hlt : Bw < w.heap.size := (Array.getElem?_eq_some_iff.1 hw).1
  have hc0 : w.cell? ⟨Bw, 0, none⟩ = some v := (cell_at hw 0).trans rfl
  have hf0 : w.frozen? ⟨Bw, 0, none⟩ = false := by simp only [World.frozen?]; rw [hw]; simp
  obtain ⟨a0, c0, rfl, _⟩ := New.ints hN
  have hown : ∀ k, (Value.slice a0 zs.length c0).ownBlock = some k → Bw + 1 ≤ k := fun k e => (World.ownsRow.lt hN k e).1
  have hz : (zs.length : Int) ≤ 5000 := by omega
  go_enter Try.func81, Try.ntmps81
  go_wp2_with (first
    | (at_builtin; go_loud (refine wp_append_own3 _ rfl _ _ rfl (Bw + 1) _ zs rfl hN at' t ct rfl hct hT (by omega) (by omega) ?_); intro v' w2 hN2 hg2 ho2; have hw2 : w2.heap[Bw]? = some (.cells #[.slice a0 zs.length c0, .map (some Bm)] 101 (0, 0)) := (hg2.block Bw hlt (fun e => by have := hown Bw e.symm; omega)).trans hw; have hc2 : w2.cell? ⟨Bw, 0, none⟩ = some (.slice a0 zs.length c0) := (cell_at hw2 0).trans rfl; have hf2 : w2.frozen? ⟨Bw, 0, none⟩ = false := (by simp only [World.frozen?]; rw [hw2]; simp); obtain ⟨a2, c2, rfl, _⟩ := New.ints hN2))
  go_ret
  have hown2 : ∀ k, (Value.slice a2 (zs ++ t).length c2).ownBlock = some k → Bw + 1 ≤ k := fun k e => (World.ownsRow.lt hN2 k e).1
  refine ⟨rfl, .slice a2 (zs ++ t).length c2, ⟨?_, ?_⟩, hg2.os, hg2.tape, hg2.output, Nat.le_trans hg2.size (KeepsWalks.setCell w2 _ _).size, fun k e => ho2.elim (fun h => .inl (h ▸ e)) (fun h => .inr (by rw [h] at e; cases e; exact Nat.le_refl _)), fun k hk hn ho => (Below.heap_setCell w2 ⟨Bw, 0, none⟩ _ k hn).trans (hg2.block k hk ho)⟩
  · obtain ⟨hlt', hk⟩ := Array.getElem?_eq_some_iff.1 hw2
    rw [List.length_append]
    show (w2.heap.modify Bw _)[Bw]? = _
    rw [Array.getElem?_eq_getElem (by rw [Array.size_modify]; exact hlt'), Array.getElem_modify_self, hk]
    rfl
  · refine World.ownsRow.kept hN2 (grownBy_setCell1 w2 Bw 0 _) ?_
    cases e : (Value.slice a2 (zs ++ t).length c2).ownBlock with
    | none => exact .inl rfl
    | some k => exact .inr (by have := hown2 k e; simp; omega)

end Go.Proofs.Ytbelnlemjcoifaa

namespace Go.Proofs.Ytbelnlemjcoifaa
open Go.Proofs Go.RowKit Go.Shelf Go.Maps

namespace Wb
theorem rt_ext (zs t : List Int) (h : Nat → Nat) : rt (zs ++ t) h ≤ rt zs h + t.length := by
  unfold rt
  rw [List.length_append, List.range_add, List.filter_append, List.length_append]
  have h2 : ((List.map (fun x => zs.length + x) (List.range t.length)).filter fun p => decide (can (zs ++ t) p = p ∧ h p = p)).length ≤ t.length := by
    refine Nat.le_trans (List.length_filter_le _ _) ?_
    simp
  have h1 : ((List.range zs.length).filter fun p => decide (can (zs ++ t) p = p ∧ h p = p)) = (List.range zs.length).filter fun p => decide (can zs p = p ∧ h p = p) := by
    refine List.filter_congr fun p hp => ?_
    rw [can_ext (List.mem_range.1 hp)]
  rw [h1]
  omega
end Wb

/-- BLOCK Bw IS A WEB whose signs zs are its own, with who stands for whom. -/
structure FW (W : World) (Bw Bm : Nat) (v : Value) (zs : List Int) (h : Nat → Nat) : Prop where
  own : OwnWeb W Bw Bm v zs
  tied : ∃ T N M, Wb.St zs T h ∧ IntMap W Bm N M ∧ (∀ p : Nat, M (p : Int) = (T p).map fun q => .int .i64 (q : Int)) ∧ N + Wb.rt zs h ≤ zs.length
theorem FW.st {W : World} {Bw Bm : Nat} {v : Value} {zs : List Int} {h : Nat → Nat} (H : FW W Bw Bm v zs h) (h0 : 0 < zs.length) : ∃ b cap, v = .slice (some ⟨b, 0, none⟩) zs.length cap ∧ WSt W Bw Bm (some ⟨b, 0, none⟩) cap zs h := by
  obtain ⟨⟨hw, hN⟩, T, N, M, S, hM, hT, hn⟩ := H
  obtain ⟨a, c', e, hI, _⟩ := New.ints hN
  rcases hN.2 with ⟨rfl, h1⟩ | ⟨g, c, cur, rfl, _⟩
  · omega
  · cases e
    exact ⟨g, c', rfl, T, N, S, ⟨hw, hI, M, hM, hT⟩, hn⟩
theorem FW.lt {W : World} {Bw Bm : Nat} {v : Value} {zs : List Int} {h : Nat → Nat} (H : FW W Bw Bm v zs h) : Bw < W.heap.size ∧ Bm < W.heap.size := by
  obtain ⟨⟨hw, hN⟩, T, N, M, S, hM, hT, hn⟩ := H
  exact ⟨(Array.getElem?_eq_some_iff.1 hw).1, hM.lt⟩
theorem own_not_map {base : Nat} {X : World} {v : Value} {xs : List Int} {k : Nat} (hN : New base X v xs) {es : Array (MapEntry)} {ck : Nat} (hm : X.heap[k]? = some (.map es ck)) : some k ≠ v.ownBlock := fun e => by
  obtain ⟨o, ho, hc⟩ := own_cells hN e.symm
  rw [hm] at ho
  cases ho
  cases hc

/-- What a call leaves of all that is older than it, but the web. -/
def WKeep (w w' : World) (Bw Bm : Nat) (v : Value) : Prop := w'.os = w.os ∧ w'.tape = w.tape ∧ w'.output = w.output ∧ w.heap.size ≤ w'.heap.size ∧ ∀ k, k < w.heap.size → k ≠ Bw → k ≠ Bm → some k ≠ v.ownBlock → w'.heap[k]? = w.heap[k]?
theorem fw_lay (zs t : List Int) (h : Nat → Nat) (Bw Bm : Nat) (v : Value) (at' : Option Addr) (ct : Nat) (w : World) (H : FW w Bw Bm v zs h) (hT : Ints w.heap.size w at' t) (hct : at' = none → t.length = 0 ∧ ct = 0) (hl : zs.length + t.length ≤ 5000) :
    Calls Try.prog 81 #[.pointer (some ⟨Bw, 0, none⟩), .slice at' t.length ct] w fun e w' => e = .returned (.int .i64 (zs.length : Int)) ∧ ∃ v', FW w' Bw Bm v' (zs ++ t) h ∧ WKeep w w' Bw Bm v ∧ ∀ k, v'.ownBlock = some k → v.ownBlock = some k ∨ w.heap.size ≤ k := by
  obtain ⟨hO, T, N, M, S, hM, hMT, hn⟩ := H
  refine (lay_own zs t Bw Bm v at' ct w hO hT hct hl).mono ?_
  rintro e w' ⟨rfl, v', hO', h1, h2, h3, h4, ho, hk⟩
  obtain ⟨es, ck, hmap⟩ := hM.map
  have hne : Bm ≠ Bw := fun e => by
    have := hO.1
    rw [← e, hmap] at this
    cases this
  refine ⟨rfl, v', ⟨hO', T, N, M, S.ext, hM.keep (hk Bm hM.lt hne (own_not_map hO.2 hmap)), hMT, ?_⟩, ⟨h1, h2, h3, h4, fun k hk' n1 _ n3 => hk k hk' n1 n3⟩, ho⟩
  have := Wb.rt_ext zs t h
  rw [List.length_append]
  omega

/-- (*web).tie of a web of its own. -/
theorem fw_tie (zs : List Int) (G : Wb.Good zs) (h : Nat → Nat) (Bw Bm : Nat) (v : Value) (one other : Nat) (w : World) (h1 : one < zs.length) (h2 : other < zs.length) (H : FW w Bw Bm v zs h) :
    Calls Try.prog 80 #[.pointer (some ⟨Bw, 0, none⟩), .int .i64 (one : Int), .int .i64 (other : Int)] w fun e w' => ∃ q, e = .returned (.bool q) ∧ Keep w.heap.size Bm w w' ∧
      ((q = true ∧ ∃ h', Wb.TieL zs h h' [(one, other)] ∧ FW w' Bw Bm v zs h') ∨ (q = false ∧ Wb.No zs h [(one, other)])) := by
  obtain ⟨b, cap, rfl, hSt⟩ := H.st (by omega)
  obtain ⟨hO, T, N, M, S, hM, hMT, hn⟩ := H
  obtain ⟨es, ck, hmap⟩ := hM.map
  refine (tieQ (tie_all zs G Bw Bm b 0 cap _ h (Nat.le_refl _) one other w h1 h2 hSt)).mono ?_
  rintro e w' ⟨q, rfl, hK, hq⟩
  refine ⟨q, rfl, hK, ?_⟩
  rcases hq with ⟨rfl, h', hL, ⟨T', N', S', hW', hn'⟩, _⟩ | ⟨rfl, hNo⟩
  · obtain ⟨M', hM', hMT'⟩ := hW'.ties
    refine .inl ⟨rfl, h', hL, ⟨⟨hW'.web, ?_⟩, T', N', M', S', hM', hMT', hn'⟩⟩
    rcases hO.2.2 with ⟨e, _⟩ | ⟨g, c, cur, e, hb, hg, h4⟩
    · cases e
    · refine ⟨hO.2.1, .inr ⟨g, c, cur, e, hb, ?_, h4⟩⟩
      exact (hK.block g (Array.getElem?_eq_some_iff.1 hg).1 (fun e => by rw [e, hmap] at hg; cases hg)).trans hg
  · exact .inr ⟨rfl, hNo⟩

end Go.Proofs.Ytbelnlemjcoifaa
