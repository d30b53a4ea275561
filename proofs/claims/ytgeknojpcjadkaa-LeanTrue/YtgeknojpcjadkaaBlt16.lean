/-
  Parts of the proof: Rul10, Rul11.
-/
import Derived.Test.YtgeknojpcjadkaaBlt15
import Derived.Test.YtgeknojpcjadkaaBlt7
import Derived.Test.YtgeknojpcjadkaaBlt11
namespace Go.Proofs.Ytgeknojpcjadkaa
open Go.Proofs Go.RowKit Go.Shelf Go.Maps
theorem box2_ret {fn : Func} {tmps : Array Value} {W : World} {a b B : Nat} {q : Int} (h : fn.results = #[.cell a 50, .cell b 31]) (ha : tmps.getD a undef = .pointer (some ⟨B, 0, none⟩)) (hb : tmps.getD b undef = .pointer (some ⟨B + 1, 0, none⟩)) (b0 : Boxed W B 50 (.slice none 0 0)) (b1 : Boxed W (B + 1) 31 (.int .i64 0)) :
    (results fn tmps).run Try.prog ((W.setCell ⟨B, 0, none⟩ (.slice none 0 0)).setCell ⟨B + 1, 0, none⟩ (.int .i64 q)) = .ok (.tuple #[.slice none 0 0, .int .i64 q]) ((W.setCell ⟨B, 0, none⟩ (.slice none 0 0)).setCell ⟨B + 1, 0, none⟩ (.int .i64 q)) := by
  have b1' : Boxed (W.setCell ⟨B, 0, none⟩ (.slice none 0 0)) (B + 1) 31 (.int .i64 0) := (Below.heap_setCell W ⟨B, 0, none⟩ _ (B + 1) (by show B + 1 ≠ B; omega)).trans b1
  have b0' : Boxed ((W.setCell ⟨B, 0, none⟩ (.slice none 0 0)).setCell ⟨B + 1, 0, none⟩ (.int .i64 q)) B 50 (.slice none 0 0) := (Below.heap_setCell _ ⟨B + 1, 0, none⟩ _ B (by show B ≠ B + 1; omega)).trans (b0.set _)
  exact results_box2 h ha hb b0'.cell (b1'.set _).cell
set_option maxRecDepth 100000 in
set_option maxHeartbeats 2000000 in
theorem steps_any (rs : RuleL) (t : List Int) (al at' : Option Addr) (cl ct : Nat) (w : World) (hR : RulesAt w.heap.size w al rs) (hT : Ints w.heap.size w at' t) (h1 : t.length ≤ ct) (h2 : ct ≤ maxLen) :
    Calls Try.prog 22 #[.slice al rs.length cl, .slice at' t.length ct] w fun e w' => StepsAns rs t w e w' := by
  by_cases hr : Tm.rulesErr rs = 0
  · by_cases ht : Tm.err t = 0
    · exact steps_right rs t al at' cl ct w hr ht hR hT h1 h2
    · have e1 : Tm.stepErr rs t = Tm.err t := by unfold Tm.stepErr; rw [if_pos hr, if_neg ht]
      have e2 : Tm.stepVal rs t = [] := by unfold Tm.stepVal; rw [e1, if_neg ht]
      unfold StepsAns
      rw [e1, e2]
      clear e1 e2
      obtain ⟨W4, hW4⟩ : ∃ W4, (((w.alloc (.cells #[.slice al rs.length cl] 22)).alloc (.cells #[.slice at' t.length ct] 37)).alloc (.cells #[.slice none 0 0] 50)).alloc (.cells #[.int .i64 0] 31) = W4 := ⟨_, rfl⟩
      obtain ⟨hB4, bL, bT, b0, b1, hs4⟩ := steps_boxes w W4 al at' rs.length cl t.length ct hW4
      have HW4 := hid hW4
      clear hW4
      have cL4 := bL.cell
      have C1 := hid (rulesCheck_any rs al cl W4 ((hR.below hB4).mono hB4.size))
      rw [hr] at C1
      have C2 := hid (fun W (hW : Below W4.heap.size W4 W) => check_any t at' ct W ((hT.below (hB4.trans (hW.mono hB4.size))).mono (Nat.le_trans hB4.size hW.size)))
      have hne : (Tm.err t != 0) = true := by simpa using ht
      clear hr ht hR hT
      generalize Tm.err t = q at *
      go_enter Try.func22, Try.ntmps22
      go_wp2_with fail
      rw [HW4.out]
      go_wp2_with (first
        | (go_at_call 36; refine C1.out.mono ?_; rintro e w1 ⟨rfl, hB1⟩; have cT1 := (hB1.cell (p := ⟨w.heap.size + 1, 0, none⟩) (by show w.heap.size + 1 < _; omega)).trans bT.cell)
        | (go_at_call 53; refine (C2.out w1 hB1).mono ?_; rintro e w2 ⟨rfl, hB2⟩; have hB12 := hB1.trans (hB2.mono hB1.size); have b08 : Boxed w2 (w.heap.size + 1 + 1) 50 (.slice none 0 0) := (hB12.block _ b0.lt).trans b0; have b18 : Boxed w2 (w.heap.size + 1 + 1 + 1) 31 (.int .i64 0) := (hB12.block _ b1.lt).trans b1; have k0 := b08.cell; have k1 := b18.cell; have f0 := b08.frozen; have f1 := b18.frozen; have b18' : Boxed (w2.setCell ⟨w.heap.size + 1 + 1, 0, none⟩ (.slice none 0 0)) (w.heap.size + 1 + 1 + 1) 31 (.int .i64 0) := (Below.heap_setCell w2 ⟨w.heap.size + 1 + 1, 0, none⟩ _ (w.heap.size + 1 + 1 + 1) (by show w.heap.size + 1 + 1 + 1 ≠ w.heap.size + 1 + 1; omega)).trans b18; have k1' := b18'.cell; have f1' := b18'.frozen))
      refine bodyPost_ret (box2_ret rfl rfl rfl b08 b18) rfl ?_
      have hb := hB4.trans (hB12.mono hB4.size)
      exact ⟨_, rfl, NewT.nil _ _, (hb.setCell (p := ⟨w.heap.size + 1 + 1, 0, none⟩) (by show w.heap.size ≤ w.heap.size + 1 + 1; omega) _).setCell (p := ⟨w.heap.size + 1 + 1 + 1, 0, none⟩) (by show w.heap.size ≤ w.heap.size + 1 + 1 + 1; omega) _⟩
  · have e1 : Tm.stepErr rs t = Tm.rulesErr rs := by unfold Tm.stepErr; rw [if_neg hr]
    have e2 : Tm.stepVal rs t = [] := by unfold Tm.stepVal; rw [e1, if_neg hr]
    unfold StepsAns
    rw [e1, e2]
    clear e1 e2
    obtain ⟨W4, hW4⟩ : ∃ W4, (((w.alloc (.cells #[.slice al rs.length cl] 22)).alloc (.cells #[.slice at' t.length ct] 37)).alloc (.cells #[.slice none 0 0] 50)).alloc (.cells #[.int .i64 0] 31) = W4 := ⟨_, rfl⟩
    obtain ⟨hB4, bL, bT, b0, b1, hs4⟩ := steps_boxes w W4 al at' rs.length cl t.length ct hW4
    have HW4 := hid hW4
    clear hW4
    have cL4 := bL.cell
    have C1 := hid (rulesCheck_any rs al cl W4 ((hR.below hB4).mono hB4.size))
    have hne : (Tm.rulesErr rs != 0) = true := by simpa using hr
    clear hr hR hT
    generalize Tm.rulesErr rs = q at *
    go_enter Try.func22, Try.ntmps22
    go_wp2_with fail
    rw [HW4.out]
    go_wp2_with (first
      | (go_at_call 36; refine C1.out.mono ?_; rintro e w2 ⟨rfl, hB12⟩; have b08 : Boxed w2 (w.heap.size + 1 + 1) 50 (.slice none 0 0) := (hB12.block _ b0.lt).trans b0; have b18 : Boxed w2 (w.heap.size + 1 + 1 + 1) 31 (.int .i64 0) := (hB12.block _ b1.lt).trans b1; have k0 := b08.cell; have k1 := b18.cell; have f0 := b08.frozen; have f1 := b18.frozen; have b18' : Boxed (w2.setCell ⟨w.heap.size + 1 + 1, 0, none⟩ (.slice none 0 0)) (w.heap.size + 1 + 1 + 1) 31 (.int .i64 0) := (Below.heap_setCell w2 ⟨w.heap.size + 1 + 1, 0, none⟩ _ (w.heap.size + 1 + 1 + 1) (by show w.heap.size + 1 + 1 + 1 ≠ w.heap.size + 1 + 1; omega)).trans b18; have k1' := b18'.cell; have f1' := b18'.frozen))
    refine bodyPost_ret (box2_ret rfl rfl rfl b08 b18) rfl ?_
    have hb := hB4.trans (hB12.mono hB4.size)
    exact ⟨_, rfl, NewT.nil _ _, (hb.setCell (p := ⟨w.heap.size + 1 + 1, 0, none⟩) (by show w.heap.size ≤ w.heap.size + 1 + 1; omega) _).setCell (p := ⟨w.heap.size + 1 + 1 + 1, 0, none⟩) (by show w.heap.size ≤ w.heap.size + 1 + 1 + 1; omega) _⟩
def groupL : RuleL := [([4, 0, -1], [-1]), ([4, 2, -1, -1], [0]), ([4, 4, -1, -2, -3], [4, -1, 4, -2, -3])]
def sixL : List (List Int) := [[4, 0, -1], [-1], [4, 2, -1, -1], [0], [4, 4, -1, -2, -3], [4, -1, 4, -2, -3]]
theorem group_lit (w : World) : RulesAt ((allocs w sixL).alloc (.cells #[.slice (some ⟨w.heap.size, 0, none⟩) 3 3, .slice (some ⟨w.heap.size + 1, 0, none⟩) 1 1, .slice (some ⟨w.heap.size + 1 + 1, 0, none⟩) 4 4, .slice (some ⟨w.heap.size + 1 + 1 + 1, 0, none⟩) 1 1, .slice (some ⟨w.heap.size + 1 + 1 + 1 + 1, 0, none⟩) 5 5, .slice (some ⟨w.heap.size + 1 + 1 + 1 + 1 + 1, 0, none⟩) 5 5] 39)).heap.size ((allocs w sixL).alloc (.cells #[.slice (some ⟨w.heap.size, 0, none⟩) 3 3, .slice (some ⟨w.heap.size + 1, 0, none⟩) 1 1, .slice (some ⟨w.heap.size + 1 + 1, 0, none⟩) 4 4, .slice (some ⟨w.heap.size + 1 + 1 + 1, 0, none⟩) 1 1, .slice (some ⟨w.heap.size + 1 + 1 + 1 + 1, 0, none⟩) 5 5, .slice (some ⟨w.heap.size + 1 + 1 + 1 + 1 + 1, 0, none⟩) 5 5] 39)) (some ⟨w.heap.size + 1 + 1 + 1 + 1 + 1 + 1, 0, none⟩) groupL ∧
    Below w.heap.size w ((allocs w sixL).alloc (.cells #[.slice (some ⟨w.heap.size, 0, none⟩) 3 3, .slice (some ⟨w.heap.size + 1, 0, none⟩) 1 1, .slice (some ⟨w.heap.size + 1 + 1, 0, none⟩) 4 4, .slice (some ⟨w.heap.size + 1 + 1 + 1, 0, none⟩) 1 1, .slice (some ⟨w.heap.size + 1 + 1 + 1 + 1, 0, none⟩) 5 5, .slice (some ⟨w.heap.size + 1 + 1 + 1 + 1 + 1, 0, none⟩) 5 5] 39)) := by
  have hs := allocs_size sixL w
  have hb := allocs_below sixL w
  have hi := allocs_ints sixL w
  have h6 : sixL.length = 6 := rfl
  rw [h6] at hs hi
  obtain ⟨W6, hW⟩ : ∃ W6, allocs w sixL = W6 := ⟨_, rfl⟩
  rw [hW] at hs hb hi ⊢
  obtain ⟨C, hC⟩ : ∃ C : Array Value, #[.slice (some ⟨w.heap.size, 0, none⟩) 3 3, .slice (some ⟨w.heap.size + 1, 0, none⟩) 1 1, .slice (some ⟨w.heap.size + 1 + 1, 0, none⟩) 4 4, .slice (some ⟨w.heap.size + 1 + 1 + 1, 0, none⟩) 1 1, .slice (some ⟨w.heap.size + 1 + 1 + 1 + 1, 0, none⟩) 5 5, .slice (some ⟨w.heap.size + 1 + 1 + 1 + 1 + 1, 0, none⟩) 5 5] = C := ⟨_, rfl⟩
  rw [hC]
  have blk := World.alloc_heap_new W6 (.cells C 39)
  have hb6 : Below W6.heap.size W6 (W6.alloc (.cells C 39)) := (Below.refl _ W6).alloc (Nat.le_refl _) _
  rw [hs] at blk hb6
  rw [World.size_alloc, hs]
  refine ⟨rulesAt_of blk (by omega) fun k hk => ?_, hb.trans (hb6.mono (by omega))⟩
  have hk' : k < 3 := hk
  have hx := fun i hi6 => ((hi i hi6).below hb6).mono (show w.heap.size + 6 ≤ w.heap.size + 6 + 1 by omega)
  subst hC
  match k, hk' with
  | 0, _ => exact ⟨_, _, rfl, rfl, hx 0 (by omega), hx 1 (by omega), by decide, by decide⟩
  | 1, _ => exact ⟨_, _, rfl, rfl, hx 2 (by omega), hx 3 (by omega), by decide, by decide⟩
  | 2, _ => exact ⟨_, _, rfl, rfl, hx 4 (by omega), hx 5 (by omega), by decide, by decide⟩
set_option maxRecDepth 100000 in
set_option maxHeartbeats 1000000 in
theorem group_any (w : World) : Calls Try.prog 44 #[] w fun e w' => ∃ a, e = .returned (.slice a 3 3) ∧ RulesAt w'.heap.size w' a groupL ∧ Below w.heap.size w w' := by
  have h := hid (group_lit w)
  go_enter Try.func44, Try.ntmps44
  go_wp2
  go_ret
  exact ⟨_, rfl, h.out.1, h.out.2⟩
theorem NewT.at {base : Nat} {W : World} {v : Value} {sts : StepL} (h : NewT base W v sts) (hp : 0 < sts.length) : ∃ g cap, v = .slice (some ⟨g, 0, none⟩) sts.length cap ∧ ∀ j, j < sts.length → ∃ ad c, W.cell? ⟨g, j * 3, none⟩ = some (.int .i64 ((sts[j]?.getD (0, 0, [])).1 : Int)) ∧ W.cell? ⟨g, j * 3 + 1, none⟩ = some (.int .i64 ((sts[j]?.getD (0, 0, [])).2.1 : Int)) ∧
    W.cell? ⟨g, j * 3 + 2, none⟩ = some (.slice ad (sts[j]?.getD (0, 0, [])).2.2.length c) ∧ Ints W.heap.size W ad (sts[j]?.getD (0, 0, [])).2.2 ∧ (sts[j]?.getD (0, 0, [])).2.2.length ≤ c ∧ c ≤ maxLen := by
  obtain ⟨us, h1, h2⟩ := h
  have hl : us.length = sts.length * 3 := h1.1
  rcases h1.2 with ⟨rfl, hn⟩ | ⟨g, cap, cur, rfl, r⟩
  · omega
  · refine ⟨g, cap, rfl, fun j hj => ?_⟩
    obtain ⟨u, q1, q2, q3, hN⟩ := h2 j hj
    obtain ⟨ad, c, rfl, hI, c1, c2⟩ := New.ints hN
    have cc := fun k hk => World.ownsRow.cellAt h1 k hk
    exact ⟨ad, c, by rw [cc _ (by omega), q1], by rw [cc _ (by omega), q2], by rw [cc _ (by omega), q3], hI, c1, c2⟩
end Go.Proofs.Ytgeknojpcjadkaa
