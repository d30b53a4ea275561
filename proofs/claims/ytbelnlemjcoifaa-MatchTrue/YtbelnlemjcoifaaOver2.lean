/-
  match.Over.
-/
import Derived.Test.YtbelnlemjcoifaaOver1
namespace Go.Proofs.Ytbelnlemjcoifaa
open Go.Proofs Go.RowKit Go.Shelf Go.Maps

attribute [local go_sem] Oper.semAt_some

/-- The places at which p fits, of some places. -/
def overL (t p : List Int) (l : List (PlaceOf t)) : List Int := (l.filter fun x => (Tm.fit p (Tm.part t x.1)).isSome).map fun x => (x.1 : Int)
theorem overL_no {t p : List Int} (l : List (PlaceOf t)) (x : PlaceOf t) (h : Tm.fit p (Tm.part t x.1) = none) : overL t p (l ++ [x]) = overL t p l := by
  simp [overL, List.filter_append, h]
theorem overL_yes {t p : List Int} (l : List (PlaceOf t)) (x : PlaceOf t) {m : Asg} (h : Tm.fit p (Tm.part t x.1) = some m) : overL t p (l ++ [x]) = overL t p l ++ [(x.1 : Int)] := by
  simp [overL, List.filter_append, h]
theorem overL_le {t p : List Int} (l : List (PlaceOf t)) : (overL t p l).length ≤ l.length := by
  simp only [overL, List.length_map]
  exact List.length_filter_le _ _
def Tm.overVal (t p : List Int) : List Int := if Tm.fitErr t p = 0 then overL t p (placesTo t t.length) else []

set_option maxRecDepth 100000 in
set_option maxHeartbeats 1000000 in
/-- match.Over, of right terms. -/
theorem over_right (t p : List Int) (at' ap : Option Addr) (ct cp : Nat) (w : World) (ht : Tm.err t = 0) (hp : Tm.err p = 0) (hT : Ints w.heap.size w at' t) (hP : Ints w.heap.size w ap p) (h1 : t.length ≤ ct ∧ ct ≤ maxLen ∧ (at' = none → ct = 0)) (h2 : p.length ≤ cp ∧ cp ≤ maxLen ∧ (ap = none → cp = 0)) :
    Calls Try.prog 39 #[.slice at' t.length ct, .slice ap p.length cp] w fun e w' => ∃ v, e = .returned (.tuple #[v, .int .i64 0]) ∧ New w.heap.size w' v (overL t p (placesTo t t.length)) ∧ Below w.heap.size w w' := by
  obtain ⟨F, hF⟩ : ∃ F, F = Fence.wide := ⟨_, rfl⟩
  refine (callsIn_wide (n := 3)).1 ?_
  rw [← hF]
  obtain ⟨hro, hfn, hdd, hcin⟩ := wide_facts hF
  have HF : Hid (F = Fence.wide) := hF
  clear hF
  have hfO := hfn 39
  have hfE := hfn 61
  have hfP := hfn 65
  have hfP1 := hfn 78
  have hfF := hfn 62
  have hl30 := Tm.err_len ht
  have hBb : Below w.heap.size w ((w.alloc (.cells #[.slice at' t.length ct] 23)).alloc (.cells #[.slice ap p.length cp] 23)) := ((Below.refl _ w).alloc (Nat.le_refl _) _).alloc (by simp) _
  have hE0 := first_two t p at' ap ct cp _ ((hT.below hBb).mono hBb.size) ((hP.below hBb).mono hBb.size) h1 h2
  rw [Tm.fitErr_of ht hp] at hE0
  simp only [World.size_alloc] at hE0
  have hE := hcin (n := 3 - 1) hE0
  clear hE0
  have b0 := (Boxed.new w 23 (.slice at' t.length ct)).alloc (.cells #[.slice ap p.length cp] 23)
  have b1 := Boxed.new (w.alloc (.cells #[.slice at' t.length ct] 23)) 23 (.slice ap p.length cp)
  rw [World.size_alloc] at b1
  have hs2 : ((w.alloc (.cells #[.slice at' t.length ct] 23)).alloc (.cells #[.slice ap p.length cp] 23)).heap.size = w.heap.size + 1 + 1 := by simp
  obtain ⟨W2, hW2⟩ : ∃ W2, (w.alloc (.cells #[.slice at' t.length ct] 23)).alloc (.cells #[.slice ap p.length cp] 23) = W2 := ⟨_, rfl⟩
  have HW2 := hid hW2
  rw [hW2] at b0 b1 hs2 hBb
  have Hs2 := hid hs2
  clear hW2 hs2
  refine callsIn_of_wp_marks Try.func39 rfl hfO ?_ hro
  simp only [Try.ntmps39, List.size_toArray, List.length_cons, List.length_nil, Nat.reduceAdd, Nat.reduceSub, Array.replicate_succ, Array.replicate_zero, List.push_toArray, List.append_toArray, List.nil_append, List.cons_append]
  gi_wp2_with (first
    | ((try refine ⟨hdd _, ?_⟩); gi_at_call 61; refine hE.mono ?_; clear hE; rintro e w1 ⟨rfl, hB1⟩; rw [HW2.out] at hB1; have c0 := ((hB1.cell (p := ⟨w.heap.size, 0, none⟩) (by show w.heap.size < _; omega)).trans b0.cell); have c1 := ((hB1.cell (p := ⟨w.heap.size + 1, 0, none⟩) (by show w.heap.size + 1 < _; omega)).trans b1.cell); have hs1 : w.heap.size + 1 + 1 ≤ w1.heap.size := (by have := hB1.size; have := Hs2.out; omega); have c0a : (w1.alloc (.cells #[.slice none 0 0] 22)).cell? ⟨w.heap.size, 0, none⟩ = some (.slice at' t.length ct) := (World.cell?_of_block (a := ⟨w.heap.size, 0, none⟩) (Below.heap_alloc w1 _ w.heap.size (by omega))).trans c0)
    | ((try refine ⟨hdd _, ?_⟩); gi_at_call 65; refine (places_in F HF.out _ _ _ _ _).mono ?_; rintro e w' ⟨rfl, rfl⟩))
  have hBw : Below w.heap.size w w1 := hBb.trans (hB1.mono (by omega))
  have bO := (Boxed.new w1 22 (.slice none 0 0)).alloc (.cells #[.slice at' t.length ct] 23)
  have bT := Boxed.new (w1.alloc (.cells #[.slice none 0 0] 22)) 23 (.slice at' t.length ct)
  rw [World.size_alloc] at bT
  have hB3 : Below w1.heap.size w1 ((w1.alloc (.cells #[.slice none 0 0] 22)).alloc (.cells #[.slice at' t.length ct] 23)) := ((Below.refl _ w1).alloc (Nat.le_refl _) _).alloc (by simp) _
  refine wpIn_rangeFunc_ownG hro (by omega) (gf := 78) (lb := #[.pointer (some ⟨w1.heap.size + 1, 0, none⟩)]) rfl hfP1 (enters_of Try.func78 (by kernel_rfl) rfl)
    (places_stops F HF.out _ (w1.heap.size + 1) w1.heap.size ct at' t hl30 _ (by simp; omega) (by simp) bT.cell (((hT.below hBw).mono hBw.size).below hB3)) kept_t (kept_b (by simp; omega) (by simp)) (Below.refl _ _) (fun _ => rfl)
    (fun pre W => (∃ v, Boxed W w1.heap.size 22 v ∧ W.ownsRow w1.heap.size 3 1 v (overL t p pre).length ((overL t p pre).map (Value.int .i64)) ∧ True) ∧ Boxed W (w1.heap.size + 1) 23 (.slice at' t.length ct) ∧ Below w1.heap.size w1 W)
    (fun _ _ _ => False)
    (OwnFrom.and ((holdsRow_own w1.heap.size w1.heap.size 22 3 1 (fun pre => (overL t p pre).length) (fun pre => (overL t p pre).map (Value.int .i64)) (fun _ _ => True)).from _) (OwnFrom.and ((boxed_own (w1.heap.size + 1) 23 (fun _ => .slice at' t.length ct)).from _) (ownFrom_below (Nat.le_refl _) (by simp; omega))))
    (fun _ _ _ _ _ hs _ _ => hs)
    ⟨⟨_, bO, World.ownsRow_nil _ _ _ _, trivial⟩, bT, hB3⟩
    (fun x => { tmps := #[.slice at' t.length ct, .slice ap p.length cp, .pointer (some ⟨w.heap.size, 0, none⟩), .pointer (some ⟨w.heap.size + 1, 0, none⟩), .slice none 0 0, .int .i64 0, .int .i64 0, .pointer (some ⟨w1.heap.size, 0, none⟩), .int .i64 (x.1 : Int), .int .i64 (Tm.endAt t x.1 : Int), undef, undef,
      .slice at' t.length ct, .slice ap p.length cp, .slice (some ⟨w.heap.size + 1 + 1, 0, none⟩) 2 2, .int .i64 0, .int .i64 0, .bool false, undef, .slice at' t.length ct, .func (.func 78) #[] #[.pointer (some ⟨w1.heap.size + 1, 0, none⟩)], .int .i64 (x.1 : Int), .int .i64 (Tm.endAt t x.1 : Int),
      undef, undef, undef, undef, undef, undef, undef, undef, undef, undef, undef, undef, undef, undef, undef], defers := [] }) ?assign ?body ?done ?stop
  case assign =>
    intro l x W K hK
    simp only [encPlace]
    gi_wp2
    exact hK
  case body =>
    rintro l pre x W ⟨⟨v, hbx, hrow, _⟩, hbT, hB⟩ hlt
    have hd0 := (hB.cell (p := ⟨w.heap.size, 0, none⟩) (by show w.heap.size < _; omega)).trans c0
    have hd1 := (hB.cell (p := ⟨w.heap.size + 1, 0, none⟩) (by show w.heap.size + 1 < _; omega)).trans c1
    have hxl := x.2
    have hle := Tm.end_in ht hxl
    have hgt := Tm.endAt_gt t x.1
    have hpl := Tm.part_length ht hxl
    obtain ⟨b, off, rfl, hb, _⟩ := hT.at (by omega)
    have hfit : ∀ W', Below w1.heap.size w1 W' → Calls Try.prog 62 #[.slice ap p.length cp, .slice (some ⟨b, off + x.1, none⟩) (Tm.endAt t x.1 - x.1) (ct - x.1)] W' fun e w' => Below W'.heap.size W' w' ∧ FitAns W' w' e (Tm.fit p (Tm.part t x.1)) := fun W' hW' => by
      rw [← hpl]
      have hBW := hBw.trans (hW'.mono hBw.size)
      exact fit_any p (Tm.part t x.1) ap _ cp (ct - x.1) W' hp (Tm.part_err ht hxl) ((hP.below hBW).mono hBW.size) (((hT.sub x.1 _).below hBW).mono hBW.size) (by rw [hpl]; omega) (by have := h1.2.1; omega)
    have Hfit := hid hfit
    have mixed : Try.prog.follows .mixedOrders = true := by kernel_rfl
    have HR := hid hrow
    have hmc : ct ≤ 9223372036854775807 := h1.2.1
    have hct := h1.1
    clear hfit hrow hpl c0 c1 c0a hT hP h1 h2 b0 b1 bO bT
    have q1 : (x.1 : Int) ≤ (Tm.endAt t x.1 : Int) := by omega
    have q2 : (Tm.endAt t x.1 : Int) ≤ (ct : Int) := by omega
    have q3 : ¬ ct - x.1 = 0 := by omega
    have q4 : (0 : Int) ≤ (x.1 : Int) := by omega
    have q5 : ¬ ct = x.1 := by omega
    have hBd : Below w1.heap.size w1 W.drew := below_drewN hB 1
    have Hf : Hid (CallsIn F 0 Try.prog 62 #[.slice ap p.length cp, .slice (some ⟨b, off + x.1, none⟩) (Tm.endAt t x.1 - x.1) (ct - x.1)] W.drew fun e w' => Below W.drew.heap.size W.drew w' ∧ ∃ u, e = .returned (.tuple #[.map u, .bool (Tm.fit p (Tm.part t x.1)).isSome])) := by
      refine hcin ((Hfit.out W.drew hBd).mono ?_)
      rintro e w' ⟨hB', hA⟩
      refine ⟨hB', ?_⟩
      cases hres : Tm.fit p (Tm.part t x.1) with
      | none => rw [hres] at hA; exact ⟨_, hA⟩
      | some m => rw [hres] at hA; obtain ⟨bm, N, h, _⟩ := hA; exact ⟨_, h⟩
    have Hov : Hid (∀ m, Tm.fit p (Tm.part t x.1) = some m → overL t p (pre ++ [x]) = overL t p pre ++ [(x.1 : Int)]) := fun m h => overL_yes pre x h
    have Hno := hid (overL_no (p := p) pre x)
    have Hcs : Hid ((Tm.fit p (Tm.part t x.1)).isSome = true → ∃ m, Tm.fit p (Tm.part t x.1) = some m) := fun h => Option.isSome_iff_exists.1 h
    have Hcn : Hid ((Tm.fit p (Tm.part t x.1)).isSome = false → Tm.fit p (Tm.part t x.1) = none) := fun h => by simpa using h
    clear Hfit
    generalize (Tm.fit p (Tm.part t x.1)).isSome = q at *
    gi_wp2
    refine wpIn_mono (Q := fun e a' W' => e = .normal ∧ ∃ u, a' = { tmps := #[.slice (some ⟨b, off, none⟩) t.length ct, .slice ap p.length cp, .pointer (some ⟨w.heap.size, 0, none⟩), .pointer (some ⟨w.heap.size + 1, 0, none⟩), .slice none 0 0, .int .i64 0, .int .i64 0, .pointer (some ⟨w1.heap.size, 0, none⟩), .int .i64 (x.1 : Int), .int .i64 (Tm.endAt t x.1 : Int), .map u, .bool q, .slice (some ⟨b, off, none⟩) t.length ct, .slice ap p.length cp, .slice (some ⟨w.heap.size + 1 + 1, 0, none⟩) 2 2, .int .i64 0, .int .i64 0, .bool false, undef, .slice (some ⟨b, off, none⟩) t.length ct, .func (.func 78) #[] #[.pointer (some ⟨w1.heap.size + 1, 0, none⟩)], .int .i64 (x.1 : Int), .int .i64 (Tm.endAt t x.1 : Int), .tuple #[.map u, .bool q], .slice ap p.length cp, .slice (some ⟨b, off, none⟩) t.length ct, .int .i64 (x.1 : Int), .int .i64 (Tm.endAt t x.1 : Int), .slice (some ⟨b, off + x.1, none⟩) (Tm.endAt t x.1 - x.1) (ct - x.1), .tuple #[.map u, .bool q], .map u, .bool q, undef, undef, undef, undef, undef, undef], defers := [] } ∧ Below W.drew.heap.size W.drew W') ?reg ?cont
    case reg =>
      gi_region_with_o (first | ((try refine ⟨hdd _, ?_⟩); gi_at_call 62; refine (CallsIn.inRound l Hf.out).mono ?_; rintro e W1 ⟨hB1', u, rfl⟩))
      all_goals exact ⟨rfl, u, rfl, hB1'⟩
    case cont =>
      rintro e a' W' ⟨rfl, u, rfl, hB'⟩
      have hBW : Below w1.heap.size w1 W' := hBd.trans (hB'.mono hBd.size)
      have hbx' : Boxed W' w1.heap.size 22 v := (hB'.block _ hbx.lt).trans hbx
      have hbT' : Boxed W' (w1.heap.size + 1) 23 (.slice (some ⟨b, off, none⟩) t.length ct) := (hB'.block _ hbT.lt).trans hbT
      have hN' : New w1.heap.size W' v (overL t p pre) := New.below (show New w1.heap.size W.drew v (overL t p pre) from HR.out) hB'
      have hko : KeepsOthers W W' := ⟨hB'.size, fun k o hk _ => (hB'.block k (Array.getElem?_eq_some_iff.1 hk).1).trans hk⟩
      have hkp : Kept w1.heap.size (w1.heap.size + 1) W W' := ⟨(below_drewN (Below.refl _ W) 1).trans (hB'.mono hB.size), (hB'.block _ hbT.lt)⟩
      cases q with
      | false =>
        have hov := hid (Hno.out (Hcn.out rfl))
        gi_wp2
        exact ⟨hko.from _, hkp, ⟨v, hbx', by rw [hov.out]; exact hN'⟩, hbT', hBW⟩
      | true =>
        obtain ⟨m, hm⟩ := Hcs.out rfl
        have hov := hid (Hov.out m hm)
        have hol := hid (overL_le (p := p) pre)
        clear hm
        have hcb := hbx'.cell
        obtain ⟨i0, hi, hz0, hz1, hz2⟩ := info_parts Try.info3
        obtain ⟨a0, c0', rfl, _⟩ := New.ints hN'
        gi_wp2_with (gi_at_builtin; (refine wpListIn_append_own _ rfl _ _ 22 rfl w1.heap.size 3 i0 (.int .i64 0) 1 8 Try.infoInts hi hz0 hz1 hz2 rfl (by decide) _ (overL t p pre).length ((overL t p pre).map (Value.int .i64)) rfl (World.ownsRow.alloc hN' _) ⟨W'.heap.size, 0, none⟩ 1 1 [.int .i64 (x.1 : Int)] rfl rfl (cell_one_new _ _ _) (by simp [Value.oneCell']) (by have := hol.out; unfold maxLen; omega) (by have := hol.out; omega) (by have := hBW.size; simp; omega) ?_); intro v' w4 hown' hgrow hnil; obtain ⟨g', cap', rfl⟩ := ownsRow_succ hown'; have R := hbx'.appended (by decide) hN' hBW.size (Nat.le_refl _) hown' hgrow; have hcb2 := R.1.cell; have hfb2 := R.1.frozen)
        obtain ⟨_, hv2, hr2, hk2, hb2⟩ := R
        refine ⟨(hko.trans hk2).from _, ⟨hkp.1.trans hb2, ?_⟩, ⟨_, hv2, by rw [hov.out]; simpa using hr2⟩, ?_, hBW.trans hb2⟩
        · rw [Below.heap_setCell _ _ _ _ (by simp), hgrow.block _ (by have := hbT'.lt; simp; omega) (hbT'.not_row (by decide) hN'), Below.heap_alloc _ _ _ hbT'.lt]
          exact hkp.2
        · refine Boxed.other (Boxed.kept (hbT'.alloc _) hgrow (hbT'.not_row (by decide) hN')) (by omega) _
  case done =>
    rintro D ys W hD rfl ⟨⟨v, hbx, hrow, _⟩, hbT, hB⟩ hK
    have hc := hbx.cell
    gi_wp2
    refine ⟨by simp, .inl ⟨_, _, rfl, run_takeDeferred hK, ?_⟩⟩
    exact ⟨_, results_tmp2 rfl _ _ _, v, rfl, New.mono (show New w1.heap.size _ v _ from ownsRow_putObj hrow _ hK rfl) hBw.size, hBw.trans ((hB.trans (belowK_b (w := w1) (Nat.le_refl _) W D _ _ (by simp at hD; omega) hK rfl rfl)).mono hBw.size)⟩
  case stop =>
    rintro D c pre W _ _ h _
    exact h.elim

set_option maxRecDepth 100000 in
set_option maxHeartbeats 1000000 in
theorem over_wrong (t p : List Int) (at' ap : Option Addr) (ct cp : Nat) (w : World) (he : Tm.fitErr t p ≠ 0) (hT : Ints w.heap.size w at' t) (hP : Ints w.heap.size w ap p) (h1 : t.length ≤ ct ∧ ct ≤ maxLen ∧ (at' = none → ct = 0)) (h2 : p.length ≤ cp ∧ cp ≤ maxLen ∧ (ap = none → cp = 0)) :
    Calls Try.prog 39 #[.slice at' t.length ct, .slice ap p.length cp] w fun e w' => ∃ v, e = .returned (.tuple #[v, .int .i64 (Tm.fitErr t p)]) ∧ New w.heap.size w' v [] ∧ Below w.heap.size w w' := by
  have hBb : Below w.heap.size w ((w.alloc (.cells #[.slice at' t.length ct] 23)).alloc (.cells #[.slice ap p.length cp] 23)) := ((Below.refl _ w).alloc (Nat.le_refl _) _).alloc (by simp) _
  have hE0 := first_two t p at' ap ct cp _ ((hT.below hBb).mono hBb.size) ((hP.below hBb).mono hBb.size) h1 h2
  simp only [World.size_alloc] at hE0
  have hne : (Tm.fitErr t p != 0) = true := by simp [he]
  clear hT hP h1 h2 he
  generalize Tm.fitErr t p = q at *
  go_enter Try.func39, Try.ntmps39
  go_wp2_with (first | (go_at_call 61; refine hE0.mono ?_; clear hE0; rintro e w1 ⟨rfl, hB1⟩))
  go_ret2
  exact ⟨_, rfl, New.nil _ _, hBb.trans (hB1.mono (by omega))⟩

/-- match.Over. -/
theorem over_any (t p : List Int) (at' ap : Option Addr) (ct cp : Nat) (w : World) (hT : Ints w.heap.size w at' t) (hP : Ints w.heap.size w ap p) (h1 : t.length ≤ ct ∧ ct ≤ maxLen ∧ (at' = none → ct = 0)) (h2 : p.length ≤ cp ∧ cp ≤ maxLen ∧ (ap = none → cp = 0)) :
    Calls Try.prog 39 #[.slice at' t.length ct, .slice ap p.length cp] w fun e w' => ∃ v, e = .returned (.tuple #[v, .int .i64 (Tm.fitErr t p)]) ∧ New w.heap.size w' v (Tm.overVal t p) ∧ Below w.heap.size w w' := by
  unfold Tm.overVal
  by_cases he : Tm.fitErr t p = 0
  · obtain ⟨ht, hp⟩ := Tm.fitErr_ok he
    rw [if_pos he, he]
    exact over_right t p at' ap ct cp w ht hp hT hP h1 h2
  · rw [if_neg he]
    exact over_wrong t p at' ap ct cp w he hT hP h1 h2

end Go.Proofs.Ytbelnlemjcoifaa
