/-
  haspref.fit: tree against tree, as sign by sign.
-/
import Derived.Deep.RegionHeld3
import Derived.Test.YtbelnlemjcoifaaTree4
namespace Go.Proofs.Ytbelnlemjcoifaa
open Go.Proofs Go.RowKit Go.Shelf Go.Maps

/-- What fit answers. -/
def RefFit (w' : World) (e : Ending) (Bs lo hi : Nat) : Option Asg → Prop
  | none => e = .returned (.bool false)
  | some m => e = .returned (.bool true) ∧ FitS w' Bs lo hi m

theorem Keep.cell {n m : Nat} {a b : World} (h : Keep n m a b) {p : Addr} (h1 : p.block < n) (h2 : p.block ≠ m) : b.cell? p = a.cell? p := World.cell?_of_block (h.block p.block h1 h2)
theorem keep_drewN {n m : Nat} {a b : World} (h : Keep n m a b) (d : Nat) : Keep n m a (b.drewN d) := ⟨h.os, h.tape, h.output, h.size, h.block⟩

set_option maxRecDepth 100000 in
set_option maxHeartbeats 1000000 in
/-- A variable. -/
theorem reffit_var {lo hi Bs P T : Nat} (s : Int) (v : Value) (ts : List Int) (w : World) (m : Asg) (h8 : -8 ≤ s) (hs : s < 0) (hN : Node w P s v) (hhi : hi ≤ w.heap.size) (hlo : Bs < lo) (hBs : Bs < w.heap.size) (hT : TreeIn lo hi w T ts) (ht : ts.length ≤ 30) (hF : FitS w Bs lo hi m) :
    Calls Try.prog 75 #[ptr P, ptr T, ptr Bs] w fun e w' => Keep w.heap.size Bs w w' ∧ RefFit w' e Bs lo hi (Tm.fitGo ts [s] 0 m) := by
  obtain ⟨j, rfl⟩ : ∃ j : Nat, s = -1 - (j : Int) := ⟨(-1 - s).toNat, by omega⟩
  have hj : j < 8 := by omega
  have hj8 : (j : Int) < 8 := by omega
  have hn0 := hN.cell0
  have hpa := Tm.part_all0 hT.run
  obtain ⟨hf, hc⟩ := hF j hj
  have hsub : -(-1 - (j : Int)) - 1 = (j : Int) := by omega
  rcases hc with ⟨hm, hc⟩ | ⟨zs, X, hm, hc, hTX, hz⟩
  · have hgo : Tm.fitGo ts [-1 - (j : Int)] 0 m = some (upd m (-1 - (j : Int)) ts) := by
      rw [Tm.fitGo, if_pos hs, hm, if_neg (by simp), hpa, Tm.fitGo_nil]
    rw [hgo]
    have hS := hid (hF.set hj hlo hT ht)
    clear hgo hpa hm hF hT
    go_enter Try.func75, Try.ntmps75
    go_wp2
    go_ret
    exact ⟨Keep.of_grown (grownBy_setCell1 w Bs j (ptr T)) (Nat.le_refl _), rfl, hS.out⟩
  · have hF1 := flat_any w hTX (by omega) hhi
    have hF2 : ∀ W, Below w.heap.size w W → Calls Try.prog 77 #[ptr T] W fun e w' => ∃ v, e = .returned v ∧ New W.heap.size w' v ts ∧ Below W.heap.size W w' := fun W hW => flat_any W (hT.under hW hhi) (by omega) (by have := hW.size; omega)
    have hFk := hid (fun W (hW : Below w.heap.size w W) => hF.keep hW hBs hhi)
    have HF2 := hid hF2
    have hgo : Tm.fitGo ts [-1 - (j : Int)] 0 m = if zs = ts then some m else none := by
      rw [Tm.fitGo, if_pos hs, hm, hpa]
      by_cases e : zs = ts
      · subst e; rw [if_neg (by simp), if_pos rfl, Tm.fitGo_nil, upd_self hm]
      · rw [if_pos (by simp [e]), if_neg e]
    generalize Tm.fitGo ts [-1 - (j : Int)] 0 m = r at hgo ⊢
    have Hr := hid hgo
    have Hsb : Hid (sameB zs ts = decide (zs = ts)) := rfl
    clear hgo hpa hm hF hT hTX hF2
    go_enter Try.func75, Try.ntmps75
    go_wp2_with (first
      | (go_at_call_of 77 (ptr X); refine hF1.mono ?_; clear hF1; rintro e w1 ⟨v1, rfl, hN1, hB1⟩; obtain ⟨a1, c1, rfl, hI1, _⟩ := New.ints hN1)
      | (go_at_call_of 77 (ptr T); refine (HF2.out _ hB1).mono ?_; rintro e w2 ⟨v2, rfl, hN2, hB2⟩; obtain ⟨a2, c2, rfl, hI2, _⟩ := New.ints hN2; have hB3 := hB1.trans (hB2.mono hB1.size))
      | (go_at_call 21; refine (same_any zs ts a1 a2 c1 c2 _ ((hI1.below hB2).mono hB2.size) hI2 (by unfold maxLen; omega)).mono ?_; rintro e w3 ⟨rfl, hB4⟩; have hB5 := hB3.trans (hB4.mono hB3.size)))
    go_ret
    refine ⟨Keep.of_below hB5, ?_⟩
    rw [Hr.out]
    by_cases e : zs = ts
    · rw [if_pos e]; exact ⟨ret_bool (by rw [Hsb.out]; simp [e]), hFk.out _ hB5⟩
    · rw [if_neg e]; exact ret_bool (by rw [Hsb.out]; simp [e])

theorem TreeIn.open {lo hi : Nat} {W : World} {X : Nat} {zs : List Int} (h : TreeIn lo hi W X zs) : ∃ (s : Int) (a : Option Addr) (c : Nat) (Xs : List Nat) (zss : List (List Int)), zs = s :: zss.flatten ∧ lo ≤ X ∧ X < hi ∧ Node W X s (.slice a Xs.length c) ∧ Xs.length = Tm.room s ∧ zss.length = Xs.length ∧
    (∀ j, j < Xs.length → ∃ b off, a = some ⟨b, off, none⟩ ∧ lo ≤ b ∧ b < hi ∧ W.cell? ⟨b, off + j, none⟩ = some (ptr (Xs[j]?.getD 0))) ∧ ∀ j, j < Xs.length → TreeIn lo hi W (Xs[j]?.getD 0) (zss[j]?.getD []) := by
  cases h with
  | mk X s v Xs zss h1 h2 h3 h4 h5 h6 h7 =>
    obtain ⟨a, c, rfl, h8⟩ := h4
    exact ⟨s, a, c, Xs, zss, rfl, h1, h2, h3, h5, h6, h8, h7⟩

set_option maxRecDepth 100000 in
set_option maxHeartbeats 2000000 in
/-- haspref.fit. -/
theorem reffit_all {lo hi Bs : Nat} {W : World} {P : Nat} {ps : List Int} (h : TreeIn lo hi W P ps) : (∀ x ∈ ps, Tm.known x = true) → ∀ (T : Nat) (ts : List Int) (w : World) (m : Asg), (∀ k, lo ≤ k → k < hi → w.heap[k]? = W.heap[k]?) → hi ≤ w.heap.size → Bs < lo → Bs < w.heap.size →
    TreeIn lo hi w T ts → ts.length ≤ 30 → FitS w Bs lo hi m →
    Calls Try.prog 75 #[ptr P, ptr T, ptr Bs] w fun e w' => Keep w.heap.size Bs w w' ∧ RefFit w' e Bs lo hi (Tm.fitGo ts ps 0 m) := by
  induction h with
  | mk P s v Xs pss hP1 hP2 hN hPt hr hl hTs ih =>
    intro hkn T ts w m hw hhi hlo hBs hT ht hF
    have hN' : Node w P s v := (hw P hP1 hP2).trans hN
    by_cases hs : s < 0
    · have hX0 : pss = [] := List.eq_nil_of_length_eq_zero (by rw [hl, hr, Tm.room_neg hs])
      rw [hX0, List.flatten_nil]
      exact reffit_var s v ts w m (Tm.known_ge (hkn s (by simp))) hs hN' hhi hlo hBs hT ht hF
    · obtain ⟨a, c, rfl, hPc⟩ := hPt
      have hn0 := hN'.cell0
      obtain ⟨u, a2, c2, Ys, tss, rfl, hT1, hT2, hNT, hrT, hlT, hTc, hTT⟩ := hT.open
      have hu0 := hNT.cell0
      have hs' : ¬ (s : Int) < 0 := hs
      by_cases hus : u = s
      · subst hus
        have hnu : (u != u) = false := by simp
        have hstart : Hid (Tm.fitGo (u :: tss.flatten) (u :: pss.flatten) 0 m = Tm.fitGo (u :: tss.flatten) (pss.drop 0).flatten (1 + (tss.take 0).flatten.length) m) := by
          show _ = _
          rw [Tm.fitGo, if_neg hs, if_pos (by simp)]
          simp
        have hX2 : (Xs.length : Int) ≤ 2 := by have := Tm.room_le u; omega
        have IH := hid ih
        have HTs := hid hTs
        have HPc := hid hPc
        have HTc := hid hTc
        have HTT := hid hTT
        have HN := hid hN'
        have HNT := hid hNT
        have HW := hid hw
        have Hkn := hid hkn
        have Hl := hid hl
        have HlT := hid hlT
        have HXY : Hid (Ys.length = Xs.length) := by show _ = _; omega
        have HF := hid hF
        have Hlen : Hid ((u :: tss.flatten).length ≤ 30) := ht
        clear ih hTs hPc hTc hTT hN hN' hNT hw hkn hl hlT hF hT ht hr hrT
        go_enter Try.func75, Try.ntmps75
        go_wp2
        go_quiet (fail)
        go_wp2
        go_loopw [8] (fun i wr => ∃ (k : Nat) (mk : Asg), k ≤ Xs.length ∧ i = .int .i64 (k : Int) ∧ Hid (Tm.fitGo (u :: tss.flatten) (u :: pss.flatten) 0 m = Tm.fitGo (u :: tss.flatten) (pss.drop k).flatten (1 + (tss.take k).flatten.length) mk) ∧ Hid (FitS wr Bs lo hi mk) ∧ Keep w.heap.size Bs w wr) (fun i _ => Xs.length - (intOf i).toNat)
        case atStart => exact ⟨0, m, Nat.zero_le _, rfl, hstart, HF.out.keep (below_drewN (Below.refl _ _) _) hBs hhi, keep_drewN (Keep.refl _ _ _) _⟩
        case round =>
          obtain ⟨k, mk, hk, rfl, hgo, hFk, hK⟩ := hrel
          have hNk : Node wr P u (.slice a Xs.length c) := (hK.block P (by omega) (by omega)).trans HN.out
          have hn1 := hNk.cell1
          have hNTk : Node wr T u (.slice a2 Ys.length c2) := (hK.block T (by omega) (by omega)).trans HNT.out
          have hu1 := hNTk.cell1
          by_cases hlt : k < Xs.length
          · have hlt' : (k : Int) < (Xs.length : Int) := by omega
            have hltY : k < Ys.length := by have := HXY.out; omega
            have hltY' : (k : Int) < (Ys.length : Int) := by omega
            obtain ⟨b, off, rfl, hb1, hb2, hcell⟩ := HPc.out k hlt
            obtain ⟨b', off', rfl, hb1', hb2', hcell'⟩ := HTc.out k hltY
            have hck : wr.cell? ⟨b, off + k, none⟩ = some (ptr (Xs[k]?.getD 0)) := (World.cell?_of_block (a := ⟨b, off + k, none⟩) ((hK.block b (by omega) (by omega)).trans (HW.out b hb1 hb2))).trans hcell
            have hck' : wr.cell? ⟨b', off' + k, none⟩ = some (ptr (Ys[k]?.getD 0)) := (World.cell?_of_block (a := ⟨b', off' + k, none⟩) (hK.block b' (by omega) (by omega))).trans hcell'
            have hTk := (HTT.out k hltY).keep (W' := wr) (Nat.le_refl _) (Nat.le_refl _) fun q h1 h2 => hK.block q (by omega) (by omega)
            have hPk := (HTs.out k hlt).run
            have hst := hid (Tm.fit_step (s := u) (pss := pss) (tss := tss) (j := k) mk (by have := Hl.out; omega) (by have := Hl.out; have := HlT.out; have := HXY.out; omega) hPk hTk.run)
            have hple := flatten_le (zss := tss) (k := k) (by have := HlT.out; omega)
            have hcall := IH.out k hlt (fun x hx => Hkn.out x (List.mem_cons_of_mem _ (List.mem_flatten.2 ⟨pss[k]?.getD [], by rw [List.getElem?_eq_getElem (by have := Hl.out; omega)]; exact List.getElem_mem _, hx⟩)))
              (Ys[k]?.getD 0) (tss[k]?.getD []) (wr.drewN 1) mk (fun q h1 h2 => (hK.block q (by omega) (by omega)).trans (HW.out q h1 h2)) (by have := hK.size; exact Nat.le_trans hhi this) hlo (by have := hK.size; exact Nat.lt_of_lt_of_le hBs this) (hTk.keep (Nat.le_refl _) (Nat.le_refl _) fun _ _ _ => rfl) (by have := Hlen.out; simp only [List.length_cons] at this; omega) (hFk.out.keep (below_drewN (Below.refl _ _) _) (by have := hK.size; exact Nat.lt_of_lt_of_le hBs this) (Nat.le_trans hhi hK.size))
            clear hcell hcell' hTk hPk hple hNk hNTk
            cases hres : Tm.fitGo (tss[k]?.getD []) (pss[k]?.getD []) 0 mk with
            | none =>
              rw [hres] at hcall
              have hend : Hid (Tm.fitGo (u :: tss.flatten) (u :: pss.flatten) 0 m = none) := by show _ = _; rw [hgo.out, hst.out, hres]; rfl
              clear hst hgo hres
              generalize Xs[k]?.getD 0 = X1 at *
              generalize Ys[k]?.getD 0 = Y1 at *
              go_wp2
              go_region_held3 (fun w' => w'.cell? ⟨P, 1, none⟩ = some (.slice (some ⟨b, off, none⟩) Xs.length c) ∧ w'.cell? ⟨T, 1, none⟩ = some (.slice (some ⟨b', off', none⟩) Ys.length c2) ∧ w'.cell? ⟨b, off + k, none⟩ = some (ptr X1) ∧ w'.cell? ⟨b', off' + k, none⟩ = some (ptr Y1)) (first | assumption | exact ⟨hn1, hu1, hck, hck'⟩) (first
                | (go_at_call 75; refine hcall.mono ?_; clear hcall; rintro e w1 ⟨hK1, rfl⟩; have hS1 : w1.cell? ⟨P, 1, none⟩ = some (.slice (some ⟨b, off, none⟩) Xs.length c) ∧ w1.cell? ⟨T, 1, none⟩ = some (.slice (some ⟨b', off', none⟩) Ys.length c2) ∧ w1.cell? ⟨b, off + k, none⟩ = some (ptr X1) ∧ w1.cell? ⟨b', off' + k, none⟩ = some (ptr Y1) := ⟨(hK1.cell (p := ⟨P, 1, none⟩) (by exact Nat.lt_of_lt_of_le hP2 (Nat.le_trans hhi hK.size)) (by show P ≠ Bs; omega)).trans hn1, (hK1.cell (p := ⟨T, 1, none⟩) (by exact Nat.lt_of_lt_of_le hT2 (Nat.le_trans hhi hK.size)) (by show T ≠ Bs; omega)).trans hu1, (hK1.cell (p := ⟨b, off + k, none⟩) (by exact Nat.lt_of_lt_of_le hb2 (Nat.le_trans hhi hK.size)) (by show b ≠ Bs; omega)).trans hck, (hK1.cell (p := ⟨b', off' + k, none⟩) (by exact Nat.lt_of_lt_of_le hb2' (Nat.le_trans hhi hK.size)) (by show b' ≠ Bs; omega)).trans hck'⟩))
              all_goals (
                go_wp2
                go_ret
                exact ⟨(keep_drewN hK 1).trans (Keep.mono hK1 hK.size), by rw [hend.out]; rfl⟩)
            | some m' =>
              rw [hres] at hcall
              have hend : Hid (Tm.fitGo (u :: tss.flatten) (u :: pss.flatten) 0 m = Tm.fitGo (u :: tss.flatten) (pss.drop (k + 1)).flatten (1 + (tss.take (k + 1)).flatten.length) m') := by show _ = _; rw [hgo.out, hst.out, hres]; rfl
              clear hst hgo hres
              generalize Xs[k]?.getD 0 = X1 at *
              generalize Ys[k]?.getD 0 = Y1 at *
              go_wp2
              go_region_held3 (fun w' => w'.cell? ⟨P, 1, none⟩ = some (.slice (some ⟨b, off, none⟩) Xs.length c) ∧ w'.cell? ⟨T, 1, none⟩ = some (.slice (some ⟨b', off', none⟩) Ys.length c2) ∧ w'.cell? ⟨b, off + k, none⟩ = some (ptr X1) ∧ w'.cell? ⟨b', off' + k, none⟩ = some (ptr Y1)) (first | assumption | exact ⟨hn1, hu1, hck, hck'⟩) (first
                | (go_at_call 75; refine hcall.mono ?_; clear hcall; rintro e w1 ⟨hK1, rfl, hF1⟩; have hS1 : w1.cell? ⟨P, 1, none⟩ = some (.slice (some ⟨b, off, none⟩) Xs.length c) ∧ w1.cell? ⟨T, 1, none⟩ = some (.slice (some ⟨b', off', none⟩) Ys.length c2) ∧ w1.cell? ⟨b, off + k, none⟩ = some (ptr X1) ∧ w1.cell? ⟨b', off' + k, none⟩ = some (ptr Y1) := ⟨(hK1.cell (p := ⟨P, 1, none⟩) (by exact Nat.lt_of_lt_of_le hP2 (Nat.le_trans hhi hK.size)) (by show P ≠ Bs; omega)).trans hn1, (hK1.cell (p := ⟨T, 1, none⟩) (by exact Nat.lt_of_lt_of_le hT2 (Nat.le_trans hhi hK.size)) (by show T ≠ Bs; omega)).trans hu1, (hK1.cell (p := ⟨b, off + k, none⟩) (by exact Nat.lt_of_lt_of_le hb2 (Nat.le_trans hhi hK.size)) (by show b ≠ Bs; omega)).trans hck, (hK1.cell (p := ⟨b', off' + k, none⟩) (by exact Nat.lt_of_lt_of_le hb2' (Nat.le_trans hhi hK.size)) (by show b' ≠ Bs; omega)).trans hck'⟩))
              all_goals (
                go_wp2
                go_roundw
                case rel => exact ⟨k + 1, m', by omega, by go_num, hend, hF1, (keep_drewN hK 1).trans (Keep.mono hK1 hK.size)⟩
                case measure => simp [intOf]; omega)
          · obtain rfl : k = Xs.length := by omega
            go_wp2
            go_ret
            refine ⟨hK, ?_⟩
            rw [hgo.out, ← Hl.out, List.drop_length, List.flatten_nil, Tm.fitGo_nil]
            exact ⟨rfl, hFk.out⟩
      · have hnu : (s != u) = true := by simp; exact fun e => hus e.symm
        have hgo : Hid (Tm.fitGo (u :: tss.flatten) (s :: pss.flatten) 0 m = none) := by
          show _ = _
          rw [Tm.fitGo, if_neg hs, if_neg (by simpa using hus)]
        clear ih hTs hPc hTc hTT hus
        go_enter Try.func75, Try.ntmps75
        go_wp2
        go_quiet (fail)
        go_wp2
        go_ret
        exact ⟨keep_drewN (Keep.refl _ _ _) _, by rw [hgo.out]; rfl⟩

end Go.Proofs.Ytbelnlemjcoifaa
