/-
  haspref.fit: tree against tree, as sign by sign. · haspref.twoErrors, haspref.fitted, haspref.FitOf. · signs.Plain of one term, sub.Plain. · haspref.plain, PlainOf: the variables that have been seen lie in a slice. · signs.Places: the iterator over all places.
-/
import Derived.Deep.RegionHeld3
import Derived.Test.YtloealnfbpegnacBun4
import Derived.Test.YtloealnfbpegnacBun3
namespace Go.Proofs.Ytloealnfbpegnac
open Go.Proofs Go.RowKit Go.Shelf Go.Maps

/-- What fit answers. -/
def RefFit (w' : World) (e : Ending) (Bs lo hi : Nat) : Option Asg → Prop
  | none => e = .returned (.bool false)
  | some m => e = .returned (.bool true) ∧ FitS w' Bs lo hi m

theorem Keep.cell {n m : Nat} {a b : World} (h : Keep n m a b) {p : Addr} (h1 : p.block < n) (h2 : p.block ≠ m) : b.cell? p = a.cell? p := World.cell?_of_block (h.block p.block h1 h2)
theorem keep_drewN {n m : Nat} {a b : World} (h : Keep n m a b) (d : Nat) : Keep n m a (b.drewN d) := ⟨h.os, h.tape, h.output, h.size, h.block⟩

set_option maxRecDepth 100000 in
set_option maxHeartbeats 1000000 in
/-- A variable. -/
theorem reffit_var {lo hi Bs P T : Nat} (s : Int) (v : Value) (ts : List Int) (w : World) (m : Asg) (h8 : -8 ≤ s) (hs : s < 0) (hN : Node w P s v) (hhi : hi ≤ w.heap.size) (hlo : Bs < lo) (hBs : Bs < w.heap.size) (hT : TreeIn lo hi w T ts) (ht : ts.length ≤ 30) (hF : FitS w Bs lo hi m) :
    Calls Try.prog 98 #[ptr P, ptr T, ptr Bs] w fun e w' => Keep w.heap.size Bs w w' ∧ RefFit w' e Bs lo hi (Tm.fitGo ts [s] 0 m) := by
  obtain ⟨j, rfl⟩ : ∃ j : Nat, s = -1 - (j : Int) := ⟨(-1 - s).toNat, by omega⟩
  have hj : j < 8 := by omega
  have hj8 : (j : Int) < 8 := by omega
  have hn0 := hN.cell0
  have hpa := Tm.part_all0 hT.run
  obtain ⟨hf, hc⟩ := hF j hj
  have hsub : -(-1 - (j : Int)) - 1 = (j : Int) := by omega
  rcases hc with ⟨hm, hc⟩ | ⟨zs, X, hm, hc, hTX, hz⟩
  · have hgo : Tm.fitGo ts [-1 - (j : Int)] 0 m = some (upd m (-1 - (j : Int)) ts) := by
      rw [Tm.fitGo, if_pos hs, hm, if_neg (by simp), hpa, Tm.fitGo_nil]
    rw [hgo]
    have hS := hid (hF.set hj hlo hT ht)
    clear hgo hpa hm hF hT
    go_enter Try.func98, Try.ntmps98
    go_wp2
    go_ret
    exact ⟨Keep.of_grown (grownBy_setCell1 w Bs j (ptr T)) (Nat.le_refl _), rfl, hS.out⟩
  · have hF1 := flat_any w hTX (by omega) hhi
    have hF2 : ∀ W, Below w.heap.size w W → Calls Try.prog 101 #[ptr T] W fun e w' => ∃ v, e = .returned v ∧ New W.heap.size w' v ts ∧ Below W.heap.size W w' := fun W hW => flat_any W (hT.under hW hhi) (by omega) (by have := hW.size; omega)
    have hFk := hid (fun W (hW : Below w.heap.size w W) => hF.keep hW hBs hhi)
    have HF2 := hid hF2
    have hgo : Tm.fitGo ts [-1 - (j : Int)] 0 m = if zs = ts then some m else none := by
      rw [Tm.fitGo, if_pos hs, hm, hpa]
      by_cases e : zs = ts
      · subst e; rw [if_neg (by simp), if_pos rfl, Tm.fitGo_nil, upd_self hm]
      · rw [if_pos (by simp [e]), if_neg e]
    generalize Tm.fitGo ts [-1 - (j : Int)] 0 m = r at hgo ⊢
    have Hr := hid hgo
    have Hsb : Hid (sameB zs ts = decide (zs = ts)) := rfl
    clear hgo hpa hm hF hT hTX hF2
    go_enter Try.func98, Try.ntmps98
    go_wp2_with (first
      | (go_at_call_of 101 (ptr X); refine hF1.mono ?_; clear hF1; rintro e w1 ⟨v1, rfl, hN1, hB1⟩; obtain ⟨a1, c1, rfl, hI1, _⟩ := New.ints hN1)
      | (go_at_call_of 101 (ptr T); refine (HF2.out _ hB1).mono ?_; rintro e w2 ⟨v2, rfl, hN2, hB2⟩; obtain ⟨a2, c2, rfl, hI2, _⟩ := New.ints hN2; have hB3 := hB1.trans (hB2.mono hB1.size))
      | (go_at_call 10; refine (same_any zs ts a1 a2 c1 c2 _ ((hI1.below hB2).mono hB2.size) hI2 (by unfold maxLen; omega)).mono ?_; rintro e w3 ⟨rfl, hB4⟩; have hB5 := hB3.trans (hB4.mono hB3.size)))
    go_ret
    refine ⟨Keep.of_below hB5, ?_⟩
    rw [Hr.out]
    by_cases e : zs = ts
    · rw [if_pos e]; exact ⟨ret_bool (by rw [Hsb.out]; simp [e]), hFk.out _ hB5⟩
    · rw [if_neg e]; exact ret_bool (by rw [Hsb.out]; simp [e])

theorem TreeIn.open {lo hi : Nat} {W : World} {X : Nat} {zs : List Int} (h : TreeIn lo hi W X zs) : ∃ (s : Int) (a : Option Addr) (c : Nat) (Xs : List Nat) (zss : List (List Int)), zs = s :: zss.flatten ∧ lo ≤ X ∧ X < hi ∧ Node W X s (.slice a Xs.length c) ∧ Xs.length = Tm.room s ∧ zss.length = Xs.length ∧
    (∀ j, j < Xs.length → ∃ b off, a = some ⟨b, off, none⟩ ∧ lo ≤ b ∧ b < hi ∧ W.cell? ⟨b, off + j, none⟩ = some (ptr (Xs[j]?.getD 0))) ∧ ∀ j, j < Xs.length → TreeIn lo hi W (Xs[j]?.getD 0) (zss[j]?.getD []) := by
  cases h with
  | mk X s v Xs zss h1 h2 h3 h4 h5 h6 h7 =>
    obtain ⟨a, c, rfl, h8⟩ := h4
    exact ⟨s, a, c, Xs, zss, rfl, h1, h2, h3, h5, h6, h8, h7⟩

set_option maxRecDepth 100000 in
set_option maxHeartbeats 2000000 in
/-- haspref.fit. -/
theorem reffit_all {lo hi Bs : Nat} {W : World} {P : Nat} {ps : List Int} (h : TreeIn lo hi W P ps) : (∀ x ∈ ps, Tm.known x = true) → ∀ (T : Nat) (ts : List Int) (w : World) (m : Asg), (∀ k, lo ≤ k → k < hi → w.heap[k]? = W.heap[k]?) → hi ≤ w.heap.size → Bs < lo → Bs < w.heap.size →
    TreeIn lo hi w T ts → ts.length ≤ 30 → FitS w Bs lo hi m →
    Calls Try.prog 98 #[ptr P, ptr T, ptr Bs] w fun e w' => Keep w.heap.size Bs w w' ∧ RefFit w' e Bs lo hi (Tm.fitGo ts ps 0 m) := by
  induction h with
  | mk P s v Xs pss hP1 hP2 hN hPt hr hl hTs ih =>
    intro hkn T ts w m hw hhi hlo hBs hT ht hF
    have hN' : Node w P s v := (hw P hP1 hP2).trans hN
    by_cases hs : s < 0
    · have hX0 : pss = [] := List.eq_nil_of_length_eq_zero (by rw [hl, hr, Tm.room_neg hs])
      rw [hX0, List.flatten_nil]
      exact reffit_var s v ts w m (Tm.known_ge (hkn s (by simp))) hs hN' hhi hlo hBs hT ht hF
    · obtain ⟨a, c, rfl, hPc⟩ := hPt
      have hn0 := hN'.cell0
      obtain ⟨u, a2, c2, Ys, tss, rfl, hT1, hT2, hNT, hrT, hlT, hTc, hTT⟩ := hT.open
      have hu0 := hNT.cell0
      have hs' : ¬ (s : Int) < 0 := hs
      by_cases hus : u = s
      · subst hus
        have hnu : (u != u) = false := by simp
        have hstart : Hid (Tm.fitGo (u :: tss.flatten) (u :: pss.flatten) 0 m = Tm.fitGo (u :: tss.flatten) (pss.drop 0).flatten (1 + (tss.take 0).flatten.length) m) := by
          show _ = _
          rw [Tm.fitGo, if_neg hs, if_pos (by simp)]
          simp
        have hX2 : (Xs.length : Int) ≤ 2 := by have := Tm.room_le u; omega
        have IH := hid ih
        have HTs := hid hTs
        have HPc := hid hPc
        have HTc := hid hTc
        have HTT := hid hTT
        have HN := hid hN'
        have HNT := hid hNT
        have HW := hid hw
        have Hkn := hid hkn
        have Hl := hid hl
        have HlT := hid hlT
        have HXY : Hid (Ys.length = Xs.length) := by show _ = _; omega
        have HF := hid hF
        have Hlen : Hid ((u :: tss.flatten).length ≤ 30) := ht
        clear ih hTs hPc hTc hTT hN hN' hNT hw hkn hl hlT hF hT ht hr hrT
        go_enter Try.func98, Try.ntmps98
        go_wp2
        go_quiet (fail)
        go_wp2
        go_loopw [8] (fun i wr => ∃ (k : Nat) (mk : Asg), k ≤ Xs.length ∧ i = .int .i64 (k : Int) ∧ Hid (Tm.fitGo (u :: tss.flatten) (u :: pss.flatten) 0 m = Tm.fitGo (u :: tss.flatten) (pss.drop k).flatten (1 + (tss.take k).flatten.length) mk) ∧ Hid (FitS wr Bs lo hi mk) ∧ Keep w.heap.size Bs w wr) (fun i _ => Xs.length - (intOf i).toNat)
        case atStart => exact ⟨0, m, Nat.zero_le _, rfl, hstart, HF.out.keep (below_drewN (Below.refl _ _) _) hBs hhi, keep_drewN (Keep.refl _ _ _) _⟩
        case round =>
          obtain ⟨k, mk, hk, rfl, hgo, hFk, hK⟩ := hrel
          have hNk : Node wr P u (.slice a Xs.length c) := (hK.block P (by omega) (by omega)).trans HN.out
          have hn1 := hNk.cell1
          have hNTk : Node wr T u (.slice a2 Ys.length c2) := (hK.block T (by omega) (by omega)).trans HNT.out
          have hu1 := hNTk.cell1
          by_cases hlt : k < Xs.length
          · have hlt' : (k : Int) < (Xs.length : Int) := by omega
            have hltY : k < Ys.length := by have := HXY.out; omega
            have hltY' : (k : Int) < (Ys.length : Int) := by omega
            obtain ⟨b, off, rfl, hb1, hb2, hcell⟩ := HPc.out k hlt
            obtain ⟨b', off', rfl, hb1', hb2', hcell'⟩ := HTc.out k hltY
            have hck : wr.cell? ⟨b, off + k, none⟩ = some (ptr (Xs[k]?.getD 0)) := (World.cell?_of_block (a := ⟨b, off + k, none⟩) ((hK.block b (by omega) (by omega)).trans (HW.out b hb1 hb2))).trans hcell
            have hck' : wr.cell? ⟨b', off' + k, none⟩ = some (ptr (Ys[k]?.getD 0)) := (World.cell?_of_block (a := ⟨b', off' + k, none⟩) (hK.block b' (by omega) (by omega))).trans hcell'
            have hTk := (HTT.out k hltY).keep (W' := wr) (Nat.le_refl _) (Nat.le_refl _) fun q h1 h2 => hK.block q (by omega) (by omega)
            have hPk := (HTs.out k hlt).run
            have hst := hid (Tm.fit_step (s := u) (pss := pss) (tss := tss) (j := k) mk (by have := Hl.out; omega) (by have := Hl.out; have := HlT.out; have := HXY.out; omega) hPk hTk.run)
            have hple := flatten_le (zss := tss) (k := k) (by have := HlT.out; omega)
            have hcall := IH.out k hlt (fun x hx => Hkn.out x (List.mem_cons_of_mem _ (List.mem_flatten.2 ⟨pss[k]?.getD [], by rw [List.getElem?_eq_getElem (by have := Hl.out; omega)]; exact List.getElem_mem _, hx⟩)))
              (Ys[k]?.getD 0) (tss[k]?.getD []) (wr.drewN 1) mk (fun q h1 h2 => (hK.block q (by omega) (by omega)).trans (HW.out q h1 h2)) (by have := hK.size; exact Nat.le_trans hhi this) hlo (by have := hK.size; exact Nat.lt_of_lt_of_le hBs this) (hTk.keep (Nat.le_refl _) (Nat.le_refl _) fun _ _ _ => rfl) (by have := Hlen.out; simp only [List.length_cons] at this; omega) (hFk.out.keep (below_drewN (Below.refl _ _) _) (by have := hK.size; exact Nat.lt_of_lt_of_le hBs this) (Nat.le_trans hhi hK.size))
            clear hcell hcell' hTk hPk hple hNk hNTk
            cases hres : Tm.fitGo (tss[k]?.getD []) (pss[k]?.getD []) 0 mk with
            | none =>
              rw [hres] at hcall
              have hend : Hid (Tm.fitGo (u :: tss.flatten) (u :: pss.flatten) 0 m = none) := by show _ = _; rw [hgo.out, hst.out, hres]; rfl
              clear hst hgo hres
              generalize Xs[k]?.getD 0 = X1 at *
              generalize Ys[k]?.getD 0 = Y1 at *
              go_wp2
              go_region_held3 (fun w' => w'.cell? ⟨P, 1, none⟩ = some (.slice (some ⟨b, off, none⟩) Xs.length c) ∧ w'.cell? ⟨T, 1, none⟩ = some (.slice (some ⟨b', off', none⟩) Ys.length c2) ∧ w'.cell? ⟨b, off + k, none⟩ = some (ptr X1) ∧ w'.cell? ⟨b', off' + k, none⟩ = some (ptr Y1)) (first | assumption | exact ⟨hn1, hu1, hck, hck'⟩) (first
                | (go_at_call 98; refine hcall.mono ?_; clear hcall; rintro e w1 ⟨hK1, rfl⟩; have hS1 : w1.cell? ⟨P, 1, none⟩ = some (.slice (some ⟨b, off, none⟩) Xs.length c) ∧ w1.cell? ⟨T, 1, none⟩ = some (.slice (some ⟨b', off', none⟩) Ys.length c2) ∧ w1.cell? ⟨b, off + k, none⟩ = some (ptr X1) ∧ w1.cell? ⟨b', off' + k, none⟩ = some (ptr Y1) := ⟨(hK1.cell (p := ⟨P, 1, none⟩) (by exact Nat.lt_of_lt_of_le hP2 (Nat.le_trans hhi hK.size)) (by show P ≠ Bs; omega)).trans hn1, (hK1.cell (p := ⟨T, 1, none⟩) (by exact Nat.lt_of_lt_of_le hT2 (Nat.le_trans hhi hK.size)) (by show T ≠ Bs; omega)).trans hu1, (hK1.cell (p := ⟨b, off + k, none⟩) (by exact Nat.lt_of_lt_of_le hb2 (Nat.le_trans hhi hK.size)) (by show b ≠ Bs; omega)).trans hck, (hK1.cell (p := ⟨b', off' + k, none⟩) (by exact Nat.lt_of_lt_of_le hb2' (Nat.le_trans hhi hK.size)) (by show b' ≠ Bs; omega)).trans hck'⟩))
              all_goals (
                go_wp2
                go_ret
                exact ⟨(keep_drewN hK 1).trans (Keep.mono hK1 hK.size), by rw [hend.out]; rfl⟩)
            | some m' =>
              rw [hres] at hcall
              have hend : Hid (Tm.fitGo (u :: tss.flatten) (u :: pss.flatten) 0 m = Tm.fitGo (u :: tss.flatten) (pss.drop (k + 1)).flatten (1 + (tss.take (k + 1)).flatten.length) m') := by show _ = _; rw [hgo.out, hst.out, hres]; rfl
              clear hst hgo hres
              generalize Xs[k]?.getD 0 = X1 at *
              generalize Ys[k]?.getD 0 = Y1 at *
              go_wp2
              go_region_held3 (fun w' => w'.cell? ⟨P, 1, none⟩ = some (.slice (some ⟨b, off, none⟩) Xs.length c) ∧ w'.cell? ⟨T, 1, none⟩ = some (.slice (some ⟨b', off', none⟩) Ys.length c2) ∧ w'.cell? ⟨b, off + k, none⟩ = some (ptr X1) ∧ w'.cell? ⟨b', off' + k, none⟩ = some (ptr Y1)) (first | assumption | exact ⟨hn1, hu1, hck, hck'⟩) (first
                | (go_at_call 98; refine hcall.mono ?_; clear hcall; rintro e w1 ⟨hK1, rfl, hF1⟩; have hS1 : w1.cell? ⟨P, 1, none⟩ = some (.slice (some ⟨b, off, none⟩) Xs.length c) ∧ w1.cell? ⟨T, 1, none⟩ = some (.slice (some ⟨b', off', none⟩) Ys.length c2) ∧ w1.cell? ⟨b, off + k, none⟩ = some (ptr X1) ∧ w1.cell? ⟨b', off' + k, none⟩ = some (ptr Y1) := ⟨(hK1.cell (p := ⟨P, 1, none⟩) (by exact Nat.lt_of_lt_of_le hP2 (Nat.le_trans hhi hK.size)) (by show P ≠ Bs; omega)).trans hn1, (hK1.cell (p := ⟨T, 1, none⟩) (by exact Nat.lt_of_lt_of_le hT2 (Nat.le_trans hhi hK.size)) (by show T ≠ Bs; omega)).trans hu1, (hK1.cell (p := ⟨b, off + k, none⟩) (by exact Nat.lt_of_lt_of_le hb2 (Nat.le_trans hhi hK.size)) (by show b ≠ Bs; omega)).trans hck, (hK1.cell (p := ⟨b', off' + k, none⟩) (by exact Nat.lt_of_lt_of_le hb2' (Nat.le_trans hhi hK.size)) (by show b' ≠ Bs; omega)).trans hck'⟩))
              all_goals (
                go_wp2
                go_roundw
                case rel => exact ⟨k + 1, m', by omega, by go_num, hend, hF1, (keep_drewN hK 1).trans (Keep.mono hK1 hK.size)⟩
                case measure => simp [intOf]; omega)
          · obtain rfl : k = Xs.length := by omega
            go_wp2
            go_ret
            refine ⟨hK, ?_⟩
            rw [hgo.out, ← Hl.out, List.drop_length, List.flatten_nil, Tm.fitGo_nil]
            exact ⟨rfl, hFk.out⟩
      · have hnu : (s != u) = true := by simp; exact fun e => hus e.symm
        have hgo : Hid (Tm.fitGo (u :: tss.flatten) (s :: pss.flatten) 0 m = none) := by
          show _ = _
          rw [Tm.fitGo, if_neg hs, if_neg (by simpa using hus)]
        clear ih hTs hPc hTc hTT hus
        go_enter Try.func98, Try.ntmps98
        go_wp2
        go_quiet (fail)
        go_wp2
        go_ret
        exact ⟨keep_drewN (Keep.refl _ _ _) _, by rw [hgo.out]; rfl⟩

end Go.Proofs.Ytloealnfbpegnac

namespace Go.Proofs.Ytloealnfbpegnac
open Go.Proofs Go.RowKit Go.Shelf Go.Maps

set_option maxRecDepth 100000 in
set_option maxHeartbeats 400000 in
theorem twoErrors_any (p t : List Int) (ap at' : Option Addr) (cp ct : Nat) (w : World) (hP : Ints w.heap.size w ap p) (hT : Ints w.heap.size w at' t) :
    Calls Try.prog 37 #[.slice ap p.length cp, .slice at' t.length ct] w fun e w' => e = .returned (.int .i64 (Tm.fitErr p t)) ∧ w' = w := by
  have h1 := termError_any p ap cp w hP
  have h2 := termError_any t at' ct w hT
  by_cases he : Tm.err p = 0
  · have hf : Tm.fitErr p t = Tm.err t := by
      simp only [Tm.fitErr, Tm.firstErr, he, if_true]
      by_cases h : Tm.err t = 0 <;> simp [h]
    rw [hf]
    rw [he] at h1
    clear hf he hP hT
    generalize Tm.err t = q at *
    go_enter Try.func37, Try.ntmps37
    go_wp2_with (first
      | (go_at_call_of 56 (Value.slice ap p.length cp); refine h1.mono ?_; rintro e w ⟨rfl, rfl⟩)
      | (go_at_call_of 56 (Value.slice at' t.length ct); refine h2.mono ?_; rintro e w ⟨rfl, rfl⟩))
    go_ret
    exact ⟨rfl, rfl⟩
  · have hf : Tm.fitErr p t = Tm.err p := by simp [Tm.fitErr, Tm.firstErr, he]
    rw [hf]
    have hne : (Tm.err p != 0) = true := by simp [he]
    clear hf he hP hT h2
    generalize Tm.err p = q at *
    go_enter Try.func37, Try.ntmps37
    go_wp2_with (first
      | (go_at_call 56; refine h1.mono ?_; clear h1; rintro e w ⟨rfl, rfl⟩))
    go_ret
    exact ⟨rfl, rfl⟩

abbrev noTrees : Obj := .cells #[.pointer none, .pointer none, .pointer none, .pointer none, .pointer none, .pointer none, .pointer none, .pointer none] 125
theorem FitS.start (w : World) (lo hi : Nat) : FitS (w.alloc noTrees) w.heap.size lo hi (fun _ => none) := fun v hv => by
  have hnew := World.alloc_heap_new w noTrees
  refine ⟨by simp only [World.frozen?]; rw [hnew]; simp, .inl ⟨rfl, (cell_at hnew v).trans ?_⟩⟩
  match v, hv with
  | 0, _ => rfl
  | 1, _ => rfl
  | 2, _ => rfl
  | 3, _ => rfl
  | 4, _ => rfl
  | 5, _ => rfl
  | 6, _ => rfl
  | 7, _ => rfl

set_option maxRecDepth 100000 in
set_option maxHeartbeats 1000000 in
/-- haspref.fit over new trees. -/
theorem reffit_new (p t : List Int) (hp : Tm.err p = 0) (ht : Tm.err t = 0) (w w1 w2 : World) (hT1 : TreeIn (w.heap.size + 1) w1.heap.size w1 (w.heap.size + 1) p) (hB1 : Below (w.heap.size + 1) (w.alloc noTrees) w1) (hT2 : TreeIn w1.heap.size w2.heap.size w2 w1.heap.size t) (hB2 : Below w1.heap.size w1 w2) :
    Calls Try.prog 98 #[ptr (w.heap.size + 1), ptr w1.heap.size, ptr w.heap.size] w2 fun e w' => Keep w2.heap.size w.heap.size w2 w' ∧ RefFit w' e w.heap.size (w.heap.size + 1) w2.heap.size (Tm.fit p t) := by
  have hs1 := hB1.size
  have hs2 := hB2.size
  simp at hs1
  have hP : TreeIn (w.heap.size + 1) w2.heap.size w2 (w.heap.size + 1) p := (hT1.under hB2 (Nat.le_refl _)).wide (Nat.le_refl _) hs2
  have hB : Below (w.heap.size + 1) (w.alloc noTrees) w2 := hB1.trans (hB2.mono hs1)
  exact reffit_all hP (fun x hx => by have := Tm.err_all hp; rw [List.all_eq_true] at this; exact this x hx) w1.heap.size t w2 (fun _ => none) (fun _ _ _ => rfl) (Nat.le_refl _) (by omega) (by omega) (hT2.wide (by omega) (Nat.le_refl _)) (Tm.err_len ht)
    (fun v hv => by
      obtain ⟨e1, e2⟩ := FitS.start w (w.heap.size + 1) w2.heap.size v hv
      refine ⟨by rw [← e1]; simp only [World.frozen?, hB.block w.heap.size (by omega)], .inl ⟨rfl, ?_⟩⟩
      rcases e2 with ⟨_, e2⟩ | ⟨zs, X, e2, _⟩
      · exact (hB.cell (p := ⟨w.heap.size, v, none⟩) (by show w.heap.size < _; omega)).trans e2
      · cases e2)

set_option maxRecDepth 100000 in
set_option maxHeartbeats 1000000 in
theorem fitted_any (p t : List Int) (ap at' : Option Addr) (cp ct : Nat) (w : World) (hp : Tm.err p = 0) (ht : Tm.err t = 0) (hP : Ints w.heap.size w ap p) (hT : Ints w.heap.size w at' t) (h1 : p.length ≤ cp ∧ cp ≤ maxLen) (h2 : t.length ≤ ct ∧ ct ≤ maxLen) :
    Calls Try.prog 82 #[.slice ap p.length cp, .slice at' t.length ct] w fun e w' => ∃ v, e = .returned (.tuple #[v, .bool (Tm.fit p t).isSome]) ∧ NewS w.heap.size w' v (Tm.fitOut (Tm.fit p t)) ∧ Below w.heap.size w w' := by
  have hB0 : Below w.heap.size w (w.alloc noTrees) := (Below.refl _ _).alloc (Nat.le_refl _) _
  have hs0 : (w.alloc noTrees).heap.size = w.heap.size + 1 := by simp
  have hC1 := treeOf_any p ap cp (w.alloc noTrees) hp h1.1 h1.2 ((hP.below hB0).mono hB0.size)
  rw [hs0] at hC1
  have hC2 := hid (fun W (hW : Below w.heap.size w W) => treeOf_any t at' ct W ht h2.1 h2.2 ((hT.below hW).mono hW.size))
  have hC3 := hid (fun w1 w2 a b c d => reffit_new p t hp ht w w1 w2 a b c d)
  clear hP hT hp ht h1 h2
  cases hf : Tm.fit p t with
  | none =>
    rw [hf] at hC3
    clear hf
    simp only [Option.isSome_none]
    go_enter Try.func82, Try.ntmps82
    go_wp2_with (first
      | (go_at_call_of 99 (Value.slice ap p.length cp); refine hC1.mono ?_; clear hC1; rintro e w1 ⟨rfl, hB1, hT1⟩; have hB3 := hB0.trans (hB1.mono (by omega)))
      | (go_at_call_of 99 (Value.slice at' t.length ct); refine (hC2.out _ hB3).mono ?_; rintro e w2 ⟨rfl, hB2, hT2⟩; have hB4 := hB3.trans (hB2.mono hB3.size))
      | (go_at_call 98; refine (hC3.out _ _ hT1 hB1 hT2 hB2).mono ?_; rintro e w3 ⟨hK, rfl⟩; have hB5 := hB4.trans ((hK.mono hB4.size).below (Nat.le_refl _))))
    go_ret2
    exact ⟨_, rfl, NewS.nil _ _, hB5⟩
  | some m =>
    rw [hf] at hC3
    clear hf
    simp only [Option.isSome_some]
    go_enter Try.func82, Try.ntmps82
    go_wp2_with (first
      | (go_at_call_of 99 (Value.slice ap p.length cp); refine hC1.mono ?_; clear hC1; rintro e w1 ⟨rfl, hB1, hT1⟩; have hB3 := hB0.trans (hB1.mono (by omega)))
      | (go_at_call_of 99 (Value.slice at' t.length ct); refine (hC2.out _ hB3).mono ?_; rintro e w2 ⟨rfl, hB2, hT2⟩; have hB4 := hB3.trans (hB2.mono hB3.size))
      | (go_at_call 98; refine (hC3.out _ _ hT1 hB1 hT2 hB2).mono ?_; rintro e w3 ⟨hK, rfl, hFS⟩; have hB5 := hB4.trans ((hK.mono hB4.size).below (Nat.le_refl _)); have HFS := hid hFS; clear hFS)
      | (go_at_call 100; refine (noneOf_any _).mono ?_; rintro e w4 ⟨v, rfl, hN, hB6⟩; have hB7 := hB5.trans (hB6.mono hB5.size); have hlen : (Tm.noneL 8).length = 8 := Tm.noneL_length 8; obtain ⟨g, c, rfl⟩ : ∃ g c, v = .slice (some ⟨g, 0, none⟩) 8 c := (by obtain ⟨us, h1, _⟩ := hN; rw [hlen] at h1; exact ownsRow_succ h1)))
    have hg3 : w3.heap.size ≤ g := by
      obtain ⟨us, h1, _⟩ := hN
      exact (World.ownsRow.lt h1 g rfl).1
    have hs1 := hB1.size
    rw [hs0] at hs1
    have hs2 := hB2.size
    have hs3 := hK.size
    have HN := hid hN
    clear hN hlen hT1 hT2 hC2 hC3
    go_loopw [8] (fun i wr => ∃ k : Nat, k ≤ 8 ∧ i = .int .i64 (k : Int) ∧ Hid (NewS w.heap.size wr (.slice (some ⟨g, 0, none⟩) 8 c) (Tm.fitL m k)) ∧ Below w3.heap.size w3 wr) (fun i _ => 8 - (intOf i).toNat)
    case atStart => exact ⟨0, Nat.zero_le _, rfl, by rw [Tm.fitL_zero]; exact HN.out.mono hB5.size, hB6⟩
    case round =>
      obtain ⟨k, hk, rfl, hNk, hBk⟩ := hrel
      by_cases hlt : k < 8
      · have hlt' : (k : Int) < 8 := by omega
        obtain ⟨_, hc⟩ := HFS.out.keep hBk (by omega) hs3 k hlt
        rcases hc with ⟨hm, hc⟩ | ⟨zs, X, hm, hc, hTX, hz⟩
        · have hst := hid (Tm.fitL_none hm)
          clear hm
          go_wp2
          go_roundw
          case rel => exact ⟨k + 1, by omega, by go_num, by rw [hst.out]; exact hNk.out, hBk⟩
          case measure => simp [intOf]; omega
        · have hst := hid (Tm.fitL_some hm)
          have hFl := flat_any wr hTX (by omega) (by have := hBk.size; omega)
          clear hm hTX
          go_wp2_with (first
            | (go_at_call 101; refine hFl.mono ?_; clear hFl; rintro e w5 ⟨u, rfl, hNu, hBu⟩; obtain ⟨au, cu, rfl, _⟩ := New.ints hNu; have hN5 := hid (hNk.out.below hBu); obtain ⟨hg5, x5, hc5, hf5⟩ := newS_cell hN5.out (Tm.fitL_length m k) hlt))
          have hsz := hBk.size
          have hsw := hB5.size
          go_roundw
          case rel =>
            refine ⟨k + 1, by omega, by go_num, ?_, ?_⟩
            · rw [hst.out]
              exact hN5.out.set (Tm.fitL_length m k).symm (hNu.mono (by omega)) k
            · exact (hBk.trans (hBu.mono hsz)).setCell (p := ⟨g, k, none⟩) hg3 _
          case measure => simp [intOf]; omega
      · obtain rfl : k = 8 := by omega
        go_wp2
        go_ret2
        exact ⟨_, rfl, hNk.out, hB5.trans (hBk.mono hB5.size)⟩

end Go.Proofs.Ytloealnfbpegnac

namespace Go.Proofs.Ytloealnfbpegnac
open Go.Proofs Go.RowKit Go.Shelf Go.Maps

/-- A term made plain. -/
def Tm.plain (t : List Int) : List Int := Tm.plainTo [] t t.length

def Tm.plainVal (t : List Int) : List Int := if Tm.err t = 0 then Tm.plain t else []
theorem Tm.known6 {t : List Int} (h : Tm.err t = 0) : ∀ k, k < t.length → t[k]?.getD 0 < 6 := fun _ hk => Tm.known_lt (Tm.all_at (Tm.err_all h) hk)

end Go.Proofs.Ytloealnfbpegnac

namespace Go.Proofs.Ytloealnfbpegnac
open Go.Proofs Go.RowKit Go.Shelf Go.Maps

theorem Tm.see_nodup {seen : List Int} (h : seen.Nodup) (s : Int) : (Tm.see seen s).Nodup := by
  unfold Tm.see
  split
  · split
    · exact h
    · rename_i hc
      have : ¬ s ∈ seen := by simpa using hc
      rw [List.nodup_append]
      exact ⟨h, by simp, fun x hx y hy => by simp at hy; subst hy; rintro rfl; exact this hx⟩
  · exact h
theorem Tm.seen_nodup (t : List Int) : ∀ seen : List Int, seen.Nodup → (Tm.seenFrom seen t).Nodup := by
  induction t with
  | nil => intro seen h; exact h
  | cons s l ih => intro seen h; exact ih _ (Tm.see_nodup h s)
theorem Tm.idx_at {seen : List Int} (hn : seen.Nodup) {i : Nat} (hi : i < seen.length) {s : Int} (h : seen[i]?.getD 0 = s) : Tm.idx seen s = i := by
  unfold Tm.idx
  have h' : seen[i] = s := by simpa [hi] using h
  rw [List.findIdx_eq hi]
  refine ⟨by simp [h'], fun j hj => ?_⟩
  simp only [beq_eq_false_iff_ne]
  intro e
  exact (List.pairwise_iff_getElem.1 hn) j i (by omega) hi hj (e.trans h'.symm)
theorem Tm.has_at {seen : List Int} {i : Nat} (hi : i < seen.length) {s : Int} (h : seen[i]?.getD 0 = s) : seen.contains s = true := by
  have h' : seen[i] = s := by simpa [hi] using h
  simp only [List.contains_iff_mem]
  rw [← h']
  exact List.getElem_mem hi
theorem Tm.has_not {seen : List Int} {s : Int} (h : ∀ i, i < seen.length → seen[i]?.getD 0 ≠ s) : seen.contains s = false := by
  rw [Bool.eq_false_iff]
  intro hc
  have hm : s ∈ seen := by simpa using hc
  obtain ⟨i, hi, e⟩ := List.getElem_of_mem hm
  exact h i hi (by simp [hi, e])
/-- The first k signs made plain, the rest as they were. -/
def Tm.half (t : List Int) (k : Nat) : List Int := Tm.plainTo [] t k ++ t.drop k
theorem Tm.half_zero (t : List Int) : Tm.half t 0 = t := by simp [Tm.half, Tm.plainTo]
theorem Tm.half_all (t : List Int) : Tm.half t t.length = Tm.plain t := by simp [Tm.half, Tm.plain]
theorem Tm.half_length {t : List Int} {k : Nat} (h : k ≤ t.length) : (Tm.half t k).length = t.length := by
  simp only [Tm.half, List.length_append, Tm.plainTo_length, List.length_drop]; omega
theorem Tm.half_succ {t : List Int} {k : Nat} (h : k < t.length) : Tm.half t (k + 1) = (Tm.half t k).set k (Tm.name (Tm.seenFrom [] (t.take k)) (t[k]?.getD 0)) := by
  unfold Tm.half
  rw [Tm.plainTo_succ, List.set_append_right _ _ (by rw [Tm.plainTo_length]; exact Nat.le_refl _), Tm.plainTo_length, Nat.sub_self, List.drop_eq_getElem_cons h, List.set_cons_zero, List.append_assoc]
  rfl
theorem Tm.half_same {t : List Int} {k : Nat} (h : k < t.length) (hs : 0 ≤ t[k]?.getD 0) : Tm.half t (k + 1) = Tm.half t k := by
  unfold Tm.half
  have hn : Tm.name (Tm.seenFrom [] (t.take k)) (t[k]?.getD 0) = t[k]?.getD 0 := by unfold Tm.name; rw [if_neg (by omega)]
  rw [Tm.plainTo_succ, hn, List.drop_eq_getElem_cons h]
  simp [h]
theorem Tm.see_same {seen : List Int} {s : Int} (hs : 0 ≤ s) : Tm.see seen s = seen := by unfold Tm.see; rw [if_neg (by omega)]
theorem Tm.see_old {seen : List Int} {s : Int} (h : seen.contains s = true) : Tm.see seen s = seen := by unfold Tm.see; rw [if_pos h]; split <;> rfl
theorem Tm.see_new {seen : List Int} {s : Int} (hs : s < 0) (h : seen.contains s = false) : Tm.see seen s = seen ++ [s] := by unfold Tm.see; rw [if_pos hs, if_neg (by rw [h]; decide)]

/-- One int is stored anew. -/
theorem New.set {base : Nat} {W : World} {g c n : Nat} {zs : List Int} (h : New base W (.slice (some ⟨g, 0, none⟩) n c) zs) (hn : n = zs.length) (j : Nat) (x : Int) :
    New base (W.setCell ⟨g, j, none⟩ (.int .i64 x)) (.slice (some ⟨g, 0, none⟩) n c) (zs.set j x) := by
  subst hn
  have := (World.ownsRow.stored h j (.int .i64 x)).1
  unfold New
  rw [List.length_set, List.map_set]
  exact this

theorem Try.infoInts : Try.prog.underlying 22 = some (.slice 3) := by kernel_rfl

/-- 'append(s, x...)' onto a plain slice of ints that the call itself made. -/
theorem wp_append_int1 {ops : Array Oper} {rest : List Oper} {o : Oper} {a : Act} {Q : Exit → Act → World → Prop} (w : World) (hgd : o.guard = none) (s x : Operand)
    (ho : o.op = .call { callee := .builtin .append, args := #[s, x], argTypes := #[22, 22] }) (base : Nat) (v : Value) (xs : List Int) (hs : a.eval s = v) (hN : New base w v xs)
    (B : Nat) (y : Int) (hx : a.eval x = .slice (some ⟨B, 0, none⟩) 1 1) (hB : w.cell? ⟨B, 0, none⟩ = some (.int .i64 y)) (hlen : xs.length ≤ 1000000) (hbase : base ≤ w.heap.size)
    (h : ∀ v' w', New base w' v' (xs ++ [y]) → w.grownBy w' v.ownBlock → Below base w w' → wpList Try.prog ops Q rest (a.put o.dst v') w') : wpList Try.prog ops Q (o :: rest) a w := by
  obtain ⟨i0, hi, hz0, hz1, hz2⟩ := info_parts Try.info3
  refine wpList_append_own w hgd s x 22 ho base 3 i0 (.int .i64 0) 1 8 Try.infoInts hi hz0 hz1 hz2 rfl (by decide) v xs.length (xs.map (Value.int .i64)) hs hN ⟨B, 0, none⟩ 1 1 [.int .i64 y] hx (by simp)
    (by intro j z hj
        match j, hj with
        | 0, hj => simp at hj; subst hj; rw [Go.WideShapes.add_plain]; simpa using hB)
    (by intro z hz; simp at hz; subst hz; rfl) (by unfold maxLen; omega) (by omega) hbase ?_
  intro v' w' hown hg _
  exact h v' w' (by simpa [New] using hown) hg ((Below.refl base w).grown hg hbase (fun k e => (World.ownsRow.lt hN k e).1))

end Go.Proofs.Ytloealnfbpegnac

namespace Go.Proofs.Ytloealnfbpegnac
open Go.Proofs Go.RowKit Go.Shelf Go.Maps

attribute [local go_sem] Oper.semAt_some

/-- A place of zs. -/
abbrev PlaceOf (zs : List Int) : Type := { k : Nat // k < zs.length }
def encPlace (zs : List Int) (x : PlaceOf zs) : Array Value := #[.int .i64 (x.1 : Int), .int .i64 (Tm.endAt zs x.1 : Int)]
/-- The first m places. -/
def placesTo (zs : List Int) : Nat → List (PlaceOf zs)
  | 0 => []
  | m + 1 => if h : m < zs.length then placesTo zs m ++ [⟨m, h⟩] else placesTo zs m
theorem placesTo_succ {zs : List Int} {m : Nat} (h : m < zs.length) : placesTo zs (m + 1) = placesTo zs m ++ [⟨m, h⟩] := by simp [placesTo, h]
theorem placesTo_length (zs : List Int) : ∀ m, m ≤ zs.length → (placesTo zs m).length = m := by
  intro m
  induction m with
  | zero => intro _; rfl
  | succ m ih => intro h; rw [placesTo_succ (by omega), List.length_append, ih (by omega)]; rfl

set_option maxHeartbeats 400000 in
theorem places_in (F : Fence) (hF : F = Fence.wide) (n : Nat) (a : Option Addr) (len cap : Nat) (w : World) :
    CallsIn F n Try.prog 53 #[.slice a len cap] w fun e w' => e = .returned (.func (.func 76) #[] #[.pointer (some ⟨w.heap.size, 0, none⟩)]) ∧
      w' = w.alloc (.cells #[.slice a len cap] 23) := by
  have hro : F.round = none := by subst hF; rfl
  have hfn : F.fn 53 := by subst hF; trivial
  refine callsIn_of_wp Try.func53 rfl hfn ?_ hro
  simp only [Try.ntmps53, List.size_toArray, List.length_cons, List.length_nil, Nat.reduceAdd, Nat.reduceSub, Array.replicate_succ, Array.replicate_zero, List.push_toArray, List.append_toArray, List.nil_append, List.cons_append]
  gi_wp2
  go_ret
  exact ⟨rfl, rfl⟩

set_option maxRecDepth 100000 in
set_option maxHeartbeats 1000000 in
theorem places1_in (F : Fence) (hF : F = Fence.wide) (n l Bt n₀ cap : Nat) (a : Option Addr) (zs : List Int) (hlen : zs.length ≤ 30)
    (J Jx : List (PlaceOf zs) → World → Prop) (W : World) (hJ : AbidesFrom W.heap.size J)
    (hY : ∀ pre x W, J pre W → pre.length < zs.length → YieldAt F (n - 1) Try.prog l (encPlace zs x) W fun e W' =>
      (e = .returned (.bool true) ∧ J (pre ++ [x]) W' ∧ Kept n₀ Bt W W') ∨ (e = .returned (.bool false) ∧ Jx (pre ++ [x]) W'))
    (hn₀ : n₀ ≤ W.heap.size) (hBt : W.cell? ⟨Bt, 0, none⟩ = some (.slice a zs.length cap)) (hBt' : Bt < W.heap.size) (hI : Ints n₀ W a zs) (h0 : J [] W) :
    CallsIn F n Try.prog 76 #[.func (.yield l) #[] #[], .pointer (some ⟨Bt, 0, none⟩)] W fun e W' => (∃ v, e = .returned v) ∧
      ((∃ ys, ys = placesTo zs zs.length ∧ J ys W') ∨ (∃ pre, True ∧ Jx pre W')) := by
  obtain ⟨hro, hfn, hdd, hcin⟩ := wide_facts hF
  clear hF
  have hf55 := hfn 76
  have hf32 := hfn 45
  have hl30 : (zs.length : Int) ≤ 30 := by omega
  have HY := hid hY
  have HI := hid hI
  clear hY hI
  refine callsIn_of_wp Try.func76 rfl hf55 ?_ hro
  simp only [Try.ntmps76, List.size_toArray, List.length_cons, List.length_nil, Nat.reduceAdd, Nat.reduceSub, Array.replicate_succ, Array.replicate_zero, List.push_toArray, List.append_toArray, List.nil_append, List.cons_append]
  gi_wp2
  gi_loopw [6] (fun i wr => ∃ m : Nat, m ≤ zs.length ∧ i = .int .i64 (m : Int) ∧ J (placesTo zs m) wr ∧ wr.heap[Bt]? = W.heap[Bt]? ∧ Below n₀ W wr ∧ W.heap.size ≤ wr.heap.size)
    (fun i _ => zs.length - (intOf i).toNat)
  case atStart => exact ⟨0, Nat.zero_le _, rfl, h0, rfl, Below.refl _ _, Nat.le_refl _⟩
  case round =>
    obtain ⟨m, hm, rfl, hJs, hT, hnx, hsz⟩ := hrel
    have hbt : wr.cell? ⟨Bt, 0, none⟩ = some (.slice a zs.length cap) := (World.cell?_of_block (a := ⟨Bt, 0, none⟩) hT).trans hBt
    by_cases hlt : m < zs.length
    · have hlt' : (m : Int) < (zs.length : Int) := by omega
      have h1 := (end_any zs hlen a cap m (by omega) wr ((HI.out.below hnx).mono (by omega))).mono (R' := fun e W1 => e = .returned (.int .i64 (Tm.endAt zs m : Int)) ∧ YieldAt F (n - 1) Try.prog l #[.int .i64 (m : Int), .int .i64 (Tm.endAt zs m : Int)] W1 fun e W' =>
          (e = .returned (.bool true) ∧ J (placesTo zs (m + 1)) W' ∧ Below n₀ W W' ∧ W'.heap[Bt]? = W.heap[Bt]? ∧ W.heap.size ≤ W'.heap.size) ∨ (e = .returned (.bool false) ∧ ∃ pre, Jx pre W'))
        (fun e W1 ⟨he, hB⟩ => ⟨he, by
          have hg := grown_of_below hB
          have hJ1 := hJ _ _ _ none hJs hg (fun r e => by cases e)
          refine YieldAt.mono (HY.out _ ⟨m, hlt⟩ W1 hJ1 (by rw [placesTo_length zs m hm]; exact hlt)) fun e W2 h => h.elim (fun ⟨he, hj, hb2, hT2⟩ => .inl ⟨he, ?_, ?_, ?_, ?_⟩) (fun ⟨he, hx⟩ => .inr ⟨he, _, hx⟩)
          · rw [placesTo_succ hlt]; exact hj
          · exact (hnx.trans (hB.mono (by omega))).trans hb2
          · exact hT2.trans ((hB.block Bt (by omega)).trans hT)
          · have := hB.size; have := hb2.size; omega⟩)
      have h1' := hcin (n := n - 1) h1
      clear h1
      gi_wp2_with (first
        | ((try refine ⟨hdd _, ?_⟩); gi_at_call 45; refine h1'.mono ?_; clear h1'; rintro e W1 ⟨rfl, fn, tmps, assign, body, hy, hR⟩)
        | ((try refine ⟨hdd _, ?_⟩); refine hR.mono ?_; clear hR; rintro e W2 (⟨rfl, hJ2, hb2, hT2, hs2⟩ | ⟨rfl, hx2⟩)))
      · exact ⟨⟨m + 1, by omega, by go_num, hJ2, hT2, hb2, hs2⟩, by simp [intOf]; omega⟩
      · obtain ⟨pre, hx2⟩ := hx2
        refine bodyPost_ret (results_none rfl _ _ _) rfl ?_
        exact ⟨⟨_, rfl⟩, .inr ⟨pre, trivial, hx2⟩⟩
    · obtain rfl : m = zs.length := by omega
      have hlt' : ¬ (zs.length : Int) < (zs.length : Int) := by omega
      gi_wp2
      go_end0
      exact ⟨⟨_, rfl⟩, .inl hJs⟩

/-- The iterator value's contract. -/
theorem places_stops (F : Fence) (hF : F = Fence.wide) (n Bt n₀ cap : Nat) (a : Option Addr) (zs : List Int) (hlen : zs.length ≤ 30) (w : World) (hn₀ : n₀ ≤ w.heap.size) (hBt' : Bt < w.heap.size)
    (hBt : w.cell? ⟨Bt, 0, none⟩ = some (.slice a zs.length cap)) (hI : Ints n₀ w a zs) :
    SeqStopsK F n Try.prog 76 #[.pointer (some ⟨Bt, 0, none⟩)] (encPlace zs) (Kept n₀ Bt)
      (fun ys => ys = placesTo zs zs.length) (fun _ => True) zs.length w := fun l J Jx W hW hJ _ hY h0 =>
  places1_in F hF n l Bt n₀ cap a zs hlen J Jx W hJ hY (by have := hW.size; omega) ((hW.cell (p := ⟨Bt, 0, none⟩) hBt').trans hBt) (by have := hW.size; omega) (hI.below (hW.mono hn₀)) h0

end Go.Proofs.Ytloealnfbpegnac
