/-
  Parts of the proof: Fit2, Fit3, Tree1, Tree3, Tree4, Ord1, Tree5, Over1.
-/
import Derived.Test.YtgeknojpcjadkaaBlt2
import Derived.Maps.AppendAt
import Derived.Deep.RegionHeld3
namespace Go.Proofs.Ytgeknojpcjadkaa
open Go.Proofs Go.RowKit Go.Shelf Go.Maps
set_option maxRecDepth 100000 in
set_option maxHeartbeats 1000000 in
theorem equal_any (xs ys : List Int) (a b : Option Addr) (ca cb : Nat) (w : World) (hX : Ints w.heap.size w a xs) (hY : Ints w.heap.size w b ys) (hm : xs.length ≤ maxLen) :
    Calls Try.prog 57 #[.slice a xs.length ca, .slice b ys.length cb] w fun e w' => e = .returned (.bool (sameB xs ys)) ∧ Below w.heap.size w w' := by
  unfold maxLen at hm
  by_cases hl : xs.length = ys.length
  · have hne : ((xs.length : Int) != (ys.length : Int)) = false := by simp [hl]
    have Hl : Hid (xs.length = ys.length) := hl
    clear hl
    go_enter Try.func57, Try.ntmps57
    go_wp2
    go_loopw [13] (fun i wr => ∃ k : Nat, k ≤ xs.length ∧ i = .int .i64 (k : Int) ∧ Hid (xs.take k = ys.take k) ∧ Below w.heap.size w wr) (fun i _ => xs.length - (intOf i).toNat)
    case atStart => exact ⟨0, Nat.zero_le _, rfl, by simp [Hid], Below.refl _ _⟩
    case round =>
      obtain ⟨k, hk, rfl, hsame, hB⟩ := hrel
      by_cases hlt : k < xs.length
      · have hlt' : (k : Int) < (xs.length : Int) := by omega
        have hly : k < ys.length := by have := Hl.out; omega
        have hly' : (k : Int) < (ys.length : Int) := by omega
        obtain ⟨b1, off1, rfl, hb1, hc1⟩ := (hX.below hB).at (by omega)
        obtain ⟨b2, off2, rfl, hb2, hc2⟩ := (hY.below hB).at (by omega)
        have hx := hc1 k hlt
        have hy := hc2 k hly
        have hst := show Hid _ from @same_step xs ys k hlt hly hsame.out
        have hno := show Hid _ from @same_not xs ys k
        clear hc1 hc2 hX hY hly
        generalize xs[k]?.getD 0 = s at *
        generalize ys[k]?.getD 0 = u at *
        by_cases he : s = u
        · have hn : (s != u) = false := by simp [he]
          have He : Hid (s = u) := he
          clear he hno
          go_wp2
          go_quiet (fail)
          go_wp2
          go_roundw
          case rel => exact ⟨k + 1, by omega, by go_num, hst.out He.out, below_drewN hB _⟩
          case measure => simp [intOf]; omega
        · have hn : (s != u) = true := by simp [he]
          have hf := show Hid _ from hno.out he
          clear he hno hst
          go_wp2
          go_quiet (fail)
          go_wp2
          go_ret
          exact ⟨by rw [hf.out]; rfl, below_drewN hB _⟩
      · obtain rfl : k = xs.length := by omega
        have hy := show Hid _ from same_yes hsame.out Hl.out
        clear hX hY
        go_wp2
        go_ret
        exact ⟨by rw [hy.out]; rfl, hB⟩
  · have hne : ((xs.length : Int) != (ys.length : Int)) = true := by simp; omega
    rw [same_len hl]
    clear hl hX hY
    go_enter Try.func57, Try.ntmps57
    go_wp2
    go_ret
    exact ⟨rfl, Below.refl _ _⟩
theorem zeroTerm (w : World) : (zeroValue 37).run Try.prog w = .ok (.slice none 0 0) w := by kernel_rfl
def FitAns (w w' : World) (e : Ending) : Option Asg → Prop
  | none => e = .returned (.tuple #[.map none, .bool false])
  | some m => ∃ bm N, e = .returned (.tuple #[.map (some bm), .bool true]) ∧ w.heap.size ≤ bm ∧ FitAt w.heap.size w' bm N m
set_option maxRecDepth 100000 in
set_option maxHeartbeats 1000000 in
theorem fit_any (p t : List Int) (ap at' : Option Addr) (cp ct : Nat) (w : World) (hp : Tm.err p = 0) (ht : Tm.err t = 0) (hP : Ints w.heap.size w ap p) (hT : Ints w.heap.size w at' t) (hct : t.length ≤ ct) (hct2 : ct ≤ maxLen) :
    Calls Try.prog 92 #[.slice ap p.length cp, .slice at' t.length ct] w fun e w' => Below w.heap.size w w' ∧ FitAns w w' e (Tm.fit p t) := by
  have hp30 := Tm.err_len hp
  have ht30 := Tm.err_len ht
  have h8 := Tm.known8 hp
  have h6 := fun k (hk : k < p.length) => Tm.known_lt (Tm.all_at (Tm.err_all hp) hk)
  have hAg := hid (Against.start hp ht)
  obtain ⟨b, off, rfl, hb, hc⟩ := hT.at (Tm.err_pos ht)
  obtain ⟨b2, off2, rfl, hb2, hc2⟩ := hP.at (Tm.err_pos hp)
  have hmm := @run_makeMap Try.prog
  have hct3 : ct ≤ 9223372036854775807 := hct2
  have HT := hid hT
  have Hc := hid hc
  have Hc2 := hid hc2
  have H8 := hid h8
  have H6 := hid h6
  have hl1 : (p.length : Int) ≤ 30 := by omega
  have hl2 : (t.length : Int) ≤ 30 := by omega
  clear hT hP hc hc2 h8 h6 hp ht
  go_enter Try.func92, Try.ntmps92
  go_wp2
  go_loopw [7, 16] (fun q i wr => ∃ (j k : Nat) (m : Asg), j ≤ p.length ∧ k ≤ t.length ∧ i = .int .i64 (j : Int) ∧ q = .int .i64 (k : Int) ∧ Hid (Tm.fit p t = Tm.fitGo t (p.drop j) k m) ∧ Hid (Against p t j k) ∧ Below w.heap.size w wr ∧ Hid (FitAt w.heap.size wr w.heap.size j m)) (fun _ i _ => p.length - (intOf i).toNat)
  case atStart => exact ⟨0, 0, fun _ => none, Nat.zero_le _, Nat.zero_le _, rfl, rfl, by simp [Hid, Tm.fit], hAg, (Below.refl _ _).alloc (Nat.le_refl _) _, ⟨_, IntMap.made w, fun _ _ => rfl, fun _ _ h => by cases h⟩⟩
  case round =>
    obtain ⟨j, k, m, hj, hk, rfl, rfl, hfit, hag, hB, hF⟩ := hrel
    by_cases hlt : j < p.length
    · have hlt' : (j : Int) < (p.length : Int) := by omega
      have hkt := hag.out.pos hlt
      have hkt' : (k : Int) < (t.length : Int) := by omega
      have hcj := (hB.cell (p := ⟨b2, off2 + j, none⟩) hb2).trans (Hc2.out j hlt)
      have hck := (hB.cell (p := ⟨b, off + k, none⟩) hb).trans (Hc.out k hkt)
      by_cases hs : p[j]?.getD 0 < 0
      · have hE := end_any t ht30 (some ⟨b, off, none⟩) ct k (by omega) wr ((HT.out.below hB).mono hB.size)
        have hle := hag.out.endAt_le hlt
        have hgt := Tm.endAt_gt t k
        have hag2 := hid (hag.out.var hlt hs)
        have Hpl : Hid ((Tm.part t k).length = Tm.endAt t k - k) := by show _ = _; simp only [Tm.part, List.length_take, List.length_drop]; omega
        have HIs := hid (HT.out.sub k (Tm.endAt t k - k))
        have hnew := hid (fun h => hfit.out.trans (Tm.fitGo_new (t := t) (k := k) (m := m) hlt hs h))
        have hold := hid (fun h => hfit.out.trans (Tm.fitGo_old (t := t) (k := k) (m := m) hlt hs h))
        have hcl := hid (fun zs h1 h2 => hfit.out.trans (Tm.fitGo_clash (t := t) (k := k) (m := m) (zs := zs) hlt hs h1 h2))
        have hwf := hid (wf64 (s := p[j]?.getD 0) (by have := H8.out j hlt; omega) (by have := H6.out j hlt; omega))
        have HIs' : Hid (Ints w.heap.size w (some ⟨b, off + k, none⟩) (Tm.part t k)) := HIs
        clear hck HIs hfit hag
        generalize p[j]?.getD 0 = s at *
        generalize Tm.part t k = pt at *
        generalize Tm.endAt t k = q at *
        have h1 : (k : Int) ≤ (q : Int) := by omega
        have h2 : (q : Int) ≤ (ct : Int) := by omega
        have h3 : ¬ ct - k = 0 := by omega
        have Hq : Hid (q = k + pt.length) := by have := Hpl.out; show _ = _; omega
        obtain ⟨M, hM, hn, hso⟩ := hF.out
        have hrd : Hid (Reads w.heap.size w (.slice (some ⟨b, off + k, none⟩) (q - k) (ct - k)) pt) := ⟨b, off + k, ct - k, by rw [Hpl.out], HIs'.out, by have := Hpl.out; omega, by omega, by have := Hpl.out; omega⟩
        clear hF
        cases hms : m s with
        | none =>
          have hMs := hid (hn s hms)
          have hst := hid (hnew.out hms)
          have Hn := hid hn
          have Hso := hid hso
          have HM := hid hM
          clear hnew hold hcl hms hn hso hM
          go_wp2_with (first
            | (go_at_call 89; refine hE.mono ?_; clear hE; rintro e w1 ⟨rfl, hB1⟩; have hM1 := hid (HM.out.keep (hB1.block _ HM.out.lt)); have hB2 := hB.trans (hB1.mono hB.size))
            | (at_lookup; go_loud (refine wp_look_miss _ rfl _ _ 142 rfl 37 Try.underlying142 (zeroTerm _) w.heap.size j M rfl hM1.out s rfl hwf.out hMs.out ?_))
            | (at_mapUpdate; go_loud (refine wp_mapset _ rfl _ _ _ 142 rfl 37 Try.underlying142 w.heap.size j M rfl hM1.out (by unfold maxLen; omega) s rfl hwf.out _ rfl ?_); intro w2 hM2 hg2))
          have hB3 : Below w.heap.size w w2 := hB2.grown hg2 hB2.size (fun x e => by simp at e; omega)
          go_roundw
          case rel => exact ⟨j + 1, q, _, by omega, by omega, by go_num, rfl, hst, hag2, hB3, FitAt.upd Hn.out (fun x zs h => by obtain ⟨v, h1, h2⟩ := Hso.out x zs h; exact ⟨v, h1, h2.below (hB1.mono hB.size)⟩) hM2 (Below.grown (Below.refl _ _) hg2 hB2.size (fun x e => by simp at e; omega)) (hrd.out.below hB2)⟩
          case measure => simp [intOf]; omega
        | some zs =>
          obtain ⟨v, hMs, b3, off3, c3, rfl, hI3, hc3, hc4, _⟩ := hso s zs hms
          have hEq : ∀ W, Below wr.heap.size wr W → Calls Try.prog 57 #[.slice (some ⟨b3, off3, none⟩) zs.length c3, .slice (some ⟨b, off + k, none⟩) (q - k) (ct - k)] W fun e w' => e = .returned (.bool (sameB zs pt)) ∧ Below W.heap.size W w' := fun W hW => by
            rw [← Hpl.out]
            exact equal_any zs pt _ _ c3 (ct - k) W (((hI3.below (hW.mono hB.size)).mono (by have := hW.size; have := hB.size; omega))) (((HIs'.out.below hB).below (hW.mono hB.size)).mono (by have := hW.size; have := hB.size; omega)) (by omega)
          have HEq := hid hEq
          have HMs := hid hMs
          have Hn := hid hn
          have Hso := hid hso
          have HM := hid hM
          clear hEq hMs hn hso hM hI3
          by_cases he : zs = pt
          · subst he
            have hsb : sameB zs zs = true := by simp [sameB]
            have hst := hid (hold.out hms)
            clear hnew hold hcl hms
            go_wp2_with (first
              | (go_at_call 89; refine hE.mono ?_; clear hE; rintro e w1 ⟨rfl, hB1⟩; have hM1 := hid (HM.out.keep (hB1.block _ HM.out.lt)); have hB2 := hB.trans (hB1.mono hB.size))
              | (at_lookup; go_loud (refine wp_look_hit _ rfl _ _ 142 rfl 37 Try.underlying142 (zeroTerm _) w.heap.size j M rfl hM1.out s rfl hwf.out _ HMs.out ?_))
              | (go_at_call 57; refine (HEq.out _ hB1).mono ?_; rw [hsb]; rintro e w3 ⟨rfl, hB3⟩; have hM3 := hid (hM1.out.keep (hB3.block _ hM1.out.lt)); have hB4 := hB2.trans (hB3.mono hB2.size))
              | (at_mapUpdate; go_loud (refine wp_mapset _ rfl _ _ _ 142 rfl 37 Try.underlying142 w.heap.size j M rfl hM3.out (by unfold maxLen; omega) s rfl hwf.out _ rfl ?_); intro w2 hM2 hg2))
            have hB5 : Below w.heap.size w w2 := hB4.grown hg2 hB4.size (fun x e => by simp at e; omega)
            go_roundw
            case rel => exact ⟨j + 1, q, _, by omega, by omega, by go_num, rfl, hst, hag2, hB5, FitAt.upd Hn.out (fun x zs h => by obtain ⟨v, h1, h2⟩ := Hso.out x zs h; exact ⟨v, h1, (h2.below (hB1.mono hB.size)).below (hB3.mono hB2.size)⟩) hM2 (Below.grown (Below.refl _ _) hg2 hB4.size (fun x e => by simp at e; omega)) (hrd.out.below hB4)⟩
            case measure => simp [intOf]; omega
          · have hsb : sameB zs pt = false := by simp [sameB, he]
            have hst := hid (hcl.out zs hms he)
            clear hnew hold hcl hms he
            go_wp2_with (first
              | (go_at_call 89; refine hE.mono ?_; clear hE; rintro e w1 ⟨rfl, hB1⟩; have hM1 := hid (HM.out.keep (hB1.block _ HM.out.lt)); have hB2 := hB.trans (hB1.mono hB.size))
              | (at_lookup; go_loud (refine wp_look_hit _ rfl _ _ 142 rfl 37 Try.underlying142 (zeroTerm _) w.heap.size j M rfl hM1.out s rfl hwf.out _ HMs.out ?_))
              | (go_at_call 57; refine (HEq.out _ hB1).mono ?_; rw [hsb]; rintro e w3 ⟨rfl, hB3⟩; have hM3 := hid (hM1.out.keep (hB3.block _ hM1.out.lt)); have hB4 := hB2.trans (hB3.mono hB2.size)))
            go_ret2
            exact ⟨hB4, by rw [hst.out]; rfl⟩
      · have hsy := hid (fun h => hfit.out.trans (Tm.fitGo_sym (t := t) (k := k) (m := m) hlt hs h))
        have hot := hid (fun h => hfit.out.trans (Tm.fitGo_other (t := t) (k := k) (m := m) hlt hs h))
        have hag2 := hid (fun h => hag.out.sym hlt h)
        clear hfit hag
        generalize p[j]?.getD 0 = s at *
        generalize t[k]?.getD 0 = u at *
        by_cases he : u = s
        · have hn : (u != s) = false := by simp [he]
          have hst := hid (hsy.out he)
          have hag3 := hid (hag2.out he)
          clear hsy hot he hag2
          go_wp2
          go_roundw
          case rel => exact ⟨j + 1, k + 1, m, by omega, by omega, by go_num, by go_num, hst, hag3, hB, by obtain ⟨M, h1, h2⟩ := hF.out; exact ⟨M, h1.mono (by omega), h2⟩⟩
          case measure => simp [intOf]; omega
        · have hn : (u != s) = true := by simp [he]
          have hst := hid (hot.out he)
          clear hsy hot he hag2
          go_wp2
          go_ret2
          exact ⟨hB, by rw [hst.out]; rfl⟩
    · obtain rfl : j = p.length := by omega
      go_wp2
      go_ret2
      exact ⟨hB, by rw [hfit.out, List.drop_length, Tm.fitGo_nil]; exact ⟨_, _, rfl, Nat.le_refl _, hF.out⟩⟩
set_option maxRecDepth 100000 in
set_option maxHeartbeats 400000 in
theorem firstError_any (ss : List (List Int)) (hl : ss.length ≤ 1000) (a : Option Addr) (cap : Nat) (w : World) (hS : Subs w.heap.size w a ss) :
    Calls Try.prog 91 #[.slice a ss.length cap] w fun e w' => e = .returned (.int .i64 (Tm.firstErr ss)) ∧ Below w.heap.size w w' := by
  have HS := hid hS
  have hl' : (ss.length : Int) ≤ 1000 := by omega
  clear hS
  go_enter Try.func91, Try.ntmps91
  go_wp2
  go_loopw [8] (fun i wr => ∃ k : Nat, k ≤ ss.length ∧ i = .int .i64 (k : Int) ∧ Hid (Tm.firstErr ss = Tm.firstErr (ss.drop k)) ∧ Below w.heap.size w wr) (fun i _ => ss.length - (intOf i).toNat)
  case atStart => exact ⟨0, Nat.zero_le _, rfl, rfl, Below.refl _ _⟩
  case round =>
    obtain ⟨k, hk, rfl, hf, hB⟩ := hrel
    by_cases hlt : k < ss.length
    · have hlt' : (k : Int) < (ss.length : Int) := by omega
      obtain ⟨b, off, rfl, hb, hc⟩ := HS.out.at (by omega)
      obtain ⟨aj, cj, hcj, hIj, _⟩ := hc k hlt
      have hcj' := (hB.cell (p := ⟨b, off + k, none⟩) hb).trans hcj
      have hC := check_any (ss[k]?.getD []) aj cj wr ((hIj.below hB).mono hB.size)
      have hst := hid (Tm.firstErr_step (ss := ss) (k := k) hlt)
      have hsp := hid (Tm.firstErr_stop (ss := ss) (k := k) hlt)
      clear hcj hIj hc
      generalize ss[k]?.getD [] = t at *
      by_cases he : Tm.err t = 0
      · have hst' := hid (hf.out.trans (hst.out he))
        rw [he] at hC
        clear hst hsp he hf
        go_wp2_with (go_at_call 53; refine hC.mono ?_; clear hC; rintro e w1 ⟨rfl, hB1⟩)
        go_roundw
        case rel => exact ⟨k + 1, by omega, by go_num, hst'.out, hB.trans (hB1.mono hB.size)⟩
        case measure => simp [intOf]; omega
      · have hsp' := hid (hf.out.trans (hsp.out he))
        have hne : (Tm.err t != 0) = true := by simp [he]
        clear hst hsp he hf
        generalize Tm.err t = q at *
        go_wp2_with (go_at_call 53; refine hC.mono ?_; clear hC; rintro e w1 ⟨rfl, hB1⟩)
        go_ret
        exact ⟨by rw [hsp'.out]; rfl, hB.trans (hB1.mono hB.size)⟩
    · obtain rfl : k = ss.length := by omega
      have h0 : Hid (Tm.firstErr ss = 0) := by
        show _ = _
        rw [hf.out, List.drop_length]
        rfl
      clear hf
      go_wp2
      go_ret
      exact ⟨by rw [h0.out]; rfl, hB⟩
theorem subs_two (W : World) (p t : List Int) (ap at' : Option Addr) (cp ct n : Nat) (hn : n = W.heap.size + 1) (hP : Ints W.heap.size W ap p) (hT : Ints W.heap.size W at' t) (h1 : p.length ≤ cp ∧ cp ≤ maxLen ∧ (ap = none → cp = 0)) (h2 : t.length ≤ ct ∧ ct ≤ maxLen ∧ (at' = none → ct = 0)) :
    Subs n (W.alloc (.cells #[.slice ap p.length cp, .slice at' t.length ct] 37)) (some ⟨W.heap.size, 0, none⟩) [p, t] := by
  have hB : Below W.heap.size W (W.alloc (.cells #[.slice ap p.length cp, .slice at' t.length ct] 37)) := (Below.refl _ _).alloc (Nat.le_refl _) _
  have hnew := World.alloc_heap_new W (.cells #[.slice ap p.length cp, .slice at' t.length ct] 37)
  intro j hj
  simp only [List.length_cons, List.length_nil] at hj
  match j, hj with
  | 0, _ => exact ⟨W.heap.size, 0, ap, cp, rfl, by omega, (cell_at hnew 0).trans rfl, (hP.below hB).mono (by omega), h1⟩
  | 1, _ => exact ⟨W.heap.size, 0, at', ct, rfl, by omega, (cell_at hnew 1).trans rfl, (hT.below hB).mono (by omega), h2⟩
theorem first_two (p t : List Int) (ap at' : Option Addr) (cp ct : Nat) (W : World) (hP : Ints W.heap.size W ap p) (hT : Ints W.heap.size W at' t) (h1 : p.length ≤ cp ∧ cp ≤ maxLen ∧ (ap = none → cp = 0)) (h2 : t.length ≤ ct ∧ ct ≤ maxLen ∧ (at' = none → ct = 0)) :
    Calls Try.prog 91 #[.slice (some ⟨W.heap.size, 0, none⟩) 2 2] (W.alloc (.cells #[.slice ap p.length cp, .slice at' t.length ct] 37)) fun e w' => e = .returned (.int .i64 (Tm.fitErr p t)) ∧ Below W.heap.size W w' :=
  (firstError_any [p, t] (by simp) _ 2 _ (subs_two W p t ap at' cp ct _ (by simp) hP hT h1 h2)).mono fun e w' ⟨h, hB⟩ => ⟨h, ((Below.refl _ _).alloc (Nat.le_refl _) _).trans (hB.mono (by simp))⟩
theorem newS_cell {base : Nat} {W : World} {g c : Nat} {ss : List (List Int)} (h : NewS base W (.slice (some ⟨g, 0, none⟩) 8 c) ss) (hl : ss.length = 8) {k : Nat} (hk : k < 8) :
    base ≤ g ∧ ∃ x, W.cell? ⟨g, k, none⟩ = some x ∧ W.frozen? ⟨g, k, none⟩ = false := by
  obtain ⟨us, h1, _⟩ := h
  rw [hl] at h1
  have hus : us.length = 8 := by have := h1.1; omega
  have c0 := World.ownsRow.cellAt h1 k (by omega)
  rw [List.getElem?_eq_getElem (by omega)] at c0
  exact ⟨(World.ownsRow.lt h1 g rfl).1, _, c0, World.ownsRow.frozenAt h1 k⟩
set_option maxRecDepth 100000 in
set_option maxHeartbeats 1000000 in
theorem Fit_any (p t : List Int) (ap at' : Option Addr) (cp ct : Nat) (w : World) (hP : Ints w.heap.size w ap p) (hT : Ints w.heap.size w at' t) (h1 : p.length ≤ cp ∧ cp ≤ maxLen ∧ (ap = none → cp = 0)) (h2 : t.length ≤ ct ∧ ct ≤ maxLen ∧ (at' = none → ct = 0)) :
    Calls Try.prog 55 #[.slice ap p.length cp, .slice at' t.length ct] w fun e w' => ∃ v, e = .returned (.tuple #[v, .bool (Tm.fitIs p t), .int .i64 (Tm.fitErr p t)]) ∧ NewS w.heap.size w' v (Tm.fitVal p t) ∧ Below w.heap.size w w' := by
  have hC := first_two p t ap at' cp ct w hP hT h1 h2
  by_cases he : Tm.fitErr p t = 0
  · obtain ⟨hp, ht⟩ := Tm.fitErr_ok he
    have hfit : ∀ W, Below w.heap.size w W → Calls Try.prog 92 #[.slice ap p.length cp, .slice at' t.length ct] W fun e w' => Below W.heap.size W w' ∧ FitAns W w' e (Tm.fit p t) := fun W hW =>
      fit_any p t ap at' cp ct W hp ht ((hP.below hW).mono hW.size) ((hT.below hW).mono hW.size) h2.1 h2.2.1
    cases hf : Tm.fit p t with
    | none =>
      obtain ⟨e1, e2⟩ := Tm.fit_no he hf
      rw [hf] at hfit
      rw [e1, e2, he]
      rw [he] at hC
      have HF := hid hfit
      clear hfit hf e1 e2 hp ht he hP hT h1 h2
      go_enter Try.func55, Try.ntmps55
      go_wp2_with (first
        | (go_at_call 91; refine hC.mono ?_; clear hC; rintro e w1 ⟨rfl, hB1⟩)
        | (go_at_call 92; refine (HF.out _ hB1).mono ?_; rintro e w2 ⟨hB2, rfl⟩; have hB3 := hB1.trans (hB2.mono hB1.size)))
      go_ret3
      exact ⟨_, rfl, NewS.nil _ _, hB3⟩
    | some m =>
      obtain ⟨e1, e2⟩ := Tm.fit_yes he hf
      rw [hf] at hfit
      rw [e1, e2, he]
      rw [he] at hC
      have HF := hid hfit
      clear hfit hf e1 e2 hp ht he hP hT h1 h2
      go_enter Try.func55, Try.ntmps55
      go_wp2_with (first
        | (go_at_call 91; refine hC.mono ?_; clear hC; rintro e w1 ⟨rfl, hB1⟩)
        | (go_at_call 92; refine (HF.out _ hB1).mono ?_; rintro e w2 ⟨hB2, bm, N, rfl, hbm, M, hM, hMn, hMs⟩; have hB3 := hB1.trans (hB2.mono hB1.size); have HMn := hid hMn; have HMs := hid hMs; have HM := hid hM; clear hMn hMs hM)
        | (go_at_call 93; refine (none_any _).mono ?_; rintro e w3 ⟨v, rfl, hN, hB4⟩; have hB5 := hB3.trans (hB4.mono hB3.size); have hlen : (Tm.noneL 8).length = 8 := Tm.noneL_length 8; obtain ⟨g, c, rfl⟩ : ∃ g c, v = .slice (some ⟨g, 0, none⟩) 8 c := (by obtain ⟨us, h1, _⟩ := hN; rw [hlen] at h1; exact ownsRow_succ h1)))
      have hM3 := hid (HM.out.keep (hB4.block _ HM.out.lt))
      have hgm : g ≠ bm := by
        obtain ⟨us, h1, _⟩ := hN
        have := (World.ownsRow.lt h1 g rfl).1
        have := HM.out.lt
        omega
      have hg2 : w2.heap.size ≤ g := by
        obtain ⟨us, h1, _⟩ := hN
        exact (World.ownsRow.lt h1 g rfl).1
      have HN := hid hN
      clear hN HM hlen
      go_loopw [32] (fun i wr => ∃ k : Nat, k ≤ 8 ∧ i = .int .i64 (k : Int) ∧ Hid (NewS w.heap.size wr (.slice (some ⟨g, 0, none⟩) 8 c) (Tm.fitL m k)) ∧ Hid (IntMap wr bm N M) ∧ Below w1.heap.size w2 wr) (fun i _ => 8 - (intOf i).toNat)
      case atStart => exact ⟨0, Nat.zero_le _, rfl, by rw [Tm.fitL_zero]; exact HN.out.mono hB3.size, hM3, hB4.mono hB2.size⟩
      case round =>
        obtain ⟨k, hk, rfl, hNk, hMk, hBk⟩ := hrel
        by_cases hlt : k < 8
        · have hlt' : (k : Int) < 8 := by omega
          have hk0 : (0 : Int) ≤ (k : Int) := by omega
          have hwf := hid (wf64 (s := -1 - (k : Int)) (by omega) (by omega))
          cases hm : m (-1 - (k : Int)) with
          | none =>
            have hMs := hid (HMn.out _ hm)
            have hst := hid (Tm.fitL_none hm)
            clear hm
            go_wp2_with (first
              | (at_lookup; go_loud (refine wp_look_miss _ rfl _ _ 142 rfl 37 Try.underlying142 (zeroTerm _) bm N M rfl hMk.out (-1 - (k : Int)) rfl hwf.out hMs.out ?_)))
            go_roundw
            case rel => exact ⟨k + 1, by omega, by go_num, by rw [hst.out]; exact hNk.out, hMk, hBk⟩
            case measure => simp [intOf]; omega
          | some zs =>
            obtain ⟨v, hMs, b3, off3, c3, rfl, hI3, _, _, h30⟩ := HMs.out _ zs hm
            have hst := hid (Tm.fitL_some hm)
            have HMv := hid hMs
            have hs12 := hB2.size
            have hCl := clone_any zs b3 off3 c3 wr h30 ((hI3.below hBk).mono (by have := hBk.size; omega))
            clear hm hMs hI3
            go_wp2_with (first
              | (at_lookup; go_loud (refine wp_look_hit _ rfl _ _ 142 rfl 37 Try.underlying142 (zeroTerm _) bm N M rfl hMk.out (-1 - (k : Int)) rfl hwf.out _ HMv.out ?_))
              | (go_at_call 52; refine hCl.mono ?_; clear hCl; rintro e w5 ⟨u, rfl, hNu, hBu⟩; obtain ⟨au, cu, rfl, _⟩ := New.ints hNu; have hN5 := hid (hNk.out.below hBu); obtain ⟨hg5, x5, hc5, hf5⟩ := newS_cell hN5.out (Tm.fitL_length m k) hlt))
            have hBs : Below w.heap.size w wr := hB1.trans ((hB2.trans hBk).mono hB1.size)
            go_roundw
            case rel =>
              refine ⟨k + 1, by omega, by go_num, ?_, ?_, ?_⟩
              · rw [hst.out]
                exact hN5.out.set (Tm.fitL_length m k).symm (hNu.mono hBs.size) k
              · exact (hMk.out.keep (hBu.block _ hMk.out.lt)).keep (Below.heap_setCell _ _ _ _ (fun e => hgm e.symm))
              · exact (hBk.trans (hBu.mono (by have := hBk.size; omega))).setCell (p := ⟨g, k, none⟩) (show w1.heap.size ≤ g by omega) _
            case measure => simp [intOf]; omega
        · obtain rfl : k = 8 := by omega
          go_wp2
          go_ret3
          exact ⟨_, rfl, hNk.out, hB1.trans ((hB2.trans hBk).mono hB1.size)⟩
  · obtain ⟨e1, e2⟩ := Tm.fit_bad he
    rw [e1, e2]
    have hne : (Tm.fitErr p t != 0) = true := by simp [he]
    clear hP hT e1 e2 he h1 h2
    generalize Tm.fitErr p t = q at *
    go_enter Try.func55, Try.ntmps55
    go_wp2_with (first
      | (go_at_call 91; refine hC.mono ?_; clear hC; rintro e w1 ⟨rfl, hB1⟩))
    go_ret3
    exact ⟨_, rfl, NewS.nil _ _, hB1⟩
abbrev ptr (X : Nat) : Value := .pointer (some ⟨X, 0, none⟩)
def PartsAt (lo hi : Nat) (W : World) (v : Value) (Xs : List Nat) : Prop := ∃ a c, v = .slice a Xs.length c ∧ ∀ j, j < Xs.length → ∃ b off, a = some ⟨b, off, none⟩ ∧ lo ≤ b ∧ b < hi ∧ W.cell? ⟨b, off + j, none⟩ = some (ptr (Xs[j]?.getD 0))
inductive TreeIn (lo hi : Nat) (W : World) : Nat → List Int → Prop
  | mk (X : Nat) (s : Int) (v : Value) (Xs : List Nat) (zss : List (List Int)) : lo ≤ X → X < hi → Node W X s v → PartsAt lo hi W v Xs → Xs.length = Tm.room s → zss.length = Xs.length →
      (∀ j, j < Xs.length → TreeIn lo hi W (Xs[j]?.getD 0) (zss[j]?.getD [])) → TreeIn lo hi W X (s :: zss.flatten)
theorem PartsAt.keep {lo hi lo' hi' : Nat} {W W' : World} {v : Value} {Xs : List Nat} (h : PartsAt lo hi W v Xs) (h1 : lo' ≤ lo) (h2 : hi ≤ hi') (hk : ∀ k, lo ≤ k → k < hi → W'.heap[k]? = W.heap[k]?) : PartsAt lo' hi' W' v Xs := by
  obtain ⟨a, c, rfl, hc⟩ := h
  refine ⟨a, c, rfl, fun j hj => ?_⟩
  obtain ⟨b, off, e, hb1, hb2, hcell⟩ := hc j hj
  exact ⟨b, off, e, by omega, by omega, (World.cell?_of_block (a := ⟨b, off + j, none⟩) (hk b hb1 hb2)).trans hcell⟩
theorem TreeIn.keep {lo hi lo' hi' : Nat} {W W' : World} {X : Nat} {zs : List Int} (h : TreeIn lo hi W X zs) (h1 : lo' ≤ lo) (h2 : hi ≤ hi') (hk : ∀ k, lo ≤ k → k < hi → W'.heap[k]? = W.heap[k]?) : TreeIn lo' hi' W' X zs := by
  induction h with
  | mk X s v Xs zss hX1 hX2 hN hP hr hl _ ih =>
    exact TreeIn.mk X s v Xs zss (by omega) (by omega) ((hk X hX1 hX2).trans hN) (hP.keep h1 h2 hk) hr hl ih
theorem TreeIn.under {lo hi n : Nat} {W W' : World} {X : Nat} {zs : List Int} (h : TreeIn lo hi W X zs) (hB : Below n W W') (hn : hi ≤ n) : TreeIn lo hi W' X zs :=
  h.keep (Nat.le_refl _) (Nat.le_refl _) fun k _ hk => hB.block k (by omega)
theorem TreeIn.wide {lo hi lo' hi' : Nat} {W : World} {X : Nat} {zs : List Int} (h : TreeIn lo hi W X zs) (h1 : lo' ≤ lo) (h2 : hi ≤ hi') : TreeIn lo' hi' W X zs := h.keep h1 h2 fun _ _ _ => rfl
theorem Tm.parts_flat {zs : List Int} {m : Nat} (hm : Tm.pos zs 0 (m + 1) ≤ zs.length) : (zs.take (Tm.pos zs 0 (m + 1))).drop 1 = (zs.take (Tm.pos zs 0 m)).drop 1 ++ (zs.drop (Tm.pos zs 0 m)).take (Tm.pos zs 0 (m + 1) - Tm.pos zs 0 m) := by
  have h1 := Tm.pos_mono zs 0 m (m + 1) (by omega)
  have h0 : 1 ≤ Tm.pos zs 0 m := Tm.pos_gt zs 0 m
  rw [show zs.take (Tm.pos zs 0 (m + 1)) = zs.take (Tm.pos zs 0 m) ++ (zs.drop (Tm.pos zs 0 m)).take (Tm.pos zs 0 (m + 1) - Tm.pos zs 0 m) from by
    rw [← List.take_add]; congr 1; omega]
  rw [List.drop_append_of_le_length]
  simp only [List.length_take]
  omega
def GrownSt (base : Nat) (wr : World) (zs : List Int) (m : Nat) (v : Value) (xs : List Value) : Prop :=
  ∃ (Xs : List Nat) (zss : List (List Int)), Xs.length = m ∧ zss.length = m ∧ xs = Xs.map ptr ∧ zss.flatten = (zs.take (Tm.pos zs 0 m)).drop 1 ∧
    ∀ j, j < m → ∃ lo hi, base < lo ∧ hi ≤ wr.heap.size ∧ TreeIn lo hi wr (Xs[j]?.getD 0) (zss[j]?.getD []) ∧ ∀ k, v.ownBlock = some k → k < lo ∨ hi ≤ k
theorem GrownSt.start (base : Nat) (wr : World) (zs : List Int) (v : Value) (xs : List Value) (h : xs = []) : GrownSt base wr zs 0 v xs :=
  ⟨[], [], rfl, rfl, by rw [h]; rfl, by rw [Tm.pos_zero]; simp, fun j hj => by omega⟩
theorem GrownSt.step {base lo hi : Nat} {wr w2 w3 : World} {zs pt : List Int} {m : Nat} {v v' : Value} {xs : List Value} {p : Nat} (h : GrownSt base wr zs m v xs) (hlo : lo = wr.heap.size) (hb : base < lo) (hlo2 : lo ≤ hi) (hB1 : ∀ k, k < lo → w2.heap[k]? = wr.heap[k]?)
    (hT : TreeIn lo hi w2 p pt) (hown : ∀ k, v.ownBlock = some k → k < lo) (hown' : v'.ownBlock = v.ownBlock ∨ ∃ q, v'.ownBlock = some q ∧ hi ≤ q) (hs3 : hi ≤ w3.heap.size)
    (hk : ∀ k, base < k → k < hi → (∀ q, v.ownBlock = some q → k ≠ q) → w3.heap[k]? = w2.heap[k]?)
    (hpt : pt = (zs.drop (Tm.pos zs 0 m)).take (Tm.pos zs 0 (m + 1) - Tm.pos zs 0 m)) (hle : Tm.pos zs 0 (m + 1) ≤ zs.length) : GrownSt base w3 zs (m + 1) v' (xs ++ [ptr p]) := by
  obtain ⟨Xs, zss, h1, h2, h3, h4, h5⟩ := h
  refine ⟨Xs ++ [p], zss ++ [pt], by simp [h1], by simp [h2], by simp [h3], by rw [List.flatten_append, h4, Tm.parts_flat hle, hpt]; simp, fun j hj => ?_⟩
  by_cases hjm : j < m
  · obtain ⟨l, h, e1, e2, hTj, e3⟩ := h5 j hjm
    refine ⟨l, h, e1, by omega, ?_, ?_⟩
    · rw [List.getElem?_append_left (by omega), List.getElem?_append_left (by omega)]
      refine hTj.keep (Nat.le_refl _) (Nat.le_refl _) fun k hk1 hk2 => ?_
      rw [hk k (by omega) (by omega) (fun q hq => by have := e3 q hq; omega), hB1 k (by omega)]
    · intro k hk'
      rcases hown' with e | ⟨q, e, hq⟩
      · exact e3 k (by rw [← e]; exact hk')
      · rw [e] at hk'
        have : q = k := by simpa using hk'
        exact .inr (by omega)
  · obtain rfl : j = m := by omega
    refine ⟨lo, hi, hb, hs3, ?_, ?_⟩
    · rw [List.getElem?_append_right (by omega), List.getElem?_append_right (by omega), h1, h2]
      simp only [Nat.sub_self, List.getElem?_cons_zero, Option.getD_some]
      refine hT.keep (Nat.le_refl _) (Nat.le_refl _) fun k hk1 hk2 => hk k (by omega) hk2 (fun q hq => by have := hown q hq; omega)
    · intro k hk'
      rcases hown' with e | ⟨q, e, hq⟩
      · exact .inl (hown k (by rw [← e]; exact hk'))
      · rw [e] at hk'
        have : q = k := by simpa using hk'
        exact .inr (by omega)
theorem GrownSt.done {base r : Nat} {wr : World} {zs : List Int} {s : Int} {v : Value} {xs : List Value} (h : GrownSt base wr zs r v xs) (hN : Node wr base s v) (hown : wr.ownsRow (base + 1) 161 1 v r xs) (hr : r = Tm.room s) (hs : zs[0]?.getD 0 = s) (h0 : 0 < zs.length) :
    TreeIn base wr.heap.size wr base (zs.take (Tm.pos zs 0 r)) := by
  obtain ⟨Xs, zss, h1, h2, h3, h4, h5⟩ := h
  have hz : zs.take (Tm.pos zs 0 r) = s :: zss.flatten := by
    rw [h4]
    have hp : 0 < Tm.pos zs 0 r := Tm.pos_gt zs 0 r
    cases zs with
    | nil => simp at h0
    | cons a l =>
      simp at hs
      subst hs
      obtain ⟨q, hq⟩ : ∃ q, Tm.pos (a :: l) 0 r = q + 1 := ⟨Tm.pos (a :: l) 0 r - 1, by omega⟩
      rw [hq]
      simp
  rw [hz]
  refine TreeIn.mk base s v Xs zss (Nat.le_refl _) hN.lt hN ?_ (by omega) (by omega) (fun j hj => ?_)
  · rcases hown.2 with ⟨rfl, hn⟩ | ⟨g, cap, cur, rfl, hb, hg, _⟩
    · exact ⟨none, 0, by rw [h1, hn], fun j hj => by omega⟩
    · refine ⟨_, cap, by rw [h1], fun j hj => ⟨g, 0, rfl, by omega, (Array.getElem?_eq_some_iff.1 hg).1, ?_⟩⟩
      have h5 := World.ownsRow.cellAt hown j (by omega)
      rw [Nat.zero_add, h5, h3]
      simp [hj]
  · obtain ⟨lo, hi, e1, e2, hT, _⟩ := h5 j (by omega)
    exact hT.wide (by omega) e2
theorem flatten_snoc {zss : List (List Int)} {k : Nat} (hk : k < zss.length) : (zss.take (k + 1)).flatten = (zss.take k).flatten ++ (zss[k]?.getD []) := by
  rw [takeS_snoc hk, List.flatten_append]; simp
theorem Tm.run_flatten (zss : List (List Int)) : (∀ j, j < zss.length → Tm.run (zss[j]?.getD []) 1 = (zss[j]?.getD []).length) → Tm.run zss.flatten zss.length = zss.flatten.length := by
  induction zss with
  | nil => intro _; simp [Tm.run_zero]
  | cons t l ih =>
    intro h
    have h0 : Tm.run t 1 = t.length := by simpa using h 0 (by simp)
    have hl := ih (fun j hj => by simpa using h (j + 1) (by simpa using hj))
    rw [List.length_cons, Nat.add_comm, Tm.run_add, List.flatten_cons, Tm.run_app t _ 1 (by omega), h0, List.drop_left, hl, List.length_append]
theorem TreeIn.run {lo hi : Nat} {W : World} {X : Nat} {zs : List Int} (h : TreeIn lo hi W X zs) : Tm.run zs 1 = zs.length := by
  induction h with
  | mk X s v Xs zss _ _ _ _ hr hl _ ih =>
    rw [show (1 : Nat) = 0 + 1 from rfl, Tm.run_cons, Nat.zero_add, ← hr, ← hl, Tm.run_flatten zss (fun j hj => ih j (by omega)), List.length_cons]
    omega
theorem Tm.endAt_mid {pre t post : List Int} {k : Nat} (hk : k ≤ t.length) (he : Tm.endAt t k ≤ t.length) : Tm.endAt (pre ++ (t ++ post)) (pre.length + k) = pre.length + Tm.endAt t k := by
  unfold Tm.endAt at he ⊢
  rw [List.drop_append, List.drop_of_length_le (by omega), List.nil_append, Nat.add_sub_cancel_left, List.drop_append_of_le_length hk, Tm.run_app _ _ _ (by rw [List.length_drop]; omega)]
  omega
theorem Tm.part_mid {pre t post : List Int} {k : Nat} (hk : k ≤ t.length) (he : Tm.endAt t k ≤ t.length) : Tm.part (pre ++ (t ++ post)) (pre.length + k) = Tm.part t k := by
  unfold Tm.part
  rw [Tm.endAt_mid hk he, List.drop_append, List.drop_of_length_le (by omega), List.nil_append, Nat.add_sub_cancel_left, List.drop_append_of_le_length hk, show pre.length + Tm.endAt t k - (pre.length + k) = Tm.endAt t k - k from by omega,
    List.take_append_of_le_length (by rw [List.length_drop]; omega)]
theorem Against.fin {p t : List Int} {k : Nat} (h : Against p t p.length k) : k = t.length := by
  obtain ⟨o, h1, h2, h3, h4⟩ := h
  rw [List.drop_length, Tm.run_nil] at h1
  have : o = 0 := by omega
  subst this
  rw [Tm.run_zero] at h2
  omega
theorem drop_flatten {zss : List (List Int)} {j : Nat} (hj : j < zss.length) : (zss.drop j).flatten = zss[j]?.getD [] ++ (zss.drop (j + 1)).flatten := by
  rw [List.drop_eq_getElem_cons hj, List.flatten_cons]
  simp [hj]
theorem split_flatten {zss : List (List Int)} {j : Nat} (hj : j < zss.length) : zss.flatten = (zss.take j).flatten ++ (zss[j]?.getD [] ++ (zss.drop (j + 1)).flatten) := by
  rw [← drop_flatten hj, ← List.flatten_append, List.take_append_drop]
theorem Tm.part_all0 {ts : List Int} (h : Tm.run ts 1 = ts.length) : Tm.part ts 0 = ts := by
  unfold Tm.part Tm.endAt
  rw [List.drop_zero, h, Nat.zero_add, Nat.sub_zero, List.take_length]
def FitS (W : World) (Bs lo hi : Nat) (m : Asg) : Prop := ∀ v : Nat, v < 8 → W.frozen? ⟨Bs, v, none⟩ = false ∧
  ((m (-1 - (v : Int)) = none ∧ W.cell? ⟨Bs, v, none⟩ = some (.pointer none)) ∨ ∃ zs X, m (-1 - (v : Int)) = some zs ∧ W.cell? ⟨Bs, v, none⟩ = some (ptr X) ∧ TreeIn lo hi W X zs ∧ zs.length ≤ 30)
theorem FitS.keep {W W' : World} {Bs lo hi n : Nat} {m : Asg} (h : FitS W Bs lo hi m) (hB : Below n W W') (h1 : Bs < n) (h2 : hi ≤ n) : FitS W' Bs lo hi m := fun v hv => by
  obtain ⟨hf, hc⟩ := h v hv
  refine ⟨by rw [← hf]; simp only [World.frozen?, hB.block Bs h1], ?_⟩
  rcases hc with ⟨e1, e2⟩ | ⟨zs, X, e1, e2, hT, e3⟩
  · exact .inl ⟨e1, (hB.cell (p := ⟨Bs, v, none⟩) h1).trans e2⟩
  · exact .inr ⟨zs, X, e1, (hB.cell (p := ⟨Bs, v, none⟩) h1).trans e2, hT.under hB h2, e3⟩
theorem frozen_setCell' (W : World) (a b : Addr) (v : Value) : (W.setCell a v).frozen? b = W.frozen? b := World.frozen?_setCell ..
theorem FitS.set {W : World} {Bs lo hi T v : Nat} {m : Asg} {ts : List Int} (h : FitS W Bs lo hi m) (hv : v < 8) (hlo : Bs < lo) (hT : TreeIn lo hi W T ts) (ht : ts.length ≤ 30) :
    FitS (W.setCell ⟨Bs, v, none⟩ (ptr T)) Bs lo hi (upd m (-1 - (v : Int)) ts) := fun x hx => by
  have hk : ∀ k, lo ≤ k → k < hi → (W.setCell ⟨Bs, v, none⟩ (ptr T)).heap[k]? = W.heap[k]? := fun k h1 _ => Below.heap_setCell _ _ _ k (by simp; omega)
  obtain ⟨hf, hc⟩ := h x hx
  refine ⟨by rw [frozen_setCell']; exact hf, ?_⟩
  by_cases e : x = v
  · subst e
    refine .inr ⟨ts, T, upd_same _ _ _, World.cell?_setCell_same' _ _ _ ?_, hT.keep (Nat.le_refl _) (Nat.le_refl _) hk, ht⟩
    rcases hc with ⟨_, e2⟩ | ⟨_, _, _, e2, _⟩ <;> rw [e2] <;> rfl
  · have hne : (-1 - (x : Int)) ≠ (-1 - (v : Int)) := by omega
    have hcc : (W.setCell ⟨Bs, v, none⟩ (ptr T)).cell? ⟨Bs, x, none⟩ = W.cell? ⟨Bs, x, none⟩ := World.cell?_setCell_other _ _ _ _ (fun h => e (by cases h; rfl))
    rw [upd_other _ _ hne, hcc]
    rcases hc with ⟨e1, e2⟩ | ⟨zs, X, e1, e2, hT', e3⟩
    · exact .inl ⟨e1, e2⟩
    · exact .inr ⟨zs, X, e1, e2, hT'.keep (Nat.le_refl _) (Nat.le_refl _) hk, e3⟩
end Go.Proofs.Ytgeknojpcjadkaa
namespace Go.Proofs.Ytgeknojpcjadkaa
open Go.Proofs Go.RowKit Go.Shelf
def Tm.sym (x : List Int) : Int := x[0]?.getD 0
def Tm.kid (x : List Int) (m : Nat) : List Int := Tm.part x (Tm.pos x 0 m)
theorem Tm.kid_short {x : List Int} {m : Nat} (h : m < Tm.room (Tm.sym x)) : (Tm.kid x m).length < x.length := by
  cases x with
  | nil => simp [Tm.sym, Tm.room] at h
  | cons s l =>
    have := Tm.pos_gt (s :: l) 0 m
    simp only [Tm.kid, Tm.part, List.length_take, List.length_drop, List.length_cons]
    omega
inductive Tm.Gt (r : Int → Int) : List Int → List Int → Prop
  | eq (a b : List Int) (m : Nat) : m < Tm.room (Tm.sym a) → Tm.kid a m = b → Tm.Gt r a b
  | sub (a b : List Int) (m : Nat) : m < Tm.room (Tm.sym a) → Tm.Gt r (Tm.kid a m) b → Tm.Gt r a b
  | rk (a b : List Int) : 0 ≤ Tm.sym a → 0 ≤ Tm.sym b → (∀ m, m < Tm.room (Tm.sym b) → Tm.Gt r a (Tm.kid b m)) → Tm.sym a ≠ Tm.sym b → r (Tm.sym b) < r (Tm.sym a) → Tm.Gt r a b
  | lex (a b : List Int) (m : Nat) : 0 ≤ Tm.sym a → Tm.sym a = Tm.sym b → (∀ m, m < Tm.room (Tm.sym b) → Tm.Gt r a (Tm.kid b m)) → m < Tm.room (Tm.sym a) → (∀ l, l < m → Tm.kid a l = Tm.kid b l) → Tm.Gt r (Tm.kid a m) (Tm.kid b m) → Tm.Gt r a b
theorem Tm.Gt.pos {r : Int → Int} {a b : List Int} (h : Tm.Gt r a b) : 0 ≤ Tm.sym a := by
  have key : ∀ m, m < Tm.room (Tm.sym a) → 0 ≤ Tm.sym a := fun m hm => by unfold Tm.room at hm; split at hm <;> (try split at hm) <;> omega
  cases h with
  | eq _ _ m hm _ => exact key m hm
  | sub _ _ m hm _ => exact key m hm
  | rk _ _ h0 _ _ _ _ => exact h0
  | lex _ _ _ h0 _ _ _ _ _ => exact h0
theorem Tm.Gt.trans_n {r : Int → Int} : ∀ (n : Nat) (a b c : List Int), a.length + b.length + c.length < n → Tm.Gt r a b → Tm.Gt r b c → Tm.Gt r a c := by
  intro n
  induction n with
  | zero => intro a b c hn; omega
  | succ n ih =>
    intro a b c hn hab hbc
    have main : (∀ m, m < Tm.room (Tm.sym b) → Tm.Gt r a (Tm.kid b m)) → 0 ≤ Tm.sym a → ((Tm.sym a ≠ Tm.sym b ∧ r (Tm.sym b) < r (Tm.sym a)) ∨ (Tm.sym a = Tm.sym b ∧ ∃ m, m < Tm.room (Tm.sym a) ∧ (∀ l, l < m → Tm.kid a l = Tm.kid b l) ∧ Tm.Gt r (Tm.kid a m) (Tm.kid b m))) → Tm.Gt r a c := by
      intro hall ha0 how
      cases hbc with
      | eq _ _ m hm e => rw [← e]; exact hall m hm
      | sub _ _ m hm h => exact ih a (Tm.kid b m) c (by have := Tm.kid_short hm; omega) (hall m hm) h
      | rk _ _ hb0 hc0 hcs hne hr =>
        have hall2 : ∀ m, m < Tm.room (Tm.sym c) → Tm.Gt r a (Tm.kid c m) := fun m hm => ih a b (Tm.kid c m) (by have := Tm.kid_short hm; omega) hab (hcs m hm)
        rcases how with ⟨h1, h2⟩ | ⟨h1, _⟩
        · refine .rk a c ha0 hc0 hall2 (fun e => ?_) (by omega)
          rw [e] at h2; omega
        · exact .rk a c ha0 hc0 hall2 (by rw [h1]; exact hne) (by rw [h1]; exact hr)
      | lex _ _ m hb0 hs hcs hm hl hk =>
        have hall2 : ∀ m, m < Tm.room (Tm.sym c) → Tm.Gt r a (Tm.kid c m) := fun m hm => ih a b (Tm.kid c m) (by have := Tm.kid_short hm; omega) hab (hcs m hm)
        rcases how with ⟨h1, h2⟩ | ⟨h1, m', hm', hl', hk'⟩
        · exact .rk a c ha0 (by omega) hall2 (by rw [← hs]; exact h1) (by rw [← hs]; exact h2)
        · rcases Nat.lt_trichotomy m m' with hlt | heq | hgt
          · exact .lex a c m ha0 (h1.trans hs) hall2 (by omega) (fun l hlm => (hl' l (by omega)).trans (hl l hlm)) (by rw [hl' m hlt]; exact hk)
          · subst heq
            refine .lex a c m ha0 (h1.trans hs) hall2 hm' (fun l hlm => (hl' l hlm).trans (hl l hlm)) (ih _ _ _ ?_ hk' hk)
            have e1 := Tm.kid_short (x := a) hm'
            have e2 := Tm.kid_short (x := b) hm
            have e3 := Tm.kid_short (x := c) (m := m) (by rw [← hs]; exact hm)
            omega
          · exact .lex a c m' ha0 (h1.trans hs) hall2 hm' (fun l hlm => (hl' l hlm).trans (hl l (by omega))) (by rw [← hl m' hgt]; exact hk')
    cases hab with
    | eq _ _ m hm e => exact .sub a c m hm (by rw [e]; exact hbc)
    | sub _ _ m hm h => exact .sub a c m hm (ih _ b c (by have := Tm.kid_short hm; omega) h hbc)
    | rk _ _ ha0 hb0 hall hne hr => exact main hall ha0 (.inl ⟨hne, hr⟩)
    | lex _ _ m ha0 hs hall hm hl hk => exact main hall ha0 (.inr ⟨hs, m, hm, hl, hk⟩)
theorem Tm.Gt.trans {r : Int → Int} {a b c : List Int} (h : Tm.Gt r a b) (h' : Tm.Gt r b c) : Tm.Gt r a c := Tm.Gt.trans_n _ a b c (Nat.lt_succ_self _) h h'
end Go.Proofs.Ytgeknojpcjadkaa
namespace Go.Proofs.Ytgeknojpcjadkaa
open Go.Proofs Go.RowKit Go.Shelf Go.Maps
theorem Keep.cell {n m : Nat} {a b : World} (h : Keep n m a b) {p : Addr} (h1 : p.block < n) (h2 : p.block ≠ m) : b.cell? p = a.cell? p := World.cell?_of_block (h.block p.block h1 h2)
theorem keep_drewN {n m : Nat} {a b : World} (h : Keep n m a b) (d : Nat) : Keep n m a (b.drewN d) := ⟨h.os, h.tape, h.output, h.size, h.block⟩
end Go.Proofs.Ytgeknojpcjadkaa
namespace Go.Proofs.Ytgeknojpcjadkaa
open Go.Proofs Go.RowKit Go.Shelf Go.Maps
attribute [local go_sem] Oper.semAt_some
end Go.Proofs.Ytgeknojpcjadkaa
