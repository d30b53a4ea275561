/-
  Parts of the proof: Fit2, Fit3, Tree4, Ord1, Tree5, Over1.
-/
import Derived.Test.YtgeknojpcjadkaaBlm2
import Derived.Maps.AppendAt
import Derived.Deep.RegionHeld3
namespace Go.Proofs.Ytgeknojpcjadkaa
open Go.Proofs Go.RowKit Go.Shelf Go.Maps
set_option maxRecDepth 100000 in
set_option maxHeartbeats 1000000 in
theorem equal_any (xs ys : List Int) (a b : Option Addr) (ca cb : Nat) (w : World) (hX : Ints w.heap.size w a xs) (hY : Ints w.heap.size w b ys) (hm : xs.length ≤ maxLen) :
    Calls Try.prog 57 #[.slice a xs.length ca, .slice b ys.length cb] w fun e w' => e = .returned (.bool (sameB xs ys)) ∧ Below w.heap.size w w' := by
  unfold maxLen at hm
  by_cases hl : xs.length = ys.length
  · have hne : ((xs.length : Int) != (ys.length : Int)) = false := by simp [hl]
    have Hl : Hid (xs.length = ys.length) := hl
    clear hl
    go_enter Try.func57, Try.ntmps57
    go_wp2
    go_loopw [13] (fun i wr => ∃ k : Nat, k ≤ xs.length ∧ i = .int .i64 (k : Int) ∧ Hid (xs.take k = ys.take k) ∧ Below w.heap.size w wr) (fun i _ => xs.length - (intOf i).toNat)
    case atStart => exact ⟨0, Nat.zero_le _, rfl, by simp [Hid], Below.refl _ _⟩
    case round =>
      obtain ⟨k, hk, rfl, hsame, hB⟩ := hrel
      by_cases hlt : k < xs.length
      · have hlt' : (k : Int) < (xs.length : Int) := by omega
        have hly : k < ys.length := by have := Hl.out; omega
        have hly' : (k : Int) < (ys.length : Int) := by omega
        obtain ⟨b1, off1, rfl, hb1, hc1⟩ := (hX.below hB).at (by omega)
        obtain ⟨b2, off2, rfl, hb2, hc2⟩ := (hY.below hB).at (by omega)
        have hx := hc1 k hlt
        have hy := hc2 k hly
        have hst := show Hid _ from @same_step xs ys k hlt hly hsame.out
        have hno := show Hid _ from @same_not xs ys k
        clear hc1 hc2 hX hY hly
        generalize xs[k]?.getD 0 = s at *
        generalize ys[k]?.getD 0 = u at *
        by_cases he : s = u
        · have hn : (s != u) = false := by simp [he]
          have He : Hid (s = u) := he
          clear he hno
          go_wp2
          go_quiet (fail)
          go_wp2
          go_roundw
          case rel => exact ⟨k + 1, by omega, by go_num, hst.out He.out, below_drewN hB _⟩
          case measure => simp [intOf]; omega
        · have hn : (s != u) = true := by simp [he]
          have hf := show Hid _ from hno.out he
          clear he hno hst
          go_wp2
          go_quiet (fail)
          go_wp2
          go_ret
          exact ⟨by rw [hf.out]; rfl, below_drewN hB _⟩
      · obtain rfl : k = xs.length := by omega
        have hy := show Hid _ from same_yes hsame.out Hl.out
        clear hX hY
        go_wp2
        go_ret
        exact ⟨by rw [hy.out]; rfl, hB⟩
  · have hne : ((xs.length : Int) != (ys.length : Int)) = true := by simp; omega
    rw [same_len hl]
    clear hl hX hY
    go_enter Try.func57, Try.ntmps57
    go_wp2
    go_ret
    exact ⟨rfl, Below.refl _ _⟩
theorem zeroTerm (w : World) : (zeroValue 37).run Try.prog w = .ok (.slice none 0 0) w := by kernel_rfl
def FitAns (w w' : World) (e : Ending) : Option Asg → Prop
  | none => e = .returned (.tuple #[.map none, .bool false])
  | some m => ∃ bm N, e = .returned (.tuple #[.map (some bm), .bool true]) ∧ w.heap.size ≤ bm ∧ FitAt w.heap.size w' bm N m
set_option maxRecDepth 100000 in
set_option maxHeartbeats 1000000 in
theorem fit_any (p t : List Int) (ap at' : Option Addr) (cp ct : Nat) (w : World) (hp : Tm.err p = 0) (ht : Tm.err t = 0) (hP : Ints w.heap.size w ap p) (hT : Ints w.heap.size w at' t) (hct : t.length ≤ ct) (hct2 : ct ≤ maxLen) :
    Calls Try.prog 92 #[.slice ap p.length cp, .slice at' t.length ct] w fun e w' => Below w.heap.size w w' ∧ FitAns w w' e (Tm.fit p t) := by
  have hp30 := Tm.err_len hp
  have ht30 := Tm.err_len ht
  have h8 := Tm.known8 hp
  have h6 := fun k (hk : k < p.length) => Tm.known_lt (Tm.all_at (Tm.err_all hp) hk)
  have hAg := hid (Against.start hp ht)
  obtain ⟨b, off, rfl, hb, hc⟩ := hT.at (Tm.err_pos ht)
  obtain ⟨b2, off2, rfl, hb2, hc2⟩ := hP.at (Tm.err_pos hp)
  have hmm := @run_makeMap Try.prog
  have hct3 : ct ≤ 9223372036854775807 := hct2
  have HT := hid hT
  have Hc := hid hc
  have Hc2 := hid hc2
  have H8 := hid h8
  have H6 := hid h6
  have hl1 : (p.length : Int) ≤ 30 := by omega
  have hl2 : (t.length : Int) ≤ 30 := by omega
  clear hT hP hc hc2 h8 h6 hp ht
  go_enter Try.func92, Try.ntmps92
  go_wp2
  go_loopw [7, 16] (fun q i wr => ∃ (j k : Nat) (m : Asg), j ≤ p.length ∧ k ≤ t.length ∧ i = .int .i64 (j : Int) ∧ q = .int .i64 (k : Int) ∧ Hid (Tm.fit p t = Tm.fitGo t (p.drop j) k m) ∧ Hid (Against p t j k) ∧ Below w.heap.size w wr ∧ Hid (FitAt w.heap.size wr w.heap.size j m)) (fun _ i _ => p.length - (intOf i).toNat)
  case atStart => exact ⟨0, 0, fun _ => none, Nat.zero_le _, Nat.zero_le _, rfl, rfl, by simp [Hid, Tm.fit], hAg, (Below.refl _ _).alloc (Nat.le_refl _) _, ⟨_, IntMap.made w, fun _ _ => rfl, fun _ _ h => by cases h⟩⟩
  case round =>
    obtain ⟨j, k, m, hj, hk, rfl, rfl, hfit, hag, hB, hF⟩ := hrel
    by_cases hlt : j < p.length
    · have hlt' : (j : Int) < (p.length : Int) := by omega
      have hkt := hag.out.pos hlt
      have hkt' : (k : Int) < (t.length : Int) := by omega
      have hcj := (hB.cell (p := ⟨b2, off2 + j, none⟩) hb2).trans (Hc2.out j hlt)
      have hck := (hB.cell (p := ⟨b, off + k, none⟩) hb).trans (Hc.out k hkt)
      by_cases hs : p[j]?.getD 0 < 0
      · have hE := end_any t ht30 (some ⟨b, off, none⟩) ct k (by omega) wr ((HT.out.below hB).mono hB.size)
        have hle := hag.out.endAt_le hlt
        have hgt := Tm.endAt_gt t k
        have hag2 := hid (hag.out.var hlt hs)
        have Hpl : Hid ((Tm.part t k).length = Tm.endAt t k - k) := by show _ = _; simp only [Tm.part, List.length_take, List.length_drop]; omega
        have HIs := hid (HT.out.sub k (Tm.endAt t k - k))
        have hnew := hid (fun h => hfit.out.trans (Tm.fitGo_new (t := t) (k := k) (m := m) hlt hs h))
        have hold := hid (fun h => hfit.out.trans (Tm.fitGo_old (t := t) (k := k) (m := m) hlt hs h))
        have hcl := hid (fun zs h1 h2 => hfit.out.trans (Tm.fitGo_clash (t := t) (k := k) (m := m) (zs := zs) hlt hs h1 h2))
        have hwf := hid (wf64 (s := p[j]?.getD 0) (by have := H8.out j hlt; omega) (by have := H6.out j hlt; omega))
        have HIs' : Hid (Ints w.heap.size w (some ⟨b, off + k, none⟩) (Tm.part t k)) := HIs
        clear hck HIs hfit hag
        generalize p[j]?.getD 0 = s at *
        generalize Tm.part t k = pt at *
        generalize Tm.endAt t k = q at *
        have h1 : (k : Int) ≤ (q : Int) := by omega
        have h2 : (q : Int) ≤ (ct : Int) := by omega
        have h3 : ¬ ct - k = 0 := by omega
        have Hq : Hid (q = k + pt.length) := by have := Hpl.out; show _ = _; omega
        obtain ⟨M, hM, hn, hso⟩ := hF.out
        have hrd : Hid (Reads w.heap.size w (.slice (some ⟨b, off + k, none⟩) (q - k) (ct - k)) pt) := ⟨b, off + k, ct - k, by rw [Hpl.out], HIs'.out, by have := Hpl.out; omega, by omega, by have := Hpl.out; omega⟩
        clear hF
        cases hms : m s with
        | none =>
          have hMs := hid (hn s hms)
          have hst := hid (hnew.out hms)
          have Hn := hid hn
          have Hso := hid hso
          have HM := hid hM
          clear hnew hold hcl hms hn hso hM
          go_wp2_with (first
            | (go_at_call 89; refine hE.mono ?_; clear hE; rintro e w1 ⟨rfl, hB1⟩; have hM1 := hid (HM.out.keep (hB1.block _ HM.out.lt)); have hB2 := hB.trans (hB1.mono hB.size))
            | (at_lookup; go_loud (refine wp_look_miss _ rfl _ _ 142 rfl 37 Try.underlying142 (zeroTerm _) w.heap.size j M rfl hM1.out s rfl hwf.out hMs.out ?_))
            | (at_mapUpdate; go_loud (refine wp_mapset _ rfl _ _ _ 142 rfl 37 Try.underlying142 w.heap.size j M rfl hM1.out (by unfold maxLen; omega) s rfl hwf.out _ rfl ?_); intro w2 hM2 hg2))
          have hB3 : Below w.heap.size w w2 := hB2.grown hg2 hB2.size (fun x e => by simp at e; omega)
          go_roundw
          case rel => exact ⟨j + 1, q, _, by omega, by omega, by go_num, rfl, hst, hag2, hB3, FitAt.upd Hn.out (fun x zs h => by obtain ⟨v, h1, h2⟩ := Hso.out x zs h; exact ⟨v, h1, h2.below (hB1.mono hB.size)⟩) hM2 (Below.grown (Below.refl _ _) hg2 hB2.size (fun x e => by simp at e; omega)) (hrd.out.below hB2)⟩
          case measure => simp [intOf]; omega
        | some zs =>
          obtain ⟨v, hMs, b3, off3, c3, rfl, hI3, hc3, hc4, _⟩ := hso s zs hms
          have hEq : ∀ W, Below wr.heap.size wr W → Calls Try.prog 57 #[.slice (some ⟨b3, off3, none⟩) zs.length c3, .slice (some ⟨b, off + k, none⟩) (q - k) (ct - k)] W fun e w' => e = .returned (.bool (sameB zs pt)) ∧ Below W.heap.size W w' := fun W hW => by
            rw [← Hpl.out]
            exact equal_any zs pt _ _ c3 (ct - k) W (((hI3.below (hW.mono hB.size)).mono (by have := hW.size; have := hB.size; omega))) (((HIs'.out.below hB).below (hW.mono hB.size)).mono (by have := hW.size; have := hB.size; omega)) (by omega)
          have HEq := hid hEq
          have HMs := hid hMs
          have Hn := hid hn
          have Hso := hid hso
          have HM := hid hM
          clear hEq hMs hn hso hM hI3
          by_cases he : zs = pt
          · subst he
            have hsb : sameB zs zs = true := by simp [sameB]
            have hst := hid (hold.out hms)
            clear hnew hold hcl hms
            go_wp2_with (first
              | (go_at_call 89; refine hE.mono ?_; clear hE; rintro e w1 ⟨rfl, hB1⟩; have hM1 := hid (HM.out.keep (hB1.block _ HM.out.lt)); have hB2 := hB.trans (hB1.mono hB.size))
              | (at_lookup; go_loud (refine wp_look_hit _ rfl _ _ 142 rfl 37 Try.underlying142 (zeroTerm _) w.heap.size j M rfl hM1.out s rfl hwf.out _ HMs.out ?_))
              | (go_at_call 57; refine (HEq.out _ hB1).mono ?_; rw [hsb]; rintro e w3 ⟨rfl, hB3⟩; have hM3 := hid (hM1.out.keep (hB3.block _ hM1.out.lt)); have hB4 := hB2.trans (hB3.mono hB2.size))
              | (at_mapUpdate; go_loud (refine wp_mapset _ rfl _ _ _ 142 rfl 37 Try.underlying142 w.heap.size j M rfl hM3.out (by unfold maxLen; omega) s rfl hwf.out _ rfl ?_); intro w2 hM2 hg2))
            have hB5 : Below w.heap.size w w2 := hB4.grown hg2 hB4.size (fun x e => by simp at e; omega)
            go_roundw
            case rel => exact ⟨j + 1, q, _, by omega, by omega, by go_num, rfl, hst, hag2, hB5, FitAt.upd Hn.out (fun x zs h => by obtain ⟨v, h1, h2⟩ := Hso.out x zs h; exact ⟨v, h1, (h2.below (hB1.mono hB.size)).below (hB3.mono hB2.size)⟩) hM2 (Below.grown (Below.refl _ _) hg2 hB4.size (fun x e => by simp at e; omega)) (hrd.out.below hB4)⟩
            case measure => simp [intOf]; omega
          · have hsb : sameB zs pt = false := by simp [sameB, he]
            have hst := hid (hcl.out zs hms he)
            clear hnew hold hcl hms he
            go_wp2_with (first
              | (go_at_call 89; refine hE.mono ?_; clear hE; rintro e w1 ⟨rfl, hB1⟩; have hM1 := hid (HM.out.keep (hB1.block _ HM.out.lt)); have hB2 := hB.trans (hB1.mono hB.size))
              | (at_lookup; go_loud (refine wp_look_hit _ rfl _ _ 142 rfl 37 Try.underlying142 (zeroTerm _) w.heap.size j M rfl hM1.out s rfl hwf.out _ HMs.out ?_))
              | (go_at_call 57; refine (HEq.out _ hB1).mono ?_; rw [hsb]; rintro e w3 ⟨rfl, hB3⟩; have hM3 := hid (hM1.out.keep (hB3.block _ hM1.out.lt)); have hB4 := hB2.trans (hB3.mono hB2.size)))
            go_ret2
            exact ⟨hB4, by rw [hst.out]; rfl⟩
      · have hsy := hid (fun h => hfit.out.trans (Tm.fitGo_sym (t := t) (k := k) (m := m) hlt hs h))
        have hot := hid (fun h => hfit.out.trans (Tm.fitGo_other (t := t) (k := k) (m := m) hlt hs h))
        have hag2 := hid (fun h => hag.out.sym hlt h)
        clear hfit hag
        generalize p[j]?.getD 0 = s at *
        generalize t[k]?.getD 0 = u at *
        by_cases he : u = s
        · have hn : (u != s) = false := by simp [he]
          have hst := hid (hsy.out he)
          have hag3 := hid (hag2.out he)
          clear hsy hot he hag2
          go_wp2
          go_roundw
          case rel => exact ⟨j + 1, k + 1, m, by omega, by omega, by go_num, by go_num, hst, hag3, hB, by obtain ⟨M, h1, h2⟩ := hF.out; exact ⟨M, h1.mono (by omega), h2⟩⟩
          case measure => simp [intOf]; omega
        · have hn : (u != s) = true := by simp [he]
          have hst := hid (hot.out he)
          clear hsy hot he hag2
          go_wp2
          go_ret2
          exact ⟨hB, by rw [hst.out]; rfl⟩
    · obtain rfl : j = p.length := by omega
      go_wp2
      go_ret2
      exact ⟨hB, by rw [hfit.out, List.drop_length, Tm.fitGo_nil]; exact ⟨_, _, rfl, Nat.le_refl _, hF.out⟩⟩
set_option maxRecDepth 100000 in
set_option maxHeartbeats 400000 in
theorem firstError_any (ss : List (List Int)) (hl : ss.length ≤ 1000) (a : Option Addr) (cap : Nat) (w : World) (hS : Subs w.heap.size w a ss) :
    Calls Try.prog 91 #[.slice a ss.length cap] w fun e w' => e = .returned (.int .i64 (Tm.firstErr ss)) ∧ Below w.heap.size w w' := by
  have HS := hid hS
  have hl' : (ss.length : Int) ≤ 1000 := by omega
  clear hS
  go_enter Try.func91, Try.ntmps91
  go_wp2
  go_loopw [8] (fun i wr => ∃ k : Nat, k ≤ ss.length ∧ i = .int .i64 (k : Int) ∧ Hid (Tm.firstErr ss = Tm.firstErr (ss.drop k)) ∧ Below w.heap.size w wr) (fun i _ => ss.length - (intOf i).toNat)
  case atStart => exact ⟨0, Nat.zero_le _, rfl, rfl, Below.refl _ _⟩
  case round =>
    obtain ⟨k, hk, rfl, hf, hB⟩ := hrel
    by_cases hlt : k < ss.length
    · have hlt' : (k : Int) < (ss.length : Int) := by omega
      obtain ⟨b, off, rfl, hb, hc⟩ := HS.out.at (by omega)
      obtain ⟨aj, cj, hcj, hIj, _⟩ := hc k hlt
      have hcj' := (hB.cell (p := ⟨b, off + k, none⟩) hb).trans hcj
      have hC := check_any (ss[k]?.getD []) aj cj wr ((hIj.below hB).mono hB.size)
      have hst := hid (Tm.firstErr_step (ss := ss) (k := k) hlt)
      have hsp := hid (Tm.firstErr_stop (ss := ss) (k := k) hlt)
      clear hcj hIj hc
      generalize ss[k]?.getD [] = t at *
      by_cases he : Tm.err t = 0
      · have hst' := hid (hf.out.trans (hst.out he))
        rw [he] at hC
        clear hst hsp he hf
        go_wp2_with (go_at_call 53; refine hC.mono ?_; clear hC; rintro e w1 ⟨rfl, hB1⟩)
        go_roundw
        case rel => exact ⟨k + 1, by omega, by go_num, hst'.out, hB.trans (hB1.mono hB.size)⟩
        case measure => simp [intOf]; omega
      · have hsp' := hid (hf.out.trans (hsp.out he))
        have hne : (Tm.err t != 0) = true := by simp [he]
        clear hst hsp he hf
        generalize Tm.err t = q at *
        go_wp2_with (go_at_call 53; refine hC.mono ?_; clear hC; rintro e w1 ⟨rfl, hB1⟩)
        go_ret
        exact ⟨by rw [hsp'.out]; rfl, hB.trans (hB1.mono hB.size)⟩
    · obtain rfl : k = ss.length := by omega
      have h0 : Hid (Tm.firstErr ss = 0) := by
        show _ = _
        rw [hf.out, List.drop_length]
        rfl
      clear hf
      go_wp2
      go_ret
      exact ⟨by rw [h0.out]; rfl, hB⟩
theorem subs_two (W : World) (p t : List Int) (ap at' : Option Addr) (cp ct n : Nat) (hn : n = W.heap.size + 1) (hP : Ints W.heap.size W ap p) (hT : Ints W.heap.size W at' t) (h1 : p.length ≤ cp ∧ cp ≤ maxLen ∧ (ap = none → cp = 0)) (h2 : t.length ≤ ct ∧ ct ≤ maxLen ∧ (at' = none → ct = 0)) :
    Subs n (W.alloc (.cells #[.slice ap p.length cp, .slice at' t.length ct] 37)) (some ⟨W.heap.size, 0, none⟩) [p, t] := by
  have hB : Below W.heap.size W (W.alloc (.cells #[.slice ap p.length cp, .slice at' t.length ct] 37)) := (Below.refl _ _).alloc (Nat.le_refl _) _
  have hnew := World.alloc_heap_new W (.cells #[.slice ap p.length cp, .slice at' t.length ct] 37)
  intro j hj
  simp only [List.length_cons, List.length_nil] at hj
  match j, hj with
  | 0, _ => exact ⟨W.heap.size, 0, ap, cp, rfl, by omega, (cell_at hnew 0).trans rfl, (hP.below hB).mono (by omega), h1⟩
  | 1, _ => exact ⟨W.heap.size, 0, at', ct, rfl, by omega, (cell_at hnew 1).trans rfl, (hT.below hB).mono (by omega), h2⟩
theorem first_two (p t : List Int) (ap at' : Option Addr) (cp ct : Nat) (W : World) (hP : Ints W.heap.size W ap p) (hT : Ints W.heap.size W at' t) (h1 : p.length ≤ cp ∧ cp ≤ maxLen ∧ (ap = none → cp = 0)) (h2 : t.length ≤ ct ∧ ct ≤ maxLen ∧ (at' = none → ct = 0)) :
    Calls Try.prog 91 #[.slice (some ⟨W.heap.size, 0, none⟩) 2 2] (W.alloc (.cells #[.slice ap p.length cp, .slice at' t.length ct] 37)) fun e w' => e = .returned (.int .i64 (Tm.fitErr p t)) ∧ Below W.heap.size W w' :=
  (firstError_any [p, t] (by simp) _ 2 _ (subs_two W p t ap at' cp ct _ (by simp) hP hT h1 h2)).mono fun e w' ⟨h, hB⟩ => ⟨h, ((Below.refl _ _).alloc (Nat.le_refl _) _).trans (hB.mono (by simp))⟩
theorem newS_cell {base : Nat} {W : World} {g c : Nat} {ss : List (List Int)} (h : NewS base W (.slice (some ⟨g, 0, none⟩) 8 c) ss) (hl : ss.length = 8) {k : Nat} (hk : k < 8) :
    base ≤ g ∧ ∃ x, W.cell? ⟨g, k, none⟩ = some x ∧ W.frozen? ⟨g, k, none⟩ = false := by
  obtain ⟨us, h1, _⟩ := h
  rw [hl] at h1
  have hus : us.length = 8 := by have := h1.1; omega
  have c0 := World.ownsRow.cellAt h1 k (by omega)
  rw [List.getElem?_eq_getElem (by omega)] at c0
  exact ⟨(World.ownsRow.lt h1 g rfl).1, _, c0, World.ownsRow.frozenAt h1 k⟩
set_option maxRecDepth 100000 in
set_option maxHeartbeats 1000000 in
theorem Fit_any (p t : List Int) (ap at' : Option Addr) (cp ct : Nat) (w : World) (hP : Ints w.heap.size w ap p) (hT : Ints w.heap.size w at' t) (h1 : p.length ≤ cp ∧ cp ≤ maxLen ∧ (ap = none → cp = 0)) (h2 : t.length ≤ ct ∧ ct ≤ maxLen ∧ (at' = none → ct = 0)) :
    Calls Try.prog 55 #[.slice ap p.length cp, .slice at' t.length ct] w fun e w' => ∃ v, e = .returned (.tuple #[v, .bool (Tm.fitIs p t), .int .i64 (Tm.fitErr p t)]) ∧ NewS w.heap.size w' v (Tm.fitVal p t) ∧ Below w.heap.size w w' := by
  have hC := first_two p t ap at' cp ct w hP hT h1 h2
  by_cases he : Tm.fitErr p t = 0
  · obtain ⟨hp, ht⟩ := Tm.fitErr_ok he
    have hfit : ∀ W, Below w.heap.size w W → Calls Try.prog 92 #[.slice ap p.length cp, .slice at' t.length ct] W fun e w' => Below W.heap.size W w' ∧ FitAns W w' e (Tm.fit p t) := fun W hW =>
      fit_any p t ap at' cp ct W hp ht ((hP.below hW).mono hW.size) ((hT.below hW).mono hW.size) h2.1 h2.2.1
    cases hf : Tm.fit p t with
    | none =>
      obtain ⟨e1, e2⟩ := Tm.fit_no he hf
      rw [hf] at hfit
      rw [e1, e2, he]
      rw [he] at hC
      have HF := hid hfit
      clear hfit hf e1 e2 hp ht he hP hT h1 h2
      go_enter Try.func55, Try.ntmps55
      go_wp2_with (first
        | (go_at_call 91; refine hC.mono ?_; clear hC; rintro e w1 ⟨rfl, hB1⟩)
        | (go_at_call 92; refine (HF.out _ hB1).mono ?_; rintro e w2 ⟨hB2, rfl⟩; have hB3 := hB1.trans (hB2.mono hB1.size)))
      go_ret3
      exact ⟨_, rfl, NewS.nil _ _, hB3⟩
    | some m =>
      obtain ⟨e1, e2⟩ := Tm.fit_yes he hf
      rw [hf] at hfit
      rw [e1, e2, he]
      rw [he] at hC
      have HF := hid hfit
      clear hfit hf e1 e2 hp ht he hP hT h1 h2
      go_enter Try.func55, Try.ntmps55
      go_wp2_with (first
        | (go_at_call 91; refine hC.mono ?_; clear hC; rintro e w1 ⟨rfl, hB1⟩)
        | (go_at_call 92; refine (HF.out _ hB1).mono ?_; rintro e w2 ⟨hB2, bm, N, rfl, hbm, M, hM, hMn, hMs⟩; have hB3 := hB1.trans (hB2.mono hB1.size); have HMn := hid hMn; have HMs := hid hMs; have HM := hid hM; clear hMn hMs hM)
        | (go_at_call 93; refine (none_any _).mono ?_; rintro e w3 ⟨v, rfl, hN, hB4⟩; have hB5 := hB3.trans (hB4.mono hB3.size); have hlen : (Tm.noneL 8).length = 8 := Tm.noneL_length 8; obtain ⟨g, c, rfl⟩ : ∃ g c, v = .slice (some ⟨g, 0, none⟩) 8 c := (by obtain ⟨us, h1, _⟩ := hN; rw [hlen] at h1; exact ownsRow_succ h1)))
      have hM3 := hid (HM.out.keep (hB4.block _ HM.out.lt))
      have hgm : g ≠ bm := by
        obtain ⟨us, h1, _⟩ := hN
        have := (World.ownsRow.lt h1 g rfl).1
        have := HM.out.lt
        omega
      have hg2 : w2.heap.size ≤ g := by
        obtain ⟨us, h1, _⟩ := hN
        exact (World.ownsRow.lt h1 g rfl).1
      have HN := hid hN
      clear hN HM hlen
      go_loopw [32] (fun i wr => ∃ k : Nat, k ≤ 8 ∧ i = .int .i64 (k : Int) ∧ Hid (NewS w.heap.size wr (.slice (some ⟨g, 0, none⟩) 8 c) (Tm.fitL m k)) ∧ Hid (IntMap wr bm N M) ∧ Below w1.heap.size w2 wr) (fun i _ => 8 - (intOf i).toNat)
      case atStart => exact ⟨0, Nat.zero_le _, rfl, by rw [Tm.fitL_zero]; exact HN.out.mono hB3.size, hM3, hB4.mono hB2.size⟩
      case round =>
        obtain ⟨k, hk, rfl, hNk, hMk, hBk⟩ := hrel
        by_cases hlt : k < 8
        · have hlt' : (k : Int) < 8 := by omega
          have hk0 : (0 : Int) ≤ (k : Int) := by omega
          have hwf := hid (wf64 (s := -1 - (k : Int)) (by omega) (by omega))
          cases hm : m (-1 - (k : Int)) with
          | none =>
            have hMs := hid (HMn.out _ hm)
            have hst := hid (Tm.fitL_none hm)
            clear hm
            go_wp2_with (first
              | (at_lookup; go_loud (refine wp_look_miss _ rfl _ _ 142 rfl 37 Try.underlying142 (zeroTerm _) bm N M rfl hMk.out (-1 - (k : Int)) rfl hwf.out hMs.out ?_)))
            go_roundw
            case rel => exact ⟨k + 1, by omega, by go_num, by rw [hst.out]; exact hNk.out, hMk, hBk⟩
            case measure => simp [intOf]; omega
          | some zs =>
            obtain ⟨v, hMs, b3, off3, c3, rfl, hI3, _, _, h30⟩ := HMs.out _ zs hm
            have hst := hid (Tm.fitL_some hm)
            have HMv := hid hMs
            have hs12 := hB2.size
            have hCl := clone_any zs b3 off3 c3 wr h30 ((hI3.below hBk).mono (by have := hBk.size; omega))
            clear hm hMs hI3
            go_wp2_with (first
              | (at_lookup; go_loud (refine wp_look_hit _ rfl _ _ 142 rfl 37 Try.underlying142 (zeroTerm _) bm N M rfl hMk.out (-1 - (k : Int)) rfl hwf.out _ HMv.out ?_))
              | (go_at_call 52; refine hCl.mono ?_; clear hCl; rintro e w5 ⟨u, rfl, hNu, hBu⟩; obtain ⟨au, cu, rfl, _⟩ := New.ints hNu; have hN5 := hid (hNk.out.below hBu); obtain ⟨hg5, x5, hc5, hf5⟩ := newS_cell hN5.out (Tm.fitL_length m k) hlt))
            have hBs : Below w.heap.size w wr := hB1.trans ((hB2.trans hBk).mono hB1.size)
            go_roundw
            case rel =>
              refine ⟨k + 1, by omega, by go_num, ?_, ?_, ?_⟩
              · rw [hst.out]
                exact hN5.out.set (Tm.fitL_length m k).symm (hNu.mono hBs.size) k
              · exact (hMk.out.keep (hBu.block _ hMk.out.lt)).keep (Below.heap_setCell _ _ _ _ (fun e => hgm e.symm))
              · exact (hBk.trans (hBu.mono (by have := hBk.size; omega))).setCell (p := ⟨g, k, none⟩) (show w1.heap.size ≤ g by omega) _
            case measure => simp [intOf]; omega
        · obtain rfl : k = 8 := by omega
          go_wp2
          go_ret3
          exact ⟨_, rfl, hNk.out, hB1.trans ((hB2.trans hBk).mono hB1.size)⟩
  · obtain ⟨e1, e2⟩ := Tm.fit_bad he
    rw [e1, e2]
    have hne : (Tm.fitErr p t != 0) = true := by simp [he]
    clear hP hT e1 e2 he h1 h2
    generalize Tm.fitErr p t = q at *
    go_enter Try.func55, Try.ntmps55
    go_wp2_with (first
      | (go_at_call 91; refine hC.mono ?_; clear hC; rintro e w1 ⟨rfl, hB1⟩))
    go_ret3
    exact ⟨_, rfl, NewS.nil _ _, hB1⟩
theorem Tm.run_flatten (zss : List (List Int)) : (∀ j, j < zss.length → Tm.run (zss[j]?.getD []) 1 = (zss[j]?.getD []).length) → Tm.run zss.flatten zss.length = zss.flatten.length := by
  induction zss with
  | nil => intro _; simp [Tm.run_zero]
  | cons t l ih =>
    intro h
    have h0 : Tm.run t 1 = t.length := by simpa using h 0 (by simp)
    have hl := ih (fun j hj => by simpa using h (j + 1) (by simpa using hj))
    rw [List.length_cons, Nat.add_comm, Tm.run_add, List.flatten_cons, Tm.run_app t _ 1 (by omega), h0, List.drop_left, hl, List.length_append]
theorem Tm.endAt_mid {pre t post : List Int} {k : Nat} (hk : k ≤ t.length) (he : Tm.endAt t k ≤ t.length) : Tm.endAt (pre ++ (t ++ post)) (pre.length + k) = pre.length + Tm.endAt t k := by
  unfold Tm.endAt at he ⊢
  rw [List.drop_append, List.drop_of_length_le (by omega), List.nil_append, Nat.add_sub_cancel_left, List.drop_append_of_le_length hk, Tm.run_app _ _ _ (by rw [List.length_drop]; omega)]
  omega
theorem Tm.part_mid {pre t post : List Int} {k : Nat} (hk : k ≤ t.length) (he : Tm.endAt t k ≤ t.length) : Tm.part (pre ++ (t ++ post)) (pre.length + k) = Tm.part t k := by
  unfold Tm.part
  rw [Tm.endAt_mid hk he, List.drop_append, List.drop_of_length_le (by omega), List.nil_append, Nat.add_sub_cancel_left, List.drop_append_of_le_length hk, show pre.length + Tm.endAt t k - (pre.length + k) = Tm.endAt t k - k from by omega,
    List.take_append_of_le_length (by rw [List.length_drop]; omega)]
theorem Against.fin {p t : List Int} {k : Nat} (h : Against p t p.length k) : k = t.length := by
  obtain ⟨o, h1, h2, h3, h4⟩ := h
  rw [List.drop_length, Tm.run_nil] at h1
  have : o = 0 := by omega
  subst this
  rw [Tm.run_zero] at h2
  omega
end Go.Proofs.Ytgeknojpcjadkaa
namespace Go.Proofs.Ytgeknojpcjadkaa
open Go.Proofs Go.RowKit Go.Shelf
def Tm.sym (x : List Int) : Int := x[0]?.getD 0
end Go.Proofs.Ytgeknojpcjadkaa
namespace Go.Proofs.Ytgeknojpcjadkaa
open Go.Proofs Go.RowKit Go.Shelf Go.Maps
theorem Keep.cell {n m : Nat} {a b : World} (h : Keep n m a b) {p : Addr} (h1 : p.block < n) (h2 : p.block ≠ m) : b.cell? p = a.cell? p := World.cell?_of_block (h.block p.block h1 h2)
theorem keep_drewN {n m : Nat} {a b : World} (h : Keep n m a b) (d : Nat) : Keep n m a (b.drewN d) := ⟨h.os, h.tape, h.output, h.size, h.block⟩
end Go.Proofs.Ytgeknojpcjadkaa
namespace Go.Proofs.Ytgeknojpcjadkaa
open Go.Proofs Go.RowKit Go.Shelf Go.Maps
attribute [local go_sem] Oper.semAt_some
end Go.Proofs.Ytgeknojpcjadkaa
