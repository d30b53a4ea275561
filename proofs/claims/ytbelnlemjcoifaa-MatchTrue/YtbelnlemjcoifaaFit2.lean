/-
  slices.Equal; match.fit.
-/
import Derived.Test.YtbelnlemjcoifaaFit1
namespace Go.Proofs.Ytbelnlemjcoifaa
open Go.Proofs Go.RowKit Go.Shelf Go.Maps

set_option maxRecDepth 100000 in
set_option maxHeartbeats 1000000 in
theorem equal_any (xs ys : List Int) (a b : Option Addr) (ca cb : Nat) (w : World) (hX : Ints w.heap.size w a xs) (hY : Ints w.heap.size w b ys) (hm : xs.length ≤ maxLen) :
    Calls Try.prog 74 #[.slice a xs.length ca, .slice b ys.length cb] w fun e w' => e = .returned (.bool (sameB xs ys)) ∧ Below w.heap.size w w' := by
  unfold maxLen at hm
  by_cases hl : xs.length = ys.length
  · have hne : ((xs.length : Int) != (ys.length : Int)) = false := by simp [hl]
    have Hl : Hid (xs.length = ys.length) := hl
    clear hl
    go_enter Try.func74, Try.ntmps74
    go_wp2
    go_loopw [13] (fun i wr => ∃ k : Nat, k ≤ xs.length ∧ i = .int .i64 (k : Int) ∧ Hid (xs.take k = ys.take k) ∧ Below w.heap.size w wr) (fun i _ => xs.length - (intOf i).toNat)
    case atStart => exact ⟨0, Nat.zero_le _, rfl, by simp [Hid], Below.refl _ _⟩
    case round =>
      obtain ⟨k, hk, rfl, hsame, hB⟩ := hrel
      by_cases hlt : k < xs.length
      · have hlt' : (k : Int) < (xs.length : Int) := by omega
        have hly : k < ys.length := by have := Hl.out; omega
        have hly' : (k : Int) < (ys.length : Int) := by omega
        obtain ⟨b1, off1, rfl, hb1, hc1⟩ := (hX.below hB).at (by omega)
        obtain ⟨b2, off2, rfl, hb2, hc2⟩ := (hY.below hB).at (by omega)
        have hx := hc1 k hlt
        have hy := hc2 k hly
        have hst := show Hid _ from @same_step xs ys k hlt hly hsame.out
        have hno := show Hid _ from @same_not xs ys k
        clear hc1 hc2 hX hY hly
        generalize xs[k]?.getD 0 = s at *
        generalize ys[k]?.getD 0 = u at *
        by_cases he : s = u
        · have hn : (s != u) = false := by simp [he]
          have He : Hid (s = u) := he
          clear he hno
          go_wp2
          go_quiet (fail)
          go_wp2
          go_roundw
          case rel => exact ⟨k + 1, by omega, by go_num, hst.out He.out, below_drewN hB _⟩
          case measure => simp [intOf]; omega
        · have hn : (s != u) = true := by simp [he]
          have hf := show Hid _ from hno.out he
          clear he hno hst
          go_wp2
          go_quiet (fail)
          go_wp2
          go_ret
          exact ⟨by rw [hf.out]; rfl, below_drewN hB _⟩
      · obtain rfl : k = xs.length := by omega
        have hy := show Hid _ from same_yes hsame.out Hl.out
        clear hX hY
        go_wp2
        go_ret
        exact ⟨by rw [hy.out]; rfl, hB⟩
  · have hne : ((xs.length : Int) != (ys.length : Int)) = true := by simp; omega
    rw [same_len hl]
    clear hl hX hY
    go_enter Try.func74, Try.ntmps74
    go_wp2
    go_ret
    exact ⟨rfl, Below.refl _ _⟩

theorem zeroTerm (w : World) : (zeroValue 23).run Try.prog w = .ok (.slice none 0 0) w := by kernel_rfl

/-- What fit answers. -/
def FitAns (w w' : World) (e : Ending) : Option Asg → Prop
  | none => e = .returned (.tuple #[.map none, .bool false])
  | some m => ∃ bm N, e = .returned (.tuple #[.map (some bm), .bool true]) ∧ w.heap.size ≤ bm ∧ FitAt w.heap.size w' bm N m

set_option maxRecDepth 100000 in
set_option maxHeartbeats 1000000 in
theorem fit_any (p t : List Int) (ap at' : Option Addr) (cp ct : Nat) (w : World) (hp : Tm.err p = 0) (ht : Tm.err t = 0) (hP : Ints w.heap.size w ap p) (hT : Ints w.heap.size w at' t) (hct : t.length ≤ ct) (hct2 : ct ≤ maxLen) :
    Calls Try.prog 62 #[.slice ap p.length cp, .slice at' t.length ct] w fun e w' => Below w.heap.size w w' ∧ FitAns w w' e (Tm.fit p t) := by
  have hp30 := Tm.err_len hp
  have ht30 := Tm.err_len ht
  have h8 := Tm.known8 hp
  have h6 := fun k (hk : k < p.length) => Tm.known_lt (Tm.all_at (Tm.err_all hp) hk)
  have hAg := hid (Against.start hp ht)
  obtain ⟨b, off, rfl, hb, hc⟩ := hT.at (Tm.err_pos ht)
  obtain ⟨b2, off2, rfl, hb2, hc2⟩ := hP.at (Tm.err_pos hp)
  have hmm := @run_makeMap Try.prog
  have hct3 : ct ≤ 9223372036854775807 := hct2
  have HT := hid hT
  have Hc := hid hc
  have Hc2 := hid hc2
  have H8 := hid h8
  have H6 := hid h6
  have hl1 : (p.length : Int) ≤ 30 := by omega
  have hl2 : (t.length : Int) ≤ 30 := by omega
  clear hT hP hc hc2 h8 h6 hp ht
  go_enter Try.func62, Try.ntmps62
  go_wp2
  go_loopw [7, 16] (fun q i wr => ∃ (j k : Nat) (m : Asg), j ≤ p.length ∧ k ≤ t.length ∧ i = .int .i64 (j : Int) ∧ q = .int .i64 (k : Int) ∧ Hid (Tm.fit p t = Tm.fitGo t (p.drop j) k m) ∧ Hid (Against p t j k) ∧ Below w.heap.size w wr ∧ Hid (FitAt w.heap.size wr w.heap.size j m)) (fun _ i _ => p.length - (intOf i).toNat)
  case atStart => exact ⟨0, 0, fun _ => none, Nat.zero_le _, Nat.zero_le _, rfl, rfl, by simp [Hid, Tm.fit], hAg, (Below.refl _ _).alloc (Nat.le_refl _) _, ⟨_, IntMap.made w, fun _ _ => rfl, fun _ _ h => by cases h⟩⟩
  case round =>
    obtain ⟨j, k, m, hj, hk, rfl, rfl, hfit, hag, hB, hF⟩ := hrel
    by_cases hlt : j < p.length
    · have hlt' : (j : Int) < (p.length : Int) := by omega
      have hkt := hag.out.pos hlt
      have hkt' : (k : Int) < (t.length : Int) := by omega
      have hcj := (hB.cell (p := ⟨b2, off2 + j, none⟩) hb2).trans (Hc2.out j hlt)
      have hck := (hB.cell (p := ⟨b, off + k, none⟩) hb).trans (Hc.out k hkt)
      by_cases hs : p[j]?.getD 0 < 0
      · have hE := end_any t ht30 (some ⟨b, off, none⟩) ct k (by omega) wr ((HT.out.below hB).mono hB.size)
        have hle := hag.out.endAt_le hlt
        have hgt := Tm.endAt_gt t k
        have hag2 := hid (hag.out.var hlt hs)
        have Hpl : Hid ((Tm.part t k).length = Tm.endAt t k - k) := by show _ = _; simp only [Tm.part, List.length_take, List.length_drop]; omega
        have HIs := hid (HT.out.sub k (Tm.endAt t k - k))
        have hnew := hid (fun h => hfit.out.trans (Tm.fitGo_new (t := t) (k := k) (m := m) hlt hs h))
        have hold := hid (fun h => hfit.out.trans (Tm.fitGo_old (t := t) (k := k) (m := m) hlt hs h))
        have hcl := hid (fun zs h1 h2 => hfit.out.trans (Tm.fitGo_clash (t := t) (k := k) (m := m) (zs := zs) hlt hs h1 h2))
        have hwf := hid (wf64 (s := p[j]?.getD 0) (by have := H8.out j hlt; omega) (by have := H6.out j hlt; omega))
        have HIs' : Hid (Ints w.heap.size w (some ⟨b, off + k, none⟩) (Tm.part t k)) := HIs
        clear hck HIs hfit hag
        generalize p[j]?.getD 0 = s at *
        generalize Tm.part t k = pt at *
        generalize Tm.endAt t k = q at *
        have h1 : (k : Int) ≤ (q : Int) := by omega
        have h2 : (q : Int) ≤ (ct : Int) := by omega
        have h3 : ¬ ct - k = 0 := by omega
        have Hq : Hid (q = k + pt.length) := by have := Hpl.out; show _ = _; omega
        obtain ⟨M, hM, hn, hso⟩ := hF.out
        have hrd : Hid (Reads w.heap.size w (.slice (some ⟨b, off + k, none⟩) (q - k) (ct - k)) pt) := ⟨b, off + k, ct - k, by rw [Hpl.out], HIs'.out, by have := Hpl.out; omega, by omega, by have := Hpl.out; omega⟩
        clear hF
        cases hms : m s with
        | none =>
          have hMs := hid (hn s hms)
          have hst := hid (hnew.out hms)
          have Hn := hid hn
          have Hso := hid hso
          have HM := hid hM
          clear hnew hold hcl hms hn hso hM
          go_wp2_with (first
            | (go_at_call 44; refine hE.mono ?_; clear hE; rintro e w1 ⟨rfl, hB1⟩; have hM1 := hid (HM.out.keep (hB1.block _ HM.out.lt)); have hB2 := hB.trans (hB1.mono hB.size))
            | (at_lookup; go_loud (refine wp_look_miss _ rfl _ _ 64 rfl 23 Try.underlying64 (zeroTerm _) w.heap.size j M rfl hM1.out s rfl hwf.out hMs.out ?_))
            | (at_mapUpdate; go_loud (refine wp_mapset _ rfl _ _ _ 64 rfl 23 Try.underlying64 w.heap.size j M rfl hM1.out (by unfold maxLen; omega) s rfl hwf.out _ rfl ?_); intro w2 hM2 hg2))
          have hB3 : Below w.heap.size w w2 := hB2.grown hg2 hB2.size (fun x e => by simp at e; omega)
          go_roundw
          case rel => exact ⟨j + 1, q, _, by omega, by omega, by go_num, rfl, hst, hag2, hB3, FitAt.upd Hn.out (fun x zs h => by obtain ⟨v, h1, h2⟩ := Hso.out x zs h; exact ⟨v, h1, h2.below (hB1.mono hB.size)⟩) hM2 (Below.grown (Below.refl _ _) hg2 hB2.size (fun x e => by simp at e; omega)) (hrd.out.below hB2)⟩
          case measure => simp [intOf]; omega
        | some zs =>
          obtain ⟨v, hMs, b3, off3, c3, rfl, hI3, hc3, hc4, _⟩ := hso s zs hms
          have hEq : ∀ W, Below wr.heap.size wr W → Calls Try.prog 74 #[.slice (some ⟨b3, off3, none⟩) zs.length c3, .slice (some ⟨b, off + k, none⟩) (q - k) (ct - k)] W fun e w' => e = .returned (.bool (sameB zs pt)) ∧ Below W.heap.size W w' := fun W hW => by
            rw [← Hpl.out]
            exact equal_any zs pt _ _ c3 (ct - k) W (((hI3.below (hW.mono hB.size)).mono (by have := hW.size; have := hB.size; omega))) (((HIs'.out.below hB).below (hW.mono hB.size)).mono (by have := hW.size; have := hB.size; omega)) (by omega)
          have HEq := hid hEq
          have HMs := hid hMs
          have Hn := hid hn
          have Hso := hid hso
          have HM := hid hM
          clear hEq hMs hn hso hM hI3
          by_cases he : zs = pt
          · subst he
            have hsb : sameB zs zs = true := by simp [sameB]
            have hst := hid (hold.out hms)
            clear hnew hold hcl hms
            go_wp2_with (first
              | (go_at_call 44; refine hE.mono ?_; clear hE; rintro e w1 ⟨rfl, hB1⟩; have hM1 := hid (HM.out.keep (hB1.block _ HM.out.lt)); have hB2 := hB.trans (hB1.mono hB.size))
              | (at_lookup; go_loud (refine wp_look_hit _ rfl _ _ 64 rfl 23 Try.underlying64 (zeroTerm _) w.heap.size j M rfl hM1.out s rfl hwf.out _ HMs.out ?_))
              | (go_at_call 74; refine (HEq.out _ hB1).mono ?_; rw [hsb]; rintro e w3 ⟨rfl, hB3⟩; have hM3 := hid (hM1.out.keep (hB3.block _ hM1.out.lt)); have hB4 := hB2.trans (hB3.mono hB2.size))
              | (at_mapUpdate; go_loud (refine wp_mapset _ rfl _ _ _ 64 rfl 23 Try.underlying64 w.heap.size j M rfl hM3.out (by unfold maxLen; omega) s rfl hwf.out _ rfl ?_); intro w2 hM2 hg2))
            have hB5 : Below w.heap.size w w2 := hB4.grown hg2 hB4.size (fun x e => by simp at e; omega)
            go_roundw
            case rel => exact ⟨j + 1, q, _, by omega, by omega, by go_num, rfl, hst, hag2, hB5, FitAt.upd Hn.out (fun x zs h => by obtain ⟨v, h1, h2⟩ := Hso.out x zs h; exact ⟨v, h1, (h2.below (hB1.mono hB.size)).below (hB3.mono hB2.size)⟩) hM2 (Below.grown (Below.refl _ _) hg2 hB4.size (fun x e => by simp at e; omega)) (hrd.out.below hB4)⟩
            case measure => simp [intOf]; omega
          · have hsb : sameB zs pt = false := by simp [sameB, he]
            have hst := hid (hcl.out zs hms he)
            clear hnew hold hcl hms he
            go_wp2_with (first
              | (go_at_call 44; refine hE.mono ?_; clear hE; rintro e w1 ⟨rfl, hB1⟩; have hM1 := hid (HM.out.keep (hB1.block _ HM.out.lt)); have hB2 := hB.trans (hB1.mono hB.size))
              | (at_lookup; go_loud (refine wp_look_hit _ rfl _ _ 64 rfl 23 Try.underlying64 (zeroTerm _) w.heap.size j M rfl hM1.out s rfl hwf.out _ HMs.out ?_))
              | (go_at_call 74; refine (HEq.out _ hB1).mono ?_; rw [hsb]; rintro e w3 ⟨rfl, hB3⟩; have hM3 := hid (hM1.out.keep (hB3.block _ hM1.out.lt)); have hB4 := hB2.trans (hB3.mono hB2.size)))
            go_ret2
            exact ⟨hB4, by rw [hst.out]; rfl⟩
      · have hsy := hid (fun h => hfit.out.trans (Tm.fitGo_sym (t := t) (k := k) (m := m) hlt hs h))
        have hot := hid (fun h => hfit.out.trans (Tm.fitGo_other (t := t) (k := k) (m := m) hlt hs h))
        have hag2 := hid (fun h => hag.out.sym hlt h)
        clear hfit hag
        generalize p[j]?.getD 0 = s at *
        generalize t[k]?.getD 0 = u at *
        by_cases he : u = s
        · have hn : (u != s) = false := by simp [he]
          have hst := hid (hsy.out he)
          have hag3 := hid (hag2.out he)
          clear hsy hot he hag2
          go_wp2
          go_roundw
          case rel => exact ⟨j + 1, k + 1, m, by omega, by omega, by go_num, by go_num, hst, hag3, hB, by obtain ⟨M, h1, h2⟩ := hF.out; exact ⟨M, h1.mono (by omega), h2⟩⟩
          case measure => simp [intOf]; omega
        · have hn : (u != s) = true := by simp [he]
          have hst := hid (hot.out he)
          clear hsy hot he hag2
          go_wp2
          go_ret2
          exact ⟨hB, by rw [hst.out]; rfl⟩
    · obtain rfl : j = p.length := by omega
      go_wp2
      go_ret2
      exact ⟨hB, by rw [hfit.out, List.drop_length, Tm.fitGo_nil]; exact ⟨_, _, rfl, Nat.le_refl _, hF.out⟩⟩

end Go.Proofs.Ytbelnlemjcoifaa
