/-
  slices.Equal; match.fit. · match.firstError, match.Fit. · TREES IN MEMORY: haspref.grown and haspref.treeOf make a tree that holds the term's signs. · haspref.grown, haspref.treeOf: the tree of a term; haspref.flat: its signs. · haspref.flat: a tree's signs. · PLAIN MATHEMATICS: fitting part by part is fitting sign by sign; what a tree holds is a term. · haspref.fit: tree against tree, as sign by sign. · haspref.twoErrors, haspref.fitted, haspref.FitOf. · signs.Plain of one term, sub.Plain. · haspref.plain, PlainOf: the variables that have been seen lie in a slice. · signs.Places: the iterator over all places. · match.Over. · haspref.OverOf. · hasplaw.matchBegun. · haspref.plain, PlainOf. · haspref.PlainOf; hasplaw.subBegun: it answers true. · From the frame's word on a slice of slices of ints that came in to ours. · PLAIN MATHEMATICS of what variables become: first by one list, then by another, is by After of both. · PLAIN MATHEMATICS of fitting: by what fits the one becomes the other; what was made of it fits. · PLAIN MATHEMATICS of fitting: what comes is a list of terms; by it the one becomes the other, without an error. · hasplaw.choose: of n things, one. · A RANGE OVER signs.Parts, WHOSE BODY MAY PANIC: the rounds are numbered; what the body panics with goes up. · THE STATEMENT 'for .. := range it', whose rounds are numbered, whose body may leave, or panic. · signs.Room, signs.Parts, signs.End within a fence that holds all functions that there are; lists of up to 5000 signs. · signs.End, of lists of up to 5000 signs, within the fence. · signs.End, of lists of up to 5000 signs, at every place. · PLAIN MATHEMATICS of the order: 'Gt r a b': by the ranks r the term a is above b. It is an order: who is above who is above is above; nothing is above itself. · PLAIN MATHEMATICS of the order: a term is its symbol and its parts; who is above stays above, whatever variables become, and wherever both stand; without variables one of two that differ is above. · PLAIN MATHEMATICS of the order at places of two terms; a map whose keys are two numbers. · (*sides).same; what stands while it is asked which is above.
-/
import Derived.Test.YtjaikmlbajdedacBunA
import Derived.Maps.AppendAt
import Derived.Deep.RegionHeld3
import Derived.DeepKeys4
import Derived.Deep.QuietTactic
import Derived.BigQuiet
namespace Go.Proofs.Ytjaikmlbajdedac
open Go.Proofs Go.RowKit Go.Shelf Go.Maps

set_option maxRecDepth 100000 in
set_option maxHeartbeats 1000000 in
theorem equal_any (xs ys : List Int) (a b : Option Addr) (ca cb : Nat) (w : World) (hX : Ints w.heap.size w a xs) (hY : Ints w.heap.size w b ys) (hm : xs.length ≤ maxLen) :
    Calls Try.prog 97 #[.slice a xs.length ca, .slice b ys.length cb] w fun e w' => e = .returned (.bool (sameB xs ys)) ∧ Below w.heap.size w w' := by
  unfold maxLen at hm
  by_cases hl : xs.length = ys.length
  · have hne : ((xs.length : Int) != (ys.length : Int)) = false := by simp [hl]
    have Hl : Hid (xs.length = ys.length) := hl
    clear hl
    go_enter Try.func97, Try.ntmps97
    go_wp2
    go_loopw [13] (fun i wr => ∃ k : Nat, k ≤ xs.length ∧ i = .int .i64 (k : Int) ∧ Hid (xs.take k = ys.take k) ∧ Below w.heap.size w wr) (fun i _ => xs.length - (intOf i).toNat)
    case atStart => exact ⟨0, Nat.zero_le _, rfl, by simp [Hid], Below.refl _ _⟩
    case round =>
      obtain ⟨k, hk, rfl, hsame, hB⟩ := hrel
      by_cases hlt : k < xs.length
      · have hlt' : (k : Int) < (xs.length : Int) := by omega
        have hly : k < ys.length := by have := Hl.out; omega
        have hly' : (k : Int) < (ys.length : Int) := by omega
        obtain ⟨b1, off1, rfl, hb1, hc1⟩ := (hX.below hB).at (by omega)
        obtain ⟨b2, off2, rfl, hb2, hc2⟩ := (hY.below hB).at (by omega)
        have hx := hc1 k hlt
        have hy := hc2 k hly
        have hst := show Hid _ from @same_step xs ys k hlt hly hsame.out
        have hno := show Hid _ from @same_not xs ys k
        clear hc1 hc2 hX hY hly
        generalize xs[k]?.getD 0 = s at *
        generalize ys[k]?.getD 0 = u at *
        by_cases he : s = u
        · have hn : (s != u) = false := by simp [he]
          have He : Hid (s = u) := he
          clear he hno
          go_wp2
          go_quiet (fail)
          go_wp2
          go_roundw
          case rel => exact ⟨k + 1, by omega, by go_num, hst.out He.out, below_drewN hB _⟩
          case measure => simp [intOf]; omega
        · have hn : (s != u) = true := by simp [he]
          have hf := show Hid _ from hno.out he
          clear he hno hst
          go_wp2
          go_quiet (fail)
          go_wp2
          go_ret
          exact ⟨by rw [hf.out]; rfl, below_drewN hB _⟩
      · obtain rfl : k = xs.length := by omega
        have hy := show Hid _ from same_yes hsame.out Hl.out
        clear hX hY
        go_wp2
        go_ret
        exact ⟨by rw [hy.out]; rfl, hB⟩
  · have hne : ((xs.length : Int) != (ys.length : Int)) = true := by simp; omega
    rw [same_len hl]
    clear hl hX hY
    go_enter Try.func97, Try.ntmps97
    go_wp2
    go_ret
    exact ⟨rfl, Below.refl _ _⟩

theorem zeroTerm (w : World) : (zeroValue 23).run Try.prog w = .ok (.slice none 0 0) w := by kernel_rfl

/-- What fit answers. -/
def FitAns (w w' : World) (e : Ending) : Option Asg → Prop
  | none => e = .returned (.tuple #[.map none, .bool false])
  | some m => ∃ bm N, e = .returned (.tuple #[.map (some bm), .bool true]) ∧ w.heap.size ≤ bm ∧ FitAt w.heap.size w' bm N m

set_option maxRecDepth 100000 in
set_option maxHeartbeats 1000000 in
theorem fit_any (p t : List Int) (ap at' : Option Addr) (cp ct : Nat) (w : World) (hp : Tm.err p = 0) (ht : Tm.err t = 0) (hP : Ints w.heap.size w ap p) (hT : Ints w.heap.size w at' t) (hct : t.length ≤ ct) (hct2 : ct ≤ maxLen) :
    Calls Try.prog 78 #[.slice ap p.length cp, .slice at' t.length ct] w fun e w' => Below w.heap.size w w' ∧ FitAns w w' e (Tm.fit p t) := by
  have hp30 := Tm.err_len hp
  have ht30 := Tm.err_len ht
  have h8 := Tm.known8 hp
  have h6 := fun k (hk : k < p.length) => Tm.known_lt (Tm.all_at (Tm.err_all hp) hk)
  have hAg := hid (Against.start hp ht)
  obtain ⟨b, off, rfl, hb, hc⟩ := hT.at (Tm.err_pos ht)
  obtain ⟨b2, off2, rfl, hb2, hc2⟩ := hP.at (Tm.err_pos hp)
  have hmm := @run_makeMap Try.prog
  have hct3 : ct ≤ 9223372036854775807 := hct2
  have HT := hid hT
  have Hc := hid hc
  have Hc2 := hid hc2
  have H8 := hid h8
  have H6 := hid h6
  have hl1 : (p.length : Int) ≤ 30 := by omega
  have hl2 : (t.length : Int) ≤ 30 := by omega
  clear hT hP hc hc2 h8 h6 hp ht
  go_enter Try.func78, Try.ntmps78
  go_wp2
  go_loopw [7, 16] (fun q i wr => ∃ (j k : Nat) (m : Asg), j ≤ p.length ∧ k ≤ t.length ∧ i = .int .i64 (j : Int) ∧ q = .int .i64 (k : Int) ∧ Hid (Tm.fit p t = Tm.fitGo t (p.drop j) k m) ∧ Hid (Against p t j k) ∧ Below w.heap.size w wr ∧ Hid (FitAt w.heap.size wr w.heap.size j m)) (fun _ i _ => p.length - (intOf i).toNat)
  case atStart => exact ⟨0, 0, fun _ => none, Nat.zero_le _, Nat.zero_le _, rfl, rfl, by simp [Hid, Tm.fit], hAg, (Below.refl _ _).alloc (Nat.le_refl _) _, ⟨_, IntMap.made w, fun _ _ => rfl, fun _ _ h => by cases h⟩⟩
  case round =>
    obtain ⟨j, k, m, hj, hk, rfl, rfl, hfit, hag, hB, hF⟩ := hrel
    by_cases hlt : j < p.length
    · have hlt' : (j : Int) < (p.length : Int) := by omega
      have hkt := hag.out.pos hlt
      have hkt' : (k : Int) < (t.length : Int) := by omega
      have hcj := (hB.cell (p := ⟨b2, off2 + j, none⟩) hb2).trans (Hc2.out j hlt)
      have hck := (hB.cell (p := ⟨b, off + k, none⟩) hb).trans (Hc.out k hkt)
      by_cases hs : p[j]?.getD 0 < 0
      · have hE := end_any t ht30 (some ⟨b, off, none⟩) ct k (by omega) wr ((HT.out.below hB).mono hB.size)
        have hle := hag.out.endAt_le hlt
        have hgt := Tm.endAt_gt t k
        have hag2 := hid (hag.out.var hlt hs)
        have Hpl : Hid ((Tm.part t k).length = Tm.endAt t k - k) := by show _ = _; simp only [Tm.part, List.length_take, List.length_drop]; omega
        have HIs := hid (HT.out.sub k (Tm.endAt t k - k))
        have hnew := hid (fun h => hfit.out.trans (Tm.fitGo_new (t := t) (k := k) (m := m) hlt hs h))
        have hold := hid (fun h => hfit.out.trans (Tm.fitGo_old (t := t) (k := k) (m := m) hlt hs h))
        have hcl := hid (fun zs h1 h2 => hfit.out.trans (Tm.fitGo_clash (t := t) (k := k) (m := m) (zs := zs) hlt hs h1 h2))
        have hwf := hid (wf64 (s := p[j]?.getD 0) (by have := H8.out j hlt; omega) (by have := H6.out j hlt; omega))
        have HIs' : Hid (Ints w.heap.size w (some ⟨b, off + k, none⟩) (Tm.part t k)) := HIs
        clear hck HIs hfit hag
        generalize p[j]?.getD 0 = s at *
        generalize Tm.part t k = pt at *
        generalize Tm.endAt t k = q at *
        have h1 : (k : Int) ≤ (q : Int) := by omega
        have h2 : (q : Int) ≤ (ct : Int) := by omega
        have h3 : ¬ ct - k = 0 := by omega
        have Hq : Hid (q = k + pt.length) := by have := Hpl.out; show _ = _; omega
        obtain ⟨M, hM, hn, hso⟩ := hF.out
        have hrd : Hid (Reads w.heap.size w (.slice (some ⟨b, off + k, none⟩) (q - k) (ct - k)) pt) := ⟨b, off + k, ct - k, by rw [Hpl.out], HIs'.out, by have := Hpl.out; omega, by omega, by have := Hpl.out; omega⟩
        clear hF
        cases hms : m s with
        | none =>
          have hMs := hid (hn s hms)
          have hst := hid (hnew.out hms)
          have Hn := hid hn
          have Hso := hid hso
          have HM := hid hM
          clear hnew hold hcl hms hn hso hM
          go_wp2_with (first
            | (go_at_call 45; refine hE.mono ?_; clear hE; rintro e w1 ⟨rfl, hB1⟩; have hM1 := hid (HM.out.keep (hB1.block _ HM.out.lt)); have hB2 := hB.trans (hB1.mono hB.size))
            | (at_lookup; go_loud (refine wp_look_miss _ rfl _ _ 107 rfl 23 Try.underlying107 (zeroTerm _) w.heap.size j M rfl hM1.out s rfl hwf.out hMs.out ?_))
            | (at_mapUpdate; go_loud (refine wp_mapset _ rfl _ _ _ 107 rfl 23 Try.underlying107 w.heap.size j M rfl hM1.out (by unfold maxLen; omega) s rfl hwf.out _ rfl ?_); intro w2 hM2 hg2))
          have hB3 : Below w.heap.size w w2 := hB2.grown hg2 hB2.size (fun x e => by simp at e; omega)
          go_roundw
          case rel => exact ⟨j + 1, q, _, by omega, by omega, by go_num, rfl, hst, hag2, hB3, FitAt.upd Hn.out (fun x zs h => by obtain ⟨v, h1, h2⟩ := Hso.out x zs h; exact ⟨v, h1, h2.below (hB1.mono hB.size)⟩) hM2 (Below.grown (Below.refl _ _) hg2 hB2.size (fun x e => by simp at e; omega)) (hrd.out.below hB2)⟩
          case measure => simp [intOf]; omega
        | some zs =>
          obtain ⟨v, hMs, b3, off3, c3, rfl, hI3, hc3, hc4, _⟩ := hso s zs hms
          have hEq : ∀ W, Below wr.heap.size wr W → Calls Try.prog 97 #[.slice (some ⟨b3, off3, none⟩) zs.length c3, .slice (some ⟨b, off + k, none⟩) (q - k) (ct - k)] W fun e w' => e = .returned (.bool (sameB zs pt)) ∧ Below W.heap.size W w' := fun W hW => by
            rw [← Hpl.out]
            exact equal_any zs pt _ _ c3 (ct - k) W (((hI3.below (hW.mono hB.size)).mono (by have := hW.size; have := hB.size; omega))) (((HIs'.out.below hB).below (hW.mono hB.size)).mono (by have := hW.size; have := hB.size; omega)) (by omega)
          have HEq := hid hEq
          have HMs := hid hMs
          have Hn := hid hn
          have Hso := hid hso
          have HM := hid hM
          clear hEq hMs hn hso hM hI3
          by_cases he : zs = pt
          · subst he
            have hsb : sameB zs zs = true := by simp [sameB]
            have hst := hid (hold.out hms)
            clear hnew hold hcl hms
            go_wp2_with (first
              | (go_at_call 45; refine hE.mono ?_; clear hE; rintro e w1 ⟨rfl, hB1⟩; have hM1 := hid (HM.out.keep (hB1.block _ HM.out.lt)); have hB2 := hB.trans (hB1.mono hB.size))
              | (at_lookup; go_loud (refine wp_look_hit _ rfl _ _ 107 rfl 23 Try.underlying107 (zeroTerm _) w.heap.size j M rfl hM1.out s rfl hwf.out _ HMs.out ?_))
              | (go_at_call 97; refine (HEq.out _ hB1).mono ?_; rw [hsb]; rintro e w3 ⟨rfl, hB3⟩; have hM3 := hid (hM1.out.keep (hB3.block _ hM1.out.lt)); have hB4 := hB2.trans (hB3.mono hB2.size))
              | (at_mapUpdate; go_loud (refine wp_mapset _ rfl _ _ _ 107 rfl 23 Try.underlying107 w.heap.size j M rfl hM3.out (by unfold maxLen; omega) s rfl hwf.out _ rfl ?_); intro w2 hM2 hg2))
            have hB5 : Below w.heap.size w w2 := hB4.grown hg2 hB4.size (fun x e => by simp at e; omega)
            go_roundw
            case rel => exact ⟨j + 1, q, _, by omega, by omega, by go_num, rfl, hst, hag2, hB5, FitAt.upd Hn.out (fun x zs h => by obtain ⟨v, h1, h2⟩ := Hso.out x zs h; exact ⟨v, h1, (h2.below (hB1.mono hB.size)).below (hB3.mono hB2.size)⟩) hM2 (Below.grown (Below.refl _ _) hg2 hB4.size (fun x e => by simp at e; omega)) (hrd.out.below hB4)⟩
            case measure => simp [intOf]; omega
          · have hsb : sameB zs pt = false := by simp [sameB, he]
            have hst := hid (hcl.out zs hms he)
            clear hnew hold hcl hms he
            go_wp2_with (first
              | (go_at_call 45; refine hE.mono ?_; clear hE; rintro e w1 ⟨rfl, hB1⟩; have hM1 := hid (HM.out.keep (hB1.block _ HM.out.lt)); have hB2 := hB.trans (hB1.mono hB.size))
              | (at_lookup; go_loud (refine wp_look_hit _ rfl _ _ 107 rfl 23 Try.underlying107 (zeroTerm _) w.heap.size j M rfl hM1.out s rfl hwf.out _ HMs.out ?_))
              | (go_at_call 97; refine (HEq.out _ hB1).mono ?_; rw [hsb]; rintro e w3 ⟨rfl, hB3⟩; have hM3 := hid (hM1.out.keep (hB3.block _ hM1.out.lt)); have hB4 := hB2.trans (hB3.mono hB2.size)))
            go_ret2
            exact ⟨hB4, by rw [hst.out]; rfl⟩
      · have hsy := hid (fun h => hfit.out.trans (Tm.fitGo_sym (t := t) (k := k) (m := m) hlt hs h))
        have hot := hid (fun h => hfit.out.trans (Tm.fitGo_other (t := t) (k := k) (m := m) hlt hs h))
        have hag2 := hid (fun h => hag.out.sym hlt h)
        clear hfit hag
        generalize p[j]?.getD 0 = s at *
        generalize t[k]?.getD 0 = u at *
        by_cases he : u = s
        · have hn : (u != s) = false := by simp [he]
          have hst := hid (hsy.out he)
          have hag3 := hid (hag2.out he)
          clear hsy hot he hag2
          go_wp2
          go_roundw
          case rel => exact ⟨j + 1, k + 1, m, by omega, by omega, by go_num, by go_num, hst, hag3, hB, by obtain ⟨M, h1, h2⟩ := hF.out; exact ⟨M, h1.mono (by omega), h2⟩⟩
          case measure => simp [intOf]; omega
        · have hn : (u != s) = true := by simp [he]
          have hst := hid (hot.out he)
          clear hsy hot he hag2
          go_wp2
          go_ret2
          exact ⟨hB, by rw [hst.out]; rfl⟩
    · obtain rfl : j = p.length := by omega
      go_wp2
      go_ret2
      exact ⟨hB, by rw [hfit.out, List.drop_length, Tm.fitGo_nil]; exact ⟨_, _, rfl, Nat.le_refl _, hF.out⟩⟩

end Go.Proofs.Ytjaikmlbajdedac

namespace Go.Proofs.Ytjaikmlbajdedac
open Go.Proofs Go.RowKit Go.Shelf Go.Maps

set_option maxRecDepth 100000 in
set_option maxHeartbeats 400000 in
theorem firstError_any (ss : List (List Int)) (hl : ss.length ≤ 1000) (a : Option Addr) (cap : Nat) (w : World) (hS : Subs w.heap.size w a ss) :
    Calls Try.prog 77 #[.slice a ss.length cap] w fun e w' => e = .returned (.int .i64 (Tm.firstErr ss)) ∧ Below w.heap.size w w' := by
  have HS := hid hS
  have hl' : (ss.length : Int) ≤ 1000 := by omega
  clear hS
  go_enter Try.func77, Try.ntmps77
  go_wp2
  go_loopw [8] (fun i wr => ∃ k : Nat, k ≤ ss.length ∧ i = .int .i64 (k : Int) ∧ Hid (Tm.firstErr ss = Tm.firstErr (ss.drop k)) ∧ Below w.heap.size w wr) (fun i _ => ss.length - (intOf i).toNat)
  case atStart => exact ⟨0, Nat.zero_le _, rfl, rfl, Below.refl _ _⟩
  case round =>
    obtain ⟨k, hk, rfl, hf, hB⟩ := hrel
    by_cases hlt : k < ss.length
    · have hlt' : (k : Int) < (ss.length : Int) := by omega
      obtain ⟨b, off, rfl, hb, hc⟩ := HS.out.at (by omega)
      obtain ⟨aj, cj, hcj, hIj, _⟩ := hc k hlt
      have hcj' := (hB.cell (p := ⟨b, off + k, none⟩) hb).trans hcj
      have hC := check_any (ss[k]?.getD []) aj cj wr ((hIj.below hB).mono hB.size)
      have hst := hid (Tm.firstErr_step (ss := ss) (k := k) hlt)
      have hsp := hid (Tm.firstErr_stop (ss := ss) (k := k) hlt)
      clear hcj hIj hc
      generalize ss[k]?.getD [] = t at *
      by_cases he : Tm.err t = 0
      · have hst' := hid (hf.out.trans (hst.out he))
        rw [he] at hC
        clear hst hsp he hf
        go_wp2_with (go_at_call 22; refine hC.mono ?_; clear hC; rintro e w1 ⟨rfl, hB1⟩)
        go_roundw
        case rel => exact ⟨k + 1, by omega, by go_num, hst'.out, hB.trans (hB1.mono hB.size)⟩
        case measure => simp [intOf]; omega
      · have hsp' := hid (hf.out.trans (hsp.out he))
        have hne : (Tm.err t != 0) = true := by simp [he]
        clear hst hsp he hf
        generalize Tm.err t = q at *
        go_wp2_with (go_at_call 22; refine hC.mono ?_; clear hC; rintro e w1 ⟨rfl, hB1⟩)
        go_ret
        exact ⟨by rw [hsp'.out]; rfl, hB.trans (hB1.mono hB.size)⟩
    · obtain rfl : k = ss.length := by omega
      have h0 : Hid (Tm.firstErr ss = 0) := by
        show _ = _
        rw [hf.out, List.drop_length]
        rfl
      clear hf
      go_wp2
      go_ret
      exact ⟨by rw [h0.out]; rfl, hB⟩

theorem subs_two (W : World) (p t : List Int) (ap at' : Option Addr) (cp ct n : Nat) (hn : n = W.heap.size + 1) (hP : Ints W.heap.size W ap p) (hT : Ints W.heap.size W at' t) (h1 : p.length ≤ cp ∧ cp ≤ maxLen ∧ (ap = none → cp = 0)) (h2 : t.length ≤ ct ∧ ct ≤ maxLen ∧ (at' = none → ct = 0)) :
    Subs n (W.alloc (.cells #[.slice ap p.length cp, .slice at' t.length ct] 23)) (some ⟨W.heap.size, 0, none⟩) [p, t] := by
  have hB : Below W.heap.size W (W.alloc (.cells #[.slice ap p.length cp, .slice at' t.length ct] 23)) := (Below.refl _ _).alloc (Nat.le_refl _) _
  have hnew := World.alloc_heap_new W (.cells #[.slice ap p.length cp, .slice at' t.length ct] 23)
  intro j hj
  simp only [List.length_cons, List.length_nil] at hj
  match j, hj with
  | 0, _ => exact ⟨W.heap.size, 0, ap, cp, rfl, by omega, (cell_at hnew 0).trans rfl, (hP.below hB).mono (by omega), h1⟩
  | 1, _ => exact ⟨W.heap.size, 0, at', ct, rfl, by omega, (cell_at hnew 1).trans rfl, (hT.below hB).mono (by omega), h2⟩

theorem first_two (p t : List Int) (ap at' : Option Addr) (cp ct : Nat) (W : World) (hP : Ints W.heap.size W ap p) (hT : Ints W.heap.size W at' t) (h1 : p.length ≤ cp ∧ cp ≤ maxLen ∧ (ap = none → cp = 0)) (h2 : t.length ≤ ct ∧ ct ≤ maxLen ∧ (at' = none → ct = 0)) :
    Calls Try.prog 77 #[.slice (some ⟨W.heap.size, 0, none⟩) 2 2] (W.alloc (.cells #[.slice ap p.length cp, .slice at' t.length ct] 23)) fun e w' => e = .returned (.int .i64 (Tm.fitErr p t)) ∧ Below W.heap.size W w' :=
  (firstError_any [p, t] (by simp) _ 2 _ (subs_two W p t ap at' cp ct _ (by simp) hP hT h1 h2)).mono fun e w' ⟨h, hB⟩ => ⟨h, ((Below.refl _ _).alloc (Nat.le_refl _) _).trans (hB.mono (by simp))⟩

theorem newS_cell {base : Nat} {W : World} {g c : Nat} {ss : List (List Int)} (h : NewS base W (.slice (some ⟨g, 0, none⟩) 8 c) ss) (hl : ss.length = 8) {k : Nat} (hk : k < 8) :
    base ≤ g ∧ ∃ x, W.cell? ⟨g, k, none⟩ = some x ∧ W.frozen? ⟨g, k, none⟩ = false := by
  obtain ⟨us, h1, _⟩ := h
  rw [hl] at h1
  have hus : us.length = 8 := by have := h1.1; omega
  have c0 := World.ownsRow.cellAt h1 k (by omega)
  rw [List.getElem?_eq_getElem (by omega)] at c0
  exact ⟨(World.ownsRow.lt h1 g rfl).1, _, c0, World.ownsRow.frozenAt h1 k⟩

set_option maxRecDepth 100000 in
set_option maxHeartbeats 1000000 in
/-- match.Fit. -/
theorem Fit_any (p t : List Int) (ap at' : Option Addr) (cp ct : Nat) (w : World) (hP : Ints w.heap.size w ap p) (hT : Ints w.heap.size w at' t) (h1 : p.length ≤ cp ∧ cp ≤ maxLen ∧ (ap = none → cp = 0)) (h2 : t.length ≤ ct ∧ ct ≤ maxLen ∧ (at' = none → ct = 0)) :
    Calls Try.prog 54 #[.slice ap p.length cp, .slice at' t.length ct] w fun e w' => ∃ v, e = .returned (.tuple #[v, .bool (Tm.fitIs p t), .int .i64 (Tm.fitErr p t)]) ∧ NewS w.heap.size w' v (Tm.fitVal p t) ∧ Below w.heap.size w w' := by
  have hC := first_two p t ap at' cp ct w hP hT h1 h2
  by_cases he : Tm.fitErr p t = 0
  · obtain ⟨hp, ht⟩ := Tm.fitErr_ok he
    have hfit : ∀ W, Below w.heap.size w W → Calls Try.prog 78 #[.slice ap p.length cp, .slice at' t.length ct] W fun e w' => Below W.heap.size W w' ∧ FitAns W w' e (Tm.fit p t) := fun W hW =>
      fit_any p t ap at' cp ct W hp ht ((hP.below hW).mono hW.size) ((hT.below hW).mono hW.size) h2.1 h2.2.1
    cases hf : Tm.fit p t with
    | none =>
      obtain ⟨e1, e2⟩ := Tm.fit_no he hf
      rw [hf] at hfit
      rw [e1, e2, he]
      rw [he] at hC
      have HF := hid hfit
      clear hfit hf e1 e2 hp ht he hP hT h1 h2
      go_enter Try.func54, Try.ntmps54
      go_wp2_with (first
        | (go_at_call 77; refine hC.mono ?_; clear hC; rintro e w1 ⟨rfl, hB1⟩)
        | (go_at_call 78; refine (HF.out _ hB1).mono ?_; rintro e w2 ⟨hB2, rfl⟩; have hB3 := hB1.trans (hB2.mono hB1.size)))
      go_ret3
      exact ⟨_, rfl, NewS.nil _ _, hB3⟩
    | some m =>
      obtain ⟨e1, e2⟩ := Tm.fit_yes he hf
      rw [hf] at hfit
      rw [e1, e2, he]
      rw [he] at hC
      have HF := hid hfit
      clear hfit hf e1 e2 hp ht he hP hT h1 h2
      go_enter Try.func54, Try.ntmps54
      go_wp2_with (first
        | (go_at_call 77; refine hC.mono ?_; clear hC; rintro e w1 ⟨rfl, hB1⟩)
        | (go_at_call 78; refine (HF.out _ hB1).mono ?_; rintro e w2 ⟨hB2, bm, N, rfl, hbm, M, hM, hMn, hMs⟩; have hB3 := hB1.trans (hB2.mono hB1.size); have HMn := hid hMn; have HMs := hid hMs; have HM := hid hM; clear hMn hMs hM)
        | (go_at_call 79; refine (none_any _).mono ?_; rintro e w3 ⟨v, rfl, hN, hB4⟩; have hB5 := hB3.trans (hB4.mono hB3.size); have hlen : (Tm.noneL 8).length = 8 := Tm.noneL_length 8; obtain ⟨g, c, rfl⟩ : ∃ g c, v = .slice (some ⟨g, 0, none⟩) 8 c := (by obtain ⟨us, h1, _⟩ := hN; rw [hlen] at h1; exact ownsRow_succ h1)))
      have hM3 := hid (HM.out.keep (hB4.block _ HM.out.lt))
      have hgm : g ≠ bm := by
        obtain ⟨us, h1, _⟩ := hN
        have := (World.ownsRow.lt h1 g rfl).1
        have := HM.out.lt
        omega
      have hg2 : w2.heap.size ≤ g := by
        obtain ⟨us, h1, _⟩ := hN
        exact (World.ownsRow.lt h1 g rfl).1
      have HN := hid hN
      clear hN HM hlen
      go_loopw [32] (fun i wr => ∃ k : Nat, k ≤ 8 ∧ i = .int .i64 (k : Int) ∧ Hid (NewS w.heap.size wr (.slice (some ⟨g, 0, none⟩) 8 c) (Tm.fitL m k)) ∧ Hid (IntMap wr bm N M) ∧ Below w1.heap.size w2 wr) (fun i _ => 8 - (intOf i).toNat)
      case atStart => exact ⟨0, Nat.zero_le _, rfl, by rw [Tm.fitL_zero]; exact HN.out.mono hB3.size, hM3, hB4.mono hB2.size⟩
      case round =>
        obtain ⟨k, hk, rfl, hNk, hMk, hBk⟩ := hrel
        by_cases hlt : k < 8
        · have hlt' : (k : Int) < 8 := by omega
          have hk0 : (0 : Int) ≤ (k : Int) := by omega
          have hwf := hid (wf64 (s := -1 - (k : Int)) (by omega) (by omega))
          cases hm : m (-1 - (k : Int)) with
          | none =>
            have hMs := hid (HMn.out _ hm)
            have hst := hid (Tm.fitL_none hm)
            clear hm
            go_wp2_with (first
              | (at_lookup; go_loud (refine wp_look_miss _ rfl _ _ 107 rfl 23 Try.underlying107 (zeroTerm _) bm N M rfl hMk.out (-1 - (k : Int)) rfl hwf.out hMs.out ?_)))
            go_roundw
            case rel => exact ⟨k + 1, by omega, by go_num, by rw [hst.out]; exact hNk.out, hMk, hBk⟩
            case measure => simp [intOf]; omega
          | some zs =>
            obtain ⟨v, hMs, b3, off3, c3, rfl, hI3, _, _, h30⟩ := HMs.out _ zs hm
            have hst := hid (Tm.fitL_some hm)
            have HMv := hid hMs
            have hs12 := hB2.size
            have hCl := clone_any zs b3 off3 c3 wr h30 ((hI3.below hBk).mono (by have := hBk.size; omega))
            clear hm hMs hI3
            go_wp2_with (first
              | (at_lookup; go_loud (refine wp_look_hit _ rfl _ _ 107 rfl 23 Try.underlying107 (zeroTerm _) bm N M rfl hMk.out (-1 - (k : Int)) rfl hwf.out _ HMv.out ?_))
              | (go_at_call 43; refine hCl.mono ?_; clear hCl; rintro e w5 ⟨u, rfl, hNu, hBu⟩; obtain ⟨au, cu, rfl, _⟩ := New.ints hNu; have hN5 := hid (hNk.out.below hBu); obtain ⟨hg5, x5, hc5, hf5⟩ := newS_cell hN5.out (Tm.fitL_length m k) hlt))
            have hBs : Below w.heap.size w wr := hB1.trans ((hB2.trans hBk).mono hB1.size)
            go_roundw
            case rel =>
              refine ⟨k + 1, by omega, by go_num, ?_, ?_, ?_⟩
              · rw [hst.out]
                exact hN5.out.set (Tm.fitL_length m k).symm (hNu.mono hBs.size) k
              · exact (hMk.out.keep (hBu.block _ hMk.out.lt)).keep (Below.heap_setCell _ _ _ _ (fun e => hgm e.symm))
              · exact (hBk.trans (hBu.mono (by have := hBk.size; omega))).setCell (p := ⟨g, k, none⟩) (show w1.heap.size ≤ g by omega) _
            case measure => simp [intOf]; omega
        · obtain rfl : k = 8 := by omega
          go_wp2
          go_ret3
          exact ⟨_, rfl, hNk.out, hB1.trans ((hB2.trans hBk).mono hB1.size)⟩
  · obtain ⟨e1, e2⟩ := Tm.fit_bad he
    rw [e1, e2]
    have hne : (Tm.fitErr p t != 0) = true := by simp [he]
    clear hP hT e1 e2 he h1 h2
    generalize Tm.fitErr p t = q at *
    go_enter Try.func54, Try.ntmps54
    go_wp2_with (first
      | (go_at_call 77; refine hC.mono ?_; clear hC; rintro e w1 ⟨rfl, hB1⟩))
    go_ret3
    exact ⟨_, rfl, NewS.nil _ _, hB1⟩

end Go.Proofs.Ytjaikmlbajdedac

namespace Go.Proofs.Ytjaikmlbajdedac
open Go.Proofs Go.RowKit Go.Shelf Go.Maps

abbrev ptr (X : Nat) : Value := .pointer (some ⟨X, 0, none⟩)
/-- v is a slice of the pointers to Xs, its cells in blocks from lo to hi. -/
def PartsAt (lo hi : Nat) (W : World) (v : Value) (Xs : List Nat) : Prop := ∃ a c, v = .slice a Xs.length c ∧ ∀ j, j < Xs.length → ∃ b off, a = some ⟨b, off, none⟩ ∧ lo ≤ b ∧ b < hi ∧ W.cell? ⟨b, off + j, none⟩ = some (ptr (Xs[j]?.getD 0))
/-- BLOCK X IS A TREE, all of it in blocks from lo to hi, whose signs are zs. -/
inductive TreeIn (lo hi : Nat) (W : World) : Nat → List Int → Prop
  | mk (X : Nat) (s : Int) (v : Value) (Xs : List Nat) (zss : List (List Int)) : lo ≤ X → X < hi → Node W X s v → PartsAt lo hi W v Xs → Xs.length = Tm.room s → zss.length = Xs.length →
      (∀ j, j < Xs.length → TreeIn lo hi W (Xs[j]?.getD 0) (zss[j]?.getD [])) → TreeIn lo hi W X (s :: zss.flatten)

theorem PartsAt.keep {lo hi lo' hi' : Nat} {W W' : World} {v : Value} {Xs : List Nat} (h : PartsAt lo hi W v Xs) (h1 : lo' ≤ lo) (h2 : hi ≤ hi') (hk : ∀ k, lo ≤ k → k < hi → W'.heap[k]? = W.heap[k]?) : PartsAt lo' hi' W' v Xs := by
  obtain ⟨a, c, rfl, hc⟩ := h
  refine ⟨a, c, rfl, fun j hj => ?_⟩
  obtain ⟨b, off, e, hb1, hb2, hcell⟩ := hc j hj
  exact ⟨b, off, e, by omega, by omega, (World.cell?_of_block (a := ⟨b, off + j, none⟩) (hk b hb1 hb2)).trans hcell⟩
theorem TreeIn.keep {lo hi lo' hi' : Nat} {W W' : World} {X : Nat} {zs : List Int} (h : TreeIn lo hi W X zs) (h1 : lo' ≤ lo) (h2 : hi ≤ hi') (hk : ∀ k, lo ≤ k → k < hi → W'.heap[k]? = W.heap[k]?) : TreeIn lo' hi' W' X zs := by
  induction h with
  | mk X s v Xs zss hX1 hX2 hN hP hr hl _ ih =>
    exact TreeIn.mk X s v Xs zss (by omega) (by omega) ((hk X hX1 hX2).trans hN) (hP.keep h1 h2 hk) hr hl ih
theorem TreeIn.under {lo hi n : Nat} {W W' : World} {X : Nat} {zs : List Int} (h : TreeIn lo hi W X zs) (hB : Below n W W') (hn : hi ≤ n) : TreeIn lo hi W' X zs :=
  h.keep (Nat.le_refl _) (Nat.le_refl _) fun k _ hk => hB.block k (by omega)
theorem TreeIn.wide {lo hi lo' hi' : Nat} {W : World} {X : Nat} {zs : List Int} (h : TreeIn lo hi W X zs) (h1 : lo' ≤ lo) (h2 : hi ≤ hi') : TreeIn lo' hi' W X zs := h.keep h1 h2 fun _ _ _ => rfl

/-- The first m parts, one behind the other. -/
theorem Tm.parts_flat {zs : List Int} {m : Nat} (hm : Tm.pos zs 0 (m + 1) ≤ zs.length) : (zs.take (Tm.pos zs 0 (m + 1))).drop 1 = (zs.take (Tm.pos zs 0 m)).drop 1 ++ (zs.drop (Tm.pos zs 0 m)).take (Tm.pos zs 0 (m + 1) - Tm.pos zs 0 m) := by
  have h1 := Tm.pos_mono zs 0 m (m + 1) (by omega)
  have h0 : 1 ≤ Tm.pos zs 0 m := Tm.pos_gt zs 0 m
  rw [show zs.take (Tm.pos zs 0 (m + 1)) = zs.take (Tm.pos zs 0 m) ++ (zs.drop (Tm.pos zs 0 m)).take (Tm.pos zs 0 (m + 1) - Tm.pos zs 0 m) from by
    rw [← List.take_add]; congr 1; omega]
  rw [List.drop_append_of_le_length]
  simp only [List.length_take]
  omega

/-- The state of grown's loop: m parts are there. -/
def GrownSt (base : Nat) (wr : World) (zs : List Int) (m : Nat) (v : Value) (xs : List Value) : Prop :=
  ∃ (Xs : List Nat) (zss : List (List Int)), Xs.length = m ∧ zss.length = m ∧ xs = Xs.map ptr ∧ zss.flatten = (zs.take (Tm.pos zs 0 m)).drop 1 ∧
    ∀ j, j < m → ∃ lo hi, base < lo ∧ hi ≤ wr.heap.size ∧ TreeIn lo hi wr (Xs[j]?.getD 0) (zss[j]?.getD []) ∧ ∀ k, v.ownBlock = some k → k < lo ∨ hi ≤ k
theorem GrownSt.start (base : Nat) (wr : World) (zs : List Int) (v : Value) (xs : List Value) (h : xs = []) : GrownSt base wr zs 0 v xs :=
  ⟨[], [], rfl, rfl, by rw [h]; rfl, by rw [Tm.pos_zero]; simp, fun j hj => by omega⟩
/-- One part more: made between sizes lo and hi; then appended. -/
theorem GrownSt.step {base lo hi : Nat} {wr w2 w3 : World} {zs pt : List Int} {m : Nat} {v v' : Value} {xs : List Value} {p : Nat} (h : GrownSt base wr zs m v xs) (hlo : lo = wr.heap.size) (hb : base < lo) (hlo2 : lo ≤ hi) (hB1 : ∀ k, k < lo → w2.heap[k]? = wr.heap[k]?)
    (hT : TreeIn lo hi w2 p pt) (hown : ∀ k, v.ownBlock = some k → k < lo) (hown' : v'.ownBlock = v.ownBlock ∨ ∃ q, v'.ownBlock = some q ∧ hi ≤ q) (hs3 : hi ≤ w3.heap.size)
    (hk : ∀ k, base < k → k < hi → (∀ q, v.ownBlock = some q → k ≠ q) → w3.heap[k]? = w2.heap[k]?)
    (hpt : pt = (zs.drop (Tm.pos zs 0 m)).take (Tm.pos zs 0 (m + 1) - Tm.pos zs 0 m)) (hle : Tm.pos zs 0 (m + 1) ≤ zs.length) : GrownSt base w3 zs (m + 1) v' (xs ++ [ptr p]) := by
  obtain ⟨Xs, zss, h1, h2, h3, h4, h5⟩ := h
  refine ⟨Xs ++ [p], zss ++ [pt], by simp [h1], by simp [h2], by simp [h3], by rw [List.flatten_append, h4, Tm.parts_flat hle, hpt]; simp, fun j hj => ?_⟩
  by_cases hjm : j < m
  · obtain ⟨l, h, e1, e2, hTj, e3⟩ := h5 j hjm
    refine ⟨l, h, e1, by omega, ?_, ?_⟩
    · rw [List.getElem?_append_left (by omega), List.getElem?_append_left (by omega)]
      refine hTj.keep (Nat.le_refl _) (Nat.le_refl _) fun k hk1 hk2 => ?_
      rw [hk k (by omega) (by omega) (fun q hq => by have := e3 q hq; omega), hB1 k (by omega)]
    · intro k hk'
      rcases hown' with e | ⟨q, e, hq⟩
      · exact e3 k (by rw [← e]; exact hk')
      · rw [e] at hk'
        have : q = k := by simpa using hk'
        exact .inr (by omega)
  · obtain rfl : j = m := by omega
    refine ⟨lo, hi, hb, hs3, ?_, ?_⟩
    · rw [List.getElem?_append_right (by omega), List.getElem?_append_right (by omega), h1, h2]
      simp only [Nat.sub_self, List.getElem?_cons_zero, Option.getD_some]
      refine hT.keep (Nat.le_refl _) (Nat.le_refl _) fun k hk1 hk2 => hk k (by omega) hk2 (fun q hq => by have := hown q hq; omega)
    · intro k hk'
      rcases hown' with e | ⟨q, e, hq⟩
      · exact .inl (hown k (by rw [← e]; exact hk'))
      · rw [e] at hk'
        have : q = k := by simpa using hk'
        exact .inr (by omega)
/-- All parts are there. -/
theorem GrownSt.done {base r : Nat} {wr : World} {zs : List Int} {s : Int} {v : Value} {xs : List Value} (h : GrownSt base wr zs r v xs) (hN : Node wr base s v) (hown : wr.ownsRow (base + 1) 124 1 v r xs) (hr : r = Tm.room s) (hs : zs[0]?.getD 0 = s) (h0 : 0 < zs.length) :
    TreeIn base wr.heap.size wr base (zs.take (Tm.pos zs 0 r)) := by
  obtain ⟨Xs, zss, h1, h2, h3, h4, h5⟩ := h
  have hz : zs.take (Tm.pos zs 0 r) = s :: zss.flatten := by
    rw [h4]
    have hp : 0 < Tm.pos zs 0 r := Tm.pos_gt zs 0 r
    cases zs with
    | nil => simp at h0
    | cons a l =>
      simp at hs
      subst hs
      obtain ⟨q, hq⟩ : ∃ q, Tm.pos (a :: l) 0 r = q + 1 := ⟨Tm.pos (a :: l) 0 r - 1, by omega⟩
      rw [hq]
      simp
  rw [hz]
  refine TreeIn.mk base s v Xs zss (Nat.le_refl _) hN.lt hN ?_ (by omega) (by omega) (fun j hj => ?_)
  · rcases hown.2 with ⟨rfl, hn⟩ | ⟨g, cap, cur, rfl, hb, hg, _⟩
    · exact ⟨none, 0, by rw [h1, hn], fun j hj => by omega⟩
    · refine ⟨_, cap, by rw [h1], fun j hj => ⟨g, 0, rfl, by omega, (Array.getElem?_eq_some_iff.1 hg).1, ?_⟩⟩
      have h5 := World.ownsRow.cellAt hown j (by omega)
      rw [Nat.zero_add, h5, h3]
      simp [hj]
  · obtain ⟨lo, hi, e1, e2, hT, _⟩ := h5 j (by omega)
    exact hT.wide (by omega) e2

end Go.Proofs.Ytjaikmlbajdedac

namespace Go.Proofs.Ytjaikmlbajdedac
open Go.Proofs Go.RowKit Go.Shelf Go.Maps

set_option maxRecDepth 100000 in
set_option maxHeartbeats 1000000 in
theorem growT_step (zs : List Int) (a : Option Addr) (cap : Nat) (w : World) (hlen : zs.length ≤ 30) (h0 : 0 < zs.length) (hall : zs.all Tm.known = true) (hrun : Tm.run zs 1 ≤ zs.length) (hcap : zs.length ≤ cap) (hcap2 : cap ≤ maxLen)
    (hI : Ints w.heap.size w a zs)
    (ih : ∀ (e : Nat) (a' : Option Addr) (cap' : Nat) (W : World), 0 < e → e < zs.length → Tm.run (zs.drop e) 1 ≤ zs.length - e → zs.length - e ≤ cap' → cap' ≤ maxLen → Ints W.heap.size W a' (zs.drop e) →
      Calls Try.prog 102 #[.slice a' (zs.length - e) cap'] W fun r w' => ∃ a2 c2, r = .returned (.tuple #[ptr W.heap.size, .slice a2 (zs.length - Tm.endAt zs e) c2]) ∧ Below W.heap.size W w' ∧ (∀ n X, Ints n X a' (zs.drop e) → Ints n X a2 (zs.drop (Tm.endAt zs e))) ∧ zs.length - Tm.endAt zs e ≤ c2 ∧ c2 ≤ maxLen ∧ TreeIn W.heap.size w'.heap.size w' W.heap.size ((zs.drop e).take (Tm.endAt zs e - e))) :
    Calls Try.prog 102 #[.slice a zs.length cap] w fun r w' => ∃ a2 c2, r = .returned (.tuple #[ptr w.heap.size, .slice a2 (zs.length - Tm.run zs 1) c2]) ∧ Below w.heap.size w w' ∧ (∀ n X, Ints n X a zs → Ints n X a2 (zs.drop (Tm.run zs 1))) ∧ zs.length - Tm.run zs 1 ≤ c2 ∧ c2 ≤ maxLen ∧ TreeIn w.heap.size w'.heap.size w' w.heap.size (zs.take (Tm.run zs 1)) := by
  have hcap3 : cap ≤ 9223372036854775807 := hcap2
  obtain ⟨b, off, rfl, hb, hc⟩ := hI.at h0
  have hc0 := hc 0 h0
  rw [Nat.add_zero] at hc0
  have h1 : (0 : Int) < (zs.length : Int) := by omega
  have h30 : (zs.length : Int) ≤ 30 := by omega
  have h2 : (zs.length : Int) ≤ (cap : Int) := by omega
  have hend := Tm.endAt_in zs 0 h0
  rw [Tm.endAt_zero] at hend
  rw [hend] at hrun ⊢
  have hs6 := Tm.known_lt (Tm.all_at hall h0)
  have hr2 := Tm.room_le (zs[0]?.getD 0)
  have hI' := show Hid _ from hI
  have ih' := show Hid _ from ih
  clear hc hI hend hall ih
  have Hs0 : Hid (zs[0]?.getD 0 = zs[0]?.getD 0) := rfl
  generalize hsd : zs[0]?.getD 0 = s at hc0 hrun hs6 hr2 ⊢
  have HS := hid hsd
  clear hsd Hs0
  have hsz : ∀ W, Calls Try.prog 81 #[.int .i64 s] W fun e w' => e = .returned (.int .i64 (Tm.room s : Int)) ∧ w' = W := fun W => size_any s W hs6
  clear hs6
  generalize hrd : Tm.room s = r at hrun hr2 hsz ⊢
  have HR := hid hrd.symm
  clear hrd
  obtain ⟨i0, hi, hz0, hz1, hz2⟩ := info_parts Try.info124
  have hNode : Node (w.alloc (.cells #[.int .i64 s, .slice none 0 0] 135)) w.heap.size s (.slice none 0 0) := World.alloc_heap_new w _
  have hB0 : Below w.heap.size w (w.alloc (.cells #[.int .i64 s, .slice none 0 0] 135)) := (Below.refl _ w).alloc (Nat.le_refl _) _
  have hs0 : w.heap.size < (w.alloc (.cells #[.int .i64 s, .slice none 0 0] 135)).heap.size := by simp
  obtain ⟨W0, hW0⟩ : ∃ W0, w.alloc (.cells #[.int .i64 s, .slice none 0 0] 135) = W0 := ⟨_, rfl⟩
  rw [hW0] at hNode hB0 hs0
  have HW0 : Hid (w.alloc (.cells #[.int .i64 s, .slice none 0 0] 135) = W0) := hW0
  clear hW0
  by_cases hc1 : cap = 1
  · subst hc1
    have hl1 : zs.length = 1 := by omega
    have hr0 : r = 0 := by have := Tm.pos_mono zs 0 1 r; have h := Tm.pos_succ zs 0 0; rw [Nat.zero_add] at h; have := Tm.endAt_gt zs (Tm.pos zs 0 0); have := Tm.pos_zero zs 0; omega
    subst hr0
    have HT := hid ((GrownSt.start w.heap.size W0 zs (.slice none 0 0) [] rfl).done hNode (World.ownsRow_nil _ _ _ _) HR.out HS.out h0)
    rw [Tm.pos_zero] at HT ⊢
    go_enter Try.func102, Try.ntmps102
    go_wp2
    rw [HW0.out]
    have hn0 := hNode.cell0
    have HN := show Hid _ from hNode
    clear hNode hl1
    refine wp_loop_rounds 1 ?_
    rw [rounds_succ]
    go_wp2_with (go_at_call 81; refine (hsz _).mono ?_; rintro e wr ⟨rfl, rfl⟩)
    go_ret2
    refine ⟨some ⟨b, off, none⟩, 0, ?_, hB0, fun n X hX => by rw [List.drop_of_length_le (by omega)]; exact Ints.nil _ _ _, by omega, by unfold maxLen; omega, HT.out⟩
    rw [show zs.length - (0 + 1) = 0 from by omega]; rfl
  · have Hc1 : Hid (¬ cap = 1) := hc1
    go_enter Try.func102, Try.ntmps102
    go_wp2
    rw [HW0.out]
    go_loopw [5, 6] (fun q i wr => ∃ (m : Nat) (a' : Option Addr) (c' : Nat) (v : Value) (xs : List Value), m ≤ r ∧ i = .int .i64 (m : Int) ∧ q = .slice a' (zs.length - Tm.pos zs 0 m) c' ∧ Hid (∀ n X, Ints n X (some ⟨b, off, none⟩) zs → Ints n X a' (zs.drop (Tm.pos zs 0 m))) ∧ zs.length - Tm.pos zs 0 m ≤ c' ∧ c' ≤ maxLen ∧
        Node wr w.heap.size s v ∧ wr.ownsRow (w.heap.size + 1) 124 1 v m xs ∧ Below w.heap.size w wr ∧ Hid (GrownSt w.heap.size wr zs m v xs)) (fun _ i _ => r - (intOf i).toNat)
    case atStart => exact ⟨0, _, _, _, [], Nat.zero_le _, rfl, by rw [Tm.pos_zero], fun n X hX => by rw [Tm.pos_zero]; exact hX.drop 1, by rw [Tm.pos_zero]; omega, by unfold maxLen; omega, hNode, World.ownsRow_nil _ _ _ _, hB0, GrownSt.start _ _ _ _ _ rfl⟩
    case round =>
      obtain ⟨m, a', c', v, xs, hm, rfl, rfl, hIa, hca, hca2, hN, hown, hB, hSt⟩ := hrel
      have hn0 := hN.cell0
      by_cases hlt : m < r
      · have hlt' : (m : Int) < (r : Int) := by omega
        have hp1 := Tm.pos_gt zs 0 m
        have hp2 := Tm.pos_succ zs 0 m
        have hp3 := Tm.pos_mono zs 0 (m + 1) r (by omega)
        have hp4 := Tm.endAt_gt zs (Tm.pos zs 0 m)
        have hg := ih'.out (Tm.pos zs 0 m) a' c' wr hp1 (by omega) (by unfold Tm.endAt at hp2; omega) hca hca2 ((hIa.out _ _ (Ints.below hB hI'.out)).mono hB.size)
        rw [← hp2] at hg
        have hX := hN.lt
        have hca3 : c' ≤ 9223372036854775807 := hca2
        have Hp3 := show Hid _ from hp3
        have Hle : Hid (Tm.pos zs 0 (m + 1) ≤ zs.length) := by show _ ≤ _; omega
        clear hp1 hp2 hp3 hp4 hca2 hNode hB0 hcap2
        go_wp2_with (first
          | (go_at_call 81; refine (hsz _).mono ?_; rintro e wr ⟨rfl, rfl⟩)
          | (go_at_call 102; refine hg.mono ?_; clear hg; rintro e W1 ⟨a2, c2, rfl, hB1, hI2, hc2, hc22, hT1⟩; have hN1 := hN.kept (grown_of_below hB1) (by simp); have hown1 := hown.kept (grown_of_below hB1) (by cases h : v.ownBlock with | none => exact .inl rfl | some k => exact .inr (by simp)); obtain ⟨ao, co, rfl⟩ := own_form hown1; have hn1 := hN1.cell1; have hf1 := hN1.frozen; have HI2 := show Hid _ from hI2; clear hI2; have Hc22 := show Hid _ from hc22; clear hc22; have HT1 := hid hT1; clear hT1)
          | (at_builtin; go_loud (refine wpList_append_own_at _ rfl _ _ 133 rfl (w.heap.size + 1) 124 i0 (.pointer none) 1 8 Try.underlying133 hi hz0 hz1 hz2 rfl (by decide) _ _ _ rfl (hown1.alloc _) ⟨W1.heap.size, 0, none⟩ 1 1 [ptr wr.heap.size] rfl rfl (cell_one_new _ _ _) (by simp [Value.oneCell', ptr]) (by unfold maxLen; omega) (by omega) (by have := hB1.size; simp; omega) ?_); intro v' w2 hown' hgrow _ hat; obtain ⟨g', cap', rfl⟩ := ownsRow_succ hown'; have R := hN1.appended hown1 hown' hgrow; have hn2 := R.1.cell1; have hf2 := R.1.frozen; have HR2 := show Hid _ from R; have Hg := hid hgrow; have Hat := hid hat; clear R hown' hgrow hat))
        refine ⟨⟨m + 1, a2, c2, _, _, by omega, by go_num, rfl, fun n X hX => HI2.out n X (hIa.out n X hX), hc2, Hc22.out, HR2.out.2.1, HR2.out.2.2.1, (hB.trans (hB1.mono hB.size)).trans HR2.out.2.2.2, ?_⟩, by simp [intOf]; omega⟩
        have hs1 := hB1.size
        have hs2 := Hg.out.size
        have ho : ∀ k, (Value.slice ao m co).ownBlock = some k → w.heap.size < k ∧ k < wr.heap.size := fun k hk => by have := hown.lt k hk; omega
        refine GrownSt.step hSt.out rfl hX hs1 (fun k hk => hB1.block k hk) HT1.out (fun k hk => (ho k hk).2) ?_ ?_ ?_ rfl Hle.out
        · rcases Hat.out with e | e
          · exact .inl e
          · exact .inr ⟨_, e, by simp⟩
        · have hs3 := (KeepsWalks.setCell w2 ⟨w.heap.size, 1, none⟩ (Value.slice (some ⟨g', 0, none⟩) (m + 1) cap')).size; simp at hs2; omega
        · intro k hk1 hk2 hk3
          rw [Below.heap_setCell _ _ _ _ (by simp; omega), Hg.out.block k (by simp; omega) (fun e => hk3 k e.symm rfl), Below.heap_alloc _ _ _ hk2]
      · obtain rfl : m = r := by omega
        have HT := hid (hSt.out.done hN hown HR.out HS.out h0)
        go_wp2_with (go_at_call 81; refine (hsz _).mono ?_; rintro e wr ⟨rfl, rfl⟩)
        go_ret2
        exact ⟨_, _, rfl, hB, hIa, hca, hca2, HT.out⟩

/-- haspref.grown. -/
theorem growT_any : ∀ (m : Nat) (zs : List Int) (a : Option Addr) (cap : Nat) (w : World), zs.length ≤ m → zs.length ≤ 30 → 0 < zs.length → zs.all Tm.known = true → Tm.run zs 1 ≤ zs.length → zs.length ≤ cap → cap ≤ maxLen → Ints w.heap.size w a zs →
    Calls Try.prog 102 #[.slice a zs.length cap] w fun r w' => ∃ a2 c2, r = .returned (.tuple #[ptr w.heap.size, .slice a2 (zs.length - Tm.run zs 1) c2]) ∧ Below w.heap.size w w' ∧ (∀ n X, Ints n X a zs → Ints n X a2 (zs.drop (Tm.run zs 1))) ∧ zs.length - Tm.run zs 1 ≤ c2 ∧ c2 ≤ maxLen ∧ TreeIn w.heap.size w'.heap.size w' w.heap.size (zs.take (Tm.run zs 1)) := by
  intro m
  induction m with
  | zero => intro zs a cap w h1 _ h2; omega
  | succ m ih =>
    intro zs a cap w hm h30 h0 hall hrun hcap hcap2 hI
    refine growT_step zs a cap w h30 h0 hall hrun hcap hcap2 hI ?_
    intro e a' cap' W he1 he2 hr hc hc2 hIe
    have h := ih (zs.drop e) a' cap' W (by rw [List.length_drop]; omega) (by rw [List.length_drop]; omega) (by rw [List.length_drop]; omega)
      (by rw [List.all_eq_true] at hall ⊢; exact fun x hx => hall x (List.mem_of_mem_drop hx)) (by rw [List.length_drop]; exact hr) (by rw [List.length_drop]; exact hc) hc2 hIe
    simp only [List.length_drop, List.drop_drop] at h
    rw [Tm.endAt_drop, show zs.length - (e + Tm.run (zs.drop e) 1) = zs.length - e - Tm.run (zs.drop e) 1 from by omega, show e + Tm.run (zs.drop e) 1 - e = Tm.run (zs.drop e) 1 from by omega]
    exact h

set_option maxRecDepth 100000 in
/-- haspref.treeOf. -/
theorem treeOf_any (zs : List Int) (a : Option Addr) (cap : Nat) (w : World) (he : Tm.err zs = 0) (hcap : zs.length ≤ cap) (hcap2 : cap ≤ maxLen) (hI : Ints w.heap.size w a zs) :
    Calls Try.prog 99 #[.slice a zs.length cap] w fun r w' => r = .returned (ptr w.heap.size) ∧ Below w.heap.size w w' ∧ TreeIn w.heap.size w'.heap.size w' w.heap.size zs := by
  have hr := Tm.err_run he
  have hg := growT_any _ zs a cap w (Nat.le_refl _) (Tm.err_len he) (Tm.err_pos he) (Tm.err_all he) (by omega) hcap hcap2 hI
  rw [hr, List.take_length] at hg
  clear hI hr he
  go_enter Try.func99, Try.ntmps99
  go_wp2_with (go_at_call 102; refine hg.mono ?_; clear hg; rintro e w1 ⟨a2, c2, rfl, hB, _, _, _, hT⟩)
  go_ret
  exact ⟨rfl, hB, hT⟩

end Go.Proofs.Ytjaikmlbajdedac

namespace Go.Proofs.Ytjaikmlbajdedac
open Go.Proofs Go.RowKit Go.Shelf Go.Maps

theorem flatten_snoc {zss : List (List Int)} {k : Nat} (hk : k < zss.length) : (zss.take (k + 1)).flatten = (zss.take k).flatten ++ (zss[k]?.getD []) := by
  rw [takeS_snoc hk, List.flatten_append]; simp
theorem flatten_le {zss : List (List Int)} {k : Nat} (hk : k < zss.length) : (zss.take k).flatten.length + (zss[k]?.getD []).length ≤ zss.flatten.length := by
  have h1 : zss.flatten.length = ((zss.take (k + 1)) ++ zss.drop (k + 1)).flatten.length := by rw [List.take_append_drop]
  rw [h1, List.flatten_append, List.length_append, flatten_snoc hk, List.length_append]
  omega
theorem flatten_take_le {zss : List (List Int)} (k : Nat) : (zss.take k).flatten.length ≤ zss.flatten.length := by
  have h1 : zss.flatten.length = ((zss.take k) ++ zss.drop k).flatten.length := by rw [List.take_append_drop]
  rw [h1, List.flatten_append, List.length_append]
  omega

theorem new_ints0 {base : Nat} {W : World} {v : Value} {zs : List Int} (h : New base W v zs) : ∃ a cap, v = .slice a zs.length cap ∧ Ints W.heap.size W a zs ∧ (a = none → zs.length = 0 ∧ cap = 0) := by
  obtain ⟨a, cap, rfl, hI, h1, h2⟩ := New.ints h
  refine ⟨a, cap, rfl, hI, fun e => ?_⟩
  subst e
  rcases h.2 with ⟨e, hn⟩ | ⟨g, c, cur, e, _⟩
  · simp only [Value.slice.injEq] at e; exact ⟨hn, e.2.2⟩
  · simp at e

set_option maxRecDepth 100000 in
set_option maxHeartbeats 1000000 in
theorem flat_all {lo hi : Nat} {W : World} {X : Nat} {zs : List Int} (h : TreeIn lo hi W X zs) : zs.length ≤ 1000 → ∀ W', (∀ k, lo ≤ k → k < hi → W'.heap[k]? = W.heap[k]?) → hi ≤ W'.heap.size →
    Calls Try.prog 101 #[ptr X] W' fun e w' => ∃ v, e = .returned v ∧ New W'.heap.size w' v zs ∧ Below W'.heap.size W' w' := by
  induction h with
  | mk X s v Xs zss hX1 hX2 hN hP hr hl _ ih =>
    intro hlen w hw hhi
    simp only [List.length_cons] at hlen
    obtain ⟨a, c, rfl, hc⟩ := hP
    have hr2 := Tm.room_le s
    have hN' : Node w X s (.slice a Xs.length c) := (hw X hX1 hX2).trans hN
    have hn0 := hN'.cell0
    have hl0 := New.lit w.heap.size w [s] (Nat.le_refl _) (by unfold maxLen; simp)
    simp only [List.map_cons, List.map_nil, List.length_cons, List.length_nil, Nat.zero_add] at hl0
    have hB0 : Below w.heap.size w (w.alloc (.cells #[.int .i64 s] 3)) := (Below.refl _ _).alloc (Nat.le_refl _) _
    have hX3 : (Xs.length : Int) ≤ 2 := by omega
    have IH := hid ih
    have HW := hid hw
    have Hc := hid hc
    have HN' := hid hN'
    have Hl := hid hl
    have Hr := hid hr
    have Hlen := hid hlen
    clear ih hw hc hN hN' hl hr hlen
    go_enter Try.func101, Try.ntmps101
    go_wp2
    go_loopw [3, 4] (fun u i wr => ∃ k : Nat, k ≤ Xs.length ∧ i = .int .i64 (k : Int) ∧ Hid (New w.heap.size wr u (s :: (zss.take k).flatten)) ∧ Below w.heap.size w wr) (fun _ i _ => Xs.length - (intOf i).toNat)
    case atStart => exact ⟨0, Nat.zero_le _, rfl, by simpa [Hid] using hl0, hB0⟩
    case round =>
      obtain ⟨k, hk, rfl, hNk, hB⟩ := hrel
      have hNr : Node wr X s (.slice a Xs.length c) := (hB.block X (by omega)).trans HN'.out
      have hn1 := hNr.cell1
      obtain ⟨a0, c0, rfl, _⟩ := New.ints hNk.out
      by_cases hlt : k < Xs.length
      · have hlt' : (k : Int) < (Xs.length : Int) := by omega
        obtain ⟨b, off, rfl, hb1, hb2, hcell⟩ := Hc.out k hlt
        have hck : wr.cell? ⟨b, off + k, none⟩ = some (ptr (Xs[k]?.getD 0)) := (World.cell?_of_block (a := ⟨b, off + k, none⟩) ((hB.block b (by omega)).trans (HW.out b hb1 hb2))).trans hcell
        have hle := flatten_le (zss := zss) (k := k) (by have := Hl.out; omega)
        have hF := IH.out k hlt (by have := Hlen.out; omega) wr (fun q h1 h2 => (hB.block q (by omega)).trans (HW.out q h1 h2)) (by have := hB.size; omega)
        have hsn := hid (flatten_snoc (zss := zss) (k := k) (by have := Hl.out; omega))
        have Hle : Hid ((s :: (zss.take k).flatten).length + (zss[k]?.getD []).length ≤ 1000000) := by have := Hlen.out; show _ ≤ _; simp only [List.length_cons]; omega
        clear hcell hle hNr
        generalize zss[k]?.getD [] = pt at *
        generalize Xs[k]?.getD 0 = Y at *
        generalize hys : s :: (zss.take k).flatten = ys at *
        have Hys := hid hys
        clear hys
        go_wp2_with (first
          | (go_at_call 101; refine hF.mono ?_; clear hF; rintro e w1 ⟨v1, rfl, hN1, hB1⟩; have hNk1 := hid (hNk.out.below hB1); have hB2 := hB.trans (hB1.mono hB.size); obtain ⟨a1, c1, rfl, hI1, hn⟩ := new_ints0 hN1)
          | (at_builtin; go_loud (refine wp_append_ints _ rfl _ _ rfl w.heap.size _ ys rfl hNk1.out a1 pt c1 rfl hn hI1 Hle.out hB2.size ?_); intro v' w2 hN2 hB3; obtain ⟨a2, c2, rfl, _⟩ := New.ints hN2))
        go_roundw
        case rel => exact ⟨k + 1, by omega, by go_num, by rw [hsn.out, ← List.cons_append, Hys.out]; simpa [Hid] using hN2, hB2.trans hB3⟩
        case measure => simp [intOf]; omega
      · obtain rfl : k = Xs.length := by omega
        have hz : Hid (zss.take Xs.length = zss) := by show _ = _; rw [← Hl.out, List.take_length]
        go_wp2
        go_ret
        refine ⟨_, rfl, ?_, hB⟩
        have h := hNk.out
        show New w.heap.size wr (.slice a0 (s :: (zss.take Xs.length).flatten).length c0) (s :: zss.flatten)
        rw [hz.out] at h ⊢
        exact h

theorem flat_any {lo hi : Nat} {X : Nat} {zs : List Int} (w : World) (h : TreeIn lo hi w X zs) (hl : zs.length ≤ 1000) (hi' : hi ≤ w.heap.size) :
    Calls Try.prog 101 #[ptr X] w fun e w' => ∃ v, e = .returned v ∧ New w.heap.size w' v zs ∧ Below w.heap.size w w' :=
  flat_all h hl w (fun _ _ _ => rfl) hi'

end Go.Proofs.Ytjaikmlbajdedac

namespace Go.Proofs.Ytjaikmlbajdedac
open Go.Proofs Go.RowKit Go.Shelf Go.Maps

theorem Tm.run_flatten (zss : List (List Int)) : (∀ j, j < zss.length → Tm.run (zss[j]?.getD []) 1 = (zss[j]?.getD []).length) → Tm.run zss.flatten zss.length = zss.flatten.length := by
  induction zss with
  | nil => intro _; simp [Tm.run_zero]
  | cons t l ih =>
    intro h
    have h0 : Tm.run t 1 = t.length := by simpa using h 0 (by simp)
    have hl := ih (fun j hj => by simpa using h (j + 1) (by simpa using hj))
    rw [List.length_cons, Nat.add_comm, Tm.run_add, List.flatten_cons, Tm.run_app t _ 1 (by omega), h0, List.drop_left, hl, List.length_append]
theorem TreeIn.run {lo hi : Nat} {W : World} {X : Nat} {zs : List Int} (h : TreeIn lo hi W X zs) : Tm.run zs 1 = zs.length := by
  induction h with
  | mk X s v Xs zss _ _ _ _ hr hl _ ih =>
    rw [show (1 : Nat) = 0 + 1 from rfl, Tm.run_cons, Nat.zero_add, ← hr, ← hl, Tm.run_flatten zss (fun j hj => ih j (by omega)), List.length_cons]
    omega

theorem Tm.endAt_mid {pre t post : List Int} {k : Nat} (hk : k ≤ t.length) (he : Tm.endAt t k ≤ t.length) : Tm.endAt (pre ++ (t ++ post)) (pre.length + k) = pre.length + Tm.endAt t k := by
  unfold Tm.endAt at he ⊢
  rw [List.drop_append, List.drop_of_length_le (by omega), List.nil_append, Nat.add_sub_cancel_left, List.drop_append_of_le_length hk, Tm.run_app _ _ _ (by rw [List.length_drop]; omega)]
  omega
theorem Tm.part_mid {pre t post : List Int} {k : Nat} (hk : k ≤ t.length) (he : Tm.endAt t k ≤ t.length) : Tm.part (pre ++ (t ++ post)) (pre.length + k) = Tm.part t k := by
  unfold Tm.part
  rw [Tm.endAt_mid hk he, List.drop_append, List.drop_of_length_le (by omega), List.nil_append, Nat.add_sub_cancel_left, List.drop_append_of_le_length hk, show pre.length + Tm.endAt t k - (pre.length + k) = Tm.endAt t k - k from by omega,
    List.take_append_of_le_length (by rw [List.length_drop]; omega)]
theorem Tm.get_mid {pre t post : List Int} {k : Nat} (hk : k < t.length) : (pre ++ (t ++ post))[pre.length + k]?.getD 0 = t[k]?.getD 0 := by
  rw [List.getElem?_append_right (by omega), Nat.add_sub_cancel_left, List.getElem?_append_left hk]
theorem Against.fin {p t : List Int} {k : Nat} (h : Against p t p.length k) : k = t.length := by
  obtain ⟨o, h1, h2, h3, h4⟩ := h
  rw [List.drop_length, Tm.run_nil] at h1
  have : o = 0 := by omega
  subst this
  rw [Tm.run_zero] at h2
  omega
theorem Tm.fit_local (pre t post p rest : List Int) : ∀ (n i k : Nat) (m : Asg), p.length - i = n → i ≤ p.length → Against p t i k →
    Tm.fitGo (pre ++ (t ++ post)) (p.drop i ++ rest) (pre.length + k) m = (Tm.fitGo t (p.drop i) k m).bind fun m' => Tm.fitGo (pre ++ (t ++ post)) rest (pre.length + t.length) m' := by
  intro n
  induction n with
  | zero =>
    intro i k m hn hi ha
    obtain rfl : i = p.length := by omega
    rw [List.drop_length, Tm.fitGo_nil, ha.fin]
    rfl
  | succ n ih =>
    intro i k m hn hi ha
    have hlt : i < p.length := by omega
    have hk := ha.pos hlt
    have he := ha.endAt_le hlt
    rw [List.drop_eq_getElem_cons hlt, List.cons_append, Tm.fitGo, Tm.fitGo, Tm.part_mid (by omega) he, Tm.endAt_mid (by omega) he, Tm.get_mid hk]
    by_cases hs : p[i] < 0
    · rw [if_pos hs, if_pos hs]
      split
      · rfl
      · exact ih (i + 1) (Tm.endAt t k) _ (by omega) (by omega) (ha.var hlt (by simpa [hlt] using hs))
    · rw [if_neg hs, if_neg hs]
      by_cases hu : t[k]?.getD 0 = p[i]
      · rw [if_pos hu, if_pos hu]
        exact ih (i + 1) (k + 1) m (by omega) (by omega) (ha.sym hlt (by simpa [hlt] using hu))
      · rw [if_neg hu, if_neg hu]; rfl
theorem drop_flatten {zss : List (List Int)} {j : Nat} (hj : j < zss.length) : (zss.drop j).flatten = zss[j]?.getD [] ++ (zss.drop (j + 1)).flatten := by
  rw [List.drop_eq_getElem_cons hj, List.flatten_cons]
  simp [hj]
theorem split_flatten {zss : List (List Int)} {j : Nat} (hj : j < zss.length) : zss.flatten = (zss.take j).flatten ++ (zss[j]?.getD [] ++ (zss.drop (j + 1)).flatten) := by
  rw [← drop_flatten hj, ← List.flatten_append, List.take_append_drop]
theorem Tm.fit_step {s : Int} {pss tss : List (List Int)} {j : Nat} (m : Asg) (hj : j < pss.length) (hl : tss.length = pss.length) (hp : Tm.run (pss[j]?.getD []) 1 = (pss[j]?.getD []).length) (ht : Tm.run (tss[j]?.getD []) 1 = (tss[j]?.getD []).length) :
    Tm.fitGo (s :: tss.flatten) (pss.drop j).flatten (1 + (tss.take j).flatten.length) m = (Tm.fitGo (tss[j]?.getD []) (pss[j]?.getD []) 0 m).bind fun m' => Tm.fitGo (s :: tss.flatten) (pss.drop (j + 1)).flatten (1 + (tss.take (j + 1)).flatten.length) m' := by
  have h := Tm.fit_local (s :: (tss.take j).flatten) (tss[j]?.getD []) (tss.drop (j + 1)).flatten (pss[j]?.getD []) (pss.drop (j + 1)).flatten _ 0 0 m rfl (by omega) ⟨1, by simpa using hp, by simpa using ht, by omega, by omega⟩
  rw [List.cons_append, ← split_flatten (by omega), List.drop_zero, ← drop_flatten hj, List.length_cons] at h
  rw [flatten_snoc (by omega), List.length_append, show 1 + ((tss.take j).flatten.length + (tss[j]?.getD []).length) = (tss.take j).flatten.length + 1 + (tss[j]?.getD []).length from by omega, show 1 + (tss.take j).flatten.length = (tss.take j).flatten.length + 1 + 0 from by omega]
  exact h
theorem upd_self {α : Type} {m : Int → Option α} {s : Int} {v : α} (h : m s = some v) : upd m s v = m := by
  funext x
  by_cases e : x = s
  · subst e; rw [upd_same, h]
  · rw [upd_other _ _ e]
theorem Tm.part_all0 {ts : List Int} (h : Tm.run ts 1 = ts.length) : Tm.part ts 0 = ts := by
  unfold Tm.part Tm.endAt
  rw [List.drop_zero, h, Nat.zero_add, Nat.sub_zero, List.take_length]

/-- What the array of trees says. -/
def FitS (W : World) (Bs lo hi : Nat) (m : Asg) : Prop := ∀ v : Nat, v < 8 → W.frozen? ⟨Bs, v, none⟩ = false ∧
  ((m (-1 - (v : Int)) = none ∧ W.cell? ⟨Bs, v, none⟩ = some (.pointer none)) ∨ ∃ zs X, m (-1 - (v : Int)) = some zs ∧ W.cell? ⟨Bs, v, none⟩ = some (ptr X) ∧ TreeIn lo hi W X zs ∧ zs.length ≤ 30)
theorem FitS.keep {W W' : World} {Bs lo hi n : Nat} {m : Asg} (h : FitS W Bs lo hi m) (hB : Below n W W') (h1 : Bs < n) (h2 : hi ≤ n) : FitS W' Bs lo hi m := fun v hv => by
  obtain ⟨hf, hc⟩ := h v hv
  refine ⟨by rw [← hf]; simp only [World.frozen?, hB.block Bs h1], ?_⟩
  rcases hc with ⟨e1, e2⟩ | ⟨zs, X, e1, e2, hT, e3⟩
  · exact .inl ⟨e1, (hB.cell (p := ⟨Bs, v, none⟩) h1).trans e2⟩
  · exact .inr ⟨zs, X, e1, (hB.cell (p := ⟨Bs, v, none⟩) h1).trans e2, hT.under hB h2, e3⟩
theorem frozen_setCell' (W : World) (a b : Addr) (v : Value) : (W.setCell a v).frozen? b = W.frozen? b := World.frozen?_setCell ..
theorem FitS.set {W : World} {Bs lo hi T v : Nat} {m : Asg} {ts : List Int} (h : FitS W Bs lo hi m) (hv : v < 8) (hlo : Bs < lo) (hT : TreeIn lo hi W T ts) (ht : ts.length ≤ 30) :
    FitS (W.setCell ⟨Bs, v, none⟩ (ptr T)) Bs lo hi (upd m (-1 - (v : Int)) ts) := fun x hx => by
  have hk : ∀ k, lo ≤ k → k < hi → (W.setCell ⟨Bs, v, none⟩ (ptr T)).heap[k]? = W.heap[k]? := fun k h1 _ => Below.heap_setCell _ _ _ k (by simp; omega)
  obtain ⟨hf, hc⟩ := h x hx
  refine ⟨by rw [frozen_setCell']; exact hf, ?_⟩
  by_cases e : x = v
  · subst e
    refine .inr ⟨ts, T, upd_same _ _ _, World.cell?_setCell_same' _ _ _ ?_, hT.keep (Nat.le_refl _) (Nat.le_refl _) hk, ht⟩
    rcases hc with ⟨_, e2⟩ | ⟨_, _, _, e2, _⟩ <;> rw [e2] <;> rfl
  · have hne : (-1 - (x : Int)) ≠ (-1 - (v : Int)) := by omega
    have hcc : (W.setCell ⟨Bs, v, none⟩ (ptr T)).cell? ⟨Bs, x, none⟩ = W.cell? ⟨Bs, x, none⟩ := World.cell?_setCell_other _ _ _ _ (fun h => e (by cases h; rfl))
    rw [upd_other _ _ hne, hcc]
    rcases hc with ⟨e1, e2⟩ | ⟨zs, X, e1, e2, hT', e3⟩
    · exact .inl ⟨e1, e2⟩
    · exact .inr ⟨zs, X, e1, e2, hT'.keep (Nat.le_refl _) (Nat.le_refl _) hk, e3⟩

end Go.Proofs.Ytjaikmlbajdedac

namespace Go.Proofs.Ytjaikmlbajdedac
open Go.Proofs Go.RowKit Go.Shelf Go.Maps

/-- What fit answers. -/
def RefFit (w' : World) (e : Ending) (Bs lo hi : Nat) : Option Asg → Prop
  | none => e = .returned (.bool false)
  | some m => e = .returned (.bool true) ∧ FitS w' Bs lo hi m

theorem Keep.cell {n m : Nat} {a b : World} (h : Keep n m a b) {p : Addr} (h1 : p.block < n) (h2 : p.block ≠ m) : b.cell? p = a.cell? p := World.cell?_of_block (h.block p.block h1 h2)
theorem keep_drewN {n m : Nat} {a b : World} (h : Keep n m a b) (d : Nat) : Keep n m a (b.drewN d) := ⟨h.os, h.tape, h.output, h.size, h.block⟩

set_option maxRecDepth 100000 in
set_option maxHeartbeats 1000000 in
/-- A variable. -/
theorem reffit_var {lo hi Bs P T : Nat} (s : Int) (v : Value) (ts : List Int) (w : World) (m : Asg) (h8 : -8 ≤ s) (hs : s < 0) (hN : Node w P s v) (hhi : hi ≤ w.heap.size) (hlo : Bs < lo) (hBs : Bs < w.heap.size) (hT : TreeIn lo hi w T ts) (ht : ts.length ≤ 30) (hF : FitS w Bs lo hi m) :
    Calls Try.prog 98 #[ptr P, ptr T, ptr Bs] w fun e w' => Keep w.heap.size Bs w w' ∧ RefFit w' e Bs lo hi (Tm.fitGo ts [s] 0 m) := by
  obtain ⟨j, rfl⟩ : ∃ j : Nat, s = -1 - (j : Int) := ⟨(-1 - s).toNat, by omega⟩
  have hj : j < 8 := by omega
  have hj8 : (j : Int) < 8 := by omega
  have hn0 := hN.cell0
  have hpa := Tm.part_all0 hT.run
  obtain ⟨hf, hc⟩ := hF j hj
  have hsub : -(-1 - (j : Int)) - 1 = (j : Int) := by omega
  rcases hc with ⟨hm, hc⟩ | ⟨zs, X, hm, hc, hTX, hz⟩
  · have hgo : Tm.fitGo ts [-1 - (j : Int)] 0 m = some (upd m (-1 - (j : Int)) ts) := by
      rw [Tm.fitGo, if_pos hs, hm, if_neg (by simp), hpa, Tm.fitGo_nil]
    rw [hgo]
    have hS := hid (hF.set hj hlo hT ht)
    clear hgo hpa hm hF hT
    go_enter Try.func98, Try.ntmps98
    go_wp2
    go_ret
    exact ⟨Keep.of_grown (grownBy_setCell1 w Bs j (ptr T)) (Nat.le_refl _), rfl, hS.out⟩
  · have hF1 := flat_any w hTX (by omega) hhi
    have hF2 : ∀ W, Below w.heap.size w W → Calls Try.prog 101 #[ptr T] W fun e w' => ∃ v, e = .returned v ∧ New W.heap.size w' v ts ∧ Below W.heap.size W w' := fun W hW => flat_any W (hT.under hW hhi) (by omega) (by have := hW.size; omega)
    have hFk := hid (fun W (hW : Below w.heap.size w W) => hF.keep hW hBs hhi)
    have HF2 := hid hF2
    have hgo : Tm.fitGo ts [-1 - (j : Int)] 0 m = if zs = ts then some m else none := by
      rw [Tm.fitGo, if_pos hs, hm, hpa]
      by_cases e : zs = ts
      · subst e; rw [if_neg (by simp), if_pos rfl, Tm.fitGo_nil, upd_self hm]
      · rw [if_pos (by simp [e]), if_neg e]
    generalize Tm.fitGo ts [-1 - (j : Int)] 0 m = r at hgo ⊢
    have Hr := hid hgo
    have Hsb : Hid (sameB zs ts = decide (zs = ts)) := rfl
    clear hgo hpa hm hF hT hTX hF2
    go_enter Try.func98, Try.ntmps98
    go_wp2_with (first
      | (go_at_call_of 101 (ptr X); refine hF1.mono ?_; clear hF1; rintro e w1 ⟨v1, rfl, hN1, hB1⟩; obtain ⟨a1, c1, rfl, hI1, _⟩ := New.ints hN1)
      | (go_at_call_of 101 (ptr T); refine (HF2.out _ hB1).mono ?_; rintro e w2 ⟨v2, rfl, hN2, hB2⟩; obtain ⟨a2, c2, rfl, hI2, _⟩ := New.ints hN2; have hB3 := hB1.trans (hB2.mono hB1.size))
      | (go_at_call 10; refine (same_any zs ts a1 a2 c1 c2 _ ((hI1.below hB2).mono hB2.size) hI2 (by unfold maxLen; omega)).mono ?_; rintro e w3 ⟨rfl, hB4⟩; have hB5 := hB3.trans (hB4.mono hB3.size)))
    go_ret
    refine ⟨Keep.of_below hB5, ?_⟩
    rw [Hr.out]
    by_cases e : zs = ts
    · rw [if_pos e]; exact ⟨ret_bool (by rw [Hsb.out]; simp [e]), hFk.out _ hB5⟩
    · rw [if_neg e]; exact ret_bool (by rw [Hsb.out]; simp [e])

theorem TreeIn.open {lo hi : Nat} {W : World} {X : Nat} {zs : List Int} (h : TreeIn lo hi W X zs) : ∃ (s : Int) (a : Option Addr) (c : Nat) (Xs : List Nat) (zss : List (List Int)), zs = s :: zss.flatten ∧ lo ≤ X ∧ X < hi ∧ Node W X s (.slice a Xs.length c) ∧ Xs.length = Tm.room s ∧ zss.length = Xs.length ∧
    (∀ j, j < Xs.length → ∃ b off, a = some ⟨b, off, none⟩ ∧ lo ≤ b ∧ b < hi ∧ W.cell? ⟨b, off + j, none⟩ = some (ptr (Xs[j]?.getD 0))) ∧ ∀ j, j < Xs.length → TreeIn lo hi W (Xs[j]?.getD 0) (zss[j]?.getD []) := by
  cases h with
  | mk X s v Xs zss h1 h2 h3 h4 h5 h6 h7 =>
    obtain ⟨a, c, rfl, h8⟩ := h4
    exact ⟨s, a, c, Xs, zss, rfl, h1, h2, h3, h5, h6, h8, h7⟩

set_option maxRecDepth 100000 in
set_option maxHeartbeats 2000000 in
/-- haspref.fit. -/
theorem reffit_all {lo hi Bs : Nat} {W : World} {P : Nat} {ps : List Int} (h : TreeIn lo hi W P ps) : (∀ x ∈ ps, Tm.known x = true) → ∀ (T : Nat) (ts : List Int) (w : World) (m : Asg), (∀ k, lo ≤ k → k < hi → w.heap[k]? = W.heap[k]?) → hi ≤ w.heap.size → Bs < lo → Bs < w.heap.size →
    TreeIn lo hi w T ts → ts.length ≤ 30 → FitS w Bs lo hi m →
    Calls Try.prog 98 #[ptr P, ptr T, ptr Bs] w fun e w' => Keep w.heap.size Bs w w' ∧ RefFit w' e Bs lo hi (Tm.fitGo ts ps 0 m) := by
  induction h with
  | mk P s v Xs pss hP1 hP2 hN hPt hr hl hTs ih =>
    intro hkn T ts w m hw hhi hlo hBs hT ht hF
    have hN' : Node w P s v := (hw P hP1 hP2).trans hN
    by_cases hs : s < 0
    · have hX0 : pss = [] := List.eq_nil_of_length_eq_zero (by rw [hl, hr, Tm.room_neg hs])
      rw [hX0, List.flatten_nil]
      exact reffit_var s v ts w m (Tm.known_ge (hkn s (by simp))) hs hN' hhi hlo hBs hT ht hF
    · obtain ⟨a, c, rfl, hPc⟩ := hPt
      have hn0 := hN'.cell0
      obtain ⟨u, a2, c2, Ys, tss, rfl, hT1, hT2, hNT, hrT, hlT, hTc, hTT⟩ := hT.open
      have hu0 := hNT.cell0
      have hs' : ¬ (s : Int) < 0 := hs
      by_cases hus : u = s
      · subst hus
        have hnu : (u != u) = false := by simp
        have hstart : Hid (Tm.fitGo (u :: tss.flatten) (u :: pss.flatten) 0 m = Tm.fitGo (u :: tss.flatten) (pss.drop 0).flatten (1 + (tss.take 0).flatten.length) m) := by
          show _ = _
          rw [Tm.fitGo, if_neg hs, if_pos (by simp)]
          simp
        have hX2 : (Xs.length : Int) ≤ 2 := by have := Tm.room_le u; omega
        have IH := hid ih
        have HTs := hid hTs
        have HPc := hid hPc
        have HTc := hid hTc
        have HTT := hid hTT
        have HN := hid hN'
        have HNT := hid hNT
        have HW := hid hw
        have Hkn := hid hkn
        have Hl := hid hl
        have HlT := hid hlT
        have HXY : Hid (Ys.length = Xs.length) := by show _ = _; omega
        have HF := hid hF
        have Hlen : Hid ((u :: tss.flatten).length ≤ 30) := ht
        clear ih hTs hPc hTc hTT hN hN' hNT hw hkn hl hlT hF hT ht hr hrT
        go_enter Try.func98, Try.ntmps98
        go_wp2
        go_quiet (fail)
        go_wp2
        go_loopw [8] (fun i wr => ∃ (k : Nat) (mk : Asg), k ≤ Xs.length ∧ i = .int .i64 (k : Int) ∧ Hid (Tm.fitGo (u :: tss.flatten) (u :: pss.flatten) 0 m = Tm.fitGo (u :: tss.flatten) (pss.drop k).flatten (1 + (tss.take k).flatten.length) mk) ∧ Hid (FitS wr Bs lo hi mk) ∧ Keep w.heap.size Bs w wr) (fun i _ => Xs.length - (intOf i).toNat)
        case atStart => exact ⟨0, m, Nat.zero_le _, rfl, hstart, HF.out.keep (below_drewN (Below.refl _ _) _) hBs hhi, keep_drewN (Keep.refl _ _ _) _⟩
        case round =>
          obtain ⟨k, mk, hk, rfl, hgo, hFk, hK⟩ := hrel
          have hNk : Node wr P u (.slice a Xs.length c) := (hK.block P (by omega) (by omega)).trans HN.out
          have hn1 := hNk.cell1
          have hNTk : Node wr T u (.slice a2 Ys.length c2) := (hK.block T (by omega) (by omega)).trans HNT.out
          have hu1 := hNTk.cell1
          by_cases hlt : k < Xs.length
          · have hlt' : (k : Int) < (Xs.length : Int) := by omega
            have hltY : k < Ys.length := by have := HXY.out; omega
            have hltY' : (k : Int) < (Ys.length : Int) := by omega
            obtain ⟨b, off, rfl, hb1, hb2, hcell⟩ := HPc.out k hlt
            obtain ⟨b', off', rfl, hb1', hb2', hcell'⟩ := HTc.out k hltY
            have hck : wr.cell? ⟨b, off + k, none⟩ = some (ptr (Xs[k]?.getD 0)) := (World.cell?_of_block (a := ⟨b, off + k, none⟩) ((hK.block b (by omega) (by omega)).trans (HW.out b hb1 hb2))).trans hcell
            have hck' : wr.cell? ⟨b', off' + k, none⟩ = some (ptr (Ys[k]?.getD 0)) := (World.cell?_of_block (a := ⟨b', off' + k, none⟩) (hK.block b' (by omega) (by omega))).trans hcell'
            have hTk := (HTT.out k hltY).keep (W' := wr) (Nat.le_refl _) (Nat.le_refl _) fun q h1 h2 => hK.block q (by omega) (by omega)
            have hPk := (HTs.out k hlt).run
            have hst := hid (Tm.fit_step (s := u) (pss := pss) (tss := tss) (j := k) mk (by have := Hl.out; omega) (by have := Hl.out; have := HlT.out; have := HXY.out; omega) hPk hTk.run)
            have hple := flatten_le (zss := tss) (k := k) (by have := HlT.out; omega)
            have hcall := IH.out k hlt (fun x hx => Hkn.out x (List.mem_cons_of_mem _ (List.mem_flatten.2 ⟨pss[k]?.getD [], by rw [List.getElem?_eq_getElem (by have := Hl.out; omega)]; exact List.getElem_mem _, hx⟩)))
              (Ys[k]?.getD 0) (tss[k]?.getD []) (wr.drewN 1) mk (fun q h1 h2 => (hK.block q (by omega) (by omega)).trans (HW.out q h1 h2)) (by have := hK.size; exact Nat.le_trans hhi this) hlo (by have := hK.size; exact Nat.lt_of_lt_of_le hBs this) (hTk.keep (Nat.le_refl _) (Nat.le_refl _) fun _ _ _ => rfl) (by have := Hlen.out; simp only [List.length_cons] at this; omega) (hFk.out.keep (below_drewN (Below.refl _ _) _) (by have := hK.size; exact Nat.lt_of_lt_of_le hBs this) (Nat.le_trans hhi hK.size))
            clear hcell hcell' hTk hPk hple hNk hNTk
            cases hres : Tm.fitGo (tss[k]?.getD []) (pss[k]?.getD []) 0 mk with
            | none =>
              rw [hres] at hcall
              have hend : Hid (Tm.fitGo (u :: tss.flatten) (u :: pss.flatten) 0 m = none) := by show _ = _; rw [hgo.out, hst.out, hres]; rfl
              clear hst hgo hres
              generalize Xs[k]?.getD 0 = X1 at *
              generalize Ys[k]?.getD 0 = Y1 at *
              go_wp2
              go_region_held3 (fun w' => w'.cell? ⟨P, 1, none⟩ = some (.slice (some ⟨b, off, none⟩) Xs.length c) ∧ w'.cell? ⟨T, 1, none⟩ = some (.slice (some ⟨b', off', none⟩) Ys.length c2) ∧ w'.cell? ⟨b, off + k, none⟩ = some (ptr X1) ∧ w'.cell? ⟨b', off' + k, none⟩ = some (ptr Y1)) (first | assumption | exact ⟨hn1, hu1, hck, hck'⟩) (first
                | (go_at_call 98; refine hcall.mono ?_; clear hcall; rintro e w1 ⟨hK1, rfl⟩; have hS1 : w1.cell? ⟨P, 1, none⟩ = some (.slice (some ⟨b, off, none⟩) Xs.length c) ∧ w1.cell? ⟨T, 1, none⟩ = some (.slice (some ⟨b', off', none⟩) Ys.length c2) ∧ w1.cell? ⟨b, off + k, none⟩ = some (ptr X1) ∧ w1.cell? ⟨b', off' + k, none⟩ = some (ptr Y1) := ⟨(hK1.cell (p := ⟨P, 1, none⟩) (by exact Nat.lt_of_lt_of_le hP2 (Nat.le_trans hhi hK.size)) (by show P ≠ Bs; omega)).trans hn1, (hK1.cell (p := ⟨T, 1, none⟩) (by exact Nat.lt_of_lt_of_le hT2 (Nat.le_trans hhi hK.size)) (by show T ≠ Bs; omega)).trans hu1, (hK1.cell (p := ⟨b, off + k, none⟩) (by exact Nat.lt_of_lt_of_le hb2 (Nat.le_trans hhi hK.size)) (by show b ≠ Bs; omega)).trans hck, (hK1.cell (p := ⟨b', off' + k, none⟩) (by exact Nat.lt_of_lt_of_le hb2' (Nat.le_trans hhi hK.size)) (by show b' ≠ Bs; omega)).trans hck'⟩))
              all_goals (
                go_wp2
                go_ret
                exact ⟨(keep_drewN hK 1).trans (Keep.mono hK1 hK.size), by rw [hend.out]; rfl⟩)
            | some m' =>
              rw [hres] at hcall
              have hend : Hid (Tm.fitGo (u :: tss.flatten) (u :: pss.flatten) 0 m = Tm.fitGo (u :: tss.flatten) (pss.drop (k + 1)).flatten (1 + (tss.take (k + 1)).flatten.length) m') := by show _ = _; rw [hgo.out, hst.out, hres]; rfl
              clear hst hgo hres
              generalize Xs[k]?.getD 0 = X1 at *
              generalize Ys[k]?.getD 0 = Y1 at *
              go_wp2
              go_region_held3 (fun w' => w'.cell? ⟨P, 1, none⟩ = some (.slice (some ⟨b, off, none⟩) Xs.length c) ∧ w'.cell? ⟨T, 1, none⟩ = some (.slice (some ⟨b', off', none⟩) Ys.length c2) ∧ w'.cell? ⟨b, off + k, none⟩ = some (ptr X1) ∧ w'.cell? ⟨b', off' + k, none⟩ = some (ptr Y1)) (first | assumption | exact ⟨hn1, hu1, hck, hck'⟩) (first
                | (go_at_call 98; refine hcall.mono ?_; clear hcall; rintro e w1 ⟨hK1, rfl, hF1⟩; have hS1 : w1.cell? ⟨P, 1, none⟩ = some (.slice (some ⟨b, off, none⟩) Xs.length c) ∧ w1.cell? ⟨T, 1, none⟩ = some (.slice (some ⟨b', off', none⟩) Ys.length c2) ∧ w1.cell? ⟨b, off + k, none⟩ = some (ptr X1) ∧ w1.cell? ⟨b', off' + k, none⟩ = some (ptr Y1) := ⟨(hK1.cell (p := ⟨P, 1, none⟩) (by exact Nat.lt_of_lt_of_le hP2 (Nat.le_trans hhi hK.size)) (by show P ≠ Bs; omega)).trans hn1, (hK1.cell (p := ⟨T, 1, none⟩) (by exact Nat.lt_of_lt_of_le hT2 (Nat.le_trans hhi hK.size)) (by show T ≠ Bs; omega)).trans hu1, (hK1.cell (p := ⟨b, off + k, none⟩) (by exact Nat.lt_of_lt_of_le hb2 (Nat.le_trans hhi hK.size)) (by show b ≠ Bs; omega)).trans hck, (hK1.cell (p := ⟨b', off' + k, none⟩) (by exact Nat.lt_of_lt_of_le hb2' (Nat.le_trans hhi hK.size)) (by show b' ≠ Bs; omega)).trans hck'⟩))
              all_goals (
                go_wp2
                go_roundw
                case rel => exact ⟨k + 1, m', by omega, by go_num, hend, hF1, (keep_drewN hK 1).trans (Keep.mono hK1 hK.size)⟩
                case measure => simp [intOf]; omega)
          · obtain rfl : k = Xs.length := by omega
            go_wp2
            go_ret
            refine ⟨hK, ?_⟩
            rw [hgo.out, ← Hl.out, List.drop_length, List.flatten_nil, Tm.fitGo_nil]
            exact ⟨rfl, hFk.out⟩
      · have hnu : (s != u) = true := by simp; exact fun e => hus e.symm
        have hgo : Hid (Tm.fitGo (u :: tss.flatten) (s :: pss.flatten) 0 m = none) := by
          show _ = _
          rw [Tm.fitGo, if_neg hs, if_neg (by simpa using hus)]
        clear ih hTs hPc hTc hTT hus
        go_enter Try.func98, Try.ntmps98
        go_wp2
        go_quiet (fail)
        go_wp2
        go_ret
        exact ⟨keep_drewN (Keep.refl _ _ _) _, by rw [hgo.out]; rfl⟩

end Go.Proofs.Ytjaikmlbajdedac

namespace Go.Proofs.Ytjaikmlbajdedac
open Go.Proofs Go.RowKit Go.Shelf Go.Maps

set_option maxRecDepth 100000 in
set_option maxHeartbeats 400000 in
theorem twoErrors_any (p t : List Int) (ap at' : Option Addr) (cp ct : Nat) (w : World) (hP : Ints w.heap.size w ap p) (hT : Ints w.heap.size w at' t) :
    Calls Try.prog 37 #[.slice ap p.length cp, .slice at' t.length ct] w fun e w' => e = .returned (.int .i64 (Tm.fitErr p t)) ∧ w' = w := by
  have h1 := termError_any p ap cp w hP
  have h2 := termError_any t at' ct w hT
  by_cases he : Tm.err p = 0
  · have hf : Tm.fitErr p t = Tm.err t := by
      simp only [Tm.fitErr, Tm.firstErr, he, if_true]
      by_cases h : Tm.err t = 0 <;> simp [h]
    rw [hf]
    rw [he] at h1
    clear hf he hP hT
    generalize Tm.err t = q at *
    go_enter Try.func37, Try.ntmps37
    go_wp2_with (first
      | (go_at_call_of 56 (Value.slice ap p.length cp); refine h1.mono ?_; rintro e w ⟨rfl, rfl⟩)
      | (go_at_call_of 56 (Value.slice at' t.length ct); refine h2.mono ?_; rintro e w ⟨rfl, rfl⟩))
    go_ret
    exact ⟨rfl, rfl⟩
  · have hf : Tm.fitErr p t = Tm.err p := by simp [Tm.fitErr, Tm.firstErr, he]
    rw [hf]
    have hne : (Tm.err p != 0) = true := by simp [he]
    clear hf he hP hT h2
    generalize Tm.err p = q at *
    go_enter Try.func37, Try.ntmps37
    go_wp2_with (first
      | (go_at_call 56; refine h1.mono ?_; clear h1; rintro e w ⟨rfl, rfl⟩))
    go_ret
    exact ⟨rfl, rfl⟩

abbrev noTrees : Obj := .cells #[.pointer none, .pointer none, .pointer none, .pointer none, .pointer none, .pointer none, .pointer none, .pointer none] 125
theorem FitS.start (w : World) (lo hi : Nat) : FitS (w.alloc noTrees) w.heap.size lo hi (fun _ => none) := fun v hv => by
  have hnew := World.alloc_heap_new w noTrees
  refine ⟨by simp only [World.frozen?]; rw [hnew]; simp, .inl ⟨rfl, (cell_at hnew v).trans ?_⟩⟩
  match v, hv with
  | 0, _ => rfl
  | 1, _ => rfl
  | 2, _ => rfl
  | 3, _ => rfl
  | 4, _ => rfl
  | 5, _ => rfl
  | 6, _ => rfl
  | 7, _ => rfl

set_option maxRecDepth 100000 in
set_option maxHeartbeats 1000000 in
/-- haspref.fit over new trees. -/
theorem reffit_new (p t : List Int) (hp : Tm.err p = 0) (ht : Tm.err t = 0) (w w1 w2 : World) (hT1 : TreeIn (w.heap.size + 1) w1.heap.size w1 (w.heap.size + 1) p) (hB1 : Below (w.heap.size + 1) (w.alloc noTrees) w1) (hT2 : TreeIn w1.heap.size w2.heap.size w2 w1.heap.size t) (hB2 : Below w1.heap.size w1 w2) :
    Calls Try.prog 98 #[ptr (w.heap.size + 1), ptr w1.heap.size, ptr w.heap.size] w2 fun e w' => Keep w2.heap.size w.heap.size w2 w' ∧ RefFit w' e w.heap.size (w.heap.size + 1) w2.heap.size (Tm.fit p t) := by
  have hs1 := hB1.size
  have hs2 := hB2.size
  simp at hs1
  have hP : TreeIn (w.heap.size + 1) w2.heap.size w2 (w.heap.size + 1) p := (hT1.under hB2 (Nat.le_refl _)).wide (Nat.le_refl _) hs2
  have hB : Below (w.heap.size + 1) (w.alloc noTrees) w2 := hB1.trans (hB2.mono hs1)
  exact reffit_all hP (fun x hx => by have := Tm.err_all hp; rw [List.all_eq_true] at this; exact this x hx) w1.heap.size t w2 (fun _ => none) (fun _ _ _ => rfl) (Nat.le_refl _) (by omega) (by omega) (hT2.wide (by omega) (Nat.le_refl _)) (Tm.err_len ht)
    (fun v hv => by
      obtain ⟨e1, e2⟩ := FitS.start w (w.heap.size + 1) w2.heap.size v hv
      refine ⟨by rw [← e1]; simp only [World.frozen?, hB.block w.heap.size (by omega)], .inl ⟨rfl, ?_⟩⟩
      rcases e2 with ⟨_, e2⟩ | ⟨zs, X, e2, _⟩
      · exact (hB.cell (p := ⟨w.heap.size, v, none⟩) (by show w.heap.size < _; omega)).trans e2
      · cases e2)

set_option maxRecDepth 100000 in
set_option maxHeartbeats 1000000 in
theorem fitted_any (p t : List Int) (ap at' : Option Addr) (cp ct : Nat) (w : World) (hp : Tm.err p = 0) (ht : Tm.err t = 0) (hP : Ints w.heap.size w ap p) (hT : Ints w.heap.size w at' t) (h1 : p.length ≤ cp ∧ cp ≤ maxLen) (h2 : t.length ≤ ct ∧ ct ≤ maxLen) :
    Calls Try.prog 82 #[.slice ap p.length cp, .slice at' t.length ct] w fun e w' => ∃ v, e = .returned (.tuple #[v, .bool (Tm.fit p t).isSome]) ∧ NewS w.heap.size w' v (Tm.fitOut (Tm.fit p t)) ∧ Below w.heap.size w w' := by
  have hB0 : Below w.heap.size w (w.alloc noTrees) := (Below.refl _ _).alloc (Nat.le_refl _) _
  have hs0 : (w.alloc noTrees).heap.size = w.heap.size + 1 := by simp
  have hC1 := treeOf_any p ap cp (w.alloc noTrees) hp h1.1 h1.2 ((hP.below hB0).mono hB0.size)
  rw [hs0] at hC1
  have hC2 := hid (fun W (hW : Below w.heap.size w W) => treeOf_any t at' ct W ht h2.1 h2.2 ((hT.below hW).mono hW.size))
  have hC3 := hid (fun w1 w2 a b c d => reffit_new p t hp ht w w1 w2 a b c d)
  clear hP hT hp ht h1 h2
  cases hf : Tm.fit p t with
  | none =>
    rw [hf] at hC3
    clear hf
    simp only [Option.isSome_none]
    go_enter Try.func82, Try.ntmps82
    go_wp2_with (first
      | (go_at_call_of 99 (Value.slice ap p.length cp); refine hC1.mono ?_; clear hC1; rintro e w1 ⟨rfl, hB1, hT1⟩; have hB3 := hB0.trans (hB1.mono (by omega)))
      | (go_at_call_of 99 (Value.slice at' t.length ct); refine (hC2.out _ hB3).mono ?_; rintro e w2 ⟨rfl, hB2, hT2⟩; have hB4 := hB3.trans (hB2.mono hB3.size))
      | (go_at_call 98; refine (hC3.out _ _ hT1 hB1 hT2 hB2).mono ?_; rintro e w3 ⟨hK, rfl⟩; have hB5 := hB4.trans ((hK.mono hB4.size).below (Nat.le_refl _))))
    go_ret2
    exact ⟨_, rfl, NewS.nil _ _, hB5⟩
  | some m =>
    rw [hf] at hC3
    clear hf
    simp only [Option.isSome_some]
    go_enter Try.func82, Try.ntmps82
    go_wp2_with (first
      | (go_at_call_of 99 (Value.slice ap p.length cp); refine hC1.mono ?_; clear hC1; rintro e w1 ⟨rfl, hB1, hT1⟩; have hB3 := hB0.trans (hB1.mono (by omega)))
      | (go_at_call_of 99 (Value.slice at' t.length ct); refine (hC2.out _ hB3).mono ?_; rintro e w2 ⟨rfl, hB2, hT2⟩; have hB4 := hB3.trans (hB2.mono hB3.size))
      | (go_at_call 98; refine (hC3.out _ _ hT1 hB1 hT2 hB2).mono ?_; rintro e w3 ⟨hK, rfl, hFS⟩; have hB5 := hB4.trans ((hK.mono hB4.size).below (Nat.le_refl _)); have HFS := hid hFS; clear hFS)
      | (go_at_call 100; refine (noneOf_any _).mono ?_; rintro e w4 ⟨v, rfl, hN, hB6⟩; have hB7 := hB5.trans (hB6.mono hB5.size); have hlen : (Tm.noneL 8).length = 8 := Tm.noneL_length 8; obtain ⟨g, c, rfl⟩ : ∃ g c, v = .slice (some ⟨g, 0, none⟩) 8 c := (by obtain ⟨us, h1, _⟩ := hN; rw [hlen] at h1; exact ownsRow_succ h1)))
    have hg3 : w3.heap.size ≤ g := by
      obtain ⟨us, h1, _⟩ := hN
      exact (World.ownsRow.lt h1 g rfl).1
    have hs1 := hB1.size
    rw [hs0] at hs1
    have hs2 := hB2.size
    have hs3 := hK.size
    have HN := hid hN
    clear hN hlen hT1 hT2 hC2 hC3
    go_loopw [8] (fun i wr => ∃ k : Nat, k ≤ 8 ∧ i = .int .i64 (k : Int) ∧ Hid (NewS w.heap.size wr (.slice (some ⟨g, 0, none⟩) 8 c) (Tm.fitL m k)) ∧ Below w3.heap.size w3 wr) (fun i _ => 8 - (intOf i).toNat)
    case atStart => exact ⟨0, Nat.zero_le _, rfl, by rw [Tm.fitL_zero]; exact HN.out.mono hB5.size, hB6⟩
    case round =>
      obtain ⟨k, hk, rfl, hNk, hBk⟩ := hrel
      by_cases hlt : k < 8
      · have hlt' : (k : Int) < 8 := by omega
        obtain ⟨_, hc⟩ := HFS.out.keep hBk (by omega) hs3 k hlt
        rcases hc with ⟨hm, hc⟩ | ⟨zs, X, hm, hc, hTX, hz⟩
        · have hst := hid (Tm.fitL_none hm)
          clear hm
          go_wp2
          go_roundw
          case rel => exact ⟨k + 1, by omega, by go_num, by rw [hst.out]; exact hNk.out, hBk⟩
          case measure => simp [intOf]; omega
        · have hst := hid (Tm.fitL_some hm)
          have hFl := flat_any wr hTX (by omega) (by have := hBk.size; omega)
          clear hm hTX
          go_wp2_with (first
            | (go_at_call 101; refine hFl.mono ?_; clear hFl; rintro e w5 ⟨u, rfl, hNu, hBu⟩; obtain ⟨au, cu, rfl, _⟩ := New.ints hNu; have hN5 := hid (hNk.out.below hBu); obtain ⟨hg5, x5, hc5, hf5⟩ := newS_cell hN5.out (Tm.fitL_length m k) hlt))
          have hsz := hBk.size
          have hsw := hB5.size
          go_roundw
          case rel =>
            refine ⟨k + 1, by omega, by go_num, ?_, ?_⟩
            · rw [hst.out]
              exact hN5.out.set (Tm.fitL_length m k).symm (hNu.mono (by omega)) k
            · exact (hBk.trans (hBu.mono hsz)).setCell (p := ⟨g, k, none⟩) hg3 _
          case measure => simp [intOf]; omega
      · obtain rfl : k = 8 := by omega
        go_wp2
        go_ret2
        exact ⟨_, rfl, hNk.out, hB5.trans (hBk.mono hB5.size)⟩

end Go.Proofs.Ytjaikmlbajdedac

namespace Go.Proofs.Ytjaikmlbajdedac
open Go.Proofs Go.RowKit Go.Shelf Go.Maps

/-- A term made plain. -/
def Tm.plain (t : List Int) : List Int := Tm.plainTo [] t t.length

def Tm.plainVal (t : List Int) : List Int := if Tm.err t = 0 then Tm.plain t else []
theorem Tm.known6 {t : List Int} (h : Tm.err t = 0) : ∀ k, k < t.length → t[k]?.getD 0 < 6 := fun _ hk => Tm.known_lt (Tm.all_at (Tm.err_all h) hk)

end Go.Proofs.Ytjaikmlbajdedac

namespace Go.Proofs.Ytjaikmlbajdedac
open Go.Proofs Go.RowKit Go.Shelf Go.Maps

theorem Tm.see_nodup {seen : List Int} (h : seen.Nodup) (s : Int) : (Tm.see seen s).Nodup := by
  unfold Tm.see
  split
  · split
    · exact h
    · rename_i hc
      have : ¬ s ∈ seen := by simpa using hc
      rw [List.nodup_append]
      exact ⟨h, by simp, fun x hx y hy => by simp at hy; subst hy; rintro rfl; exact this hx⟩
  · exact h
theorem Tm.seen_nodup (t : List Int) : ∀ seen : List Int, seen.Nodup → (Tm.seenFrom seen t).Nodup := by
  induction t with
  | nil => intro seen h; exact h
  | cons s l ih => intro seen h; exact ih _ (Tm.see_nodup h s)
theorem Tm.idx_at {seen : List Int} (hn : seen.Nodup) {i : Nat} (hi : i < seen.length) {s : Int} (h : seen[i]?.getD 0 = s) : Tm.idx seen s = i := by
  unfold Tm.idx
  have h' : seen[i] = s := by simpa [hi] using h
  rw [List.findIdx_eq hi]
  refine ⟨by simp [h'], fun j hj => ?_⟩
  simp only [beq_eq_false_iff_ne]
  intro e
  exact (List.pairwise_iff_getElem.1 hn) j i (by omega) hi hj (e.trans h'.symm)
theorem Tm.has_at {seen : List Int} {i : Nat} (hi : i < seen.length) {s : Int} (h : seen[i]?.getD 0 = s) : seen.contains s = true := by
  have h' : seen[i] = s := by simpa [hi] using h
  simp only [List.contains_iff_mem]
  rw [← h']
  exact List.getElem_mem hi
theorem Tm.has_not {seen : List Int} {s : Int} (h : ∀ i, i < seen.length → seen[i]?.getD 0 ≠ s) : seen.contains s = false := by
  rw [Bool.eq_false_iff]
  intro hc
  have hm : s ∈ seen := by simpa using hc
  obtain ⟨i, hi, e⟩ := List.getElem_of_mem hm
  exact h i hi (by simp [hi, e])
/-- The first k signs made plain, the rest as they were. -/
def Tm.half (t : List Int) (k : Nat) : List Int := Tm.plainTo [] t k ++ t.drop k
theorem Tm.half_zero (t : List Int) : Tm.half t 0 = t := by simp [Tm.half, Tm.plainTo]
theorem Tm.half_all (t : List Int) : Tm.half t t.length = Tm.plain t := by simp [Tm.half, Tm.plain]
theorem Tm.half_length {t : List Int} {k : Nat} (h : k ≤ t.length) : (Tm.half t k).length = t.length := by
  simp only [Tm.half, List.length_append, Tm.plainTo_length, List.length_drop]; omega
theorem Tm.half_succ {t : List Int} {k : Nat} (h : k < t.length) : Tm.half t (k + 1) = (Tm.half t k).set k (Tm.name (Tm.seenFrom [] (t.take k)) (t[k]?.getD 0)) := by
  unfold Tm.half
  rw [Tm.plainTo_succ, List.set_append_right _ _ (by rw [Tm.plainTo_length]; exact Nat.le_refl _), Tm.plainTo_length, Nat.sub_self, List.drop_eq_getElem_cons h, List.set_cons_zero, List.append_assoc]
  rfl
theorem Tm.half_same {t : List Int} {k : Nat} (h : k < t.length) (hs : 0 ≤ t[k]?.getD 0) : Tm.half t (k + 1) = Tm.half t k := by
  unfold Tm.half
  have hn : Tm.name (Tm.seenFrom [] (t.take k)) (t[k]?.getD 0) = t[k]?.getD 0 := by unfold Tm.name; rw [if_neg (by omega)]
  rw [Tm.plainTo_succ, hn, List.drop_eq_getElem_cons h]
  simp [h]
theorem Tm.see_same {seen : List Int} {s : Int} (hs : 0 ≤ s) : Tm.see seen s = seen := by unfold Tm.see; rw [if_neg (by omega)]
theorem Tm.see_old {seen : List Int} {s : Int} (h : seen.contains s = true) : Tm.see seen s = seen := by unfold Tm.see; rw [if_pos h]; split <;> rfl
theorem Tm.see_new {seen : List Int} {s : Int} (hs : s < 0) (h : seen.contains s = false) : Tm.see seen s = seen ++ [s] := by unfold Tm.see; rw [if_pos hs, if_neg (by rw [h]; decide)]

/-- One int is stored anew. -/
theorem New.set {base : Nat} {W : World} {g c n : Nat} {zs : List Int} (h : New base W (.slice (some ⟨g, 0, none⟩) n c) zs) (hn : n = zs.length) (j : Nat) (x : Int) :
    New base (W.setCell ⟨g, j, none⟩ (.int .i64 x)) (.slice (some ⟨g, 0, none⟩) n c) (zs.set j x) := by
  subst hn
  have := (World.ownsRow.stored h j (.int .i64 x)).1
  unfold New
  rw [List.length_set, List.map_set]
  exact this

theorem Try.infoInts : Try.prog.underlying 22 = some (.slice 3) := by kernel_rfl

/-- 'append(s, x...)' onto a plain slice of ints that the call itself made. -/
theorem wp_append_int1 {ops : Array Oper} {rest : List Oper} {o : Oper} {a : Act} {Q : Exit → Act → World → Prop} (w : World) (hgd : o.guard = none) (s x : Operand)
    (ho : o.op = .call { callee := .builtin .append, args := #[s, x], argTypes := #[22, 22] }) (base : Nat) (v : Value) (xs : List Int) (hs : a.eval s = v) (hN : New base w v xs)
    (B : Nat) (y : Int) (hx : a.eval x = .slice (some ⟨B, 0, none⟩) 1 1) (hB : w.cell? ⟨B, 0, none⟩ = some (.int .i64 y)) (hlen : xs.length ≤ 1000000) (hbase : base ≤ w.heap.size)
    (h : ∀ v' w', New base w' v' (xs ++ [y]) → w.grownBy w' v.ownBlock → Below base w w' → wpList Try.prog ops Q rest (a.put o.dst v') w') : wpList Try.prog ops Q (o :: rest) a w := by
  obtain ⟨i0, hi, hz0, hz1, hz2⟩ := info_parts Try.info3
  refine wpList_append_own w hgd s x 22 ho base 3 i0 (.int .i64 0) 1 8 Try.infoInts hi hz0 hz1 hz2 rfl (by decide) v xs.length (xs.map (Value.int .i64)) hs hN ⟨B, 0, none⟩ 1 1 [.int .i64 y] hx (by simp)
    (by intro j z hj
        match j, hj with
        | 0, hj => simp at hj; subst hj; rw [Go.WideShapes.add_plain]; simpa using hB)
    (by intro z hz; simp at hz; subst hz; rfl) (by unfold maxLen; omega) (by omega) hbase ?_
  intro v' w' hown hg _
  exact h v' w' (by simpa [New] using hown) hg ((Below.refl base w).grown hg hbase (fun k e => (World.ownsRow.lt hN k e).1))

end Go.Proofs.Ytjaikmlbajdedac

namespace Go.Proofs.Ytjaikmlbajdedac
open Go.Proofs Go.RowKit Go.Shelf Go.Maps

attribute [local go_sem] Oper.semAt_some

/-- A place of zs. -/
abbrev PlaceOf (zs : List Int) : Type := { k : Nat // k < zs.length }
def encPlace (zs : List Int) (x : PlaceOf zs) : Array Value := #[.int .i64 (x.1 : Int), .int .i64 (Tm.endAt zs x.1 : Int)]
/-- The first m places. -/
def placesTo (zs : List Int) : Nat → List (PlaceOf zs)
  | 0 => []
  | m + 1 => if h : m < zs.length then placesTo zs m ++ [⟨m, h⟩] else placesTo zs m
theorem placesTo_succ {zs : List Int} {m : Nat} (h : m < zs.length) : placesTo zs (m + 1) = placesTo zs m ++ [⟨m, h⟩] := by simp [placesTo, h]
theorem placesTo_length (zs : List Int) : ∀ m, m ≤ zs.length → (placesTo zs m).length = m := by
  intro m
  induction m with
  | zero => intro _; rfl
  | succ m ih => intro h; rw [placesTo_succ (by omega), List.length_append, ih (by omega)]; rfl

set_option maxHeartbeats 400000 in
theorem places_in (F : Fence) (hF : F = Fence.wide) (n : Nat) (a : Option Addr) (len cap : Nat) (w : World) :
    CallsIn F n Try.prog 53 #[.slice a len cap] w fun e w' => e = .returned (.func (.func 76) #[] #[.pointer (some ⟨w.heap.size, 0, none⟩)]) ∧
      w' = w.alloc (.cells #[.slice a len cap] 23) := by
  have hro : F.round = none := by subst hF; rfl
  have hfn : F.fn 53 := by subst hF; trivial
  refine callsIn_of_wp Try.func53 rfl hfn ?_ hro
  simp only [Try.ntmps53, List.size_toArray, List.length_cons, List.length_nil, Nat.reduceAdd, Nat.reduceSub, Array.replicate_succ, Array.replicate_zero, List.push_toArray, List.append_toArray, List.nil_append, List.cons_append]
  gi_wp2
  go_ret
  exact ⟨rfl, rfl⟩

set_option maxRecDepth 100000 in
set_option maxHeartbeats 1000000 in
theorem places1_in (F : Fence) (hF : F = Fence.wide) (n l Bt n₀ cap : Nat) (a : Option Addr) (zs : List Int) (hlen : zs.length ≤ 30)
    (J Jx : List (PlaceOf zs) → World → Prop) (W : World) (hJ : AbidesFrom W.heap.size J)
    (hY : ∀ pre x W, J pre W → pre.length < zs.length → YieldAt F (n - 1) Try.prog l (encPlace zs x) W fun e W' =>
      (e = .returned (.bool true) ∧ J (pre ++ [x]) W' ∧ Kept n₀ Bt W W') ∨ (e = .returned (.bool false) ∧ Jx (pre ++ [x]) W'))
    (hn₀ : n₀ ≤ W.heap.size) (hBt : W.cell? ⟨Bt, 0, none⟩ = some (.slice a zs.length cap)) (hBt' : Bt < W.heap.size) (hI : Ints n₀ W a zs) (h0 : J [] W) :
    CallsIn F n Try.prog 76 #[.func (.yield l) #[] #[], .pointer (some ⟨Bt, 0, none⟩)] W fun e W' => (∃ v, e = .returned v) ∧
      ((∃ ys, ys = placesTo zs zs.length ∧ J ys W') ∨ (∃ pre, True ∧ Jx pre W')) := by
  obtain ⟨hro, hfn, hdd, hcin⟩ := wide_facts hF
  clear hF
  have hf55 := hfn 76
  have hf32 := hfn 45
  have hl30 : (zs.length : Int) ≤ 30 := by omega
  have HY := hid hY
  have HI := hid hI
  clear hY hI
  refine callsIn_of_wp Try.func76 rfl hf55 ?_ hro
  simp only [Try.ntmps76, List.size_toArray, List.length_cons, List.length_nil, Nat.reduceAdd, Nat.reduceSub, Array.replicate_succ, Array.replicate_zero, List.push_toArray, List.append_toArray, List.nil_append, List.cons_append]
  gi_wp2
  gi_loopw [6] (fun i wr => ∃ m : Nat, m ≤ zs.length ∧ i = .int .i64 (m : Int) ∧ J (placesTo zs m) wr ∧ wr.heap[Bt]? = W.heap[Bt]? ∧ Below n₀ W wr ∧ W.heap.size ≤ wr.heap.size)
    (fun i _ => zs.length - (intOf i).toNat)
  case atStart => exact ⟨0, Nat.zero_le _, rfl, h0, rfl, Below.refl _ _, Nat.le_refl _⟩
  case round =>
    obtain ⟨m, hm, rfl, hJs, hT, hnx, hsz⟩ := hrel
    have hbt : wr.cell? ⟨Bt, 0, none⟩ = some (.slice a zs.length cap) := (World.cell?_of_block (a := ⟨Bt, 0, none⟩) hT).trans hBt
    by_cases hlt : m < zs.length
    · have hlt' : (m : Int) < (zs.length : Int) := by omega
      have h1 := (end_any zs hlen a cap m (by omega) wr ((HI.out.below hnx).mono (by omega))).mono (R' := fun e W1 => e = .returned (.int .i64 (Tm.endAt zs m : Int)) ∧ YieldAt F (n - 1) Try.prog l #[.int .i64 (m : Int), .int .i64 (Tm.endAt zs m : Int)] W1 fun e W' =>
          (e = .returned (.bool true) ∧ J (placesTo zs (m + 1)) W' ∧ Below n₀ W W' ∧ W'.heap[Bt]? = W.heap[Bt]? ∧ W.heap.size ≤ W'.heap.size) ∨ (e = .returned (.bool false) ∧ ∃ pre, Jx pre W'))
        (fun e W1 ⟨he, hB⟩ => ⟨he, by
          have hg := grown_of_below hB
          have hJ1 := hJ _ _ _ none hJs hg (fun r e => by cases e)
          refine YieldAt.mono (HY.out _ ⟨m, hlt⟩ W1 hJ1 (by rw [placesTo_length zs m hm]; exact hlt)) fun e W2 h => h.elim (fun ⟨he, hj, hb2, hT2⟩ => .inl ⟨he, ?_, ?_, ?_, ?_⟩) (fun ⟨he, hx⟩ => .inr ⟨he, _, hx⟩)
          · rw [placesTo_succ hlt]; exact hj
          · exact (hnx.trans (hB.mono (by omega))).trans hb2
          · exact hT2.trans ((hB.block Bt (by omega)).trans hT)
          · have := hB.size; have := hb2.size; omega⟩)
      have h1' := hcin (n := n - 1) h1
      clear h1
      gi_wp2_with (first
        | ((try refine ⟨hdd _, ?_⟩); gi_at_call 45; refine h1'.mono ?_; clear h1'; rintro e W1 ⟨rfl, fn, tmps, assign, body, hy, hR⟩)
        | ((try refine ⟨hdd _, ?_⟩); refine hR.mono ?_; clear hR; rintro e W2 (⟨rfl, hJ2, hb2, hT2, hs2⟩ | ⟨rfl, hx2⟩)))
      · exact ⟨⟨m + 1, by omega, by go_num, hJ2, hT2, hb2, hs2⟩, by simp [intOf]; omega⟩
      · obtain ⟨pre, hx2⟩ := hx2
        refine bodyPost_ret (results_none rfl _ _ _) rfl ?_
        exact ⟨⟨_, rfl⟩, .inr ⟨pre, trivial, hx2⟩⟩
    · obtain rfl : m = zs.length := by omega
      have hlt' : ¬ (zs.length : Int) < (zs.length : Int) := by omega
      gi_wp2
      go_end0
      exact ⟨⟨_, rfl⟩, .inl hJs⟩

/-- The iterator value's contract. -/
theorem places_stops (F : Fence) (hF : F = Fence.wide) (n Bt n₀ cap : Nat) (a : Option Addr) (zs : List Int) (hlen : zs.length ≤ 30) (w : World) (hn₀ : n₀ ≤ w.heap.size) (hBt' : Bt < w.heap.size)
    (hBt : w.cell? ⟨Bt, 0, none⟩ = some (.slice a zs.length cap)) (hI : Ints n₀ w a zs) :
    SeqStopsK F n Try.prog 76 #[.pointer (some ⟨Bt, 0, none⟩)] (encPlace zs) (Kept n₀ Bt)
      (fun ys => ys = placesTo zs zs.length) (fun _ => True) zs.length w := fun l J Jx W hW hJ _ hY h0 =>
  places1_in F hF n l Bt n₀ cap a zs hlen J Jx W hJ hY (by have := hW.size; omega) ((hW.cell (p := ⟨Bt, 0, none⟩) hBt').trans hBt) (by have := hW.size; omega) (hI.below (hW.mono hn₀)) h0

end Go.Proofs.Ytjaikmlbajdedac

namespace Go.Proofs.Ytjaikmlbajdedac
open Go.Proofs Go.RowKit Go.Shelf Go.Maps

attribute [local go_sem] Oper.semAt_some

/-- The places at which p fits, of some places. -/
def overL (t p : List Int) (l : List (PlaceOf t)) : List Int := (l.filter fun x => (Tm.fit p (Tm.part t x.1)).isSome).map fun x => (x.1 : Int)
theorem overL_no {t p : List Int} (l : List (PlaceOf t)) (x : PlaceOf t) (h : Tm.fit p (Tm.part t x.1) = none) : overL t p (l ++ [x]) = overL t p l := by
  simp [overL, List.filter_append, h]
theorem overL_yes {t p : List Int} (l : List (PlaceOf t)) (x : PlaceOf t) {m : Asg} (h : Tm.fit p (Tm.part t x.1) = some m) : overL t p (l ++ [x]) = overL t p l ++ [(x.1 : Int)] := by
  simp [overL, List.filter_append, h]
theorem overL_le {t p : List Int} (l : List (PlaceOf t)) : (overL t p l).length ≤ l.length := by
  simp only [overL, List.length_map]
  exact List.length_filter_le _ _
def Tm.overVal (t p : List Int) : List Int := if Tm.fitErr t p = 0 then overL t p (placesTo t t.length) else []

end Go.Proofs.Ytjaikmlbajdedac

namespace Go.Proofs.Ytjaikmlbajdedac
open Go.Proofs Go.RowKit Go.Shelf Go.Maps

end Go.Proofs.Ytjaikmlbajdedac

namespace Go.Proofs.Ytjaikmlbajdedac
open Go.Proofs Go.RowKit Go.Shelf Go.Maps

theorem Tm.m1 : Tm.fitErr [4, -1, 2, -2] [4, 3, 0, 2, -1] = 0 := by decide +kernel
theorem Tm.m2 : Tm.fitIs [4, -1, 2, -2] [4, 3, 0, 2, -1] = true := by decide +kernel
theorem Tm.m3 : Tm.fitVal [4, -1, 2, -2] [4, 3, 0, 2, -1] = [[3, 0], [-1], [-3], [-4], [-5], [-6], [-7], [-8]] := by decide +kernel
theorem Tm.m4 : Tm.fitErr [4, -1, -1] [4, 0, 1] = 0 := by decide +kernel
theorem Tm.m5 : Tm.fitIs [4, -1, -1] [4, 0, 1] = false := by decide +kernel
theorem Tm.m6 : Tm.fitErr [4, 2, 2, 0, 2, 1] [2, -3] = 0 := by decide +kernel
theorem Tm.m7 : Tm.overVal [4, 2, 2, 0, 2, 1] [2, -3] = [1, 2, 4] := by decide +kernel
theorem Tm.m8 : Tm.fitErr [] [4, -1, 2, 0] = 1 := by decide +kernel
theorem Tm.m9 : Tm.fitIs [] [4, -1, 2, 0] = false := by decide +kernel

end Go.Proofs.Ytjaikmlbajdedac

namespace Go.Proofs.Ytjaikmlbajdedac
open Go.Proofs Go.RowKit Go.Shelf Go.Maps

theorem New.drewN {base : Nat} {W : World} {v : Value} {zs : List Int} (h : New base W v zs) (d : Nat) : New base (W.drewN d) v zs := h
theorem New.own_lt {base : Nat} {W : World} {g n c : Nat} {zs : List Int} (h : New base W (.slice (some ⟨g, 0, none⟩) n c) zs) : base ≤ g ∧ g < W.heap.size := World.ownsRow.lt h g rfl
theorem New.at0 {base : Nat} {W : World} {v : Value} {zs : List Int} (h : New base W v zs) (h0 : 0 < zs.length) : ∃ g c, v = .slice (some ⟨g, 0, none⟩) zs.length c ∧ (∀ j, j < zs.length → W.cell? ⟨g, j, none⟩ = some (.int .i64 (zs[j]?.getD 0))) ∧ ∀ j, W.frozen? ⟨g, j, none⟩ = false := by
  obtain ⟨m, hm⟩ : ∃ m, zs.length = m + 1 := ⟨zs.length - 1, by omega⟩
  have h' : W.ownsRow base 3 1 v (m + 1) (zs.map (Value.int .i64)) := by rw [← hm]; exact h
  obtain ⟨g, c, rfl⟩ := ownsRow_succ h'
  rw [← hm] at h'
  refine ⟨g, c, by rw [hm], fun j hj => ?_, fun j => ?_⟩
  · have := World.ownsRow.cellAt (by rw [hm] at h'; exact h') j (by omega)
    rw [this]
    simp [hj]
  · exact World.ownsRow.frozenAt (by rw [hm] at h'; exact h') j

/-- haspref.plain, one round: what stands before it and behind it. -/
def PlainSt (w W1 : World) (t : List Int) (g n c k : Nat) (vs : Value) (wr : World) : Prop :=
  New W1.heap.size wr vs (Tm.seenFrom [] (t.take k)) ∧ New w.heap.size wr (.slice (some ⟨g, 0, none⟩) n c) (Tm.half t k) ∧ Below w.heap.size w wr ∧ W1.heap.size ≤ wr.heap.size

theorem PlainSt.same {w W1 : World} {t : List Int} {g n c k : Nat} {vs : Value} {wr : World} (h : PlainSt w W1 t g n c k vs wr) (hk : k < t.length) (hs : 0 ≤ t[k]?.getD 0) : PlainSt w W1 t g n c (k + 1) vs wr := by
  obtain ⟨h1, h2, h3, h4⟩ := h
  refine ⟨?_, ?_, h3, h4⟩
  · rw [Tm.seen_succ [] hk, Tm.see_same hs]; exact h1
  · rw [Tm.half_same hk hs]; exact h2

theorem PlainSt.store {w W1 : World} {t : List Int} {g n c k : Nat} {vs : Value} {wr : World} (hg : g < W1.heap.size) (hn : n = t.length) (hk : k < t.length)
    (h1 : New W1.heap.size wr vs (Tm.seenFrom [] (t.take (k + 1)))) (h2 : New w.heap.size wr (.slice (some ⟨g, 0, none⟩) n c) (Tm.half t k)) (h3 : Below w.heap.size w wr) (h4 : W1.heap.size ≤ wr.heap.size)
    (x : Int) (hx : x = Tm.name (Tm.seenFrom [] (t.take k)) (t[k]?.getD 0)) : PlainSt w W1 t g n c (k + 1) vs (wr.setCell ⟨g, k, none⟩ (.int .i64 x)) := by
  have hgr := grownBy_setCell1 wr g k (.int .i64 x)
  refine ⟨World.ownsRow.kept h1 hgr (.inr fun e => ?_), ?_, h3.setCell (p := ⟨g, k, none⟩) h2.own_lt.1 _, Nat.le_trans h4 hgr.size⟩
  · have := (World.ownsRow.lt h1 g e).1
    omega
  · rw [Tm.half_succ hk, ← hx]
    exact h2.set (by rw [Tm.half_length (by omega)]; exact hn) k x

end Go.Proofs.Ytjaikmlbajdedac

namespace Go.Proofs.Ytjaikmlbajdedac
open Go.Proofs Go.RowKit Go.Shelf Go.Maps

theorem Tm.s1 : Tm.applyErr Tm.someL [4, -1, -2] = 0 := by decide +kernel
theorem Tm.s2 : Tm.applyVal Tm.someL [4, -1, -2] = [4, 2, -2, -1] := by decide +kernel
theorem Tm.s3 : Tm.afterErr Tm.someL Tm.someL = 0 := by decide +kernel
theorem Tm.s4 : Tm.afterVal Tm.someL Tm.someL = [[2, -1], [2, -2], [-3], [-4], [-5], [-6], [-7], [-8]] := by decide +kernel
theorem Tm.s5 : Tm.err [4, -5, 4, -2, -5] = 0 := by decide +kernel
theorem Tm.s6 : Tm.plainVal [4, -5, 4, -2, -5] = [4, -1, 4, -2, -1] := by decide +kernel
theorem Tm.s7 : Tm.applyErr [] [4, -1, 2, 0] = 1 := by decide +kernel
theorem Tm.s8 : Tm.applyVal [] [4, -1, 2, 0] = [] := by decide +kernel
theorem Tm.s9 : Tm.subErr (Tm.noneL 8) = 0 := by decide +kernel
theorem Tm.s10 : Tm.someL.length = 8 := rfl

end Go.Proofs.Ytjaikmlbajdedac

namespace Go.Proofs.Ytjaikmlbajdedac
open Go.Proofs Go.RowKit Go.Shelf

def TermIn (w : World) (a : Option Addr) (len cap : Nat) : Prop := ∃ zs : List Int, zs.length = len ∧ Ints w.heap.size w a zs ∧ len ≤ cap ∧ cap ≤ maxLen ∧ (a = none → cap = 0)
def SubsIn (w : World) (a : Option Addr) (len cap : Nat) : Prop := ∃ ss : List (List Int), ss.length = len ∧ Subs w.heap.size w a ss ∧ len ≤ cap ∧ cap ≤ maxLen
theorem subsIn_nil (w : World) : SubsIn w none 0 0 := ⟨[], rfl, Subs.nil _ _ _, Nat.le_refl _, Nat.zero_le _⟩

theorem ints_of_cells {w : World} {a : Option Addr} {L C : Nat} {Z : List Int} (h1 : L ≤ C) (h2 : Z.length = C) (h3 : ∀ x, a = some x → ∀ c, c < C → w.cell? (x.add c) = some (.int .i64 (Z.getD c 0))) (h4 : a = none → C = 0) :
    Ints w.heap.size w a (Z.take L) := fun j hj => by
  rw [List.length_take] at hj
  cases a with
  | none => have := h4 rfl; omega
  | some x =>
    have hc := h3 x rfl j (by omega)
    have hsp := World.cell?_spot (h3 x rfl 0 (by omega))
    obtain ⟨b, off, spot⟩ := x
    have hspot : spot = none := by simpa [Addr.add] using hsp
    subst hspot
    rw [Go.WideShapes.add_plain] at hc
    refine ⟨b, off, rfl, by simpa using lt_of_cell hc, ?_⟩
    rw [hc, List.getD_eq_getElem?_getD]
    simp [show j < L from by omega]

theorem subsIn_rows {w : World} {a : Addr} {len cap : Nat} {A : Nat → Option Addr} {L C : Nat → Nat} {Z : Nat → List Int} (h1 : len ≤ cap) (h2 : cap ≤ maxLen)
    (h : ∀ r, r < cap → w.cell? (a.add r) = some (.slice (A r) (L r) (C r)) ∧ L r ≤ C r ∧ C r ≤ maxLen ∧ (Z r).length = C r ∧ (∀ n ∈ Z r, (Lit.int .i64 n).wf = true) ∧ (A r = none → C r = 0) ∧
        ∀ a', A r = some a' → 0 ≤ a'.block ∧ ∀ c, c < C r → w.cell? (a'.add c) = some (.int .i64 ((Z r).getD c 0))) : SubsIn w (some a) len cap := by
  refine ⟨(List.range len).map fun r => (Z r).take (L r), by simp, fun j hj => ?_, h1, h2⟩
  have hj' : j < len := by simpa using hj
  obtain ⟨hc, q1, q2, q3, _, q5, q6⟩ := h j (by omega)
  have hsp := World.cell?_spot (h 0 (by omega)).1
  obtain ⟨b, off, spot⟩ := a
  have hspot : spot = none := by simpa [Addr.add] using hsp
  subst hspot
  rw [Go.WideShapes.add_plain] at hc
  have e : ((List.range len).map fun r => (Z r).take (L r))[j]?.getD [] = (Z j).take (L j) := by simp [hj']
  rw [e]
  have el : ((Z j).take (L j)).length = L j := by rw [List.length_take]; omega
  refine ⟨b, off, A j, C j, rfl, by simpa using lt_of_cell hc, ?_, ints_of_cells q1 q3 (fun x hx => (q6 x hx).2) q5, ?_, q2, q5⟩
  · rw [el]; exact hc
  · rw [el]; exact q1

theorem Tm.applyVal_le (ss : List (List Int)) (t : List Int) : (Tm.applyVal ss t).length ≤ 30 := by
  by_cases hs : Tm.subErr ss = 0
  · by_cases ht : Tm.err t = 0
    · rw [(Tm.apply_ok hs ht).2]
      split
      · simp
      · omega
    · rw [(Tm.apply_t hs ht).2]; simp
  · rw [(Tm.apply_s hs).2]; simp

end Go.Proofs.Ytjaikmlbajdedac

namespace Go.Proofs.Ytjaikmlbajdedac
open Go.Proofs Go.RowKit Go.Shelf

theorem Tm.applied_cons (ss : List (List Int)) (s : Int) (l : List Int) : Tm.applied ss (s :: l) = Tm.piece ss s ++ Tm.applied ss l := by simp [Tm.applied]
theorem Tm.piece_pos {ss : List (List Int)} {s : Int} (h : 0 ≤ s) : Tm.piece ss s = [s] := by unfold Tm.piece; rw [if_neg (by omega)]

/-- Each list is a term. -/
def Terms (ss : List (List Int)) : Prop := ∀ j, j < 8 → Tm.err (ss[j]?.getD []) = 0
theorem Terms.of {ss : List (List Int)} (h : Tm.subErr ss = 0) : Terms ss := fun j hj => Tm.firstErr_all (Tm.subErr_ok h).2 j (by rw [(Tm.subErr_ok h).1]; exact hj)
theorem Tm.piece_term {ss : List (List Int)} (h : Terms ss) {s : Int} (h8 : -8 ≤ s) (hs : s < 0) : Tm.err (Tm.piece ss s) = 0 := by
  unfold Tm.piece
  rw [if_pos hs]
  exact h _ (by omega)

theorem Tm.run_applied {ss : List (List Int)} (h : Terms ss) : ∀ (t : List Int) (n : Nat), t.all Tm.known = true → Tm.run t n = t.length → Tm.run (Tm.applied ss t) n = (Tm.applied ss t).length := by
  intro t
  induction t with
  | nil => intro n _ hr; rw [Tm.run_nil] at hr; subst hr; rw [List.length_nil, Tm.run_zero]; rfl
  | cons s l ih =>
    intro n hk hr
    rw [List.all_cons, Bool.and_eq_true] at hk
    cases n with
    | zero => rw [Tm.run_zero, List.length_cons] at hr; omega
    | succ n =>
      rw [Tm.run_cons, List.length_cons] at hr
      rw [Tm.applied_cons]
      by_cases hs : s < 0
      · rw [Tm.room_neg hs] at hr
        have hp := Tm.err_run (Tm.piece_term h (Tm.known_ge hk.1) hs)
        have hi := ih n hk.2 (by rw [Nat.add_zero] at hr; omega)
        rw [show n + 1 = 1 + n from by omega, Tm.run_add, Tm.run_app _ _ 1 (by omega), hp, List.drop_left, hi, List.length_append]
      · rw [Tm.piece_pos (by omega), List.singleton_append, Tm.run_cons, List.length_cons, ih _ hk.2 (by omega)]
        omega
theorem Tm.all_applied {ss : List (List Int)} (h : Terms ss) : ∀ (t : List Int), t.all Tm.known = true → (Tm.applied ss t).all Tm.known = true := by
  intro t
  induction t with
  | nil => intro _; rfl
  | cons s l ih =>
    intro hk
    rw [List.all_cons, Bool.and_eq_true] at hk
    rw [Tm.applied_cons, List.all_append, ih hk.2]
    by_cases hs : s < 0
    · rw [Tm.err_all (Tm.piece_term h (Tm.known_ge hk.1) hs)]; rfl
    · rw [Tm.piece_pos (by omega)]; simp [hk.1]
/-- What a term becomes is a term. -/
theorem Tm.err_applied {ss : List (List Int)} (h : Terms ss) {t : List Int} (ht : Tm.err t = 0) (hl : (Tm.applied ss t).length ≤ 30) : Tm.err (Tm.applied ss t) = 0 :=
  Tm.err_ok hl (Tm.all_applied h t (Tm.err_all ht)) (Tm.run_applied h t 1 (Tm.err_all ht) (Tm.err_run ht))

/-- First by one list, then by another, is by After of both. -/
theorem Tm.applied_after {ss us : List (List Int)} (hl : ss.length = 8) : ∀ (t : List Int), t.all Tm.known = true → Tm.applied us (Tm.applied ss t) = Tm.applied (Tm.afterL ss us) t := by
  intro t
  induction t with
  | nil => intro _; rfl
  | cons s l ih =>
    intro hk
    rw [List.all_cons, Bool.and_eq_true] at hk
    rw [Tm.applied_cons, Tm.applied_cons, ← ih hk.2]
    have e : Tm.applied us (Tm.piece ss s ++ Tm.applied ss l) = Tm.applied us (Tm.piece ss s) ++ Tm.applied us (Tm.applied ss l) := by simp [Tm.applied]
    rw [e]
    congr 1
    by_cases hs : s < 0
    · have h8 := Tm.known_ge hk.1
      unfold Tm.piece
      rw [if_pos hs, if_pos hs]
      have hj : (-1 - s).toNat < ss.length := by omega
      simp [Tm.afterL, hj]
    · rw [Tm.piece_pos (by omega), Tm.piece_pos (by omega)]
      simp [Tm.applied, Tm.piece_pos (show 0 ≤ s by omega)]
/-- By None nothing changes. -/
theorem Tm.applied_none : ∀ (t : List Int), t.all Tm.known = true → Tm.applied (Tm.noneL 8) t = t := by
  intro t
  induction t with
  | nil => intro _; rfl
  | cons s l ih =>
    intro hk
    rw [List.all_cons, Bool.and_eq_true] at hk
    rw [Tm.applied_cons, ih hk.2]
    have h8 := Tm.known_ge hk.1
    by_cases hs : s < 0
    · have hp : Tm.piece (Tm.noneL 8) s = [s] := by
        unfold Tm.piece
        rw [if_pos hs]
        have hj : (-1 - s).toNat < 8 := by omega
        simp only [Tm.noneL, List.getElem?_map]
        rw [List.getElem?_range hj]
        simp
        omega
      rw [hp]; rfl
    · rw [Tm.piece_pos (by omega)]; rfl
theorem Tm.subErr_after {ss us : List (List Int)} (hs : Tm.subErr ss = 0) (hu : Tm.subErr us = 0) (hf : ss.all (Tm.fits us) = true) : Tm.subErr (Tm.afterL ss us) = 0 := by
  have hl : (Tm.afterL ss us).length = 8 := by rw [Tm.afterL_length, (Tm.subErr_ok hs).1]
  unfold Tm.subErr
  rw [if_pos hl]
  have hall : ∀ t ∈ Tm.afterL ss us, Tm.err t = 0 := by
    intro t ht
    unfold Tm.afterL at ht
    rw [List.mem_map] at ht
    obtain ⟨x, hx, rfl⟩ := ht
    rw [List.all_eq_true] at hf
    have h1 := hf x hx
    simp only [Tm.fits, decide_eq_true_eq] at h1
    obtain ⟨k, hk, e⟩ := List.getElem_of_mem hx
    have h2 := Tm.firstErr_all (Tm.subErr_ok hs).2 k hk
    simp only [hk, List.getElem?_eq_getElem, Option.getD_some, e] at h2
    exact Tm.err_applied (Terms.of hu) h2 h1
  generalize Tm.afterL ss us = l at hall
  clear hl hf hs hu
  induction l with
  | nil => rfl
  | cons t l ih =>
    unfold Tm.firstErr
    rw [if_pos (hall t (by simp))]
    exact ih (fun x hx => hall x (by simp [hx]))

end Go.Proofs.Ytjaikmlbajdedac

namespace Go.Proofs.Ytjaikmlbajdedac
open Go.Proofs Go.RowKit Go.Shelf

/-- What a sign becomes by what was found. -/
def Tm.found (m : Asg) (s : Int) : List Int := if s < 0 then (m s).getD [s] else [s]
theorem Tm.piece_fitL {m : Asg} {s : Int} (h8 : -8 ≤ s) : Tm.piece (Tm.fitL m 8) s = Tm.found m s := by
  unfold Tm.piece Tm.found
  by_cases hs : s < 0
  · rw [if_pos hs, if_pos hs]
    have hj : (-1 - s).toNat < 8 := by omega
    simp only [Tm.fitL, List.getElem?_map]
    rw [List.getElem?_range hj]
    simp only [Option.map_some, Option.getD_some]
    rw [if_pos hj, show -1 - (((-1 - s).toNat : Nat) : Int) = s from by omega]
  · rw [if_neg hs, if_neg hs]
theorem Tm.applied_fitL {m : Asg} : ∀ (p : List Int), p.all Tm.known = true → Tm.applied (Tm.fitL m 8) p = p.flatMap (Tm.found m) := by
  intro p
  induction p with
  | nil => intro _; rfl
  | cons s l ih =>
    intro hk
    rw [List.all_cons, Bool.and_eq_true] at hk
    rw [Tm.applied_cons, ih hk.2, Tm.piece_fitL (Tm.known_ge hk.1), List.flatMap_cons]
theorem Tm.part_drop (t : List Int) (k : Nat) : Tm.part t k ++ t.drop (Tm.endAt t k) = t.drop k := by
  have h := Tm.endAt_gt t k
  unfold Tm.part
  rw [show t.drop (Tm.endAt t k) = (t.drop k).drop (Tm.endAt t k - k) from by rw [List.drop_drop]; congr 1; omega, List.take_append_drop]

theorem Tm.fit_sound (p t : List Int) : ∀ (n i k : Nat) (m m' : Asg), p.length - i = n → i ≤ p.length → Against p t i k → Tm.fitGo t (p.drop i) k m = some m' →
    (∀ x z, m x = some z → m' x = some z) ∧ (p.drop i).flatMap (Tm.found m') = t.drop k := by
  intro n
  induction n with
  | zero =>
    intro i k m m' hn hi ha h
    obtain rfl : i = p.length := by omega
    rw [List.drop_length, Tm.fitGo_nil] at h
    cases h
    rw [List.drop_length, ha.fin, List.drop_length]
    exact ⟨fun _ _ h => h, rfl⟩
  | succ n ih =>
    intro i k m m' hn hi ha h
    have hlt : i < p.length := by omega
    have hk := ha.pos hlt
    rw [List.drop_eq_getElem_cons hlt, Tm.fitGo] at h
    rw [List.drop_eq_getElem_cons hlt, List.flatMap_cons]
    by_cases hs : p[i] < 0
    · rw [if_pos hs] at h
      by_cases hc : (m p[i]).isSome = true ∧ m p[i] ≠ some (Tm.part t k)
      · rw [if_pos hc] at h; cases h
      · rw [if_neg hc] at h
        obtain ⟨h1, h2⟩ := ih (i + 1) (Tm.endAt t k) _ m' (by omega) (by omega) (ha.var hlt (by simpa [hlt] using hs)) h
        have hp := h1 p[i] (Tm.part t k) (upd_same _ _ _)
        refine ⟨fun x z hx => ?_, ?_⟩
        · by_cases e : x = p[i]
          · subst e
            have : m p[i] = some (Tm.part t k) := by
              by_cases hq : m p[i] = some (Tm.part t k)
              · exact hq
              · exact absurd ⟨by rw [hx]; rfl, hq⟩ hc
            rw [this] at hx
            cases hx
            exact hp
          · exact h1 x z (by rw [upd_other _ _ e]; exact hx)
        · rw [h2, show Tm.found m' p[i] = Tm.part t k from by unfold Tm.found; rw [if_pos hs, hp]; rfl, Tm.part_drop]
    · rw [if_neg hs] at h
      by_cases hu : t[k]?.getD 0 = p[i]
      · rw [if_pos hu] at h
        obtain ⟨h1, h2⟩ := ih (i + 1) (k + 1) m m' (by omega) (by omega) (ha.sym hlt (by simpa [hlt] using hu)) h
        refine ⟨h1, ?_⟩
        rw [h2, show Tm.found m' p[i] = [p[i]] from by unfold Tm.found; rw [if_neg hs], List.drop_eq_getElem_cons hk]
        simp [hk] at hu
        rw [hu]; rfl
      · rw [if_neg hu] at h; cases h
/-- By what fits the one becomes the other. -/
theorem Tm.fit_makes {p t : List Int} {m : Asg} (hp : Tm.err p = 0) (ht : Tm.err t = 0) (h : Tm.fit p t = some m) : Tm.applied (Tm.fitL m 8) p = t := by
  rw [Tm.applied_fitL p (Tm.err_all hp)]
  have := (Tm.fit_sound p t _ 0 0 _ m rfl (by omega) (Against.start hp ht) (by simpa [Tm.fit] using h)).2
  simpa using this

theorem Tm.applied_split (ss : List (List Int)) (p : List Int) (i : Nat) : Tm.applied ss p = Tm.applied ss (p.take i) ++ Tm.applied ss (p.drop i) := by
  unfold Tm.applied
  rw [← List.flatMap_append, List.take_append_drop]
theorem Tm.endAt_front {pre x post : List Int} (hx : Tm.run x 1 = x.length) : Tm.endAt (pre ++ (x ++ post)) pre.length = pre.length + x.length := by
  have h := Tm.endAt_mid (pre := pre) (t := x) (post := post) (k := 0) (by omega) (by rw [Tm.endAt_zero]; omega)
  rw [Nat.add_zero, Tm.endAt_zero, hx] at h
  exact h
theorem Tm.part_front {pre x post : List Int} (hx : Tm.run x 1 = x.length) : Tm.part (pre ++ (x ++ post)) pre.length = x := by
  unfold Tm.part
  rw [Tm.endAt_front hx, List.drop_left, show pre.length + x.length - pre.length = x.length from by omega, List.take_left]
/-- What was made of it fits, by what made it. -/
theorem Tm.fit_made (p : List Int) (ss : List (List Int)) (hss : Terms ss) (hp : p.all Tm.known = true) : ∀ (n i : Nat) (m : Asg), p.length - i = n → i ≤ p.length → (∀ x z, m x = some z → z = Tm.piece ss x) →
    ∃ m', Tm.fitGo (Tm.applied ss p) (p.drop i) (Tm.applied ss (p.take i)).length m = some m' ∧ (∀ x z, m x = some z → m' x = some z) ∧ ∀ j, i ≤ j → j < p.length → p[j]?.getD 0 < 0 → m' (p[j]?.getD 0) = some (Tm.piece ss (p[j]?.getD 0)) := by
  intro n
  induction n with
  | zero =>
    intro i m hn hi hm
    obtain rfl : i = p.length := by omega
    rw [List.drop_length]
    exact ⟨m, rfl, fun _ _ h => h, fun j h1 h2 => by omega⟩
  | succ n ih =>
    intro i m hn hi hm
    have hlt : i < p.length := by omega
    have hkn : Tm.known p[i] = true := by rw [List.all_eq_true] at hp; exact hp _ (List.getElem_mem hlt)
    have hsp : Tm.applied ss p = Tm.applied ss (p.take i) ++ (Tm.piece ss p[i] ++ Tm.applied ss (p.drop (i + 1))) := by
      rw [Tm.applied_split ss p i, List.drop_eq_getElem_cons hlt, Tm.applied_cons]
    have htk : (Tm.applied ss (p.take (i + 1))).length = (Tm.applied ss (p.take i)).length + (Tm.piece ss p[i]).length := by
      rw [Tm.applied_snoc ss hlt, List.length_append]; simp [hlt]
    rw [List.drop_eq_getElem_cons hlt, Tm.fitGo]
    by_cases hs : p[i] < 0
    · have hr := Tm.err_run (Tm.piece_term hss (Tm.known_ge hkn) hs)
      rw [if_pos hs]
      have e1 : Tm.part (Tm.applied ss p) (Tm.applied ss (p.take i)).length = Tm.piece ss p[i] := by rw [hsp]; exact Tm.part_front hr
      have e2 : Tm.endAt (Tm.applied ss p) (Tm.applied ss (p.take i)).length = (Tm.applied ss (p.take (i + 1))).length := by rw [hsp, Tm.endAt_front hr, htk]
      rw [e1, e2, if_neg (by
        rintro ⟨h1, h2⟩
        obtain ⟨z, hz⟩ := Option.isSome_iff_exists.1 h1
        rw [hz, hm _ z hz] at h2
        exact h2 rfl)]
      obtain ⟨m', h1, h2, h3⟩ := ih (i + 1) (upd m p[i] (Tm.piece ss p[i])) (by omega) (by omega) (fun x z hx => by
        by_cases e : x = p[i]
        · subst e; rw [upd_same] at hx; cases hx; rfl
        · rw [upd_other _ _ e] at hx; exact hm x z hx)
      refine ⟨m', h1, fun x z hx => ?_, fun j hj1 hj2 hj3 => ?_⟩
      · by_cases e : x = p[i]
        · subst e; rw [h2 _ _ (upd_same _ _ _), hm _ z hx]
        · exact h2 x z (by rw [upd_other _ _ e]; exact hx)
      · by_cases e : j = i
        · subst e
          rw [show p[j]?.getD 0 = p[j] from by simp [hlt]]
          exact h2 _ _ (upd_same _ _ _)
        · exact h3 j (by omega) hj2 hj3
    · rw [if_neg hs]
      have hpc : Tm.piece ss p[i] = [p[i]] := Tm.piece_pos (by omega)
      have e1 : (Tm.applied ss p)[(Tm.applied ss (p.take i)).length]?.getD 0 = p[i] := by rw [hsp, hpc]; simp
      rw [if_pos e1]
      rw [hpc] at htk
      obtain ⟨m', h1, h2, h3⟩ := ih (i + 1) m (by omega) (by omega) hm
      rw [htk] at h1
      refine ⟨m', h1, h2, fun j hj1 hj2 hj3 => ?_⟩
      by_cases e : j = i
      · subst e
        rw [show p[j]?.getD 0 = p[j] from by simp [hlt]] at hj3
        exact absurd hj3 hs
      · exact h3 j (by omega) hj2 hj3

theorem Tm.subErr_none : Tm.subErr (Tm.noneL 8) = 0 := by decide +kernel
/-- Each term fits itself. -/
theorem Tm.fit_self {p : List Int} (hp : Tm.err p = 0) : Tm.fitErr p p = 0 ∧ Tm.fitIs p p = true := by
  obtain ⟨m', h1, _⟩ := Tm.fit_made p (Tm.noneL 8) (Terms.of Tm.subErr_none) (Tm.err_all hp) _ 0 (fun _ => none) rfl (by omega) (fun x z h => by cases h)
  rw [Tm.applied_none p (Tm.err_all hp)] at h1
  have he := Tm.fitErr_of hp hp
  exact ⟨he, (Tm.fit_yes he (by simpa [Tm.fit, Tm.applied] using h1)).1⟩
/-- What was made of it by any list fits. -/
theorem Tm.fit_of_made {p : List Int} {ss : List (List Int)} (hp : Tm.err p = 0) (hs : Tm.subErr ss = 0) (hl : (Tm.applied ss p).length ≤ 30) :
    Tm.fitErr p (Tm.applied ss p) = 0 ∧ Tm.fitIs p (Tm.applied ss p) = true ∧ (Tm.fitVal p (Tm.applied ss p)).length = 8 ∧ ∀ k, k < p.length → p[k]?.getD 0 < 0 → (Tm.fitVal p (Tm.applied ss p))[(-(p[k]?.getD 0) - 1).toNat]?.getD [] = ss[(-(p[k]?.getD 0) - 1).toNat]?.getD [] := by
  obtain ⟨m', h1, _, h3⟩ := Tm.fit_made p ss (Terms.of hs) (Tm.err_all hp) _ 0 (fun _ => none) rfl (by omega) (fun x z h => by cases h)
  have he := Tm.fitErr_of hp (Tm.err_applied (Terms.of hs) hp hl)
  obtain ⟨e1, e2⟩ := Tm.fit_yes he (m := m') (by simpa [Tm.fit, Tm.applied] using h1)
  refine ⟨he, e1, by rw [e2, Tm.fitL_length], fun k hk hneg => ?_⟩
  have hkn := Tm.known_ge (Tm.all_at (Tm.err_all hp) hk)
  have hm := h3 k (by omega) hk hneg
  generalize p[k]?.getD 0 = s at *
  have hpc := Tm.piece_fitL (m := m') hkn
  unfold Tm.found at hpc
  rw [if_pos hneg, hm, Option.getD_some] at hpc
  rw [e2]
  unfold Tm.piece at hpc
  rw [if_pos hneg, if_pos hneg] at hpc
  rw [show -s - 1 = -1 - s from by omega]
  exact hpc

end Go.Proofs.Ytjaikmlbajdedac

namespace Go.Proofs.Ytjaikmlbajdedac
open Go.Proofs Go.RowKit Go.Shelf

theorem Tm.fit_terms (p t : List Int) (ht : Tm.err t = 0) : ∀ (n i k : Nat) (m m' : Asg), p.length - i = n → i ≤ p.length → Against p t i k → (∀ x z, m x = some z → Tm.err z = 0) → Tm.fitGo t (p.drop i) k m = some m' → ∀ x z, m' x = some z → Tm.err z = 0 := by
  intro n
  induction n with
  | zero =>
    intro i k m m' hn hi ha hm h
    obtain rfl : i = p.length := by omega
    rw [List.drop_length, Tm.fitGo_nil] at h
    cases h
    exact hm
  | succ n ih =>
    intro i k m m' hn hi ha hm h
    have hlt : i < p.length := by omega
    have hk := ha.pos hlt
    rw [List.drop_eq_getElem_cons hlt, Tm.fitGo] at h
    by_cases hs : p[i] < 0
    · rw [if_pos hs] at h
      by_cases hc : (m p[i]).isSome = true ∧ m p[i] ≠ some (Tm.part t k)
      · rw [if_pos hc] at h; cases h
      · rw [if_neg hc] at h
        refine ih (i + 1) (Tm.endAt t k) _ m' (by omega) (by omega) (ha.var hlt (by simpa [hlt] using hs)) (fun x z hx => ?_) h
        by_cases e : x = p[i]
        · subst e; rw [upd_same] at hx; cases hx; exact Tm.part_err ht hk
        · rw [upd_other _ _ e] at hx; exact hm x z hx
    · rw [if_neg hs] at h
      by_cases hu : t[k]?.getD 0 = p[i]
      · rw [if_pos hu] at h
        exact ih (i + 1) (k + 1) m m' (by omega) (by omega) (ha.sym hlt (by simpa [hlt] using hu)) hm h
      · rw [if_neg hu] at h; cases h
theorem Tm.firstErr_zero : ∀ (l : List (List Int)), (∀ t ∈ l, Tm.err t = 0) → Tm.firstErr l = 0 := by
  intro l
  induction l with
  | nil => intro _; rfl
  | cons t l ih =>
    intro h
    unfold Tm.firstErr
    rw [if_pos (h t (by simp))]
    exact ih (fun x hx => h x (by simp [hx]))
theorem Tm.err_var (i : Nat) (h : i < 8) : Tm.err [-1 - (i : Int)] = 0 := by
  refine Tm.err_ok (by simp) ?_ ?_
  · simp [Tm.known]; omega
  · rw [show (1 : Nat) = 0 + 1 from rfl, Tm.run_cons, Tm.room_neg (by omega), Tm.run_zero]; rfl
theorem Tm.subErr_fitL {p t : List Int} {m : Asg} (hp : Tm.err p = 0) (ht : Tm.err t = 0) (h : Tm.fit p t = some m) : Tm.subErr (Tm.fitL m 8) = 0 := by
  have hm := Tm.fit_terms p t ht _ 0 0 (fun _ => none) m rfl (by omega) (Against.start hp ht) (fun x z hx => by cases hx) (by simpa [Tm.fit] using h)
  unfold Tm.subErr
  rw [if_pos (Tm.fitL_length _ _)]
  refine Tm.firstErr_zero _ fun x hx => ?_
  unfold Tm.fitL at hx
  rw [List.mem_map] at hx
  obtain ⟨i, hi, rfl⟩ := hx
  rw [List.mem_range] at hi
  rw [if_pos hi]
  cases e : m (-1 - (i : Int)) with
  | none => exact Tm.err_var i hi
  | some z => exact hm _ z e
/-- By what comes p becomes t, without an error. -/
theorem Tm.fit_apply {p t : List Int} {m : Asg} (hp : Tm.err p = 0) (ht : Tm.err t = 0) (h : Tm.fit p t = some m) : Tm.applyErr (Tm.fitL m 8) p = 0 ∧ Tm.applyVal (Tm.fitL m 8) p = t := by
  obtain ⟨e1, e2⟩ := Tm.apply_ok (Tm.subErr_fitL hp ht h) hp
  have hl := Tm.err_len ht
  rw [Tm.fit_makes hp ht h, if_neg (by omega)] at e1 e2
  exact ⟨e1, e2⟩
theorem Tm.apply_zero {ss : List (List Int)} {p : List Int} (h : Tm.applyErr ss p = 0) : Tm.subErr ss = 0 ∧ Tm.err p = 0 ∧ (Tm.applied ss p).length ≤ 30 ∧ Tm.applyVal ss p = Tm.applied ss p := by
  by_cases hs : Tm.subErr ss = 0
  · by_cases hp : Tm.err p = 0
    · obtain ⟨e1, e2⟩ := Tm.apply_ok hs hp
      rw [h] at e1
      by_cases hl : 30 < (Tm.applied ss p).length
      · rw [if_pos hl] at e1; omega
      · rw [if_neg hl] at e2; exact ⟨hs, hp, by omega, e2⟩
    · rw [(Tm.apply_t hs hp).1] at h; exact absurd h hp
  · rw [(Tm.apply_s hs).1] at h; exact absurd h hs

end Go.Proofs.Ytjaikmlbajdedac

namespace Go.Proofs.Ytjaikmlbajdedac
open Go.Proofs Go.RowKit Go.Shelf

set_option maxHeartbeats 400000 in
/-- A number below n. -/
theorem choose_any (c : Int) (n : Nat) (hc : (Lit.int .i64 c).wf = true) (h0 : 0 < n) (h1 : n ≤ 1000) (w : World) : Calls Try.prog 20 #[.int .i64 c, .int .i64 (n : Int)] w fun e w' => (∃ j : Nat, j < n ∧ e = .returned (.int .i64 (j : Int))) ∧ w' = w := by
  have hx : -9223372036854775808 ≤ c ∧ c ≤ 9223372036854775807 := by simpa [Lit.wf, IntKind.min, IntKind.max, IntKind.signed, IntKind.bits] using hc
  obtain ⟨hx1, hx2⟩ := hx
  clear hc
  have hn0 : (0 : Int) < (n : Int) := by omega
  have hn1 : (n : Int) ≤ 1000 := by omega
  have hnz : ((n : Int) == 0) = false := by simp; omega
  by_cases hneg : c < 0
  · go_enter Try.func20, Try.ntmps20
    go_wp2
    go_ret
    have hm := Int.emod_lt_of_pos (-(c + 1)) hn0
    have hm0 := Int.emod_nonneg (-(c + 1)) (b := (n : Int)) (by omega)
    refine ⟨⟨((-(c + 1)) % (n : Int)).toNat, by omega, ret_int ?_⟩, rfl⟩
    rw [Int.toNat_of_nonneg hm0, ← Int.neg_tmod, Int.tmod_eq_emod_of_nonneg (by omega)]
  · go_enter Try.func20, Try.ntmps20
    go_wp2
    go_ret
    have hm := Int.emod_lt_of_pos c hn0
    have hm0 := Int.emod_nonneg c (b := (n : Int)) (by omega)
    refine ⟨⟨(c % (n : Int)).toNat, by omega, ret_int ?_⟩, rfl⟩
    rw [Int.toNat_of_nonneg hm0]

end Go.Proofs.Ytjaikmlbajdedac

namespace Go.Proofs.Ytjaikmlbajdedac
open Go.Proofs Go.RowKit Go.Shelf

/-- How a round may be left; a panic goes up as it is. -/
def roundPostP (P : Program) (l : Nat) (R : Ending → World → Prop) : Exit → Act → World → Prop
  | .panic chain, a, w => a.defers = [] ∧ R (.panicked chain) w
  | e, a, w => roundPost P l R e a w

/-- One round out of its body's walk, a panic too. -/
theorem roundIn_panics {F : Fence} {n : Nat} {P : Program} {l : Nat} {f : FuncId} {tmps : Array Value} {assign body : Code} {w : World} {R : Ending → World → Prop} (hF : F.fn f) (hf : (∀ ch W, ¬ R (.panicked ch) W) ∨ ∃ fn, P.funcs[f]? = some fn)
    (h : assign.wpIn (F.inRound l) n P (Exit.then (fun a₁ w₁ => ∃ w₂, (Instr.beginRound l).run P w₁ = .ok () w₂ ∧ body.wpIn (F.inRound l) n P (roundPostP P l R) a₁ w₂) (fun _ _ _ => False)) { tmps := tmps, defers := [] } w) :
    RoundIn F n P l f tmps assign body w R := by
  refine ⟨hF, fun c cs hr => ?_⟩
  obtain ⟨b, hb⟩ : ∃ b : Frame, b = { (default : Frame) with fn := f, kind := .normal, roundOf := some l } := ⟨_, rfl⟩
  have hb0 : Frame.round l f tmps assign body .normal = b.atR { tmps := tmps, defers := [] } [.code assign, .beginRound, .code body] := by rw [hb]; simp [Frame.round, Frame.atR]
  have hbr : b.roundOf = some l := by rw [hb]
  have hbk : b.kind = .normal := by rw [hb]
  have hbf : b.fn = f := by rw [hb]
  have hr' : (F.inRound l).room ((c :: cs).length + 1 + n) := hr
  have hF' : (F.inRound l).fn b.fn := by rw [hbf]; exact hF
  obtain ⟨e, a₁, w₁, hq, harr⟩ := h b [.beginRound, .code body] (c :: cs) (by rw [hbr]; rfl) hF' hr'
  rw [← hb0] at harr
  cases e with
  | normal =>
    obtain ⟨w₂, hbeg, hbody⟩ := hq
    have s1 : StepsIn (Machine.fenced P (F.inRound l)) P (lone (b.atR a₁ [.beginRound, .code body]) (c :: cs) w₁) (lone (b.atR a₁ [.code body]) (c :: cs) w₂) :=
      .one (fenced_calm (fr := b.atR a₁ [.beginRound, .code body]) hF' hr' rfl) (stepR_beginRound hbr hbeg)
    obtain ⟨e₂, a₂, w₃, hq₂, harr₂⟩ := hbody b [] (c :: cs) (by rw [hbr]; rfl) hF' hr'
    have s2 := StepsIn.trans harr s1
    cases e₂ with
    | normal =>
      obtain ⟨v, w₄, hend, hR⟩ := hq₂
      exact ⟨.returned v, w₄, hR, s2.trans (StepsIn.trans harr₂ (.one (fenced_calm (fr := b.atR a₂ []) hF' hr' rfl) (stepR_round_end hbr hbk hend)))⟩
    | ret =>
      obtain ⟨v, w₄, hend, hR⟩ := hq₂
      obtain ⟨k₁, hs⟩ := harr₂.2 (by rw [hbr]; rfl)
      exact ⟨.returned v, w₄, hR, s2.trans (StepsIn.trans hs (.one (fenced_calm (fr := b.atR a₂ (.code .ret :: k₁)) hF' hr' rfl) (stepR_round_ret hbr hbk hend)))⟩
    | exit id =>
      obtain ⟨v, w₄, hend, hR⟩ := hq₂
      obtain ⟨k₁, hk, hs⟩ := harr₂.2 (by rw [hbr]; rfl) rfl
      exact ⟨.returned v, w₄, hR, s2.trans (StepsIn.trans hs (.one (fenced_calm (fr := b.atR a₂ (.code (.exit id) :: k₁)) hF' hr' rfl) (stepR_round_exit hbr hbk hk hend)))⟩
    | goto t =>
      obtain ⟨v, w₄, hend, hR⟩ := hq₂
      obtain ⟨k₁, hk, hs⟩ := harr₂.2 (by rw [hbr]; rfl) rfl
      exact ⟨.returned v, w₄, hR, s2.trans (StepsIn.trans hs (.one (fenced_calm (fr := b.atR a₂ (.code (.goto t) :: k₁)) hF' hr' rfl) (stepR_round_goto hbr hbk hk hend)))⟩
    | panic chain =>
      obtain ⟨hd, hR⟩ := hq₂
      obtain ⟨todo, hs⟩ := harr₂
      have hf' := hf.resolve_left (fun h => h _ _ hR)
      have hl : ({ b.atR a₂ todo with mode := .panicking chain } : Frame).leaving P w₃ (.panicked chain) := ⟨rfl, hd, by rw [← hbf] at hf'; exact hf'⟩
      exact ⟨.panicked chain, w₃, hR, s2.trans (StepsIn.trans hs (.one (fenced_leaving (F := F.inRound l) hF' hr' hl) (step_leave_panicked hl)))⟩
    | outgrown => exact hq₂.elim
  | exit id => exact hq.elim
  | goto t => exact hq.elim
  | ret => exact hq.elim
  | panic chain => exact hq.elim
  | outgrown => exact hq.elim

end Go.Proofs.Ytjaikmlbajdedac

namespace Go.Proofs.Ytjaikmlbajdedac
open Go.Proofs Go.RowKit Go.Shelf

/-- THE ITERATOR GIVES encs 0, encs 1, .. up to r, as long as what it reads ('rd') stands. -/
def SeqSteps (F : Fence) (n : Nat) (P : Program) (g : Nat) (lb : Array Value) (encs : Nat → Array Value) (r : Nat) (rd : World → Prop) : Prop :=
  ∀ (l : Nat) (J : Nat → World → Prop) (Jx : World → Prop) (Jp : List PanicEntry → World → Prop) (W : World), AbidesFrom W.heap.size J → (∀ i W, J i W → rd W) →
    (∀ i W1, J i W1 → i < r → YieldAt F (n - 1) P l (encs i) W1 fun e W' => (e = .returned (.bool true) ∧ J (i + 1) W') ∨ (e = .returned (.bool false) ∧ Jx W') ∨ ∃ ch, e = .panicked ch ∧ Jp ch W') →
    J 0 W → CallsIn F n P g (#[.func (.yield l) #[] #[]] ++ lb) W fun e W' => ((∃ v, e = .returned v) ∧ (J r W' ∨ Jx W')) ∨ ∃ ch, e = .panicked ch ∧ Jp ch W'

/-- How the body of a round may be left. -/
def stepPost (B : Nat) (I : Nat → World → Prop) (Ix : Code → World → Prop) (Ip : List PanicEntry → World → Prop) (i : Nat) (W : World) : Exit → Act → World → Prop
  | .normal, _, W' => KeepsFrom B W W' ∧ I i W'
  | .ret, _, W' => KeepsFrom B W W' ∧ Ix .ret W'
  | .exit id, _, W' => KeepsFrom B W W' ∧ Ix (.exit id) W'
  | .goto t, _, W' => KeepsFrom B W W' ∧ Ix (.goto t) W'
  | .panic ch, a, W' => a.defers = [] ∧ KeepsFrom B W W' ∧ Ip ch W'
  | .outgrown, _, _ => False

theorem wpIn_rangeSteps {F : Fence} {n : Nat} {P : Program} {g : Operand} {ps : Array Tmp} {assign body : Code} {Q : Exit → Act → World → Prop} {a : Act} {w : World}
    (hro : F.round = none) (h1 : 1 ≤ n) {gf : Nat} {lb : Array Value} (hg : a.eval g = .func (.func gf) #[] lb) (hFg : F.fn gf) (eg : ∀ args w, (callFunc gf args).run P w = .ok (.enter gf args) w)     {encs : Nat → Array Value} {r : Nat} {rd : World → Prop} (hseq : SeqSteps F (n - 1) P gf lb encs r rd) (hps : ∀ i, (encs i).size = ps.size)
    (I : Nat → World → Prop) (Ix : Code → World → Prop) (Ip : List PanicEntry → World → Prop) (hfs : (∀ ch W, ¬ Ip ch W) ∨ ∀ fn, F.fn fn → ∃ f, P.funcs[fn]? = some f) (hI : OwnFrom w.heap.size I) (hIx : OwnFrom w.heap.size Ix) (hrd : ∀ i W, I i W → rd W) (h0 : I 0 w) (a₁ : Nat → Act)
    (hassign : ∀ (l i : Nat) (W : World) (K : Act → World → Prop), K (a₁ i) W →
      assign.wpIn (F.inRound l) (n - 1 - 1) P (Exit.then K (fun _ _ _ => False)) { tmps := (ps.zip (encs i)).foldl (fun t (p, v) => t.setIfInBounds p v) a.tmps, defers := [] } W)
    (hbody : ∀ (l i : Nat) (W : World), I i W → i < r → body.wpIn (F.inRound l) (n - 1 - 1) P (stepPost w.heap.size I Ix Ip (i + 1) W) (a₁ i) W)
    (hdone : ∀ (D : Nat) (W : World), w.heap.size ≤ D → I r W → W.heap[D]? = some (.deferred (some [])) → Q .normal { a with defers := { target := .collected D, args := #[] } :: a.defers } W)
    (hstop : ∀ (D : Nat) (c : Code) (W : World), w.heap.size ≤ D → Ix c W → W.heap[D]? = some (.deferred (some [])) → c.wpIn F n P Q { a with defers := { target := .collected D, args := #[] } :: a.defers } W)
    (hpanic : ∀ (D : Nat) (ch : List PanicEntry) (W : World), w.heap.size ≤ D → Ip ch W → W.heap[D]? = some (.deferred (some [])) → Q (.panic ch) { a with defers := { target := .collected D, args := #[] } :: a.defers } W) :
    (Code.rangeFunc g ps assign body).wpIn F n P Q a w := by
  refine wpIn_rangeFunc fun fn hfn => ?_
  rw [hro]
  obtain ⟨rec, hrec⟩ : ∃ rec : LoopState → Option Code → Loop, rec = fun st pe => { state := st, pending := pe, fn, tmps := a.tmps, params := ps, assign, body, defers := w.heap.size } := ⟨_, rfl⟩
  obtain ⟨W1, hW1⟩ : ∃ W1, (w.alloc (.deferred (some []))).alloc (.loop (rec .ready none)) = W1 := ⟨_, rfl⟩
  have hL1 : W1.heap[w.heap.size + 1]? = some (.loop (rec .ready none)) := by
    have := World.alloc_heap_new (w.alloc (.deferred (some []))) (.loop (rec .ready none))
    rw [World.size_alloc, hW1] at this
    exact this
  have hD1 : W1.heap[w.heap.size]? = some (.deferred (some [])) := by rw [← hW1]; exact (Below.heap_alloc _ _ _ (by simp)).trans (World.alloc_heap_new w _)
  have hS1 : w.heap.size ≤ W1.heap.size := by rw [← hW1]; simp; omega
  have hI1 : I 0 W1 := by rw [← hW1]; exact hI.alloc _ (hI.alloc _ h0)
  refine ⟨w.heap.size + 1, [{ target := .collected w.heap.size, args := #[] }], W1, { target := .fn (.func gf) lb, args := #[.func (.yield (w.heap.size + 1)) #[] #[]] }, W1, gf, #[.func (.yield (w.heap.size + 1)) #[] #[]] ++ lb, W1,
    by rw [← hW1, hrec]; exact run_enterLoop_outer _ _ _ _ _, by simp only [resolve, hg]; simp [go_sem], fun f' hf' => by simp [Target.leads] at hf'; subst hf'; exact hFg, by simp [invoke, go_sem, eg], fun _ => h1, ?_⟩
  have hcells : ∀ {A : World} {row : Option Nat}, (∀ r, row = some r → W1.heap.size ≤ r ∧ ∃ o : Obj, A.heap[r]? = some o ∧ o.isWalk = true) → ∀ r, row = some r → w.heap.size ≤ r ∧ ∃ o : Obj, A.heap[r]? = some o ∧ o.isCells = false := fun hr q e => by
    obtain ⟨hB, o, ho, hw⟩ := hr q e
    exact ⟨by omega, o, ho, Obj.not_cells_of_walk hw⟩
  refine (hseq (w.heap.size + 1) (fun i W => I i W ∧ W.heap[w.heap.size + 1]? = some (.loop (rec .ready none)) ∧ W.heap[w.heap.size]? = some (.deferred (some [])))
    (fun W => ∃ c, Ix c W ∧ W.heap[w.heap.size + 1]? = some (.loop (rec .done (some c))) ∧ W.heap[w.heap.size]? = some (.deferred (some [])))
    (fun ch W => Ip ch W ∧ W.heap[w.heap.size]? = some (.deferred (some []))) W1
    (fun i A B row hs hgr hr => ⟨hI i A B row hs.1 hgr (hcells hr), (grownBy_keeps hgr (fun q e => (hr q e).2) hs.2.1 rfl).trans hs.2.1, (grownBy_keeps hgr (fun q e => (hr q e).2) hs.2.2 rfl).trans hs.2.2⟩)
    (fun i W h => hrd i W h.1) ?_ ⟨hI1, hL1, hD1⟩).mono ?_
  · rintro i W ⟨hi, hl, hk⟩ hlen
    have hlt : w.heap.size + 1 < W.heap.size := (Array.getElem?_eq_some_iff.1 hl).1
    have hy := run_yield (P := P) (args := encs i) hl (by rw [hrec]; exact hps i)
    rw [hrec] at hy
    refine ⟨fn, _, assign, body, hy, roundIn_panics hfn (hfs.elim (fun h => .inl fun ch W hr => by rcases hr with ⟨e, _⟩ | ⟨e, _⟩ | ⟨c, _, hp, _⟩ <;> first | cases e | exact h _ _ hp) (fun h => .inr (h fn hfn))) (hassign _ i W _ ⟨_, run_beginRound hl (by rw [hrec]), ?_⟩)⟩
    obtain ⟨W2, hW2⟩ : ∃ W2, W.putObj (w.heap.size + 1) (.loop { rec .ready none with state := .busy }) = W2 := ⟨_, rfl⟩
    have hl2 : W2.heap[w.heap.size + 1]? = some (.loop { rec .ready none with state := .busy }) := by rw [← hW2]; exact World.putObj_heap_same hlt
    have hk2 : W2.heap[w.heap.size]? = some (.deferred (some [])) := by rw [← hW2]; exact (World.putObj_heap_other (by omega)).trans hk
    have hi2 : I i W2 := by rw [← hW2]; exact hI.putObj _ hi (by omega) hl rfl
    have hgo : (W.putObj (w.heap.size + 1) (.loop { rec .ready none with state := .busy })) = W2 := hW2
    rw [hgo]
    refine wpIn_mono (hbody _ i W2 hi2 hlen) ?_
    have fin : ∀ (jump : Option Code) (W3 : World), KeepsFrom w.heap.size W2 W3 →
        (Instr.endRound (w.heap.size + 1) jump).run P W3 = .ok (.bool jump.isNone) (W3.putObj (w.heap.size + 1) (.loop (rec (if jump.isNone then .ready else .done) jump))) ∧
        W3.heap[w.heap.size + 1]? = some (.loop { rec .ready none with state := .busy }) ∧
        (W3.putObj (w.heap.size + 1) (.loop (rec (if jump.isNone then .ready else .done) jump))).heap[w.heap.size + 1]? = some (.loop (rec (if jump.isNone then .ready else .done) jump)) ∧
        (W3.putObj (w.heap.size + 1) (.loop (rec (if jump.isNone then .ready else .done) jump))).heap[w.heap.size]? = some (.deferred (some [])) := fun jump W3 hk3 => by
      have hl3 := hk3.same _ _ (by omega) hl2 rfl
      have hend := run_endRound (P := P) jump hl3
      have hk4 := (World.putObj_heap_other (w := W3) (o := .loop (rec (if jump.isNone then .ready else .done) jump)) (show w.heap.size ≠ w.heap.size + 1 by omega)).trans (hk3.same _ _ (Nat.le_refl _) hk2 rfl)
      refine ⟨?_, hl3, World.putObj_heap_same (Array.getElem?_eq_some_iff.1 hl3).1, hk4⟩
      rw [hrec] at hend ⊢
      exact hend
    intro e a3 W3 hp
    cases e with
    | normal =>
      obtain ⟨hr, hl3, hl4, hk4⟩ := fin none W3 hp.1
      exact ⟨_, _, hr, .inl ⟨rfl, hI.putObj _ hp.2 (by omega) hl3 rfl, hl4, hk4⟩⟩
    | ret =>
      obtain ⟨hr, hl3, hl4, hk4⟩ := fin (some .ret) W3 hp.1
      exact ⟨_, _, hr, .inr (.inl ⟨rfl, _, hIx.putObj _ hp.2 (by omega) hl3 rfl, hl4, hk4⟩)⟩
    | exit id =>
      obtain ⟨hr, hl3, hl4, hk4⟩ := fin (some (.exit id)) W3 hp.1
      exact ⟨_, _, hr, .inr (.inl ⟨rfl, _, hIx.putObj _ hp.2 (by omega) hl3 rfl, hl4, hk4⟩)⟩
    | goto t =>
      obtain ⟨hr, hl3, hl4, hk4⟩ := fin (some (.goto t)) W3 hp.1
      exact ⟨_, _, hr, .inr (.inl ⟨rfl, _, hIx.putObj _ hp.2 (by omega) hl3 rfl, hl4, hk4⟩)⟩
    | panic ch => exact ⟨hp.1, .inr (.inr ⟨ch, rfl, hp.2.2, hp.2.1.same _ _ (Nat.le_refl _) hk2 rfl⟩)⟩
    | outgrown => exact hp.elim
  · rintro e W2 (⟨⟨v, rfl⟩, (⟨hi, hl, hk⟩ | ⟨c, hi, hl, hk⟩)⟩ | ⟨ch, rfl, hi, hk⟩)
    · refine ⟨none, _, by have := run_endLoop (P := P) hl (by rw [hrec]; simp); rw [hrec] at this; exact this, hdone _ _ (Nat.le_refl _) (hI.putObj _ hi (by omega) hl rfl) ((World.putObj_heap_other (by omega)).trans hk)⟩
    · refine ⟨some c, _, by have := run_endLoop (P := P) hl (by rw [hrec]; simp); rw [hrec] at this; exact this, hstop _ c _ (Nat.le_refl _) (hIx.putObj _ hi (by omega) hl rfl) ((World.putObj_heap_other (by omega)).trans hk)⟩
    · exact hpanic _ ch _ (Nat.le_refl _) hi hk

end Go.Proofs.Ytjaikmlbajdedac

namespace Go.Proofs.Ytjaikmlbajdedac
open Go.Proofs Go.RowKit Go.Shelf

attribute [local go_sem] Oper.semAt_some

/-- The fence of all functions that there are. -/
def Fx : Fence := { fn := fun f => ∃ fn, Try.prog.funcs[f]? = some fn, depth := none, alive := false }
/-- A fence that bars nothing. -/
def Pl (F : Fence) : Prop := F.round = none ∧ (∀ f fn, Try.prog.funcs[f]? = some fn → F.fn f) ∧ F.depth = none
theorem fx_pl : Pl Fx := ⟨rfl, fun _ fn h => ⟨fn, h⟩, rfl⟩
theorem wide_pl : Pl Fence.wide := ⟨rfl, fun _ _ _ => trivial, rfl⟩
theorem fx_all : ∀ fn, Fx.fn fn → ∃ f, Try.prog.funcs[fn]? = some f := fun _ h => h
theorem fx_facts {F : Fence} (hF : Pl F) : F.round = none ∧ (∀ f fn, Try.prog.funcs[f]? = some fn → F.fn f) ∧ ∀ k : Nat, (F.depth.isSome = true → 1 ≤ k) := by
  obtain ⟨h1, h2, h3⟩ := hF
  exact ⟨h1, h2, fun k h => by rw [h3] at h; simp at h⟩
theorem fx_calls {n : Nat} {f : FuncId} {args : Array Value} {w : World} {R : Ending → World → Prop} (h : CallsIn Fx n Try.prog f args w R) : Calls Try.prog f args w R := h.calls (fun k d hd => by simp [Fx] at hd)

set_option maxHeartbeats 400000 in
theorem room_in (F : Fence) (hF : Pl F) (n : Nat) (s : Int) (w : World) : CallsIn F n Try.prog 94 #[.int .i64 s] w fun e w' => e = .returned (.int .i64 (Tm.room s : Int)) ∧ w' = w := by
  obtain ⟨hro, hfn, hdd⟩ := fx_facts hF
  have hf := hfn _ _ Try.func94
  clear hF hfn
  by_cases h2 : s = 2
  · subst h2; refine callsIn_of_wp Try.func94 rfl hf ?_ hro; simp only [Try.ntmps94, List.size_toArray, List.length_cons, List.length_nil, Nat.reduceAdd, Nat.reduceSub, Array.replicate_succ, Array.replicate_zero, List.push_toArray, List.append_toArray, List.nil_append, List.cons_append]; gi_wp2; go_ret; exact ⟨rfl, rfl⟩
  by_cases h3 : s = 3
  · subst h3; refine callsIn_of_wp Try.func94 rfl hf ?_ hro; simp only [Try.ntmps94, List.size_toArray, List.length_cons, List.length_nil, Nat.reduceAdd, Nat.reduceSub, Array.replicate_succ, Array.replicate_zero, List.push_toArray, List.append_toArray, List.nil_append, List.cons_append]; gi_wp2; go_ret; exact ⟨rfl, rfl⟩
  by_cases h4 : s = 4
  · subst h4; refine callsIn_of_wp Try.func94 rfl hf ?_ hro; simp only [Try.ntmps94, List.size_toArray, List.length_cons, List.length_nil, Nat.reduceAdd, Nat.reduceSub, Array.replicate_succ, Array.replicate_zero, List.push_toArray, List.append_toArray, List.nil_append, List.cons_append]; gi_wp2; go_ret; exact ⟨rfl, rfl⟩
  by_cases h5 : s = 5
  · subst h5; refine callsIn_of_wp Try.func94 rfl hf ?_ hro; simp only [Try.ntmps94, List.size_toArray, List.length_cons, List.length_nil, Nat.reduceAdd, Nat.reduceSub, Array.replicate_succ, Array.replicate_zero, List.push_toArray, List.append_toArray, List.nil_append, List.cons_append]; gi_wp2; go_ret; exact ⟨rfl, rfl⟩
  have e : Tm.room s = 0 := by simp [Tm.room, h2, h3, h4, h5]
  have b2 : (s == 2) = false := by simp [h2]
  have b3 : (s == 3) = false := by simp [h3]
  have b4 : (s == 4) = false := by simp [h4]
  have b5 : (s == 5) = false := by simp [h5]
  clear h2 h3 h4 h5
  rw [e]
  clear e
  refine callsIn_of_wp Try.func94 rfl hf ?_ hro; simp only [Try.ntmps94, List.size_toArray, List.length_cons, List.length_nil, Nat.reduceAdd, Nat.reduceSub, Array.replicate_succ, Array.replicate_zero, List.push_toArray, List.append_toArray, List.nil_append, List.cons_append]
  gi_wp2
  go_ret
  exact ⟨rfl, rfl⟩

set_option maxHeartbeats 400000 in
theorem partsx_in (F : Fence) (hF : Pl F) (n : Nat) (a : Option Addr) (len cap : Nat) (k : Int) (w : World) :
    CallsIn F n Try.prog 70 #[.slice a len cap, .int .i64 k] w fun e w' => e = .returned (.func (.func 93) #[] #[.pointer (some ⟨w.heap.size + 1, 0, none⟩), .pointer (some ⟨w.heap.size, 0, none⟩)]) ∧
      w' = (w.alloc (.cells #[.slice a len cap] 23)).alloc (.cells #[.int .i64 k] 3) := by
  obtain ⟨hro, hfn, hdd⟩ := fx_facts hF
  have hf := hfn _ _ Try.func70
  clear hF hfn
  refine callsIn_of_wp Try.func70 rfl hf ?_ hro
  simp only [Try.ntmps70, List.size_toArray, List.length_cons, List.length_nil, Nat.reduceAdd, Nat.reduceSub, Array.replicate_succ, Array.replicate_zero, List.push_toArray, List.append_toArray, List.nil_append, List.cons_append]
  gi_wp2
  go_ret
  exact ⟨rfl, rfl⟩

def encPart (zs : List Int) (k i : Nat) : Array Value := #[.int .i64 (Tm.pos zs k i : Int), .int .i64 (Tm.pos zs k (i + 1) : Int)]
/-- What the iterator reads. -/
def PartsRd (Bk Bt k cap : Nat) (a : Option Addr) (zs : List Int) (W : World) : Prop := W.cell? ⟨Bk, 0, none⟩ = some (.int .i64 (k : Int)) ∧ W.cell? ⟨Bt, 0, none⟩ = some (.slice a zs.length cap) ∧ Ints W.heap.size W a zs

/-- signs.End at places beyond k. -/
def EndsBeyond (F : Fence) (a : Option Addr) (cap : Nat) (zs : List Int) (k : Nat) : Prop :=
  ∀ (n p : Nat) (W : World), k < p → p ≤ 20000 → Ints W.heap.size W a zs → CallsIn F n Try.prog 45 #[.slice a zs.length cap, .int .i64 (p : Int)] W fun e W' => e = .returned (.int .i64 (Tm.endAt zs p : Int)) ∧ Below W.heap.size W W'

set_option maxRecDepth 100000 in
set_option maxHeartbeats 1000000 in
theorem parts_steps (F : Fence) (hF : Pl F) (n Bk Bt k cap : Nat) (a : Option Addr) (zs : List Int) (hlen : zs.length ≤ 5000) (hk : k < zs.length) (hE : EndsBeyond F a cap zs k) :
    SeqSteps F n Try.prog 93 #[.pointer (some ⟨Bk, 0, none⟩), .pointer (some ⟨Bt, 0, none⟩)] (encPart zs k) (Tm.room (zs[k]?.getD 0)) (PartsRd Bk Bt k cap a zs) := by
  intro l J Jx Jp W hJ hR hY h0
  obtain ⟨hro, hfn, hdd⟩ := fx_facts hF
  have hroom : ∀ n W, CallsIn F n Try.prog 94 #[.int .i64 (zs[k]?.getD 0)] W fun e w' => e = .returned (.int .i64 (Tm.room (zs[k]?.getD 0) : Int)) ∧ w' = W := fun n W => room_in F hF n _ W
  clear hF
  have hf55 := hfn _ _ Try.func93
  have hf56 := hfn _ _ Try.func94
  have hf32 := hfn _ _ Try.func45
  have hr2 := Tm.room_le (zs[k]?.getD 0)
  obtain ⟨hbk, hbt, hI⟩ := hR 0 W h0
  obtain ⟨b, off, rfl, hb, hc⟩ := hI.at (by omega)
  have hck := hc k hk
  have hkl : (k : Int) < (zs.length : Int) := by omega
  have hl5 : (zs.length : Int) ≤ 5000 := by omega
  generalize hrdef : Tm.room (zs[k]?.getD 0) = r at *
  clear hrdef
  generalize zs[k]?.getD 0 = s at *
  have HY := hid hY
  have HE := hid hE
  have HRm := hid hroom
  have HR := hid hR
  clear hY hE hc hI hroom hR
  refine callsIn_of_wp Try.func93 rfl hf55 ?_ hro
  simp only [Try.ntmps93, List.size_toArray, List.length_cons, List.length_nil, Nat.reduceAdd, Nat.reduceSub, Array.replicate_succ, Array.replicate_zero, List.push_toArray, List.append_toArray, List.nil_append, List.cons_append]
  gi_wp2_with ((try refine ⟨hdd _, ?_⟩); gi_at_call 94; refine (HRm.out _ _).mono ?_; rintro e W ⟨rfl, rfl⟩)
  gi_loopw [4, 13] (fun p i wr => ∃ m : Nat, m ≤ r ∧ i = .int .i64 (m : Int) ∧ p = .int .i64 (Tm.pos zs k m : Int) ∧ J m wr)
    (fun _ i _ => r - (intOf i).toNat)
  case atStart => exact ⟨0, Nat.zero_le _, rfl, by rw [Tm.pos_zero]; rfl, h0⟩
  case round =>
    obtain ⟨m, hm, rfl, rfl, hJs⟩ := hrel
    obtain ⟨_, hbt', hI'⟩ := HR.out m wr hJs
    by_cases hlt : m < r
    · have hlt' : (m : Int) < (r : Int) := by omega
      have h1' := (HE.out (n - 1) (Tm.pos zs k m) wr (Tm.pos_gt _ _ _) (by have := Tm.pos_le zs k m; omega) hI').mono (R' := fun e W1 => e = .returned (.int .i64 (Tm.pos zs k (m + 1) : Int)) ∧ YieldAt F (n - 1) Try.prog l #[.int .i64 (Tm.pos zs k m : Int), .int .i64 (Tm.pos zs k (m + 1) : Int)] W1 fun e W' =>
          (e = .returned (.bool true) ∧ J (m + 1) W') ∨ (e = .returned (.bool false) ∧ Jx W') ∨ ∃ ch, e = .panicked ch ∧ Jp ch W')
        (fun e W1 ⟨he, hB⟩ => ⟨by rw [Tm.pos_succ]; exact he, by
          have hJ1 := hJ _ _ _ none hJs (grown_of_below hB) (fun r e => by cases e)
          refine YieldAt.mono (HY.out m W1 hJ1 hlt) fun e W2 h => ?_
          exact h⟩)
      gi_wp2_with (first
        | ((try refine ⟨hdd _, ?_⟩); gi_at_call 45; refine h1'.mono ?_; clear h1'; rintro e W1 ⟨rfl, fn, tmps, assign, body, hy, hR⟩)
        | ((try refine ⟨hdd _, ?_⟩); refine hR.mono ?_; clear hR; rintro e W2 (⟨rfl, hJ2⟩ | ⟨rfl, hx2⟩ | ⟨ch, rfl, hp2⟩)))
      · exact ⟨⟨m + 1, by omega, by go_num, rfl, hJ2⟩, by simp [intOf]; omega⟩
      · refine bodyPost_ret (results_none rfl _ _ _) rfl ?_
        exact .inl ⟨⟨_, rfl⟩, .inr hx2⟩
      · exact ⟨rfl, .inr ⟨ch, rfl, hp2⟩⟩
    · obtain rfl : m = r := by omega
      have hlt' : ¬ (m : Int) < (m : Int) := by omega
      gi_wp2
      go_end0
      exact .inl ⟨⟨_, rfl⟩, .inl hJs⟩

end Go.Proofs.Ytjaikmlbajdedac

namespace Go.Proofs.Ytjaikmlbajdedac
open Go.Proofs Go.RowKit Go.Shelf

attribute [local go_sem] Oper.semAt_some

set_option maxHeartbeats 400000 in
theorem endx_out (F : Fence) (hF : Pl F) (n : Nat) (a : Option Addr) (len cap k : Nat) (w : World) (hk : len ≤ k) (hk2 : k ≤ 20000) :
    CallsIn F n Try.prog 45 #[.slice a len cap, .int .i64 (k : Int)] w fun e w' => e = .returned (.int .i64 ((k : Int) + 1)) ∧ Below w.heap.size w w' := by
  have h1 : (len : Int) ≤ (k : Int) := by omega
  have h2 : (k : Int) ≤ 20000 := by omega
  have h3 : (0 : Int) ≤ (k : Int) := by omega
  obtain ⟨hro, hfn, hdd⟩ := fx_facts hF
  have hf := hfn _ _ Try.func45
  clear hF hfn
  refine callsIn_of_wp Try.func45 rfl hf ?_ hro
  simp only [Try.ntmps45, List.size_toArray, List.length_cons, List.length_nil, Nat.reduceAdd, Nat.reduceSub, Array.replicate_succ, Array.replicate_zero, List.push_toArray, List.append_toArray, List.nil_append, List.cons_append]
  gi_wp2
  go_ret
  exact ⟨rfl, (Below.refl _ _).alloc (Nat.le_refl _) _⟩

theorem partsRd_of {Bk Bt k cap : Nat} {a : Option Addr} {zs : List Int} {w W : World} (hk : Boxed W Bk 3 (.int .i64 (k : Int))) (ht : Boxed W Bt 23 (.slice a zs.length cap)) (hI : Ints w.heap.size w a zs) (hB : Below w.heap.size w W) : PartsRd Bk Bt k cap a zs W :=
  ⟨hk.cell, ht.cell, (hI.below hB).mono hB.size⟩

set_option maxRecDepth 100000 in
set_option maxHeartbeats 1000000 in
theorem endx_step (F : Fence) (hF : Pl F) (n : Nat) (a : Option Addr) (cap k : Nat) (zs : List Int) (w : World) (hn : 3 ≤ n) (hlen : zs.length ≤ 5000) (hk : k < zs.length) (hI : Ints w.heap.size w a zs) (hE : EndsBeyond F a cap zs k) :
    CallsIn F n Try.prog 45 #[.slice a zs.length cap, .int .i64 (k : Int)] w fun e w' => e = .returned (.int .i64 (Tm.endAt zs k : Int)) ∧ Below w.heap.size w w' := by
  obtain ⟨hro, hfn, hdd⟩ := fx_facts hF
  have HF : Hid (Pl F) := hF
  have HE := hid hE
  clear hF hE
  have hf32 := hfn _ _ Try.func45
  have hf49 := hfn _ _ Try.func70
  have hf55 := hfn _ _ Try.func93
  clear hfn
  have hlt : (k : Int) < (zs.length : Int) := by omega
  have h30 : (zs.length : Int) ≤ 5000 := by omega
  have hk0 : (0 : Int) ≤ (k : Int) := by omega
  rw [Tm.endAt_in zs k hk]
  refine callsIn_of_wp_marks Try.func45 rfl hf32 ?_ hro
  simp only [Try.ntmps45, List.size_toArray, List.length_cons, List.length_nil, Nat.reduceAdd, Nat.reduceSub, Array.replicate_succ, Array.replicate_zero, List.push_toArray, List.append_toArray, List.nil_append, List.cons_append]
  gi_wp2_with ((try refine ⟨hdd _, ?_⟩); gi_at_call 70; refine (partsx_in F HF.out _ _ _ _ _ _).mono ?_; rintro e w' ⟨rfl, rfl⟩)
  have bE := ((Boxed.new w 3 (.int .i64 ((k : Int) + 1))).alloc (.cells #[.slice a zs.length cap] 23)).alloc (.cells #[.int .i64 (k : Int)] 3)
  have bT := (Boxed.new (w.alloc (.cells #[.int .i64 ((k : Int) + 1)] 3)) 23 (.slice a zs.length cap)).alloc (.cells #[.int .i64 (k : Int)] 3)
  have bK := Boxed.new ((w.alloc (.cells #[.int .i64 ((k : Int) + 1)] 3)).alloc (.cells #[.slice a zs.length cap] 23)) 3 (.int .i64 (k : Int))
  rw [World.size_alloc] at bT
  rw [World.size_alloc, World.size_alloc] at bK
  have hB0 : Below w.heap.size w (((w.alloc (.cells #[.int .i64 ((k : Int) + 1)] 3)).alloc (.cells #[.slice a zs.length cap] 23)).alloc (.cells #[.int .i64 (k : Int)] 3)) := (((Below.refl _ w).alloc (Nat.le_refl _) _).alloc (by simp) _).alloc (by simp; omega) _
  refine wpIn_rangeSteps hro (by omega) (gf := 93) (lb := #[.pointer (some ⟨w.heap.size + 1 + 1, 0, none⟩), .pointer (some ⟨w.heap.size + 1, 0, none⟩)]) rfl hf55 (enters_of Try.func93 (by kernel_rfl) rfl)
    (parts_steps F HF.out _ (w.heap.size + 1 + 1) (w.heap.size + 1) k cap a zs hlen hk HE.out) (fun _ => rfl)
    (fun i W => Boxed W w.heap.size 3 (.int .i64 (Tm.pos zs k i : Int)) ∧ Boxed W (w.heap.size + 1 + 1) 3 (.int .i64 (k : Int)) ∧ Boxed W (w.heap.size + 1) 23 (.slice a zs.length cap) ∧ Below w.heap.size w W)
    (fun _ _ => False) (fun _ _ => False) (.inl fun _ _ h => h)
    (OwnFrom.and ((boxed_own w.heap.size 3 (fun i => .int .i64 (Tm.pos zs k i : Int))).from _) (OwnFrom.and ((boxed_own (w.heap.size + 1 + 1) 3 (fun _ => .int .i64 (k : Int))).from _) (OwnFrom.and ((boxed_own (w.heap.size + 1) 23 (fun _ => .slice a zs.length cap)).from _) (ownFrom_below (Nat.le_refl _) (by simp; omega)))))
    (fun _ _ _ _ h _ _ => h)
    (fun i W h => partsRd_of h.2.1 h.2.2.1 hI h.2.2.2)
    ⟨by rw [Tm.pos_zero]; exact bE, bK, bT, hB0⟩
    (fun i => { tmps := #[.slice a zs.length cap, .int .i64 (k : Int), undef, undef, .int .i64 0, .pointer (some ⟨w.heap.size, 0, none⟩), undef, .int .i64 (Tm.pos zs k (i + 1) : Int), .int .i64 (k : Int), .int .i64 ((k : Int) + 1), .int .i64 (k : Int), .slice a zs.length cap,
      .int .i64 (zs.length : Int), .bool false, undef, .slice a zs.length cap, .int .i64 (k : Int), .func (.func 93) #[] #[.pointer (some ⟨w.heap.size + 1 + 1, 0, none⟩), .pointer (some ⟨w.heap.size + 1, 0, none⟩)], .int .i64 (Tm.pos zs k i : Int), .int .i64 (Tm.pos zs k (i + 1) : Int), undef, undef], defers := [] }) ?assign ?body ?done ?stop ?panic
  case assign =>
    intro l i W K hK
    simp only [encPart]
    gi_wp2
    exact hK
  case body =>
    rintro l i W ⟨hE, hK, hT, hB⟩ _
    have hc := hE.cell
    have hf := hE.frozen
    gi_wp2
    exact ⟨(KeepsOthers.setCell _ _ _).from _, hE.set _, hK.other (by omega) _, hT.other (by omega) _, hB.setCell (p := ⟨w.heap.size, 0, none⟩) (Nat.le_refl _) _⟩
  case done =>
    rintro D W hD ⟨hE, _, _, hB⟩ hK
    have hc := hE.cell
    gi_wp2
    refine ⟨by simp, .inl ⟨_, _, rfl, run_takeDeferred hK, ?_⟩⟩
    exact ⟨_, results_tmp rfl _ _ _, by simp [hk], hB.trans (belowK_b (w := w) (Nat.le_refl _) W D _ _ (by simp at hD; omega) hK rfl rfl)⟩
  case stop => exact fun _ _ _ _ h => h.elim
  case panic => exact fun _ _ _ _ h => h.elim

end Go.Proofs.Ytjaikmlbajdedac

namespace Go.Proofs.Ytjaikmlbajdedac
open Go.Proofs Go.RowKit Go.Shelf

theorem fx_any {F : Fence} (hF : Pl F) {n m : Nat} {P : Program} {f : FuncId} {args : Array Value} {w : World} {R : Ending → World → Prop} (h : CallsIn F n P f args w R) : CallsIn F m P f args w R :=
  ⟨h.1, fun cs _ => h.2 cs (fun d hd => by rw [hF.2.2] at hd; cases hd)⟩

theorem endx_all (F : Fence) (hF : Pl F) (zs : List Int) (hlen : zs.length ≤ 5000) (a : Option Addr) (cap : Nat) : ∀ (m k n : Nat), zs.length - k ≤ m → k ≤ 20000 → ∀ w : World, Ints w.heap.size w a zs →
    CallsIn F n Try.prog 45 #[.slice a zs.length cap, .int .i64 (k : Int)] w fun e w' => e = .returned (.int .i64 (Tm.endAt zs k : Int)) ∧ Below w.heap.size w w' := by
  intro m
  induction m with
  | zero =>
    intro k n hm hk w hI
    rw [Tm.endAt_out zs k (by omega)]
    exact endx_out F hF n a zs.length cap k w (by omega) hk
  | succ m ih =>
    intro k n hm hk w hI
    by_cases hlt : k < zs.length
    · exact fx_any hF (endx_step F hF 3 a cap k zs w (by omega) hlen hlt hI (fun n p W h1 h2 h3 => ih p n (by omega) h2 W h3))
    · rw [Tm.endAt_out zs k (by omega)]
      exact endx_out F hF n a zs.length cap k w (by omega) hk
theorem ends_beyond (F : Fence) (hF : Pl F) (zs : List Int) (hlen : zs.length ≤ 5000) (a : Option Addr) (cap k : Nat) : EndsBeyond F a cap zs k :=
  fun n p W _ h2 h3 => endx_all F hF zs hlen a cap _ p n (Nat.le_refl _) h2 W h3

end Go.Proofs.Ytjaikmlbajdedac

namespace Go.Proofs.Ytjaikmlbajdedac
open Go.Proofs Go.RowKit Go.Shelf

/-- The first sign of a term; its part m. -/
def Tm.sym (x : List Int) : Int := x[0]?.getD 0
def Tm.kid (x : List Int) (m : Nat) : List Int := Tm.part x (Tm.pos x 0 m)

theorem Tm.kid_short {x : List Int} {m : Nat} (h : m < Tm.room (Tm.sym x)) : (Tm.kid x m).length < x.length := by
  cases x with
  | nil => simp [Tm.sym, Tm.room] at h
  | cons s l =>
    have := Tm.pos_gt (s :: l) 0 m
    simp only [Tm.kid, Tm.part, List.length_take, List.length_drop, List.length_cons]
    omega

/-- E2. -/
inductive Tm.Gt (r : Int → Int) : List Int → List Int → Prop
  | eq (a b : List Int) (m : Nat) : m < Tm.room (Tm.sym a) → Tm.kid a m = b → Tm.Gt r a b
  | sub (a b : List Int) (m : Nat) : m < Tm.room (Tm.sym a) → Tm.Gt r (Tm.kid a m) b → Tm.Gt r a b
  | rk (a b : List Int) : 0 ≤ Tm.sym a → 0 ≤ Tm.sym b → (∀ m, m < Tm.room (Tm.sym b) → Tm.Gt r a (Tm.kid b m)) → Tm.sym a ≠ Tm.sym b → r (Tm.sym b) < r (Tm.sym a) → Tm.Gt r a b
  | lex (a b : List Int) (m : Nat) : 0 ≤ Tm.sym a → Tm.sym a = Tm.sym b → (∀ m, m < Tm.room (Tm.sym b) → Tm.Gt r a (Tm.kid b m)) → m < Tm.room (Tm.sym a) → (∀ l, l < m → Tm.kid a l = Tm.kid b l) → Tm.Gt r (Tm.kid a m) (Tm.kid b m) → Tm.Gt r a b

theorem Tm.Gt.pos {r : Int → Int} {a b : List Int} (h : Tm.Gt r a b) : 0 ≤ Tm.sym a := by
  have key : ∀ m, m < Tm.room (Tm.sym a) → 0 ≤ Tm.sym a := fun m hm => by unfold Tm.room at hm; split at hm <;> (try split at hm) <;> omega
  cases h with
  | eq _ _ m hm _ => exact key m hm
  | sub _ _ m hm _ => exact key m hm
  | rk _ _ h0 _ _ _ _ => exact h0
  | lex _ _ _ h0 _ _ _ _ _ => exact h0

theorem Tm.Gt.trans_n {r : Int → Int} : ∀ (n : Nat) (a b c : List Int), a.length + b.length + c.length < n → Tm.Gt r a b → Tm.Gt r b c → Tm.Gt r a c := by
  intro n
  induction n with
  | zero => intro a b c hn; omega
  | succ n ih =>
    intro a b c hn hab hbc
    have main : (∀ m, m < Tm.room (Tm.sym b) → Tm.Gt r a (Tm.kid b m)) → 0 ≤ Tm.sym a → ((Tm.sym a ≠ Tm.sym b ∧ r (Tm.sym b) < r (Tm.sym a)) ∨ (Tm.sym a = Tm.sym b ∧ ∃ m, m < Tm.room (Tm.sym a) ∧ (∀ l, l < m → Tm.kid a l = Tm.kid b l) ∧ Tm.Gt r (Tm.kid a m) (Tm.kid b m))) → Tm.Gt r a c := by
      intro hall ha0 how
      cases hbc with
      | eq _ _ m hm e => rw [← e]; exact hall m hm
      | sub _ _ m hm h => exact ih a (Tm.kid b m) c (by have := Tm.kid_short hm; omega) (hall m hm) h
      | rk _ _ hb0 hc0 hcs hne hr =>
        have hall2 : ∀ m, m < Tm.room (Tm.sym c) → Tm.Gt r a (Tm.kid c m) := fun m hm => ih a b (Tm.kid c m) (by have := Tm.kid_short hm; omega) hab (hcs m hm)
        rcases how with ⟨h1, h2⟩ | ⟨h1, _⟩
        · refine .rk a c ha0 hc0 hall2 (fun e => ?_) (by omega)
          rw [e] at h2; omega
        · exact .rk a c ha0 hc0 hall2 (by rw [h1]; exact hne) (by rw [h1]; exact hr)
      | lex _ _ m hb0 hs hcs hm hl hk =>
        have hall2 : ∀ m, m < Tm.room (Tm.sym c) → Tm.Gt r a (Tm.kid c m) := fun m hm => ih a b (Tm.kid c m) (by have := Tm.kid_short hm; omega) hab (hcs m hm)
        rcases how with ⟨h1, h2⟩ | ⟨h1, m', hm', hl', hk'⟩
        · exact .rk a c ha0 (by omega) hall2 (by rw [← hs]; exact h1) (by rw [← hs]; exact h2)
        · rcases Nat.lt_trichotomy m m' with hlt | heq | hgt
          · exact .lex a c m ha0 (h1.trans hs) hall2 (by omega) (fun l hlm => (hl' l (by omega)).trans (hl l hlm)) (by rw [hl' m hlt]; exact hk)
          · subst heq
            refine .lex a c m ha0 (h1.trans hs) hall2 hm' (fun l hlm => (hl' l hlm).trans (hl l hlm)) (ih _ _ _ ?_ hk' hk)
            have e1 := Tm.kid_short (x := a) hm'
            have e2 := Tm.kid_short (x := b) hm
            have e3 := Tm.kid_short (x := c) (m := m) (by rw [← hs]; exact hm)
            omega
          · exact .lex a c m' ha0 (h1.trans hs) hall2 hm' (fun l hlm => (hl' l hlm).trans (hl l (by omega))) (by rw [← hl m' hgt]; exact hk')
    cases hab with
    | eq _ _ m hm e => exact .sub a c m hm (by rw [e]; exact hbc)
    | sub _ _ m hm h => exact .sub a c m hm (ih _ b c (by have := Tm.kid_short hm; omega) h hbc)
    | rk _ _ ha0 hb0 hall hne hr => exact main hall ha0 (.inl ⟨hne, hr⟩)
    | lex _ _ m ha0 hs hall hm hl hk => exact main hall ha0 (.inr ⟨hs, m, hm, hl, hk⟩)
theorem Tm.Gt.trans {r : Int → Int} {a b c : List Int} (h : Tm.Gt r a b) (h' : Tm.Gt r b c) : Tm.Gt r a c := Tm.Gt.trans_n _ a b c (Nat.lt_succ_self _) h h'

theorem Tm.Gt.irrefl {r : Int → Int} : ∀ (n : Nat) (a : List Int), a.length < n → ¬ Tm.Gt r a a := by
  intro n
  induction n with
  | zero => intro a h; omega
  | succ n ih =>
    intro a hn h
    cases h with
    | eq _ _ m hm e => have := Tm.kid_short hm; rw [e] at this; omega
    | sub _ _ m hm h => exact ih (Tm.kid a m) (by have := Tm.kid_short hm; omega) (h.trans (.eq a _ m hm rfl))
    | rk _ _ _ _ _ hne _ => exact hne rfl
    | lex _ _ m _ _ _ hm _ hk => exact ih (Tm.kid a m) (by have := Tm.kid_short hm; omega) hk
theorem Tm.Gt.self {r : Int → Int} (a : List Int) : ¬ Tm.Gt r a a := Tm.Gt.irrefl _ a (Nat.lt_succ_self _)
theorem Tm.Gt.ne {r : Int → Int} {a b : List Int} (h : Tm.Gt r a b) : a ≠ b := fun e => Tm.Gt.self a (by rw [← e] at h; exact h)

/-- By a part; by the symbol, as far as parts are above; by the first parts that differ. -/
theorem Tm.Gt.iff {r : Int → Int} (a b : List Int) : Tm.Gt r a b ↔ (∃ m, m < Tm.room (Tm.sym a) ∧ (Tm.kid a m = b ∨ Tm.Gt r (Tm.kid a m) b)) ∨
    (0 ≤ Tm.sym a ∧ 0 ≤ Tm.sym b ∧ (∀ m, m < Tm.room (Tm.sym b) → Tm.Gt r a (Tm.kid b m)) ∧ ((Tm.sym a ≠ Tm.sym b ∧ r (Tm.sym b) < r (Tm.sym a)) ∨ (Tm.sym a = Tm.sym b ∧ ∃ m, m < Tm.room (Tm.sym a) ∧ (∀ l, l < m → Tm.kid a l = Tm.kid b l) ∧ Tm.Gt r (Tm.kid a m) (Tm.kid b m)))) := by
  constructor
  · intro h
    cases h with
    | eq _ _ m hm e => exact .inl ⟨m, hm, .inl e⟩
    | sub _ _ m hm h => exact .inl ⟨m, hm, .inr h⟩
    | rk _ _ ha hb hall hne hr => exact .inr ⟨ha, hb, hall, .inl ⟨hne, hr⟩⟩
    | lex _ _ m ha hs hall hm hl hk => exact .inr ⟨ha, by omega, hall, .inr ⟨hs, m, hm, hl, hk⟩⟩
  · rintro (⟨m, hm, e | h⟩ | ⟨ha, hb, hall, ⟨hne, hr⟩ | ⟨hs, m, hm, hl, hk⟩⟩)
    · exact .eq a b m hm e
    · exact .sub a b m hm h
    · exact .rk a b ha hb hall hne hr
    · exact .lex a b m ha hs hall hm hl hk

end Go.Proofs.Ytjaikmlbajdedac

namespace Go.Proofs.Ytjaikmlbajdedac
open Go.Proofs Go.RowKit Go.Shelf

theorem Tm.pos_flat {s : Int} {zss : List (List Int)} (hz : ∀ j, j < zss.length → Tm.run (zss[j]?.getD []) 1 = (zss[j]?.getD []).length) : ∀ m, m ≤ zss.length → Tm.pos (s :: zss.flatten) 0 m = (s :: (zss.take m).flatten).length := by
  intro m
  induction m with
  | zero => intro _; simp [Tm.pos_zero]
  | succ m ih =>
    intro hm
    rw [Tm.pos_succ, ih (by omega)]
    have e : s :: zss.flatten = (s :: (zss.take m).flatten) ++ (zss[m]?.getD [] ++ (zss.drop (m + 1)).flatten) := by rw [List.cons_append, ← split_flatten (by omega)]
    rw [e, Tm.endAt_front (hz m (by omega)), List.length_cons, List.length_cons, flatten_snoc (by omega), List.length_append]
    omega
theorem Tm.kid_flat {s : Int} {zss : List (List Int)} (hz : ∀ j, j < zss.length → Tm.run (zss[j]?.getD []) 1 = (zss[j]?.getD []).length) {m : Nat} (hm : m < zss.length) : Tm.kid (s :: zss.flatten) m = zss[m]?.getD [] := by
  unfold Tm.kid
  rw [Tm.pos_flat hz m (by omega)]
  have e : s :: zss.flatten = (s :: (zss.take m).flatten) ++ (zss[m]?.getD [] ++ (zss.drop (m + 1)).flatten) := by rw [List.cons_append, ← split_flatten (by omega)]
  rw [e, Tm.part_front (hz m hm)]

def Tm.kids (x : List Int) (n : Nat) : List (List Int) := (List.range n).map (Tm.kid x)
theorem Tm.kids_len (x : List Int) (n : Nat) : (Tm.kids x n).length = n := by simp [Tm.kids]
theorem Tm.kids_at (x : List Int) {n m : Nat} (h : m < n) : (Tm.kids x n)[m]?.getD [] = Tm.kid x m := by simp [Tm.kids, h]
theorem Tm.kids_succ (x : List Int) (n : Nat) : Tm.kids x (n + 1) = Tm.kids x n ++ [Tm.kid x n] := by simp [Tm.kids, List.range_succ]
theorem Tm.take_end (x : List Int) (k : Nat) : x.take (Tm.endAt x k) = x.take k ++ Tm.part x k := by
  have := Tm.endAt_gt x k
  unfold Tm.part
  rw [show Tm.endAt x k = k + (Tm.endAt x k - k) from by omega, List.take_add, show k + (Tm.endAt x k - k) - k = Tm.endAt x k - k from by omega]
theorem Tm.take_pos {x : List Int} (h : 0 < x.length) : ∀ n, x.take (Tm.pos x 0 n) = Tm.sym x :: (Tm.kids x n).flatten := by
  intro n
  induction n with
  | zero =>
    obtain ⟨s, l, rfl⟩ : ∃ s l, x = s :: l := by cases x with | nil => simp at h | cons s l => exact ⟨s, l, rfl⟩
    simp [Tm.pos_zero, Tm.sym, Tm.kids]
  | succ n ih =>
    rw [Tm.pos_succ, Tm.take_end, ih, Tm.kids_succ, List.flatten_append, List.cons_append]
    simp [Tm.kid]
theorem Tm.pos_last {x : List Int} (h : Tm.err x = 0) : Tm.pos x 0 (Tm.room (Tm.sym x)) = x.length := by
  have h1 := Tm.endAt_in x 0 (Tm.err_pos h)
  rw [Tm.endAt_zero, Tm.err_run h] at h1
  exact h1.symm
/-- A term is its symbol and its parts. -/
theorem Tm.view {x : List Int} (h : Tm.err x = 0) : x = Tm.sym x :: (Tm.kids x (Tm.room (Tm.sym x))).flatten := by
  rw [← Tm.take_pos (Tm.err_pos h), Tm.pos_last h, List.take_length]
theorem Tm.pos_step (x : List Int) (k m : Nat) : Tm.pos x k m < Tm.pos x k (m + 1) := by rw [Tm.pos_succ]; exact Tm.endAt_gt _ _
theorem Tm.pos_in {x : List Int} (h : Tm.err x = 0) {m : Nat} (hm : m < Tm.room (Tm.sym x)) : Tm.pos x 0 m < x.length := by
  have h1 := Tm.pos_step x 0 m
  have h2 := Tm.pos_mono x 0 (m + 1) (Tm.room (Tm.sym x)) (by omega)
  rw [Tm.pos_last h] at h2
  omega
theorem Tm.kid_err {x : List Int} (h : Tm.err x = 0) {m : Nat} (hm : m < Tm.room (Tm.sym x)) : Tm.err (Tm.kid x m) = 0 := Tm.part_err h (Tm.pos_in h hm)
theorem Tm.kids_run {x : List Int} (h : Tm.err x = 0) : ∀ j, j < (Tm.kids x (Tm.room (Tm.sym x))).length → Tm.run ((Tm.kids x (Tm.room (Tm.sym x)))[j]?.getD []) 1 = ((Tm.kids x (Tm.room (Tm.sym x)))[j]?.getD []).length := by
  intro j hj
  rw [Tm.kids_len] at hj
  rw [Tm.kids_at x hj]
  exact Tm.err_run (Tm.kid_err h hj)
theorem Tm.view_ext {a b : List Int} (ha : Tm.err a = 0) (hb : Tm.err b = 0) (hs : Tm.sym a = Tm.sym b) (hk : ∀ m, m < Tm.room (Tm.sym a) → Tm.kid a m = Tm.kid b m) : a = b := by
  rw [Tm.view ha, Tm.view hb, ← hs]
  congr 2
  exact List.map_congr_left (fun m hm => hk m (List.mem_range.1 hm))

/-- The parts of a term that stands in another one. -/
theorem Tm.sym_part {zs : List Int} (he : Tm.err zs = 0) {i : Nat} (hi : i < zs.length) : Tm.sym (Tm.part zs i) = zs[i]?.getD 0 := by
  have hl := Tm.part_length he hi
  have hg := Tm.endAt_gt zs i
  unfold Tm.sym Tm.part
  rw [List.getElem?_take_of_lt (by omega), List.getElem?_drop]
  simp
theorem Tm.pos_part {zs : List Int} (he : Tm.err zs = 0) {i : Nat} (hi : i < zs.length) : ∀ m, m ≤ Tm.room (zs[i]?.getD 0) → Tm.pos zs i m = i + Tm.pos (Tm.part zs i) 0 m := by
  have hp := Tm.part_err he hi
  have hs := Tm.sym_part he hi
  have hsp := Tm.split zs i
  have hti : (zs.take i).length = i := by simp; omega
  intro m
  induction m with
  | zero => intro _; simp [Tm.pos_zero]
  | succ m ih =>
    intro hm
    have hin := Tm.pos_in hp (m := m) (by rw [hs]; omega)
    rw [Tm.pos_succ, Tm.pos_succ, ih (by omega)]
    have h := Tm.endAt_mid (pre := zs.take i) (t := Tm.part zs i) (post := zs.drop (Tm.endAt zs i)) (k := Tm.pos (Tm.part zs i) 0 m) (by omega) (Tm.end_in hp hin)
    rw [← hsp, hti] at h
    exact h
theorem Tm.kid_part {zs : List Int} (he : Tm.err zs = 0) {i : Nat} (hi : i < zs.length) {m : Nat} (hm : m < Tm.room (zs[i]?.getD 0)) : Tm.kid (Tm.part zs i) m = Tm.part zs (Tm.pos zs i m) := by
  have hp := Tm.part_err he hi
  have hs := Tm.sym_part he hi
  have hsp := Tm.split zs i
  have hti : (zs.take i).length = i := by simp; omega
  have hin := Tm.pos_in hp (m := m) (by rw [hs]; omega)
  have h := Tm.part_mid (pre := zs.take i) (t := Tm.part zs i) (post := zs.drop (Tm.endAt zs i)) (k := Tm.pos (Tm.part zs i) 0 m) (by omega) (Tm.end_in hp hin)
  rw [← hsp, hti] at h
  rw [Tm.pos_part he hi m (by omega), h]
  rfl

/-- Who is above stays above, whatever variables become. -/
theorem Tm.applied_flatten (ss : List (List Int)) (zss : List (List Int)) : Tm.applied ss zss.flatten = (zss.map (Tm.applied ss)).flatten := by
  induction zss with
  | nil => simp [Tm.applied]
  | cons z l ih => rw [List.flatten_cons, List.map_cons, List.flatten_cons, ← ih]; simp [Tm.applied]
theorem Tm.applied_view {ss : List (List Int)} (hss : Terms ss) {a : List Int} (ha : Tm.err a = 0) (h0 : 0 ≤ Tm.sym a) : Tm.sym (Tm.applied ss a) = Tm.sym a ∧ ∀ m, m < Tm.room (Tm.sym a) → Tm.kid (Tm.applied ss a) m = Tm.applied ss (Tm.kid a m) := by
  have e : Tm.applied ss a = Tm.sym a :: ((Tm.kids a (Tm.room (Tm.sym a))).map (Tm.applied ss)).flatten := by
    conv => lhs; rw [Tm.view ha]
    rw [Tm.applied_cons, Tm.piece_pos h0, Tm.applied_flatten]; rfl
  have hr : ∀ j, j < ((Tm.kids a (Tm.room (Tm.sym a))).map (Tm.applied ss)).length → Tm.run (((Tm.kids a (Tm.room (Tm.sym a))).map (Tm.applied ss))[j]?.getD []) 1 = (((Tm.kids a (Tm.room (Tm.sym a))).map (Tm.applied ss))[j]?.getD []).length := by
    intro j hj
    rw [List.length_map, Tm.kids_len] at hj
    have ek : ((Tm.kids a (Tm.room (Tm.sym a))).map (Tm.applied ss))[j]?.getD [] = Tm.applied ss (Tm.kid a j) := by simp [Tm.kids, hj]
    rw [ek]
    have hk := Tm.kid_err ha hj
    exact Tm.run_applied hss _ 1 (Tm.err_all hk) (Tm.err_run hk)
  constructor
  · rw [e]; simp [Tm.sym]
  · intro m hm
    rw [e, Tm.kid_flat hr (by rw [List.length_map, Tm.kids_len]; exact hm)]
    simp [Tm.kids, hm]
theorem Tm.Gt.stays {r : Int → Int} {ss : List (List Int)} (hss : Terms ss) {a b : List Int} (h : Tm.Gt r a b) : Tm.err a = 0 → Tm.err b = 0 → Tm.Gt r (Tm.applied ss a) (Tm.applied ss b) := by
  induction h with
  | eq a b m hm e =>
    intro ha hb
    obtain ⟨h1, h2⟩ := Tm.applied_view hss ha (Tm.Gt.pos (r := r) (.eq a b m hm e))
    exact .eq _ _ m (by rw [h1]; exact hm) (by rw [h2 m hm, e])
  | sub a b m hm h ih =>
    intro ha hb
    obtain ⟨h1, h2⟩ := Tm.applied_view hss ha (Tm.Gt.pos (.sub a b m hm h))
    exact .sub _ _ m (by rw [h1]; exact hm) (by rw [h2 m hm]; exact ih (Tm.kid_err ha hm) hb)
  | rk a b ha0 hb0 hall hne hr ih =>
    intro ha hb
    obtain ⟨h1, h2⟩ := Tm.applied_view hss ha ha0
    obtain ⟨k1, k2⟩ := Tm.applied_view hss hb hb0
    exact .rk _ _ (by rw [h1]; exact ha0) (by rw [k1]; exact hb0) (fun m hm => by rw [k1] at hm; rw [k2 m hm]; exact ih m hm ha (Tm.kid_err hb hm)) (by rw [h1, k1]; exact hne) (by rw [h1, k1]; exact hr)
  | lex a b m ha0 hs hall hm hl hk ih ihk =>
    intro ha hb
    obtain ⟨h1, h2⟩ := Tm.applied_view hss ha ha0
    obtain ⟨k1, k2⟩ := Tm.applied_view hss hb (by omega)
    exact .lex _ _ m (by rw [h1]; exact ha0) (by rw [h1, k1]; exact hs) (fun m hm => by rw [k1] at hm; rw [k2 m hm]; exact ih m hm ha (Tm.kid_err hb hm)) (by rw [h1]; exact hm)
      (fun l hlm => by rw [h2 l (by omega), k2 l (by rw [← hs]; omega), hl l hlm]) (by rw [h2 m hm, k2 m (by rw [← hs]; exact hm)]; exact ihk (Tm.kid_err ha hm) (Tm.kid_err hb (by rw [← hs]; exact hm)))

/-- A place that is not the first lies in a part. -/
theorem Tm.place_kid {x : List Int} (h : Tm.err x = 0) {k : Nat} (h0 : 0 < k) (hk : k < x.length) : ∃ m, m < Tm.room (Tm.sym x) ∧ Tm.pos x 0 m ≤ k ∧ k < Tm.pos x 0 (m + 1) := by
  have key : ∀ n, k < Tm.pos x 0 n → ∃ m, m < n ∧ Tm.pos x 0 m ≤ k ∧ k < Tm.pos x 0 (m + 1) := by
    intro n
    induction n with
    | zero => intro hn; rw [Tm.pos_zero] at hn; omega
    | succ n ih =>
      intro hn
      by_cases hc : k < Tm.pos x 0 n
      · obtain ⟨m, h1, h2⟩ := ih hc; exact ⟨m, by omega, h2⟩
      · exact ⟨n, by omega, by omega, hn⟩
  exact key _ (by rw [Tm.pos_last h]; exact hk)
/-- What is put at a place of a part. -/
theorem Tm.put_view {x u : List Int} (h : Tm.err x = 0) (hu : Tm.err u = 0) {k m : Nat} (hm : m < Tm.room (Tm.sym x)) (h1 : Tm.pos x 0 m ≤ k) (h2 : k < Tm.pos x 0 (m + 1)) :
    Tm.sym (Tm.put x k u) = Tm.sym x ∧ k - Tm.pos x 0 m < (Tm.kid x m).length ∧ ∀ l, l < Tm.room (Tm.sym x) → Tm.kid (Tm.put x k u) l = if l = m then Tm.put (Tm.kid x m) (k - Tm.pos x 0 m) u else Tm.kid x l := by
  have hpi := Tm.pos_in h hm
  have hkl : (Tm.kid x m).length = Tm.pos x 0 (m + 1) - Tm.pos x 0 m := by rw [Tm.pos_succ]; exact Tm.part_length h hpi
  have hke := Tm.kid_err h hm
  have hk' : k - Tm.pos x 0 m < (Tm.kid x m).length := by omega
  have hml : m < (Tm.kids x (Tm.room (Tm.sym x))).length := by rw [Tm.kids_len]; exact hm
  obtain ⟨zss, hz⟩ : ∃ zss, Tm.kids x (Tm.room (Tm.sym x)) = zss := ⟨_, rfl⟩
  have hrun := Tm.kids_run h
  have hv := Tm.view h
  have hat := fun l (hl : l < Tm.room (Tm.sym x)) => Tm.kids_at x hl
  have hlen := Tm.kids_len x (Tm.room (Tm.sym x))
  rw [hz] at hml hrun hv hat hlen
  have hpos := Tm.pos_flat (s := Tm.sym x) hrun m (by omega)
  rw [← hv] at hpos
  have e : x = (Tm.sym x :: (zss.take m).flatten) ++ (Tm.kid x m ++ (zss.drop (m + 1)).flatten) := by rw [← hat m hm, List.cons_append, ← split_flatten hml]; exact hv
  have hput : Tm.put x k u = Tm.sym x :: (zss.set m (Tm.put (Tm.kid x m) (k - Tm.pos x 0 m) u)).flatten := by
    have hend := Tm.endAt_mid (pre := Tm.sym x :: (zss.take m).flatten) (t := Tm.kid x m) (post := (zss.drop (m + 1)).flatten) (k := k - Tm.pos x 0 m) (by omega) (Tm.end_in hke hk')
    rw [← e, ← hpos, show Tm.pos x 0 m + (k - Tm.pos x 0 m) = k from by omega] at hend
    have hset : (zss.set m (Tm.put (Tm.kid x m) (k - Tm.pos x 0 m) u)).flatten = (zss.take m).flatten ++ (Tm.put (Tm.kid x m) (k - Tm.pos x 0 m) u ++ (zss.drop (m + 1)).flatten) := by
      rw [List.set_eq_take_append_cons_drop, if_pos hml, List.flatten_append, List.flatten_cons]
    have hee := Tm.end_in hke hk'
    rw [hset, Tm.put_eq, Tm.put_eq, hend]
    have t1 : x.take k = (Tm.sym x :: (zss.take m).flatten) ++ (Tm.kid x m).take (k - Tm.pos x 0 m) := by
      conv => lhs; rw [e]
      rw [List.take_append, ← hpos, List.take_of_length_le (by rw [← hpos]; omega), List.take_append_of_le_length (by omega)]
    have t2 : ∀ q, q = Tm.pos x 0 m + Tm.endAt (Tm.kid x m) (k - Tm.pos x 0 m) → x.drop q = (Tm.kid x m).drop (Tm.endAt (Tm.kid x m) (k - Tm.pos x 0 m)) ++ (zss.drop (m + 1)).flatten := by
      intro q hq
      have hq2 : q - (Tm.sym x :: (zss.take m).flatten).length = Tm.endAt (Tm.kid x m) (k - Tm.pos x 0 m) := by omega
      conv => lhs; rw [e]
      rw [List.drop_append, List.drop_of_length_le (by omega), List.nil_append, hq2, List.drop_append_of_le_length hee]
    rw [t1, t2 _ rfl]
    simp
  have hrun2 : ∀ j, j < (zss.set m (Tm.put (Tm.kid x m) (k - Tm.pos x 0 m) u)).length → Tm.run ((zss.set m (Tm.put (Tm.kid x m) (k - Tm.pos x 0 m) u))[j]?.getD []) 1 = ((zss.set m (Tm.put (Tm.kid x m) (k - Tm.pos x 0 m) u))[j]?.getD []).length := by
    intro j hj
    rw [List.length_set] at hj
    by_cases ej : j = m
    · subst ej; rw [List.getElem?_set_self hj]; exact Tm.put_run hke (Tm.err_run hu) hk'
    · rw [List.getElem?_set_ne (by omega)]; exact hrun j hj
  refine ⟨by rw [hput]; simp [Tm.sym], hk', fun l hl => ?_⟩
  rw [hput, Tm.kid_flat hrun2 (by rw [List.length_set]; omega)]
  by_cases el : l = m
  · subst el; rw [if_pos rfl, List.getElem?_set_self hml]; rfl
  · rw [if_neg el, List.getElem?_set_ne (by omega)]; exact hat l hl

theorem Tm.put_zero {x u : List Int} (h : Tm.err x = 0) : Tm.put x 0 u = u := by
  rw [Tm.put_eq, Tm.endAt_zero, Tm.err_run h]; simp
/-- Who is above stays above, wherever both stand. -/
theorem Tm.Gt.within {r : Int → Int} {a b : List Int} (hab : Tm.Gt r a b) (ha : Tm.err a = 0) (hb : Tm.err b = 0) : ∀ (n : Nat) (t : List Int) (k : Nat), t.length < n → Tm.err t = 0 → k < t.length → Tm.Gt r (Tm.put t k a) (Tm.put t k b) := by
  intro n
  induction n with
  | zero => intro t k h; omega
  | succ n ih =>
    intro t k hn ht hk
    by_cases h0 : k = 0
    · subst h0; rw [Tm.put_zero ht, Tm.put_zero ht]; exact hab
    obtain ⟨m, hm, h1, h2⟩ := Tm.place_kid ht (by omega) hk
    obtain ⟨sa, hkl, ka⟩ := Tm.put_view ht ha hm h1 h2
    obtain ⟨sb, _, kb⟩ := Tm.put_view ht hb hm h1 h2
    have hs0 : 0 ≤ Tm.sym t := Tm.Gt.pos (r := r) (.eq t _ m hm rfl)
    have hsub := ih (Tm.kid t m) (k - Tm.pos t 0 m) (by have := Tm.kid_short hm; omega) (Tm.kid_err ht hm) hkl
    have hkm : Tm.Gt r (Tm.kid (Tm.put t k a) m) (Tm.kid (Tm.put t k b) m) := by rw [ka m hm, kb m hm, if_pos rfl, if_pos rfl]; exact hsub
    refine .lex _ _ m (by rw [sa]; exact hs0) (by rw [sa, sb]) (fun l hl => ?_) (by rw [sa]; exact hm) (fun l hl => by rw [ka l (by omega), kb l (by omega), if_neg (by omega), if_neg (by omega)]) hkm
    rw [sb] at hl
    by_cases el : l = m
    · subst el; exact .sub _ _ l (by rw [sa]; exact hl) hkm
    · refine .eq _ _ l (by rw [sa]; exact hl) ?_
      rw [ka l hl, kb l hl, if_neg el, if_neg el]

/-- Each is above its parts. -/
theorem Tm.Gt.parts {r : Int → Int} : ∀ (n : Nat) (t : List Int) (k : Nat), t.length < n → Tm.err t = 0 → 0 < k → k < t.length → Tm.Gt r t (Tm.part t k) := by
  intro n
  induction n with
  | zero => intro t k h; omega
  | succ n ih =>
    intro t k hn ht h0 hk
    obtain ⟨m, hm, h1, h2⟩ := Tm.place_kid ht h0 hk
    have hpi := Tm.pos_in ht hm
    have hke := Tm.kid_err ht hm
    have hkl : (Tm.kid t m).length = Tm.pos t 0 (m + 1) - Tm.pos t 0 m := by rw [Tm.pos_succ]; exact Tm.part_length ht hpi
    have hti : (t.take (Tm.pos t 0 m)).length = Tm.pos t 0 m := by simp; omega
    have hk' : k - Tm.pos t 0 m < (Tm.kid t m).length := by omega
    have hpk : Tm.part t k = Tm.part (Tm.kid t m) (k - Tm.pos t 0 m) := by
      have h := Tm.part_mid (pre := t.take (Tm.pos t 0 m)) (t := Tm.kid t m) (post := t.drop (Tm.endAt t (Tm.pos t 0 m))) (k := k - Tm.pos t 0 m) (by omega) (Tm.end_in hke hk')
      have hs := Tm.split t (Tm.pos t 0 m)
      rw [show Tm.part t (Tm.pos t 0 m) = Tm.kid t m from rfl] at hs
      rw [← hs, hti, show Tm.pos t 0 m + (k - Tm.pos t 0 m) = k from by omega] at h
      exact h
    rw [hpk]
    by_cases e : k - Tm.pos t 0 m = 0
    · rw [e, Tm.part_all0 (Tm.err_run hke)]; exact .eq _ _ m hm rfl
    · exact .sub _ _ m hm (ih _ _ (by have := Tm.kid_short hm; omega) hke (by omega) hk')

/-- Without variables one of two that differ is above. -/
theorem Tm.kid_ground {x : List Int} (h : ∀ s ∈ x, 0 ≤ s) (m : Nat) : ∀ s ∈ Tm.kid x m, 0 ≤ s := fun s hs => h s (List.mem_of_mem_drop (List.mem_of_mem_take hs))
theorem Tm.sym_mem {x : List Int} (h : 0 < x.length) : Tm.sym x ∈ x := by
  cases x with
  | nil => simp at h
  | cons s l => simp [Tm.sym]
theorem Tm.Gt.total {r : Int → Int} (hr : ∀ s t : Int, 0 ≤ s → s < 6 → 0 ≤ t → t < 6 → r s = r t → s = t) : ∀ (n : Nat) (a b : List Int), a.length + b.length < n → Tm.err a = 0 → Tm.err b = 0 → (∀ s ∈ a, 0 ≤ s) → (∀ s ∈ b, 0 ≤ s) → a = b ∨ Tm.Gt r a b ∨ Tm.Gt r b a := by
  intro n
  induction n with
  | zero => intro a b h; omega
  | succ n ih =>
    intro a b hn ha hb ga gb
    have sa := Tm.sym_mem (Tm.err_pos ha)
    have sb := Tm.sym_mem (Tm.err_pos hb)
    have a0 := ga _ sa
    have b0 := gb _ sb
    have a6 : Tm.sym a < 6 := Tm.known_lt (by have := Tm.err_all ha; rw [List.all_eq_true] at this; exact this _ sa)
    have b6 : Tm.sym b < 6 := Tm.known_lt (by have := Tm.err_all hb; rw [List.all_eq_true] at this; exact this _ sb)
    by_cases c1 : ∃ m, m < Tm.room (Tm.sym a) ∧ (Tm.kid a m = b ∨ Tm.Gt r (Tm.kid a m) b)
    · exact .inr (.inl ((Tm.Gt.iff a b).2 (.inl c1)))
    by_cases c2 : ∃ m, m < Tm.room (Tm.sym b) ∧ (Tm.kid b m = a ∨ Tm.Gt r (Tm.kid b m) a)
    · exact .inr (.inr ((Tm.Gt.iff b a).2 (.inl c2)))
    have d1 : ∀ m, m < Tm.room (Tm.sym a) → Tm.Gt r b (Tm.kid a m) := fun m hm => by
      have hs := Tm.kid_short hm
      rcases ih (Tm.kid a m) b (by omega) (Tm.kid_err ha hm) hb (Tm.kid_ground ga m) gb with h | h | h
      · exact absurd ⟨m, hm, .inl h⟩ c1
      · exact absurd ⟨m, hm, .inr h⟩ c1
      · exact h
    have d2 : ∀ m, m < Tm.room (Tm.sym b) → Tm.Gt r a (Tm.kid b m) := fun m hm => by
      have hs := Tm.kid_short hm
      rcases ih (Tm.kid b m) a (by omega) (Tm.kid_err hb hm) ha (Tm.kid_ground gb m) ga with h | h | h
      · exact absurd ⟨m, hm, .inl h⟩ c2
      · exact absurd ⟨m, hm, .inr h⟩ c2
      · exact h
    by_cases hs : Tm.sym a = Tm.sym b
    · have key : ∀ n, n ≤ Tm.room (Tm.sym a) → (∀ l, l < n → Tm.kid a l = Tm.kid b l) ∨ Tm.Gt r a b ∨ Tm.Gt r b a := by
        intro n
        induction n with
        | zero => intro _; exact .inl fun l hl => by omega
        | succ n ihn =>
          intro hn'
          rcases ihn (by omega) with h | h
          · have s1 := Tm.kid_short (x := a) (m := n) (by omega)
            have s2 := Tm.kid_short (x := b) (m := n) (by rw [← hs]; omega)
            rcases ih (Tm.kid a n) (Tm.kid b n) (by omega) (Tm.kid_err ha (by omega)) (Tm.kid_err hb (by rw [← hs]; omega)) (Tm.kid_ground ga n) (Tm.kid_ground gb n) with e | g | g
            · refine .inl fun l hl => ?_
              by_cases el : l = n
              · rw [el]; exact e
              · exact h l (by omega)
            · exact .inr (.inl (.lex a b n a0 hs d2 (by omega) h g))
            · exact .inr (.inr (.lex b a n b0 hs.symm d1 (by rw [← hs]; omega) (fun l hl => (h l hl).symm) g))
          · exact .inr h
      rcases key _ (Nat.le_refl _) with h | h
      · exact .inl (Tm.view_ext ha hb hs h)
      · exact .inr h
    · rcases Int.lt_trichotomy (r (Tm.sym a)) (r (Tm.sym b)) with h | h | h
      · exact .inr (.inr (.rk b a b0 a0 d1 (fun e => hs e.symm) h))
      · exact absurd (hr _ _ a0 a6 b0 b6 h) hs
      · exact .inr (.inl (.rk a b a0 b0 d2 hs h))

end Go.Proofs.Ytjaikmlbajdedac

namespace Go.Proofs.Ytjaikmlbajdedac
open Go.Proofs Go.RowKit Go.Shelf Go.Maps

/-- E2, reckoned. -/
def Tm.gtB (r : Int → Int) : Nat → List Int → List Int → Bool
  | 0, _, _ => false
  | n + 1, a, b => ((List.range (Tm.room (Tm.sym a))).any fun m => decide (Tm.kid a m = b) || Tm.gtB r n (Tm.kid a m) b) ||
    (decide (0 ≤ Tm.sym a) && (decide (0 ≤ Tm.sym b) && (((List.range (Tm.room (Tm.sym b))).all fun m => Tm.gtB r n a (Tm.kid b m)) && ((decide (Tm.sym a ≠ Tm.sym b) && decide (r (Tm.sym b) < r (Tm.sym a))) ||
      (decide (Tm.sym a = Tm.sym b) && (List.range (Tm.room (Tm.sym a))).any fun m => ((List.range m).all fun l => decide (Tm.kid a l = Tm.kid b l)) && Tm.gtB r n (Tm.kid a m) (Tm.kid b m))))))
theorem Tm.gtB_iff {r : Int → Int} : ∀ (n : Nat) (a b : List Int), a.length + b.length < n → (Tm.gtB r n a b = true ↔ Tm.Gt r a b) := by
  intro n
  induction n with
  | zero => intro a b h; omega
  | succ n ih =>
    intro a b hn
    have i1 : ∀ m, m < Tm.room (Tm.sym a) → (Tm.gtB r n (Tm.kid a m) b = true ↔ Tm.Gt r (Tm.kid a m) b) := fun m hm => ih _ _ (by have := Tm.kid_short hm; omega)
    have i2 : ∀ m, m < Tm.room (Tm.sym b) → (Tm.gtB r n a (Tm.kid b m) = true ↔ Tm.Gt r a (Tm.kid b m)) := fun m hm => ih _ _ (by have := Tm.kid_short hm; omega)
    have i3 : Tm.sym a = Tm.sym b → ∀ m, m < Tm.room (Tm.sym a) → (Tm.gtB r n (Tm.kid a m) (Tm.kid b m) = true ↔ Tm.Gt r (Tm.kid a m) (Tm.kid b m)) := fun e m hm => ih _ _ (by have := Tm.kid_short hm; have := Tm.kid_short (x := b) (m := m) (by rw [← e]; exact hm); omega)
    rw [Tm.Gt.iff]
    simp only [Tm.gtB, Bool.or_eq_true, Bool.and_eq_true, List.any_eq_true, List.all_eq_true, List.mem_range, decide_eq_true_eq]
    refine or_congr (exists_congr fun m => and_congr_right fun hm => or_congr Iff.rfl (i1 m hm)) (and_congr_right fun _ => and_congr_right fun _ => and_congr (forall_congr' fun m => forall_congr' fun hm => i2 m hm) (or_congr Iff.rfl (and_congr_right fun e => exists_congr fun m => and_congr_right fun hm => and_congr_right fun _ => i3 e m hm)))
def Tm.above (r : Int → Int) (a b : List Int) : Bool := Tm.gtB r (a.length + b.length + 1) a b
theorem Tm.above_iff {r : Int → Int} {a b : List Int} : Tm.above r a b = true ↔ Tm.Gt r a b := Tm.gtB_iff _ a b (Nat.lt_succ_self _)

/-- The ranks that a list tells. -/
def Tm.rankOf (rk : List Int) (s : Int) : Int := rk[s.toNat]?.getD 0
/-- At places. -/
def Tm.ab (rk za zb : List Int) (i j : Nat) : Bool := Tm.above (Tm.rankOf rk) (Tm.part za i) (Tm.part zb j)
def Tm.sm (za zb : List Int) (i j : Nat) : Bool := decide (Tm.part za i = Tm.part zb j)
/-- By a part, the first n parts held. -/
def Tm.bp (rk za zb : List Int) (i j n : Nat) : Bool := (List.range n).any fun m => Tm.sm za zb (Tm.pos za i m) j || Tm.ab rk za zb (Tm.pos za i m) j
/-- Above the first n parts. -/
def Tm.ov (rk za zb : List Int) (i j n : Nat) : Bool := (List.range n).all fun m => Tm.ab rk za zb i (Tm.pos zb j m)
/-- The first n parts are the same. -/
def Tm.sms (za zb : List Int) (i j n : Nat) : Bool := (List.range n).all fun m => Tm.sm za zb (Tm.pos za i m) (Tm.pos zb j m)
/-- By the first parts that differ. -/
def Tm.fd (rk za zb : List Int) (i j n : Nat) : Bool := (List.range n).any fun m => Tm.sms za zb i j m && Tm.ab rk za zb (Tm.pos za i m) (Tm.pos zb j m)
/-- By the symbol. -/
def Tm.sy (rk za zb : List Int) (i j : Nat) : Bool :=
  decide (0 ≤ za[i]?.getD 0) && (decide (0 ≤ zb[j]?.getD 0) && (Tm.ov rk za zb i j (Tm.room (zb[j]?.getD 0)) && (if za[i]?.getD 0 = zb[j]?.getD 0 then Tm.fd rk za zb i j (Tm.room (za[i]?.getD 0)) else decide (Tm.rankOf rk (zb[j]?.getD 0) < Tm.rankOf rk (za[i]?.getD 0)))))
theorem Tm.bp_succ (rk za zb : List Int) (i j n : Nat) : Tm.bp rk za zb i j (n + 1) = (Tm.bp rk za zb i j n || (Tm.sm za zb (Tm.pos za i n) j || Tm.ab rk za zb (Tm.pos za i n) j)) := by simp [Tm.bp, List.range_succ]
theorem Tm.ov_succ (rk za zb : List Int) (i j n : Nat) : Tm.ov rk za zb i j (n + 1) = (Tm.ov rk za zb i j n && Tm.ab rk za zb i (Tm.pos zb j n)) := by simp [Tm.ov, List.range_succ]
theorem Tm.sms_succ (za zb : List Int) (i j n : Nat) : Tm.sms za zb i j (n + 1) = (Tm.sms za zb i j n && Tm.sm za zb (Tm.pos za i n) (Tm.pos zb j n)) := by simp [Tm.sms, List.range_succ]
theorem Tm.ab_same {rk za zb : List Int} {i j : Nat} (h : Tm.sm za zb i j = true) : Tm.ab rk za zb i j = false := by
  simp only [Tm.sm, decide_eq_true_eq] at h
  unfold Tm.ab
  rw [h]
  rw [Bool.eq_false_iff]
  exact fun e => Tm.Gt.self _ (Tm.above_iff.1 e)
theorem Tm.sms_mono {za zb : List Int} {i j n m : Nat} (h : m ≤ n) (hn : Tm.sms za zb i j n = true) : Tm.sms za zb i j m = true := by
  simp only [Tm.sms, List.all_eq_true, List.mem_range] at *
  exact fun l hl => hn l (by omega)
/-- All are the same as far as m: nothing is above. -/
theorem Tm.fd_same {rk za zb : List Int} {i j n : Nat} (h : Tm.sms za zb i j n = true) : Tm.fd rk za zb i j n = false := by
  rw [Bool.eq_false_iff]
  intro e
  simp only [Tm.fd, List.any_eq_true, List.mem_range, Bool.and_eq_true] at e
  obtain ⟨m, hm, _, ha⟩ := e
  have : Tm.sm za zb (Tm.pos za i m) (Tm.pos zb j m) = true := by
    simp only [Tm.sms, List.all_eq_true, List.mem_range] at h
    exact h m hm
  rw [Tm.ab_same this] at ha
  cases ha
/-- At the first that differ. -/
theorem Tm.fd_at {rk za zb : List Int} {i j n m : Nat} (hm : m < n) (h : Tm.sms za zb i j m = true) (hd : Tm.sm za zb (Tm.pos za i m) (Tm.pos zb j m) = false) : Tm.fd rk za zb i j n = Tm.ab rk za zb (Tm.pos za i m) (Tm.pos zb j m) := by
  rw [Bool.eq_iff_iff]
  constructor
  · intro e
    simp only [Tm.fd, List.any_eq_true, List.mem_range, Bool.and_eq_true] at e
    obtain ⟨l, hl, hs, ha⟩ := e
    rcases Nat.lt_trichotomy l m with h1 | h1 | h1
    · have h2 := Tm.sms_mono (m := l + 1) (by omega) h
      rw [Tm.sms_succ, Bool.and_eq_true] at h2
      rw [Tm.ab_same h2.2] at ha
      cases ha
    · rw [h1] at ha; exact ha
    · have h2 := Tm.sms_mono (m := m + 1) (by omega) hs
      rw [Tm.sms_succ, Bool.and_eq_true, hd] at h2
      cases h2.2
  · intro e
    simp only [Tm.fd, List.any_eq_true, List.mem_range, Bool.and_eq_true]
    exact ⟨m, hm, h, e⟩
theorem Tm.ab_eq {rk za zb : List Int} (ha : Tm.err za = 0) (hb : Tm.err zb = 0) {i j : Nat} (hi : i < za.length) (hj : j < zb.length) : Tm.ab rk za zb i j = (Tm.bp rk za zb i j (Tm.room (za[i]?.getD 0)) || Tm.sy rk za zb i j) := by
  rw [Bool.eq_iff_iff]
  have s1 := Tm.sym_part ha hi
  have s2 := Tm.sym_part hb hj
  have k1 := fun m (hm : m < Tm.room (za[i]?.getD 0)) => Tm.kid_part ha hi hm
  have k2 := fun m (hm : m < Tm.room (zb[j]?.getD 0)) => Tm.kid_part hb hj hm
  have e1 : ∀ p q, Tm.ab rk za zb p q = true ↔ Tm.Gt (Tm.rankOf rk) (Tm.part za p) (Tm.part zb q) := fun p q => Tm.above_iff
  rw [e1, Tm.Gt.iff, s1, s2, Bool.or_eq_true]
  refine or_congr ?_ ?_
  · simp only [Tm.bp, List.any_eq_true, List.mem_range, Bool.or_eq_true, e1, Tm.sm, decide_eq_true_eq]
    exact exists_congr fun m => and_congr_right fun hm => by rw [k1 m hm]
  · simp only [Tm.sy, Bool.and_eq_true, decide_eq_true_eq]
    refine and_congr_right fun _ => and_congr_right fun _ => and_congr ?_ ?_
    · simp only [Tm.ov, List.all_eq_true, List.mem_range, e1]
      exact forall_congr' fun m => forall_congr' fun hm => by rw [k2 m hm]
    · by_cases e : za[i]?.getD 0 = zb[j]?.getD 0
      · rw [if_pos e]
        simp only [Tm.fd, List.any_eq_true, List.mem_range, Bool.and_eq_true, Tm.sms, List.all_eq_true, e1, Tm.sm, decide_eq_true_eq]
        constructor
        · rintro (⟨h, _⟩ | ⟨_, m, hm, hl, hk⟩)
          · exact absurd e h
          · exact ⟨m, hm, fun l hlm => by rw [← k1 l (by omega), ← k2 l (by rw [← e]; omega)]; exact hl l hlm, by rw [← k1 m hm, ← k2 m (by rw [← e]; exact hm)]; exact hk⟩
        · rintro ⟨m, hm, hl, hk⟩
          exact .inr ⟨e, m, hm, fun l hlm => by rw [k1 l (by omega), k2 l (by rw [← e]; omega)]; exact hl l hlm, by rw [k1 m hm, k2 m (by rw [← e]; exact hm)]; exact hk⟩
      · rw [if_neg e, decide_eq_true_eq]
        constructor
        · rintro (⟨_, h⟩ | ⟨h, _⟩)
          · exact h
          · exact absurd h e
        · exact fun h => .inl ⟨e, h⟩

/-- BLOCK b IS THE MAP M, from keys of type K. -/
def KMap (K : TypeId) (W : World) (b n : Nat) (M : Value → Option Value) : Prop :=
  ∃ D : DataW Value, W.ownsMap Try.prog K heldElem b n D ∧ ∀ (v : Value) (l : Lit), keyOf Try.prog K v = some l → Maps.has D l = (M v).isSome ∧ ∀ u, M v = some u → ∀ z, D.atKey l z = .held u
theorem KMap.made (K : TypeId) (w : World) : KMap K (w.alloc (.map #[] 0)) w.heap.size 0 (fun _ => none) :=
  ⟨_, World.ownsMap_made w _ _ _, fun _ _ _ => ⟨rfl, fun _ h => by cases h⟩⟩
theorem KMap.lt {K : TypeId} {W : World} {b n : Nat} {m : Value → Option Value} (h : KMap K W b n m) : b < W.heap.size := by
  obtain ⟨D, hD, _⟩ := h; exact hD.lt
theorem KMap.keep {K : TypeId} {W W' : World} {b n : Nat} {m : Value → Option Value} (h : KMap K W b n m) (hb : W'.heap[b]? = W.heap[b]?) : KMap K W' b n m := by
  obtain ⟨D, ⟨es, clock, hes, r⟩, r2⟩ := h
  exact ⟨D, ⟨es, clock, hb.trans hes, r⟩, r2⟩
theorem KMap.map {K : TypeId} {W : World} {b n : Nat} {m : Value → Option Value} (h : KMap K W b n m) : ∃ es clock, W.heap[b]? = some (.map es clock) := by
  obtain ⟨D, ⟨es, clock, hes, r⟩, r2⟩ := h; exact ⟨es, clock, hes⟩
theorem KMap.look {K : TypeId} (law : Keyed Try.prog K) {w : World} {b n : Nat} {M : Value → Option Value} (h : KMap K w b n M) {t e : TypeId} (ht : Try.prog.underlying t = some (.map K e)) {z : Value} (hz : (zeroValue e).run Try.prog w = .ok z w) {key : Value} {l : Lit} (hkey : keyOf Try.prog K key = some l) :
    (Instr.lookup t (.map (some b)) key true).run Try.prog w = .ok (.tuple #[(M key).getD z, .bool (M key).isSome]) w := by
  obtain ⟨D, hD, hh⟩ := h
  obtain ⟨h1, h2⟩ := hh key l hkey
  have hv : ∀ v, heldElem v = some (D.atKey l (.held z), []) → v = (M key).getD z := fun v hv => by
    unfold heldElem at hv
    simp only [Option.some.injEq, Prod.mk.injEq, and_true] at hv
    cases hm : M key with
    | none =>
      rw [atKey_none (hD.tidy law).isMap (by rw [h1, hm]; rfl)] at hv
      simpa using hv
    | some u =>
      rw [h2 u hm] at hv
      simpa using hv
  obtain ⟨v, ps, hrun, hR⟩ := hD.look_ok law ht hz (R := heldElem) (zd := .held z) (zp := []) rfl hkey
  have : ps = [] := by unfold heldElem at hR; simp at hR; exact hR.2
  subst this
  rw [hrun, hv v hR, h1]
theorem KMap.set {K : TypeId} (law : Keyed Try.prog K) {w : World} {b n : Nat} {M : Value → Option Value} (h : KMap K w b n M) {t e : TypeId} (ht : Try.prog.underlying t = some (.map K e)) (hn : n < maxLen) {key : Value} {l : Lit} (hkey : keyOf Try.prog K key = some l) (v : Value) :
    ∃ w' M', (Instr.mapUpdate t (.map (some b)) key v).run Try.prog w = .ok () w' ∧ KMap K w' b (n + 1) M' ∧ M' key = some v ∧ (∀ x, x ≠ key → M' x = M x) ∧ w.grownBy w' (some b) := by
  classical
  obtain ⟨D, hD, hh⟩ := h
  obtain ⟨w', hrun, h1, h2⟩ := hD.update (R := heldElem) law ht hn hkey (val := v) (d := .held v) (ps := []) rfl
  have hk : WideAt.IsKeyLit l := law.key hkey
  refine ⟨w', fun x => if x = key then some v else M x, hrun, ⟨_, h1, fun x lx hx => ?_⟩, by simp, fun x hx => by simp [hx], h2⟩
  by_cases e : x = key
  · subst e
    rw [hkey] at hx
    cases hx
    simp only [if_true]
    exact ⟨has_put_same (hD.tidy law).isMap hk _, fun u hu z => by cases hu; exact atKey_put_same (hD.tidy law).isMap hk _ _⟩
  · have hne : lx ≠ l := fun el => e (law.inj (by rw [el] at hx; exact hx) hkey)
    simp only [e, if_false]
    exact ⟨by rw [has_put_other hne]; exact (hh x lx hx).1, fun u hu z => by rw [atKey_put_other hne]; exact (hh x lx hx).2 u hu z⟩

section
variable (w : World) {ops : Array Oper} {rest : List Oper} {o : Oper} {a : Act} {Q : Exit → Act → World → Prop}
theorem wp_klook {K : TypeId} (law : Keyed Try.prog K) (hg : o.guard = none) (m x : Operand) (t : TypeId) (hop : o.op = Op.lookup t m x true) (e : TypeId) (ht : Try.prog.underlying t = some (.map K e)) {z : Value} (hz : (zeroValue e).run Try.prog w = .ok z w) (b n : Nat) (M : Value → Option Value)
    (hm : a.eval m = .map (some b)) (hI : KMap K w b n M) (key : Value) (l : Lit) (hx : a.eval x = key) (hkey : keyOf Try.prog K key = some l) (v : Value) (q : Bool) (hv : (M key).getD z = v) (hq : (M key).isSome = q)
    (hK : wpList Try.prog ops Q rest (a.put o.dst (.tuple #[v, .bool q])) w) : wpList Try.prog ops Q (o :: rest) a w := by
  refine wpList_plain hg fun K' hK' => ?_
  have hrun := hI.look law ht hz hkey
  rw [hv, hq] at hrun
  unfold Oper.wp
  simp [execOp, hop, hm, hx, hrun, Result.andThen]
  exact hK' _ _ hK
theorem wp_kset {K : TypeId} (law : Keyed Try.prog K) (hg : o.guard = none) (m x u : Operand) (t : TypeId) (hop : o.op = Op.mapUpdate t m x u) (e : TypeId) (ht : Try.prog.underlying t = some (.map K e)) (b n : Nat) (M : Value → Option Value)
    (hm : a.eval m = .map (some b)) (hI : KMap K w b n M) (hn : n < maxLen) (key : Value) (l : Lit) (hx : a.eval x = key) (hkey : keyOf Try.prog K key = some l) (v : Value) (hv : a.eval u = v)
    (hK : ∀ w' M', KMap K w' b (n + 1) M' → M' key = some v → (∀ x, x ≠ key → M' x = M x) → w.grownBy w' (some b) → wpList Try.prog ops Q rest (a.put o.dst undef) w') : wpList Try.prog ops Q (o :: rest) a w := by
  refine wpList_plain hg fun K' hK' => ?_
  obtain ⟨w', M', hrun, h1, h2, h3, h4⟩ := hI.set law ht hn hkey v
  unfold Oper.wp
  simp [execOp, hop, hm, hx, hv, hrun, Result.andThen]
  exact hK' _ _ (hK w' M' h1 h2 h3 h4)
end

/-- How many of the first N a test holds of. -/
theorem countP_more {p q : Nat → Bool} {x : Nat} (hp : p x = false) (hq : q x = true) (ho : ∀ y, y ≠ x → q y = p y) : ∀ N, x < N → (List.range N).countP q = (List.range N).countP p + 1 := by
  have key : ∀ N, N ≤ x → (List.range N).countP q = (List.range N).countP p := by
    intro N hN
    refine List.countP_congr fun y hy => ?_
    rw [ho y (by have := List.mem_range.1 hy; omega)]
  intro N
  induction N with
  | zero => intro h; omega
  | succ N ih =>
    intro h
    rw [List.range_succ, List.countP_append, List.countP_append]
    by_cases e : N = x
    · subst e; rw [key N (Nat.le_refl _)]; simp [hp, hq]
    · rw [ih (by omega)]; simp [ho N e]; omega

/-- The keys: two places. -/
def pk (i j : Nat) : Value := .agg #[.int .i64 (i : Int), .int .i64 (j : Int)]
theorem pk_inj {i j k l : Nat} (h : pk i j = pk k l) : i = k ∧ j = l := by simp [pk] at h; omega
theorem placesLaid : laidOutB Try.prog = true := by kernel_rfl
theorem placesRow : (67 : TypeId) < Try.prog.types.size := of_decide_eq_true (by kernel_rfl)
theorem placesKey : Try.prog.keyTypeAt 3 67 = true := by kernel_rfl
theorem lawPlaces : Keyed Try.prog 67 := Keyed.of_law (deep_law_laid placesLaid (m := 3) (by omega) placesRow placesKey (by rw [Try.underlying67]))
theorem placesType : Try.prog.keyType 67 = true := by kernel_rfl
theorem placesCells : Try.prog.cellsOf 67 = 2 := by kernel_rfl
theorem placesDeep : ∃ d, Try.prog.types.size + 1 = d + 2 := ⟨Try.prog.types.size - 1, by have h : 0 < Try.prog.types.size := Nat.lt_of_le_of_lt (Nat.zero_le _) placesRow; omega⟩
theorem intCells : Try.prog.cellsOf 3 = 1 := by kernel_rfl
theorem wf_small {n : Nat} (h : n ≤ 100000) : (Lit.int .i64 (n : Int)).wf = true := by
  simp [Lit.wf, IntKind.min, IntKind.max, IntKind.signed, IntKind.bits]
  omega
theorem pk_key {i j : Nat} (hi : i ≤ 100000) (hj : j ≤ 100000) : ∃ l, keyOf Try.prog 67 (pk i j) = some l := by
  obtain ⟨d, hd⟩ := placesDeep
  have h1 := wf_small hi
  have h2 := wf_small hj
  unfold keyOf pk
  rw [Try.underlying67, hd]
  simp [placesType, Value.formed, Try.underlying67, placesCells, Program.keyLits, Value.cells, intCells, Try.underlying3, h1, h2]
end Go.Proofs.Ytjaikmlbajdedac

namespace Go.Proofs.Ytjaikmlbajdedac
open Go.Proofs Go.RowKit Go.Shelf Go.Maps

/-- Where all lies, and what it is. -/
structure Sd where
  (S M br fr cr ba fa ca bb fb cb : Nat)
  (rk za zb : List Int)
/-- What was found is so. -/
def Found (C : Sd) (W : World) (tbl : Value → Option Value) : Prop := ∃ (n : Nat), KMap 67 W C.M n tbl ∧ (∀ i j v, tbl (pk i j) = some v → v = .agg #[.bool (Tm.ab C.rk C.za C.zb i j)]) ∧ n ≤ (List.range 900).countP fun x => (tbl (pk (x / 30) (x % 30))).isSome
structure Sides (C : Sd) (W : World) (tbl : Value → Option Value) : Prop where
  blk : W.heap[C.S]? = some (.cells #[.slice (some ⟨C.br, C.fr, none⟩) C.rk.length C.cr, .slice (some ⟨C.ba, C.fa, none⟩) C.za.length C.ca, .slice (some ⟨C.bb, C.fb, none⟩) C.zb.length C.cb, .map (some C.M)] 64 (0, 0))
  ir : Ints W.heap.size W (some ⟨C.br, C.fr, none⟩) C.rk
  ia : Ints W.heap.size W (some ⟨C.ba, C.fa, none⟩) C.za
  ib : Ints W.heap.size W (some ⟨C.bb, C.fb, none⟩) C.zb
  fnd : Found C W tbl
/-- What is asked of the two terms. -/
structure SdOk (C : Sd) : Prop where
  ea : Tm.err C.za = 0
  eb : Tm.err C.zb = 0
  er : C.rk.length = 6
  ca : C.za.length ≤ C.ca
  cb : C.zb.length ≤ C.cb
  ca' : C.ca ≤ maxLen
  cb' : C.cb ≤ maxLen
theorem Sides.c0 {C : Sd} {W : World} {tbl : Value → Option Value} (h : Sides C W tbl) : W.cell? ⟨C.S, 0, none⟩ = some (.slice (some ⟨C.br, C.fr, none⟩) C.rk.length C.cr) := by simp [World.cell?, h.blk]
theorem Sides.c1 {C : Sd} {W : World} {tbl : Value → Option Value} (h : Sides C W tbl) : W.cell? ⟨C.S, 1, none⟩ = some (.slice (some ⟨C.ba, C.fa, none⟩) C.za.length C.ca) := by simp [World.cell?, h.blk]
theorem Sides.c2 {C : Sd} {W : World} {tbl : Value → Option Value} (h : Sides C W tbl) : W.cell? ⟨C.S, 2, none⟩ = some (.slice (some ⟨C.bb, C.fb, none⟩) C.zb.length C.cb) := by simp [World.cell?, h.blk]
theorem Sides.c3 {C : Sd} {W : World} {tbl : Value → Option Value} (h : Sides C W tbl) : W.cell? ⟨C.S, 3, none⟩ = some (.map (some C.M)) := by simp [World.cell?, h.blk]
theorem Sides.lt {C : Sd} {W : World} {tbl : Value → Option Value} (h : Sides C W tbl) : C.S < W.heap.size := (Array.getElem?_eq_some_iff.1 h.blk).1
theorem Sides.ltM {C : Sd} {W : World} {tbl : Value → Option Value} (h : Sides C W tbl) : C.M < W.heap.size := by
  obtain ⟨n, hK, _⟩ := h.fnd; exact hK.lt
theorem Found.keep {C : Sd} {W W' : World} {tbl : Value → Option Value} (h : Found C W tbl) (hb : W'.heap[C.M]? = W.heap[C.M]?) : Found C W' tbl := by
  obtain ⟨n, hK, r⟩ := h; exact ⟨n, hK.keep hb, r⟩
theorem Sides.below {C : Sd} {W W' : World} {tbl : Value → Option Value} (h : Sides C W tbl) (hB : Below W.heap.size W W') : Sides C W' tbl :=
  ⟨(hB.block _ h.lt).trans h.blk, (h.ir.below hB).mono hB.size, (h.ia.below hB).mono hB.size, (h.ib.below hB).mono hB.size, h.fnd.keep (hB.block _ h.ltM)⟩
theorem Sides.neM {C : Sd} {W : World} {tbl : Value → Option Value} (h : Sides C W tbl) : C.S ≠ C.M := by
  obtain ⟨n, hK, _⟩ := h.fnd
  obtain ⟨es, cl, hm⟩ := hK.map
  exact ne_map h.c0 hm
theorem ints_keepM {n m : Nat} {W W' : World} {a : Option Addr} {zs : List Int} (h : Ints n W a zs) (hK : Keep n m W W') {es : Array MapEntry} {cl : Nat} (hm : W.heap[m]? = some (Obj.map es cl)) : Ints n W' a zs := fun j hj => by
  obtain ⟨b, off, e, hb, hc⟩ := h j hj
  exact ⟨b, off, e, hb, (hK.cell (p := ⟨b, off + j, none⟩) hb (ne_map hc hm)).trans hc⟩
/-- All but what was found. -/
theorem Sides.keep {C : Sd} {W W' : World} {tbl tbl' : Value → Option Value} (h : Sides C W tbl) (hK : Keep W.heap.size C.M W W') (hf : Found C W' tbl') : Sides C W' tbl' := by
  obtain ⟨n, hKM, _⟩ := h.fnd
  obtain ⟨es, cl, hm⟩ := hKM.map
  exact ⟨(hK.block _ h.lt h.neM).trans h.blk, (ints_keepM h.ir hK hm).mono hK.size, (ints_keepM h.ia hK hm).mono hK.size, (ints_keepM h.ib hK hm).mono hK.size, hf⟩
/-- What was found is noted. -/
theorem Found.note {C : Sd} {W' : World} {tbl tbl' : Value → Option Value} {n i j : Nat} (hi : i < 30) (hj : j < 30) (htb : ∀ i j v, tbl (pk i j) = some v → v = .agg #[.bool (Tm.ab C.rk C.za C.zb i j)]) (hn : n ≤ (List.range 900).countP fun x => (tbl (pk (x / 30) (x % 30))).isSome) (h0 : tbl (pk i j) = none)
    (hK : KMap 67 W' C.M (n + 1) tbl') (h1 : tbl' (pk i j) = some (.agg #[.bool (Tm.ab C.rk C.za C.zb i j)])) (h2 : ∀ x, x ≠ pk i j → tbl' x = tbl x) : Found C W' tbl' := by
  refine ⟨n + 1, hK, fun k l v hv => ?_, ?_⟩
  · by_cases e : pk k l = pk i j
    · obtain ⟨rfl, rfl⟩ := pk_inj e
      rw [h1] at hv
      cases hv; rfl
    · rw [h2 _ e] at hv; exact htb k l v hv
  · rw [countP_more (p := fun x => (tbl (pk (x / 30) (x % 30))).isSome) (q := fun x => (tbl' (pk (x / 30) (x % 30))).isSome) (x := i * 30 + j) ?_ ?_ ?_ 900 (by omega)]
    · omega
    · rw [show (i * 30 + j) / 30 = i from by omega, show (i * 30 + j) % 30 = j from by omega, h0]; rfl
    · rw [show (i * 30 + j) / 30 = i from by omega, show (i * 30 + j) % 30 = j from by omega, h1]; rfl
    · intro y hy
      have : pk (y / 30) (y % 30) ≠ pk i j := fun e => by
        obtain ⟨e1, e2⟩ := pk_inj e
        exact hy (by omega)
      simp only [h2 _ this]
theorem Found.small {n : Nat} {tbl : Value → Option Value} (hn : n ≤ (List.range 900).countP fun x => (tbl (pk (x / 30) (x % 30))).isSome) : n ≤ 900 := by
  have := List.countP_le_length (p := fun x => (tbl (pk (x / 30) (x % 30))).isSome) (l := List.range 900)
  rw [List.length_range] at this
  omega
/-- HOW above AND ITS LIKE ANSWER: q; what was found of the places dom is as it was. -/
def AboveAns (C : Sd) (q : Bool) (dom : Nat → Nat → Prop) (tbl : Value → Option Value) (w : World) (e : Ending) (w' : World) : Prop :=
  e = .returned (.bool q) ∧ Keep w.heap.size C.M w w' ∧ ∃ tbl', Sides C w' tbl' ∧ ∀ i j, dom i j → tbl' (pk i j) = tbl (pk i j)
def AboveAt (C : Sd) (f : Nat) (i j : Nat) (q : Bool) (dom : Nat → Nat → Prop) : Prop :=
  ∀ (W : World) (tbl : Value → Option Value), Sides C W tbl → Calls Try.prog f #[.pointer (some ⟨C.S, 0, none⟩), .agg #[.int .i64 (i : Int), .int .i64 (j : Int)]] W (AboveAns C q dom tbl W)

end Go.Proofs.Ytjaikmlbajdedac
