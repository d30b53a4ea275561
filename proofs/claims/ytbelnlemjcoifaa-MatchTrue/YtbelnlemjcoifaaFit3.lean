/-
  match.firstError, match.Fit.
-/
import Derived.Test.YtbelnlemjcoifaaFit2
namespace Go.Proofs.Ytbelnlemjcoifaa
open Go.Proofs Go.RowKit Go.Shelf Go.Maps

set_option maxRecDepth 100000 in
set_option maxHeartbeats 400000 in
theorem firstError_any (ss : List (List Int)) (hl : ss.length ≤ 1000) (a : Option Addr) (cap : Nat) (w : World) (hS : Subs w.heap.size w a ss) :
    Calls Try.prog 61 #[.slice a ss.length cap] w fun e w' => e = .returned (.int .i64 (Tm.firstErr ss)) ∧ Below w.heap.size w w' := by
  have HS := hid hS
  have hl' : (ss.length : Int) ≤ 1000 := by omega
  clear hS
  go_enter Try.func61, Try.ntmps61
  go_wp2
  go_loopw [8] (fun i wr => ∃ k : Nat, k ≤ ss.length ∧ i = .int .i64 (k : Int) ∧ Hid (Tm.firstErr ss = Tm.firstErr (ss.drop k)) ∧ Below w.heap.size w wr) (fun i _ => ss.length - (intOf i).toNat)
  case atStart => exact ⟨0, Nat.zero_le _, rfl, rfl, Below.refl _ _⟩
  case round =>
    obtain ⟨k, hk, rfl, hf, hB⟩ := hrel
    by_cases hlt : k < ss.length
    · have hlt' : (k : Int) < (ss.length : Int) := by omega
      obtain ⟨b, off, rfl, hb, hc⟩ := HS.out.at (by omega)
      obtain ⟨aj, cj, hcj, hIj, _⟩ := hc k hlt
      have hcj' := (hB.cell (p := ⟨b, off + k, none⟩) hb).trans hcj
      have hC := check_any (ss[k]?.getD []) aj cj wr ((hIj.below hB).mono hB.size)
      have hst := hid (Tm.firstErr_step (ss := ss) (k := k) hlt)
      have hsp := hid (Tm.firstErr_stop (ss := ss) (k := k) hlt)
      clear hcj hIj hc
      generalize ss[k]?.getD [] = t at *
      by_cases he : Tm.err t = 0
      · have hst' := hid (hf.out.trans (hst.out he))
        rw [he] at hC
        clear hst hsp he hf
        go_wp2_with (go_at_call 19; refine hC.mono ?_; clear hC; rintro e w1 ⟨rfl, hB1⟩)
        go_roundw
        case rel => exact ⟨k + 1, by omega, by go_num, hst'.out, hB.trans (hB1.mono hB.size)⟩
        case measure => simp [intOf]; omega
      · have hsp' := hid (hf.out.trans (hsp.out he))
        have hne : (Tm.err t != 0) = true := by simp [he]
        clear hst hsp he hf
        generalize Tm.err t = q at *
        go_wp2_with (go_at_call 19; refine hC.mono ?_; clear hC; rintro e w1 ⟨rfl, hB1⟩)
        go_ret
        exact ⟨by rw [hsp'.out]; rfl, hB.trans (hB1.mono hB.size)⟩
    · obtain rfl : k = ss.length := by omega
      have h0 : Hid (Tm.firstErr ss = 0) := by
        show _ = _
        rw [hf.out, List.drop_length]
        rfl
      clear hf
      go_wp2
      go_ret
      exact ⟨by rw [h0.out]; rfl, hB⟩

theorem subs_two (W : World) (p t : List Int) (ap at' : Option Addr) (cp ct n : Nat) (hn : n = W.heap.size + 1) (hP : Ints W.heap.size W ap p) (hT : Ints W.heap.size W at' t) (h1 : p.length ≤ cp ∧ cp ≤ maxLen ∧ (ap = none → cp = 0)) (h2 : t.length ≤ ct ∧ ct ≤ maxLen ∧ (at' = none → ct = 0)) :
    Subs n (W.alloc (.cells #[.slice ap p.length cp, .slice at' t.length ct] 23)) (some ⟨W.heap.size, 0, none⟩) [p, t] := by
  have hB : Below W.heap.size W (W.alloc (.cells #[.slice ap p.length cp, .slice at' t.length ct] 23)) := (Below.refl _ _).alloc (Nat.le_refl _) _
  have hnew := World.alloc_heap_new W (.cells #[.slice ap p.length cp, .slice at' t.length ct] 23)
  intro j hj
  simp only [List.length_cons, List.length_nil] at hj
  match j, hj with
  | 0, _ => exact ⟨W.heap.size, 0, ap, cp, rfl, by omega, (cell_at hnew 0).trans rfl, (hP.below hB).mono (by omega), h1⟩
  | 1, _ => exact ⟨W.heap.size, 0, at', ct, rfl, by omega, (cell_at hnew 1).trans rfl, (hT.below hB).mono (by omega), h2⟩

theorem first_two (p t : List Int) (ap at' : Option Addr) (cp ct : Nat) (W : World) (hP : Ints W.heap.size W ap p) (hT : Ints W.heap.size W at' t) (h1 : p.length ≤ cp ∧ cp ≤ maxLen ∧ (ap = none → cp = 0)) (h2 : t.length ≤ ct ∧ ct ≤ maxLen ∧ (at' = none → ct = 0)) :
    Calls Try.prog 61 #[.slice (some ⟨W.heap.size, 0, none⟩) 2 2] (W.alloc (.cells #[.slice ap p.length cp, .slice at' t.length ct] 23)) fun e w' => e = .returned (.int .i64 (Tm.fitErr p t)) ∧ Below W.heap.size W w' :=
  (firstError_any [p, t] (by simp) _ 2 _ (subs_two W p t ap at' cp ct _ (by simp) hP hT h1 h2)).mono fun e w' ⟨h, hB⟩ => ⟨h, ((Below.refl _ _).alloc (Nat.le_refl _) _).trans (hB.mono (by simp))⟩

theorem newS_cell {base : Nat} {W : World} {g c : Nat} {ss : List (List Int)} (h : NewS base W (.slice (some ⟨g, 0, none⟩) 8 c) ss) (hl : ss.length = 8) {k : Nat} (hk : k < 8) :
    base ≤ g ∧ ∃ x, W.cell? ⟨g, k, none⟩ = some x ∧ W.frozen? ⟨g, k, none⟩ = false := by
  obtain ⟨us, h1, _⟩ := h
  rw [hl] at h1
  have hus : us.length = 8 := by have := h1.1; omega
  have c0 := World.ownsRow.cellAt h1 k (by omega)
  rw [List.getElem?_eq_getElem (by omega)] at c0
  exact ⟨(World.ownsRow.lt h1 g rfl).1, _, c0, World.ownsRow.frozenAt h1 k⟩

set_option maxRecDepth 100000 in
set_option maxHeartbeats 1000000 in
/-- match.Fit. -/
theorem Fit_any (p t : List Int) (ap at' : Option Addr) (cp ct : Nat) (w : World) (hP : Ints w.heap.size w ap p) (hT : Ints w.heap.size w at' t) (h1 : p.length ≤ cp ∧ cp ≤ maxLen ∧ (ap = none → cp = 0)) (h2 : t.length ≤ ct ∧ ct ≤ maxLen ∧ (at' = none → ct = 0)) :
    Calls Try.prog 36 #[.slice ap p.length cp, .slice at' t.length ct] w fun e w' => ∃ v, e = .returned (.tuple #[v, .bool (Tm.fitIs p t), .int .i64 (Tm.fitErr p t)]) ∧ NewS w.heap.size w' v (Tm.fitVal p t) ∧ Below w.heap.size w w' := by
  have hC := first_two p t ap at' cp ct w hP hT h1 h2
  by_cases he : Tm.fitErr p t = 0
  · obtain ⟨hp, ht⟩ := Tm.fitErr_ok he
    have hfit : ∀ W, Below w.heap.size w W → Calls Try.prog 62 #[.slice ap p.length cp, .slice at' t.length ct] W fun e w' => Below W.heap.size W w' ∧ FitAns W w' e (Tm.fit p t) := fun W hW =>
      fit_any p t ap at' cp ct W hp ht ((hP.below hW).mono hW.size) ((hT.below hW).mono hW.size) h2.1 h2.2.1
    cases hf : Tm.fit p t with
    | none =>
      obtain ⟨e1, e2⟩ := Tm.fit_no he hf
      rw [hf] at hfit
      rw [e1, e2, he]
      rw [he] at hC
      have HF := hid hfit
      clear hfit hf e1 e2 hp ht he hP hT h1 h2
      go_enter Try.func36, Try.ntmps36
      go_wp2_with (first
        | (go_at_call 61; refine hC.mono ?_; clear hC; rintro e w1 ⟨rfl, hB1⟩)
        | (go_at_call 62; refine (HF.out _ hB1).mono ?_; rintro e w2 ⟨hB2, rfl⟩; have hB3 := hB1.trans (hB2.mono hB1.size)))
      go_ret3
      exact ⟨_, rfl, NewS.nil _ _, hB3⟩
    | some m =>
      obtain ⟨e1, e2⟩ := Tm.fit_yes he hf
      rw [hf] at hfit
      rw [e1, e2, he]
      rw [he] at hC
      have HF := hid hfit
      clear hfit hf e1 e2 hp ht he hP hT h1 h2
      go_enter Try.func36, Try.ntmps36
      go_wp2_with (first
        | (go_at_call 61; refine hC.mono ?_; clear hC; rintro e w1 ⟨rfl, hB1⟩)
        | (go_at_call 62; refine (HF.out _ hB1).mono ?_; rintro e w2 ⟨hB2, bm, N, rfl, hbm, M, hM, hMn, hMs⟩; have hB3 := hB1.trans (hB2.mono hB1.size); have HMn := hid hMn; have HMs := hid hMs; have HM := hid hM; clear hMn hMs hM)
        | (go_at_call 35; refine (none_any _).mono ?_; rintro e w3 ⟨v, rfl, hN, hB4⟩; have hB5 := hB3.trans (hB4.mono hB3.size); have hlen : (Tm.noneL 8).length = 8 := Tm.noneL_length 8; obtain ⟨g, c, rfl⟩ : ∃ g c, v = .slice (some ⟨g, 0, none⟩) 8 c := (by obtain ⟨us, h1, _⟩ := hN; rw [hlen] at h1; exact ownsRow_succ h1)))
      have hM3 := hid (HM.out.keep (hB4.block _ HM.out.lt))
      have hgm : g ≠ bm := by
        obtain ⟨us, h1, _⟩ := hN
        have := (World.ownsRow.lt h1 g rfl).1
        have := HM.out.lt
        omega
      have hg2 : w2.heap.size ≤ g := by
        obtain ⟨us, h1, _⟩ := hN
        exact (World.ownsRow.lt h1 g rfl).1
      have HN := hid hN
      clear hN HM hlen
      go_loopw [32] (fun i wr => ∃ k : Nat, k ≤ 8 ∧ i = .int .i64 (k : Int) ∧ Hid (NewS w.heap.size wr (.slice (some ⟨g, 0, none⟩) 8 c) (Tm.fitL m k)) ∧ Hid (IntMap wr bm N M) ∧ Below w1.heap.size w2 wr) (fun i _ => 8 - (intOf i).toNat)
      case atStart => exact ⟨0, Nat.zero_le _, rfl, by rw [Tm.fitL_zero]; exact HN.out.mono hB3.size, hM3, hB4.mono hB2.size⟩
      case round =>
        obtain ⟨k, hk, rfl, hNk, hMk, hBk⟩ := hrel
        by_cases hlt : k < 8
        · have hlt' : (k : Int) < 8 := by omega
          have hk0 : (0 : Int) ≤ (k : Int) := by omega
          have hwf := hid (wf64 (s := -1 - (k : Int)) (by omega) (by omega))
          cases hm : m (-1 - (k : Int)) with
          | none =>
            have hMs := hid (HMn.out _ hm)
            have hst := hid (Tm.fitL_none hm)
            clear hm
            go_wp2_with (first
              | (at_lookup; go_loud (refine wp_look_miss _ rfl _ _ 64 rfl 23 Try.underlying64 (zeroTerm _) bm N M rfl hMk.out (-1 - (k : Int)) rfl hwf.out hMs.out ?_)))
            go_roundw
            case rel => exact ⟨k + 1, by omega, by go_num, by rw [hst.out]; exact hNk.out, hMk, hBk⟩
            case measure => simp [intOf]; omega
          | some zs =>
            obtain ⟨v, hMs, b3, off3, c3, rfl, hI3, _, _, h30⟩ := HMs.out _ zs hm
            have hst := hid (Tm.fitL_some hm)
            have HMv := hid hMs
            have hs12 := hB2.size
            have hCl := clone_any zs b3 off3 c3 wr h30 ((hI3.below hBk).mono (by have := hBk.size; omega))
            clear hm hMs hI3
            go_wp2_with (first
              | (at_lookup; go_loud (refine wp_look_hit _ rfl _ _ 64 rfl 23 Try.underlying64 (zeroTerm _) bm N M rfl hMk.out (-1 - (k : Int)) rfl hwf.out _ HMv.out ?_))
              | (go_at_call 45; refine hCl.mono ?_; clear hCl; rintro e w5 ⟨u, rfl, hNu, hBu⟩; obtain ⟨au, cu, rfl, _⟩ := New.ints hNu; have hN5 := hid (hNk.out.below hBu); obtain ⟨hg5, x5, hc5, hf5⟩ := newS_cell hN5.out (Tm.fitL_length m k) hlt))
            have hBs : Below w.heap.size w wr := hB1.trans ((hB2.trans hBk).mono hB1.size)
            go_roundw
            case rel =>
              refine ⟨k + 1, by omega, by go_num, ?_, ?_, ?_⟩
              · rw [hst.out]
                exact hN5.out.set (Tm.fitL_length m k).symm (hNu.mono hBs.size) k
              · exact (hMk.out.keep (hBu.block _ hMk.out.lt)).keep (Below.heap_setCell _ _ _ _ (fun e => hgm e.symm))
              · exact (hBk.trans (hBu.mono (by have := hBk.size; omega))).setCell (p := ⟨g, k, none⟩) (show w1.heap.size ≤ g by omega) _
            case measure => simp [intOf]; omega
        · obtain rfl : k = 8 := by omega
          go_wp2
          go_ret3
          exact ⟨_, rfl, hNk.out, hB1.trans ((hB2.trans hBk).mono hB1.size)⟩
  · obtain ⟨e1, e2⟩ := Tm.fit_bad he
    rw [e1, e2]
    have hne : (Tm.fitErr p t != 0) = true := by simp [he]
    clear hP hT e1 e2 he h1 h2
    generalize Tm.fitErr p t = q at *
    go_enter Try.func36, Try.ntmps36
    go_wp2_with (first
      | (go_at_call 61; refine hC.mono ?_; clear hC; rintro e w1 ⟨rfl, hB1⟩))
    go_ret3
    exact ⟨_, rfl, NewS.nil _ _, hB1⟩

end Go.Proofs.Ytbelnlemjcoifaa
