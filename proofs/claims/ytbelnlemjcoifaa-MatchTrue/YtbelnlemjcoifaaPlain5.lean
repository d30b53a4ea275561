/-
  haspref.plain, PlainOf.
-/
import Derived.Test.YtbelnlemjcoifaaPlain4
namespace Go.Proofs.Ytbelnlemjcoifaa
open Go.Proofs Go.RowKit Go.Shelf Go.Maps

theorem New.drewN {base : Nat} {W : World} {v : Value} {zs : List Int} (h : New base W v zs) (d : Nat) : New base (W.drewN d) v zs := h
theorem New.own_lt {base : Nat} {W : World} {g n c : Nat} {zs : List Int} (h : New base W (.slice (some ⟨g, 0, none⟩) n c) zs) : base ≤ g ∧ g < W.heap.size := World.ownsRow.lt h g rfl
theorem New.at0 {base : Nat} {W : World} {v : Value} {zs : List Int} (h : New base W v zs) (h0 : 0 < zs.length) : ∃ g c, v = .slice (some ⟨g, 0, none⟩) zs.length c ∧ (∀ j, j < zs.length → W.cell? ⟨g, j, none⟩ = some (.int .i64 (zs[j]?.getD 0))) ∧ ∀ j, W.frozen? ⟨g, j, none⟩ = false := by
  obtain ⟨m, hm⟩ : ∃ m, zs.length = m + 1 := ⟨zs.length - 1, by omega⟩
  have h' : W.ownsRow base 3 1 v (m + 1) (zs.map (Value.int .i64)) := by rw [← hm]; exact h
  obtain ⟨g, c, rfl⟩ := ownsRow_succ h'
  rw [← hm] at h'
  refine ⟨g, c, by rw [hm], fun j hj => ?_, fun j => ?_⟩
  · have := World.ownsRow.cellAt (by rw [hm] at h'; exact h') j (by omega)
    rw [this]
    simp [hj]
  · exact World.ownsRow.frozenAt (by rw [hm] at h'; exact h') j

/-- haspref.plain, one round: what stands before it and behind it. -/
def PlainSt (w W1 : World) (t : List Int) (g n c k : Nat) (vs : Value) (wr : World) : Prop :=
  New W1.heap.size wr vs (Tm.seenFrom [] (t.take k)) ∧ New w.heap.size wr (.slice (some ⟨g, 0, none⟩) n c) (Tm.half t k) ∧ Below w.heap.size w wr ∧ W1.heap.size ≤ wr.heap.size

theorem PlainSt.same {w W1 : World} {t : List Int} {g n c k : Nat} {vs : Value} {wr : World} (h : PlainSt w W1 t g n c k vs wr) (hk : k < t.length) (hs : 0 ≤ t[k]?.getD 0) : PlainSt w W1 t g n c (k + 1) vs wr := by
  obtain ⟨h1, h2, h3, h4⟩ := h
  refine ⟨?_, ?_, h3, h4⟩
  · rw [Tm.seen_succ [] hk, Tm.see_same hs]; exact h1
  · rw [Tm.half_same hk hs]; exact h2

theorem PlainSt.store {w W1 : World} {t : List Int} {g n c k : Nat} {vs : Value} {wr : World} (hg : g < W1.heap.size) (hn : n = t.length) (hk : k < t.length)
    (h1 : New W1.heap.size wr vs (Tm.seenFrom [] (t.take (k + 1)))) (h2 : New w.heap.size wr (.slice (some ⟨g, 0, none⟩) n c) (Tm.half t k)) (h3 : Below w.heap.size w wr) (h4 : W1.heap.size ≤ wr.heap.size)
    (x : Int) (hx : x = Tm.name (Tm.seenFrom [] (t.take k)) (t[k]?.getD 0)) : PlainSt w W1 t g n c (k + 1) vs (wr.setCell ⟨g, k, none⟩ (.int .i64 x)) := by
  have hgr := grownBy_setCell1 wr g k (.int .i64 x)
  refine ⟨World.ownsRow.kept h1 hgr (.inr fun e => ?_), ?_, h3.setCell (p := ⟨g, k, none⟩) h2.own_lt.1 _, Nat.le_trans h4 hgr.size⟩
  · have := (World.ownsRow.lt h1 g e).1
    omega
  · rw [Tm.half_succ hk, ← hx]
    exact h2.set (by rw [Tm.half_length (by omega)]; exact hn) k x

set_option maxRecDepth 100000 in
set_option maxHeartbeats 2000000 in
/-- haspref.plain, of a right term. -/
theorem refplain_any (t : List Int) (at' : Option Addr) (ct : Nat) (w : World) (ht : t.length ≤ 30) (h0 : 0 < t.length) (h8 : ∀ k, k < t.length → -8 ≤ t[k]?.getD 0) (hT : Ints w.heap.size w at' t) :
    Calls Try.prog 60 #[.slice at' t.length ct] w fun e w' => ∃ v, e = .returned v ∧ New w.heap.size w' v (Tm.plain t) ∧ Below w.heap.size w w' := by
  have hlen : (t.length : Int) ≤ 30 := by omega
  obtain ⟨b, off, rfl, hb, hc⟩ := hT.at h0
  have hl : New w.heap.size (w.alloc (.cells #[] 3)) (.slice (some ⟨w.heap.size, 0, none⟩) 0 0) [] := New.lit w.heap.size w [] (Nat.le_refl _) (by unfold maxLen; simp)
  have hB0 : Below w.heap.size w (w.alloc (.cells #[] 3)) := (Below.refl _ _).alloc (Nat.le_refl _) _
  have HT := hid hT
  have Hc := hid hc
  have H8 := hid h8
  clear hT hc h8
  go_enter Try.func60, Try.ntmps60
  go_wp2_with (at_builtin; go_loud (refine wp_append_ints _ rfl (.tmp 8) (.tmp 9) rfl w.heap.size _ [] rfl hl _ t ct rfl (fun e => by cases e) ((HT.out.below hB0).mono hB0.size) (by simp; omega) hB0.size ?_); intro v1 W1 hN1 hB1; obtain ⟨g, c, rfl, _⟩ := New.at0 hN1 (by simpa using h0))
  have hB2 := hB0.trans hB1
  clear hB0 hB1 hl
  simp only [List.nil_append] at *
  have hgl := hN1.own_lt.2
  have hB2s := hB2.size
  go_loopw [3, 5] (fun vs i wr => ∃ k : Nat, k ≤ t.length ∧ i = .int .i64 (k : Int) ∧ Hid (PlainSt w W1 t g t.length c k vs wr)) (fun _ i _ => t.length - (intOf i).toNat)
  case atStart => exact ⟨0, Nat.zero_le _, rfl, New.nil _ _, by rw [Tm.half_zero]; exact hN1, hB2, Nat.le_refl _⟩
  case round =>
    clear hN1 hB2
    obtain ⟨k, hk, rfl, hP⟩ := hrel
    by_cases hlt : k < t.length
    · have hlt' : (k : Int) < (t.length : Int) := by omega
      have hck := (hP.out.2.2.1.cell (p := ⟨b, off + k, none⟩) hb).trans (Hc.out k hlt)
      by_cases hneg : t[k]?.getD 0 < 0
      · have hsl := Tm.seen_len (t.take k) []
        rw [List.length_take] at hsl
        simp only [List.length_nil, Nat.zero_add] at hsl
        have hnd := hid (Tm.seen_nodup (t.take k) [] List.nodup_nil)
        have hse := hid (Tm.seen_succ [] hlt)
        have hnm : Hid (Tm.name (Tm.seenFrom [] (t.take k)) (t[k]?.getD 0) = -1 - (Tm.idx (Tm.seenFrom [] (t.take k)) (t[k]?.getD 0) : Int)) := by
          show _ = _
          unfold Tm.name
          rw [if_pos hneg]
        have hst : Hid (∀ (vs' : Value) (w' : World) (x : Int), New W1.heap.size w' vs' (Tm.seenFrom [] (t.take (k + 1))) → New w.heap.size w' (.slice (some ⟨g, 0, none⟩) t.length c) (Tm.half t k) → Below w.heap.size w w' → W1.heap.size ≤ w'.heap.size →
            x = Tm.name (Tm.seenFrom [] (t.take k)) (t[k]?.getD 0) → PlainSt w W1 t g t.length c (k + 1) vs' (w'.setCell ⟨g, k, none⟩ (.int .i64 x))) :=
          fun vs' w' x a1 a2 a3 a4 a5 => PlainSt.store hgl rfl hlt a1 a2 a3 a4 x a5
        obtain ⟨p1, p2, p3, p4⟩ := hP.out
        have Hhl : Hid ((Tm.half t k).length = t.length) := Tm.half_length hk
        clear hP
        generalize Tm.name (Tm.seenFrom [] (t.take k)) (t[k]?.getD 0) = nm at *
        generalize Tm.seenFrom [] (t.take (k + 1)) = seen' at *
        generalize Tm.seenFrom [] (t.take k) = seen at *
        generalize Tm.half t k = hf at *
        generalize t[k]?.getD 0 = s at *
        obtain ⟨az, cs, rfl, hIs, hcs, _⟩ := New.ints p1
        have HIs := hid hIs
        have hsl' : (seen.length : Int) ≤ 30 := by omega
        clear hIs hcs
        go_wp2
        go_loopw [6, 7] (fun q i wq => ∃ (m d : Nat), m ≤ seen.length ∧ i = .int .i64 (m : Int) ∧ wq = wr.drewN d ∧ ((q = .int .i64 (-1) ∧ Hid (∀ j, j < m → seen[j]?.getD 0 ≠ s)) ∨ ∃ j : Nat, j < m ∧ q = .int .i64 (j : Int) ∧ Hid (seen[j]?.getD 0 = s))) (fun _ i _ => seen.length - (intOf i).toNat)
        case atStart => exact ⟨0, 0, Nat.zero_le _, rfl, rfl, .inl ⟨rfl, fun j hj => by omega⟩⟩
        case round =>
          obtain ⟨m, d, hm, rfl, rfl, hq⟩ := hrel
          by_cases hml : m < seen.length
          · have hml' : (m : Int) < (seen.length : Int) := by omega
            obtain ⟨gs, os, rfl, hbs, hcs⟩ := HIs.out.at (by omega)
            have hcm := hcs m hml
            have hnn := hid (show seen[m]?.getD 0 ≠ s → (∀ j, j < m → seen[j]?.getD 0 ≠ s) → ∀ j, j < m + 1 → seen[j]?.getD 0 ≠ s from fun e1 e2 j hj => by
              by_cases e : j = m
              · subst e; exact e1
              · exact e2 j (by omega))
            clear hcs
            obtain ⟨y, hy⟩ : ∃ y, seen[m]?.getD 0 = y := ⟨_, rfl⟩
            rw [hy] at hcm
            have Hy := hid hy
            clear hy
            by_cases he : y = s
            · have hn : (y == s) = true := by simp [he]
              have hyy' : Hid (seen[m]?.getD 0 = s) := Hy.out.trans he
              clear he hnn hq
              go_wp2
              go_quiet (fail)
              go_wp2
              go_roundw
              case rel => exact ⟨m + 1, _, by omega, by go_num, rfl, .inr ⟨m, by omega, rfl, hyy'⟩⟩
              case measure => simp [intOf]; omega
            · have hn : (y == s) = false := by simp [he]
              have hnn' : Hid ((∀ j, j < m → seen[j]?.getD 0 ≠ s) → ∀ j, j < m + 1 → seen[j]?.getD 0 ≠ s) := hnn.out (by rw [Hy.out]; exact he)
              clear he hnn
              rcases hq with ⟨rfl, hno⟩ | ⟨j, hj, rfl, hyes⟩
              · go_wp2
                go_quiet (fail)
                go_wp2
                go_roundw
                case rel => exact ⟨m + 1, _, by omega, by go_num, rfl, .inl ⟨rfl, hnn'.out hno.out⟩⟩
                case measure => simp [intOf]; omega
              · go_wp2
                go_quiet (fail)
                go_wp2
                go_roundw
                case rel => exact ⟨m + 1, _, by omega, by go_num, rfl, .inr ⟨j, by omega, rfl, hyes⟩⟩
                case measure => simp [intOf]; omega
          · obtain rfl : m = seen.length := by omega
            have q1 := New.drewN p1 d
            have q2 := New.drewN p2 d
            have q3 := below_drewN p3 d
            have q4 : W1.heap.size ≤ (wr.drewN d).heap.size := p4
            obtain ⟨g', c', e', hcg, hfg⟩ := New.at0 q2 (by rw [Hhl.out]; exact h0)
            have hgc := hcg k (by rw [Hhl.out]; exact hlt)
            have hfk := hfg k
            have e'' : g = g' := by simp only [Value.slice.injEq, Option.some.injEq, Addr.mk.injEq] at e'; exact e'.1.1
            subst e''
            have hckd : (wr.drewN d).cell? ⟨b, off + k, none⟩ = some (.int .i64 s) := hck
            clear hcg hfg e' hck p1 p2 p3 p4
            generalize hx : hf[k]?.getD 0 = x0 at *
            clear hx
            generalize wr.drewN d = W2 at *
            rcases hq with ⟨rfl, hno⟩ | ⟨j, hj, rfl, hyes⟩
            · have hnot := Tm.has_not hno.out
              have hnew := hid (Tm.see_new hneg hnot)
              have hnm' : Hid (nm = -1 - (seen.length : Int)) := by
                show _ = _
                rw [hnm.out, Tm.idx_new hnot]
              have hse' := hid (hse.out.trans hnew.out)
              have hA : Below W2.heap.size W2 (W2.alloc (.cells #[.int .i64 s] 3)) := (Below.refl _ _).alloc (Nat.le_refl _) _
              have Hq1 := hid (q1.alloc (.cells #[.int .i64 s] 3))
              have hq2A := q2.alloc (.cells #[.int .i64 s] 3)
              have hq3A := q3.trans (hA.mono q3.size)
              have hq4A : W1.heap.size ≤ (W2.alloc (.cells #[.int .i64 s] 3)).heap.size := by simp; omega
              have Hcn := hid (cell_new W2 (.int .i64 s) 3 W2.heap.size rfl)
              clear hnot hnew hno hnd q1 q2 q3 hgc hfk
              go_wp2_with (at_builtin; go_loud (refine wp_append_int1 _ rfl _ _ rfl W1.heap.size _ seen rfl Hq1.out W2.heap.size s rfl Hcn.out (by omega) hq4A ?_); intro v' w5 hN5 hg5 hB5; have r2 : New w.heap.size w5 (.slice (some ⟨g, 0, none⟩) t.length c) hf := World.ownsRow.kept hq2A hg5 (.inr (fun e => by have := (World.ownsRow.lt Hq1.out g e.symm).1; omega)); obtain ⟨g', c', e', hcg, hfg⟩ := New.at0 r2 (by rw [Hhl.out]; exact h0); have hgc := hcg k (by rw [Hhl.out]; exact hlt); have hfk := hfg k; have e'' : g = g' := (by simp only [Value.slice.injEq, Option.some.injEq, Addr.mk.injEq] at e'; exact e'.1.1); subst e''; clear hcg hfg e'; obtain ⟨a5, c5, rfl, _⟩ := New.ints hN5)
              go_roundw
              case rel => exact ⟨k + 1, by omega, by go_num, hst.out _ _ _ (by rw [hse'.out]; simpa using hN5) r2 (hq3A.trans (hB5.mono (by have := hB2s; omega))) (Nat.le_trans hq4A hB5.size) hnm'.out.symm⟩
              case measure => simp [intOf]; omega
            · have hidx := Tm.idx_at hnd.out hj hyes.out
              have hold := hid (Tm.see_old (Tm.has_at hj hyes.out))
              have hnm' : Hid (nm = -1 - (j : Int)) := by
                show _ = _
                rw [hnm.out, hidx]
              have hse' := hid (hse.out.trans hold.out)
              have hj30 : (j : Int) ≤ 30 := by omega
              have hjn : ¬ (j : Int) < 0 := by omega
              clear hidx hold hyes hnd
              go_wp2
              go_roundw
              case rel => exact ⟨k + 1, by omega, by go_num, hst.out _ _ _ (by rw [hse'.out]; exact q1) q2 q3 q4 hnm'.out.symm⟩
              case measure => simp [intOf]; omega
      · have hP' := hid (hP.out.same hlt (by omega))
        clear hP
        generalize t[k]?.getD 0 = s at *
        go_wp2
        go_roundw
        case rel => exact ⟨k + 1, by omega, by go_num, hP'.out⟩
        case measure => simp [intOf]; omega
    · obtain rfl : k = t.length := by omega
      obtain ⟨_, p2, p3, _⟩ := hP.out
      rw [Tm.half_all] at p2
      clear hP
      go_wp2
      go_ret
      exact ⟨_, rfl, p2, p3⟩

end Go.Proofs.Ytbelnlemjcoifaa
