/-
  haspref.applied and haspref.plain of what may be long. · haspref.put, of what may be too large. · hasplaw.normBegun.
-/
import Derived.Test.YtloealnfbpegnaeBuj2
import Derived.Test.YtloealnfbpegnaeBuj3
import Derived.Test.YtloealnfbpegnaeBuj22
namespace Go.Proofs.Ytloealnfbpegnae
open Go.Proofs Go.RowKit Go.Shelf Go.Maps

set_option maxRecDepth 100000 in
set_option maxHeartbeats 1000000 in
/-- haspref.applied, of what may be long. -/
theorem applied_long (ss : List (List Int)) (hl : ss.length = 8) (hsh : Short ss) (a : Option Addr) (cap : Nat) (t : List Int) (at' : Option Addr) (ct : Nat) (ht : t.length ≤ 100) (h8 : ∀ k, k < t.length → -8 ≤ t[k]?.getD 0) (w : World)
    (hS : Subs w.heap.size w a ss) (hT : Ints w.heap.size w at' t) :
    Calls Try.prog 74 #[.slice a 8 cap, .slice at' t.length ct] w fun e w' => ∃ v, e = .returned v ∧ New w.heap.size w' v (Tm.applied ss t) ∧ Below w.heap.size w w' := by
  have hlen : (t.length : Int) ≤ 100 := by omega
  obtain ⟨bs, os, rfl, hbs, hcs⟩ := hS.at (by omega)
  have Hcs := hid hcs
  have HT := hid hT
  have H8 := hid h8
  have Hl := hid hl
  clear hcs hS hT h8 hl
  go_enter Try.func74, Try.ntmps74
  go_wp2
  go_loopw [5, 6] (fun v i wr => ∃ k : Nat, k ≤ t.length ∧ i = .int .i64 (k : Int) ∧ New w.heap.size wr v (Tm.applied ss (t.take k)) ∧ Below w.heap.size w wr) (fun _ i _ => t.length - (intOf i).toNat)
  case atStart => exact ⟨0, Nat.zero_le _, rfl, New.nil _ _, Below.refl _ _⟩
  case round =>
    obtain ⟨k, hk, rfl, hN, hBr⟩ := hrel
    by_cases hlt : k < t.length
    · have hlt' : (k : Int) < (t.length : Int) := by omega
      obtain ⟨b, off, rfl, hb, hc⟩ := HT.out.at (by omega)
      have hck := (hBr.cell (p := ⟨b, off + k, none⟩) hb).trans (hc k hlt)
      have hsn := hid (Tm.applied_snoc ss hlt)
      have hle := Tm.applied_le hsh (t.take k)
      rw [List.length_take] at hle
      have hpl := Tm.piece_le hsh (t[k]?.getD 0)
      have hs8 := H8.out k hlt
      clear hc
      obtain ⟨a0, c0, rfl, _⟩ := New.ints hN
      by_cases hneg : t[k]?.getD 0 < 0
      · obtain ⟨j, hj⟩ : ∃ j : Nat, t[k]?.getD 0 = -1 - (j : Int) := ⟨(-1 - (t[k]?.getD 0)).toNat, by omega⟩
        have hj8 : (j : Int) < 8 := by omega
        obtain ⟨aj, cj, hcj0, hIj0, h1, h2, h3⟩ := Hcs.out j (by rw [Hl.out]; omega)
        have hcj := (hBr.cell (p := ⟨bs, os + j, none⟩) hbs).trans hcj0
        have hIj := (hIj0.below hBr).mono hBr.size
        have hpc : Tm.piece ss (t[k]?.getD 0) = ss[j]?.getD [] := by
          rw [hj]
          unfold Tm.piece
          rw [if_pos (by omega)]
          congr 2
          omega
        rw [hpc] at hsn hpl
        rw [hj] at hck
        have H3 : Hid (aj = none → (ss[j]?.getD []).length = 0 ∧ cj = 0) := fun e => ⟨by have := h3 e; omega, h3 e⟩
        clear hcj0 hIj0 hpc hj hneg hs8 h3 h1 h2
        generalize ss[j]?.getD [] = pc at *
        generalize Tm.applied ss (t.take k) = xs at *
        have hn1 : (-1 - (j : Int)) < 0 := by omega
        have hn2 : -(-1 - (j : Int)) - 1 = (j : Int) := by omega
        go_wp2_with (at_builtin; go_loud (refine wp_append_ints _ rfl _ _ rfl w.heap.size _ xs rfl hN aj pc cj rfl H3.out hIj (by omega) hBr.size ?_); intro v' w2 hN2 hB3; obtain ⟨a2, c2, rfl, _⟩ := New.ints hN2)
        go_roundw
        case rel => exact ⟨k + 1, by omega, by go_num, by rw [hsn.out]; simpa using hN2, hBr.trans hB3⟩
        case measure => simp [intOf]; omega
      · have hpc : Tm.piece ss (t[k]?.getD 0) = [t[k]?.getD 0] := by unfold Tm.piece; rw [if_neg hneg]
        rw [hpc] at hsn
        clear hpc hpl hs8
        generalize t[k]?.getD 0 = s at *
        generalize Tm.applied ss (t.take k) = xs at *
        have h1 := ints_lit wr [s] _ rfl
        simp only [List.map_cons, List.map_nil] at h1
        have hA : Below wr.heap.size wr (wr.alloc (.cells #[.int .i64 s] 3)) := (Below.refl _ _).alloc (Nat.le_refl _) _
        have hNA := New.below hN hA
        have hBA := hBr.trans (hA.mono hBr.size)
        go_wp2_with (at_builtin; go_loud (refine wp_append_ints _ rfl _ _ rfl w.heap.size _ xs rfl hNA (some ⟨wr.heap.size, 0, none⟩) [s] 1 rfl (fun e => by cases e) (by simpa using h1) (by simp; omega) hBA.size ?_); intro v' w2 hN2 hB3; obtain ⟨a2, c2, rfl, _⟩ := New.ints hN2)
        go_roundw
        case rel => exact ⟨k + 1, by omega, by go_num, by rw [hsn.out]; simpa using hN2, hBA.trans hB3⟩
        case measure => simp [intOf]; omega
    · obtain rfl : k = t.length := by omega
      rw [List.take_length] at hN
      obtain ⟨a2, c2, rfl, _⟩ := New.ints hN
      go_wp2
      go_ret
      exact ⟨_, rfl, hN, hBr⟩


set_option maxRecDepth 100000 in
set_option maxHeartbeats 2000000 in
/-- haspref.plain, of what may be long. -/
theorem refplain_long (t : List Int) (at' : Option Addr) (ct : Nat) (w : World) (ht : t.length ≤ 100) (h0 : 0 < t.length) (h8 : ∀ k, k < t.length → -8 ≤ t[k]?.getD 0) (hT : Ints w.heap.size w at' t) :
    Calls Try.prog 76 #[.slice at' t.length ct] w fun e w' => ∃ v, e = .returned v ∧ New w.heap.size w' v (Tm.plain t) ∧ Below w.heap.size w w' := by
  have hlen : (t.length : Int) ≤ 100 := by omega
  obtain ⟨b, off, rfl, hb, hc⟩ := hT.at h0
  have hl : New w.heap.size (w.alloc (.cells #[] 3)) (.slice (some ⟨w.heap.size, 0, none⟩) 0 0) [] := New.lit w.heap.size w [] (Nat.le_refl _) (by unfold maxLen; simp)
  have hB0 : Below w.heap.size w (w.alloc (.cells #[] 3)) := (Below.refl _ _).alloc (Nat.le_refl _) _
  have HT := hid hT
  have Hc := hid hc
  have H8 := hid h8
  clear hT hc h8
  go_enter Try.func76, Try.ntmps76
  go_wp2_with (at_builtin; go_loud (refine wp_append_ints _ rfl (.tmp 8) (.tmp 9) rfl w.heap.size _ [] rfl hl _ t ct rfl (fun e => by cases e) ((HT.out.below hB0).mono hB0.size) (by simp; omega) hB0.size ?_); intro v1 W1 hN1 hB1; obtain ⟨g, c, rfl, _⟩ := New.at0 hN1 (by simpa using h0))
  have hB2 := hB0.trans hB1
  clear hB0 hB1 hl
  simp only [List.nil_append] at *
  have hgl := hN1.own_lt.2
  have hB2s := hB2.size
  go_loopw [3, 5] (fun vs i wr => ∃ k : Nat, k ≤ t.length ∧ i = .int .i64 (k : Int) ∧ Hid (PlainSt w W1 t g t.length c k vs wr)) (fun _ i _ => t.length - (intOf i).toNat)
  case atStart => exact ⟨0, Nat.zero_le _, rfl, New.nil _ _, by rw [Tm.half_zero]; exact hN1, hB2, Nat.le_refl _⟩
  case round =>
    clear hN1 hB2
    obtain ⟨k, hk, rfl, hP⟩ := hrel
    by_cases hlt : k < t.length
    · have hlt' : (k : Int) < (t.length : Int) := by omega
      have hck := (hP.out.2.2.1.cell (p := ⟨b, off + k, none⟩) hb).trans (Hc.out k hlt)
      by_cases hneg : t[k]?.getD 0 < 0
      · have hsl := Tm.seen_len (t.take k) []
        rw [List.length_take] at hsl
        simp only [List.length_nil, Nat.zero_add] at hsl
        have hnd := hid (Tm.seen_nodup (t.take k) [] List.nodup_nil)
        have hse := hid (Tm.seen_succ [] hlt)
        have hnm : Hid (Tm.name (Tm.seenFrom [] (t.take k)) (t[k]?.getD 0) = -1 - (Tm.idx (Tm.seenFrom [] (t.take k)) (t[k]?.getD 0) : Int)) := by
          show _ = _
          unfold Tm.name
          rw [if_pos hneg]
        have hst : Hid (∀ (vs' : Value) (w' : World) (x : Int), New W1.heap.size w' vs' (Tm.seenFrom [] (t.take (k + 1))) → New w.heap.size w' (.slice (some ⟨g, 0, none⟩) t.length c) (Tm.half t k) → Below w.heap.size w w' → W1.heap.size ≤ w'.heap.size →
            x = Tm.name (Tm.seenFrom [] (t.take k)) (t[k]?.getD 0) → PlainSt w W1 t g t.length c (k + 1) vs' (w'.setCell ⟨g, k, none⟩ (.int .i64 x))) :=
          fun vs' w' x a1 a2 a3 a4 a5 => PlainSt.store hgl rfl hlt a1 a2 a3 a4 x a5
        obtain ⟨p1, p2, p3, p4⟩ := hP.out
        have Hhl : Hid ((Tm.half t k).length = t.length) := Tm.half_length hk
        clear hP
        generalize Tm.name (Tm.seenFrom [] (t.take k)) (t[k]?.getD 0) = nm at *
        generalize Tm.seenFrom [] (t.take (k + 1)) = seen' at *
        generalize Tm.seenFrom [] (t.take k) = seen at *
        generalize Tm.half t k = hf at *
        generalize t[k]?.getD 0 = s at *
        obtain ⟨az, cs, rfl, hIs, hcs, _⟩ := New.ints p1
        have HIs := hid hIs
        have hsl' : (seen.length : Int) ≤ 100 := by omega
        clear hIs hcs
        go_wp2
        go_loopw [6, 7] (fun q i wq => ∃ (m d : Nat), m ≤ seen.length ∧ i = .int .i64 (m : Int) ∧ wq = wr.drewN d ∧ ((q = .int .i64 (-1) ∧ Hid (∀ j, j < m → seen[j]?.getD 0 ≠ s)) ∨ ∃ j : Nat, j < m ∧ q = .int .i64 (j : Int) ∧ Hid (seen[j]?.getD 0 = s))) (fun _ i _ => seen.length - (intOf i).toNat)
        case atStart => exact ⟨0, 0, Nat.zero_le _, rfl, rfl, .inl ⟨rfl, fun j hj => by omega⟩⟩
        case round =>
          obtain ⟨m, d, hm, rfl, rfl, hq⟩ := hrel
          by_cases hml : m < seen.length
          · have hml' : (m : Int) < (seen.length : Int) := by omega
            obtain ⟨gs, os, rfl, hbs, hcs⟩ := HIs.out.at (by omega)
            have hcm := hcs m hml
            have hnn := hid (show seen[m]?.getD 0 ≠ s → (∀ j, j < m → seen[j]?.getD 0 ≠ s) → ∀ j, j < m + 1 → seen[j]?.getD 0 ≠ s from fun e1 e2 j hj => by
              by_cases e : j = m
              · subst e; exact e1
              · exact e2 j (by omega))
            clear hcs
            obtain ⟨y, hy⟩ : ∃ y, seen[m]?.getD 0 = y := ⟨_, rfl⟩
            rw [hy] at hcm
            have Hy := hid hy
            clear hy
            by_cases he : y = s
            · have hn : (y == s) = true := by simp [he]
              have hyy' : Hid (seen[m]?.getD 0 = s) := Hy.out.trans he
              clear he hnn hq
              go_wp2
              go_quiet (fail)
              go_wp2
              go_roundw
              case rel => exact ⟨m + 1, _, by omega, by go_num, rfl, .inr ⟨m, by omega, rfl, hyy'⟩⟩
              case measure => simp [intOf]; omega
            · have hn : (y == s) = false := by simp [he]
              have hnn' : Hid ((∀ j, j < m → seen[j]?.getD 0 ≠ s) → ∀ j, j < m + 1 → seen[j]?.getD 0 ≠ s) := hnn.out (by rw [Hy.out]; exact he)
              clear he hnn
              rcases hq with ⟨rfl, hno⟩ | ⟨j, hj, rfl, hyes⟩
              · go_wp2
                go_quiet (fail)
                go_wp2
                go_roundw
                case rel => exact ⟨m + 1, _, by omega, by go_num, rfl, .inl ⟨rfl, hnn'.out hno.out⟩⟩
                case measure => simp [intOf]; omega
              · go_wp2
                go_quiet (fail)
                go_wp2
                go_roundw
                case rel => exact ⟨m + 1, _, by omega, by go_num, rfl, .inr ⟨j, by omega, rfl, hyes⟩⟩
                case measure => simp [intOf]; omega
          · obtain rfl : m = seen.length := by omega
            have q1 := New.drewN p1 d
            have q2 := New.drewN p2 d
            have q3 := below_drewN p3 d
            have q4 : W1.heap.size ≤ (wr.drewN d).heap.size := p4
            obtain ⟨g', c', e', hcg, hfg⟩ := New.at0 q2 (by rw [Hhl.out]; exact h0)
            have hgc := hcg k (by rw [Hhl.out]; exact hlt)
            have hfk := hfg k
            have e'' : g = g' := by simp only [Value.slice.injEq, Option.some.injEq, Addr.mk.injEq] at e'; exact e'.1.1
            subst e''
            have hckd : (wr.drewN d).cell? ⟨b, off + k, none⟩ = some (.int .i64 s) := hck
            clear hcg hfg e' hck p1 p2 p3 p4
            generalize hx : hf[k]?.getD 0 = x0 at *
            clear hx
            generalize wr.drewN d = W2 at *
            rcases hq with ⟨rfl, hno⟩ | ⟨j, hj, rfl, hyes⟩
            · have hnot := Tm.has_not hno.out
              have hnew := hid (Tm.see_new hneg hnot)
              have hnm' : Hid (nm = -1 - (seen.length : Int)) := by
                show _ = _
                rw [hnm.out, Tm.idx_new hnot]
              have hse' := hid (hse.out.trans hnew.out)
              have hA : Below W2.heap.size W2 (W2.alloc (.cells #[.int .i64 s] 3)) := (Below.refl _ _).alloc (Nat.le_refl _) _
              have Hq1 := hid (q1.alloc (.cells #[.int .i64 s] 3))
              have hq2A := q2.alloc (.cells #[.int .i64 s] 3)
              have hq3A := q3.trans (hA.mono q3.size)
              have hq4A : W1.heap.size ≤ (W2.alloc (.cells #[.int .i64 s] 3)).heap.size := by simp; omega
              have Hcn := hid (cell_new W2 (.int .i64 s) 3 W2.heap.size rfl)
              clear hnot hnew hno hnd q1 q2 q3 hgc hfk
              go_wp2_with (at_builtin; go_loud (refine wp_append_int1 _ rfl _ _ rfl W1.heap.size _ seen rfl Hq1.out W2.heap.size s rfl Hcn.out (by omega) hq4A ?_); intro v' w5 hN5 hg5 hB5; have r2 : New w.heap.size w5 (.slice (some ⟨g, 0, none⟩) t.length c) hf := World.ownsRow.kept hq2A hg5 (.inr (fun e => by have := (World.ownsRow.lt Hq1.out g e.symm).1; omega)); obtain ⟨g', c', e', hcg, hfg⟩ := New.at0 r2 (by rw [Hhl.out]; exact h0); have hgc := hcg k (by rw [Hhl.out]; exact hlt); have hfk := hfg k; have e'' : g = g' := (by simp only [Value.slice.injEq, Option.some.injEq, Addr.mk.injEq] at e'; exact e'.1.1); subst e''; clear hcg hfg e'; obtain ⟨a5, c5, rfl, _⟩ := New.ints hN5)
              go_roundw
              case rel => exact ⟨k + 1, by omega, by go_num, hst.out _ _ _ (by rw [hse'.out]; simpa using hN5) r2 (hq3A.trans (hB5.mono (by have := hB2s; omega))) (Nat.le_trans hq4A hB5.size) hnm'.out.symm⟩
              case measure => simp [intOf]; omega
            · have hidx := Tm.idx_at hnd.out hj hyes.out
              have hold := hid (Tm.see_old (Tm.has_at hj hyes.out))
              have hnm' : Hid (nm = -1 - (j : Int)) := by
                show _ = _
                rw [hnm.out, hidx]
              have hse' := hid (hse.out.trans hold.out)
              have hj30 : (j : Int) ≤ 100 := by omega
              have hjn : ¬ (j : Int) < 0 := by omega
              clear hidx hold hyes hnd
              go_wp2
              go_roundw
              case rel => exact ⟨k + 1, by omega, by go_num, hst.out _ _ _ (by rw [hse'.out]; exact q1) q2 q3 q4 hnm'.out.symm⟩
              case measure => simp [intOf]; omega
      · have hP' := hid (hP.out.same hlt (by omega))
        clear hP
        generalize t[k]?.getD 0 = s at *
        go_wp2
        go_roundw
        case rel => exact ⟨k + 1, by omega, by go_num, hP'.out⟩
        case measure => simp [intOf]; omega
    · obtain rfl : k = t.length := by omega
      obtain ⟨_, p2, p3, _⟩ := hP.out
      rw [Tm.half_all] at p2
      clear hP
      go_wp2
      go_ret
      exact ⟨_, rfl, p2, p3⟩

end Go.Proofs.Ytloealnfbpegnae

namespace Go.Proofs.Ytloealnfbpegnae
open Go.Proofs Go.RowKit Go.Shelf

set_option maxRecDepth 100000 in
set_option maxHeartbeats 400000 in
/-- haspref.put, of what may be too large. -/
theorem refput_long (zs us : List Int) (a au : Option Addr) (cap cu j : Nat) (w : World) (hI : Ints w.heap.size w a zs) (hU : Ints w.heap.size w au us) (hcap : zs.length ≤ cap) (hcap2 : cap ≤ maxLen) (he : Tm.err zs = 0) (hu30 : us.length ≤ 1000) (hup : 0 < us.length) (hj : j < zs.length) :
    Calls Try.prog 75 #[.slice a zs.length cap, .int .i64 (j : Int), .slice au us.length cu] w fun e w' => ∃ v, e = .returned v ∧ New w.heap.size w' v (Tm.put zs j us) ∧ Below w.heap.size w w' := by
  have h30 := Tm.err_len he
  have hei := Tm.end_in he hj
  have heg := Tm.endAt_gt zs j
  have hUs := hid (hU.some hup)
  obtain ⟨b, off, rfl, hb, _⟩ := hI.at (by omega)
  have hB0 : Below w.heap.size w (w.alloc (.cells #[] 3)) := (Below.refl _ _).alloc (Nat.le_refl _) _
  have hl : New w.heap.size (w.alloc (.cells #[] 3)) (.slice (some ⟨w.heap.size, 0, none⟩) 0 0) [] := New.lit w.heap.size w [] (Nat.le_refl _) (by unfold maxLen; simp)
  have hE : ∀ W, Below w.heap.size w W → Calls Try.prog 97 #[.slice (some ⟨b, off, none⟩) zs.length cap, .int .i64 (j : Int)] W fun e w' => e = .returned (.int .i64 (Tm.endAt zs j : Int)) ∧ Below W.heap.size W w' :=
    fun W hW => endOf_any zs (some ⟨b, off, none⟩) cap j W ((hI.below hW).mono hW.size) hcap hcap2 he hj
  have HE := hid (hE)
  have HU := hid (hU)
  have HI := hid (hI)
  have hput : Tm.put zs j us = [] ++ zs.take j ++ us ++ zs.drop (Tm.endAt zs j) := by simp [Tm.put]
  rw [hput]
  have htl : (zs.take j).length = j := by rw [List.length_take]; omega
  have hdl : (zs.drop (Tm.endAt zs j)).length = zs.length - Tm.endAt zs j := by rw [List.length_drop]
  have HT := hid (hI.take j)
  have HD : Hid (∀ n X, Ints n X (some ⟨b, off, none⟩) zs → ∀ c, Ints n X (if c = 0 then some ⟨b, off, none⟩ else some ⟨b, off + Tm.endAt zs j, none⟩) (zs.drop (Tm.endAt zs j)) ∨ (c = 0 ∧ zs.drop (Tm.endAt zs j) ≠ [])) := by
    intro n X hX c
    by_cases hc : c = 0
    · by_cases hd : zs.drop (Tm.endAt zs j) = []
      · left; rw [hd]; exact Ints.nil _ _ _
      · right; exact ⟨hc, hd⟩
    · left; rw [if_neg hc]; exact hX.drop _
  have Htl := hid (htl)
  have Hdl := hid (hdl)
  unfold maxLen at hcap2
  clear hE hU hI hput htl hdl he hup
  generalize Tm.endAt zs j = q at *
  generalize hxs : zs.take j = xs at *
  generalize hys : zs.drop q = ys at *
  clear hxs hys
  have h1 : (j : Int) ≤ (cap : Int) := by omega
  have h2 : (q : Int) ≤ (zs.length : Int) := by omega
  have h3 : (zs.length : Int) ≤ (cap : Int) := by omega
  have h4 : (zs.length : Int) ≤ 30 := by omega
  by_cases hz : cap - q = 0
  · have hys0 : ys = [] := List.eq_nil_of_length_eq_zero (by rw [Hdl.out]; omega)
    obtain ⟨rfl, rfl⟩ : zs.length = cap ∧ q = zs.length := by omega
    clear HD
    go_enter Try.func75, Try.ntmps75
    go_wp2_with (first
      | (at_builtin; refine wp_append_ints _ rfl (.tmp 7) (.tmp 10) rfl w.heap.size _ [] rfl hl (some ⟨b, off, none⟩) xs zs.length (by rw [Htl.out]; rfl) (fun h => by cases h) ((HT.out.below hB0).mono hB0.size) (by rw [Htl.out]; simp; omega) hB0.size ?_; intro v1 w1 hN1 hB1; have hB01 := hB0.trans hB1; clear hB1)
      | (at_builtin; refine wp_append_ints _ rfl (.tmp 11) (.tmp 12) rfl w.heap.size _ _ rfl hN1 au us _ rfl (fun h => absurd h hUs.out) ((HU.out.below hB01).mono hB01.size) (by rw [List.length_append, Htl.out]; simp; omega) hB01.size ?_; intro v2 w2 hN2 hB2; have hB02 := hB01.trans hB2; clear hB2)
      | (go_at_call 97; refine (HE.out _ hB02).mono ?_; rintro e w3 ⟨rfl, hB3⟩; have hN3 := New.below hN2 hB3; have hB03 := hB02.trans (hB3.mono hB02.size); clear hB3)
      | (at_builtin; go_loud (refine wp_append_ints _ rfl (.tmp 13) (.tmp 18) rfl w.heap.size _ _ rfl hN3 (some ⟨b, off, none⟩) ys 0 (by rw [hys0]; rfl) (fun h => by cases h) (by rw [hys0]; exact Ints.nil _ _ _) (by rw [List.length_append, List.length_append, Htl.out, Hdl.out]; simp; omega) hB03.size ?_); intro v4 w4 hN4 hB4))
    obtain ⟨a4, c4, rfl, _⟩ := New.ints hN4
    go_ret
    exact ⟨_, rfl, hN4, hB03.trans hB4⟩
  · have HY : Hid (∀ n X, Ints n X (some ⟨b, off, none⟩) zs → Ints n X (some ⟨b, off + q, none⟩) ys) := fun n X hX => by
      rcases HD.out n X hX 1 with h | h
      · simpa using h
      · exact absurd h.1 (by decide)
    clear HD
    go_enter Try.func75, Try.ntmps75
    go_wp2_with (first
      | (at_builtin; refine wp_append_ints _ rfl (.tmp 7) (.tmp 10) rfl w.heap.size _ [] rfl hl (some ⟨b, off, none⟩) xs cap (by rw [Htl.out]; rfl) (fun h => by cases h) ((HT.out.below hB0).mono hB0.size) (by rw [Htl.out]; simp; omega) hB0.size ?_; intro v1 w1 hN1 hB1; have hB01 := hB0.trans hB1; clear hB1)
      | (at_builtin; refine wp_append_ints _ rfl (.tmp 11) (.tmp 12) rfl w.heap.size _ _ rfl hN1 au us _ rfl (fun h => absurd h hUs.out) ((HU.out.below hB01).mono hB01.size) (by rw [List.length_append, Htl.out]; simp; omega) hB01.size ?_; intro v2 w2 hN2 hB2; have hB02 := hB01.trans hB2; clear hB2)
      | (go_at_call 97; refine (HE.out _ hB02).mono ?_; rintro e w3 ⟨rfl, hB3⟩; have hN3 := New.below hN2 hB3; have hB03 := hB02.trans (hB3.mono hB02.size); clear hB3)
      | (at_builtin; go_loud (refine wp_append_ints _ rfl (.tmp 13) (.tmp 18) rfl w.heap.size _ _ rfl hN3 (some ⟨b, off + q, none⟩) ys (cap - q) (by rw [Hdl.out]; rfl) (fun h => by cases h) (HY.out _ _ ((HI.out.below hB03).mono hB03.size)) (by rw [List.length_append, List.length_append, Htl.out, Hdl.out]; simp; omega) hB03.size ?_); intro v4 w4 hN4 hB4))
    obtain ⟨a4, c4, rfl, _⟩ := New.ints hN4
    go_ret
    exact ⟨_, rfl, hN4, hB03.trans hB4⟩

end Go.Proofs.Ytloealnfbpegnae

namespace Go.Proofs.Ytloealnfbpegnae
open Go.Proofs Go.RowKit Go.Shelf Go.Maps

end Go.Proofs.Ytloealnfbpegnae
