/-
  haspref.met. · haspref.met, MeetOf, MeetAll. · The reference's side of pairs: what is put and then becomes; haspref.others; lists of pairs that can be read. · haspref.own, stands, RulesError. · haspref.RulesError. · haspref.LeanOf. · PLAIN MATHEMATICS: terms whose variables are made others; the error of meeting.
-/
import Derived.Test.YtgeknojpcjadkaaBln27
import Derived.Test.YtgeknojpcjadkaaBln11
import Derived.Test.YtgeknojpcjadkaaBln18
import Derived.Test.YtgeknojpcjadkaaBln25
import Derived.Test.YtgeknojpcjadkaaBln10
import Derived.Deep.QuietTactic
import Derived.BigQuiet
import Derived.Test.YtgeknojpcjadkaaBln12
import Derived.Deep.RegionHeld3
import Derived.Test.YtgeknojpcjadkaaBln13
import Derived.Test.YtgeknojpcjadkaaBln7
namespace Go.Proofs.Ytgeknojpcjadkaa
open Go.Proofs Go.RowKit Go.Shelf Go.Maps

/-- What met answers. -/
def MetAns (ps : PairL) (w w' : World) (e : Ending) : Prop := Below w.heap.size w w' ∧ ∃ er is val v, Tm.MeetSays ps er is val ∧ e = .returned (.tuple #[v, .bool is, .int .i64 er]) ∧ NewS w.heap.size w' v val
theorem firstPair_of {ps : PairL} (h : ∀ k, k < ps.length → Tm.err (ps[k]?.getD ([], [])).1 = 0 ∧ Tm.err (ps[k]?.getD ([], [])).2 = 0) : Tm.firstPair ps = 0 := by
  induction ps with
  | nil => rfl
  | cons r l ih =>
    rw [Tm.firstPair, if_pos (Tm.pairErr_zero.2 (by simpa using h 0 (by simp)))]
    exact ih fun k hk => by simpa using h (k + 1) (by simpa using hk)

theorem met_step {wr w1 w2 : World} {x : Nat} {vN vC vN1 vC1 : Value} {L M : List Nd} {C : Nat → Nat} {ps : PairL} {k : Nat} (hT : TB wr x vN vC L L.length C) (hM : MI ps k L C) (hB1 : Below wr.heap.size wr w1) (hA : ∀ d ∈ M, FullL (L ++ M) d) (hT2 : TB w2 x vN1 vC1 (L ++ M) (L ++ M).length (extC L.length C)) (hW2 : WK w1 w2 x vN vC vN1 vC1) :
    TB w2 x vN1 vC1 (L ++ M) (L ++ M).length C ∧ MI ps k (L ++ M) C ∧ Below x wr w2 := by
  rw [hM.extC] at hT2
  exact ⟨hT2, hM.ext hA, (hB1.mono (Nat.le_of_lt hT.lt)).trans (hW2.below (hT.below hB1).1)⟩

set_option maxRecDepth 100000 in
set_option maxHeartbeats 4000000 in
/-- haspref.met, of right pairs. -/
theorem met_some (ps : PairL) (a : Option Addr) (cap : Nat) (w : World) (hP : RulesAt w.heap.size w a ps) (h40 : ps.length ≤ 40) (h0 : 0 < ps.length) (hok : ∀ k, k < ps.length → Tm.err (ps[k]?.getD ([], [])).1 = 0 ∧ Tm.err (ps[k]?.getD ([], [])).2 = 0) :
    Calls Try.prog 75 #[.slice a ps.length cap] w fun e w' => MetAns ps w w' e := by
  have hfp := hid (firstPair_of hok)
  have h40' : (ps.length : Int) ≤ 40 := by omega
  have hTB0 := hid (TB.start w)
  have hB0 := hid ((Below.refl w.heap.size w).alloc (Nat.le_refl _) (.cells #[.slice none 0 0, .slice none 0 0] 159))
  have HP := hid hP
  have Hok := hid hok
  have hMI0 := hid (MI.start ps)
  clear hP hok
  go_enter Try.func75, Try.ntmps75
  go_wp2
  go_loopw [6] (fun i wr => ∃ (k : Nat) (L : List Nd) (C : Nat → Nat) (vN vC : Value), k ≤ ps.length ∧ i = .int .i64 (k : Int) ∧ Hid (TB wr w.heap.size vN vC L L.length C) ∧ Hid (MI ps k L C) ∧ Hid (L.length ≤ 60 * k) ∧ Hid (0 < k → 0 < L.length) ∧ Hid (Below w.heap.size w wr)) (fun i _ => ps.length - (intOf i).toNat)
  case atStart => exact ⟨0, [], _, _, _, Nat.zero_le _, rfl, hTB0, hMI0, by simp [Hid], fun h => by omega, hB0⟩
  case round =>
    obtain ⟨k, L, C, vN, vC, hk, rfl, hT, hM, hL, hL0, hB⟩ := hrel
    by_cases hlt : k < ps.length
    · have hkl : (k : Int) < (ps.length : Int) := by omega
      obtain ⟨b, off, rfl, hb, aL, cL, aR, cR, hc1, hc2, hI1, hI2, q1, q2, q3, q4⟩ := (HP.out.below hB.out) k hlt
      obtain ⟨e1, e2⟩ := Hok.out k hlt
      have l1 := Tm.err_len e1
      have l2 := Tm.err_len e2
      have hE1 : Hid ((ps[k]?.getD ([], [])).1 = (ps[k]?.getD ([], [])).1) := rfl
      have hE2 : Hid ((ps[k]?.getD ([], [])).2 = (ps[k]?.getD ([], [])).2) := rfl
      generalize hz1 : (ps[k]?.getD ([], [])).1 = z1 at hc1 hI1 q1 e1 l1
      generalize hz2 : (ps[k]?.getD ([], [])).2 = z2 at hc2 hI2 q3 e2 l2
      have Hz1 := hid hz1
      have Hz2 := hid hz2
      clear hz1 hz2 hE1 hE2
      have hbw : b < wr.heap.size := by have := hB.out.size; omega
      have ht1 := hid (treeOf_any z1 aL cL wr e1 q1 q2 (hI1.mono hB.out.size))
      have ht2 := hid (fun W (hW : Below w.heap.size wr W) => treeOf_any z2 aR cR W e2 q3 q4 ((hI2.below hW).mono (Nat.le_trans hB.out.size hW.size)))
      have hc2w := hid (fun W (hW : Below w.heap.size wr W) => (hW.cell (p := ⟨b, off + k * 2 + 1, none⟩) hb).trans hc2)
      have hn1 := hid (fun W1 h1 h2 => node_tree (W1 := W1) (zs := z1) hT.out h1 h2 e1 hM.out.extC (by have := hL.out; omega))
      have H1 := hid (And.intro e1 l1)
      have H2 := hid (And.intro e2 l2)
      clear hI1 hI2 e1 e2 l1 l2 q1 q2 q3 q4
      go_wp2_with (first
        | (go_at_call_of 105 (Value.slice aL z1.length cL); refine ht1.out.mono ?_; clear ht1; rintro e w1 ⟨rfl, hB1, hT1⟩)
        | (go_at_call_of 104 (ptr wr.heap.size); refine (hn1.out _ hB1 hT1).mono ?_; clear hn1; rintro e w2 ⟨i1, vN1, vC1, M1, rfl, hF1, hA1, hT2, hW2, hM1⟩; obtain ⟨hT3, hM3, hB3⟩ := met_step hT.out hM.out hB1 hA1 hT2 hW2; have hc2' := hc2w.out _ hB3; have HT3 := hid hT3; have HM3 := hid hM3; have HF1 := hid hF1; clear hT3 hM3 hT2 hW2 hA1 hF1 hT1 hB1)
        | (go_at_call_of 105 (Value.slice aR z2.length cR); refine (ht2.out _ hB3).mono ?_; clear ht2; rintro e w3 ⟨rfl, hB4, hT4⟩)
        | (go_at_call_of 104 (ptr w2.heap.size); refine (node_tree HT3.out hB4 hT4 H2.out.1 HM3.out.extC (by have h1 := hL.out; have h2 := H1.out.2; have h3 := H2.out.2; rw [List.length_append]; omega)).mono ?_; rintro e w4 ⟨i2, vN2, vC2, M2, rfl, hF2, hA2, hT5, hW5, hM2⟩; obtain ⟨hT6, hM6, hB6⟩ := met_step HT3.out HM3.out hB4 hA2 hT5 hW5; have HT6 := hid hT6; have HM6 := hid hM6; have HF2 := hid hF2; clear hT6 hM6 hT5 hW5 hA2 hF2 hT4 hB4)
        | (go_at_call 106; refine (tie_tb HT6.out HM6.out.full (by have h1 := hL.out; have h2 := H1.out.2; have h3 := H2.out.2; rw [List.length_append, List.length_append]; omega) i1 i2 (HF1.out.app M2).1 HF2.out.1).mono ?_; rintro e w5 ⟨⟨v5, rfl⟩, hT7, hW7⟩))
      go_roundw
      case rel =>
        have hF1' := HF1.out.app M2
        have hF2' := HF2.out
        refine ⟨k + 1, L ++ M1 ++ M2, Mt.tied C i1 i2, vN2, vC2, by omega, by go_num, hT7, HM6.out.tie hF1'.1 hF2'.1 ?_ ?_, ?_, fun _ => by have := hF1'.1; omega, ?_⟩
        · rw [Hz1.out]; exact hF1'.2.1
        · rw [Hz2.out]; exact hF2'.2.1
        · show _ ≤ _
          have h1 := hL.out
          have h2 := H1.out.2
          have h3 := H2.out.2
          rw [List.length_append, List.length_append]
          omega
        · exact (hB.out.trans (hB3.trans hB6)).trans (hW7.below HT6.out)
      case measure => simp [intOf]; omega
    · obtain rfl : k = ps.length := by omega
      obtain ⟨K, hK⟩ := kidsL hM.out.full
      have hn0 := hL0.out h0
      have hn5 : L.length ≤ 5000 := by have := hL.out; omega
      have G := kidsL_gph hT.out hK
      obtain ⟨aN, cN, g, cC, rfl, rfl, hO⟩ := hT.out.ties hK hn5 hn0
      have hgx := (World.ownsRow.lt hT.out.rowC g rfl).1
      have hcl := tclose_any G wr hO hM.out.lt hn0
      have hroom : Hid (∀ k, k < L.length → (K k).length = Tm.room (ndS L k)) := G.room
      have HG := hid G
      have hnI : (L.length : Int) ≤ 5000 := by omega
      clear hK G hO hTB0 hB0 hMI0 HP Hok
      go_wp2_with fail
      refine hcl.mono ?_
      rintro e w1 ⟨hK1, hor⟩
      clear hcl
      have hBw1 : Hid (Below w.heap.size w w1) := hB.out.trans ((hK1.mono hB.out.size).below (by omega))
      rcases hor with ⟨rfl, hno⟩ | ⟨rfl, C1, hO1, hlt1, hco1, hso1, hsh1⟩
      · have Hno := hid hno
        clear hno
        go_wp2
        go_ret3
        exact ⟨hBw1.out, 0, false, [], _, .inr (.inl ⟨hfp.out, fun θ hθ hs => Hno.out θ hθ (hM.out.sound θ hθ hs), rfl, rfl, rfl⟩), rfl, NewS.nil _ _⟩
      · have hT1 := hO1.ties
        have hc0 := hT1.c0
        have hc1 := hT1.c1
        have hsound := hid (fun θ hθ hs => hso1 θ hθ (hM.out.sound θ hθ hs))
        have hmgu := hid (fun hr => Mt.sig_mgu HG.out hsh1 hr hsound.out (fun j hj => by obtain ⟨a, b, ha, hb, e1, e2, e3⟩ := hM.out.tied j hj; exact ⟨a, b, ha, hb, e1, e2, hco1 a b ha hb e3⟩))
        have hrn := hid (fun θ hθ hs q hq => Mt.rnd_no HG.out hlt1 (hsound.out θ hθ hs) (k := q) hq)
        have HT1 := hid hT1
        have hround := hid (fun q W (hW : Ties W w.heap.size L.length aN cN (some ⟨g, 0, none⟩) cC (ndN L) C1 (ndS L) K (ndP L)) => round_any hroom.out (L.length + 1) 0 q W hW (by omega))
        have hbec := hid (fun q W h (hW : Ties W w.heap.size L.length aN cN (some ⟨g, 0, none⟩) cC (ndN L) C1 (ndS L) K (ndP L)) => becomes_any hroom.out (L.length + 1) q W h hW)
        clear hT1 hO1 hlt1 hco1 hso1 hsh1 hK1
        go_wp2
        go_loopw [9] (fun i wr => ∃ q : Nat, q ≤ L.length ∧ i = .int .i64 (q : Int) ∧ Hid (∀ j, j < q → Mt.rnd L.length (ndS L) K C1 (L.length + 1) (C1 j) = false) ∧ ∃ d, wr = w1.drewN d) (fun i _ => L.length - (intOf i).toNat)
        case atStart => exact ⟨0, Nat.zero_le _, rfl, (fun j hj => by omega), 0, rfl⟩
        case round =>
          obtain ⟨q, hq, rfl, hqs, d, rfl⟩ := hrel
          by_cases hql : q < L.length
          · have hqI : (q : Int) < (L.length : Int) := by omega
            obtain ⟨_, _, e, hcq⟩ := HT1.out.cl q hql
            cases e
            rw [Nat.zero_add] at hcq
            have hcall := hid (hround.out (C1 q) (w1.drewN d) (HT1.out.drewN d))
            cases hb : Mt.rnd L.length (ndS L) K C1 (L.length + 1) (C1 q) with
            | true =>
              have hno : Hid (∀ θ, Wb.TermSb θ → ¬ Wb.Same ps ps.length θ) := fun θ hθ hs => by
                have := hrn.out θ hθ hs q hql
                rw [hb] at this
                cases this
              rw [hb] at hcall
              clear hb
              generalize C1 q = cq at *
              go_wp2_with (go_at_call 108; refine hcall.out.mono ?_; clear hcall; rintro e w2 ⟨rfl, d2, rfl⟩)
              go_ret3
              exact ⟨below_drewN hBw1.out _, 0, false, [], _, .inr (.inl ⟨hfp.out, hno.out, rfl, rfl, rfl⟩), rfl, NewS.nil _ _⟩
            | false =>
              rw [hb] at hcall
              have Hb := hid hb
              clear hb
              have hqs' : Hid (∀ j, j < q + 1 → Mt.rnd L.length (ndS L) K C1 (L.length + 1) (C1 j) = false) := fun j hj => by
                by_cases e : j = q
                · subst e; exact Hb.out
                · exact hqs.out j (by omega)
              generalize C1 q = cq at *
              go_wp2_with (go_at_call 108; refine hcall.out.mono ?_; clear hcall; rintro e w2 ⟨rfl, d2, rfl⟩)
              go_roundw
              case rel => exact ⟨q + 1, by omega, by go_num, hqs', _, rfl⟩
              case measure => simp [intOf]; omega
          · obtain rfl : q = L.length := by omega
            have hM' := hid (hmgu.out hqs.out)
            go_wp2_with (go_at_call 109; refine (noneOf_any _).mono ?_; rintro e w4 ⟨v, rfl, hN4, hB4⟩; have hlen : (Tm.noneL 8).length = 8 := Tm.noneL_length 8; obtain ⟨g4, c4, rfl⟩ : ∃ g4 c4, v = .slice (some ⟨g4, 0, none⟩) 8 c4 := (by obtain ⟨us, h1, _⟩ := hN4; rw [hlen] at h1; exact ownsRow_succ h1))
            have hg4 : w1.heap.size ≤ g4 := by
              obtain ⟨us, h1, _⟩ := hN4
              exact (World.ownsRow.lt h1 g4 rfl).1
            have hB5 : Hid (Below w1.heap.size w1 w4) := ⟨hB4.os, hB4.tape, hB4.output, hB4.size, hB4.block⟩
            have HN4 : Hid (NewS w1.heap.size w4 (.slice (some ⟨g4, 0, none⟩) 8 c4) (Tm.noneL 8)) := hN4
            clear hN4 hB4 hlen hc0 hc1
            have hone := hid (fun q (hq : q < L.length) (hs : ndS L q < 0) (j : Nat) (hj : j < q) (e : ndS L j = ndS L q) => (by have := HG.out.vars q j hq (by omega) hs e.symm; omega : False))
            go_loopw [11] (fun i wr => ∃ q : Nat, q ≤ L.length ∧ i = .int .i64 (q : Int) ∧ Hid (NewS w1.heap.size wr (.slice (some ⟨g4, 0, none⟩) 8 c4) (Tm.sbL (Mt.sigT L.length (ndS L) K C1 q))) ∧ Hid (∀ j, j < q → ndS L j < 0 → (Mt.bec L.length (ndS L) K C1 (L.length + 1) (C1 j)).length ≤ 30) ∧ Hid (Below w1.heap.size w1 wr)) (fun i _ => L.length - (intOf i).toNat)
            case atStart => exact ⟨0, Nat.zero_le _, rfl, HN4, (fun j hj => by omega), hB5⟩
            case round =>
              obtain ⟨q, hq, rfl, hNq, hlq, hBq⟩ := hrel
              have hTq := HT1.out.below hBq.out
              have hc0 := hTq.c0
              have hc1 := hTq.c1
              by_cases hql : q < L.length
              · have hqI : (q : Int) < (L.length : Int) := by omega
                obtain ⟨bN, oN, rfl, hnq⟩ := hTq.nd q hql
                obtain ⟨a1, c1, hNd, _⟩ := hTq.tr q hql
                have hsq := hNd.cell0
                have hkn := HG.out.known q hql
                clear hNd
                by_cases hs : ndS L q < 0
                · obtain ⟨j, hj⟩ : ∃ j : Nat, ndS L q = -1 - (j : Int) := ⟨(-1 - ndS L q).toNat, by omega⟩
                  have hj8 : j < 8 := by omega
                  have hj8' : (j : Int) < 8 := by omega
                  obtain ⟨_, _, e, hcq⟩ := hTq.cl q hql
                  cases e
                  rw [Nat.zero_add] at hcq
                  have hcall := hid (hbec.out (C1 q) wr (hqs.out q hql) hTq)
                  have hhere : Hid (Mt.sigT L.length (ndS L) K C1 (q + 1) (-1 - (j : Int)) = Mt.bec L.length (ndS L) K C1 (L.length + 1) (C1 q)) := by rw [← hj]; exact Mt.sigT_here fun i hi e => hone.out q hql hs i hi e
                  have helse : Hid (∀ v, v ≠ -1 - (j : Int) → Mt.sigT L.length (ndS L) K C1 (q + 1) v = Mt.sigT L.length (ndS L) K C1 q v) := fun v hv => Mt.sigT_else (by rw [hj]; exact fun e => hv e.symm)
                  have hset := hid (Mt.sbL_step hhere.out helse.out)
                  have hlq' : Hid ((Mt.bec L.length (ndS L) K C1 (L.length + 1) (C1 q)).length ≤ 30 → ∀ j, j < q + 1 → ndS L j < 0 → (Mt.bec L.length (ndS L) K C1 (L.length + 1) (C1 j)).length ≤ 30) := fun h j hj hs => by
                    by_cases e : j = q
                    · subst e; exact h
                    · exact hlq.out j (by omega) hs
                  have hbig : Hid (30 < (Mt.bec L.length (ndS L) K C1 (L.length + 1) (C1 q)).length → ∃ i : Nat, i < 8 ∧ 30 < (Mt.sig L.length (ndS L) K C1 (-1 - (i : Int))).length) := fun h => ⟨j, hj8, by rw [← hj, Mt.sig_at HG.out C1 hql hs]; exact h⟩
                  rw [hj] at hsq
                  clear hhere helse hs hj hTq
                  have hsub : -(-1 - (j : Int)) - 1 = (j : Int) := by omega
                  have hjn : (-1 - (j : Int)) < 0 := by omega
                  have hpz := Mt.bec_pos (hqs.out q hql)
                  generalize Mt.bec L.length (ndS L) K C1 (L.length + 1) (C1 q) = zs at *
                  generalize C1 q = cq at *
                  generalize ndN L q = nq' at *
                  go_wp2_with fail
                  refine hcall.out.mono ?_
                  rintro e w6 ⟨v6, rfl, hB6, hor⟩
                  clear hcall
                  rcases hor with ⟨hz, hN6⟩ | ⟨hz, rfl⟩
                  · obtain ⟨a6, c6, rfl, hI6, _⟩ := New.ints hN6
                    obtain ⟨b6, o6, rfl, _⟩ := hI6.at hpz
                    have hrun : (binOp .eql 37 (.slice (some ⟨b6, o6, none⟩) zs.length c6) (.slice none 0 0)).run Try.prog w6 = .ok (.bool false) w6 := Lib.run_eql_slice_nil w6 _ _ _ _ _ _ _ Try.underlying37
                    have hBq6 := hid (hBq.out.trans (hB6.mono hBq.out.size))
                    have hN8 := hid (hNq.out.below hB6)
                    obtain ⟨hgg, x8, hc8, hf8⟩ := newS_cell hN8.out (Tm.sbL_length _) hj8
                    have hN6' := hid (hN6.mono hBq.out.size)
                    clear hN6 hI6
                    go_wp2
                    go_roundw
                    case rel =>
                      refine ⟨q + 1, by omega, by go_num, ?_, hlq'.out hz, hBq6.out.setCell (p := ⟨g4, j, none⟩) hg4 _⟩
                      have h := hN8.out.set (Tm.sbL_length _).symm hN6'.out j
                      rw [← hset.out] at h
                      exact h
                    case measure => simp [intOf]; omega
                  · have hrun : (binOp .eql 37 (.slice none 0 0) (.slice none 0 0)).run Try.prog w6 = .ok (.bool true) w6 := Lib.run_eql_slice_nil w6 _ _ _ _ _ _ _ Try.underlying37
                    go_wp2
                    go_ret3
                    have hBf := hBw1.out.trans ((hBq.out.trans (hB6.mono hBq.out.size)).mono hBw1.out.size)
                    exact ⟨hBf, 2, false, [], _, .inr (.inr (.inr ⟨hfp.out, _, hM'.out, hbig.out hz, rfl, rfl, rfl⟩)), rfl, NewS.nil _ _⟩
                · have hs' : decide (ndS L q < 0) = false := by simpa using hs
                  have hst : Hid (Tm.sbL (Mt.sigT L.length (ndS L) K C1 (q + 1)) = Tm.sbL (Mt.sigT L.length (ndS L) K C1 q)) := Tm.sbL_congr fun v _ hv => Mt.sigT_else (by omega)
                  have hlq' : Hid (∀ j, j < q + 1 → ndS L j < 0 → (Mt.bec L.length (ndS L) K C1 (L.length + 1) (C1 j)).length ≤ 30) := fun j hj hsj => by
                    by_cases e : j = q
                    · subst e; exact absurd hsj hs
                    · exact hlq.out j (by omega) hsj
                  clear hs hTq
                  generalize ndS L q = sq at *
                  generalize ndN L q = nq' at *
                  go_wp2
                  go_roundw
                  case rel => exact ⟨q + 1, by omega, by go_num, by rw [hst.out]; exact hNq, hlq', hBq⟩
                  case measure => simp [intOf]; omega
              · obtain rfl : q = L.length := by omega
                go_wp2
                go_ret3
                refine ⟨hBw1.out.trans (hBq.out.mono hBw1.out.size), 0, true, _, _, .inr (.inr (.inl ⟨hfp.out, _, hM'.out, fun i hi => ?_, rfl, rfl, rfl⟩)), rfl, hNq.out.mono hBw1.out.size⟩
                rcases Mt.sig_or (K := K) HG.out C1 (-1 - (i : Int)) (by omega) with ⟨j, hj, e1, e2⟩ | ⟨_, e2⟩
                · rw [e2]; exact hlq.out j hj (by omega)
                · rw [e2]; simp

end Go.Proofs.Ytgeknojpcjadkaa

namespace Go.Proofs.Ytgeknojpcjadkaa
open Go.Proofs Go.RowKit Go.Shelf Go.Maps

theorem mgu_nil : Wb.Mgu [] (fun v => [v]) := by
  refine ⟨fun s hs => ?_, fun v h1 h2 s hs => ?_, fun j hj => by simp at hj, fun θ _ _ v _ h2 => ?_, fun v u _ _ e _ => ?_⟩
  · show Tm.run [s] 1 = 1
    rw [show (1 : Nat) = 0 + 1 from rfl, Tm.run_cons, Wb.room_var hs, Tm.run_zero]
  · simp only [List.mem_cons, List.not_mem_nil, or_false] at hs
    omega
  · show θ v = Wb.App θ [v]
    rw [Wb.App_cons, if_pos h2, Wb.App_nil, List.append_nil]
  · simp only [List.cons.injEq, and_true] at e
    omega

set_option maxRecDepth 100000 in
set_option maxHeartbeats 1000000 in
theorem met_nil (a : Option Addr) (cap : Nat) (w : World) : Calls Try.prog 75 #[.slice a 0 cap] w fun e w' => MetAns [] w w' e := by
  have hB0 := hid ((Below.refl w.heap.size w).alloc (Nat.le_refl _) (.cells #[.slice none 0 0, .slice none 0 0] 159))
  have hcl := hid (fun W (hW : W = w.alloc (.cells #[.slice none 0 0, .slice none 0 0] 159)) => tclose_nil (x := w.heap.size) (cN := 0) W (by rw [hW]; exact (cell_at (World.alloc_heap_new w _) 0).trans rfl))
  have hc0 : (w.alloc (.cells #[.slice none 0 0, .slice none 0 0] 159)).cell? ⟨w.heap.size, 0, none⟩ = some (.slice none 0 0) := (cell_at (World.alloc_heap_new w _) 0).trans rfl
  go_enter Try.func75, Try.ntmps75
  go_wp2
  refine wp_loop_rounds 1 ?_
  rw [rounds_succ]
  go_wp2_with fail
  refine (hcl.out _ rfl).mono ?_
  rintro e w1 ⟨rfl, rfl⟩
  clear hcl
  go_wp2
  refine wp_loop_rounds 1 ?_
  rw [rounds_succ]
  go_wp2_with (go_at_call 109; refine (noneOf_any _).mono ?_; rintro e w4 ⟨v, rfl, hN4, hB4⟩; have hlen : (Tm.noneL 8).length = 8 := Tm.noneL_length 8; obtain ⟨g4, c4, rfl⟩ : ∃ g4 c4, v = .slice (some ⟨g4, 0, none⟩) 8 c4 := (by obtain ⟨us, h1, _⟩ := hN4; rw [hlen] at h1; exact ownsRow_succ h1))
  have hc4 : w4.cell? ⟨w.heap.size, 0, none⟩ = some (.slice none 0 0) := (hB4.cell (p := ⟨w.heap.size, 0, none⟩) (by simp)).trans hc0
  refine wp_loop_rounds 1 ?_
  rw [rounds_succ]
  go_wp2
  go_ret3
  exact ⟨hB0.out.trans (hB4.mono hB0.out.size), 0, true, Tm.noneL 8, _, .inr (.inr (.inl ⟨rfl, _, mgu_nil, fun i hi => by simp, rfl, rfl, rfl⟩)), rfl, hN4.mono hB0.out.size⟩

/-- haspref.met, of right pairs. -/
theorem met_any (ps : PairL) (a : Option Addr) (cap : Nat) (w : World) (hP : RulesAt w.heap.size w a ps) (h40 : ps.length ≤ 40) (hok : ∀ k, k < ps.length → Tm.err (ps[k]?.getD ([], [])).1 = 0 ∧ Tm.err (ps[k]?.getD ([], [])).2 = 0) :
    Calls Try.prog 75 #[.slice a ps.length cap] w fun e w' => MetAns ps w w' e := by
  by_cases h0 : 0 < ps.length
  · exact met_some ps a cap w hP h40 h0 hok
  · obtain rfl : ps = [] := List.eq_nil_of_length_eq_zero (by omega)
    exact met_nil a cap w
/-- .. of one pair. -/
theorem met_one (a b : List Int) (aa ab : Option Addr) (ca cb B : Nat) (W : World) (blk : W.heap[B]? = some (.cells #[.slice aa a.length ca, .slice ab b.length cb] 42)) (hA : Ints W.heap.size W aa a) (hB : Ints W.heap.size W ab b) (ha1 : a.length ≤ ca) (ha2 : ca ≤ maxLen) (hb1 : b.length ≤ cb) (hb2 : cb ≤ maxLen) (ea : Tm.err a = 0) (eb : Tm.err b = 0) :
    Calls Try.prog 75 #[.slice (some ⟨B, 0, none⟩) 1 1] W fun e w' => MetAns [(a, b)] W w' e := by
  refine met_any [(a, b)] (some ⟨B, 0, none⟩) 1 W (fun k hk => ?_) (by simp) (fun k hk => ?_)
  · obtain rfl : k = 0 := by simp at hk; omega
    exact ⟨B, 0, rfl, (Array.getElem?_eq_some_iff.1 blk).1, aa, ca, ab, cb, (cell_at blk 0).trans rfl, (cell_at blk 1).trans rfl, hA, hB, ha1, ha2, hb1, hb2⟩
  · obtain rfl : k = 0 := by simp at hk; omega
    exact ⟨ea, eb⟩

end Go.Proofs.Ytgeknojpcjadkaa

namespace Go.Proofs.Ytgeknojpcjadkaa
open Go.Proofs Go.RowKit Go.Shelf Go.Maps

/-- Signs in new memory, in a block of ints. -/
def IntRow (base : Nat) (W : World) (a : Option Addr) (zs : List Int) : Prop := ∀ j, j < zs.length → ∃ b off, a = some ⟨b, off, none⟩ ∧ base ≤ b ∧ (∃ cs p, W.heap[b]? = some (.cells cs 3 p)) ∧ W.cell? ⟨b, off + j, none⟩ = some (.int .i64 (zs[j]?.getD 0))
theorem IntRow.ints {base : Nat} {W : World} {a : Option Addr} {zs : List Int} (h : IntRow base W a zs) : Ints W.heap.size W a zs := fun j hj => by
  obtain ⟨b, off, e, _, ⟨cs, p, hb⟩, hc⟩ := h j hj
  exact ⟨b, off, e, (Array.getElem?_eq_some_iff.1 hb).1, hc⟩
theorem IntRow.of {base : Nat} {W : World} {v : Value} {zs : List Int} (h : New base W v zs) : ∃ a c, v = .slice a zs.length c ∧ IntRow base W a zs ∧ zs.length ≤ c ∧ c ≤ maxLen := by
  rcases h.2 with ⟨rfl, hn⟩ | ⟨g, cap, cur, rfl, hb, hg, h1, h2, h3, h4⟩
  · exact ⟨none, 0, by rw [hn], fun j hj => by omega, by omega, by unfold maxLen; omega⟩
  · refine ⟨_, cap, rfl, fun j hj => ⟨g, 0, rfl, hb, ⟨cur, _, hg⟩, ?_⟩, h1, h2⟩
    have := World.ownsRow.cellAt (xs := zs.map (Value.int .i64)) h j (by omega)
    rw [Nat.zero_add, this]
    simp [hj]
theorem IntRow.keep {base : Nat} {W W' : World} {a : Option Addr} {zs : List Int} (h : IntRow base W a zs) (hk : ∀ b, base ≤ b → (∃ cs p, W.heap[b]? = some (.cells cs 3 p)) → W'.heap[b]? = W.heap[b]?) : IntRow base W' a zs := fun j hj => by
  obtain ⟨b, off, e, hb, hc, hcell⟩ := h j hj
  refine ⟨b, off, e, hb, ?_, (World.cell?_of_block (a := ⟨b, off + j, none⟩) (hk b hb hc)).trans hcell⟩
  obtain ⟨cs, p, hc'⟩ := hc
  exact ⟨cs, p, (hk b hb ⟨cs, p, hc'⟩).trans hc'⟩
theorem IntRow.below {base : Nat} {W W' : World} {a : Option Addr} {zs : List Int} (h : IntRow base W a zs) (hB : Below W.heap.size W W') : IntRow base W' a zs := h.keep fun b _ ⟨_, _, hc⟩ => hB.block b (Array.getElem?_eq_some_iff.1 hc).1
theorem IntRow.mono {base base' : Nat} {W : World} {a : Option Addr} {zs : List Int} (h : IntRow base W a zs) (hb : base' ≤ base) : IntRow base' W a zs := fun j hj => by
  obtain ⟨b, off, e, h1, r⟩ := h j hj
  exact ⟨b, off, e, by omega, r⟩
/-- v is a slice in new memory that holds these pairs, each term in new memory too (it may be shared). -/
def NewQ (base : Nat) (W : World) (v : Value) (ps : PairL) : Prop :=
  ∃ us : List Value, W.ownsRow base 42 2 v ps.length us ∧ ∀ j, j < ps.length → ∃ aL cL aR cR, us[j * 2]? = some (.slice aL (ps[j]?.getD ([], [])).1.length cL) ∧ us[j * 2 + 1]? = some (.slice aR (ps[j]?.getD ([], [])).2.length cR) ∧ IntRow base W aL (ps[j]?.getD ([], [])).1 ∧ IntRow base W aR (ps[j]?.getD ([], [])).2 ∧ (ps[j]?.getD ([], [])).1.length ≤ cL ∧ cL ≤ maxLen ∧ (ps[j]?.getD ([], [])).2.length ≤ cR ∧ cR ≤ maxLen
theorem NewQ.nil (base : Nat) (W : World) : NewQ base W (.slice none 0 0) [] := ⟨[], World.ownsRow_nil _ _ _ _, fun j hj => by simp at hj⟩
theorem NewQ.below {base : Nat} {W W' : World} {v : Value} {ps : PairL} (h : NewQ base W v ps) (hB : Below W.heap.size W W') : NewQ base W' v ps := by
  obtain ⟨us, h1, h2⟩ := h
  refine ⟨us, ownsRow_keep h1 fun q hq => hB.block q (World.ownsRow.lt h1 q hq).2, fun j hj => ?_⟩
  obtain ⟨aL, cL, aR, cR, a, b, c, d, r⟩ := h2 j hj
  exact ⟨aL, cL, aR, cR, a, b, c.below hB, d.below hB, r⟩
theorem NewQ.mono {base base' : Nat} {W : World} {v : Value} {ps : PairL} (h : NewQ base W v ps) (hb : base' ≤ base) : NewQ base' W v ps := by
  obtain ⟨us, h1, h2⟩ := h
  refine ⟨us, ⟨h1.1, h1.2.elim .inl (fun ⟨g, cap, cur, e1, e2, e3⟩ => .inr ⟨g, cap, cur, e1, Nat.le_trans hb e2, e3⟩)⟩, fun j hj => ?_⟩
  obtain ⟨aL, cL, aR, cR, a, b, c, d, r⟩ := h2 j hj
  exact ⟨aL, cL, aR, cR, a, b, c.mono hb, d.mono hb, r⟩
theorem NewQ.at {base : Nat} {W : World} {v : Value} {ps : PairL} (h : NewQ base W v ps) : ∃ a cap, v = .slice a ps.length cap ∧ RulesAt W.heap.size W a ps ∧ ps.length ≤ cap ∧ cap ≤ maxLen := by
  obtain ⟨us, h1, h2⟩ := h
  have hl : us.length = ps.length * 2 := h1.1
  rcases h1.2 with ⟨rfl, hn⟩ | ⟨g, cap, cur, rfl, hb, hgb, q1, q2, _⟩
  · refine ⟨none, 0, by rw [hn], fun k hk => by omega, by omega, by unfold maxLen; omega⟩
  · refine ⟨_, cap, rfl, fun j hj => ?_, q1, q2⟩
    obtain ⟨a1, c1, a2, c2, p1, p2, i1, i2, m1, m1', m2, m2'⟩ := h2 j hj
    have cc := fun k hk => World.ownsRow.cellAt h1 k hk
    exact ⟨g, 0, rfl, (Array.getElem?_eq_some_iff.1 hgb).1, a1, c1, a2, c2, by rw [Nat.zero_add, cc _ (by omega), p1], by rw [Nat.zero_add, cc _ (by omega), p2], i1.ints, i2.ints, m1, m1', m2, m2'⟩
/-- One pair more. -/
theorem NewQ.snoc {base : Nat} {w w' : World} {v v' : Value} {ps : PairL} {aL aR : Option Addr} {cL cR : Nat} {t t2 : List Int} (hg : w.grownBy w' v.ownBlock) (h1 : IntRow base w aL t) (h2 : IntRow base w aR t2) (c1 : t.length ≤ cL) (c2 : cL ≤ maxLen) (c3 : t2.length ≤ cR) (c4 : cR ≤ maxLen)
    {us : List Value} (hus : w.ownsRow base 42 2 v ps.length us) (hcl : ∀ j, j < ps.length → ∃ aL cL aR cR, us[j * 2]? = some (.slice aL (ps[j]?.getD ([], [])).1.length cL) ∧ us[j * 2 + 1]? = some (.slice aR (ps[j]?.getD ([], [])).2.length cR) ∧ IntRow base w aL (ps[j]?.getD ([], [])).1 ∧ IntRow base w aR (ps[j]?.getD ([], [])).2 ∧ (ps[j]?.getD ([], [])).1.length ≤ cL ∧ cL ≤ maxLen ∧ (ps[j]?.getD ([], [])).2.length ≤ cR ∧ cR ≤ maxLen)
    (hown : w'.ownsRow base 42 2 v' (ps.length + 1) (us ++ [.slice aL t.length cL, .slice aR t2.length cR])) : NewQ base w' v' (ps ++ [(t, t2)]) := by
  have hul : us.length = ps.length * 2 := hus.1
  have hk : ∀ b, base ≤ b → (∃ cs p, w.heap[b]? = some (.cells cs 3 p)) → w'.heap[b]? = w.heap[b]? := fun b _ ⟨cs, p, hb⟩ => hg.block b (Array.getElem?_eq_some_iff.1 hb).1 fun e => by
    obtain ⟨cur, h⟩ := row_type hus e.symm
    rw [hb] at h
    simp only [Option.some.injEq, Obj.cells.injEq] at h
    exact absurd h.2.1 (by decide)
  refine ⟨us ++ [.slice aL t.length cL, .slice aR t2.length cR], by simpa using hown, fun j hj => ?_⟩
  by_cases hjl : j < ps.length
  · obtain ⟨y, yc, y', yc', q1, q2, n1, n2, r⟩ := hcl j hjl
    rw [List.getElem?_append_left hjl, List.getElem?_append_left (by omega), List.getElem?_append_left (by omega)]
    exact ⟨y, yc, y', yc', q1, q2, n1.keep hk, n2.keep hk, r⟩
  · have hje : j = ps.length := by simp at hj; omega
    subst hje
    rw [List.getElem?_append_right (Nat.le_refl _), List.getElem?_append_right (by omega), List.getElem?_append_right (by omega), hul]
    exact ⟨aL, cL, aR, cR, by simp, by simp, by simpa using h1.keep hk, by simpa using h2.keep hk, by simpa using c1, c2, by simpa using c3, c4⟩

theorem Tm.oth_get {t : List Int} {k : Nat} (h : k < t.length) : (Tm.others (t.take k) ++ t.drop k)[k]?.getD 0 = t[k]?.getD 0 := by
  have hl : (Tm.others (t.take k)).length = k := by rw [Tm.others_length, List.length_take]; omega
  rw [List.getElem?_append_right (by omega), hl, Nat.sub_self, List.getElem?_drop, Nat.add_zero]
theorem Tm.oth_set {t : List Int} {k : Nat} (h : k < t.length) : (Tm.others (t.take k) ++ t.drop k).set k (Tm.oth (t[k]?.getD 0)) = Tm.others (t.take (k + 1)) ++ t.drop (k + 1) := by
  have hl : (Tm.others (t.take k)).length = k := by rw [Tm.others_length, List.length_take]; omega
  rw [List.set_append_right _ _ (by omega), hl, Nat.sub_self, Tm.others_snoc h, List.drop_eq_getElem_cons h, List.set_cons_zero, List.append_assoc]
  rfl
theorem Tm.oth_same {t : List Int} {k : Nat} (h : k < t.length) (hs : 0 ≤ t[k]?.getD 0) : Tm.others (t.take (k + 1)) ++ t.drop (k + 1) = Tm.others (t.take k) ++ t.drop k := by
  have ho : Tm.oth (t[k]?.getD 0) = t[k]?.getD 0 := by unfold Tm.oth; rw [if_neg (by omega)]
  rw [Tm.others_snoc h, ho, List.drop_eq_getElem_cons h, List.append_assoc, List.getElem?_eq_getElem h]
  rfl
theorem Tm.oth_len (t : List Int) (k : Nat) (h : k ≤ t.length) : (Tm.others (t.take k) ++ t.drop k).length = t.length := by
  rw [List.length_append, Tm.others_length, List.length_take, List.length_drop]
  omega

set_option maxRecDepth 100000 in
set_option maxHeartbeats 1000000 in
/-- haspref.others. -/
theorem refothers_any (t : List Int) (at' : Option Addr) (ct : Nat) (w : World) (ht : t.length ≤ 30) (h0 : 0 < t.length) (h8 : ∀ k, k < t.length → -100 ≤ t[k]?.getD 0) (hT : Ints w.heap.size w at' t) :
    Calls Try.prog 77 #[.slice at' t.length ct] w fun e w' => ∃ v, e = .returned v ∧ New w.heap.size w' v (Tm.others t) ∧ Below w.heap.size w w' := by
  have hlen : (t.length : Int) ≤ 30 := by omega
  obtain ⟨b, off, rfl, hb, hc⟩ := hT.at h0
  have hl : New w.heap.size (w.alloc (.cells #[] 3)) (.slice (some ⟨w.heap.size, 0, none⟩) 0 0) [] := New.lit w.heap.size w [] (Nat.le_refl _) (by unfold maxLen; simp)
  have hB0 : Below w.heap.size w (w.alloc (.cells #[] 3)) := (Below.refl _ _).alloc (Nat.le_refl _) _
  have HT := hid hT
  have H8 := hid h8
  clear hT hc h8
  go_enter Try.func77, Try.ntmps77
  go_wp2_with (at_builtin; go_loud (refine wp_append_ints _ rfl _ _ rfl w.heap.size _ [] rfl hl _ t ct rfl (fun e => by cases e) ((HT.out.below hB0).mono hB0.size) (by simp; omega) hB0.size ?_); intro v1 W1 hN1 hB1; obtain ⟨g, c, rfl, _⟩ := New.at0 hN1 (by simpa using h0))
  have hB2 := hB0.trans hB1
  clear hB0 hB1 hl
  simp only [List.nil_append] at *
  have hgl := hN1.own_lt
  go_loopw [4] (fun i wr => ∃ k : Nat, k ≤ t.length ∧ i = .int .i64 (k : Int) ∧ Hid (New w.heap.size wr (.slice (some ⟨g, 0, none⟩) t.length c) (Tm.others (t.take k) ++ t.drop k)) ∧ Hid (Below w.heap.size w wr)) (fun i _ => t.length - (intOf i).toNat)
  case atStart => exact ⟨0, Nat.zero_le _, rfl, by simpa [Tm.others, Hid] using hN1, hB2⟩
  case round =>
    obtain ⟨k, hk, rfl, hNk, hBk⟩ := hrel
    by_cases hlt : k < t.length
    · have hlt' : (k : Int) < (t.length : Int) := by omega
      obtain ⟨hcs, hfs⟩ := New.atG hNk.out (Tm.oth_len t k hk).symm
      have hck := hcs k hlt
      have hfk := hfs k
      rw [Tm.oth_get hlt] at hck
      have h8k := H8.out k hlt
      clear hcs hfs
      by_cases hs : t[k]?.getD 0 < 0
      · have hst := hid (Tm.oth_set hlt)
        have ho : Hid (Tm.oth (t[k]?.getD 0) = t[k]?.getD 0 - 4) := by show _ = _; unfold Tm.oth; rw [if_pos hs]
        generalize t[k]?.getD 0 = s at *
        go_wp2
        go_roundw
        case rel =>
          refine ⟨k + 1, by omega, by go_num, ?_, hBk.out.setCell (p := ⟨g, k, none⟩) hgl.1 _⟩
          have h := hNk.out.set (Tm.oth_len t k hk).symm k (s - 4)
          rw [← ho.out, hst.out, ho.out] at h
          exact h
        case measure => simp [intOf]; omega
      · have hs' : decide (t[k]?.getD 0 < 0) = false := by simpa using hs
        have hst := hid (Tm.oth_same hlt (by omega))
        clear hs
        generalize t[k]?.getD 0 = s at *
        go_wp2
        go_roundw
        case rel => exact ⟨k + 1, by omega, by go_num, by rw [hst.out]; exact hNk, hBk⟩
        case measure => simp [intOf]; omega
    · obtain rfl : k = t.length := by omega
      have h := hNk.out
      rw [List.take_length, List.drop_length, List.append_nil] at h
      have H := hid h
      clear h
      go_wp2
      go_ret
      exact ⟨_, rfl, H.out, hBk.out⟩

end Go.Proofs.Ytgeknojpcjadkaa

namespace Go.Proofs.Ytgeknojpcjadkaa
open Go.Proofs Go.RowKit Go.Shelf Go.Maps

set_option maxRecDepth 100000 in
set_option maxHeartbeats 400000 in
theorem refOwn_any (zs : List Int) (a : Option Addr) (cap : Nat) (w : World) (hI : Ints w.heap.size w a zs) (hm : zs.length ≤ maxLen) :
    Calls Try.prog 42 #[.slice a zs.length cap] w fun e w' => e = .returned (.bool (!zs.any foreignB)) ∧ w' = w := by
  unfold maxLen at hm
  go_enter Try.func42, Try.ntmps42
  go_wp2
  go_loop [3] (fun i => ∃ k : Nat, k ≤ zs.length ∧ i = .int .i64 (k : Int) ∧ (zs.take k).any foreignB = false) (fun i => zs.length - (intOf i).toNat)
  case atStart => exact ⟨0, Nat.zero_le _, rfl, by simp⟩
  case round =>
    obtain ⟨k, hk, rfl, hno⟩ := hrel
    by_cases hlt : k < zs.length
    · have hlt' : (k : Int) < (zs.length : Int) := by omega
      obtain ⟨b, off, rfl, hb, hc⟩ := hI.at (by omega)
      have hck := hc k hlt
      have hsn := hid (any_snoc (p := foreignB) hlt hno)
      have hye := hid (any_yes (p := foreignB) hlt)
      clear hc hI hno
      generalize zs[k]?.getD 0 = s at *
      by_cases hq : s < -4
      · have Hy := hid (hye.out (decide_eq_true hq))
        clear hsn
        go_wp2
        go_ret
        exact ⟨by rw [Hy.out]; rfl, rfl⟩
      · have hq' : decide (s < -4) = false := by simpa using hq
        have Hn := hid (hsn.out hq')
        clear hye hq
        go_wp2
        go_round
        case rel => exact ⟨k + 1, by omega, by go_num, Hn.out⟩
        case measure => simp [intOf]; omega
    · obtain rfl : k = zs.length := by omega
      rw [List.take_length] at hno
      have hn := hid hno
      clear hno
      go_wp2
      go_ret
      exact ⟨by rw [hn.out]; rfl, rfl⟩

set_option maxRecDepth 100000 in
set_option maxHeartbeats 400000 in
theorem refStands_any (zs : List Int) (x : Int) (a : Option Addr) (cap : Nat) (w : World) (hI : Ints w.heap.size w a zs) (hm : zs.length ≤ maxLen) :
    Calls Try.prog 43 #[.slice a zs.length cap, .int .i64 x] w fun e w' => e = .returned (.bool (Tm.hasB zs x)) ∧ w' = w := by
  unfold maxLen at hm
  go_enter Try.func43, Try.ntmps43
  go_wp2
  go_loop [5] (fun i => ∃ k : Nat, k ≤ zs.length ∧ i = .int .i64 (k : Int) ∧ ∀ j, j < k → zs[j]?.getD 0 ≠ x) (fun i => zs.length - (intOf i).toNat)
  case atStart => exact ⟨0, Nat.zero_le _, rfl, fun j hj => by omega⟩
  case round =>
    obtain ⟨k, hk, rfl, hno⟩ := hrel
    by_cases hlt : k < zs.length
    · have hlt' : (k : Int) < (zs.length : Int) := by omega
      obtain ⟨b, off, rfl, hb, hc⟩ := hI.at (by omega)
      have hck := hc k hlt
      have hsn := hid (has_no hno)
      have hye := hid (@has_yes zs x k hlt)
      clear hc hI hno
      generalize zs[k]?.getD 0 = s at *
      by_cases he : s = x
      · have hb1 : (s == x) = true := by simp [he]
        have He := hid (hye.out he)
        clear he
        go_wp2
        go_ret
        exact ⟨by rw [He.out]; rfl, rfl⟩
      · have hb1 : (s == x) = false := by simpa using he
        have He := hid (hsn.out he)
        clear he
        go_wp2
        go_round
        case rel => exact ⟨k + 1, by omega, by go_num, He.out⟩
        case measure => simp [intOf]; omega
    · obtain rfl : k = zs.length := by omega
      have hn := hid (has_none hno)
      clear hno
      go_wp2
      go_ret
      exact ⟨by rw [hn.out]; rfl, rfl⟩

end Go.Proofs.Ytgeknojpcjadkaa

namespace Go.Proofs.Ytgeknojpcjadkaa
open Go.Proofs Go.RowKit Go.Shelf Go.Maps

theorem ruleErr_fit {L R : List Int} (h : Tm.fitErr L R ≠ 0) : Tm.ruleErr L R = Tm.fitErr L R := by
  unfold Tm.fitErr at h ⊢
  unfold Tm.ruleErr
  simp only [Tm.firstErr] at h ⊢
  by_cases h1 : Tm.err L = 0
  · rw [if_pos h1] at h ⊢
    rw [if_pos h1]
    by_cases h2 : Tm.err R = 0
    · rw [if_pos h2] at h; exact absurd rfl h
    · rw [if_neg h2, if_neg h2]
  · rw [if_neg h1, if_neg h1]
theorem ruleErr_fit0 {L R : List Int} (h : Tm.fitErr L R = 0) : Tm.ruleErr L R = (if L.any foreignB = true then 3 else if R.any foreignB = true then 3 else if L[0]?.getD 0 < 0 then 1 else if R.any (freeIn L) = true then 4 else 0) := by
  obtain ⟨h1, h2⟩ := Tm.fitErr_ok h
  unfold Tm.ruleErr
  rw [if_pos h1, if_pos h2]
theorem below_drewO {n : Nat} {a b : World} (h : Below n a b) (d : Nat) : Below n a (b.drewN d) := ⟨h.os, h.tape, h.output, h.size, h.block⟩

set_option maxRecDepth 100000 in
set_option maxHeartbeats 2000000 in
theorem rulesError_any (rs : RuleL) (a : Option Addr) (cap : Nat) (w : World) (hI : RulesAt w.heap.size w a rs) :
    Calls Try.prog 13 #[.slice a rs.length cap] w fun e w' => e = .returned (.int .i64 (Tm.rulesErr rs)) ∧ Below w.heap.size w w' := by
  by_cases h8 : 8 < rs.length
  · have h8' : (8 : Int) < (rs.length : Int) := by omega
    have hv : Tm.rulesErr rs = 2 := by unfold Tm.rulesErr; rw [if_pos h8]
    rw [hv]
    clear h8 hv hI
    go_enter Try.func13, Try.ntmps13
    go_wp2
    go_ret
    exact ⟨rfl, Below.refl _ _⟩
  · have h8' : (rs.length : Int) ≤ 8 := by omega
    have hv : Tm.rulesErr rs = Tm.firstRule rs := by unfold Tm.rulesErr; rw [if_neg h8]
    rw [hv]
    clear hv h8
    go_enter Try.func13, Try.ntmps13
    go_wp2
    go_loopw [3] (fun v wr => ∃ k : Nat, k ≤ rs.length ∧ v = .int .i64 (k : Int) ∧ Hid (Tm.firstRule rs = Tm.firstRule (rs.drop k)) ∧ Below w.heap.size w wr) (fun v _ => rs.length - (intOf v).toNat)
    case atStart => exact ⟨0, Nat.zero_le _, rfl, hid rfl, Below.refl _ _⟩
    case round =>
      obtain ⟨k, hk, rfl, hst, hB⟩ := hrel
      obtain ⟨u0, rfl⟩ : ∃ u0, u0 = wr := ⟨wr, rfl⟩
      by_cases hlt : k < rs.length
      · have hlt' : (k : Int) < (rs.length : Int) := by omega
        obtain ⟨b, off, rfl, hb, aL, cL, aR, cR, h1, h2, h3, h4, _⟩ := (hI.below hB) k hlt
        have hs1 := hid (Tm.firstRule_step hlt)
        have hs2 := hid (Tm.firstRule_at hlt)
        obtain ⟨L, hL⟩ : ∃ L, (rs[k]?.getD ([], [])).1 = L := ⟨_, rfl⟩
        obtain ⟨R, hR⟩ : ∃ R, (rs[k]?.getD ([], [])).2 = R := ⟨_, rfl⟩
        rw [hL] at h1 h3 hs1 hs2
        rw [hR] at h2 h4 hs1 hs2
        have hBa : Below u0.heap.size u0 (u0.alloc (.cells #[.slice aL L.length cL, .slice aR R.length cR] 39)) := (Below.refl _ u0).alloc (Nat.le_refl _) _
        have hblk := World.alloc_heap_new u0 (.cells #[.slice aL L.length cL, .slice aR R.length cR] 39)
        have d0 : (u0.alloc (.cells #[.slice aL L.length cL, .slice aR R.length cR] 39)).cell? ⟨u0.heap.size, 0, none⟩ = some (.slice aL L.length cL) := by rw [cell_at hblk]; rfl
        have d1 : (u0.alloc (.cells #[.slice aL L.length cL, .slice aR R.length cR] 39)).cell? ⟨u0.heap.size, 1, none⟩ = some (.slice aR R.length cR) := by rw [cell_at hblk]; rfl
        have hltB : u0.heap.size < (u0.alloc (.cells #[.slice aL L.length cL, .slice aR R.length cR] 39)).heap.size := by simp
        have iL := ((h3.mono hB.size).below hBa).mono hBa.size
        have iR := ((h4.mono hB.size).below hBa).mono hBa.size
        have hBw := hB.trans (hBa.mono hB.size)
        have C1 := hid (twoErrors_any L R aL aR cL cR (u0.alloc (.cells #[.slice aL L.length cL, .slice aR R.length cR] 39)) iL iR)
        clear hL hR h3 h4 hI hblk
        by_cases hf : Tm.fitErr L R = 0
        · obtain ⟨k1, k2⟩ := Tm.fitErr_ok hf
          have lL := Tm.err_len k1
          have lR := Tm.err_len k2
          have pL := Tm.err_pos k1
          have pL' : (0 : Int) < (L.length : Int) := by omega
          have lR' : (R.length : Int) ≤ 30 := by omega
          have hre := ruleErr_fit0 hf
          rw [hf] at C1
          have C3 := hid (refOwn_any L aL cL (u0.alloc (.cells #[.slice aL L.length cL, .slice aR R.length cR] 39)) iL (by unfold maxLen; omega))
          have C4 := hid (refOwn_any R aR cR (u0.alloc (.cells #[.slice aL L.length cL, .slice aR R.length cR] 39)) iR (by unfold maxLen; omega))
          obtain ⟨bl, ol, rfl, _, cl⟩ := iL.at pL
          have c0 := cl 0 pL
          simp only [Nat.add_zero] at c0
          clear cl hf k1 k2
          have HL := hid (fun W (hW : Below (u0.alloc (.cells #[.slice (some ⟨bl, ol, none⟩) L.length cL, .slice aR R.length cR] 39)).heap.size (u0.alloc (.cells #[.slice (some ⟨bl, ol, none⟩) L.length cL, .slice aR R.length cR] 39)) W) => (iL.below hW).mono hW.size)
          have HR := hid (fun W (hW : Below (u0.alloc (.cells #[.slice (some ⟨bl, ol, none⟩) L.length cL, .slice aR R.length cR] 39)).heap.size (u0.alloc (.cells #[.slice (some ⟨bl, ol, none⟩) L.length cL, .slice aR R.length cR] 39)) W) => (iR.below hW).mono hW.size)
          have D0 := hid (fun W (hW : Below (u0.alloc (.cells #[.slice (some ⟨bl, ol, none⟩) L.length cL, .slice aR R.length cR] 39)).heap.size (u0.alloc (.cells #[.slice (some ⟨bl, ol, none⟩) L.length cL, .slice aR R.length cR] 39)) W) => (hW.cell (p := ⟨u0.heap.size, 0, none⟩) hltB).trans d0)
          have D1 := hid (fun W (hW : Below (u0.alloc (.cells #[.slice (some ⟨bl, ol, none⟩) L.length cL, .slice aR R.length cR] 39)).heap.size (u0.alloc (.cells #[.slice (some ⟨bl, ol, none⟩) L.length cL, .slice aR R.length cR] 39)) W) => (hW.cell (p := ⟨u0.heap.size, 1, none⟩) hltB).trans d1)
          clear iL iR
          cases q1 : L.any foreignB with
          | true =>
            rw [q1, if_pos rfl] at hre
            rw [q1] at C3
            have Hs := hid ((hs2.out (by rw [hre]; decide)).trans hre)
            clear q1 hre hs1 hs2 C4
            go_wp2_with (first
              | (go_at_call 41; refine C1.out.mono ?_; clear C1; rintro e w2 ⟨rfl, rfl⟩)
              | (go_at_call 42; refine C3.out.mono ?_; clear C3; rintro e w2 ⟨rfl, rfl⟩))
            go_ret
            exact ⟨ret_int (hst.out.trans Hs.out).symm, hBw⟩
          | false =>
            rw [q1, if_neg (by decide)] at hre
            rw [q1] at C3
            cases q2 : R.any foreignB with
            | true =>
              rw [q2, if_pos rfl] at hre
              rw [q2] at C4
              have Hs := hid ((hs2.out (by rw [hre]; decide)).trans hre)
              clear q1 q2 hre hs1 hs2
              go_wp2_with (first
                | (go_at_call 41; refine C1.out.mono ?_; clear C1; rintro e w2 ⟨rfl, rfl⟩)
                | (go_at_call_of 42 (Value.slice (some ⟨bl, ol, none⟩) L.length cL); refine C3.out.mono ?_; clear C3; rintro e w2 ⟨rfl, rfl⟩)
                | (go_at_call_of 42 (Value.slice aR R.length cR); refine C4.out.mono ?_; clear C4; rintro e w2 ⟨rfl, rfl⟩))
              go_ret
              exact ⟨ret_int (hst.out.trans Hs.out).symm, hBw⟩
            | false =>
              rw [q2, if_neg (by decide)] at hre
              rw [q2] at C4
              clear q1 q2
              generalize L[0]?.getD 0 = s0 at *
              by_cases hs : s0 < 0
              · rw [if_pos hs] at hre
                have Hs := hid ((hs2.out (by rw [hre]; decide)).trans hre)
                clear hre hs1 hs2
                go_wp2_with (first
                  | (go_at_call 41; refine C1.out.mono ?_; clear C1; rintro e w2 ⟨rfl, rfl⟩)
                  | (go_at_call_of 42 (Value.slice (some ⟨bl, ol, none⟩) L.length cL); refine C3.out.mono ?_; clear C3; rintro e w2 ⟨rfl, rfl⟩)
                  | (go_at_call_of 42 (Value.slice aR R.length cR); refine C4.out.mono ?_; clear C4; rintro e w2 ⟨rfl, rfl⟩))
                go_ret
                exact ⟨ret_int (hst.out.trans Hs.out).symm, hBw⟩
              · rw [if_neg hs] at hre
                have hs' : decide (s0 < 0) = false := by simpa using hs
                have Hre := hid hre
                clear hre hs
                go_wp2_with (first
                  | (go_at_call 41; refine C1.out.mono ?_; clear C1; rintro e w2 ⟨rfl, rfl⟩)
                  | (go_at_call_of 42 (Value.slice (some ⟨bl, ol, none⟩) L.length cL); refine C3.out.mono ?_; clear C3; rintro e w2 ⟨rfl, rfl⟩)
                  | (go_at_call_of 42 (Value.slice aR R.length cR); refine C4.out.mono ?_; clear C4; rintro e w2 ⟨rfl, rfl⟩))
                go_loopw [6] (fun v W => ∃ m : Nat, m ≤ R.length ∧ v = .int .i64 (m : Int) ∧ Hid ((R.take m).any (freeIn L) = false) ∧ Below (u0.alloc (.cells #[.slice (some ⟨bl, ol, none⟩) L.length cL, .slice aR R.length cR] 39)).heap.size (u0.alloc (.cells #[.slice (some ⟨bl, ol, none⟩) L.length cL, .slice aR R.length cR] 39)) W) (fun v _ => R.length - (intOf v).toNat)
                case atStart => exact ⟨0, Nat.zero_le _, rfl, hid (by simp), Below.refl _ _⟩
                case round =>
                  obtain ⟨m, hm, rfl, hfr, hBm⟩ := hrel
                  have d0 := D0.out wr hBm
                  have d1 := D1.out wr hBm
                  by_cases hm2 : m < R.length
                  · have hm2' : (m : Int) < (R.length : Int) := by omega
                    obtain ⟨br, or', eR, _, cr⟩ := (HR.out wr hBm) m hm2
                    rw [eR] at d1
                    have hsn := hid (any_snoc (p := freeIn L) hm2 hfr.out)
                    have hye := hid (any_yes (p := freeIn L) hm2)
                    have hSt := hid (fun W (hW : Below (u0.alloc (.cells #[.slice (some ⟨bl, ol, none⟩) L.length cL, .slice aR R.length cR] 39)).heap.size (u0.alloc (.cells #[.slice (some ⟨bl, ol, none⟩) L.length cL, .slice aR R.length cR] 39)) W) => refStands_any L (R[m]?.getD 0) (some ⟨bl, ol, none⟩) cL W (HL.out W hW) (by unfold maxLen; omega))
                    generalize R[m]?.getD 0 = x at *
                    by_cases hx : x < 0
                    · cases hq : Tm.hasB L x with
                      | true =>
                        rw [hq] at hSt
                        have hz : freeIn L x = false := by unfold freeIn; rw [hq]; simp
                        have Hn := hid (hsn.out hz)
                        clear hz hq hsn hye
                        go_wp2_with fail
                        go_quiet ((go_at_call 43; exact Calls.quiet_of_same (hSt.out _ (below_drewO hBm _))))
                        go_wp2
                        go_roundw
                        case rel => exact ⟨m + 1, by omega, by go_num, hid Hn.out, below_drewO hBm _⟩
                        case measure => simp [intOf]; omega
                      | false =>
                        rw [hq] at hSt
                        have hz : freeIn L x = true := by unfold freeIn; rw [hq, decide_eq_true hx]; rfl
                        have hre := Hre.out
                        rw [hye.out hz, if_pos rfl] at hre
                        have Hs := hid ((hs2.out (by rw [hre]; decide)).trans hre)
                        clear hz hq hsn hye hre
                        go_wp2_with fail
                        go_quiet ((go_at_call 43; exact Calls.quiet_of_same (hSt.out _ (below_drewO hBm _))))
                        go_wp2
                        go_ret
                        exact ⟨ret_int (hst.out.trans Hs.out).symm, hBw.trans ((below_drewO hBm _).mono hBw.size)⟩
                    · have hx' : decide (x < 0) = false := by simpa using hx
                      have hz : freeIn L x = false := by unfold freeIn; rw [hx']; rfl
                      have Hn := hid (hsn.out hz)
                      clear hz hsn hye hx
                      go_wp2_with fail
                      go_quiet (fail)
                      go_wp2
                      go_roundw
                      case rel => exact ⟨m + 1, by omega, by go_num, hid Hn.out, below_drewO hBm _⟩
                      case measure => simp [intOf]; omega
                  · obtain rfl : m = R.length := by omega
                    rw [List.take_length] at hfr
                    have hre := Hre.out
                    rw [hfr.out, if_neg (by decide)] at hre
                    have Hs := hid (hs1.out hre)
                    clear hre
                    go_wp2
                    go_roundw
                    case rel => exact ⟨k + 1, by omega, by go_num, hid (hst.out.trans Hs.out), hBw.trans (hBm.mono hBw.size)⟩
                    case measure => simp [intOf]; omega
        · have hn : (Tm.fitErr L R != 0) = true := by simpa using hf
          have hre := ruleErr_fit hf
          have Hs := hid ((hs2.out (by rw [hre]; exact hf)).trans hre)
          clear hf hre hs1 hs2
          generalize Tm.fitErr L R = q at *
          go_wp2_with (first
            | (go_at_call 41; refine C1.out.mono ?_; clear C1; rintro e w2 ⟨rfl, rfl⟩))
          go_ret
          exact ⟨ret_int (hst.out.trans Hs.out).symm, hBw⟩
      · obtain rfl : k = rs.length := by omega
        go_wp2
        go_ret
        exact ⟨by rw [hst.out, List.drop_length]; rfl, hB⟩

end Go.Proofs.Ytgeknojpcjadkaa

namespace Go.Proofs.Ytgeknojpcjadkaa
open Go.Proofs Go.RowKit Go.Shelf Go.Maps

/-- One lean more. -/
theorem wp_append_lean {ops : Array Oper} {rest : List Oper} {o : Oper} {a : Act} {Q : Exit → Act → World → Prop} (w : World) (hgd : o.guard = none) (s x : Operand)
    (ho : o.op = .call { callee := .builtin .append, args := #[s, x], argTypes := #[71, 71] }) (base : Nat) (v : Value) (l : LeanL) (hs : a.eval s = v) (hN : NewL base w v l)
    (d : LnD) (B : Nat) (hx : a.eval x = .slice (some ⟨B, 0, none⟩) 1 1) (hB : ∀ j u, (encL d)[j]? = some u → w.cell? ⟨B, j, none⟩ = some u) (hd : LnCell w d) (hlen : l.length ≤ 1000000) (hbase : base ≤ w.heap.size)
    (h : ∀ v' w', NewL base w' v' (l ++ [d.1]) → Below base w w' → (∃ g cap, v' = .slice (some ⟨g, 0, none⟩) (l.length + 1) cap) → wpList Try.prog ops Q rest (a.put o.dst v') w') : wpList Try.prog ops Q (o :: rest) a w := by
  obtain ⟨i0, hi, hz0, hz1, hz2⟩ := info_parts Try.info77
  obtain ⟨ds, h0, h1, h2⟩ := hN
  have hl : ds.length = l.length := by rw [← h0, List.length_map]
  refine wpList_append_own w hgd s x 71 ho base 77 i0 (.agg #[.int .i64 0, .int .i64 0, .slice none 0 0, .slice none 0 0]) 4 64 Try.infoLeans hi hz0 hz1 hz2 rfl (by decide) v ds.length _ hs h1 ⟨B, 0, none⟩ 1 1 (encL d) hx (by simp [encL])
    (by intro j z hj; rw [Go.WideShapes.add_plain, Nat.zero_add]; exact hB j z hj) (encL_one d) (by unfold maxLen; omega) (by omega) hbase ?_
  intro v' w' hown hg _
  refine h v' w' (lean_row (es := [d]) h0 h1 h2 (fun d' hd' => by simp at hd'; subst hd'; exact hd) (by simpa using hown) hg) ((Below.refl base w).grown hg hbase (fun k e => (World.ownsRow.lt h1 k e).1)) ?_
  rw [← hl]
  exact ownsRow_succ hown


/-- What comes of these rules at these places. -/
def Tm.LrOn (rs : RuleL) (t : List Int) (P : Nat → Nat → Prop) (l : LeanL) : Prop :=
  (∀ k i, P k i → ∃ o, Tm.LnAt t k (Tm.others (rs[k]?.getD ([], [])).1) (Tm.others (rs[k]?.getD ([], [])).2) i o) ∧ l.Pairwise LnLt ∧
  ∀ x, x ∈ l ↔ ∃ k i o, P k i ∧ Tm.LnAt t k (Tm.others (rs[k]?.getD ([], [])).1) (Tm.others (rs[k]?.getD ([], [])).2) i o ∧ x ∈ o
theorem Tm.LrOn.congr {rs : RuleL} {t : List Int} {P P' : Nat → Nat → Prop} {l : LeanL} (h : Tm.LrOn rs t P l) (hP : ∀ k i, P k i ↔ P' k i) : Tm.LrOn rs t P' l := by
  have e : P = P' := funext fun k => funext fun i => propext (hP k i)
  exact e ▸ h
theorem Tm.LrOn.next {rs : RuleL} {t : List Int} {P : Nat → Nat → Prop} {l o : LeanL} {j m : Nat} (h : Tm.LrOn rs t P l) (hP : ∀ k i, P k i → i < m ∨ (i = m ∧ k < j)) (ho : Tm.LnAt t j (Tm.others (rs[j]?.getD ([], [])).1) (Tm.others (rs[j]?.getD ([], [])).2) m o) : Tm.LrOn rs t (fun k i => P k i ∨ (k = j ∧ i = m)) (l ++ o) := by
  refine ⟨fun k i hk => ?_, ?_, fun x => ?_⟩
  · rcases hk with hk | ⟨rfl, rfl⟩
    · exact h.1 k i hk
    · exact ⟨o, ho⟩
  · rw [List.pairwise_append]
    refine ⟨h.2.1, ?_, fun x hx y hy => ?_⟩
    · have hl := ho.len
      match o, hl with
      | [], _ => exact List.Pairwise.nil
      | [a], _ => exact List.pairwise_singleton _ _
    · obtain ⟨k, i, o', hk, ho', hx⟩ := (h.2.2 x).1 hx
      obtain ⟨a1, a2, _⟩ := ho'.mem x hx
      obtain ⟨b1, b2, _⟩ := ho.mem y hy
      have := hP k i hk
      unfold LnLt
      omega
  · rw [List.mem_append, h.2.2 x]
    constructor
    · rintro (⟨k, i, o', hk, ho', hx⟩ | hx)
      · exact ⟨k, i, o', .inl hk, ho', hx⟩
      · exact ⟨j, m, o, .inr ⟨rfl, rfl⟩, ho, hx⟩
    · rintro ⟨k, i, o', hk | ⟨rfl, rfl⟩, ho', hx⟩
      · exact .inl ⟨k, i, o', hk, ho', hx⟩
      · rw [ho'.one ho] at hx
        exact .inr hx
theorem Tm.LrOn.pass {rs : RuleL} {t : List Int} {l : LeanL} {m : Nat} (h : Tm.LrOn rs t (fun k i => k < rs.length ∧ i < m) l) (ht : t[m]?.getD 0 < 0) : Tm.LrOn rs t (fun k i => k < rs.length ∧ i < m + 1) l := by
  have hp : ∀ k, Tm.LnAt t k (Tm.others (rs[k]?.getD ([], [])).1) (Tm.others (rs[k]?.getD ([], [])).2) m [] := fun k => .inl ⟨ht, rfl⟩
  refine ⟨fun k i hk => ?_, h.2.1, fun x => (h.2.2 x).trans ⟨fun ⟨k, i, o, hk, ho⟩ => ⟨k, i, o, ⟨hk.1, by omega⟩, ho⟩, fun ⟨k, i, o, hk, ho, hx⟩ => ?_⟩⟩
  · by_cases e : i = m
    · subst e; exact ⟨[], hp k⟩
    · exact h.1 k i ⟨hk.1, by omega⟩
  · by_cases e : i = m
    · subst e
      rw [ho.one (hp k)] at hx
      cases hx
    · exact ⟨k, i, o, ⟨hk.1, by omega⟩, ho, hx⟩
theorem Tm.LrOn.ok {rs : RuleL} {t : List Int} {l : LeanL} (h : Tm.LrOn rs t (fun k i => k < rs.length ∧ i < t.length) l) : Tm.LeanOk rs t l :=
  ⟨fun k hk i hi => h.1 k i ⟨hk, hi⟩, h.2.1, fun x => (h.2.2 x).trans ⟨fun ⟨k, i, o, hk, ho⟩ => ⟨k, i, o, hk.1, hk.2, ho⟩, fun ⟨k, i, o, hk, hi, ho⟩ => ⟨k, i, o, ⟨hk, hi⟩, ho⟩⟩⟩
theorem Tm.LrOn.len {rs : RuleL} {t : List Int} {P : Nat → Nat → Prop} {l : LeanL} (h : Tm.LrOn rs t P l) (hP : ∀ k i, P k i → k < 8 ∧ i < 30) : l.length ≤ 240 := by
  have key : ∀ (l : LeanL), l.Pairwise LnLt → (∀ x ∈ l, x.1 < 8 ∧ x.2.1 < 30) → ∀ b, (∀ x ∈ l, b ≤ x.2.1 * 8 + x.1) → b + l.length ≤ 240 ∨ l = [] := by
    intro l
    induction l with
    | nil => exact fun _ _ _ _ => .inr rfl
    | cons x l ih =>
      intro hp hb b hbx
      rw [List.pairwise_cons] at hp
      have h0 := hbx x (by simp)
      have h1 := hb x (by simp)
      rcases ih hp.2 (fun y hy => hb y (by simp [hy])) (b + 1) (fun y hy => by
        have h2 := hp.1 y hy
        have h3 := hb y (by simp [hy])
        unfold LnLt at h2
        omega) with h | h
      · left; simp; omega
      · left; subst h; simp; omega
  have hb : ∀ x ∈ l, x.1 < 8 ∧ x.2.1 < 30 := fun x hx => by
    obtain ⟨k, i, o, hk, ho, hx⟩ := (h.2.2 x).1 hx
    obtain ⟨a1, a2, _⟩ := ho.mem x hx
    have := hP k i hk
    omega
  rcases key l h.2.1 hb 0 (fun _ _ => Nat.zero_le _) with h | h
  · omega
  · subst h; simp

end Go.Proofs.Ytgeknojpcjadkaa

namespace Go.Proofs.Ytgeknojpcjadkaa
open Go.Proofs Go.RowKit Go.Shelf Go.Maps

theorem Tm.oth_run (t : List Int) : ∀ n, Tm.run (Tm.others t) n = Tm.run t n := by
  induction t with
  | nil => intro n; rfl
  | cons s l ih =>
    intro n
    cases n with
    | zero => rw [Tm.run_zero, Tm.run_zero]
    | succ n =>
      show Tm.run (Tm.oth s :: Tm.others l) (n + 1) = _
      have hr : Tm.room (Tm.oth s) = Tm.room s := by
        unfold Tm.oth
        by_cases hs : s < 0
        · rw [if_pos hs, Wb.room_var hs, Wb.room_var (by omega)]
        · rw [if_neg hs]
      rw [Tm.run_cons, Tm.run_cons, hr, ih]
theorem Tm.oth_err {t : List Int} (h : Tm.err t = 0) (hf : t.any foreignB = false) : Tm.err (Tm.others t) = 0 := by
  refine Tm.err_ok (by rw [Tm.others_length]; exact Tm.err_len h) ?_ (by rw [Tm.oth_run, Tm.others_length]; exact Tm.err_run h)
  rw [List.all_eq_true]
  intro s hs
  obtain ⟨q, hq, rfl⟩ := List.mem_map.1 hs
  obtain ⟨h1, h2⟩ := Tm.known_mem h hq
  have h3 := List.any_eq_false.1 hf q hq
  simp only [foreignB, decide_eq_true_eq] at h3
  refine Tm.known_of ?_ ?_ <;> (unfold Tm.oth; split <;> omega)

theorem Tm.MeetSays.bad2 {ps : PairL} {er : Int} {is : Bool} {val : List (List Int)} (h : Tm.MeetSays ps er is val) (h0 : Tm.firstPair ps = 0) (he : er ≠ 0) : er = 2 := by
  rcases h with ⟨h1, _⟩ | ⟨_, _, h, _⟩ | ⟨_, _, _, _, h, _⟩ | ⟨_, _, _, _, h, _⟩
  · exact absurd h0 h1
  · exact absurd h he
  · exact absurd h he
  · exact h

end Go.Proofs.Ytgeknojpcjadkaa
