/-
  (*web).tie. · A result that lies in a box. · (*web).tieParts; (*web).tie, whatever is tied already. · PLAIN MATHEMATICS: what places become, if nothing turns back; that it makes the same of what is tied, and whatever else does is made of it; and there is but one such list. · PLAIN MATHEMATICS of turning back: each place that is begun is larger than the one that is asked. · (*web).leadsBack: at a place that has been seen.
-/
import Derived.Deep.RegionHeld3
import Derived.Deep.QuietTactic
import Derived.BigQuiet
import Derived.Test.YtbelnlemjcoifaaBum4
import Derived.Test.YtbelnlemjcoifaaBum2
namespace Go.Proofs.Ytbelnlemjcoifaa
open Go.Proofs Go.RowKit Go.Shelf Go.Maps

theorem WebAt.sgn {W : World} {Bw Bm : Nat} {b off : Nat} {cap : Nat} {zs : List Int} {N : Nat} {T : Nat → Option Nat} (h : WebAt W Bw Bm (some ⟨b, off, none⟩) cap zs N T) {p : Nat} (hp : p < zs.length) : W.cell? ⟨b, off + p, none⟩ = some (.int .i64 (Wb.sg zs p)) := by
  obtain ⟨b', off', e, _, hc⟩ := h.ints p hp
  cases e
  exact hc
theorem WebAt.set {W W1 : World} {Bw Bm : Nat} {a : Option Addr} {cap : Nat} {zs : List Int} {N o n : Nat} {T : Nat → Option Nat} {M : Int → Option Value} (h : WebAt W Bw Bm a cap zs N T) (hM : IntMap W Bm N M) (hMT : ∀ p : Nat, M (p : Int) = (T p).map fun q => .int .i64 (q : Int))
    (h1 : IntMap W1 Bm (N + 1) (upd M (o : Int) (.int .i64 (n : Int)))) (hg : W.grownBy W1 (some Bm)) : WebAt W1 Bw Bm a cap zs (N + 1) (Wb.updN T o n) := by
  obtain ⟨es, clock, hmap⟩ := hM.map
  have hk : ∀ k, k < W.heap.size → k ≠ Bm → W1.heap[k]? = W.heap[k]? := fun k hk hne => hg.block k hk (by simpa using hne)
  have hne : Bw ≠ Bm := ne_map h.cell0 hmap
  refine ⟨(hk Bw h.lt.1 hne).trans h.web, fun j hj => ?_, ⟨_, h1, fun p => ?_⟩⟩
  · obtain ⟨b, off, e, hb, hc⟩ := h.ints j hj
    exact ⟨b, off, e, by have := hg.size; omega, (World.cell?_of_block (a := ⟨b, off + j, none⟩) (hk b hb (ne_map hc hmap))).trans hc⟩
  · by_cases e : p = o
    · subst e; rw [upd_same]; simp [Wb.updN]
    · rw [upd_other _ _ (by omega), hMT]; simp [Wb.updN, e]
theorem IntMap.drewN {W : World} {b n : Nat} {m : Int → Option Value} (h : IntMap W b n m) (d : Nat) : IntMap (W.drewN d) b n m := h.keep rfl

theorem grown_drew {w w1 : World} {row : Option Nat} {d : Nat} (h : (w.drewN d).grownBy w1 row) : w.grownBy w1 row := ⟨h.os, h.tape, h.output, h.size, h.block⟩

/-- The web's state. -/
def WSt (W : World) (Bw Bm : Nat) (a : Option Addr) (cap : Nat) (zs : List Int) (h : Nat → Nat) : Prop := ∃ T N, Wb.St zs T h ∧ WebAt W Bw Bm a cap zs N T ∧ N + Wb.rt zs h ≤ zs.length
def TieAns (W' : World) (e : Ending) (Bw Bm : Nat) (a : Option Addr) (cap : Nat) (zs : List Int) (h : Nat → Nat) (ps : List (Nat × Nat)) : Prop :=
  (e = .returned (.bool true) ∧ ∃ h', Wb.TieL zs h h' ps ∧ WSt W' Bw Bm a cap zs h' ∧ Wb.rt zs h' ≤ Wb.rt zs h) ∨ (e = .returned (.bool false) ∧ Wb.No zs h ps)

theorem keepDrew {n m d : Nat} {a b : World} (h : Keep n m (a.drewN d) b) : Keep n m a b := ⟨h.os, h.tape, h.output, h.size, h.block⟩
/-- The answer as a Bool. -/
theorem tieQ {f : Nat} {args : Array Value} {W : World} {m Bw Bm : Nat} {a : Option Addr} {cap : Nat} {zs : List Int} {h : Nat → Nat} {ps : List (Nat × Nat)} (H : Calls Try.prog f args W fun e W' => Keep m Bm W W' ∧ TieAns W' e Bw Bm a cap zs h ps) :
    Calls Try.prog f args W fun e W' => ∃ q, e = .returned (.bool q) ∧ Keep m Bm W W' ∧ ((q = true ∧ ∃ h', Wb.TieL zs h h' ps ∧ WSt W' Bw Bm a cap zs h' ∧ Wb.rt zs h' ≤ Wb.rt zs h) ∨ (q = false ∧ Wb.No zs h ps)) :=
  H.mono fun _ _ ⟨hK, hA⟩ => hA.elim (fun ⟨he, r⟩ => ⟨true, he, hK, .inl ⟨rfl, r⟩⟩) (fun ⟨he, r⟩ => ⟨false, he, hK, .inr ⟨rfl, r⟩⟩)

set_option maxRecDepth 100000 in
set_option maxHeartbeats 2000000 in
theorem tie_step (zs : List Int) (G : Wb.Good zs) (h : Nat → Nat) (Bw Bm : Nat) (a : Option Addr) (cap one other : Nat) (w : World) (hw : WSt w Bw Bm a cap zs h) (h1 : one < zs.length) (h2 : other < zs.length)
    (hP : ∀ (h' : Nat → Nat) (n o : Nat) (W : World), Wb.rt zs h' < Wb.rt zs h → n < zs.length → o < zs.length → 0 ≤ Wb.sg zs n → Wb.sg zs o = Wb.sg zs n → WSt W Bw Bm a cap zs h' →
      Calls Try.prog 87 #[.pointer (some ⟨Bw, 0, none⟩), .int .i64 (n : Int), .int .i64 (o : Int)] W fun e W' => Keep W.heap.size Bm W W' ∧ TieAns W' e Bw Bm a cap zs h' (Wb.pairsTo zs n o (Tm.room (Wb.sg zs n)))) :
    Calls Try.prog 80 #[.pointer (some ⟨Bw, 0, none⟩), .int .i64 (one : Int), .int .i64 (other : Int)] w fun e w' => Keep w.heap.size Bm w w' ∧ TieAns w' e Bw Bm a cap zs h [(one, other)] := by
  obtain ⟨T, N, S, hW, hN⟩ := hw
  have hH1 := callsIn_wide.1 (head_in Fence.wide wide_pl 0 zs T h G S Bw Bm a cap N one h1 w hW)
  have hH2 := callsIn_wide.1 (head_in Fence.wide wide_pl 0 zs T h G S Bw Bm a cap N other h2 w hW)
  have hl5 := G.len
  have hl5' : (zs.length : Int) ≤ 5000 := by omega
  by_cases he : Wb.hd zs h one = Wb.hd zs h other
  · have hT := hid (Wb.TieL.same h1 h2 he)
    have hSt : Hid (WSt w Bw Bm a cap zs h) := ⟨T, N, S, hW, hN⟩
    rw [he] at hH1
    clear he hW S hP
    generalize Wb.hd zs h other = y at *
    go_enter Try.func80, Try.ntmps80
    go_wp2_with (first
      | (go_at_call_of 86 (Value.int .i64 (one : Int)); refine hH1.mono ?_; clear hH1; rintro e w ⟨rfl, rfl⟩)
      | (go_at_call_of 86 (Value.int .i64 (other : Int)); refine hH2.mono ?_; clear hH2; rintro e w ⟨rfl, rfl⟩))
    go_ret
    exact ⟨Keep.refl _ _ _, .inl ⟨rfl, h, hT.out, hSt.out, Nat.le_refl _⟩⟩
  · obtain ⟨l1, c1, r1⟩ := Wb.hd_lt G S h1
    obtain ⟨l2, c2, r2⟩ := Wb.hd_lt G S h2
    obtain ⟨b, off, rfl, hb, hc⟩ := hW.ints.at (by omega)
    have hcx : w.cell? ⟨b, off + Wb.hd zs h one, none⟩ = some (.int .i64 (Wb.sg zs (Wb.hd zs h one))) := hc _ l1
    have hcy : w.cell? ⟨b, off + Wb.hd zs h other, none⟩ = some (.int .i64 (Wb.sg zs (Wb.hd zs h other))) := hc _ l2
    have hw0 := hW.cell0
    have hw1 := hW.cell1
    clear hc
    by_cases hlt : Wb.sg zs (Wb.hd zs h one) < Wb.sg zs (Wb.hd zs h other)
    · have hEnds : Wb.Ends zs h one other (Wb.hd zs h one) (Wb.hd zs h other) := .inr ⟨rfl, rfl⟩
      generalize hx : Wb.hd zs h one = x at *
      generalize hy : Wb.hd zs h other = y at *
      clear hx hy
      have hne : x ≠ y := he
      have hneb : ((x : Int) == (y : Int)) = false := by simp; omega
      have hxl : (x : Int) < (zs.length : Int) := by omega
      have hyl : (y : Int) < (zs.length : Int) := by omega
      obtain ⟨ho, hn, co, cn, ro, rn, hsg⟩ : x < zs.length ∧ y < zs.length ∧ Wb.can zs x = x ∧ Wb.can zs y = y ∧ h x = x ∧ h y = y ∧ Wb.sg zs x ≤ Wb.sg zs y := ⟨l1, l2, c1, c2, r1, r2, by omega⟩
      go_enter Try.func80, Try.ntmps80
      obtain ⟨M, hM, hMT⟩ := hW.ties
      have hwfo := wfN (n := x) (by omega)
      have hset := hid (fun w1 (h1 : IntMap w1 Bm (N + 1) (upd M (x : Int) (.int .i64 (y : Int)))) h2 => hW.set hM hMT (o := x) (n := y) h1 h2)
      have HM := hid hM
      have hSt := hid (S.merge ho hn co cn ro rn hne hsg)
      have hrt := Wb.rt_merge ho co ro rn hne
      by_cases hov : Wb.sg zs x < 0
      · have hTie := hid (Wb.TieL.var G S h1 h2 hEnds hne hov)
        clear hM hMT S hne ro rn
        go_wp2_with (first
          | (go_at_call_of 86 (Value.int .i64 (one : Int)); refine hH1.mono ?_; clear hH1; rintro e w ⟨rfl, rfl⟩)
          | (go_at_call_of 86 (Value.int .i64 (other : Int)); refine hH2.mono ?_; clear hH2; rintro e w ⟨rfl, rfl⟩))
        go_quiet (fail)
        go_wp2_with (first
          | (at_mapUpdate; go_loud (refine wp_mapset _ rfl _ _ _ 85 rfl 3 Try.underlying85 Bm N M rfl (HM.out.drewN _) (by unfold maxLen; omega) (x : Int) rfl hwfo _ rfl ?_); intro w1 hM1 hg0; have hg1 := grown_drew hg0; have hW1 := hset.out w1 hM1 hg1; have hw10 := hW1.cell0; have hc1o := WebAt.sgn hW1 ho))
        go_ret
        exact ⟨Keep.of_grown hg1 (Nat.le_refl _), .inl ⟨rfl, _, hTie.out, ⟨_, _, hSt.out, hW1, by omega⟩, by omega⟩⟩
      · have hov0 : 0 ≤ Wb.sg zs x := by omega
        have hovd : decide (Wb.sg zs x < 0) = false := by simpa using hov
        by_cases hes : Wb.sg zs x = Wb.sg zs y
        · have hTie := hid (fun h2' K => Wb.TieL.sym (h2 := h2') G h1 h2 hEnds hne ho hn ro rn hov0 hes K)
          have hNo := hid (fun K => Wb.No.sym G h1 h2 hEnds ho hn hov0 (by omega) K)
          have hwf1 : ∀ w1, WebAt w1 Bw Bm (some ⟨b, off, none⟩) cap zs (N + 1) (Wb.updN T x y) → WSt w1 Bw Bm (some ⟨b, off, none⟩) cap zs (Wb.mg h x y) := fun w1 hw1 => ⟨_, _, hSt.out, hw1, by omega⟩
          have hcall := hid (fun w1 (hw1 : WebAt w1 Bw Bm (some ⟨b, off, none⟩) cap zs (N + 1) (Wb.updN T x y)) => tieQ (hP (Wb.mg h x y) y  x (w1.drewN 1) hrt hn ho (by omega) hes (hwf1 _ ⟨hw1.web, hw1.ints, hw1.ties⟩)))
          have heqb : (Wb.sg zs y == Wb.sg zs x) = true := by simp [hes]
          have hsn0 : 0 ≤ Wb.sg zs y := by omega
          clear hM hMT S hne ro rn hP hwf1 hes
          go_wp2_with (first
            | (go_at_call_of 86 (Value.int .i64 (one : Int)); refine hH1.mono ?_; clear hH1; rintro e w ⟨rfl, rfl⟩)
            | (go_at_call_of 86 (Value.int .i64 (other : Int)); refine hH2.mono ?_; clear hH2; rintro e w ⟨rfl, rfl⟩))
          go_quiet (fail)
          go_wp2_with (first
            | (at_mapUpdate; go_loud (refine wp_mapset _ rfl _ _ _ 85 rfl 3 Try.underlying85 Bm N M rfl (HM.out.drewN _) (by unfold maxLen; omega) (x : Int) rfl hwfo _ rfl ?_); intro w1 hM1 hg0; have hg1 := grown_drew hg0; have hW1 := hset.out w1 hM1 hg1; have hw10 := hW1.cell0; have hc1o := WebAt.sgn hW1 ho; have hc1n := WebAt.sgn hW1 hn))
          have hC := hcall.out w1 hW1
          clear hcall
          obtain ⟨es, clock, hmap⟩ := HM.out.map
          have hmap1 : ∃ es clock, w1.heap[Bm]? = some (.map es clock) := hM1.map
          obtain ⟨es1, clock1, hmap1⟩ := hmap1
          have hlw := hW1.lt.1
          have hlb : b < w1.heap.size := lt_of_cell hc1o
          have hnb : b ≠ Bm := ne_map hc1o hmap1
          have hnw : Bw ≠ Bm := ne_map hw10 hmap1
          go_region_held3 (fun w' => w'.cell? ⟨Bw, 0, none⟩ = some (.slice (some ⟨b, off, none⟩) zs.length cap) ∧ w'.cell? ⟨b, off + y, none⟩ = some (.int .i64 (Wb.sg zs y)) ∧ w'.cell? ⟨b, off + x, none⟩ = some (.int .i64 (Wb.sg zs x))) (first | assumption | exact ⟨hw10, hc1n, hc1o⟩) (first
            | (go_at_call 87; refine hC.mono ?_; clear hC; rintro e w2 ⟨q, rfl, hK2, hq2⟩; have hS2 : w2.cell? ⟨Bw, 0, none⟩ = some (.slice (some ⟨b, off, none⟩) zs.length cap) ∧ w2.cell? ⟨b, off + y, none⟩ = some (.int .i64 (Wb.sg zs y)) ∧ w2.cell? ⟨b, off + x, none⟩ = some (.int .i64 (Wb.sg zs x)) := ⟨(hK2.cell (p := ⟨Bw, 0, none⟩) hlw hnw).trans hw10, (hK2.cell (p := ⟨b, off + y, none⟩) hlb hnb).trans hc1n, (hK2.cell (p := ⟨b, off + x, none⟩) hlb hnb).trans hc1o⟩))
          all_goals (
            go_wp2
            go_ret
            refine ⟨(Keep.of_grown hg1 (Nat.le_refl _)).trans (Keep.mono (keepDrew hK2) hg1.size), ?_⟩
            rcases hq2 with ⟨rfl, h', hL, hS', hr'⟩ | ⟨rfl, hN'⟩
            · exact .inl ⟨rfl, h', hTie.out h' hL, hS', by omega⟩
            · exact .inr ⟨rfl, hNo.out hN'⟩)
        · have hNo := hid (Wb.No.clash G h1 h2 hEnds ho hn hov0 (by omega) hes)
          have hneq : (Wb.sg zs y == Wb.sg zs x) = false := by simp; exact fun e => hes e.symm
          clear hM hMT S hne ro rn hP hes
          go_wp2_with (first
            | (go_at_call_of 86 (Value.int .i64 (one : Int)); refine hH1.mono ?_; clear hH1; rintro e w ⟨rfl, rfl⟩)
            | (go_at_call_of 86 (Value.int .i64 (other : Int)); refine hH2.mono ?_; clear hH2; rintro e w ⟨rfl, rfl⟩))
          go_quiet (fail)
          go_wp2_with (first
            | (at_mapUpdate; go_loud (refine wp_mapset _ rfl _ _ _ 85 rfl 3 Try.underlying85 Bm N M rfl (HM.out.drewN _) (by unfold maxLen; omega) (x : Int) rfl hwfo _ rfl ?_); intro w1 hM1 hg0; have hg1 := grown_drew hg0; have hW1 := hset.out w1 hM1 hg1; have hw10 := hW1.cell0; have hc1o := WebAt.sgn hW1 ho; have hc1n := WebAt.sgn hW1 hn))
          go_quiet (fail)
          go_wp2
          go_ret
          exact ⟨keep_drewN (Keep.of_grown hg1 (Nat.le_refl _)) _, .inr ⟨rfl, hNo.out⟩⟩

    · have hEnds : Wb.Ends zs h one other (Wb.hd zs h other) (Wb.hd zs h one) := .inl ⟨rfl, rfl⟩
      generalize hx : Wb.hd zs h one = x at *
      generalize hy : Wb.hd zs h other = y at *
      clear hx hy
      have hne : y ≠ x := fun e => he e.symm
      have hltd : decide (Wb.sg zs x < Wb.sg zs y) = false := by simpa using hlt
      have hneb : ((x : Int) == (y : Int)) = false := by simp; omega
      have hxl : (x : Int) < (zs.length : Int) := by omega
      have hyl : (y : Int) < (zs.length : Int) := by omega
      obtain ⟨ho, hn, co, cn, ro, rn, hsg⟩ : y < zs.length ∧ x < zs.length ∧ Wb.can zs y = y ∧ Wb.can zs x = x ∧ h y = y ∧ h x = x ∧ Wb.sg zs y ≤ Wb.sg zs x := ⟨l2, l1, c2, c1, r2, r1, by omega⟩
      go_enter Try.func80, Try.ntmps80
      obtain ⟨M, hM, hMT⟩ := hW.ties
      have hwfo := wfN (n := y) (by omega)
      have hset := hid (fun w1 (h1 : IntMap w1 Bm (N + 1) (upd M (y : Int) (.int .i64 (x : Int)))) h2 => hW.set hM hMT (o := y) (n := x) h1 h2)
      have HM := hid hM
      have hSt := hid (S.merge ho hn co cn ro rn hne hsg)
      have hrt := Wb.rt_merge ho co ro rn hne
      by_cases hov : Wb.sg zs y < 0
      · have hTie := hid (Wb.TieL.var G S h1 h2 hEnds hne hov)
        clear hM hMT S hne ro rn
        go_wp2_with (first
          | (go_at_call_of 86 (Value.int .i64 (one : Int)); refine hH1.mono ?_; clear hH1; rintro e w ⟨rfl, rfl⟩)
          | (go_at_call_of 86 (Value.int .i64 (other : Int)); refine hH2.mono ?_; clear hH2; rintro e w ⟨rfl, rfl⟩))
        go_quiet (fail)
        go_wp2_with (first
          | (at_mapUpdate; go_loud (refine wp_mapset _ rfl _ _ _ 85 rfl 3 Try.underlying85 Bm N M rfl (HM.out.drewN _) (by unfold maxLen; omega) (y : Int) rfl hwfo _ rfl ?_); intro w1 hM1 hg0; have hg1 := grown_drew hg0; have hW1 := hset.out w1 hM1 hg1; have hw10 := hW1.cell0; have hc1o := WebAt.sgn hW1 ho))
        go_ret
        exact ⟨Keep.of_grown hg1 (Nat.le_refl _), .inl ⟨rfl, _, hTie.out, ⟨_, _, hSt.out, hW1, by omega⟩, by omega⟩⟩
      · have hov0 : 0 ≤ Wb.sg zs y := by omega
        have hovd : decide (Wb.sg zs y < 0) = false := by simpa using hov
        by_cases hes : Wb.sg zs y = Wb.sg zs x
        · have hTie := hid (fun h2' K => Wb.TieL.sym (h2 := h2') G h1 h2 hEnds hne ho hn ro rn hov0 hes K)
          have hNo := hid (fun K => Wb.No.sym G h1 h2 hEnds ho hn hov0 (by omega) K)
          have hwf1 : ∀ w1, WebAt w1 Bw Bm (some ⟨b, off, none⟩) cap zs (N + 1) (Wb.updN T y x) → WSt w1 Bw Bm (some ⟨b, off, none⟩) cap zs (Wb.mg h y x) := fun w1 hw1 => ⟨_, _, hSt.out, hw1, by omega⟩
          have hcall := hid (fun w1 (hw1 : WebAt w1 Bw Bm (some ⟨b, off, none⟩) cap zs (N + 1) (Wb.updN T y x)) => tieQ (hP (Wb.mg h y x) x  y (w1.drewN 1) hrt hn ho (by omega) hes (hwf1 _ ⟨hw1.web, hw1.ints, hw1.ties⟩)))
          have heqb : (Wb.sg zs x == Wb.sg zs y) = true := by simp [hes]
          have hsn0 : 0 ≤ Wb.sg zs x := by omega
          clear hM hMT S hne ro rn hP hwf1 hes
          go_wp2_with (first
            | (go_at_call_of 86 (Value.int .i64 (one : Int)); refine hH1.mono ?_; clear hH1; rintro e w ⟨rfl, rfl⟩)
            | (go_at_call_of 86 (Value.int .i64 (other : Int)); refine hH2.mono ?_; clear hH2; rintro e w ⟨rfl, rfl⟩))
          go_quiet (fail)
          go_wp2_with (first
            | (at_mapUpdate; go_loud (refine wp_mapset _ rfl _ _ _ 85 rfl 3 Try.underlying85 Bm N M rfl (HM.out.drewN _) (by unfold maxLen; omega) (y : Int) rfl hwfo _ rfl ?_); intro w1 hM1 hg0; have hg1 := grown_drew hg0; have hW1 := hset.out w1 hM1 hg1; have hw10 := hW1.cell0; have hc1o := WebAt.sgn hW1 ho; have hc1n := WebAt.sgn hW1 hn))
          have hC := hcall.out w1 hW1
          clear hcall
          obtain ⟨es, clock, hmap⟩ := HM.out.map
          have hmap1 : ∃ es clock, w1.heap[Bm]? = some (.map es clock) := hM1.map
          obtain ⟨es1, clock1, hmap1⟩ := hmap1
          have hlw := hW1.lt.1
          have hlb : b < w1.heap.size := lt_of_cell hc1o
          have hnb : b ≠ Bm := ne_map hc1o hmap1
          have hnw : Bw ≠ Bm := ne_map hw10 hmap1
          go_region_held3 (fun w' => w'.cell? ⟨Bw, 0, none⟩ = some (.slice (some ⟨b, off, none⟩) zs.length cap) ∧ w'.cell? ⟨b, off + x, none⟩ = some (.int .i64 (Wb.sg zs x)) ∧ w'.cell? ⟨b, off + y, none⟩ = some (.int .i64 (Wb.sg zs y))) (first | assumption | exact ⟨hw10, hc1n, hc1o⟩) (first
            | (go_at_call 87; refine hC.mono ?_; clear hC; rintro e w2 ⟨q, rfl, hK2, hq2⟩; have hS2 : w2.cell? ⟨Bw, 0, none⟩ = some (.slice (some ⟨b, off, none⟩) zs.length cap) ∧ w2.cell? ⟨b, off + x, none⟩ = some (.int .i64 (Wb.sg zs x)) ∧ w2.cell? ⟨b, off + y, none⟩ = some (.int .i64 (Wb.sg zs y)) := ⟨(hK2.cell (p := ⟨Bw, 0, none⟩) hlw hnw).trans hw10, (hK2.cell (p := ⟨b, off + x, none⟩) hlb hnb).trans hc1n, (hK2.cell (p := ⟨b, off + y, none⟩) hlb hnb).trans hc1o⟩))
          all_goals (
            go_wp2
            go_ret
            refine ⟨(Keep.of_grown hg1 (Nat.le_refl _)).trans (Keep.mono (keepDrew hK2) hg1.size), ?_⟩
            rcases hq2 with ⟨rfl, h', hL, hS', hr'⟩ | ⟨rfl, hN'⟩
            · exact .inl ⟨rfl, h', hTie.out h' hL, hS', by omega⟩
            · exact .inr ⟨rfl, hNo.out hN'⟩)
        · have hNo := hid (Wb.No.clash G h1 h2 hEnds ho hn hov0 (by omega) hes)
          have hneq : (Wb.sg zs x == Wb.sg zs y) = false := by simp; exact fun e => hes e.symm
          clear hM hMT S hne ro rn hP hes
          go_wp2_with (first
            | (go_at_call_of 86 (Value.int .i64 (one : Int)); refine hH1.mono ?_; clear hH1; rintro e w ⟨rfl, rfl⟩)
            | (go_at_call_of 86 (Value.int .i64 (other : Int)); refine hH2.mono ?_; clear hH2; rintro e w ⟨rfl, rfl⟩))
          go_quiet (fail)
          go_wp2_with (first
            | (at_mapUpdate; go_loud (refine wp_mapset _ rfl _ _ _ 85 rfl 3 Try.underlying85 Bm N M rfl (HM.out.drewN _) (by unfold maxLen; omega) (y : Int) rfl hwfo _ rfl ?_); intro w1 hM1 hg0; have hg1 := grown_drew hg0; have hW1 := hset.out w1 hM1 hg1; have hw10 := hW1.cell0; have hc1o := WebAt.sgn hW1 ho; have hc1n := WebAt.sgn hW1 hn))
          go_quiet (fail)
          go_wp2
          go_ret
          exact ⟨keep_drewN (Keep.of_grown hg1 (Nat.le_refl _)) _, .inr ⟨rfl, hNo.out⟩⟩


end Go.Proofs.Ytbelnlemjcoifaa

namespace Go.Proofs.Ytbelnlemjcoifaa
open Go.Proofs Go.RowKit Go.Shelf Go.Maps

theorem results_boxB {fn : Func} {tmps : Array Value} {w : World} {a B : Nat} {v : Bool} (h : fn.results = #[.cell a 4]) (ht : tmps.getD a undef = .pointer (some ⟨B, 0, none⟩)) (hc : w.cell? ⟨B, 0, none⟩ = some (.bool v)) : (results fn tmps).run Try.prog w = .ok (.bool v) w := by
  have ht' : tmps[a]?.getD undef = .pointer (some ⟨B, 0, none⟩) := by rw [← ht]; simp
  simp only [results, h]
  simp [go_sem, ht', hc]

end Go.Proofs.Ytbelnlemjcoifaa

namespace Go.Proofs.Ytbelnlemjcoifaa
open Go.Proofs Go.RowKit Go.Shelf Go.Maps

attribute [local go_sem] Oper.semAt_some

theorem WSt.keep {W W' : World} {Bw Bm b off n : Nat} {cap : Nat} {zs : List Int} {h : Nat → Nat} (H : WSt W Bw Bm (some ⟨b, off, none⟩) cap zs h) (h1 : Bw < n) (h2 : Bm < n) (h3 : b < n) (hn : n ≤ W'.heap.size) (hk : ∀ k, k < n → W'.heap[k]? = W.heap[k]?) : WSt W' Bw Bm (some ⟨b, off, none⟩) cap zs h := by
  obtain ⟨T, N, S, hW, hN⟩ := H
  refine ⟨T, N, S, ⟨(hk Bw h1).trans hW.web, fun j hj => ?_, ?_⟩, hN⟩
  · obtain ⟨b', off', e, _, hc⟩ := hW.ints j hj
    cases e
    exact ⟨b, off, rfl, by omega, (World.cell?_of_block (a := ⟨b, off + j, none⟩) (hk b h3)).trans hc⟩
  · obtain ⟨M, hM, hMT⟩ := hW.ties
    exact ⟨M, hM.keep (hk Bm h2), hMT⟩
theorem WSt.ints {W : World} {Bw Bm : Nat} {a : Option Addr} {cap : Nat} {zs : List Int} {h : Nat → Nat} (H : WSt W Bw Bm a cap zs h) : Ints W.heap.size W a zs := by
  obtain ⟨T, N, S, hW, hN⟩ := H
  exact hW.ints
theorem WSt.cell0 {W : World} {Bw Bm : Nat} {a : Option Addr} {cap : Nat} {zs : List Int} {h : Nat → Nat} (H : WSt W Bw Bm a cap zs h) : W.cell? ⟨Bw, 0, none⟩ = some (.slice a zs.length cap) := by
  obtain ⟨T, N, S, hW, hN⟩ := H
  exact hW.cell0
theorem WSt.lt {W : World} {Bw Bm : Nat} {a : Option Addr} {cap : Nat} {zs : List Int} {h : Nat → Nat} (H : WSt W Bw Bm a cap zs h) : Bw < W.heap.size ∧ Bm < W.heap.size := by
  obtain ⟨T, N, S, hW, hN⟩ := H
  exact hW.lt

theorem keep_own {n m B : Nat} {w X Y : World} {row : Option Nat} (hB : n ≤ B) (h : Keep n m w X) (hg : X.grownBy Y row) (hr : ∀ r, row = some r → B ≤ r ∧ ∃ o : Obj, X.heap[r]? = some o ∧ o.isCells = false) (hn : n ≤ w.heap.size := by exact Nat.le_refl _) : Keep n m w Y :=
  ⟨hg.os.trans h.os, hg.tape.trans h.tape, hg.output.trans h.output, Nat.le_trans h.size hg.size, fun k hk hm => (hg.block k (by have := h.size; omega) (fun e => by have := (hr k e.symm).1; omega)).trans (h.block k hk hm)⟩
theorem keep_set {n m B : Nat} {w X : World} (h : Keep n m w X) (hB : n ≤ B) (v : Value) : Keep n m w (X.setCell ⟨B, 0, none⟩ v) :=
  ⟨h.os, h.tape, h.output, Nat.le_trans h.size (KeepsWalks.setCell X _ v).size, fun k hk hm => (Below.heap_setCell X ⟨B, 0, none⟩ v k (by show k ≠ B; omega)).trans (h.block k hk hm)⟩
/-- What holds ahead of round i of tieParts. -/
structure TPInv (w : World) (Bw Bm b off cap : Nat) (zs : List Int) (h : Nat → Nat) (one other i : Nat) (W : World) : Prop where
  st : ∃ h', Wb.TieL zs h h' (Wb.pairsTo zs one other i) ∧ WSt W Bw Bm (some ⟨b, off, none⟩) cap zs h' ∧ Wb.rt zs h' ≤ Wb.rt zs h
  bA : Boxed W (w.heap.size + 1 + 1) 3 (.int .i64 (Tm.pos zs other i : Int))
  bW : Boxed W w.heap.size 93 (.pointer (some ⟨Bw, 0, none⟩))
  bR : Boxed W (w.heap.size + 1) 4 (.bool false)
  bK : Boxed W (w.heap.size + 1 + 1 + 1 + 1) 3 (.int .i64 (one : Int))
  bT : Boxed W (w.heap.size + 1 + 1 + 1) 23 (.slice (some ⟨b, off, none⟩) zs.length cap)
  kp : Keep w.heap.size Bm w W
theorem TPInv.own {w : World} {Bw Bm b off cap : Nat} {zs : List Int} {h : Nat → Nat} {one other B : Nat} (h1 : Bw < w.heap.size) (h2 : Bm < w.heap.size) (h3 : b < w.heap.size) (hB : w.heap.size ≤ B) : OwnFrom B (TPInv w Bw Bm b off cap zs h one other) := by
  rintro i X Y row ⟨⟨h', hL, hS, hr⟩, bA, bW, bR, bK, bT, hK⟩ hg hrow
  have hbx : ∀ {C : Nat} {t : TypeId} {v : Value}, Boxed X C t v → Boxed Y C t v := fun {C t v} hb => (boxed_own C t (fun _ : Unit => v)).from B () X Y row hb hg hrow
  refine ⟨⟨h', hL, hS.keep h1 h2 h3 (Nat.le_trans hK.size hg.size) fun k hk => hg.block k (by have := hK.size; omega) (fun e => by have := (hrow k e.symm).1; omega), hr⟩, hbx bA, hbx bW, hbx bR, hbx bK, hbx bT, keep_own hB hK hg hrow⟩

set_option maxRecDepth 100000 in
set_option maxHeartbeats 2000000 in
theorem tieParts_step (zs : List Int) (G : Wb.Good zs) (h : Nat → Nat) (Bw Bm b off : Nat) (cap one other : Nat) (w : World) (hw : WSt w Bw Bm (some ⟨b, off, none⟩) cap zs h) (h1 : one < zs.length) (h2 : other < zs.length) (hs2 : Wb.sg zs other = Wb.sg zs one)
    (hT : ∀ (h' : Nat → Nat) (p q : Nat) (W : World), Wb.rt zs h' ≤ Wb.rt zs h → p < zs.length → q < zs.length → WSt W Bw Bm (some ⟨b, off, none⟩) cap zs h' →
      Calls Try.prog 80 #[.pointer (some ⟨Bw, 0, none⟩), .int .i64 (p : Int), .int .i64 (q : Int)] W fun e W' => Keep W.heap.size Bm W W' ∧ TieAns W' e Bw Bm (some ⟨b, off, none⟩) cap zs h' [(p, q)]) :
    Calls Try.prog 87 #[.pointer (some ⟨Bw, 0, none⟩), .int .i64 (one : Int), .int .i64 (other : Int)] w fun e w' => Keep w.heap.size Bm w w' ∧ TieAns w' e Bw Bm (some ⟨b, off, none⟩) cap zs h (Wb.pairsTo zs one other (Tm.room (Wb.sg zs one))) := by
  obtain ⟨F, hF⟩ : ∃ F, F = Fence.wide := ⟨_, rfl⟩
  refine (callsIn_wide (n := 3)).1 ?_
  rw [← hF]
  obtain ⟨hro, hfn, hdd, hcin⟩ := wide_facts hF
  have HPl : Hid (Pl F) := by rw [hF]; exact wide_pl
  clear hF
  have hf1 := hfn 87
  have hf2 := hfn 80
  have hf3 := hfn 68
  have hf4 := hfn 84
  have hf5 := hfn 44
  clear hfn
  have hl5 := G.len
  have hl5' : (zs.length : Int) ≤ 5000 := by omega
  have h2' : (other : Int) < (zs.length : Int) := by omega
  have h1' : (one : Int) < (zs.length : Int) := by omega
  have hw0 := hw.cell0
  have hlt := hw.lt
  obtain ⟨b', off', e, hb, hcb⟩ := hw.ints.at (by omega)
  cases e
  have hB0 : Below w.heap.size w (((w.alloc (.cells #[.pointer (some ⟨Bw, 0, none⟩)] 93)).alloc (.cells #[.bool false] 4)).alloc (.cells #[.int .i64 ((other : Int) + 1)] 3)) :=
    (((Below.refl _ w).alloc (Nat.le_refl _) _).alloc (by simp) _).alloc (by simp; omega) _
  have hcw0 := (hB0.cell (p := ⟨Bw, 0, none⟩) hlt.1).trans hw0
  have bW := ((Boxed.new w 93 (.pointer (some ⟨Bw, 0, none⟩))).alloc (.cells #[.bool false] 4)).alloc (.cells #[.int .i64 ((other : Int) + 1)] 3)
  have bR := (Boxed.new (w.alloc (.cells #[.pointer (some ⟨Bw, 0, none⟩)] 93)) 4 (.bool false)).alloc (.cells #[.int .i64 ((other : Int) + 1)] 3)
  have bA := Boxed.new ((w.alloc (.cells #[.pointer (some ⟨Bw, 0, none⟩)] 93)).alloc (.cells #[.bool false] 4)) 3 (.int .i64 ((other : Int) + 1))
  simp only [World.size_alloc] at bR bA
  have hs3 : (((w.alloc (.cells #[.pointer (some ⟨Bw, 0, none⟩)] 93)).alloc (.cells #[.bool false] 4)).alloc (.cells #[.int .i64 ((other : Int) + 1)] 3)).heap.size = w.heap.size + 1 + 1 + 1 := by simp
  obtain ⟨W3, hW3⟩ : ∃ W3, ((w.alloc (.cells #[.pointer (some ⟨Bw, 0, none⟩)] 93)).alloc (.cells #[.bool false] 4)).alloc (.cells #[.int .i64 ((other : Int) + 1)] 3) = W3 := ⟨_, rfl⟩
  have HW3 := hid hW3
  have Hs3 : Hid (W3.heap.size = w.heap.size + 1 + 1 + 1) := by show _ = _; rw [← hW3]; exact hs3
  rw [hW3] at hB0 bW bR bA
  clear hW3 hs3
  refine callsIn_of_wp_marks Try.func87 rfl hf1 ?_ hro
  simp only [Try.ntmps87, List.size_toArray, List.length_cons, List.length_nil, Nat.reduceAdd, Nat.reduceSub, Array.replicate_succ, Array.replicate_zero, List.push_toArray, List.append_toArray, List.nil_append, List.cons_append]
  gi_wp2_with (first
    | ((try refine ⟨hdd _, ?_⟩); gi_at_call 68; refine (partsx_in F HPl.out _ _ _ _ _ _).mono ?_; rintro e w' ⟨rfl, rfl⟩))
  rw [HW3.out]
  have hs3 := Hs3.out
  have bW5 := (bW.alloc (.cells #[.slice (some ⟨b, off, none⟩) zs.length cap] 23)).alloc (.cells #[.int .i64 (one : Int)] 3)
  have bR5 := (bR.alloc (.cells #[.slice (some ⟨b, off, none⟩) zs.length cap] 23)).alloc (.cells #[.int .i64 (one : Int)] 3)
  have bA5 := (bA.alloc (.cells #[.slice (some ⟨b, off, none⟩) zs.length cap] 23)).alloc (.cells #[.int .i64 (one : Int)] 3)
  have bT5 := (Boxed.new W3 23 (.slice (some ⟨b, off, none⟩) zs.length cap)).alloc (.cells #[.int .i64 (one : Int)] 3)
  have bK5 := Boxed.new (W3.alloc (.cells #[.slice (some ⟨b, off, none⟩) zs.length cap] 23)) 3 (.int .i64 (one : Int))
  rw [World.size_alloc, hs3] at bK5
  rw [hs3] at bT5
  have hB5 : Below w.heap.size w ((W3.alloc (.cells #[.slice (some ⟨b, off, none⟩) zs.length cap] 23)).alloc (.cells #[.int .i64 (one : Int)] 3)) := (hB0.alloc (by omega) _).alloc (by simp; omega) _
  have hs5 : ((W3.alloc (.cells #[.slice (some ⟨b, off, none⟩) zs.length cap] 23)).alloc (.cells #[.int .i64 (one : Int)] 3)).heap.size = w.heap.size + 1 + 1 + 1 + 1 + 1 := by simp [hs3]
  have hrm := Tm.room_le (Wb.sg zs one)
  have hkp : ∀ i, i < Tm.room (Wb.sg zs one) → Tm.pos zs one i < zs.length ∧ Tm.pos zs other i < zs.length := fun i hi => ⟨Wb.kid_lt G h1 hi, Wb.kid_lt G h2 (by rw [hs2]; exact hi)⟩
  have HG := hid G
  have HT := hid hT
  have Hkp := hid hkp
  clear hT hkp G bW bR bA hcw0 hcb HW3
  refine wpIn_rangeSteps hro (by omega) (gf := 84) (lb := #[.pointer (some ⟨w.heap.size + 1 + 1 + 1 + 1, 0, none⟩), .pointer (some ⟨w.heap.size + 1 + 1 + 1, 0, none⟩)]) rfl hf4 (enters_of Try.func84 (by kernel_rfl) rfl)
    (parts_steps F HPl.out _ (w.heap.size + 1 + 1 + 1 + 1) (w.heap.size + 1 + 1 + 1) one cap (some ⟨b, off, none⟩) zs hl5 h1 (ends_beyond F HPl.out zs hl5 _ cap one)) (fun _ => rfl)
    (TPInv w Bw Bm b off cap zs h one other)
    (fun c W => c = .ret ∧ Wb.No zs h (Wb.pairsTo zs one other (Tm.room (Wb.sg zs one))) ∧ Boxed W (w.heap.size + 1) 4 (.bool false) ∧ Keep w.heap.size Bm w W) (fun _ _ => False) (.inl fun _ _ h => h)
    (TPInv.own hlt.1 hlt.2 hb (by rw [hs5]; omega))
    (by
      rintro c X Y row ⟨e, hN, hB, hK⟩ hg hr
      exact ⟨e, hN, (boxed_own (w.heap.size + 1) 4 (fun _ : Unit => .bool false)).from _ () X Y row hB hg hr, keep_own (by rw [hs5]; omega) hK hg hr⟩)
    (fun i W hI => ⟨hI.bK.cell, hI.bT.cell, by obtain ⟨h', _, hS, _⟩ := hI.st; exact hS.ints⟩)
    ⟨⟨h, Wb.TieL.nil _ _, hw.keep hlt.1 hlt.2 hb hB5.size (fun k hk => hB5.block k hk), Nat.le_refl _⟩, by rw [Tm.pos_zero]; exact bA5, bW5, bR5, bK5, bT5, Keep.of_below hB5⟩
    (fun i => { tmps := #[.pointer (some ⟨Bw, 0, none⟩), .int .i64 (one : Int), .int .i64 (other : Int), .pointer (some ⟨w.heap.size, 0, none⟩), undef, undef, .pointer (some ⟨w.heap.size + 1, 0, none⟩), .pointer (some ⟨w.heap.size + 1 + 1, 0, none⟩), .int .i64 (Tm.pos zs one i : Int), .int .i64 (other : Int), .int .i64 ((other : Int) + 1),
      .pointer (some ⟨Bw, 0, none⟩), .pointer (some ⟨Bw, 0, none⟩), .pointer (some ⟨Bw, 0, none⟩), .slice (some ⟨b, off, none⟩) zs.length cap, .int .i64 (one : Int), .func (.func 84) #[] #[.pointer (some ⟨w.heap.size + 1 + 1 + 1 + 1, 0, none⟩), .pointer (some ⟨w.heap.size + 1 + 1 + 1, 0, none⟩)],
      .int .i64 (Tm.pos zs one i : Int), .int .i64 (Tm.pos zs one (i + 1) : Int), undef, undef, undef, undef, undef, undef, undef, undef, undef, undef, undef], defers := [] }) ?assign ?body ?done ?stop ?panic
  case assign =>
    intro l i W K hK
    simp only [encPart]
    gi_wp2
    exact hK
  case body =>
    rintro l i W hI hi
    obtain ⟨⟨h', hL, hS, hr⟩, bA, bW, bR, bK, bT, hK⟩ := hI
    have hi' : i < Tm.room (Wb.sg zs one) := hi
    obtain ⟨hp1, hp2⟩ := Hkp.out i hi'
    have hCt := hid (CallsIn.inRound l (hcin (n := 0) (tieQ (HT.out h' (Tm.pos zs one i) (Tm.pos zs other i) W hr hp1 hp2 hS))))
    have c1 := bW.cell
    have c2 := bA.cell
    have hlw := bT.lt
    have hlk := bK.lt
    have hK0 := hid hK
    have hL0 := hid hL
    have hne : ∀ k, w.heap.size ≤ k → k ≠ Bm := fun k hk e => by have := hlt.2; omega
    have mixed : Try.prog.follows .mixedOrders = true := by kernel_rfl
    have hpo : Tm.pos zs other (i + 1) = Tm.endAt zs (Tm.pos zs other i) := Tm.pos_succ zs other i
    have Hpo := hid hpo
    have hp2' : (Tm.pos zs other i : Int) < (zs.length : Int) := by omega
    clear hpo
    gi_wp2_with (first
      | ((try refine ⟨hdd _, ?_⟩); gi_at_call 80; refine hCt.out.mono ?_; clear hCt; rintro e W1 ⟨q, rfl, hK1, hq⟩; have bA1 : Boxed W1 (w.heap.size + 1 + 1) 3 (.int .i64 (Tm.pos zs other i : Int)) := (hK1.block _ bA.lt (hne _ (by omega))).trans bA; have bW1 : Boxed W1 w.heap.size 93 (.pointer (some ⟨Bw, 0, none⟩)) := (hK1.block _ bW.lt (hne _ (by omega))).trans bW; have bR1 : Boxed W1 (w.heap.size + 1) 4 (.bool false) := (hK1.block _ bR.lt (hne _ (by omega))).trans bR; have bK1 : Boxed W1 (w.heap.size + 1 + 1 + 1 + 1) 3 (.int .i64 (one : Int)) := (hK1.block _ bK.lt (hne _ (by omega))).trans bK; have bT1 : Boxed W1 (w.heap.size + 1 + 1 + 1) 23 (.slice (some ⟨b, off, none⟩) zs.length cap) := (hK1.block _ bT.lt (hne _ (by omega))).trans bT; have cR := bR1.cell; have fR := bR1.frozen; have hKw : Keep w.heap.size Bm w W1 := hK0.out.trans (hK1.mono hK0.out.size); have hkf : KeepsFrom (w.heap.size + 1 + 1 + 1 + 1 + 1) W W1 := ⟨hK1.size, fun k o hk ho _ => (hK1.block k (Array.getElem?_eq_some_iff.1 ho).1 (hne k (by omega))).trans ho⟩; rcases hq with ⟨rfl, h2', hL2, hS2, hr2⟩ | ⟨rfl, hN⟩))
    · skip
      have c3 := bW1.cell
      have c4 := bA1.cell
      have f4 := bA1.frozen
      have c5 := hS2.cell0
      have hEn := hid (endx_all F HPl.out zs hl5 (some ⟨b, off, none⟩) cap _ (Tm.pos zs other i) 0 (Nat.le_refl _) (by omega) W1.drew hS2.ints)
      gi_region_with_o (first | ((try refine ⟨hdd _, ?_⟩); gi_at_call 44; refine (CallsIn.inRound l hEn.out).mono ?_; rintro e W2 ⟨rfl, hB2⟩; have bA2 : Boxed W2 (w.heap.size + 1 + 1) 3 (.int .i64 (Tm.pos zs other i : Int)) := (hB2.block _ bA1.lt).trans bA1; have c6 := bA2.cell; have f6 := bA2.frozen))
      all_goals (
        gi_wp2
        rw [hs5]
        refine ⟨(hkf.trans ⟨hB2.size, fun k o _ ho _ => (hB2.block k (Array.getElem?_eq_some_iff.1 ho).1).trans ho⟩).trans ((KeepsOthers.setCell _ _ _).from _), ?_⟩
        have hnp : ∀ (p q : Nat), (p, q) ∈ Wb.pairsTo zs one other i → p < zs.length ∧ q < zs.length := fun p q hx => by
          obtain ⟨j, hj, rfl, rfl⟩ := Wb.mem_pairsTo hx
          exact Hkp.out j (by omega)
        have hst : WSt (W2.setCell ⟨w.heap.size + 1 + 1, 0, none⟩ (.int .i64 (Tm.endAt zs (Tm.pos zs other i) : Int))) Bw Bm (some ⟨b, off, none⟩) cap zs h2' :=
          hS2.keep hlt.1 hlt.2 hb (Nat.le_trans (Nat.le_trans hKw.size hB2.size) (KeepsWalks.setCell W2 _ _).size) fun k hk => (Below.heap_setCell W2 ⟨w.heap.size + 1 + 1, 0, none⟩ _ k (show k ≠ w.heap.size + 1 + 1 by omega)).trans (hB2.block k (by have := hKw.size; exact Nat.lt_of_lt_of_le hk this))
        have hkw2 : Keep w.heap.size Bm w W2 := hKw.trans (keepDrew (d := 1) (Keep.of_below (hB2.mono hKw.size)))
        refine ⟨⟨h2', ?_, hst, by omega⟩, ?_, Boxed.other ((hB2.block _ bW1.lt).trans bW1) (by omega) _, Boxed.other ((hB2.block _ bR1.lt).trans bR1) (by omega) _, Boxed.other ((hB2.block _ bK1.lt).trans bK1) (by omega) _, Boxed.other ((hB2.block _ bT1.lt).trans bT1) (by omega) _, keep_set hkw2 (by omega) _⟩
        · rw [Wb.pairsTo_succ]; exact hL0.out.snoc hL2 hnp
        · rw [Hpo.out]; exact bA2.set _)
    · skip
      rw [hs5]
      exact ⟨hkf.trans ((KeepsOthers.setCell _ _ _).from _), rfl, Wb.No.later hL0.out hN (fun x hx => by
          obtain ⟨p, q⟩ := x
          obtain ⟨j, hj, rfl, rfl⟩ := Wb.mem_pairsTo hx
          exact Wb.pairsTo_mem (by omega)) (fun x hx => by simp at hx; subst hx; exact Wb.pairsTo_mem hi'), bR1.set _, keep_set hKw (by omega) _⟩
  case done =>
    rintro D W hD hI hDd
    obtain ⟨⟨h', hL, hS, hr⟩, bA, bW, bR, bK, bT, hK⟩ := hI
    have c1 := bR.cell
    have c2 := bR.frozen
    rw [hs5] at hD
    gi_wp2
    have bR2 := bR.set (.bool true)
    have hDd2 : (W.setCell ⟨w.heap.size + 1, 0, none⟩ (.bool true)).heap[D]? = some (.deferred (some [])) := (Below.heap_setCell W ⟨w.heap.size + 1, 0, none⟩ _ D (show D ≠ w.heap.size + 1 by omega)).trans hDd
    refine ⟨by simp, .inl ⟨_, _, rfl, run_takeDeferred hDd2, ?_⟩⟩
    have hkp : ∀ k, k < w.heap.size → ((W.setCell ⟨w.heap.size + 1, 0, none⟩ (.bool true)).putObj D (.deferred none)).heap[k]? = W.heap[k]? := fun k hk => (World.putObj_heap_other (by omega)).trans (Below.heap_setCell W ⟨w.heap.size + 1, 0, none⟩ _ k (show k ≠ w.heap.size + 1 by omega))
    refine ⟨_, results_boxB rfl rfl ((World.cell?_of_block (a := ⟨w.heap.size + 1, 0, none⟩) (World.putObj_heap_other (show w.heap.size + 1 ≠ D by omega))).trans bR2.cell), ?_⟩
    refine ⟨?_, .inl ⟨rfl, h', hL, hS.keep hlt.1 hlt.2 hb ?_ hkp, hr⟩⟩
    · exact ⟨hK.os, hK.tape, hK.output, by have := hK.size; have := (KeepsWalks.setCell W ⟨w.heap.size + 1, 0, none⟩ (.bool true)).size; simp; omega, fun k hk hm => (hkp k hk).trans (hK.block k hk hm)⟩
    · have := hK.size; have := (KeepsWalks.setCell W ⟨w.heap.size + 1, 0, none⟩ (.bool true)).size; simp; omega
  case stop =>
    rintro D c W hD ⟨rfl, hN, bR, hK⟩ hDd
    have c1 := bR.cell
    rw [hs5] at hD
    gi_wp2
    refine ⟨by simp, .inl ⟨_, _, rfl, run_takeDeferred hDd, ?_⟩⟩
    refine ⟨_, results_boxB rfl rfl ((World.cell?_of_block (a := ⟨w.heap.size + 1, 0, none⟩) (World.putObj_heap_other (show w.heap.size + 1 ≠ D by omega))).trans c1), ?_⟩
    exact ⟨⟨hK.os, hK.tape, hK.output, by have := hK.size; simp; omega, fun k hk hm => (World.putObj_heap_other (by omega)).trans (hK.block k hk hm)⟩, .inr ⟨rfl, hN⟩⟩
  case panic => exact fun _ _ _ _ h => h.elim

/-- (*web).tie, whatever is tied already. -/
theorem tie_all (zs : List Int) (G : Wb.Good zs) (Bw Bm b off cap : Nat) : ∀ (m : Nat) (h : Nat → Nat), Wb.rt zs h ≤ m → ∀ (one other : Nat) (w : World), one < zs.length → other < zs.length → WSt w Bw Bm (some ⟨b, off, none⟩) cap zs h →
    Calls Try.prog 80 #[.pointer (some ⟨Bw, 0, none⟩), .int .i64 (one : Int), .int .i64 (other : Int)] w fun e w' => Keep w.heap.size Bm w w' ∧ TieAns w' e Bw Bm (some ⟨b, off, none⟩) cap zs h [(one, other)] := by
  intro m
  induction m with
  | zero =>
    intro h hm one other w h1 h2 hw
    exact tie_step zs G h Bw Bm _ cap one other w hw h1 h2 (fun h' n o W hr => by omega)
  | succ m ih =>
    intro h hm one other w h1 h2 hw
    exact tie_step zs G h Bw Bm _ cap one other w hw h1 h2 (fun h' n o W hr hn ho _ hs hW => tieParts_step zs G h' Bw Bm b off cap n o W hW hn ho hs (fun h'' p q W' hr' hp hq hW' => ih h'' (by omega) p q W' hp hq hW'))

end Go.Proofs.Ytbelnlemjcoifaa

namespace Go.Proofs.Ytbelnlemjcoifaa
open Go.Proofs Go.RowKit Go.Shelf

namespace Wb
/-- What stands for p, and all within it, ends. -/
inductive Fin (zs : List Int) (h : Nat → Nat) : Nat → Prop
  | mk (p : Nat) : (∀ i, i < Tm.room (sg zs (hd zs h p)) → Fin zs h (Tm.pos zs (hd zs h p) i)) → Fin zs h p
/-- p becomes l. -/
inductive Exp (zs : List Int) (h : Nat → Nat) : Nat → List Int → Prop
  | mk (p : Nat) (ls : List (List Int)) : ls.length = Tm.room (sg zs (hd zs h p)) → (∀ i, i < Tm.room (sg zs (hd zs h p)) → Exp zs h (Tm.pos zs (hd zs h p) i) (ls[i]?.getD [])) → Exp zs h p (sg zs (hd zs h p) :: ls.flatten)
theorem Fin.exp {zs : List Int} {h : Nat → Nat} {p : Nat} (H : Fin zs h p) : ∃ l, Exp zs h p l := by
  induction H with
  | mk p _ ih =>
    have hc : ∀ i, ∃ l, i < Tm.room (sg zs (hd zs h p)) → Exp zs h (Tm.pos zs (hd zs h p) i) l := fun i => by
      by_cases hi : i < Tm.room (sg zs (hd zs h p))
      · obtain ⟨l, hl⟩ := ih i hi
        exact ⟨l, fun _ => hl⟩
      · exact ⟨[], fun hi' => absurd hi' hi⟩
    obtain ⟨f, hf⟩ := Classical.axiomOfChoice hc
    refine ⟨_, Exp.mk p ((List.range (Tm.room (sg zs (hd zs h p)))).map f) (by simp) fun i hi => ?_⟩
    have := hf i hi
    simpa [hi] using this
theorem Exp.one {zs : List Int} {h : Nat → Nat} {p : Nat} {l : List Int} (H : Exp zs h p l) : ∀ l', Exp zs h p l' → l = l' := by
  induction H with
  | mk p ls hl _ ih =>
    intro l' H'
    cases H' with
    | mk _ ls' hl' hk' =>
      congr 2
      refine List.ext_getElem (by omega) fun i h1 h2 => ?_
      have := ih i (by omega) _ (hk' i (by omega))
      simpa [h1, h2] using this
theorem Exp.move {zs : List Int} {h : Nat → Nat} {p q : Nat} {l : List Int} (H : Exp zs h p l) (e : hd zs h p = hd zs h q) : Exp zs h q l := by
  cases H with
  | mk _ ls hl hk =>
    rw [e] at hl hk ⊢
    exact Exp.mk q ls hl hk
/-- Whatever respects the ties is made of it. -/
theorem Exp.most {zs : List Int} (G : Good zs) {T : Nat → Option Nat} {h : Nat → Nat} (S : St zs T h) {θ : Sb} (R : Resp zs h θ) {p : Nat} {l : List Int} (H : Exp zs h p l) : p < zs.length → App θ (cont zs p) = App θ l := by
  induction H with
  | mk p ls hl _ ih =>
    intro hp
    obtain ⟨hq, _, _⟩ := hd_lt G S hp
    rw [R.hd G hp]
    by_cases hs : sg zs (hd zs h p) < 0
    · have : ls = [] := List.eq_nil_of_length_eq_zero (by rw [hl, room_var hs])
      rw [cont_var G hq hs, this]
      rfl
    · rw [App_cont G θ hq (by omega), App_cons, if_neg hs, App_flatten]
      congr 2
      refine List.ext_getElem (by simp [kids, hl]) fun i h1 h2 => ?_
      have hi : i < Tm.room (sg zs (hd zs h p)) := by simpa [kids] using h1
      have := ih i hi (kid_lt G hq hi)
      rw [List.getElem_map, List.getElem_map]
      have e : (kids zs (hd zs h p))[i]'(by simpa [kids] using hi) = Tm.pos zs (hd zs h p) i := by simp [kids]
      rw [e, this]
      simp [show i < ls.length by omega]
theorem eqv_nil {zs : List Int} {h : Nat → Nat} {p q : Nat} (e : Eqv zs h [] p q) : hd zs h p = hd zs h q := by
  induction e with
  | base p q _ _ h3 => exact h3
  | pair p q hm => simp at hm
  | symm p q _ ih => exact ih.symm
  | trans p q r _ _ i1 i2 => exact i1.trans i2
theorem cont_len {zs : List Int} (G : Good zs) {p i : Nat} (hp : p < zs.length) (hi : i < Tm.room (sg zs p)) : (cont zs (Tm.pos zs p i)).length < (cont zs p).length := by
  rw [cont_eq G hp, List.length_cons]
  have : cont zs (Tm.pos zs p i) ∈ (kids zs p).map (cont zs) := List.mem_map.2 ⟨_, List.mem_map.2 ⟨i, List.mem_range.2 hi, rfl⟩, rfl⟩
  have h2 : ∀ (L : List (List Int)) (x : List Int), x ∈ L → x.length ≤ L.flatten.length := by
    intro L
    induction L with
    | nil => intro x hx; simp at hx
    | cons y L ih =>
      intro x hx
      rw [List.flatten_cons, List.length_append]
      rcases List.mem_cons.1 hx with rfl | hx
      · omega
      · have := ih x hx; omega
  have := h2 _ _ this
  omega
/-- By what the variables become, each place becomes what it becomes. -/
theorem Exp.of_sigma {zs : List Int} (G : Good zs) {T : Nat → Option Nat} {h : Nat → Nat} (S : St zs T h) (C : Closed zs h []) {σ : Sb} (hσ : ∀ i, i < 8 → Exp zs h i (σ (-1 - (i : Int)))) : ∀ (n p : Nat), (cont zs p).length ≤ n → p < zs.length → Exp zs h p (App σ (cont zs p)) := by
  intro n
  induction n with
  | zero => intro p hn hp; rw [cont_eq G hp] at hn; simp at hn
  | succ n ih =>
    intro p hn hp
    by_cases hs : sg zs p < 0
    · have hk := G.known p hp
      have hc : can zs p = (-1 - sg zs p).toNat := by unfold can; rw [if_pos hs]
      have he := hσ (-1 - sg zs p).toNat (by omega)
      rw [show (-1 - (((-1 - sg zs p).toNat : Nat) : Int)) = sg zs p from by omega, ← hc] at he
      rw [cont_var G hp hs, App_cons, if_pos hs, App_nil, List.append_nil]
      exact he.move (by unfold hd; rw [can_can G hp])
    · have hcp : can zs p = p := can_pos (by omega)
      obtain ⟨hq, cq, rq⟩ := hd_lt G S hp
      have hup := hd_up G S hp
      have hhp : hd zs h p = h p := by unfold hd; rw [hcp]
      obtain ⟨e1, e2⟩ := C p (hd zs h p) hp hq (by omega) (by omega) (by rw [rq, hhp])
      rw [App_cont G σ hp (by omega), e1]
      have hlen : ((kids zs p).map fun k => App σ (cont zs k)).length = Tm.room (sg zs (hd zs h p)) := by rw [List.length_map, kids_length, e1]
      refine Exp.mk p _ hlen fun i hi => ?_
      have hi' : i < Tm.room (sg zs p) := by rw [e1]; exact hi
      have hE := ih (Tm.pos zs p i) (by have := cont_len G hp hi'; omega) (kid_lt G hp hi')
      have hm := hE.move (eqv_nil (e2 i hi'))
      rw [List.getElem?_map, kids_get hi']
      exact hm

/-- Two lists that each make the other, and both take the least variable, are one. -/
theorem flat_fix {f : Int → List Int} (hf : ∀ s, 1 ≤ (f s).length) : ∀ l : List Int, l.flatMap f = l → ∀ s ∈ l, f s = [s] := by
  have hge : ∀ l : List Int, l.length ≤ (l.flatMap f).length := by
    intro l
    induction l with
    | nil => simp
    | cons s l ih => rw [List.flatMap_cons, List.length_append, List.length_cons]; have := hf s; omega
  intro l
  induction l with
  | nil => intro _ s hs; simp at hs
  | cons x l ih =>
    intro h s hs
    rw [List.flatMap_cons] at h
    have h1 := hf x
    have h2 := hge l
    have h3 := congrArg List.length h
    rw [List.length_append, List.length_cons] at h3
    have h4 : (f x).length = 1 := by omega
    obtain ⟨y, hy⟩ := List.length_eq_one_iff.1 h4
    rw [hy, List.singleton_append] at h
    obtain ⟨rfl, h5⟩ := List.cons.inj h
    rcases List.mem_cons.1 hs with rfl | hs
    · exact hy
    · exact ih h5 s hs
theorem term_pos {θ : Sb} (hθ : TermSb θ) {s : Int} (hs : s < 0) : 1 ≤ (θ s).length := by
  have := hθ s hs
  have h2 := Tm.run_ge (θ s) 1
  omega
theorem App_ge {θ : Sb} (hθ : TermSb θ) : ∀ l : List Int, l.length ≤ (App θ l).length := by
  intro l
  induction l with
  | nil => simp
  | cons s l ih =>
    rw [App_cons, List.length_append, List.length_cons]
    by_cases hs : s < 0
    · rw [if_pos hs]; have := term_pos hθ hs; omega
    · rw [if_neg hs]; simp; omega
/-- The variables that a list speaks of lie from -8 to -1. -/
def InVars (l : List Int) : Prop := ∀ s ∈ l, s < 0 → -8 ≤ s
theorem canon_one {σ τ : Sb} (hσ : TermSb σ) (hτ : TermSb τ) (rσ : ∀ v, -8 ≤ v → v < 0 → InVars (σ v)) (rτ : ∀ v, -8 ≤ v → v < 0 → InVars (τ v)) (h1 : ∀ v, -8 ≤ v → v < 0 → σ v = App σ (τ v)) (h2 : ∀ v, -8 ≤ v → v < 0 → τ v = App τ (σ v))
    (d1 : ∀ v u, -8 ≤ v → v < 0 → σ v = [u] → u < 0 → v ≤ u) (d2 : ∀ v u, -8 ≤ v → v < 0 → τ v = [u] → u < 0 → v ≤ u) : ∀ v, -8 ≤ v → v < 0 → σ v = τ v := by
  intro v hv1 hv2
  have hfix : (σ v).flatMap (fun s => App σ (if s < 0 then τ s else [s])) = σ v := by
    have e : App σ (App τ (σ v)) = σ v := by rw [← h2 v hv1 hv2, ← h1 v hv1 hv2]
    conv => rhs; rw [← e]
    unfold App
    rw [List.flatMap_assoc]
  have hone := flat_fix (f := fun s => App σ (if s < 0 then τ s else [s])) (fun s => by
    by_cases hs : s < 0
    · have h3 := App_ge hσ (τ s)
      have h4 := term_pos hτ hs
      simp only [hs, if_true]; omega
    · simp [hs, App]) (σ v) hfix
  have hkeep : ∀ s ∈ σ v, s < 0 → τ s = [s] := fun u hu hu0 => by
    have hu8 := rσ v hv1 hv2 u hu hu0
    have e := hone u hu
    simp only [hu0, if_true] at e
    have hl : (τ u).length = 1 := by
      have h3 := App_ge hσ (τ u)
      have h4 := term_pos hτ hu0
      rw [e] at h3
      simp at h3
      omega
    obtain ⟨w, hw⟩ := List.length_eq_one_iff.1 hl
    rw [hw, App_cons, App_nil, List.append_nil] at e
    by_cases hw0 : w < 0
    · rw [if_pos hw0] at e
      have hw8 := rτ u hu8 hu0 w (by rw [hw]; simp) hw0
      have a := d1 w u hw8 hw0 e hu0
      have b := d2 u w hu8 hu0 hw hw0
      rw [hw]
      congr 1
      omega
    · rw [if_neg hw0] at e
      cases e
      exact absurd hu0 hw0
  rw [h2 v hv1 hv2]
  have happ : ∀ l : List Int, (∀ s ∈ l, s < 0 → τ s = [s]) → App τ l = l := by
    intro l
    induction l with
    | nil => intro _; rfl
    | cons s l ih =>
      intro hk
      rw [App_cons, ih (fun x hx => hk x (by simp [hx]))]
      by_cases hs : s < 0
      · rw [if_pos hs, hk s (by simp) hs]; rfl
      · rw [if_neg hs]; rfl
  exact (happ _ hkeep).symm
end Wb

end Go.Proofs.Ytbelnlemjcoifaa

namespace Go.Proofs.Ytbelnlemjcoifaa
open Go.Proofs Go.RowKit Go.Shelf

namespace Wb
def Sz (zs : List Int) (θ : Sb) (p : Nat) : Nat := (App θ (cont zs p)).length
theorem sz_kid {zs : List Int} (G : Good zs) (θ : Sb) {p i : Nat} (hp : p < zs.length) (hi : i < Tm.room (sg zs p)) : Sz zs θ (Tm.pos zs p i) < Sz zs θ p := by
  have hs : 0 ≤ sg zs p := by
    by_cases h : sg zs p < 0
    · rw [room_var h] at hi; omega
    · omega
  unfold Sz
  rw [App_cont G θ hp hs, List.length_cons]
  have hm : App θ (cont zs (Tm.pos zs p i)) ∈ (kids zs p).map fun k => App θ (cont zs k) := List.mem_map.2 ⟨_, List.mem_map.2 ⟨i, List.mem_range.2 hi, rfl⟩, rfl⟩
  have h2 : ∀ (L : List (List Int)) (x : List Int), x ∈ L → x.length ≤ L.flatten.length := by
    intro L
    induction L with
    | nil => intro x hx; simp at hx
    | cons y L ih =>
      intro x hx
      rw [List.flatten_cons, List.length_append]
      rcases List.mem_cons.1 hx with rfl | hx
      · omega
      · have := ih x hx; omega
  have := h2 _ _ hm
  omega
theorem sz_hd {zs : List Int} (G : Good zs) {h : Nat → Nat} {θ : Sb} (R : Resp zs h θ) {p : Nat} (hp : p < zs.length) : Sz zs θ p = Sz zs θ (hd zs h p) := by
  unfold Sz
  rw [R.hd G hp]
/-- Nothing respects the ties. -/
def None (zs : List Int) (h : Nat → Nat) : Prop := ∀ θ, TermSb θ → Resp zs h θ → False
def Begun (zs : List Int) (h : Nat → Nat) (st : Nat → Nat) (p : Nat) : Prop := ∀ θ, TermSb θ → Resp zs h θ → ∀ q, q < zs.length → st q = 1 → Sz zs θ p < Sz zs θ q
def Dones (zs : List Int) (h : Nat → Nat) (st : Nat → Nat) : Prop := ∀ q, q < zs.length → st q = 2 → Fin zs h q
def setS (st : Nat → Nat) (p v : Nat) : Nat → Nat := fun q => if q = p then v else st q
/-- How many places have not been begun. -/
def fr (zs : List Int) (st : Nat → Nat) : Nat := ((List.range zs.length).filter fun q => decide (st q = 0)).length
theorem fr_set {zs : List Int} {st : Nat → Nat} {p v : Nat} (hp : p < zs.length) (h0 : st p = 0) (hv : v ≠ 0) : fr zs (setS st p v) < fr zs st := by
  refine filter_lt _ _ _ (fun q _ hq => ?_) p (List.mem_range.2 hp) ?_ ?_
  · simp only [decide_eq_true_eq] at hq ⊢
    unfold setS at hq
    by_cases e : q = p
    · rw [if_pos e] at hq; exact absurd hq hv
    · rw [if_neg e] at hq; exact hq
  · simp [setS, hv]
  · simp [h0]
theorem filter_le {α : Type} (f g : α → Bool) (h : ∀ x, f x = true → g x = true) : ∀ l : List α, (l.filter f).length ≤ (l.filter g).length := by
  intro l
  induction l with
  | nil => simp
  | cons y l ih =>
    rw [List.filter_cons, List.filter_cons]
    by_cases hf : f y = true
    · rw [if_pos hf, if_pos (h y hf)]; simp; omega
    · rw [if_neg hf]; split <;> (try simp) <;> omega
theorem begun_again {zs : List Int} (G : Good zs) {T : Nat → Option Nat} {h : Nat → Nat} (S : St zs T h) {st : Nat → Nat} {p : Nat} (hp : p < zs.length) (B : Begun zs h st p) (e : st (hd zs h p) = 1) : None zs h := fun θ hθ R => by
  have := B θ hθ R _ (hd_lt G S hp).1 e
  rw [sz_hd G R hp] at this
  omega
theorem begun_kid {zs : List Int} (G : Good zs) {T : Nat → Option Nat} {h : Nat → Nat} (S : St zs T h) {st st1 : Nat → Nat} {p i : Nat} (hp : p < zs.length) (B : Begun zs h st p) (hi : i < Tm.room (sg zs (hd zs h p))) (hs : ∀ x, st1 x = 1 ↔ setS st (hd zs h p) 1 x = 1) : Begun zs h st1 (Tm.pos zs (hd zs h p) i) := fun θ hθ R x hx e => by
  have hk := sz_kid G θ (hd_lt G S hp).1 hi
  have e' := (hs x).1 e
  unfold setS at e'
  by_cases ex : x = hd zs h p
  · subst ex; exact hk
  · rw [if_neg ex] at e'
    have := B θ hθ R x hx e'
    rw [sz_hd G R hp] at this
    omega
theorem fin_root {zs : List Int} {h : Nat → Nat} {p q : Nat} (e : hd zs h p = hd zs h q) (H : Fin zs h p) : Fin zs h q := by
  cases H with
  | mk _ hk => rw [e] at hk; exact Fin.mk q hk
theorem hd_hd {zs : List Int} (G : Good zs) {T : Nat → Option Nat} {h : Nat → Nat} (S : St zs T h) {p : Nat} (hp : p < zs.length) : hd zs h (hd zs h p) = hd zs h p := by
  obtain ⟨_, h2, h3⟩ := hd_lt G S hp
  conv => lhs; rw [hd]
  rw [h2, h3]
/-- What leadsBack leaves, where it says no. -/
structure Left (zs : List Int) (h : Nat → Nat) (st st' : Nat → Nat) : Prop where
  one : ∀ x, st' x = 1 ↔ st x = 1
  dones : Dones zs h st'
  less : fr zs st' ≤ fr zs st
theorem Left.refl {zs : List Int} {h : Nat → Nat} {st : Nat → Nat} (D : Dones zs h st) : Left zs h st st := ⟨fun _ => Iff.rfl, D, Nat.le_refl _⟩
theorem Left.trans {zs : List Int} {h : Nat → Nat} {a b c : Nat → Nat} (A : Left zs h a b) (B : Left zs h b c) : Left zs h a c := ⟨fun x => (B.one x).trans (A.one x), B.dones, Nat.le_trans B.less A.less⟩
theorem dones_set1 {zs : List Int} {h : Nat → Nat} {st : Nat → Nat} (D : Dones zs h st) (q : Nat) : Dones zs h (setS st q 1) := fun x hx e => by
  unfold setS at e
  by_cases ex : x = q
  · rw [if_pos ex] at e; omega
  · rw [if_neg ex] at e; exact D x hx e
/-- All parts end: so does the place. -/
theorem Left.close {zs : List Int} (G : Good zs) {T : Nat → Option Nat} {h : Nat → Nat} (S : St zs T h) {st st1 : Nat → Nat} {p : Nat} (hp : p < zs.length) (h0 : st (hd zs h p) = 0) (L : Left zs h (setS st (hd zs h p) 1) st1) (K : ∀ i, i < Tm.room (sg zs (hd zs h p)) → Fin zs h (Tm.pos zs (hd zs h p) i)) :
    Fin zs h p ∧ Left zs h st (setS st1 (hd zs h p) 2) ∧ fr zs (setS st1 (hd zs h p) 2) < fr zs st := by
  have hF : Fin zs h p := Fin.mk p K
  have hF2 : Fin zs h (hd zs h p) := fin_root (hd_hd G S hp).symm hF
  have hlt := fr_set (v := 1) (hd_lt G S hp).1 h0 (by omega)
  have h1 : st1 (hd zs h p) = 1 := (L.one _).2 (by simp [setS])
  have hle : fr zs (setS st1 (hd zs h p) 2) ≤ fr zs st1 := by
    unfold fr
    refine filter_le _ _ (fun q hq => ?_) _
    simp only [decide_eq_true_eq] at hq ⊢
    unfold setS at hq
    by_cases e : q = hd zs h p
    · rw [if_pos e] at hq; omega
    · rw [if_neg e] at hq; exact hq
  refine ⟨hF, ⟨fun x => ?_, fun x hx e => ?_, by have := L.less; omega⟩, by have := L.less; omega⟩
  · unfold setS
    by_cases e : x = hd zs h p
    · subst e; rw [if_pos rfl]; constructor <;> intro h' <;> omega
    · rw [if_neg e, L.one x]; unfold setS; rw [if_neg e]
  · unfold setS at e
    by_cases ex : x = hd zs h p
    · subst ex; exact hF2
    · rw [if_neg ex] at e; exact L.dones x hx e
end Wb

end Go.Proofs.Ytbelnlemjcoifaa

namespace Go.Proofs.Ytbelnlemjcoifaa
open Go.Proofs Go.RowKit Go.Shelf Go.Maps

attribute [local go_sem] Oper.semAt_some

/-- BLOCK Bs IS THE MAP OF HOW FAR EACH PLACE HAS GOT. -/
def StMap (W : World) (Bs N : Nat) (st : Nat → Nat) : Prop := ∃ M, IntMap W Bs N M ∧ ∀ p : Nat, (M (p : Int)).getD (.int .i64 0) = .int .i64 (st p : Int) ∧ st p ≤ 2
theorem StMap.made (w : World) : StMap (w.alloc (.map #[] 0)) w.heap.size 0 (fun _ => 0) := ⟨_, IntMap.made w, fun _ => ⟨rfl, Nat.zero_le _⟩⟩
theorem StMap.lt {W : World} {Bs N : Nat} {st : Nat → Nat} (h : StMap W Bs N st) : Bs < W.heap.size := by
  obtain ⟨M, hM, _⟩ := h
  exact hM.lt
theorem StMap.keep {W W' : World} {Bs N : Nat} {st : Nat → Nat} (h : StMap W Bs N st) (hk : W'.heap[Bs]? = W.heap[Bs]?) : StMap W' Bs N st := by
  obtain ⟨M, hM, hs⟩ := h
  exact ⟨M, hM.keep hk, hs⟩
theorem StMap.set {W1 : World} {Bs N : Nat} {st : Nat → Nat} {M : Int → Option Value} (hs : ∀ p : Nat, (M (p : Int)).getD (.int .i64 0) = .int .i64 (st p : Int) ∧ st p ≤ 2) {q v : Nat} (hv : v ≤ 2) (h1 : IntMap W1 Bs (N + 1) (upd M (q : Int) (.int .i64 (v : Int)))) : StMap W1 Bs (N + 1) (Wb.setS st q v) := by
  refine ⟨_, h1, fun p => ?_⟩
  by_cases e : p = q
  · subst e; rw [upd_same]; simp [Wb.setS, hv]
  · rw [upd_other _ _ (by omega), (hs p).1]; simp [Wb.setS, e, (hs p).2]
theorem StMap.le {W : World} {Bs N : Nat} {st : Nat → Nat} (h : StMap W Bs N st) (p : Nat) : st p ≤ 2 := by
  obtain ⟨M, _, hs⟩ := h
  exact (hs p).2
def LBAns (W' : World) (e : Ending) (Bs N : Nat) (zs : List Int) (h : Nat → Nat) (st : Nat → Nat) (p : Nat) : Prop :=
  (e = .returned (.bool true) ∧ Wb.None zs h) ∨ (e = .returned (.bool false) ∧ Wb.Fin zs h p ∧ ∃ st' N', Wb.Left zs h st st' ∧ StMap W' Bs N' st' ∧ N' + 2 * Wb.fr zs st' ≤ N + 2 * Wb.fr zs st)

set_option maxRecDepth 100000 in
set_option maxHeartbeats 1000000 in
theorem lead_seen (zs : List Int) (G : Wb.Good zs) (T : Nat → Option Nat) (h : Nat → Nat) (S : Wb.St zs T h) (st : Nat → Nat) (Bw Bm Bs : Nat) (a : Option Addr) (cap N0 N p : Nat) (w : World) (hW : WebAt w Bw Bm a cap zs N0 T) (hS : StMap w Bs N st) (hp : p < zs.length) (hB : Wb.Begun zs h st p) (hD : Wb.Dones zs h st)
    (hst : st (Wb.hd zs h p) = 1 ∨ st (Wb.hd zs h p) = 2) :
    Calls Try.prog 88 #[.pointer (some ⟨Bw, 0, none⟩), .int .i64 (p : Int), .map (some Bs)] w fun e w' => Below w.heap.size w w' ∧ LBAns w' e Bs N zs h st p := by
  obtain ⟨F, hF⟩ : ∃ F, F = Fence.wide := ⟨_, rfl⟩
  refine (callsIn_wide (n := 3)).1 ?_
  rw [← hF]
  obtain ⟨hro, hfn, hdd, hcin⟩ := wide_facts hF
  have HPl : Hid (Pl F) := by rw [hF]; exact wide_pl
  clear hF
  have hf1 := hfn 88
  have hf2 := hfn 86
  clear hfn
  have hl5 := G.len
  have hB0 : Below w.heap.size w (((w.alloc (.cells #[.pointer (some ⟨Bw, 0, none⟩)] 93)).alloc (.cells #[.map (some Bs)] 85)).alloc (.cells #[.bool false] 4)) :=
    (((Below.refl _ w).alloc (Nat.le_refl _) _).alloc (by simp) _).alloc (by simp; omega) _
  have bW := ((Boxed.new w 93 (.pointer (some ⟨Bw, 0, none⟩))).alloc (.cells #[.map (some Bs)] 85)).alloc (.cells #[.bool false] 4)
  have bS := (Boxed.new (w.alloc (.cells #[.pointer (some ⟨Bw, 0, none⟩)] 93)) 85 (.map (some Bs))).alloc (.cells #[.bool false] 4)
  have bR := Boxed.new ((w.alloc (.cells #[.pointer (some ⟨Bw, 0, none⟩)] 93)).alloc (.cells #[.map (some Bs)] 85)) 4 (.bool false)
  simp only [World.size_alloc] at bS bR
  have hH := hid (head_in F HPl.out (3 - 1) zs T h G S Bw Bm a cap N0 p hp _ (hW.below hB0))
  have hS0 := hS.keep (hB0.block _ hS.lt)
  obtain ⟨W3, hW3⟩ : ∃ W3, ((w.alloc (.cells #[.pointer (some ⟨Bw, 0, none⟩)] 93)).alloc (.cells #[.map (some Bs)] 85)).alloc (.cells #[.bool false] 4) = W3 := ⟨_, rfl⟩
  have HW3 := hid hW3
  rw [hW3] at hB0 bW bS bR hH hS0
  have hS0' := hS0
  obtain ⟨M, hM, hms⟩ := hS0'
  have hBs := hS.lt
  have hcW := bW.cell
  have hcS := bS.cell
  have hcR := bR.cell
  have hfR := bR.frozen
  obtain ⟨hr1, _, _⟩ := Wb.hd_lt G S hp
  have hwf := wfN (n := Wb.hd zs h p) (by omega)
  have hmr := (hms (Wb.hd zs h p)).1
  have HG := hid G
  have HSt := hid S
  have HMp := hid hM
  clear hW3 G S hM hms hW hS
  rcases hst with hst | hst
  · rw [hst] at hmr
    have hNo := hid (Wb.begun_again HG.out HSt.out hp hB hst)
    clear hst hB hD hS0
    generalize Wb.hd zs h p = r at *
    refine callsIn_of_wp Try.func88 rfl hf1 ?_ hro
    simp only [Try.ntmps88, List.size_toArray, List.length_cons, List.length_nil, Nat.reduceAdd, Nat.reduceSub, Array.replicate_succ, Array.replicate_zero, List.push_toArray, List.append_toArray, List.nil_append, List.cons_append]
    gi_wp2_with (first
      | ((try refine ⟨hdd _, ?_⟩); gi_at_call 86; rw [HW3.out]; refine hH.out.mono ?_; clear hH; rintro e W3 ⟨rfl, rfl⟩)
      | (gi_at_lookup; (refine wpi_look _ rfl _ _ 85 rfl 3 Try.underlying85 (zeroInt _) Bs N M rfl HMp.out (r : Int) rfl hwf (.int .i64 1) hmr ?_)))
    refine bodyPost_ret (results_boxB rfl rfl (bR.set _).cell) rfl ?_
    exact ⟨hB0.setCell (p := ⟨w.heap.size + 1 + 1, 0, none⟩) (show w.heap.size ≤ w.heap.size + 1 + 1 by omega) _, .inl ⟨rfl, hNo.out⟩⟩
  · rw [hst] at hmr
    have hFin := hid (Wb.fin_root (Wb.hd_hd HG.out HSt.out hp) (hD _ hr1 hst))
    have hLeft := hid (Wb.Left.refl hD)
    have hSM : Hid (StMap W3 Bs N st) := hS0
    clear hst hB hD hS0
    generalize Wb.hd zs h p = r at *
    refine callsIn_of_wp Try.func88 rfl hf1 ?_ hro
    simp only [Try.ntmps88, List.size_toArray, List.length_cons, List.length_nil, Nat.reduceAdd, Nat.reduceSub, Array.replicate_succ, Array.replicate_zero, List.push_toArray, List.append_toArray, List.nil_append, List.cons_append]
    gi_wp2_with (first
      | ((try refine ⟨hdd _, ?_⟩); gi_at_call 86; rw [HW3.out]; refine hH.out.mono ?_; clear hH; rintro e W3 ⟨rfl, rfl⟩)
      | (gi_at_lookup; (refine wpi_look _ rfl _ _ 85 rfl 3 Try.underlying85 (zeroInt _) Bs N M rfl HMp.out (r : Int) rfl hwf (.int .i64 2) hmr ?_)))
    refine bodyPost_ret (results_boxB rfl rfl (bR.set _).cell) rfl ?_
    refine ⟨hB0.setCell (p := ⟨w.heap.size + 1 + 1, 0, none⟩) (show w.heap.size ≤ w.heap.size + 1 + 1 by omega) _, .inr ⟨rfl, hFin.out, st, N, hLeft.out, hSM.out.keep (Below.heap_setCell W3 ⟨w.heap.size + 1 + 1, 0, none⟩ _ Bs (show Bs ≠ w.heap.size + 1 + 1 by omega)), Nat.le_refl _⟩⟩

end Go.Proofs.Ytbelnlemjcoifaa
