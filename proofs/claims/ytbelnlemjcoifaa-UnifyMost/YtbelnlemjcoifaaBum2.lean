/-
  Slices of slices in new memory; haspref.SameSubs. · sub.None, haspref.NoneOf, hasplaw.some; sub.After, haspref.AfterOf. · hasplaw.some; sub.After, haspref.AfterOf. · sub.After, haspref.AfterOf. · haspref.AfterOf. · PLAIN MATHEMATICS: variables made plain in the order in which they first stand; and the map that keeps them. · signs.Plain's function literal; signs.Change by it. · signs.Plain of one term, sub.Plain. · haspref.plain, PlainOf: the variables that have been seen lie in a slice. · haspref.plain, PlainOf. · haspref.PlainOf; hasplaw.subBegun: it answers true. · From the frame's word on a slice of slices of ints that came in to ours. · MAPS FROM ints, WHATEVER THEY HOLD: block b of the world is the map m : Int → Option Value. · PLAIN MATHEMATICS: what is put at a place is part of what comes there; put back it is the term it was. · PLAIN MATHEMATICS of fitting: sign by sign, what the variables of p must become. · slices.Equal; match.fit. · match.firstError, match.Fit. · TREES IN MEMORY: haspref.grown and haspref.treeOf make a tree that holds the term's signs. · haspref.grown, haspref.treeOf: the tree of a term; haspref.flat: its signs. · haspref.flat: a tree's signs. · PLAIN MATHEMATICS: fitting part by part is fitting sign by sign; what a tree holds is a term. · haspref.fit: tree against tree, as sign by sign. · haspref.twoErrors, haspref.fitted, haspref.FitOf. · signs.Places: the iterator over all places.
-/
import Derived.Test.YtbelnlemjcoifaaBum1
import Derived.Maps.OwnSet
import Derived.Maps.OwnOps
import Derived.Maps.OwnIn
import Derived.Maps.AppendAt
import Derived.Deep.RegionHeld3
namespace Go.Proofs.Ytbelnlemjcoifaa
open Go.Proofs Go.RowKit Go.Shelf

set_option maxRecDepth 100000 in
set_option maxHeartbeats 1000000 in
/-- haspref.SameTerms: it only reads. -/
theorem same_quiet (xs ys : List Int) (a b : Option Addr) (ca cb n : Nat) (w : World) (hX : Ints n w a xs) (hY : Ints n w b ys) (hm : xs.length ≤ maxLen) :
    Calls Try.prog 21 #[.slice a xs.length ca, .slice b ys.length cb] w fun e w' => e = .returned (.bool (sameB xs ys)) ∧ ∃ m, w' = w.drewN m := by
  unfold maxLen at hm
  by_cases hl : xs.length = ys.length
  · have hne : ((xs.length : Int) != (ys.length : Int)) = false := by simp [hl]
    have Hl : Hid (xs.length = ys.length) := hl
    clear hl
    go_enter Try.func21, Try.ntmps21
    go_wp2
    go_loopw [5] (fun i wr => ∃ k d : Nat, k ≤ xs.length ∧ i = .int .i64 (k : Int) ∧ Hid (xs.take k = ys.take k) ∧ wr = w.drewN d) (fun i _ => xs.length - (intOf i).toNat)
    case atStart => exact ⟨0, 0, Nat.zero_le _, rfl, by simp [Hid], rfl⟩
    case round =>
      obtain ⟨k, d, hk, rfl, hsame, rfl⟩ := hrel
      by_cases hlt : k < xs.length
      · have hlt' : (k : Int) < (xs.length : Int) := by omega
        have hly : k < ys.length := by have := Hl.out; omega
        have hly' : (k : Int) < (ys.length : Int) := by omega
        obtain ⟨b1, off1, rfl, hb1, hc1⟩ := hX.at (by omega)
        obtain ⟨b2, off2, rfl, hb2, hc2⟩ := hY.at (by omega)
        have hx := hc1 k hlt
        have hy := hc2 k hly
        have hst := hid (@same_step xs ys k hlt hly hsame.out)
        have hno := hid (@same_not xs ys k)
        clear hc1 hc2 hX hY hly
        generalize xs[k]?.getD 0 = s at *
        generalize ys[k]?.getD 0 = u at *
        by_cases he : s = u
        · have hn : (s != u) = false := by simp [he]
          have He : Hid (s = u) := he
          clear he hno
          go_wp2
          go_quiet (fail)
          go_wp2
          go_roundw
          case rel => exact ⟨k + 1, _, by omega, by go_num, hst.out He.out, rfl⟩
          case measure => simp [intOf]; omega
        · have hn : (s != u) = true := by simp [he]
          have hf := hid (hno.out he)
          clear he hno hst
          go_wp2
          go_quiet (fail)
          go_wp2
          go_ret
          exact ⟨by rw [hf.out]; rfl, _, by rw [World.drewN_drewN]⟩
      · obtain rfl : k = xs.length := by omega
        have hy := hid (same_yes hsame.out Hl.out)
        clear hX hY
        go_wp2
        go_ret
        exact ⟨by rw [hy.out]; rfl, _, rfl⟩
  · have hne : ((xs.length : Int) != (ys.length : Int)) = true := by simp; omega
    rw [same_len hl]
    clear hl hX hY
    go_enter Try.func21, Try.ntmps21
    go_wp2
    go_ret
    exact ⟨rfl, 0, rfl⟩

theorem Try.info23 : (Try.prog.info? 23).map (fun i => (i.zero, i.size, i.bytes)) = some (some (.slice none 0 0), 1, 24) := by kernel_rfl

/-- v IS A SLICE OF SLICES IN NEW MEMORY, which are in new memory too: it holds ss. -/
def NewS (base : Nat) (W : World) (v : Value) (ss : List (List Int)) : Prop :=
  ∃ us : List Value, W.ownsRow base 23 1 v ss.length us ∧ ∀ j, j < ss.length → ∃ u, us[j]? = some u ∧ New base W u (ss[j]?.getD [])
theorem NewS.nil (base : Nat) (W : World) : NewS base W (.slice none 0 0) [] := ⟨[], World.ownsRow_nil _ _ _ _, fun j hj => by simp at hj⟩
theorem New.apart {base : Nat} {W : World} {u v : Value} {t : List Int} {n : Nat} {us : List Value} (hu : New base W u t) (hv : W.ownsRow base 23 1 v n us) : u.ownBlock = none ∨ u.ownBlock ≠ v.ownBlock := by
  rcases hu.2 with ⟨rfl, _⟩ | ⟨g, cap, cur, rfl, _, hg, _⟩
  · exact .inl rfl
  · rcases hv.2 with ⟨rfl, _⟩ | ⟨g', cap', cur', rfl, _, hg', _⟩
    · exact .inr (by simp [Value.ownBlock])
    · refine .inr fun e => ?_
      have e' : g = g' := by simpa [Value.ownBlock] using e
      subst e'
      rw [hg] at hg'
      simp at hg'
theorem NewS.below {base : Nat} {W W' : World} {v : Value} {ss : List (List Int)} (h : NewS base W v ss) (hB : Below W.heap.size W W') : NewS base W' v ss := by
  obtain ⟨us, h1, h2⟩ := h
  refine ⟨us, World.ownsRow.kept h1 (grown_of_below hB) (by cases h : v.ownBlock with | none => exact .inl rfl | some k => exact .inr (by simp)), fun j hj => ?_⟩
  obtain ⟨u, hu, hN⟩ := h2 j hj
  exact ⟨u, hu, hN.below hB⟩
theorem NewS.mono {base base' : Nat} {W : World} {v : Value} {ss : List (List Int)} (h : NewS base W v ss) (hb : base' ≤ base) : NewS base' W v ss := by
  obtain ⟨us, h1, h2⟩ := h
  refine ⟨us, ⟨h1.1, h1.2.elim .inl (fun ⟨g, cap, cur, e1, e2, e3⟩ => .inr ⟨g, cap, cur, e1, Nat.le_trans hb e2, e3⟩)⟩, fun j hj => ?_⟩
  obtain ⟨u, hu, hN⟩ := h2 j hj
  exact ⟨u, hu, hN.mono hb⟩
theorem NewS.subs {base : Nat} {W : World} {v : Value} {ss : List (List Int)} (h : NewS base W v ss) : ∃ a cap, v = .slice a ss.length cap ∧ Subs W.heap.size W a ss ∧ ss.length ≤ cap ∧ cap ≤ maxLen ∧ (a = none → cap = 0) := by
  obtain ⟨us, h1, h2⟩ := h
  rcases h1.2 with ⟨rfl, hn⟩ | ⟨g, cap, cur, rfl, hb, hg, e1, e2, e3, e4⟩
  · exact ⟨none, 0, by rw [hn], fun j hj => by omega, by omega, by omega, fun _ => rfl⟩
  · refine ⟨_, _, rfl, fun j hj => ?_, e1, e2, fun e => by cases e⟩
    obtain ⟨u, hu, hN⟩ := h2 j hj
    have h5 := World.ownsRow.cellAt h1 j (by omega)
    obtain ⟨aj, cj, rfl, hI, q1, q2⟩ := New.ints hN
    refine ⟨g, 0, aj, cj, rfl, (Array.getElem?_eq_some_iff.1 hg).1, ?_, hI, q1, q2, fun e => ?_⟩
    · rw [Nat.zero_add, h5, hu]
    · subst e
      rcases hN.2 with ⟨e, _⟩ | ⟨_, _, _, e, _⟩
      · simp only [Value.slice.injEq] at e; exact e.2.2
      · simp at e

/-- 'append(s, x)' of one list, onto what the call itself made. -/
theorem wp_append_sub {ops : Array Oper} {rest : List Oper} {o : Oper} {a : Act} {Q : Exit → Act → World → Prop} (w : World) (hgd : o.guard = none) (s x : Operand)
    (ho : o.op = .call { callee := .builtin .append, args := #[s, x], argTypes := #[36, 36] }) (base : Nat) (v : Value) (ss : List (List Int)) (hs : a.eval s = v) (hN : NewS base w v ss)
    (u : Value) (t : List Int) (B : Nat) (hx : a.eval x = .slice (some ⟨B, 0, none⟩) 1 1) (hB : w.cell? ⟨B, 0, none⟩ = some u) (hu : New base w u t) (hlen : ss.length ≤ 1000000) (hbase : base ≤ w.heap.size)
    (h : ∀ v' w', NewS base w' v' (ss ++ [t]) → Below base w w' → wpList Try.prog ops Q rest (a.put o.dst v') w') : wpList Try.prog ops Q (o :: rest) a w := by
  obtain ⟨i0, hi, hz0, hz1, hz2⟩ := info_parts Try.info23
  obtain ⟨us, h1, h2⟩ := hN
  have hul : us.length = ss.length := by have := h1.1; omega
  refine wpList_append_own w hgd s x 36 ho base 23 i0 (.slice none 0 0) 1 24 Try.underlying36 hi hz0 hz1 hz2 rfl (by decide) v ss.length us hs h1 ⟨B, 0, none⟩ 1 1 [u] hx (by simp)
    (by intro j z hj
        match j, hj with
        | 0, hj => simp at hj; subst hj; rw [Go.WideShapes.add_plain]; simpa using hB)
    (by intro z hz; simp at hz; subst hz; obtain ⟨_, _, rfl, _⟩ := New.ints hu; rfl) (by unfold maxLen; omega) (by omega) hbase ?_
  intro v' w' hown hg _
  have hkeep : ∀ (u' : Value) (t' : List Int), New base w u' t' → New base w' u' t' := fun u' t' hN' => World.ownsRow.kept hN' hg (New.apart hN' h1)
  refine h v' w' ⟨us ++ [u], by simpa using hown, fun j hj => ?_⟩ ((Below.refl base w).grown hg hbase (fun k e => (World.ownsRow.lt h1 k e).1))
  by_cases hjl : j < ss.length
  · obtain ⟨u', hu', hN'⟩ := h2 j hjl
    refine ⟨u', by rw [List.getElem?_append_left (by omega)]; exact hu', ?_⟩
    rw [List.getElem?_append_left hjl]
    exact hkeep u' _ hN'
  · have hje : j = ss.length := by simp at hj; omega
    subst hje
    refine ⟨u, by rw [List.getElem?_append_right (by omega), hul]; simp, ?_⟩
    rw [List.getElem?_append_right (by omega)]
    simpa using hkeep u t hu

def sameSB (xs ys : List (List Int)) : Bool := decide (xs = ys)
theorem sameS_len {xs ys : List (List Int)} (h : xs.length ≠ ys.length) : sameSB xs ys = false := by
  simp only [sameSB, decide_eq_false_iff_not]
  rintro rfl
  exact h rfl
theorem takeS_snoc {zs : List (List Int)} {k : Nat} (h : k < zs.length) : zs.take (k + 1) = zs.take k ++ [zs[k]?.getD []] := by
  rw [List.take_succ_eq_append_getElem h]; simp [h]
theorem sameS_step {xs ys : List (List Int)} {k : Nat} (hx : k < xs.length) (hy : k < ys.length) (h : xs.take k = ys.take k) (he : sameB (xs[k]?.getD []) (ys[k]?.getD []) = true) : xs.take (k + 1) = ys.take (k + 1) := by
  simp only [sameB, decide_eq_true_eq] at he
  rw [takeS_snoc hx, takeS_snoc hy, h, he]
theorem sameS_not {xs ys : List (List Int)} {k : Nat} (he : sameB (xs[k]?.getD []) (ys[k]?.getD []) = false) : sameSB xs ys = false := by
  simp only [sameB, decide_eq_false_iff_not] at he
  simp only [sameSB, decide_eq_false_iff_not]
  rintro rfl
  exact he rfl
theorem sameS_yes {xs ys : List (List Int)} (h : xs.take xs.length = ys.take xs.length) (hl : xs.length = ys.length) : sameSB xs ys = true := by
  simp only [sameSB, decide_eq_true_eq]
  rw [List.take_length, hl, List.take_length] at h
  exact h

set_option maxRecDepth 100000 in
set_option maxHeartbeats 1000000 in
/-- haspref.SameSubs: of lists whose terms are short. -/
theorem sameSubs_any (xs ys : List (List Int)) (a b : Option Addr) (ca cb : Nat) (w : World) (hX : Subs w.heap.size w a xs) (hY : Subs w.heap.size w b ys) (hm : xs.length ≤ 1000) :
    Calls Try.prog 34 #[.slice a xs.length ca, .slice b ys.length cb] w fun e w' => e = .returned (.bool (sameSB xs ys)) ∧ Below w.heap.size w w' := by
  by_cases hl : xs.length = ys.length
  · have hne : ((xs.length : Int) != (ys.length : Int)) = false := by simp [hl]
    have hxm : (xs.length : Int) ≤ 1000 := by omega
    have Hl : Hid (xs.length = ys.length) := hl
    have HX := hid hX
    have HY := hid hY
    clear hl hX hY
    go_enter Try.func34, Try.ntmps34
    go_wp2
    go_loopw [5] (fun i wr => ∃ k : Nat, k ≤ xs.length ∧ i = .int .i64 (k : Int) ∧ Hid (xs.take k = ys.take k) ∧ Below w.heap.size w wr) (fun i _ => xs.length - (intOf i).toNat)
    case atStart => exact ⟨0, Nat.zero_le _, rfl, by simp [Hid], Below.refl _ _⟩
    case round =>
      obtain ⟨k, hk, rfl, hsame, hB⟩ := hrel
      by_cases hlt : k < xs.length
      · have hlt' : (k : Int) < (xs.length : Int) := by omega
        have hly : k < ys.length := by have := Hl.out; omega
        have hly' : (k : Int) < (ys.length : Int) := by omega
        obtain ⟨b1, off1, rfl, hb1, hc1⟩ := (HX.out.below hB).at (by omega)
        obtain ⟨b2, off2, rfl, hb2, hc2⟩ := (HY.out.below hB).at (by omega)
        obtain ⟨ax, cx, hx, hIx, qx, qx2, _⟩ := hc1 k hlt
        obtain ⟨ay, cy, hy, hIy, _⟩ := hc2 k hly
        have hst := hid (@sameS_step xs ys k hlt hly hsame.out)
        have hno := hid (@sameS_not xs ys k)
        have hS : ∀ n : Nat, Calls Try.prog 21 #[.slice ax (xs[k]?.getD []).length cx, .slice ay (ys[k]?.getD []).length cy] (wr.drewN n) fun e w' => e = .returned (.bool (sameB (xs[k]?.getD []) (ys[k]?.getD []))) ∧ ∃ m, w' = (wr.drewN n).drewN m :=
          fun n => same_quiet _ _ ax ay cx cy w.heap.size (wr.drewN n) hIx hIy (by omega)
        have HS := hid hS
        clear hc1 hc2 hly hIx hIy qx qx2 hS
        generalize xs[k]?.getD [] = s at *
        generalize ys[k]?.getD [] = u at *
        cases hsb : sameB s u with
        | true =>
          have hst' := hid (hst.out hsb)
          rw [hsb] at HS
          clear hst hno hsb
          go_wp2
          go_quiet ((go_at_call 21; exact Calls.quiet_of (HS.out _)))
          go_wp2
          go_roundw
          case rel => exact ⟨k + 1, by omega, by go_num, hst'.out, below_drewN hB _⟩
          case measure => simp [intOf]; omega
        | false =>
          have hf := hid (hno.out hsb)
          rw [hsb] at HS
          clear hst hno hsb
          go_wp2
          go_quiet ((go_at_call 21; exact Calls.quiet_of (HS.out _)))
          go_wp2
          go_ret
          exact ⟨by rw [hf.out]; rfl, below_drewN hB _⟩
      · obtain rfl : k = xs.length := by omega
        have hy := hid (sameS_yes hsame.out Hl.out)
        go_wp2
        go_ret
        exact ⟨by rw [hy.out]; rfl, hB⟩
  · have hne : ((xs.length : Int) != (ys.length : Int)) = true := by simp; omega
    rw [sameS_len hl]
    clear hl hX hY
    go_enter Try.func34, Try.ntmps34
    go_wp2
    go_ret
    exact ⟨rfl, Below.refl _ _⟩

end Go.Proofs.Ytbelnlemjcoifaa

namespace Go.Proofs.Ytbelnlemjcoifaa
open Go.Proofs Go.RowKit Go.Shelf

/-- The first k variables, each itself. -/
def Tm.noneL (k : Nat) : List (List Int) := (List.range k).map fun i : Nat => [-1 - (i : Int)]
theorem Tm.noneL_succ (k : Nat) : Tm.noneL (k + 1) = Tm.noneL k ++ [[-1 - (k : Int)]] := by simp [Tm.noneL, List.range_succ]
theorem Tm.noneL_length (k : Nat) : (Tm.noneL k).length = k := by simp [Tm.noneL]

theorem NewS.alloc {base : Nat} {W : World} {v : Value} {ss : List (List Int)} (h : NewS base W v ss) (o : Obj) : NewS base (W.alloc o) v ss := h.below ((Below.refl _ _).alloc (Nat.le_refl _) _)
theorem New.alloc {base : Nat} {W : World} {v : Value} {zs : List Int} (h : New base W v zs) (o : Obj) : New base (W.alloc o) v zs := h.below ((Below.refl _ _).alloc (Nat.le_refl _) _)
theorem cell_new (W : World) (v : Value) (t : TypeId) (n : Nat) (hn : n = W.heap.size) : (W.alloc (.cells #[v] t)).cell? ⟨n, 0, none⟩ = some v := by
  subst hn
  rw [cell_at (World.alloc_heap_new W _)]
  rfl

set_option maxRecDepth 100000 in
set_option maxHeartbeats 400000 in
/-- sub.None. -/
theorem none_any (w : World) : Calls Try.prog 35 #[] w fun e w' => ∃ v, e = .returned v ∧ NewS w.heap.size w' v (Tm.noneL 8) ∧ Below w.heap.size w w' := by
  go_enter Try.func35, Try.ntmps35
  go_wp2
  go_loopw [1, 3] (fun v i wr => ∃ k : Nat, k ≤ 8 ∧ i = .int .i64 (k : Int) ∧ NewS w.heap.size wr v (Tm.noneL k) ∧ Below w.heap.size w wr) (fun _ i _ => 8 - (intOf i).toNat)
  case atStart => exact ⟨0, Nat.zero_le _, rfl, NewS.nil _ _, Below.refl _ _⟩
  case round =>
    obtain ⟨k, hk, rfl, hN, hB⟩ := hrel
    by_cases hlt : k < 8
    · have hlt' : (k : Int) < 8 := by omega
      have hsn := hid (Tm.noneL_succ k)
      have Hln := hid (Tm.noneL_length k)
      obtain ⟨a0, c0, rfl, _⟩ := NewS.subs hN
      have hu := New.lit w.heap.size wr [-1 - (k : Int)] hB.size (by unfold maxLen; simp)
      simp only [List.map_cons, List.map_nil, List.length_cons, List.length_nil, Nat.zero_add] at hu
      have hA : Below w.heap.size w (((wr.alloc (.cells #[.int .i64 (-1 - (k : Int))] 3)).alloc (.cells #[.slice (some ⟨wr.heap.size, 0, none⟩) 1 1] 23))) := (hB.alloc hB.size _).alloc (by have := hB.size; simp; omega) _
      have hN2 := (hN.alloc (.cells #[.int .i64 (-1 - (k : Int))] 3)).alloc (.cells #[.slice (some ⟨wr.heap.size, 0, none⟩) 1 1] 23)
      have hu2 := hu.alloc (.cells #[.slice (some ⟨wr.heap.size, 0, none⟩) 1 1] 23)
      have hcn := cell_new (wr.alloc (.cells #[.int .i64 (-1 - (k : Int))] 3)) (.slice (some ⟨wr.heap.size, 0, none⟩) 1 1) 23 (wr.heap.size + 1) (by simp)
      have HN2 := hid hN2
      have Hu2 := hid hu2
      have Hcn := hid hcn
      clear hu hN2 hu2 hcn
      go_wp2_with (at_builtin; go_loud (refine wp_append_sub _ rfl _ _ rfl w.heap.size _ (Tm.noneL k) rfl HN2.out (.slice (some ⟨wr.heap.size, 0, none⟩) 1 1) [-1 - (k : Int)] (wr.heap.size + 1) rfl Hcn.out Hu2.out (by rw [Hln.out]; omega) hA.size ?_); intro v' w2 hN3 hB3; obtain ⟨a2, c2, rfl, _⟩ := NewS.subs hN3)
      go_roundw
      case rel => exact ⟨k + 1, by omega, by go_num, by rw [hsn.out]; simpa using hN3, hA.trans hB3⟩
      case measure => simp [intOf]; omega
    · obtain rfl : k = 8 := by omega
      obtain ⟨a2, c2, rfl, _⟩ := NewS.subs hN
      go_wp2
      go_ret
      exact ⟨_, rfl, hN, hB⟩

/-- One of the lists is stored anew. -/
theorem NewS.set {base : Nat} {W : World} {g c n : Nat} {ss : List (List Int)} (h : NewS base W (.slice (some ⟨g, 0, none⟩) n c) ss) (hn : n = ss.length) {u : Value} {t : List Int} (hu : New base W u t) (j : Nat) :
    NewS base (W.setCell ⟨g, j, none⟩ u) (.slice (some ⟨g, 0, none⟩) n c) (ss.set j t) := by
  subst hn
  obtain ⟨us, h1, h2⟩ := h
  have hul : us.length = ss.length := by have := h1.1; omega
  have hkeep : ∀ (u' : Value) (t' : List Int), New base W u' t' → New base (W.setCell ⟨g, j, none⟩ u) u' t' := fun u' t' hN' => World.ownsRow.kept hN' (grownBy_setCell1 W g j u) (by
    have := New.apart hN' h1
    simpa [Value.ownBlock] using this)
  refine ⟨us.set j u, ?_, fun i hi => ?_⟩
  · have := World.ownsRow.stored h1 j u
    rw [List.length_set]
    exact this.1
  · rw [List.length_set] at hi
    by_cases e : i = j
    · subst e
      refine ⟨u, by simp [hul, hi], ?_⟩
      simpa [hi] using hkeep u t hu
    · obtain ⟨u', hu', hN'⟩ := h2 i hi
      have e' : ¬ j = i := fun h => e h.symm
      refine ⟨u', by rw [List.getElem?_set_ne e']; exact hu', ?_⟩
      rw [List.getElem?_set_ne e']
      exact hkeep u' _ hN'

end Go.Proofs.Ytbelnlemjcoifaa

namespace Go.Proofs.Ytbelnlemjcoifaa
open Go.Proofs Go.RowKit Go.Shelf

def Tm.someL : List (List Int) := [[2, -2], [-1], [-3], [-4], [-5], [-6], [-7], [-8]]
end Go.Proofs.Ytbelnlemjcoifaa

namespace Go.Proofs.Ytbelnlemjcoifaa
open Go.Proofs Go.RowKit Go.Shelf

/-- Is what t becomes small enough? -/
def Tm.fits (us : List (List Int)) (t : List Int) : Bool := decide ((Tm.applied us t).length ≤ 30)
def Tm.afterL (ss us : List (List Int)) : List (List Int) := ss.map (Tm.applied us)
def Tm.afterErr (ss us : List (List Int)) : Int := if Tm.subErr ss = 0 then (if Tm.subErr us = 0 then (if ss.all (Tm.fits us) = true then 0 else 2) else Tm.subErr us) else Tm.subErr ss
def Tm.afterVal (ss us : List (List Int)) : List (List Int) := if Tm.afterErr ss us = 0 then Tm.afterL ss us else []
theorem Tm.after_s {ss us : List (List Int)} (h : Tm.subErr ss ≠ 0) : Tm.afterErr ss us = Tm.subErr ss ∧ Tm.afterVal ss us = [] := by
  have h1 : Tm.afterErr ss us = Tm.subErr ss := by unfold Tm.afterErr; rw [if_neg h]
  exact ⟨h1, by unfold Tm.afterVal; rw [h1, if_neg h]⟩
theorem Tm.after_u {ss us : List (List Int)} (hs : Tm.subErr ss = 0) (h : Tm.subErr us ≠ 0) : Tm.afterErr ss us = Tm.subErr us ∧ Tm.afterVal ss us = [] := by
  have h1 : Tm.afterErr ss us = Tm.subErr us := by unfold Tm.afterErr; rw [if_pos hs, if_neg h]
  exact ⟨h1, by unfold Tm.afterVal; rw [h1, if_neg h]⟩
theorem Tm.after_big {ss us : List (List Int)} (hs : Tm.subErr ss = 0) (hu : Tm.subErr us = 0) {k : Nat} (hk : k < ss.length) (h : Tm.fits us (ss[k]?.getD []) = false) : Tm.afterErr ss us = 2 ∧ Tm.afterVal ss us = [] := by
  have ha : ¬ ss.all (Tm.fits us) = true := by
    rw [List.all_eq_true]
    intro hall
    have := hall ss[k] (List.getElem_mem hk)
    simp only [hk, List.getElem?_eq_getElem, Option.getD_some] at h
    rw [h] at this
    cases this
  have h1 : Tm.afterErr ss us = 2 := by unfold Tm.afterErr; rw [if_pos hs, if_pos hu, if_neg ha]
  exact ⟨h1, by unfold Tm.afterVal; rw [h1, if_neg (by decide)]⟩
theorem Tm.after_ok {ss us : List (List Int)} (hs : Tm.subErr ss = 0) (hu : Tm.subErr us = 0) (h : ss.all (Tm.fits us) = true) : Tm.afterErr ss us = 0 ∧ Tm.afterVal ss us = Tm.afterL ss us := by
  have h1 : Tm.afterErr ss us = 0 := by unfold Tm.afterErr; rw [if_pos hs, if_pos hu, if_pos h]
  exact ⟨h1, by unfold Tm.afterVal; rw [h1, if_pos rfl]⟩
theorem Tm.fits_snoc {ss us : List (List Int)} {k : Nat} (hk : k < ss.length) (h : (ss.take k).all (Tm.fits us) = true) (hf : Tm.fits us (ss[k]?.getD []) = true) : (ss.take (k + 1)).all (Tm.fits us) = true := by
  rw [takeS_snoc hk, List.all_append, h]
  simp [hf]
theorem Tm.afterL_snoc {ss us : List (List Int)} {k : Nat} (hk : k < ss.length) : Tm.afterL (ss.take (k + 1)) us = Tm.afterL (ss.take k) us ++ [Tm.applied us (ss[k]?.getD [])] := by
  rw [takeS_snoc hk]
  simp [Tm.afterL]
theorem Tm.afterL_length {ss us : List (List Int)} : (Tm.afterL ss us).length = ss.length := by simp [Tm.afterL]

set_option maxRecDepth 100000 in
set_option maxHeartbeats 1000000 in
/-- sub.After, of right ones. -/
theorem after_right (ss us : List (List Int)) (hs : Tm.subErr ss = 0) (hu : Tm.subErr us = 0) (a b : Option Addr) (ca cb : Nat) (w : World) (hS : Subs w.heap.size w a ss) (hU : Subs w.heap.size w b us) :
    Calls Try.prog 30 #[.slice a 8 ca, .slice b 8 cb] w fun e w' => ∃ v, e = .returned (.tuple #[v, .int .i64 (Tm.afterErr ss us)]) ∧ NewS w.heap.size w' v (Tm.afterVal ss us) ∧ Below w.heap.size w w' := by
  obtain ⟨hsl, hsf⟩ := Tm.subErr_ok hs
  obtain ⟨hul, huf⟩ := Tm.subErr_ok hu
  have hC1 := subCheck_any ss a ca w hS
  rw [hs, hsl] at hC1
  have hC2 : ∀ W, Below w.heap.size w W → Calls Try.prog 28 #[.slice b 8 cb] W fun e w' => e = .returned (.int .i64 0) ∧ Below W.heap.size W w' := fun W hW => by
    have h := subCheck_any us b cb W ((hU.below hW).mono hW.size)
    rw [hu, hul] at h
    exact h
  obtain ⟨bs, os, rfl, hbs, hcs⟩ := hS.at (by omega)
  have hb : ∀ (k : Nat), k < 8 → ∀ (aj : Option Addr) (cj : Nat) (W : World), Below w.heap.size w W → Ints W.heap.size W aj (ss[k]?.getD []) → Calls Try.prog 55 #[.slice b 8 cb, .slice aj (ss[k]?.getD []).length cj] W fun e w' =>
      ∃ v, e = .returned (.tuple #[v, .int .i64 (if 30 < (Tm.applied us (ss[k]?.getD [])).length then 2 else 0)]) ∧ New W.heap.size w' v (if 30 < (Tm.applied us (ss[k]?.getD [])).length then [] else Tm.applied us (ss[k]?.getD [])) ∧ Below W.heap.size W w' := fun k hk aj cj W hW hI => by
    have he := Tm.firstErr_all hsf k (by omega)
    exact become_any us hul (Short.of_ok huf) b cb _ aj cj (Tm.err_len he) (Tm.known8 he) W ((hU.below hW).mono hW.size) hI
  have hbig : ∀ k, k < 8 → Tm.fits us (ss[k]?.getD []) = false → Tm.afterErr ss us = 2 ∧ Tm.afterVal ss us = [] := fun k hk h => Tm.after_big hs hu (by omega) h
  have hok : ss.all (Tm.fits us) = true → Tm.afterErr ss us = 0 ∧ Tm.afterVal ss us = Tm.afterL ss us := Tm.after_ok hs hu
  have HC2 := hid hC2
  have Hb := hid hb
  have Hcs := hid hcs
  have Hsl := hid hsl
  have Hbig := hid hbig
  have Hok := hid hok
  clear hC2 hb hcs hsl hbig hok hs hu hsf huf hul hS hU
  go_enter Try.func30, Try.ntmps30
  go_wp2_with fail
  refine hC1.mono ?_
  rintro e w1 ⟨rfl, hB1⟩
  clear hC1
  go_wp2_with fail
  refine (HC2.out _ hB1).mono ?_
  rintro e w2 ⟨rfl, hB2⟩
  have hB3 := hB1.trans (hB2.mono hB1.size)
  clear hB1 hB2 HC2
  go_wp2
  go_loopw [8, 25] (fun v i wr => ∃ k : Nat, k ≤ 8 ∧ i = .int .i64 (k : Int) ∧ Hid ((ss.take k).all (Tm.fits us) = true) ∧ NewS w.heap.size wr v (Tm.afterL (ss.take k) us) ∧ Below w.heap.size w wr) (fun _ i _ => 8 - (intOf i).toNat)
  case atStart => exact ⟨0, Nat.zero_le _, rfl, rfl, NewS.nil _ _, hB3⟩
  case round =>
    obtain ⟨k, hk, rfl, hall, hN, hB⟩ := hrel
    clear hB3
    by_cases hlt : k < 8
    · have hlt' : (k : Int) < 8 := by omega
      have hks : k < ss.length := by have := Hsl.out; omega
      obtain ⟨aj, cj, hcj0, hIj0, _⟩ := Hcs.out k hks
      have hcj := (hB.cell (p := ⟨bs, os + k, none⟩) hbs).trans hcj0
      have hbe := Hb.out k hlt aj cj wr hB ((hIj0.below hB).mono hB.size)
      have hsn := hid (Tm.afterL_snoc (us := us) hks)
      have hln : Hid ((Tm.afterL (ss.take k) us).length ≤ 1000000) := by
        show _ ≤ _
        rw [Tm.afterL_length, List.length_take]
        omega
      cases hfit : Tm.fits us (ss[k]?.getD []) with
      | true =>
        have hfs := hid (Tm.fits_snoc hks hall.out hfit)
        have hno : ¬ 30 < (Tm.applied us (ss[k]?.getD [])).length := by
          simp only [Tm.fits, decide_eq_true_eq] at hfit
          omega
        rw [if_neg hno, if_neg hno] at hbe
        clear hno hfit hcj0 hIj0 hks
        generalize Tm.applied us (ss[k]?.getD []) = pt at *
        generalize ss[k]?.getD [] = t at *
        generalize Tm.afterL (ss.take k) us = xs at *
        obtain ⟨a0, c0, rfl, _⟩ := NewS.subs hN
        go_wp2_with fail
        refine hbe.mono ?_
        rintro e w3 ⟨v3, rfl, hN3, hB3⟩
        obtain ⟨a3, c3, rfl, _⟩ := New.ints hN3
        have hB4 := hB.trans (hB3.mono hB.size)
        have HN4 := hid ((hN.below hB3).alloc (.cells #[.slice a3 pt.length c3] 23))
        have Hu4 := hid ((hN3.mono hB.size).alloc (.cells #[.slice a3 pt.length c3] 23))
        have Hcn := hid (cell_new w3 (.slice a3 pt.length c3) 23 w3.heap.size rfl)
        have hA : Below w.heap.size w (w3.alloc (.cells #[.slice a3 pt.length c3] 23)) := hB4.alloc hB4.size _
        clear hN hN3 hB3 hB hbe
        go_wp2_with (at_builtin; go_loud (refine wp_append_sub _ rfl _ _ rfl w.heap.size _ xs rfl HN4.out (.slice a3 pt.length c3) pt w3.heap.size rfl Hcn.out Hu4.out hln.out hA.size ?_); intro v' w5 hN5 hB5; obtain ⟨a5, c5, rfl, _⟩ := NewS.subs hN5)
        go_roundw
        case rel => exact ⟨k + 1, by omega, by go_num, hfs.out, by rw [hsn.out]; simpa using hN5, hA.trans hB5⟩
        case measure => simp [intOf]; omega
      | false =>
        obtain ⟨e1, e2⟩ := Hbig.out k hlt hfit
        have E1 := hid e1
        have E2 := hid e2
        have hyes : 30 < (Tm.applied us (ss[k]?.getD [])).length := by
          simp only [Tm.fits, decide_eq_false_iff_not] at hfit
          omega
        rw [if_pos hyes, if_pos hyes] at hbe
        clear hyes hfit hcj0 hIj0 hks e1 e2 hsn hln
        generalize ss[k]?.getD [] = t at *
        go_wp2_with fail
        refine hbe.mono ?_
        rintro e w3 ⟨v3, rfl, hN3, hB3⟩
        obtain ⟨a3, c3, rfl, _⟩ := New.ints hN3
        go_wp2
        go_ret2
        exact ⟨_, by rw [E1.out]; rfl, by rw [E2.out]; exact NewS.nil _ _, hB.trans (hB3.mono hB.size)⟩
    · obtain rfl : k = 8 := by omega
      have e8 : ss.take 8 = ss := by rw [← Hsl.out, List.take_length]
      obtain ⟨e1, e2⟩ := Hok.out (by have := hall.out; rw [e8] at this; exact this)
      have E1 := hid e1
      have E2 := hid e2
      rw [e8] at hN
      clear e1 e2 e8
      obtain ⟨a0, c0, rfl, _⟩ := NewS.subs hN
      go_wp2
      go_ret2
      exact ⟨_, by rw [E1.out]; rfl, by rw [E2.out]; exact hN, hB⟩

set_option maxRecDepth 100000 in
set_option maxHeartbeats 400000 in
/-- sub.After. -/
theorem after_any (ss us : List (List Int)) (a b : Option Addr) (ca cb : Nat) (w : World) (hS : Subs w.heap.size w a ss) (hU : Subs w.heap.size w b us) :
    Calls Try.prog 30 #[.slice a ss.length ca, .slice b us.length cb] w fun e w' => ∃ v, e = .returned (.tuple #[v, .int .i64 (Tm.afterErr ss us)]) ∧ NewS w.heap.size w' v (Tm.afterVal ss us) ∧ Below w.heap.size w w' := by
  by_cases hs : Tm.subErr ss = 0
  · by_cases hu : Tm.subErr us = 0
    · rw [(Tm.subErr_ok hs).1, (Tm.subErr_ok hu).1]
      exact after_right ss us hs hu a b ca cb w hS hU
    · obtain ⟨e1, e2⟩ := Tm.after_u hs hu
      rw [e1, e2]
      have hC1 := subCheck_any ss a ca w hS
      rw [hs] at hC1
      have hC2 : ∀ W, Below w.heap.size w W → Calls Try.prog 28 #[.slice b us.length cb] W fun e w' => e = .returned (.int .i64 (Tm.subErr us)) ∧ Below W.heap.size W w' := fun W hW => subCheck_any us b cb W ((hU.below hW).mono hW.size)
      have HC2 := hid hC2
      have hne : (Tm.subErr us != 0) = true := by simp [hu]
      clear hC2 e1 e2 hs hu hS hU
      generalize Tm.subErr us = q at *
      go_enter Try.func30, Try.ntmps30
      go_wp2_with fail
      refine hC1.mono ?_
      rintro e w1 ⟨rfl, hB1⟩
      clear hC1
      go_wp2_with fail
      refine (HC2.out _ hB1).mono ?_
      rintro e w2 ⟨rfl, hB2⟩
      go_wp2
      go_ret2
      exact ⟨_, rfl, NewS.nil _ _, hB1.trans (hB2.mono hB1.size)⟩
  · obtain ⟨e1, e2⟩ := Tm.after_s (us := us) hs
    rw [e1, e2]
    have hC1 := subCheck_any ss a ca w hS
    have hne : (Tm.subErr ss != 0) = true := by simp [hs]
    clear e1 e2 hs hS hU
    generalize Tm.subErr ss = q at *
    go_enter Try.func30, Try.ntmps30
    go_wp2_with fail
    refine hC1.mono ?_
    rintro e w1 ⟨rfl, hB1⟩
    go_wp2
    go_ret2
    exact ⟨_, rfl, NewS.nil _ _, hB1⟩

end Go.Proofs.Ytbelnlemjcoifaa

namespace Go.Proofs.Ytbelnlemjcoifaa
open Go.Proofs Go.RowKit Go.Shelf

end Go.Proofs.Ytbelnlemjcoifaa

namespace Go.Proofs.Ytbelnlemjcoifaa
open Go.Proofs Go.RowKit Go.Shelf Go.Maps

def Tm.idx (seen : List Int) (s : Int) : Nat := seen.findIdx (fun x => x == s)
def Tm.see (seen : List Int) (s : Int) : List Int := if s < 0 then (if seen.contains s = true then seen else seen ++ [s]) else seen
def Tm.name (seen : List Int) (s : Int) : Int := if s < 0 then -1 - (Tm.idx seen s : Int) else s
def Tm.seenFrom (seen : List Int) (l : List Int) : List Int := l.foldl Tm.see seen
/-- The first k signs of t made plain, where 'seen' have been seen. -/
def Tm.plainTo (seen : List Int) (t : List Int) (k : Nat) : List Int := (List.range k).map fun i : Nat => Tm.name (Tm.seenFrom seen (t.take i)) (t[i]?.getD 0)

theorem Tm.plainTo_succ (seen t : List Int) (k : Nat) : Tm.plainTo seen t (k + 1) = Tm.plainTo seen t k ++ [Tm.name (Tm.seenFrom seen (t.take k)) (t[k]?.getD 0)] := by simp [Tm.plainTo, List.range_succ]
theorem Tm.seen_succ (seen : List Int) {t : List Int} {k : Nat} (h : k < t.length) : Tm.seenFrom seen (t.take (k + 1)) = Tm.see (Tm.seenFrom seen (t.take k)) (t[k]?.getD 0) := by
  rw [take_snoc h]
  simp [Tm.seenFrom, List.foldl_append]
theorem Tm.idx_app {seen : List Int} {s : Int} (h : seen.contains s = true) (r : List Int) : Tm.idx (seen ++ r) s = Tm.idx seen s := by
  unfold Tm.idx
  rw [List.findIdx_append, if_pos]
  rw [List.findIdx_lt_length]
  exact ⟨s, by simpa using h, by simp⟩
/-- THE MAP D KEEPS the variables that have been seen, each with its new name. -/
structure MapIs (seen : List Int) (D : DataW Unit) : Prop where
  has : ∀ s : Int, Maps.has D (.int .i64 s) = seen.contains s
  at_ : ∀ s : Int, seen.contains s = true → D.atKey (.int .i64 s) (.lit (.int .i64 0)) = .lit (.int .i64 (-1 - (Tm.idx seen s : Int)))
  size : Maps.size D = seen.length

theorem MapIs.put {seen : List Int} {D : DataW Unit} (h : MapIs seen D) (hT : Tidy D) {s : Int} (hs : seen.contains s = false) :
    MapIs (seen ++ [s]) (D.put (.int .i64 s) (.lit (.int .i64 (-1 - (seen.length : Int))))) := by
  have hk : WideAt.IsKeyLit (.int .i64 s) := trivial
  have hh : Maps.has D (.int .i64 s) = false := by rw [h.has, hs]
  have hne : ¬ s ∈ seen := by simpa using hs
  refine ⟨fun x => ?_, fun x hx => ?_, ?_⟩
  · by_cases e : x = s
    · subst e
      rw [has_put_same hT.isMap hk]
      simp
    · rw [has_put_other (by simp [e]), h.has]
      simp [e]
  · by_cases e : x = s
    · subst e
      rw [atKey_put_same hT.isMap hk]
      have : Tm.idx (seen ++ [x]) x = seen.length := by
        unfold Tm.idx
        rw [List.findIdx_append, if_neg]
        · simp
        · rw [List.findIdx_lt_length]
          rintro ⟨y, hy, e⟩
          have : y = x := by simpa using e
          subst this
          exact hne hy
      rw [this]
    · rw [atKey_put_other (by simp [e])]
      have hx' : seen.contains x = true := by simpa [e] using hx
      rw [Tm.idx_app hx']
      exact h.at_ x hx'
  · rw [size_put hT, hh, h.size]
    simp

/-- Block Bf is the box of the map 'fresh', block Bm the map: it keeps 'seen'. -/
def FreshAt (W : World) (Bf Bm : Nat) (seen : List Int) : Prop :=
  W.cell? ⟨Bf, 0, none⟩ = some (.map (some Bm)) ∧ ∃ D : DataW Unit, W.ownsMap Try.prog 3 (plainElem Try.prog 3) Bm seen.length D ∧ MapIs seen D
theorem FreshAt.keep {W W' : World} {Bf Bm : Nat} {seen : List Int} (h : FreshAt W Bf Bm seen) (h1 : W'.heap[Bf]? = W.heap[Bf]?) (h2 : W'.heap[Bm]? = W.heap[Bm]?) : FreshAt W' Bf Bm seen := by
  obtain ⟨hc, D, ⟨es, clock, hb, r⟩, hM⟩ := h
  exact ⟨(World.cell?_of_block (a := ⟨Bf, 0, none⟩) h1).trans hc, D, ⟨es, clock, h2.trans hb, r⟩, hM⟩
theorem FreshAt.map {W : World} {Bf Bm : Nat} {seen : List Int} (h : FreshAt W Bf Bm seen) : ∃ es clock, W.heap[Bm]? = some (.map es clock) := by
  obtain ⟨_, D, ⟨es, clock, hb, _⟩, _⟩ := h
  exact ⟨es, clock, hb⟩
theorem FreshAt.lt {W : World} {Bf Bm : Nat} {seen : List Int} (h : FreshAt W Bf Bm seen) : Bf < W.heap.size ∧ Bm < W.heap.size := by
  obtain ⟨es, clock, hb⟩ := h.map
  exact ⟨lt_of_cell h.1, (Array.getElem?_eq_some_iff.1 hb).1⟩
theorem ne_map {W : World} {b o Bm : Nat} {v : Value} (hc : W.cell? ⟨b, o, none⟩ = some v) {es : Array (MapEntry)} {clock : Nat} (hm : W.heap[Bm]? = some (.map es clock)) : b ≠ Bm := by
  rintro rfl
  simp [World.cell?, hm] at hc

/-- w' is w below block n, but for block m. -/
structure Keep (n m : Nat) (w w' : World) : Prop where
  os : w'.os = w.os
  tape : w'.tape = w.tape
  output : w'.output = w.output
  size : w.heap.size ≤ w'.heap.size
  block : ∀ k, k < n → k ≠ m → w'.heap[k]? = w.heap[k]?
theorem Keep.refl (n m : Nat) (w : World) : Keep n m w w := ⟨rfl, rfl, rfl, Nat.le_refl _, fun _ _ _ => rfl⟩
theorem Keep.trans {n m : Nat} {a b c : World} (h : Keep n m a b) (k : Keep n m b c) : Keep n m a c :=
  ⟨k.os.trans h.os, k.tape.trans h.tape, k.output.trans h.output, Nat.le_trans h.size k.size, fun i hi hm => (k.block i hi hm).trans (h.block i hi hm)⟩
theorem Keep.of_below {n m : Nat} {a b : World} (h : Below n a b) : Keep n m a b := ⟨h.os, h.tape, h.output, h.size, fun k hk _ => h.block k hk⟩
theorem Keep.of_grown {n m : Nat} {a b : World} (h : a.grownBy b (some m)) (hn : n ≤ a.heap.size) : Keep n m a b :=
  ⟨h.os, h.tape, h.output, h.size, fun k hk hm => h.block k (by omega) (by simpa using hm)⟩
theorem Keep.mono {n n' m : Nat} {a b : World} (h : Keep n m a b) (hn : n' ≤ n) : Keep n' m a b := ⟨h.os, h.tape, h.output, h.size, fun k hk hm => h.block k (by omega) hm⟩
theorem Keep.below {n m : Nat} {a b : World} (h : Keep n m a b) (hm : n ≤ m) : Below n a b := ⟨h.os, h.tape, h.output, h.size, fun k hk => h.block k hk (by omega)⟩

end Go.Proofs.Ytbelnlemjcoifaa

namespace Go.Proofs.Ytbelnlemjcoifaa
open Go.Proofs Go.RowKit Go.Shelf Go.Maps

theorem lawInt : Keyed Try.prog 3 := int_keyed Try.underlying3
theorem zeroInt (w : World) : (zeroValue 3).run Try.prog w = .ok (.int .i64 0) w := by kernel_rfl
end Go.Proofs.Ytbelnlemjcoifaa

namespace Go.Proofs.Ytbelnlemjcoifaa
open Go.Proofs Go.RowKit Go.Shelf Go.Maps

/-- A term made plain. -/
def Tm.plain (t : List Int) : List Int := Tm.plainTo [] t t.length

def Tm.plainVal (t : List Int) : List Int := if Tm.err t = 0 then Tm.plain t else []
end Go.Proofs.Ytbelnlemjcoifaa

namespace Go.Proofs.Ytbelnlemjcoifaa
open Go.Proofs Go.RowKit Go.Shelf Go.Maps

/-- The first k signs made plain, the rest as they were. -/
def Tm.half (t : List Int) (k : Nat) : List Int := Tm.plainTo [] t k ++ t.drop k
theorem Tm.half_same {t : List Int} {k : Nat} (h : k < t.length) (hs : 0 ≤ t[k]?.getD 0) : Tm.half t (k + 1) = Tm.half t k := by
  unfold Tm.half
  have hn : Tm.name (Tm.seenFrom [] (t.take k)) (t[k]?.getD 0) = t[k]?.getD 0 := by unfold Tm.name; rw [if_neg (by omega)]
  rw [Tm.plainTo_succ, hn, List.drop_eq_getElem_cons h]
  simp [h]
theorem Tm.see_same {seen : List Int} {s : Int} (hs : 0 ≤ s) : Tm.see seen s = seen := by unfold Tm.see; rw [if_neg (by omega)]
/-- One int is stored anew. -/
theorem New.set {base : Nat} {W : World} {g c n : Nat} {zs : List Int} (h : New base W (.slice (some ⟨g, 0, none⟩) n c) zs) (hn : n = zs.length) (j : Nat) (x : Int) :
    New base (W.setCell ⟨g, j, none⟩ (.int .i64 x)) (.slice (some ⟨g, 0, none⟩) n c) (zs.set j x) := by
  subst hn
  have := (World.ownsRow.stored h j (.int .i64 x)).1
  unfold New
  rw [List.length_set, List.map_set]
  exact this

end Go.Proofs.Ytbelnlemjcoifaa

namespace Go.Proofs.Ytbelnlemjcoifaa
open Go.Proofs Go.RowKit Go.Shelf Go.Maps

theorem New.drewN {base : Nat} {W : World} {v : Value} {zs : List Int} (h : New base W v zs) (d : Nat) : New base (W.drewN d) v zs := h
/-- haspref.plain, one round: what stands before it and behind it. -/
def PlainSt (w W1 : World) (t : List Int) (g n c k : Nat) (vs : Value) (wr : World) : Prop :=
  New W1.heap.size wr vs (Tm.seenFrom [] (t.take k)) ∧ New w.heap.size wr (.slice (some ⟨g, 0, none⟩) n c) (Tm.half t k) ∧ Below w.heap.size w wr ∧ W1.heap.size ≤ wr.heap.size

theorem PlainSt.same {w W1 : World} {t : List Int} {g n c k : Nat} {vs : Value} {wr : World} (h : PlainSt w W1 t g n c k vs wr) (hk : k < t.length) (hs : 0 ≤ t[k]?.getD 0) : PlainSt w W1 t g n c (k + 1) vs wr := by
  obtain ⟨h1, h2, h3, h4⟩ := h
  refine ⟨?_, ?_, h3, h4⟩
  · rw [Tm.seen_succ [] hk, Tm.see_same hs]; exact h1
  · rw [Tm.half_same hk hs]; exact h2

end Go.Proofs.Ytbelnlemjcoifaa

namespace Go.Proofs.Ytbelnlemjcoifaa
open Go.Proofs Go.RowKit Go.Shelf Go.Maps

theorem Tm.s1 : Tm.applyErr Tm.someL [4, -1, -2] = 0 := by decide +kernel
theorem Tm.s2 : Tm.applyVal Tm.someL [4, -1, -2] = [4, 2, -2, -1] := by decide +kernel
end Go.Proofs.Ytbelnlemjcoifaa

namespace Go.Proofs.Ytbelnlemjcoifaa
open Go.Proofs Go.RowKit Go.Shelf

def TermIn (w : World) (a : Option Addr) (len cap : Nat) : Prop := ∃ zs : List Int, zs.length = len ∧ Ints w.heap.size w a zs ∧ len ≤ cap ∧ cap ≤ maxLen ∧ (a = none → cap = 0)
def SubsIn (w : World) (a : Option Addr) (len cap : Nat) : Prop := ∃ ss : List (List Int), ss.length = len ∧ Subs w.heap.size w a ss ∧ len ≤ cap ∧ cap ≤ maxLen
theorem subsIn_nil (w : World) : SubsIn w none 0 0 := ⟨[], rfl, Subs.nil _ _ _, Nat.le_refl _, Nat.zero_le _⟩

theorem ints_of_cells {w : World} {a : Option Addr} {L C : Nat} {Z : List Int} (h1 : L ≤ C) (h2 : Z.length = C) (h3 : ∀ x, a = some x → ∀ c, c < C → w.cell? (x.add c) = some (.int .i64 (Z.getD c 0))) (h4 : a = none → C = 0) :
    Ints w.heap.size w a (Z.take L) := fun j hj => by
  rw [List.length_take] at hj
  cases a with
  | none => have := h4 rfl; omega
  | some x =>
    have hc := h3 x rfl j (by omega)
    have hsp := World.cell?_spot (h3 x rfl 0 (by omega))
    obtain ⟨b, off, spot⟩ := x
    have hspot : spot = none := by simpa [Addr.add] using hsp
    subst hspot
    rw [Go.WideShapes.add_plain] at hc
    refine ⟨b, off, rfl, by simpa using lt_of_cell hc, ?_⟩
    rw [hc, List.getD_eq_getElem?_getD]
    simp [show j < L from by omega]

theorem subsIn_rows {w : World} {a : Addr} {len cap : Nat} {A : Nat → Option Addr} {L C : Nat → Nat} {Z : Nat → List Int} (h1 : len ≤ cap) (h2 : cap ≤ maxLen)
    (h : ∀ r, r < cap → w.cell? (a.add r) = some (.slice (A r) (L r) (C r)) ∧ L r ≤ C r ∧ C r ≤ maxLen ∧ (Z r).length = C r ∧ (∀ n ∈ Z r, (Lit.int .i64 n).wf = true) ∧ (A r = none → C r = 0) ∧
        ∀ a', A r = some a' → 0 ≤ a'.block ∧ ∀ c, c < C r → w.cell? (a'.add c) = some (.int .i64 ((Z r).getD c 0))) : SubsIn w (some a) len cap := by
  refine ⟨(List.range len).map fun r => (Z r).take (L r), by simp, fun j hj => ?_, h1, h2⟩
  have hj' : j < len := by simpa using hj
  obtain ⟨hc, q1, q2, q3, _, q5, q6⟩ := h j (by omega)
  have hsp := World.cell?_spot (h 0 (by omega)).1
  obtain ⟨b, off, spot⟩ := a
  have hspot : spot = none := by simpa [Addr.add] using hsp
  subst hspot
  rw [Go.WideShapes.add_plain] at hc
  have e : ((List.range len).map fun r => (Z r).take (L r))[j]?.getD [] = (Z j).take (L j) := by simp [hj']
  rw [e]
  have el : ((Z j).take (L j)).length = L j := by rw [List.length_take]; omega
  refine ⟨b, off, A j, C j, rfl, by simpa using lt_of_cell hc, ?_, ints_of_cells q1 q3 (fun x hx => (q6 x hx).2) q5, ?_, q2, q5⟩
  · rw [el]; exact hc
  · rw [el]; exact q1

end Go.Proofs.Ytbelnlemjcoifaa

namespace Go.Proofs.Ytbelnlemjcoifaa
open Go.Proofs Go.RowKit Go.Shelf Go.Maps

/-- An element reads as itself. -/
def heldElem (v : Value) : Option (DataW Value × List MemPlace) := some (.held v, [])

/-- BLOCK b IS THE MAP m, of at most n entries. -/
def IntMap (W : World) (b n : Nat) (m : Int → Option Value) : Prop :=
  ∃ D : DataW Value, W.ownsMap Try.prog 3 heldElem b n D ∧ (∀ k : Int, Maps.has D (.int .i64 k) = (m k).isSome) ∧ ∀ (k : Int) (v : Value), m k = some v → ∀ z, D.atKey (.int .i64 k) z = .held v
def upd {α : Type} (m : Int → Option α) (s : Int) (v : α) : Int → Option α := fun x => if x = s then some v else m x
theorem upd_same {α : Type} (m : Int → Option α) (s : Int) (v : α) : upd m s v s = some v := by simp [upd]
theorem upd_other {α : Type} (m : Int → Option α) {s x : Int} (v : α) (h : x ≠ s) : upd m s v x = m x := by simp [upd, h]

theorem IntMap.made (w : World) : IntMap (w.alloc (.map #[] 0)) w.heap.size 0 (fun _ => none) :=
  ⟨_, World.ownsMap_made w _ _ _, fun _ => rfl, fun _ _ h => by cases h⟩
theorem IntMap.lt {W : World} {b n : Nat} {m : Int → Option Value} (h : IntMap W b n m) : b < W.heap.size := by
  obtain ⟨D, hD, _⟩ := h; exact hD.lt
theorem IntMap.keep {W W' : World} {b n : Nat} {m : Int → Option Value} (h : IntMap W b n m) (hb : W'.heap[b]? = W.heap[b]?) : IntMap W' b n m := by
  obtain ⟨D, ⟨es, clock, hes, r⟩, r2⟩ := h
  exact ⟨D, ⟨es, clock, hb.trans hes, r⟩, r2⟩
theorem IntMap.mono {W : World} {b n n' : Nat} {m : Int → Option Value} (h : IntMap W b n m) (hn : n ≤ n') : IntMap W b n' m := by
  obtain ⟨D, hD, r⟩ := h; exact ⟨D, hD.mono hn, r⟩
theorem IntMap.map {W : World} {b n : Nat} {m : Int → Option Value} (h : IntMap W b n m) : ∃ es clock, W.heap[b]? = some (.map es clock) := by
  obtain ⟨D, ⟨es, clock, hes, r⟩, r2⟩ := h; exact ⟨es, clock, hes⟩

theorem atKey_none {D : DataW Value} {k : Lit} (hD : IsMap D) (h : Maps.has D k = false) (z : DataW Value) : D.atKey k z = z := by
  cases D with
  | map es =>
    simp only [Maps.has, List.any_eq_false] at h
    simp only [DataW.atKey]
    have : es.find? (fun p => p.1.sameKey k) = none := by
      rw [List.find?_eq_none]; intro x hx; simpa using h x hx
    simp [this]
  | _ => simp [IsMap] at hD

theorem IntMap.look {w : World} {b n : Nat} {M : Int → Option Value} (h : IntMap w b n M) {t e : TypeId} (ht : Try.prog.underlying t = some (.map 3 e)) {z : Value} (hz : (zeroValue e).run Try.prog w = .ok z w) {key : Int} (hwf : (Lit.int .i64 key).wf = true) :
    (Instr.lookup t (.map (some b)) (.int .i64 key) true).run Try.prog w = .ok (.tuple #[(M key).getD z, .bool (M key).isSome]) w ∧ (Instr.lookup t (.map (some b)) (.int .i64 key) false).run Try.prog w = .ok ((M key).getD z) w := by
  obtain ⟨D, hD, hh, ha⟩ := h
  have hkey := keyOf_int_mk Try.underlying3 hwf
  have hv : ∀ v, heldElem v = some (D.atKey (.int .i64 key) (.held z), []) → v = (M key).getD z := fun v hv => by
    unfold heldElem at hv
    simp only [Option.some.injEq, Prod.mk.injEq, and_true] at hv
    cases hm : M key with
    | none =>
      rw [atKey_none (hD.tidy lawInt).isMap (by rw [hh, hm]; rfl)] at hv
      simpa using hv
    | some u =>
      rw [ha key u hm] at hv
      simpa using hv
  constructor
  · obtain ⟨v, ps, hrun, hR⟩ := hD.look_ok lawInt ht hz (R := heldElem) (zd := .held z) (zp := []) rfl hkey
    have : ps = [] := by unfold heldElem at hR; simp at hR; exact hR.2
    subst this
    rw [hrun, hv v hR, hh]
  · obtain ⟨v, ps, hrun, hR⟩ := hD.lookup lawInt ht hz (R := heldElem) (zd := .held z) (zp := []) rfl hkey
    have : ps = [] := by unfold heldElem at hR; simp at hR; exact hR.2
    subst this
    rw [hrun, hv v hR]

theorem IntMap.set {w : World} {b n : Nat} {M : Int → Option Value} (h : IntMap w b n M) {t e : TypeId} (ht : Try.prog.underlying t = some (.map 3 e)) (hn : n < maxLen) {key : Int} (hwf : (Lit.int .i64 key).wf = true) (v : Value) :
    ∃ w', (Instr.mapUpdate t (.map (some b)) (.int .i64 key) v).run Try.prog w = .ok () w' ∧ IntMap w' b (n + 1) (upd M key v) ∧ w.grownBy w' (some b) := by
  obtain ⟨D, hD, hh, ha⟩ := h
  have hkey := keyOf_int_mk Try.underlying3 hwf
  obtain ⟨w', hrun, h1, h2⟩ := hD.update (R := heldElem) lawInt ht hn hkey (val := v) (d := .held v) (ps := []) rfl
  have hk : WideAt.IsKeyLit (.int .i64 key) := trivial
  refine ⟨w', hrun, ⟨_, h1, fun x => ?_, fun x u hx z => ?_⟩, h2⟩
  · by_cases e : x = key
    · subst e; rw [has_put_same (hD.tidy lawInt).isMap hk, upd_same]; rfl
    · rw [has_put_other (by simp [e]), upd_other _ _ e, hh]
  · by_cases e : x = key
    · subst e; rw [upd_same] at hx; cases hx; exact atKey_put_same (hD.tidy lawInt).isMap hk _ _
    · rw [upd_other _ _ e] at hx; rw [atKey_put_other (by simp [e])]; exact ha x u hx z

section
variable (w : World) {ops : Array Oper} {rest : List Oper} {o : Oper} {a : Act} {Q : Exit → Act → World → Prop}
theorem wp_mapset (hg : o.guard = none) (m x u : Operand) (t : TypeId) (hop : o.op = Op.mapUpdate t m x u) (e : TypeId) (ht : Try.prog.underlying t = some (.map 3 e)) (b n : Nat) (M : Int → Option Value)
    (hm : a.eval m = .map (some b)) (hI : IntMap w b n M) (hn : n < maxLen) (key : Int) (hx : a.eval x = .int .i64 key) (hwf : (Lit.int .i64 key).wf = true) (v : Value) (hv : a.eval u = v)
    (hK : ∀ w', IntMap w' b (n + 1) (upd M key v) → w.grownBy w' (some b) → wpList Try.prog ops Q rest (a.put o.dst undef) w') : wpList Try.prog ops Q (o :: rest) a w := by
  refine wpList_plain hg fun K' hK' => ?_
  obtain ⟨w', hrun, h1, h2⟩ := hI.set ht hn hwf v
  unfold Oper.wp
  simp [execOp, hop, hm, hx, hv, hrun, Result.andThen]
  exact hK' _ _ (hK w' h1 h2)
end

section
variable {F : Fence} {nF : Nat} (w : World) {ops : Array Oper} {rest : List Oper} {o : Oper} {a : Act} {Q : Exit → Act → World → Prop}
theorem wpi_look (hg : o.guard = none) (m x : Operand) (t : TypeId) (hop : o.op = Op.lookup t m x false) (e : TypeId) (ht : Try.prog.underlying t = some (.map 3 e)) {z : Value} (hz : (zeroValue e).run Try.prog w = .ok z w) (b n : Nat) (M : Int → Option Value)
    (hm : a.eval m = .map (some b)) (hI : IntMap w b n M) (key : Int) (hx : a.eval x = .int .i64 key) (hwf : (Lit.int .i64 key).wf = true) (v : Value) (hv : (M key).getD z = v)
    (hK : wpListIn F nF Try.prog ops Q rest (a.put o.dst v) w) : wpListIn F nF Try.prog ops Q (o :: rest) a w := by
  refine wpListIn_plain hg fun K' hK' => ?_
  have hrun := (hI.look ht hz hwf).2
  rw [hv] at hrun
  unfold Oper.wpIn
  refine ⟨by simp [Oper.about, hop], ?_⟩
  rw [Oper.semAt_plain F _ _ (by rw [hop]; intro c hc'; cases hc')]
  simp [execOp, hop, hm, hx, hrun, Result.andThen]
  exact hK' _ _ hK
theorem wpi_mapset (hg : o.guard = none) (m x u : Operand) (t : TypeId) (hop : o.op = Op.mapUpdate t m x u) (e : TypeId) (ht : Try.prog.underlying t = some (.map 3 e)) (b n : Nat) (M : Int → Option Value)
    (hm : a.eval m = .map (some b)) (hI : IntMap w b n M) (hn : n < maxLen) (key : Int) (hx : a.eval x = .int .i64 key) (hwf : (Lit.int .i64 key).wf = true) (v : Value) (hv : a.eval u = v)
    (hK : ∀ w', IntMap w' b (n + 1) (upd M key v) → w.grownBy w' (some b) → wpListIn F nF Try.prog ops Q rest (a.put o.dst undef) w') : wpListIn F nF Try.prog ops Q (o :: rest) a w := by
  refine wpListIn_plain hg fun K' hK' => ?_
  obtain ⟨w', hrun, h1, h2⟩ := hI.set ht hn hwf v
  unfold Oper.wpIn
  refine ⟨by simp [Oper.about, hop], ?_⟩
  rw [Oper.semAt_plain F _ _ (by rw [hop]; intro c hc'; cases hc')]
  simp [execOp, hop, hm, hx, hv, hrun, Result.andThen]
  exact hK' _ _ (hK w' h1 h2)
end

end Go.Proofs.Ytbelnlemjcoifaa

namespace Go.Proofs.Ytbelnlemjcoifaa
open Go.Proofs Go.RowKit Go.Shelf

theorem Tm.run_app (l : List Int) : ∀ (r : List Int) (n : Nat), Tm.run l n ≤ l.length → Tm.run (l ++ r) n = Tm.run l n := by
  induction l with
  | nil => intro r n h; rw [Tm.run_nil] at h; have : n = 0 := by simpa using h
           subst this; simp [Tm.run_zero]
  | cons s l ih =>
    intro r n h
    cases n with
    | zero => simp [Tm.run_zero]
    | succ n =>
      rw [List.cons_append, Tm.run_cons, Tm.run_cons, ih]
      rw [Tm.run_cons, List.length_cons] at h
      omega
theorem Tm.run_take (l : List Int) : ∀ (n : Nat), Tm.run l n ≤ l.length → Tm.run (l.take (Tm.run l n)) n = Tm.run l n := by
  induction l with
  | nil => intro n h; simp [Tm.run_nil]
  | cons s l ih =>
    intro n h
    cases n with
    | zero => simp [Tm.run_zero]
    | succ n =>
      rw [Tm.run_cons] at h ⊢
      rw [List.length_cons] at h
      rw [show 1 + Tm.run l (n + Tm.room s) = Tm.run l (n + Tm.room s) + 1 from by omega, List.take_succ_cons, Tm.run_cons, ih _ (by omega)]
      omega
theorem Tm.split (zs : List Int) (k : Nat) : zs = zs.take k ++ (Tm.part zs k ++ zs.drop (Tm.endAt zs k)) := by
  have hg := Tm.endAt_gt zs k
  have hd : zs.drop (Tm.endAt zs k) = (zs.drop k).drop (Tm.endAt zs k - k) := by rw [List.drop_drop]; congr 1; omega
  rw [hd, Tm.part, List.take_append_drop, List.take_append_drop]

end Go.Proofs.Ytbelnlemjcoifaa

namespace Go.Proofs.Ytbelnlemjcoifaa
open Go.Proofs Go.RowKit Go.Shelf Go.Maps

abbrev Asg := Int → Option (List Int)
/-- From place k of t on, against the signs that are left. -/
def Tm.fitGo (t : List Int) : List Int → Nat → Asg → Option Asg
  | [], _, m => some m
  | s :: p, k, m => if s < 0 then (if (m s).isSome = true ∧ m s ≠ some (Tm.part t k) then none else Tm.fitGo t p (Tm.endAt t k) (upd m s (Tm.part t k))) else if t[k]?.getD 0 = s then Tm.fitGo t p (k + 1) m else none
def Tm.fit (p t : List Int) : Option Asg := Tm.fitGo t p 0 (fun _ => none)

/-- As many terms are left of p as of t. -/
def Against (p t : List Int) (i k : Nat) : Prop := ∃ o, Tm.run (p.drop i) o = p.length - i ∧ Tm.run (t.drop k) o = t.length - k ∧ i ≤ p.length ∧ k ≤ t.length
theorem Against.start {p t : List Int} (hp : Tm.err p = 0) (ht : Tm.err t = 0) : Against p t 0 0 := ⟨1, by simpa using Tm.err_run hp, by simpa using Tm.err_run ht, by omega, by omega⟩
theorem Against.pos {p t : List Int} {i k : Nat} (h : Against p t i k) (hi : i < p.length) : k < t.length := by
  obtain ⟨o, h1, h2, h3, h4⟩ := h
  have ho : o ≠ 0 := by rintro rfl; rw [Tm.run_zero] at h1; omega
  have := Tm.run_ge (t.drop k) o
  omega
theorem Tm.room_neg {s : Int} (h : s < 0) : Tm.room s = 0 := by unfold Tm.room; rw [if_neg (by omega), if_neg (by omega)]
theorem Against.var {p t : List Int} {i k : Nat} (h : Against p t i k) (hi : i < p.length) (hs : p[i]?.getD 0 < 0) : Against p t (i + 1) (Tm.endAt t k) := by
  have hk := h.pos hi
  obtain ⟨o, h1, h2, h3, h4⟩ := h
  have ho : o ≠ 0 := by rintro rfl; rw [Tm.run_zero] at h1; omega
  obtain ⟨o, rfl⟩ : ∃ o', o = o' + 1 := ⟨o - 1, by omega⟩
  rw [Tm.run_step hi, Tm.room_neg hs] at h1
  rw [Nat.add_comm o 1, Tm.run_add] at h2
  have hle : Tm.endAt t k ≤ t.length := by
    rw [show Tm.endAt t k = k + Tm.run (t.drop k) 1 from rfl]
    omega
  refine ⟨o, by simpa using (by omega : Tm.run (p.drop (i + 1)) (o + 0) = p.length - (i + 1)), ?_, by omega, hle⟩
  rw [List.drop_drop] at h2
  rw [show Tm.endAt t k = k + Tm.run (t.drop k) 1 from rfl] at hle ⊢
  omega
theorem Against.sym {p t : List Int} {i k : Nat} (h : Against p t i k) (hi : i < p.length) (he : t[k]?.getD 0 = p[i]?.getD 0) : Against p t (i + 1) (k + 1) := by
  have hk := h.pos hi
  obtain ⟨o, h1, h2, h3, h4⟩ := h
  have ho : o ≠ 0 := by rintro rfl; rw [Tm.run_zero] at h1; omega
  obtain ⟨o, rfl⟩ : ∃ o', o = o' + 1 := ⟨o - 1, by omega⟩
  rw [Tm.run_step hi] at h1
  rw [Tm.run_step hk, he] at h2
  exact ⟨o + Tm.room (p[i]?.getD 0), by omega, by omega, by omega, by omega⟩
/-- A value that is a slice which reads zs, all below block n. -/
def Reads (n : Nat) (W : World) (v : Value) (zs : List Int) : Prop := ∃ b off c, v = .slice (some ⟨b, off, none⟩) zs.length c ∧ Ints n W (some ⟨b, off, none⟩) zs ∧ zs.length ≤ c ∧ c ≤ maxLen ∧ zs.length ≤ 30
theorem Reads.below {n : Nat} {W W' : World} {v : Value} {zs : List Int} (h : Reads n W v zs) (hB : Below n W W') : Reads n W' v zs := by
  obtain ⟨b, off, c, rfl, hI, h1⟩ := h
  exact ⟨b, off, c, rfl, hI.below hB, h1⟩
/-- BLOCK bm IS THE MAP OF WHAT VARIABLES BECOME. -/
def FitAt (n : Nat) (W : World) (bm N : Nat) (m : Asg) : Prop := ∃ M, IntMap W bm N M ∧ (∀ s, m s = none → M s = none) ∧ ∀ s zs, m s = some zs → ∃ v, M s = some v ∧ Reads n W v zs
theorem FitAt.upd {n : Nat} {W W' : World} {bm N : Nat} {m : Asg} {s : Int} {v : Value} {zs : List Int} {M : Int → Option Value} (h1 : ∀ s, m s = none → M s = none) (h2 : ∀ s zs, m s = some zs → ∃ v, M s = some v ∧ Reads n W v zs)
    (h3 : IntMap W' bm N (upd M s v)) (hB : Below n W W') (hv : Reads n W v zs) : FitAt n W' bm N (upd m s zs) := by
  refine ⟨_, h3, fun x hx => ?_, fun x ys hx => ?_⟩
  · by_cases e : x = s
    · subst e; rw [upd_same] at hx; cases hx
    · rw [upd_other _ _ e] at hx ⊢; exact h1 x hx
  · by_cases e : x = s
    · subst e; rw [upd_same] at hx; cases hx; exact ⟨v, upd_same _ _ _, hv.below hB⟩
    · rw [upd_other _ _ e] at hx
      obtain ⟨u, hu, hr⟩ := h2 x ys hx
      exact ⟨u, by rw [upd_other _ _ e]; exact hu, hr.below hB⟩

/-- What comes: what has been found for the first k variables; all others become themselves. -/
def Tm.fitL (m : Asg) (k : Nat) : List (List Int) := (List.range 8).map fun i : Nat => if i < k then (m (-1 - (i : Int))).getD [-1 - (i : Int)] else [-1 - (i : Int)]
def Tm.fitErr (p t : List Int) : Int := Tm.firstErr [p, t]
def Tm.fitIs (p t : List Int) : Bool := if Tm.fitErr p t = 0 then (Tm.fit p t).isSome else false
def Tm.fitOut : Option Asg → List (List Int)
  | some m => Tm.fitL m 8
  | none => []
def Tm.fitVal (p t : List Int) : List (List Int) := if Tm.fitErr p t = 0 then Tm.fitOut (Tm.fit p t) else []
end Go.Proofs.Ytbelnlemjcoifaa

namespace Go.Proofs.Ytbelnlemjcoifaa
open Go.Proofs Go.RowKit Go.Shelf Go.Maps

/-- What fit answers. -/
def FitAns (w w' : World) (e : Ending) : Option Asg → Prop
  | none => e = .returned (.tuple #[.map none, .bool false])
  | some m => ∃ bm N, e = .returned (.tuple #[.map (some bm), .bool true]) ∧ w.heap.size ≤ bm ∧ FitAt w.heap.size w' bm N m

end Go.Proofs.Ytbelnlemjcoifaa

namespace Go.Proofs.Ytbelnlemjcoifaa
open Go.Proofs Go.RowKit Go.Shelf Go.Maps

end Go.Proofs.Ytbelnlemjcoifaa

namespace Go.Proofs.Ytbelnlemjcoifaa
open Go.Proofs Go.RowKit Go.Shelf Go.Maps

abbrev ptr (X : Nat) : Value := .pointer (some ⟨X, 0, none⟩)
/-- v is a slice of the pointers to Xs, its cells in blocks from lo to hi. -/
def PartsAt (lo hi : Nat) (W : World) (v : Value) (Xs : List Nat) : Prop := ∃ a c, v = .slice a Xs.length c ∧ ∀ j, j < Xs.length → ∃ b off, a = some ⟨b, off, none⟩ ∧ lo ≤ b ∧ b < hi ∧ W.cell? ⟨b, off + j, none⟩ = some (ptr (Xs[j]?.getD 0))
/-- BLOCK X IS A TREE, all of it in blocks from lo to hi, whose signs are zs. -/
inductive TreeIn (lo hi : Nat) (W : World) : Nat → List Int → Prop
  | mk (X : Nat) (s : Int) (v : Value) (Xs : List Nat) (zss : List (List Int)) : lo ≤ X → X < hi → Node W X s v → PartsAt lo hi W v Xs → Xs.length = Tm.room s → zss.length = Xs.length →
      (∀ j, j < Xs.length → TreeIn lo hi W (Xs[j]?.getD 0) (zss[j]?.getD [])) → TreeIn lo hi W X (s :: zss.flatten)

theorem PartsAt.keep {lo hi lo' hi' : Nat} {W W' : World} {v : Value} {Xs : List Nat} (h : PartsAt lo hi W v Xs) (h1 : lo' ≤ lo) (h2 : hi ≤ hi') (hk : ∀ k, lo ≤ k → k < hi → W'.heap[k]? = W.heap[k]?) : PartsAt lo' hi' W' v Xs := by
  obtain ⟨a, c, rfl, hc⟩ := h
  refine ⟨a, c, rfl, fun j hj => ?_⟩
  obtain ⟨b, off, e, hb1, hb2, hcell⟩ := hc j hj
  exact ⟨b, off, e, by omega, by omega, (World.cell?_of_block (a := ⟨b, off + j, none⟩) (hk b hb1 hb2)).trans hcell⟩
theorem TreeIn.keep {lo hi lo' hi' : Nat} {W W' : World} {X : Nat} {zs : List Int} (h : TreeIn lo hi W X zs) (h1 : lo' ≤ lo) (h2 : hi ≤ hi') (hk : ∀ k, lo ≤ k → k < hi → W'.heap[k]? = W.heap[k]?) : TreeIn lo' hi' W' X zs := by
  induction h with
  | mk X s v Xs zss hX1 hX2 hN hP hr hl _ ih =>
    exact TreeIn.mk X s v Xs zss (by omega) (by omega) ((hk X hX1 hX2).trans hN) (hP.keep h1 h2 hk) hr hl ih
theorem TreeIn.under {lo hi n : Nat} {W W' : World} {X : Nat} {zs : List Int} (h : TreeIn lo hi W X zs) (hB : Below n W W') (hn : hi ≤ n) : TreeIn lo hi W' X zs :=
  h.keep (Nat.le_refl _) (Nat.le_refl _) fun k _ hk => hB.block k (by omega)
theorem TreeIn.wide {lo hi lo' hi' : Nat} {W : World} {X : Nat} {zs : List Int} (h : TreeIn lo hi W X zs) (h1 : lo' ≤ lo) (h2 : hi ≤ hi') : TreeIn lo' hi' W X zs := h.keep h1 h2 fun _ _ _ => rfl

/-- The first m parts, one behind the other. -/
theorem Tm.parts_flat {zs : List Int} {m : Nat} (hm : Tm.pos zs 0 (m + 1) ≤ zs.length) : (zs.take (Tm.pos zs 0 (m + 1))).drop 1 = (zs.take (Tm.pos zs 0 m)).drop 1 ++ (zs.drop (Tm.pos zs 0 m)).take (Tm.pos zs 0 (m + 1) - Tm.pos zs 0 m) := by
  have h1 := Tm.pos_mono zs 0 m (m + 1) (by omega)
  have h0 : 1 ≤ Tm.pos zs 0 m := Tm.pos_gt zs 0 m
  rw [show zs.take (Tm.pos zs 0 (m + 1)) = zs.take (Tm.pos zs 0 m) ++ (zs.drop (Tm.pos zs 0 m)).take (Tm.pos zs 0 (m + 1) - Tm.pos zs 0 m) from by
    rw [← List.take_add]; congr 1; omega]
  rw [List.drop_append_of_le_length]
  simp only [List.length_take]
  omega

/-- The state of grown's loop: m parts are there. -/
def GrownSt (base : Nat) (wr : World) (zs : List Int) (m : Nat) (v : Value) (xs : List Value) : Prop :=
  ∃ (Xs : List Nat) (zss : List (List Int)), Xs.length = m ∧ zss.length = m ∧ xs = Xs.map ptr ∧ zss.flatten = (zs.take (Tm.pos zs 0 m)).drop 1 ∧
    ∀ j, j < m → ∃ lo hi, base < lo ∧ hi ≤ wr.heap.size ∧ TreeIn lo hi wr (Xs[j]?.getD 0) (zss[j]?.getD []) ∧ ∀ k, v.ownBlock = some k → k < lo ∨ hi ≤ k
theorem GrownSt.start (base : Nat) (wr : World) (zs : List Int) (v : Value) (xs : List Value) (h : xs = []) : GrownSt base wr zs 0 v xs :=
  ⟨[], [], rfl, rfl, by rw [h]; rfl, by rw [Tm.pos_zero]; simp, fun j hj => by omega⟩
/-- One part more: made between sizes lo and hi; then appended. -/
theorem GrownSt.step {base lo hi : Nat} {wr w2 w3 : World} {zs pt : List Int} {m : Nat} {v v' : Value} {xs : List Value} {p : Nat} (h : GrownSt base wr zs m v xs) (hlo : lo = wr.heap.size) (hb : base < lo) (hlo2 : lo ≤ hi) (hB1 : ∀ k, k < lo → w2.heap[k]? = wr.heap[k]?)
    (hT : TreeIn lo hi w2 p pt) (hown : ∀ k, v.ownBlock = some k → k < lo) (hown' : v'.ownBlock = v.ownBlock ∨ ∃ q, v'.ownBlock = some q ∧ hi ≤ q) (hs3 : hi ≤ w3.heap.size)
    (hk : ∀ k, base < k → k < hi → (∀ q, v.ownBlock = some q → k ≠ q) → w3.heap[k]? = w2.heap[k]?)
    (hpt : pt = (zs.drop (Tm.pos zs 0 m)).take (Tm.pos zs 0 (m + 1) - Tm.pos zs 0 m)) (hle : Tm.pos zs 0 (m + 1) ≤ zs.length) : GrownSt base w3 zs (m + 1) v' (xs ++ [ptr p]) := by
  obtain ⟨Xs, zss, h1, h2, h3, h4, h5⟩ := h
  refine ⟨Xs ++ [p], zss ++ [pt], by simp [h1], by simp [h2], by simp [h3], by rw [List.flatten_append, h4, Tm.parts_flat hle, hpt]; simp, fun j hj => ?_⟩
  by_cases hjm : j < m
  · obtain ⟨l, h, e1, e2, hTj, e3⟩ := h5 j hjm
    refine ⟨l, h, e1, by omega, ?_, ?_⟩
    · rw [List.getElem?_append_left (by omega), List.getElem?_append_left (by omega)]
      refine hTj.keep (Nat.le_refl _) (Nat.le_refl _) fun k hk1 hk2 => ?_
      rw [hk k (by omega) (by omega) (fun q hq => by have := e3 q hq; omega), hB1 k (by omega)]
    · intro k hk'
      rcases hown' with e | ⟨q, e, hq⟩
      · exact e3 k (by rw [← e]; exact hk')
      · rw [e] at hk'
        have : q = k := by simpa using hk'
        exact .inr (by omega)
  · obtain rfl : j = m := by omega
    refine ⟨lo, hi, hb, hs3, ?_, ?_⟩
    · rw [List.getElem?_append_right (by omega), List.getElem?_append_right (by omega), h1, h2]
      simp only [Nat.sub_self, List.getElem?_cons_zero, Option.getD_some]
      refine hT.keep (Nat.le_refl _) (Nat.le_refl _) fun k hk1 hk2 => hk k (by omega) hk2 (fun q hq => by have := hown q hq; omega)
    · intro k hk'
      rcases hown' with e | ⟨q, e, hq⟩
      · exact .inl (hown k (by rw [← e]; exact hk'))
      · rw [e] at hk'
        have : q = k := by simpa using hk'
        exact .inr (by omega)
/-- All parts are there. -/
theorem GrownSt.done {base r : Nat} {wr : World} {zs : List Int} {s : Int} {v : Value} {xs : List Value} (h : GrownSt base wr zs r v xs) (hN : Node wr base s v) (hown : wr.ownsRow (base + 1) 80 1 v r xs) (hr : r = Tm.room s) (hs : zs[0]?.getD 0 = s) (h0 : 0 < zs.length) :
    TreeIn base wr.heap.size wr base (zs.take (Tm.pos zs 0 r)) := by
  obtain ⟨Xs, zss, h1, h2, h3, h4, h5⟩ := h
  have hz : zs.take (Tm.pos zs 0 r) = s :: zss.flatten := by
    rw [h4]
    have hp : 0 < Tm.pos zs 0 r := Tm.pos_gt zs 0 r
    cases zs with
    | nil => simp at h0
    | cons a l =>
      simp at hs
      subst hs
      obtain ⟨q, hq⟩ : ∃ q, Tm.pos (a :: l) 0 r = q + 1 := ⟨Tm.pos (a :: l) 0 r - 1, by omega⟩
      rw [hq]
      simp
  rw [hz]
  refine TreeIn.mk base s v Xs zss (Nat.le_refl _) hN.lt hN ?_ (by omega) (by omega) (fun j hj => ?_)
  · rcases hown.2 with ⟨rfl, hn⟩ | ⟨g, cap, cur, rfl, hb, hg, _⟩
    · exact ⟨none, 0, by rw [h1, hn], fun j hj => by omega⟩
    · refine ⟨_, cap, by rw [h1], fun j hj => ⟨g, 0, rfl, by omega, (Array.getElem?_eq_some_iff.1 hg).1, ?_⟩⟩
      have h5 := World.ownsRow.cellAt hown j (by omega)
      rw [Nat.zero_add, h5, h3]
      simp [hj]
  · obtain ⟨lo, hi, e1, e2, hT, _⟩ := h5 j (by omega)
    exact hT.wide (by omega) e2

end Go.Proofs.Ytbelnlemjcoifaa

namespace Go.Proofs.Ytbelnlemjcoifaa
open Go.Proofs Go.RowKit Go.Shelf Go.Maps

end Go.Proofs.Ytbelnlemjcoifaa

namespace Go.Proofs.Ytbelnlemjcoifaa
open Go.Proofs Go.RowKit Go.Shelf Go.Maps

end Go.Proofs.Ytbelnlemjcoifaa

namespace Go.Proofs.Ytbelnlemjcoifaa
open Go.Proofs Go.RowKit Go.Shelf Go.Maps

theorem Tm.run_flatten (zss : List (List Int)) : (∀ j, j < zss.length → Tm.run (zss[j]?.getD []) 1 = (zss[j]?.getD []).length) → Tm.run zss.flatten zss.length = zss.flatten.length := by
  induction zss with
  | nil => intro _; simp [Tm.run_zero]
  | cons t l ih =>
    intro h
    have h0 : Tm.run t 1 = t.length := by simpa using h 0 (by simp)
    have hl := ih (fun j hj => by simpa using h (j + 1) (by simpa using hj))
    rw [List.length_cons, Nat.add_comm, Tm.run_add, List.flatten_cons, Tm.run_app t _ 1 (by omega), h0, List.drop_left, hl, List.length_append]
theorem TreeIn.run {lo hi : Nat} {W : World} {X : Nat} {zs : List Int} (h : TreeIn lo hi W X zs) : Tm.run zs 1 = zs.length := by
  induction h with
  | mk X s v Xs zss _ _ _ _ hr hl _ ih =>
    rw [show (1 : Nat) = 0 + 1 from rfl, Tm.run_cons, Nat.zero_add, ← hr, ← hl, Tm.run_flatten zss (fun j hj => ih j (by omega)), List.length_cons]
    omega

theorem Tm.endAt_mid {pre t post : List Int} {k : Nat} (hk : k ≤ t.length) (he : Tm.endAt t k ≤ t.length) : Tm.endAt (pre ++ (t ++ post)) (pre.length + k) = pre.length + Tm.endAt t k := by
  unfold Tm.endAt at he ⊢
  rw [List.drop_append, List.drop_of_length_le (by omega), List.nil_append, Nat.add_sub_cancel_left, List.drop_append_of_le_length hk, Tm.run_app _ _ _ (by rw [List.length_drop]; omega)]
  omega
theorem Tm.part_mid {pre t post : List Int} {k : Nat} (hk : k ≤ t.length) (he : Tm.endAt t k ≤ t.length) : Tm.part (pre ++ (t ++ post)) (pre.length + k) = Tm.part t k := by
  unfold Tm.part
  rw [Tm.endAt_mid hk he, List.drop_append, List.drop_of_length_le (by omega), List.nil_append, Nat.add_sub_cancel_left, List.drop_append_of_le_length hk, show pre.length + Tm.endAt t k - (pre.length + k) = Tm.endAt t k - k from by omega,
    List.take_append_of_le_length (by rw [List.length_drop]; omega)]
theorem Against.fin {p t : List Int} {k : Nat} (h : Against p t p.length k) : k = t.length := by
  obtain ⟨o, h1, h2, h3, h4⟩ := h
  rw [List.drop_length, Tm.run_nil] at h1
  have : o = 0 := by omega
  subst this
  rw [Tm.run_zero] at h2
  omega
/-- What the array of trees says. -/
def FitS (W : World) (Bs lo hi : Nat) (m : Asg) : Prop := ∀ v : Nat, v < 8 → W.frozen? ⟨Bs, v, none⟩ = false ∧
  ((m (-1 - (v : Int)) = none ∧ W.cell? ⟨Bs, v, none⟩ = some (.pointer none)) ∨ ∃ zs X, m (-1 - (v : Int)) = some zs ∧ W.cell? ⟨Bs, v, none⟩ = some (ptr X) ∧ TreeIn lo hi W X zs ∧ zs.length ≤ 30)
theorem FitS.keep {W W' : World} {Bs lo hi n : Nat} {m : Asg} (h : FitS W Bs lo hi m) (hB : Below n W W') (h1 : Bs < n) (h2 : hi ≤ n) : FitS W' Bs lo hi m := fun v hv => by
  obtain ⟨hf, hc⟩ := h v hv
  refine ⟨by rw [← hf]; simp only [World.frozen?, hB.block Bs h1], ?_⟩
  rcases hc with ⟨e1, e2⟩ | ⟨zs, X, e1, e2, hT, e3⟩
  · exact .inl ⟨e1, (hB.cell (p := ⟨Bs, v, none⟩) h1).trans e2⟩
  · exact .inr ⟨zs, X, e1, (hB.cell (p := ⟨Bs, v, none⟩) h1).trans e2, hT.under hB h2, e3⟩
theorem frozen_setCell' (W : World) (a b : Addr) (v : Value) : (W.setCell a v).frozen? b = W.frozen? b := World.frozen?_setCell ..
theorem FitS.set {W : World} {Bs lo hi T v : Nat} {m : Asg} {ts : List Int} (h : FitS W Bs lo hi m) (hv : v < 8) (hlo : Bs < lo) (hT : TreeIn lo hi W T ts) (ht : ts.length ≤ 30) :
    FitS (W.setCell ⟨Bs, v, none⟩ (ptr T)) Bs lo hi (upd m (-1 - (v : Int)) ts) := fun x hx => by
  have hk : ∀ k, lo ≤ k → k < hi → (W.setCell ⟨Bs, v, none⟩ (ptr T)).heap[k]? = W.heap[k]? := fun k h1 _ => Below.heap_setCell _ _ _ k (by simp; omega)
  obtain ⟨hf, hc⟩ := h x hx
  refine ⟨by rw [frozen_setCell']; exact hf, ?_⟩
  by_cases e : x = v
  · subst e
    refine .inr ⟨ts, T, upd_same _ _ _, World.cell?_setCell_same' _ _ _ ?_, hT.keep (Nat.le_refl _) (Nat.le_refl _) hk, ht⟩
    rcases hc with ⟨_, e2⟩ | ⟨_, _, _, e2, _⟩ <;> rw [e2] <;> rfl
  · have hne : (-1 - (x : Int)) ≠ (-1 - (v : Int)) := by omega
    have hcc : (W.setCell ⟨Bs, v, none⟩ (ptr T)).cell? ⟨Bs, x, none⟩ = W.cell? ⟨Bs, x, none⟩ := World.cell?_setCell_other _ _ _ _ (fun h => e (by cases h; rfl))
    rw [upd_other _ _ hne, hcc]
    rcases hc with ⟨e1, e2⟩ | ⟨zs, X, e1, e2, hT', e3⟩
    · exact .inl ⟨e1, e2⟩
    · exact .inr ⟨zs, X, e1, e2, hT'.keep (Nat.le_refl _) (Nat.le_refl _) hk, e3⟩

end Go.Proofs.Ytbelnlemjcoifaa

namespace Go.Proofs.Ytbelnlemjcoifaa
open Go.Proofs Go.RowKit Go.Shelf Go.Maps

/-- What fit answers. -/
def RefFit (w' : World) (e : Ending) (Bs lo hi : Nat) : Option Asg → Prop
  | none => e = .returned (.bool false)
  | some m => e = .returned (.bool true) ∧ FitS w' Bs lo hi m

theorem Keep.cell {n m : Nat} {a b : World} (h : Keep n m a b) {p : Addr} (h1 : p.block < n) (h2 : p.block ≠ m) : b.cell? p = a.cell? p := World.cell?_of_block (h.block p.block h1 h2)
theorem keep_drewN {n m : Nat} {a b : World} (h : Keep n m a b) (d : Nat) : Keep n m a (b.drewN d) := ⟨h.os, h.tape, h.output, h.size, h.block⟩

theorem TreeIn.open {lo hi : Nat} {W : World} {X : Nat} {zs : List Int} (h : TreeIn lo hi W X zs) : ∃ (s : Int) (a : Option Addr) (c : Nat) (Xs : List Nat) (zss : List (List Int)), zs = s :: zss.flatten ∧ lo ≤ X ∧ X < hi ∧ Node W X s (.slice a Xs.length c) ∧ Xs.length = Tm.room s ∧ zss.length = Xs.length ∧
    (∀ j, j < Xs.length → ∃ b off, a = some ⟨b, off, none⟩ ∧ lo ≤ b ∧ b < hi ∧ W.cell? ⟨b, off + j, none⟩ = some (ptr (Xs[j]?.getD 0))) ∧ ∀ j, j < Xs.length → TreeIn lo hi W (Xs[j]?.getD 0) (zss[j]?.getD []) := by
  cases h with
  | mk X s v Xs zss h1 h2 h3 h4 h5 h6 h7 =>
    obtain ⟨a, c, rfl, h8⟩ := h4
    exact ⟨s, a, c, Xs, zss, rfl, h1, h2, h3, h5, h6, h8, h7⟩

end Go.Proofs.Ytbelnlemjcoifaa

namespace Go.Proofs.Ytbelnlemjcoifaa
open Go.Proofs Go.RowKit Go.Shelf Go.Maps

abbrev noTrees : Obj := .cells #[.pointer none, .pointer none, .pointer none, .pointer none, .pointer none, .pointer none, .pointer none, .pointer none] 87
theorem FitS.start (w : World) (lo hi : Nat) : FitS (w.alloc noTrees) w.heap.size lo hi (fun _ => none) := fun v hv => by
  have hnew := World.alloc_heap_new w noTrees
  refine ⟨by simp only [World.frozen?]; rw [hnew]; simp, .inl ⟨rfl, (cell_at hnew v).trans ?_⟩⟩
  match v, hv with
  | 0, _ => rfl
  | 1, _ => rfl
  | 2, _ => rfl
  | 3, _ => rfl
  | 4, _ => rfl
  | 5, _ => rfl
  | 6, _ => rfl
  | 7, _ => rfl

end Go.Proofs.Ytbelnlemjcoifaa

namespace Go.Proofs.Ytbelnlemjcoifaa
open Go.Proofs Go.RowKit Go.Shelf Go.Maps

attribute [local go_sem] Oper.semAt_some

/-- A place of zs. -/
abbrev PlaceOf (zs : List Int) : Type := { k : Nat // k < zs.length }
def encPlace (zs : List Int) (x : PlaceOf zs) : Array Value := #[.int .i64 (x.1 : Int), .int .i64 (Tm.endAt zs x.1 : Int)]
/-- The first m places. -/
def placesTo (zs : List Int) : Nat → List (PlaceOf zs)
  | 0 => []
  | m + 1 => if h : m < zs.length then placesTo zs m ++ [⟨m, h⟩] else placesTo zs m
end Go.Proofs.Ytbelnlemjcoifaa
