/-
  Slices of slices in new memory; haspref.SameSubs. · sub.None, haspref.NoneOf, hasplaw.some; sub.After, haspref.AfterOf. · hasplaw.some; sub.After, haspref.AfterOf. · sub.After, haspref.AfterOf. · haspref.AfterOf. · PLAIN MATHEMATICS: variables made plain in the order in which they first stand; and the map that keeps them. · signs.Plain's function literal; signs.Change by it. · signs.Plain of one term, sub.Plain. · haspref.plain, PlainOf: the variables that have been seen lie in a slice. · haspref.plain, PlainOf. · haspref.PlainOf; hasplaw.subBegun: it answers true. · From the frame's word on a slice of slices of ints that came in to ours. · MAPS FROM ints, WHATEVER THEY HOLD: block b of the world is the map m : Int → Option Value. · PLAIN MATHEMATICS: what is put at a place is part of what comes there; put back it is the term it was.
-/
import Derived.Test.YtgeknojpcjadkaaBjs2
import Derived.Maps.OwnSet
import Derived.Maps.OwnOps
import Derived.Maps.OwnIn
namespace Go.Proofs.Ytgeknojpcjadkaa
open Go.Proofs Go.RowKit Go.Shelf

set_option maxRecDepth 100000 in
set_option maxHeartbeats 1000000 in
/-- haspref.SameTerms: it only reads. -/
theorem same_quiet (xs ys : List Int) (a b : Option Addr) (ca cb n : Nat) (w : World) (hX : Ints n w a xs) (hY : Ints n w b ys) (hm : xs.length ≤ maxLen) :
    Calls Try.prog 24 #[.slice a xs.length ca, .slice b ys.length cb] w fun e w' => e = .returned (.bool (sameB xs ys)) ∧ ∃ m, w' = w.drewN m := by
  unfold maxLen at hm
  by_cases hl : xs.length = ys.length
  · have hne : ((xs.length : Int) != (ys.length : Int)) = false := by simp [hl]
    have Hl : Hid (xs.length = ys.length) := hl
    clear hl
    go_enter Try.func24, Try.ntmps24
    go_wp2
    go_loopw [5] (fun i wr => ∃ k d : Nat, k ≤ xs.length ∧ i = .int .i64 (k : Int) ∧ Hid (xs.take k = ys.take k) ∧ wr = w.drewN d) (fun i _ => xs.length - (intOf i).toNat)
    case atStart => exact ⟨0, 0, Nat.zero_le _, rfl, by simp [Hid], rfl⟩
    case round =>
      obtain ⟨k, d, hk, rfl, hsame, rfl⟩ := hrel
      by_cases hlt : k < xs.length
      · have hlt' : (k : Int) < (xs.length : Int) := by omega
        have hly : k < ys.length := by have := Hl.out; omega
        have hly' : (k : Int) < (ys.length : Int) := by omega
        obtain ⟨b1, off1, rfl, hb1, hc1⟩ := hX.at (by omega)
        obtain ⟨b2, off2, rfl, hb2, hc2⟩ := hY.at (by omega)
        have hx := hc1 k hlt
        have hy := hc2 k hly
        have hst := hid (@same_step xs ys k hlt hly hsame.out)
        have hno := hid (@same_not xs ys k)
        clear hc1 hc2 hX hY hly
        generalize xs[k]?.getD 0 = s at *
        generalize ys[k]?.getD 0 = u at *
        by_cases he : s = u
        · have hn : (s != u) = false := by simp [he]
          have He : Hid (s = u) := he
          clear he hno
          go_wp2
          go_quiet (fail)
          go_wp2
          go_roundw
          case rel => exact ⟨k + 1, _, by omega, by go_num, hst.out He.out, rfl⟩
          case measure => simp [intOf]; omega
        · have hn : (s != u) = true := by simp [he]
          have hf := hid (hno.out he)
          clear he hno hst
          go_wp2
          go_quiet (fail)
          go_wp2
          go_ret
          exact ⟨by rw [hf.out]; rfl, _, by rw [World.drewN_drewN]⟩
      · obtain rfl : k = xs.length := by omega
        have hy := hid (same_yes hsame.out Hl.out)
        clear hX hY
        go_wp2
        go_ret
        exact ⟨by rw [hy.out]; rfl, _, rfl⟩
  · have hne : ((xs.length : Int) != (ys.length : Int)) = true := by simp; omega
    rw [same_len hl]
    clear hl hX hY
    go_enter Try.func24, Try.ntmps24
    go_wp2
    go_ret
    exact ⟨rfl, 0, rfl⟩

theorem Try.info37 : (Try.prog.info? 37).map (fun i => (i.zero, i.size, i.bytes)) = some (some (.slice none 0 0), 1, 24) := by kernel_rfl

/-- v IS A SLICE OF SLICES IN NEW MEMORY, which are in new memory too: it holds ss. -/
def NewS (base : Nat) (W : World) (v : Value) (ss : List (List Int)) : Prop :=
  ∃ us : List Value, W.ownsRow base 37 1 v ss.length us ∧ ∀ j, j < ss.length → ∃ u, us[j]? = some u ∧ New base W u (ss[j]?.getD [])
theorem NewS.nil (base : Nat) (W : World) : NewS base W (.slice none 0 0) [] := ⟨[], World.ownsRow_nil _ _ _ _, fun j hj => by simp at hj⟩
theorem New.apart {base : Nat} {W : World} {u v : Value} {t : List Int} {n : Nat} {us : List Value} (hu : New base W u t) (hv : W.ownsRow base 37 1 v n us) : u.ownBlock = none ∨ u.ownBlock ≠ v.ownBlock := by
  rcases hu.2 with ⟨rfl, _⟩ | ⟨g, cap, cur, rfl, _, hg, _⟩
  · exact .inl rfl
  · rcases hv.2 with ⟨rfl, _⟩ | ⟨g', cap', cur', rfl, _, hg', _⟩
    · exact .inr (by simp [Value.ownBlock])
    · refine .inr fun e => ?_
      have e' : g = g' := by simpa [Value.ownBlock] using e
      subst e'
      rw [hg] at hg'
      simp at hg'
theorem NewS.below {base : Nat} {W W' : World} {v : Value} {ss : List (List Int)} (h : NewS base W v ss) (hB : Below W.heap.size W W') : NewS base W' v ss := by
  obtain ⟨us, h1, h2⟩ := h
  refine ⟨us, World.ownsRow.kept h1 (grown_of_below hB) (by cases h : v.ownBlock with | none => exact .inl rfl | some k => exact .inr (by simp)), fun j hj => ?_⟩
  obtain ⟨u, hu, hN⟩ := h2 j hj
  exact ⟨u, hu, hN.below hB⟩
theorem NewS.mono {base base' : Nat} {W : World} {v : Value} {ss : List (List Int)} (h : NewS base W v ss) (hb : base' ≤ base) : NewS base' W v ss := by
  obtain ⟨us, h1, h2⟩ := h
  refine ⟨us, ⟨h1.1, h1.2.elim .inl (fun ⟨g, cap, cur, e1, e2, e3⟩ => .inr ⟨g, cap, cur, e1, Nat.le_trans hb e2, e3⟩)⟩, fun j hj => ?_⟩
  obtain ⟨u, hu, hN⟩ := h2 j hj
  exact ⟨u, hu, hN.mono hb⟩
theorem NewS.subs {base : Nat} {W : World} {v : Value} {ss : List (List Int)} (h : NewS base W v ss) : ∃ a cap, v = .slice a ss.length cap ∧ Subs W.heap.size W a ss ∧ ss.length ≤ cap ∧ cap ≤ maxLen ∧ (a = none → cap = 0) := by
  obtain ⟨us, h1, h2⟩ := h
  rcases h1.2 with ⟨rfl, hn⟩ | ⟨g, cap, cur, rfl, hb, hg, e1, e2, e3, e4⟩
  · exact ⟨none, 0, by rw [hn], fun j hj => by omega, by omega, by omega, fun _ => rfl⟩
  · refine ⟨_, _, rfl, fun j hj => ?_, e1, e2, fun e => by cases e⟩
    obtain ⟨u, hu, hN⟩ := h2 j hj
    have h5 := World.ownsRow.cellAt h1 j (by omega)
    obtain ⟨aj, cj, rfl, hI, q1, q2⟩ := New.ints hN
    refine ⟨g, 0, aj, cj, rfl, (Array.getElem?_eq_some_iff.1 hg).1, ?_, hI, q1, q2, fun e => ?_⟩
    · rw [Nat.zero_add, h5, hu]
    · subst e
      rcases hN.2 with ⟨e, _⟩ | ⟨_, _, _, e, _⟩
      · simp only [Value.slice.injEq] at e; exact e.2.2
      · simp at e

/-- 'append(s, x)' of one list, onto what the call itself made. -/
theorem wp_append_sub {ops : Array Oper} {rest : List Oper} {o : Oper} {a : Act} {Q : Exit → Act → World → Prop} (w : World) (hgd : o.guard = none) (s x : Operand)
    (ho : o.op = .call { callee := .builtin .append, args := #[s, x], argTypes := #[58, 58] }) (base : Nat) (v : Value) (ss : List (List Int)) (hs : a.eval s = v) (hN : NewS base w v ss)
    (u : Value) (t : List Int) (B : Nat) (hx : a.eval x = .slice (some ⟨B, 0, none⟩) 1 1) (hB : w.cell? ⟨B, 0, none⟩ = some u) (hu : New base w u t) (hlen : ss.length ≤ 1000000) (hbase : base ≤ w.heap.size)
    (h : ∀ v' w', NewS base w' v' (ss ++ [t]) → Below base w w' → wpList Try.prog ops Q rest (a.put o.dst v') w') : wpList Try.prog ops Q (o :: rest) a w := by
  obtain ⟨i0, hi, hz0, hz1, hz2⟩ := info_parts Try.info37
  obtain ⟨us, h1, h2⟩ := hN
  have hul : us.length = ss.length := by have := h1.1; omega
  refine wpList_append_own w hgd s x 58 ho base 37 i0 (.slice none 0 0) 1 24 Try.underlying58 hi hz0 hz1 hz2 rfl (by decide) v ss.length us hs h1 ⟨B, 0, none⟩ 1 1 [u] hx (by simp)
    (by intro j z hj
        match j, hj with
        | 0, hj => simp at hj; subst hj; rw [Go.WideShapes.add_plain]; simpa using hB)
    (by intro z hz; simp at hz; subst hz; obtain ⟨_, _, rfl, _⟩ := New.ints hu; rfl) (by unfold maxLen; omega) (by omega) hbase ?_
  intro v' w' hown hg _
  have hkeep : ∀ (u' : Value) (t' : List Int), New base w u' t' → New base w' u' t' := fun u' t' hN' => World.ownsRow.kept hN' hg (New.apart hN' h1)
  refine h v' w' ⟨us ++ [u], by simpa using hown, fun j hj => ?_⟩ ((Below.refl base w).grown hg hbase (fun k e => (World.ownsRow.lt h1 k e).1))
  by_cases hjl : j < ss.length
  · obtain ⟨u', hu', hN'⟩ := h2 j hjl
    refine ⟨u', by rw [List.getElem?_append_left (by omega)]; exact hu', ?_⟩
    rw [List.getElem?_append_left hjl]
    exact hkeep u' _ hN'
  · have hje : j = ss.length := by simp at hj; omega
    subst hje
    refine ⟨u, by rw [List.getElem?_append_right (by omega), hul]; simp, ?_⟩
    rw [List.getElem?_append_right (by omega)]
    simpa using hkeep u t hu

def sameSB (xs ys : List (List Int)) : Bool := decide (xs = ys)
theorem sameS_len {xs ys : List (List Int)} (h : xs.length ≠ ys.length) : sameSB xs ys = false := by
  simp only [sameSB, decide_eq_false_iff_not]
  rintro rfl
  exact h rfl
theorem takeS_snoc {zs : List (List Int)} {k : Nat} (h : k < zs.length) : zs.take (k + 1) = zs.take k ++ [zs[k]?.getD []] := by
  rw [List.take_succ_eq_append_getElem h]; simp [h]
theorem sameS_step {xs ys : List (List Int)} {k : Nat} (hx : k < xs.length) (hy : k < ys.length) (h : xs.take k = ys.take k) (he : sameB (xs[k]?.getD []) (ys[k]?.getD []) = true) : xs.take (k + 1) = ys.take (k + 1) := by
  simp only [sameB, decide_eq_true_eq] at he
  rw [takeS_snoc hx, takeS_snoc hy, h, he]
theorem sameS_not {xs ys : List (List Int)} {k : Nat} (he : sameB (xs[k]?.getD []) (ys[k]?.getD []) = false) : sameSB xs ys = false := by
  simp only [sameB, decide_eq_false_iff_not] at he
  simp only [sameSB, decide_eq_false_iff_not]
  rintro rfl
  exact he rfl
theorem sameS_yes {xs ys : List (List Int)} (h : xs.take xs.length = ys.take xs.length) (hl : xs.length = ys.length) : sameSB xs ys = true := by
  simp only [sameSB, decide_eq_true_eq]
  rw [List.take_length, hl, List.take_length] at h
  exact h

set_option maxRecDepth 100000 in
set_option maxHeartbeats 1000000 in
/-- haspref.SameSubs: of lists whose terms are short. -/
theorem sameSubs_any (xs ys : List (List Int)) (a b : Option Addr) (ca cb : Nat) (w : World) (hX : Subs w.heap.size w a xs) (hY : Subs w.heap.size w b ys) (hm : xs.length ≤ 1000) :
    Calls Try.prog 80 #[.slice a xs.length ca, .slice b ys.length cb] w fun e w' => e = .returned (.bool (sameSB xs ys)) ∧ Below w.heap.size w w' := by
  by_cases hl : xs.length = ys.length
  · have hne : ((xs.length : Int) != (ys.length : Int)) = false := by simp [hl]
    have hxm : (xs.length : Int) ≤ 1000 := by omega
    have Hl : Hid (xs.length = ys.length) := hl
    have HX := hid hX
    have HY := hid hY
    clear hl hX hY
    go_enter Try.func80, Try.ntmps80
    go_wp2
    go_loopw [5] (fun i wr => ∃ k : Nat, k ≤ xs.length ∧ i = .int .i64 (k : Int) ∧ Hid (xs.take k = ys.take k) ∧ Below w.heap.size w wr) (fun i _ => xs.length - (intOf i).toNat)
    case atStart => exact ⟨0, Nat.zero_le _, rfl, by simp [Hid], Below.refl _ _⟩
    case round =>
      obtain ⟨k, hk, rfl, hsame, hB⟩ := hrel
      by_cases hlt : k < xs.length
      · have hlt' : (k : Int) < (xs.length : Int) := by omega
        have hly : k < ys.length := by have := Hl.out; omega
        have hly' : (k : Int) < (ys.length : Int) := by omega
        obtain ⟨b1, off1, rfl, hb1, hc1⟩ := (HX.out.below hB).at (by omega)
        obtain ⟨b2, off2, rfl, hb2, hc2⟩ := (HY.out.below hB).at (by omega)
        obtain ⟨ax, cx, hx, hIx, qx, qx2, _⟩ := hc1 k hlt
        obtain ⟨ay, cy, hy, hIy, _⟩ := hc2 k hly
        have hst := hid (@sameS_step xs ys k hlt hly hsame.out)
        have hno := hid (@sameS_not xs ys k)
        have hS : ∀ n : Nat, Calls Try.prog 24 #[.slice ax (xs[k]?.getD []).length cx, .slice ay (ys[k]?.getD []).length cy] (wr.drewN n) fun e w' => e = .returned (.bool (sameB (xs[k]?.getD []) (ys[k]?.getD []))) ∧ ∃ m, w' = (wr.drewN n).drewN m :=
          fun n => same_quiet _ _ ax ay cx cy w.heap.size (wr.drewN n) hIx hIy (by omega)
        have HS := hid hS
        clear hc1 hc2 hly hIx hIy qx qx2 hS
        generalize xs[k]?.getD [] = s at *
        generalize ys[k]?.getD [] = u at *
        cases hsb : sameB s u with
        | true =>
          have hst' := hid (hst.out hsb)
          rw [hsb] at HS
          clear hst hno hsb
          go_wp2
          go_quiet ((go_at_call 24; exact Calls.quiet_of (HS.out _)))
          go_wp2
          go_roundw
          case rel => exact ⟨k + 1, by omega, by go_num, hst'.out, below_drewN hB _⟩
          case measure => simp [intOf]; omega
        | false =>
          have hf := hid (hno.out hsb)
          rw [hsb] at HS
          clear hst hno hsb
          go_wp2
          go_quiet ((go_at_call 24; exact Calls.quiet_of (HS.out _)))
          go_wp2
          go_ret
          exact ⟨by rw [hf.out]; rfl, below_drewN hB _⟩
      · obtain rfl : k = xs.length := by omega
        have hy := hid (sameS_yes hsame.out Hl.out)
        go_wp2
        go_ret
        exact ⟨by rw [hy.out]; rfl, hB⟩
  · have hne : ((xs.length : Int) != (ys.length : Int)) = true := by simp; omega
    rw [sameS_len hl]
    clear hl hX hY
    go_enter Try.func80, Try.ntmps80
    go_wp2
    go_ret
    exact ⟨rfl, Below.refl _ _⟩

end Go.Proofs.Ytgeknojpcjadkaa

namespace Go.Proofs.Ytgeknojpcjadkaa
open Go.Proofs Go.RowKit Go.Shelf

/-- The first k variables, each itself. -/
def Tm.noneL (k : Nat) : List (List Int) := (List.range k).map fun i : Nat => [-1 - (i : Int)]
theorem Tm.noneL_succ (k : Nat) : Tm.noneL (k + 1) = Tm.noneL k ++ [[-1 - (k : Int)]] := by simp [Tm.noneL, List.range_succ]
theorem Tm.noneL_length (k : Nat) : (Tm.noneL k).length = k := by simp [Tm.noneL]

theorem NewS.alloc {base : Nat} {W : World} {v : Value} {ss : List (List Int)} (h : NewS base W v ss) (o : Obj) : NewS base (W.alloc o) v ss := h.below ((Below.refl _ _).alloc (Nat.le_refl _) _)
theorem New.alloc {base : Nat} {W : World} {v : Value} {zs : List Int} (h : New base W v zs) (o : Obj) : New base (W.alloc o) v zs := h.below ((Below.refl _ _).alloc (Nat.le_refl _) _)
theorem cell_new (W : World) (v : Value) (t : TypeId) (n : Nat) (hn : n = W.heap.size) : (W.alloc (.cells #[v] t)).cell? ⟨n, 0, none⟩ = some v := by
  subst hn
  rw [cell_at (World.alloc_heap_new W _)]
  rfl

set_option maxRecDepth 100000 in
set_option maxHeartbeats 400000 in
/-- sub.None. -/
theorem none_any (w : World) : Calls Try.prog 93 #[] w fun e w' => ∃ v, e = .returned v ∧ NewS w.heap.size w' v (Tm.noneL 8) ∧ Below w.heap.size w w' := by
  go_enter Try.func93, Try.ntmps93
  go_wp2
  go_loopw [1, 3] (fun v i wr => ∃ k : Nat, k ≤ 8 ∧ i = .int .i64 (k : Int) ∧ NewS w.heap.size wr v (Tm.noneL k) ∧ Below w.heap.size w wr) (fun _ i _ => 8 - (intOf i).toNat)
  case atStart => exact ⟨0, Nat.zero_le _, rfl, NewS.nil _ _, Below.refl _ _⟩
  case round =>
    obtain ⟨k, hk, rfl, hN, hB⟩ := hrel
    by_cases hlt : k < 8
    · have hlt' : (k : Int) < 8 := by omega
      have hsn := hid (Tm.noneL_succ k)
      have Hln := hid (Tm.noneL_length k)
      obtain ⟨a0, c0, rfl, _⟩ := NewS.subs hN
      have hu := New.lit w.heap.size wr [-1 - (k : Int)] hB.size (by unfold maxLen; simp)
      simp only [List.map_cons, List.map_nil, List.length_cons, List.length_nil, Nat.zero_add] at hu
      have hA : Below w.heap.size w (((wr.alloc (.cells #[.int .i64 (-1 - (k : Int))] 3)).alloc (.cells #[.slice (some ⟨wr.heap.size, 0, none⟩) 1 1] 37))) := (hB.alloc hB.size _).alloc (by have := hB.size; simp; omega) _
      have hN2 := (hN.alloc (.cells #[.int .i64 (-1 - (k : Int))] 3)).alloc (.cells #[.slice (some ⟨wr.heap.size, 0, none⟩) 1 1] 37)
      have hu2 := hu.alloc (.cells #[.slice (some ⟨wr.heap.size, 0, none⟩) 1 1] 37)
      have hcn := cell_new (wr.alloc (.cells #[.int .i64 (-1 - (k : Int))] 3)) (.slice (some ⟨wr.heap.size, 0, none⟩) 1 1) 37 (wr.heap.size + 1) (by simp)
      have HN2 := hid hN2
      have Hu2 := hid hu2
      have Hcn := hid hcn
      clear hu hN2 hu2 hcn
      go_wp2_with (at_builtin; go_loud (refine wp_append_sub _ rfl _ _ rfl w.heap.size _ (Tm.noneL k) rfl HN2.out (.slice (some ⟨wr.heap.size, 0, none⟩) 1 1) [-1 - (k : Int)] (wr.heap.size + 1) rfl Hcn.out Hu2.out (by rw [Hln.out]; omega) hA.size ?_); intro v' w2 hN3 hB3; obtain ⟨a2, c2, rfl, _⟩ := NewS.subs hN3)
      go_roundw
      case rel => exact ⟨k + 1, by omega, by go_num, by rw [hsn.out]; simpa using hN3, hA.trans hB3⟩
      case measure => simp [intOf]; omega
    · obtain rfl : k = 8 := by omega
      obtain ⟨a2, c2, rfl, _⟩ := NewS.subs hN
      go_wp2
      go_ret
      exact ⟨_, rfl, hN, hB⟩

set_option maxRecDepth 100000 in
set_option maxHeartbeats 400000 in
/-- haspref.NoneOf. -/
theorem noneOf_any (w : World) : Calls Try.prog 109 #[] w fun e w' => ∃ v, e = .returned v ∧ NewS w.heap.size w' v (Tm.noneL 8) ∧ Below w.heap.size w w' := by
  go_enter Try.func109, Try.ntmps109
  go_wp2
  go_loopw [1, 2] (fun v i wr => ∃ k : Nat, k ≤ 8 ∧ i = .int .i64 ((k : Int) + 1) ∧ NewS w.heap.size wr v (Tm.noneL k) ∧ Below w.heap.size w wr) (fun _ i _ => 9 - (intOf i).toNat)
  case atStart => exact ⟨0, Nat.zero_le _, rfl, NewS.nil _ _, Below.refl _ _⟩
  case round =>
    obtain ⟨k, hk, rfl, hN, hB⟩ := hrel
    by_cases hlt : k < 8
    · have hlt' : (k : Int) + 1 ≤ 8 := by omega
      have hsn : Hid (Tm.noneL (k + 1) = Tm.noneL k ++ [[-((k : Int) + 1)]]) := by
        show _ = _
        rw [Tm.noneL_succ, show (-1 : Int) - (k : Int) = -((k : Int) + 1) from by omega]
      have Hln := hid (Tm.noneL_length k)
      obtain ⟨a0, c0, rfl, _⟩ := NewS.subs hN
      have hu := New.lit w.heap.size wr [-((k : Int) + 1)] hB.size (by unfold maxLen; simp)
      simp only [List.map_cons, List.map_nil, List.length_cons, List.length_nil, Nat.zero_add] at hu
      have hA : Below w.heap.size w (((wr.alloc (.cells #[.int .i64 (-((k : Int) + 1))] 3)).alloc (.cells #[.slice (some ⟨wr.heap.size, 0, none⟩) 1 1] 37))) := (hB.alloc hB.size _).alloc (by have := hB.size; simp; omega) _
      have HN2 := hid ((hN.alloc (.cells #[.int .i64 (-((k : Int) + 1))] 3)).alloc (.cells #[.slice (some ⟨wr.heap.size, 0, none⟩) 1 1] 37))
      have Hu2 := hid (hu.alloc (.cells #[.slice (some ⟨wr.heap.size, 0, none⟩) 1 1] 37))
      have Hcn := hid (cell_new (wr.alloc (.cells #[.int .i64 (-((k : Int) + 1))] 3)) (.slice (some ⟨wr.heap.size, 0, none⟩) 1 1) 37 (wr.heap.size + 1) (by simp))
      clear hu
      go_wp2_with (at_builtin; go_loud (refine wp_append_sub _ rfl _ _ rfl w.heap.size _ (Tm.noneL k) rfl HN2.out (.slice (some ⟨wr.heap.size, 0, none⟩) 1 1) [-((k : Int) + 1)] (wr.heap.size + 1) rfl Hcn.out Hu2.out (by rw [Hln.out]; omega) hA.size ?_); intro v' w2 hN3 hB3; obtain ⟨a2, c2, rfl, _⟩ := NewS.subs hN3)
      go_roundw
      case rel => exact ⟨k + 1, by omega, by go_num, by rw [hsn.out]; simpa using hN3, hA.trans hB3⟩
      case measure => simp [intOf]; omega
    · obtain rfl : k = 8 := by omega
      obtain ⟨a2, c2, rfl, _⟩ := NewS.subs hN
      go_wp2
      go_ret
      exact ⟨_, rfl, hN, hB⟩

/-- One of the lists is stored anew. -/
theorem NewS.set {base : Nat} {W : World} {g c n : Nat} {ss : List (List Int)} (h : NewS base W (.slice (some ⟨g, 0, none⟩) n c) ss) (hn : n = ss.length) {u : Value} {t : List Int} (hu : New base W u t) (j : Nat) :
    NewS base (W.setCell ⟨g, j, none⟩ u) (.slice (some ⟨g, 0, none⟩) n c) (ss.set j t) := by
  subst hn
  obtain ⟨us, h1, h2⟩ := h
  have hul : us.length = ss.length := by have := h1.1; omega
  have hkeep : ∀ (u' : Value) (t' : List Int), New base W u' t' → New base (W.setCell ⟨g, j, none⟩ u) u' t' := fun u' t' hN' => World.ownsRow.kept hN' (grownBy_setCell1 W g j u) (by
    have := New.apart hN' h1
    simpa [Value.ownBlock] using this)
  refine ⟨us.set j u, ?_, fun i hi => ?_⟩
  · have := World.ownsRow.stored h1 j u
    rw [List.length_set]
    exact this.1
  · rw [List.length_set] at hi
    by_cases e : i = j
    · subst e
      refine ⟨u, by simp [hul, hi], ?_⟩
      simpa [hi] using hkeep u t hu
    · obtain ⟨u', hu', hN'⟩ := h2 i hi
      have e' : ¬ j = i := fun h => e h.symm
      refine ⟨u', by rw [List.getElem?_set_ne e']; exact hu', ?_⟩
      rw [List.getElem?_set_ne e']
      exact hkeep u' _ hN'

end Go.Proofs.Ytgeknojpcjadkaa

namespace Go.Proofs.Ytgeknojpcjadkaa
open Go.Proofs Go.RowKit Go.Shelf

def Tm.someL : List (List Int) := [[2, -2], [-1], [-3], [-4], [-5], [-6], [-7], [-8]]
theorem Tm.someL_eq : ((Tm.noneL 8).set 0 [2, -2]).set 1 [-1] = Tm.someL := by decide

end Go.Proofs.Ytgeknojpcjadkaa

namespace Go.Proofs.Ytgeknojpcjadkaa
open Go.Proofs Go.RowKit Go.Shelf

/-- Is what t becomes small enough? -/
def Tm.fits (us : List (List Int)) (t : List Int) : Bool := decide ((Tm.applied us t).length ≤ 30)
def Tm.afterL (ss us : List (List Int)) : List (List Int) := ss.map (Tm.applied us)
def Tm.afterErr (ss us : List (List Int)) : Int := if Tm.subErr ss = 0 then (if Tm.subErr us = 0 then (if ss.all (Tm.fits us) = true then 0 else 2) else Tm.subErr us) else Tm.subErr ss
def Tm.afterVal (ss us : List (List Int)) : List (List Int) := if Tm.afterErr ss us = 0 then Tm.afterL ss us else []
theorem Tm.after_s {ss us : List (List Int)} (h : Tm.subErr ss ≠ 0) : Tm.afterErr ss us = Tm.subErr ss ∧ Tm.afterVal ss us = [] := by
  have h1 : Tm.afterErr ss us = Tm.subErr ss := by unfold Tm.afterErr; rw [if_neg h]
  exact ⟨h1, by unfold Tm.afterVal; rw [h1, if_neg h]⟩
theorem Tm.after_u {ss us : List (List Int)} (hs : Tm.subErr ss = 0) (h : Tm.subErr us ≠ 0) : Tm.afterErr ss us = Tm.subErr us ∧ Tm.afterVal ss us = [] := by
  have h1 : Tm.afterErr ss us = Tm.subErr us := by unfold Tm.afterErr; rw [if_pos hs, if_neg h]
  exact ⟨h1, by unfold Tm.afterVal; rw [h1, if_neg h]⟩
theorem Tm.after_big {ss us : List (List Int)} (hs : Tm.subErr ss = 0) (hu : Tm.subErr us = 0) {k : Nat} (hk : k < ss.length) (h : Tm.fits us (ss[k]?.getD []) = false) : Tm.afterErr ss us = 2 ∧ Tm.afterVal ss us = [] := by
  have ha : ¬ ss.all (Tm.fits us) = true := by
    rw [List.all_eq_true]
    intro hall
    have := hall ss[k] (List.getElem_mem hk)
    simp only [hk, List.getElem?_eq_getElem, Option.getD_some] at h
    rw [h] at this
    cases this
  have h1 : Tm.afterErr ss us = 2 := by unfold Tm.afterErr; rw [if_pos hs, if_pos hu, if_neg ha]
  exact ⟨h1, by unfold Tm.afterVal; rw [h1, if_neg (by decide)]⟩
theorem Tm.after_ok {ss us : List (List Int)} (hs : Tm.subErr ss = 0) (hu : Tm.subErr us = 0) (h : ss.all (Tm.fits us) = true) : Tm.afterErr ss us = 0 ∧ Tm.afterVal ss us = Tm.afterL ss us := by
  have h1 : Tm.afterErr ss us = 0 := by unfold Tm.afterErr; rw [if_pos hs, if_pos hu, if_pos h]
  exact ⟨h1, by unfold Tm.afterVal; rw [h1, if_pos rfl]⟩
theorem Tm.fits_snoc {ss us : List (List Int)} {k : Nat} (hk : k < ss.length) (h : (ss.take k).all (Tm.fits us) = true) (hf : Tm.fits us (ss[k]?.getD []) = true) : (ss.take (k + 1)).all (Tm.fits us) = true := by
  rw [takeS_snoc hk, List.all_append, h]
  simp [hf]
theorem Tm.afterL_snoc {ss us : List (List Int)} {k : Nat} (hk : k < ss.length) : Tm.afterL (ss.take (k + 1)) us = Tm.afterL (ss.take k) us ++ [Tm.applied us (ss[k]?.getD [])] := by
  rw [takeS_snoc hk]
  simp [Tm.afterL]
theorem Tm.afterL_length {ss us : List (List Int)} : (Tm.afterL ss us).length = ss.length := by simp [Tm.afterL]

end Go.Proofs.Ytgeknojpcjadkaa

namespace Go.Proofs.Ytgeknojpcjadkaa
open Go.Proofs Go.RowKit Go.Shelf

end Go.Proofs.Ytgeknojpcjadkaa

namespace Go.Proofs.Ytgeknojpcjadkaa
open Go.Proofs Go.RowKit Go.Shelf Go.Maps

def Tm.idx (seen : List Int) (s : Int) : Nat := seen.findIdx (fun x => x == s)
def Tm.see (seen : List Int) (s : Int) : List Int := if s < 0 then (if seen.contains s = true then seen else seen ++ [s]) else seen
def Tm.name (seen : List Int) (s : Int) : Int := if s < 0 then -1 - (Tm.idx seen s : Int) else s
def Tm.seenFrom (seen : List Int) (l : List Int) : List Int := l.foldl Tm.see seen
/-- The first k signs of t made plain, where 'seen' have been seen. -/
def Tm.plainTo (seen : List Int) (t : List Int) (k : Nat) : List Int := (List.range k).map fun i : Nat => Tm.name (Tm.seenFrom seen (t.take i)) (t[i]?.getD 0)

theorem Tm.plainTo_succ (seen t : List Int) (k : Nat) : Tm.plainTo seen t (k + 1) = Tm.plainTo seen t k ++ [Tm.name (Tm.seenFrom seen (t.take k)) (t[k]?.getD 0)] := by simp [Tm.plainTo, List.range_succ]
theorem Tm.plainTo_length (seen t : List Int) (k : Nat) : (Tm.plainTo seen t k).length = k := by simp [Tm.plainTo]
theorem Tm.seen_succ (seen : List Int) {t : List Int} {k : Nat} (h : k < t.length) : Tm.seenFrom seen (t.take (k + 1)) = Tm.see (Tm.seenFrom seen (t.take k)) (t[k]?.getD 0) := by
  rw [take_snoc h]
  simp [Tm.seenFrom, List.foldl_append]
theorem Tm.idx_le (seen : List Int) (s : Int) : Tm.idx seen s ≤ seen.length := List.findIdx_le_length
theorem Tm.idx_new {seen : List Int} {s : Int} (h : seen.contains s = false) : Tm.idx seen s = seen.length := by
  unfold Tm.idx
  rw [List.findIdx_eq_length]
  intro x hx
  have : ¬ s ∈ seen := by simpa using h
  simp only [beq_eq_false_iff_ne]
  rintro rfl
  exact this hx
theorem Tm.idx_app {seen : List Int} {s : Int} (h : seen.contains s = true) (r : List Int) : Tm.idx (seen ++ r) s = Tm.idx seen s := by
  unfold Tm.idx
  rw [List.findIdx_append, if_pos]
  rw [List.findIdx_lt_length]
  exact ⟨s, by simpa using h, by simp⟩
theorem Tm.see_len (seen : List Int) (s : Int) : (Tm.see seen s).length ≤ seen.length + 1 := by
  unfold Tm.see
  split
  · split
    · omega
    · simp
  · omega
theorem Tm.seen_len (t : List Int) : ∀ seen : List Int, (Tm.seenFrom seen t).length ≤ seen.length + t.length := by
  induction t with
  | nil => intro seen; simp [Tm.seenFrom]
  | cons s l ih =>
    intro seen
    have h1 := ih (Tm.see seen s)
    have h2 := Tm.see_len seen s
    simp only [Tm.seenFrom, List.foldl_cons, List.length_cons] at h1 ⊢
    omega

/-- THE MAP D KEEPS the variables that have been seen, each with its new name. -/
structure MapIs (seen : List Int) (D : DataW Unit) : Prop where
  has : ∀ s : Int, Maps.has D (.int .i64 s) = seen.contains s
  at_ : ∀ s : Int, seen.contains s = true → D.atKey (.int .i64 s) (.lit (.int .i64 0)) = .lit (.int .i64 (-1 - (Tm.idx seen s : Int)))
  size : Maps.size D = seen.length

theorem MapIs.empty : MapIs [] (.map []) := ⟨fun _ => rfl, fun s h => by simp at h, rfl⟩
theorem MapIs.put {seen : List Int} {D : DataW Unit} (h : MapIs seen D) (hT : Tidy D) {s : Int} (hs : seen.contains s = false) :
    MapIs (seen ++ [s]) (D.put (.int .i64 s) (.lit (.int .i64 (-1 - (seen.length : Int))))) := by
  have hk : WideAt.IsKeyLit (.int .i64 s) := trivial
  have hh : Maps.has D (.int .i64 s) = false := by rw [h.has, hs]
  have hne : ¬ s ∈ seen := by simpa using hs
  refine ⟨fun x => ?_, fun x hx => ?_, ?_⟩
  · by_cases e : x = s
    · subst e
      rw [has_put_same hT.isMap hk]
      simp
    · rw [has_put_other (by simp [e]), h.has]
      simp [e]
  · by_cases e : x = s
    · subst e
      rw [atKey_put_same hT.isMap hk]
      have : Tm.idx (seen ++ [x]) x = seen.length := by
        unfold Tm.idx
        rw [List.findIdx_append, if_neg]
        · simp
        · rw [List.findIdx_lt_length]
          rintro ⟨y, hy, e⟩
          have : y = x := by simpa using e
          subst this
          exact hne hy
      rw [this]
    · rw [atKey_put_other (by simp [e])]
      have hx' : seen.contains x = true := by simpa [e] using hx
      rw [Tm.idx_app hx']
      exact h.at_ x hx'
  · rw [size_put hT, hh, h.size]
    simp

/-- Block Bf is the box of the map 'fresh', block Bm the map: it keeps 'seen'. -/
def FreshAt (W : World) (Bf Bm : Nat) (seen : List Int) : Prop :=
  W.cell? ⟨Bf, 0, none⟩ = some (.map (some Bm)) ∧ ∃ D : DataW Unit, W.ownsMap Try.prog 3 (plainElem Try.prog 3) Bm seen.length D ∧ MapIs seen D
theorem FreshAt.keep {W W' : World} {Bf Bm : Nat} {seen : List Int} (h : FreshAt W Bf Bm seen) (h1 : W'.heap[Bf]? = W.heap[Bf]?) (h2 : W'.heap[Bm]? = W.heap[Bm]?) : FreshAt W' Bf Bm seen := by
  obtain ⟨hc, D, ⟨es, clock, hb, r⟩, hM⟩ := h
  exact ⟨(World.cell?_of_block (a := ⟨Bf, 0, none⟩) h1).trans hc, D, ⟨es, clock, h2.trans hb, r⟩, hM⟩
theorem FreshAt.map {W : World} {Bf Bm : Nat} {seen : List Int} (h : FreshAt W Bf Bm seen) : ∃ es clock, W.heap[Bm]? = some (.map es clock) := by
  obtain ⟨_, D, ⟨es, clock, hb, _⟩, _⟩ := h
  exact ⟨es, clock, hb⟩
theorem FreshAt.lt {W : World} {Bf Bm : Nat} {seen : List Int} (h : FreshAt W Bf Bm seen) : Bf < W.heap.size ∧ Bm < W.heap.size := by
  obtain ⟨es, clock, hb⟩ := h.map
  exact ⟨lt_of_cell h.1, (Array.getElem?_eq_some_iff.1 hb).1⟩
theorem ne_map {W : World} {b o Bm : Nat} {v : Value} (hc : W.cell? ⟨b, o, none⟩ = some v) {es : Array (MapEntry)} {clock : Nat} (hm : W.heap[Bm]? = some (.map es clock)) : b ≠ Bm := by
  rintro rfl
  simp [World.cell?, hm] at hc

/-- w' is w below block n, but for block m. -/
structure Keep (n m : Nat) (w w' : World) : Prop where
  os : w'.os = w.os
  tape : w'.tape = w.tape
  output : w'.output = w.output
  size : w.heap.size ≤ w'.heap.size
  block : ∀ k, k < n → k ≠ m → w'.heap[k]? = w.heap[k]?
theorem Keep.refl (n m : Nat) (w : World) : Keep n m w w := ⟨rfl, rfl, rfl, Nat.le_refl _, fun _ _ _ => rfl⟩
theorem Keep.trans {n m : Nat} {a b c : World} (h : Keep n m a b) (k : Keep n m b c) : Keep n m a c :=
  ⟨k.os.trans h.os, k.tape.trans h.tape, k.output.trans h.output, Nat.le_trans h.size k.size, fun i hi hm => (k.block i hi hm).trans (h.block i hi hm)⟩
theorem Keep.of_below {n m : Nat} {a b : World} (h : Below n a b) : Keep n m a b := ⟨h.os, h.tape, h.output, h.size, fun k hk _ => h.block k hk⟩
theorem Keep.of_grown {n m : Nat} {a b : World} (h : a.grownBy b (some m)) (hn : n ≤ a.heap.size) : Keep n m a b :=
  ⟨h.os, h.tape, h.output, h.size, fun k hk hm => h.block k (by omega) (by simpa using hm)⟩
theorem Keep.mono {n n' m : Nat} {a b : World} (h : Keep n m a b) (hn : n' ≤ n) : Keep n' m a b := ⟨h.os, h.tape, h.output, h.size, fun k hk hm => h.block k (by omega) hm⟩
theorem Keep.below {n m : Nat} {a b : World} (h : Keep n m a b) (hm : n ≤ m) : Below n a b := ⟨h.os, h.tape, h.output, h.size, fun k hk => h.block k hk (by omega)⟩

end Go.Proofs.Ytgeknojpcjadkaa

namespace Go.Proofs.Ytgeknojpcjadkaa
open Go.Proofs Go.RowKit Go.Shelf Go.Maps

theorem lawInt : Keyed Try.prog 3 := int_keyed Try.underlying3
theorem zeroInt (w : World) : (zeroValue 3).run Try.prog w = .ok (.int .i64 0) w := by kernel_rfl
theorem wf64 {s : Int} (h1 : -1000 ≤ s) (h2 : s ≤ 1000) : (Lit.int .i64 s).wf = true := by
  simp [Lit.wf, IntKind.min, IntKind.max, IntKind.signed, IntKind.bits]
  omega

set_option maxRecDepth 100000 in
set_option maxHeartbeats 400000 in
/-- The function literal: of a variable it keeps the new name. -/
theorem rename_any (seen : List Int) (s : Int) (Bf Bm : Nat) (w : World) (h8 : -8 ≤ s) (h6 : s < 6) (hl : seen.length ≤ 500) (hF : FreshAt w Bf Bm seen) :
    Calls Try.prog 144 #[.int .i64 s, .pointer (some ⟨Bf, 0, none⟩)] w fun e w' => ∃ b, e = .returned (.slice (some b) 1 1) ∧ Ints w'.heap.size w' (some b) [Tm.name seen s] ∧ FreshAt w' Bf Bm (Tm.see seen s) ∧ w.grownBy w' (some Bm) := by
  by_cases hs : s < 0
  · have hkey := keyOf_int_mk Try.underlying3 (wf64 (s := s) (by omega) (by omega))
    obtain ⟨hc, D, hown, hM⟩ := hF
    have hh := hM.has s
    cases hct : seen.contains s with
    | true =>
      rw [hct] at hh
      have hat' := hM.at_ s hct
      have hnm : Tm.name seen s = -1 - (Tm.idx seen s : Int) := by unfold Tm.name; rw [if_pos hs]
      have hse : Tm.see seen s = seen := by unfold Tm.see; rw [if_pos hs, if_pos hct]
      rw [hse]
      have Hnm := hid hnm
      have Hat := hid hat'
      have HF : Hid (FreshAt w Bf Bm seen) := ⟨hc, D, hown, hM⟩
      have Hh := hid hh
      clear hnm hat' hse hh hct hM
      go_enter Try.func144, Try.ntmps144
      go_wp2_with (first
        | (at_lookup; go_loud (refine wpList_lookup_own_ok_int _ rfl _ _ 194 rfl 3 3 .i64 lawInt Try.underlying194 Try.underlying3 (zeroInt _) Bm seen.length D rfl hown _ _ rfl hkey ?_); intro c hat hwc; rw [Hh.out]; obtain rfl : -1 - (Tm.idx seen s : Int) = c := (by have := Hat.out.symm.trans hat; simpa using this)))
      go_ret
      have h := ints_lit w [Tm.name seen s] _ rfl
      simp only [List.map_cons, List.map_nil] at h
      rw [Hnm.out] at h ⊢
      exact ⟨_, rfl, by simpa using h, HF.out.keep (Below.heap_alloc _ _ _ HF.out.lt.1) (Below.heap_alloc _ _ _ HF.out.lt.2), World.grownBy_alloc _ _ _⟩
    | false =>
      rw [hct] at hh
      have hnm : Tm.name seen s = -1 - (seen.length : Int) := by unfold Tm.name; rw [if_pos hs, Tm.idx_new hct]
      have hse : Tm.see seen s = seen ++ [s] := by unfold Tm.see; rw [if_pos hs, if_neg (by rw [hct]; decide)]
      rw [hse]
      have Hnm := hid hnm
      have Hh := hid hh
      have Hsz := hid hM.size
      have HM := hid (hM.put (hown.tidy lawInt) hct)
      have hl' : (seen.length : Int) ≤ 500 := by omega
      have hBm := hown.lt
      have hBf : Bf < w.heap.size := lt_of_cell hc
      have hne : Bf ≠ Bm := by
        obtain ⟨es, clock, hb, _⟩ := hown
        exact ne_map hc hb
      have Hne := hid hne
      clear hnm hse hh hct hM hne
      go_enter Try.func144, Try.ntmps144
      go_wp2_with (first
        | (at_lookup; go_loud (refine wpList_lookup_own_ok_int _ rfl _ _ 194 rfl 3 3 .i64 lawInt Try.underlying194 Try.underlying3 (zeroInt _) Bm seen.length D rfl hown _ _ rfl hkey ?_); intro c hat hwc; rw [Hh.out])
        | (at_len; go_loud (refine wpList_len_own _ rfl _ 194 rfl 3 3 Try.underlying194 _ Bm seen.length D rfl hown ?_); rw [Hsz.out])
        | (at_mapUpdate; go_loud (refine wpList_mapUpdate_own _ rfl _ _ _ 194 rfl 3 3 lawInt Try.underlying194 _ Bm seen.length D rfl hown (by unfold maxLen; omega) _ (.int .i64 (-1 - (seen.length : Int))) _ rfl rfl hkey (.lit (.int .i64 (-1 - (seen.length : Int)))) [] (plainElem_int Try.underlying3 (wf64 (by omega) (by omega))) ?_); intro w1 hown1 hgrow1))
      go_ret
      have h := ints_lit w1 [Tm.name seen s] _ rfl
      simp only [List.map_cons, List.map_nil] at h
      rw [Hnm.out] at h ⊢
      have hs1 := hgrow1.size
      refine ⟨_, rfl, by simpa using h, ⟨?_, _, ?_, HM.out⟩, ?_⟩
      · rw [World.cell?_of_block (a := ⟨Bf, 0, none⟩) (Below.heap_alloc w1 _ Bf (by omega)), World.cell?_of_block (a := ⟨Bf, 0, none⟩) (hgrow1.block Bf hBf (by simpa using Hne.out))]
        exact hc
      · rw [List.length_append]
        exact World.ownsMap.alloc hown1 _
      · exact ⟨hgrow1.os, hgrow1.tape, hgrow1.output, by simp; omega, fun k hk hm => (Below.heap_alloc w1 _ k (by omega)).trans (hgrow1.block k hk hm)⟩
  · have hnm : Tm.name seen s = s := by unfold Tm.name; rw [if_neg hs]
    have hse : Tm.see seen s = seen := by unfold Tm.see; rw [if_neg hs]
    rw [hse, hnm]
    have HF := hid hF
    clear hnm hse hF
    go_enter Try.func144, Try.ntmps144
    go_wp2
    go_ret
    have h := ints_lit w [s] _ rfl
    simp only [List.map_cons, List.map_nil] at h
    exact ⟨_, rfl, by simpa using h, HF.out.keep (Below.heap_alloc _ _ _ HF.out.lt.1) (Below.heap_alloc _ _ _ HF.out.lt.2), World.grownBy_alloc _ _ _⟩

set_option maxRecDepth 100000 in
set_option maxHeartbeats 400000 in
/-- signs.Change by it. -/
theorem change_rename (seen : List Int) (t : List Int) (at' : Option Addr) (ct Bf Bm : Nat) (w : World) (ht : t.length ≤ 100) (hl : seen.length ≤ 200) (h8 : ∀ k, k < t.length → -8 ≤ t[k]?.getD 0) (h6 : ∀ k, k < t.length → t[k]?.getD 0 < 6)
    (hF : FreshAt w Bf Bm seen) (hT : Ints w.heap.size w at' t) :
    Calls Try.prog 85 #[.slice at' t.length ct, .func (.func 144) #[] #[.pointer (some ⟨Bf, 0, none⟩)]] w fun e w' =>
      ∃ v, e = .returned v ∧ New w.heap.size w' v (Tm.plainTo seen t t.length) ∧ FreshAt w' Bf Bm (Tm.seenFrom seen t) ∧ Keep w.heap.size Bm w w' := by
  have hlen : (t.length : Int) ≤ 100 := by omega
  obtain ⟨hlf, hlm⟩ := hF.lt
  obtain ⟨es, clock, hmap⟩ := hF.map
  have HF := hid hF
  have HT := hid hT
  have H8 := hid h8
  have H6 := hid h6
  have Hmap := hid hmap
  clear hF hT h8 h6 hmap
  go_enter Try.func85, Try.ntmps85
  go_wp2
  go_loopw [5, 10] (fun v i wr => ∃ k : Nat, k ≤ t.length ∧ i = .int .i64 (k : Int) ∧ New w.heap.size wr v (Tm.plainTo seen t k) ∧ FreshAt wr Bf Bm (Tm.seenFrom seen (t.take k)) ∧ Keep w.heap.size Bm w wr) (fun _ i _ => t.length - (intOf i).toNat)
  case atStart => exact ⟨0, Nat.zero_le _, rfl, New.nil _ _, HF.out, Keep.refl _ _ _⟩
  case round =>
    obtain ⟨k, hk, rfl, hN, hFr, hK⟩ := hrel
    by_cases hlt : k < t.length
    · have hlt' : (k : Int) < (t.length : Int) := by omega
      obtain ⟨b, off, rfl, hb, hc⟩ := HT.out.at (by omega)
      have hck : wr.cell? ⟨b, off + k, none⟩ = some (.int .i64 (t[k]?.getD 0)) := (World.cell?_of_block (a := ⟨b, off + k, none⟩) (hK.block b hb (ne_map (hc k hlt) Hmap.out))).trans (hc k hlt)
      have hsl := Tm.seen_len (t.take k) seen
      rw [List.length_take] at hsl
      have hf := rename_any (Tm.seenFrom seen (t.take k)) (t[k]?.getD 0) Bf Bm wr (H8.out k hlt) (H6.out k hlt) (by omega) hFr
      have hsn := hid (Tm.plainTo_succ seen t k)
      have hsee := hid (Tm.seen_succ seen hlt)
      have Hpl := hid (Tm.plainTo_length seen t k)
      clear hc hsl hFr
      generalize Tm.name (Tm.seenFrom seen (t.take k)) (t[k]?.getD 0) = nm at *
      generalize Tm.see (Tm.seenFrom seen (t.take k)) (t[k]?.getD 0) = seen' at *
      generalize t[k]?.getD 0 = s at *
      generalize Tm.plainTo seen t k = xs at *
      obtain ⟨a0, c0, rfl, _⟩ := New.ints hN
      go_wp2_with (first
        | (go_at_call 144; refine hf.mono ?_; clear hf; rintro e w1 ⟨b1, rfl, hI1, hF1, hg1⟩; have hN1 : New w.heap.size w1 (.slice a0 xs.length c0) xs := World.ownsRow.kept hN hg1 (by cases h : (Value.slice a0 xs.length c0).ownBlock with | none => exact .inl rfl | some q => exact .inr (by have := (World.ownsRow.lt hN q h).1; simp; omega)); have hK1 := hK.trans (Keep.of_grown hg1 hK.size))
        | (at_builtin; go_loud (refine wp_append_ints _ rfl _ _ rfl w.heap.size _ xs rfl hN1 (some b1) [nm] 1 rfl (fun e => by cases e) hI1 (by simp [Hpl.out]; omega) hK1.size ?_); intro v' w2 hN2 hB3; obtain ⟨a2, c2, rfl, _⟩ := New.ints hN2))
      go_roundw
      case rel => exact ⟨k + 1, by omega, by go_num, by rw [hsn.out]; simpa using hN2, by rw [hsee.out]; exact hF1.keep (hB3.block Bf hlf) (hB3.block Bm hlm), hK1.trans (Keep.of_below hB3)⟩
      case measure => simp [intOf]; omega
    · obtain rfl : k = t.length := by omega
      rw [List.take_length] at hFr
      obtain ⟨a2, c2, rfl, _⟩ := New.ints hN
      go_wp2
      go_ret
      exact ⟨_, rfl, hN, hFr, hK⟩

end Go.Proofs.Ytgeknojpcjadkaa

namespace Go.Proofs.Ytgeknojpcjadkaa
open Go.Proofs Go.RowKit Go.Shelf Go.Maps

/-- A term made plain. -/
def Tm.plain (t : List Int) : List Int := Tm.plainTo [] t t.length

set_option maxRecDepth 100000 in
set_option maxHeartbeats 400000 in
/-- signs.Plain, of one term. -/
theorem plain_one (t : List Int) (at' : Option Addr) (ct B : Nat) (w : World) (ht : t.length ≤ 100) (h8 : ∀ k, k < t.length → -8 ≤ t[k]?.getD 0) (h6 : ∀ k, k < t.length → t[k]?.getD 0 < 6)
    (hB : w.cell? ⟨B, 0, none⟩ = some (.slice at' t.length ct)) (hT : Ints w.heap.size w at' t) :
    Calls Try.prog 117 #[.slice (some ⟨B, 0, none⟩) 1 1] w fun e w' => ∃ v, e = .returned v ∧ NewS w.heap.size w' v [Tm.plain t] ∧ Below w.heap.size w w' := by
  have hmf : ∀ (fn : Fn) (first cap : Array Value) (w : World), (Instr.makeFunc fn first cap).run Try.prog w = .ok (.func fn first cap) w := fun _ _ _ _ => rfl
  have hmm := @run_makeMap Try.prog
  have hBl := lt_of_cell hB
  have HT := hid hT
  have HB := hid hB
  clear hT hB
  go_enter Try.func117, Try.ntmps117
  go_wp2
  have hB0 : Below w.heap.size w ((w.alloc (.map #[] 0)).alloc (.cells #[.map (some w.heap.size)] 194)) := ((Below.refl _ _).alloc (Nat.le_refl _) _).alloc (by simp) _
  have hF0 : FreshAt ((w.alloc (.map #[] 0)).alloc (.cells #[.map (some w.heap.size)] 194)) (w.heap.size + 1) w.heap.size [] :=
    ⟨cell_new (w.alloc (.map #[] 0)) (.map (some w.heap.size)) 194 (w.heap.size + 1) (by simp), .map [], (World.ownsMap_made w Try.prog 3 (plainElem Try.prog 3)).alloc _, MapIs.empty⟩
  have hsz : ((w.alloc (.map #[] 0)).alloc (.cells #[.map (some w.heap.size)] 194)).heap.size = w.heap.size + 2 := by simp
  obtain ⟨W0, hW0⟩ : ∃ W0, (w.alloc (.map #[] 0)).alloc (.cells #[.map (some w.heap.size)] 194) = W0 := ⟨_, rfl⟩
  rw [hW0] at hB0 hF0 hsz ⊢
  clear hW0
  have Hsz := hid hsz
  clear hsz
  go_loopw [5, 12] (fun v i wr => (i = .int .i64 0 ∧ v = .slice none 0 0 ∧ wr = W0) ∨ (i = .int .i64 1 ∧ NewS w.heap.size wr v [Tm.plain t] ∧ Below w.heap.size w wr)) (fun _ i _ => 1 - (intOf i).toNat)
  case atStart => exact .inl ⟨rfl, rfl, rfl⟩
  case round =>
    rcases hrel with ⟨rfl, rfl, rfl⟩ | ⟨rfl, hN, hB⟩
    · have hcB := (hB0.cell (p := ⟨B, 0, none⟩) hBl).trans HB.out
      have hC := change_rename [] t at' ct (w.heap.size + 1) w.heap.size wr ht (by simp) h8 h6 hF0 ((HT.out.below hB0).mono hB0.size)
      have Hlen := hid (Tm.plainTo_length [] t t.length)
      have hpd : Tm.plainTo [] t t.length = Tm.plain t := rfl
      rw [hpd] at hC Hlen
      clear h8 h6 hpd
      generalize Tm.plain t = pt at *
      go_wp2_with fail
      refine hC.mono ?_
      rintro e w1 ⟨v, rfl, hN, hF1, hK⟩
      clear hC hF1
      obtain ⟨a1, c1, rfl, _⟩ := New.ints hN
      have hB1 : Below w.heap.size w w1 := hB0.trans ((hK.mono hB0.size).below (Nat.le_refl _))
      have Hu := hid ((hN.mono hB0.size).alloc (.cells #[.slice a1 pt.length c1] 37))
      have Hcn := hid (cell_new w1 (.slice a1 pt.length c1) 37 w1.heap.size rfl)
      have hA : Below w.heap.size w (w1.alloc (.cells #[.slice a1 pt.length c1] 37)) := hB1.alloc hB1.size _
      clear hN hK
      go_wp2_with (at_builtin; go_loud (refine wp_append_sub _ rfl _ _ rfl w.heap.size _ [] rfl (NewS.nil _ _) (.slice a1 pt.length c1) pt w1.heap.size rfl Hcn.out Hu.out (by simp) hA.size ?_); intro v' w5 hN5 hB5; obtain ⟨a5, c5, rfl, _⟩ := NewS.subs hN5)
      go_roundw
      case rel => exact .inr ⟨rfl, hN5, hA.trans hB5⟩
      case measure => simp [intOf]
    · obtain ⟨a5, c5, rfl, _⟩ := NewS.subs hN
      go_wp2
      go_ret
      exact ⟨_, rfl, hN, hB⟩

def Tm.plainVal (t : List Int) : List Int := if Tm.err t = 0 then Tm.plain t else []
theorem Tm.known6 {t : List Int} (h : Tm.err t = 0) : ∀ k, k < t.length → t[k]?.getD 0 < 6 := fun _ hk => Tm.known_lt (Tm.all_at (Tm.err_all h) hk)

end Go.Proofs.Ytgeknojpcjadkaa

namespace Go.Proofs.Ytgeknojpcjadkaa
open Go.Proofs Go.RowKit Go.Shelf Go.Maps

theorem Tm.see_nodup {seen : List Int} (h : seen.Nodup) (s : Int) : (Tm.see seen s).Nodup := by
  unfold Tm.see
  split
  · split
    · exact h
    · rename_i hc
      have : ¬ s ∈ seen := by simpa using hc
      rw [List.nodup_append]
      exact ⟨h, by simp, fun x hx y hy => by simp at hy; subst hy; rintro rfl; exact this hx⟩
  · exact h
theorem Tm.seen_nodup (t : List Int) : ∀ seen : List Int, seen.Nodup → (Tm.seenFrom seen t).Nodup := by
  induction t with
  | nil => intro seen h; exact h
  | cons s l ih => intro seen h; exact ih _ (Tm.see_nodup h s)
theorem Tm.idx_at {seen : List Int} (hn : seen.Nodup) {i : Nat} (hi : i < seen.length) {s : Int} (h : seen[i]?.getD 0 = s) : Tm.idx seen s = i := by
  unfold Tm.idx
  have h' : seen[i] = s := by simpa [hi] using h
  rw [List.findIdx_eq hi]
  refine ⟨by simp [h'], fun j hj => ?_⟩
  simp only [beq_eq_false_iff_ne]
  intro e
  exact (List.pairwise_iff_getElem.1 hn) j i (by omega) hi hj (e.trans h'.symm)
theorem Tm.has_at {seen : List Int} {i : Nat} (hi : i < seen.length) {s : Int} (h : seen[i]?.getD 0 = s) : seen.contains s = true := by
  have h' : seen[i] = s := by simpa [hi] using h
  simp only [List.contains_iff_mem]
  rw [← h']
  exact List.getElem_mem hi
theorem Tm.has_not {seen : List Int} {s : Int} (h : ∀ i, i < seen.length → seen[i]?.getD 0 ≠ s) : seen.contains s = false := by
  rw [Bool.eq_false_iff]
  intro hc
  have hm : s ∈ seen := by simpa using hc
  obtain ⟨i, hi, e⟩ := List.getElem_of_mem hm
  exact h i hi (by simp [hi, e])
/-- The first k signs made plain, the rest as they were. -/
def Tm.half (t : List Int) (k : Nat) : List Int := Tm.plainTo [] t k ++ t.drop k
theorem Tm.half_zero (t : List Int) : Tm.half t 0 = t := by simp [Tm.half, Tm.plainTo]
theorem Tm.half_all (t : List Int) : Tm.half t t.length = Tm.plain t := by simp [Tm.half, Tm.plain]
theorem Tm.half_length {t : List Int} {k : Nat} (h : k ≤ t.length) : (Tm.half t k).length = t.length := by
  simp only [Tm.half, List.length_append, Tm.plainTo_length, List.length_drop]; omega
theorem Tm.half_succ {t : List Int} {k : Nat} (h : k < t.length) : Tm.half t (k + 1) = (Tm.half t k).set k (Tm.name (Tm.seenFrom [] (t.take k)) (t[k]?.getD 0)) := by
  unfold Tm.half
  rw [Tm.plainTo_succ, List.set_append_right _ _ (by rw [Tm.plainTo_length]; exact Nat.le_refl _), Tm.plainTo_length, Nat.sub_self, List.drop_eq_getElem_cons h, List.set_cons_zero, List.append_assoc]
  rfl
theorem Tm.half_same {t : List Int} {k : Nat} (h : k < t.length) (hs : 0 ≤ t[k]?.getD 0) : Tm.half t (k + 1) = Tm.half t k := by
  unfold Tm.half
  have hn : Tm.name (Tm.seenFrom [] (t.take k)) (t[k]?.getD 0) = t[k]?.getD 0 := by unfold Tm.name; rw [if_neg (by omega)]
  rw [Tm.plainTo_succ, hn, List.drop_eq_getElem_cons h]
  simp [h]
theorem Tm.see_same {seen : List Int} {s : Int} (hs : 0 ≤ s) : Tm.see seen s = seen := by unfold Tm.see; rw [if_neg (by omega)]
theorem Tm.see_old {seen : List Int} {s : Int} (h : seen.contains s = true) : Tm.see seen s = seen := by unfold Tm.see; rw [if_pos h]; split <;> rfl
theorem Tm.see_new {seen : List Int} {s : Int} (hs : s < 0) (h : seen.contains s = false) : Tm.see seen s = seen ++ [s] := by unfold Tm.see; rw [if_pos hs, if_neg (by rw [h]; decide)]

/-- One int is stored anew. -/
theorem New.set {base : Nat} {W : World} {g c n : Nat} {zs : List Int} (h : New base W (.slice (some ⟨g, 0, none⟩) n c) zs) (hn : n = zs.length) (j : Nat) (x : Int) :
    New base (W.setCell ⟨g, j, none⟩ (.int .i64 x)) (.slice (some ⟨g, 0, none⟩) n c) (zs.set j x) := by
  subst hn
  have := (World.ownsRow.stored h j (.int .i64 x)).1
  unfold New
  rw [List.length_set, List.map_set]
  exact this

theorem Try.infoInts : Try.prog.underlying 36 = some (.slice 3) := by kernel_rfl

/-- 'append(s, x...)' onto a plain slice of ints that the call itself made. -/
theorem wp_append_int1 {ops : Array Oper} {rest : List Oper} {o : Oper} {a : Act} {Q : Exit → Act → World → Prop} (w : World) (hgd : o.guard = none) (s x : Operand)
    (ho : o.op = .call { callee := .builtin .append, args := #[s, x], argTypes := #[36, 36] }) (base : Nat) (v : Value) (xs : List Int) (hs : a.eval s = v) (hN : New base w v xs)
    (B : Nat) (y : Int) (hx : a.eval x = .slice (some ⟨B, 0, none⟩) 1 1) (hB : w.cell? ⟨B, 0, none⟩ = some (.int .i64 y)) (hlen : xs.length ≤ 1000000) (hbase : base ≤ w.heap.size)
    (h : ∀ v' w', New base w' v' (xs ++ [y]) → w.grownBy w' v.ownBlock → Below base w w' → wpList Try.prog ops Q rest (a.put o.dst v') w') : wpList Try.prog ops Q (o :: rest) a w := by
  obtain ⟨i0, hi, hz0, hz1, hz2⟩ := info_parts Try.info3
  refine wpList_append_own w hgd s x 36 ho base 3 i0 (.int .i64 0) 1 8 Try.infoInts hi hz0 hz1 hz2 rfl (by decide) v xs.length (xs.map (Value.int .i64)) hs hN ⟨B, 0, none⟩ 1 1 [.int .i64 y] hx (by simp)
    (by intro j z hj
        match j, hj with
        | 0, hj => simp at hj; subst hj; rw [Go.WideShapes.add_plain]; simpa using hB)
    (by intro z hz; simp at hz; subst hz; rfl) (by unfold maxLen; omega) (by omega) hbase ?_
  intro v' w' hown hg _
  exact h v' w' (by simpa [New] using hown) hg ((Below.refl base w).grown hg hbase (fun k e => (World.ownsRow.lt hN k e).1))

end Go.Proofs.Ytgeknojpcjadkaa

namespace Go.Proofs.Ytgeknojpcjadkaa
open Go.Proofs Go.RowKit Go.Shelf Go.Maps

theorem New.drewN {base : Nat} {W : World} {v : Value} {zs : List Int} (h : New base W v zs) (d : Nat) : New base (W.drewN d) v zs := h
theorem New.own_lt {base : Nat} {W : World} {g n c : Nat} {zs : List Int} (h : New base W (.slice (some ⟨g, 0, none⟩) n c) zs) : base ≤ g ∧ g < W.heap.size := World.ownsRow.lt h g rfl
theorem New.at0 {base : Nat} {W : World} {v : Value} {zs : List Int} (h : New base W v zs) (h0 : 0 < zs.length) : ∃ g c, v = .slice (some ⟨g, 0, none⟩) zs.length c ∧ (∀ j, j < zs.length → W.cell? ⟨g, j, none⟩ = some (.int .i64 (zs[j]?.getD 0))) ∧ ∀ j, W.frozen? ⟨g, j, none⟩ = false := by
  obtain ⟨m, hm⟩ : ∃ m, zs.length = m + 1 := ⟨zs.length - 1, by omega⟩
  have h' : W.ownsRow base 3 1 v (m + 1) (zs.map (Value.int .i64)) := by rw [← hm]; exact h
  obtain ⟨g, c, rfl⟩ := ownsRow_succ h'
  rw [← hm] at h'
  refine ⟨g, c, by rw [hm], fun j hj => ?_, fun j => ?_⟩
  · have := World.ownsRow.cellAt (by rw [hm] at h'; exact h') j (by omega)
    rw [this]
    simp [hj]
  · exact World.ownsRow.frozenAt (by rw [hm] at h'; exact h') j

/-- haspref.plain, one round: what stands before it and behind it. -/
def PlainSt (w W1 : World) (t : List Int) (g n c k : Nat) (vs : Value) (wr : World) : Prop :=
  New W1.heap.size wr vs (Tm.seenFrom [] (t.take k)) ∧ New w.heap.size wr (.slice (some ⟨g, 0, none⟩) n c) (Tm.half t k) ∧ Below w.heap.size w wr ∧ W1.heap.size ≤ wr.heap.size

theorem PlainSt.same {w W1 : World} {t : List Int} {g n c k : Nat} {vs : Value} {wr : World} (h : PlainSt w W1 t g n c k vs wr) (hk : k < t.length) (hs : 0 ≤ t[k]?.getD 0) : PlainSt w W1 t g n c (k + 1) vs wr := by
  obtain ⟨h1, h2, h3, h4⟩ := h
  refine ⟨?_, ?_, h3, h4⟩
  · rw [Tm.seen_succ [] hk, Tm.see_same hs]; exact h1
  · rw [Tm.half_same hk hs]; exact h2

theorem PlainSt.store {w W1 : World} {t : List Int} {g n c k : Nat} {vs : Value} {wr : World} (hg : g < W1.heap.size) (hn : n = t.length) (hk : k < t.length)
    (h1 : New W1.heap.size wr vs (Tm.seenFrom [] (t.take (k + 1)))) (h2 : New w.heap.size wr (.slice (some ⟨g, 0, none⟩) n c) (Tm.half t k)) (h3 : Below w.heap.size w wr) (h4 : W1.heap.size ≤ wr.heap.size)
    (x : Int) (hx : x = Tm.name (Tm.seenFrom [] (t.take k)) (t[k]?.getD 0)) : PlainSt w W1 t g n c (k + 1) vs (wr.setCell ⟨g, k, none⟩ (.int .i64 x)) := by
  have hgr := grownBy_setCell1 wr g k (.int .i64 x)
  refine ⟨World.ownsRow.kept h1 hgr (.inr fun e => ?_), ?_, h3.setCell (p := ⟨g, k, none⟩) h2.own_lt.1 _, Nat.le_trans h4 hgr.size⟩
  · have := (World.ownsRow.lt h1 g e).1
    omega
  · rw [Tm.half_succ hk, ← hx]
    exact h2.set (by rw [Tm.half_length (by omega)]; exact hn) k x

end Go.Proofs.Ytgeknojpcjadkaa

namespace Go.Proofs.Ytgeknojpcjadkaa
open Go.Proofs Go.RowKit Go.Shelf Go.Maps

theorem Tm.s1 : Tm.applyErr Tm.someL [4, -1, -2] = 0 := by decide +kernel
theorem Tm.s2 : Tm.applyVal Tm.someL [4, -1, -2] = [4, 2, -2, -1] := by decide +kernel
theorem Tm.s3 : Tm.afterErr Tm.someL Tm.someL = 0 := by decide +kernel
theorem Tm.s4 : Tm.afterVal Tm.someL Tm.someL = [[2, -1], [2, -2], [-3], [-4], [-5], [-6], [-7], [-8]] := by decide +kernel
theorem Tm.s5 : Tm.err [4, -5, 4, -2, -5] = 0 := by decide +kernel
theorem Tm.s6 : Tm.plainVal [4, -5, 4, -2, -5] = [4, -1, 4, -2, -1] := by decide +kernel
theorem Tm.s7 : Tm.applyErr [] [4, -1, 2, 0] = 1 := by decide +kernel
theorem Tm.s8 : Tm.applyVal [] [4, -1, 2, 0] = [] := by decide +kernel
theorem Tm.s9 : Tm.subErr (Tm.noneL 8) = 0 := by decide +kernel
theorem Tm.s10 : Tm.someL.length = 8 := rfl

end Go.Proofs.Ytgeknojpcjadkaa

namespace Go.Proofs.Ytgeknojpcjadkaa
open Go.Proofs Go.RowKit Go.Shelf

def TermIn (w : World) (a : Option Addr) (len cap : Nat) : Prop := ∃ zs : List Int, zs.length = len ∧ Ints w.heap.size w a zs ∧ len ≤ cap ∧ cap ≤ maxLen ∧ (a = none → cap = 0)
def SubsIn (w : World) (a : Option Addr) (len cap : Nat) : Prop := ∃ ss : List (List Int), ss.length = len ∧ Subs w.heap.size w a ss ∧ len ≤ cap ∧ cap ≤ maxLen
theorem subsIn_nil (w : World) : SubsIn w none 0 0 := ⟨[], rfl, Subs.nil _ _ _, Nat.le_refl _, Nat.zero_le _⟩

theorem ints_of_cells {w : World} {a : Option Addr} {L C : Nat} {Z : List Int} (h1 : L ≤ C) (h2 : Z.length = C) (h3 : ∀ x, a = some x → ∀ c, c < C → w.cell? (x.add c) = some (.int .i64 (Z.getD c 0))) (h4 : a = none → C = 0) :
    Ints w.heap.size w a (Z.take L) := fun j hj => by
  rw [List.length_take] at hj
  cases a with
  | none => have := h4 rfl; omega
  | some x =>
    have hc := h3 x rfl j (by omega)
    have hsp := World.cell?_spot (h3 x rfl 0 (by omega))
    obtain ⟨b, off, spot⟩ := x
    have hspot : spot = none := by simpa [Addr.add] using hsp
    subst hspot
    rw [Go.WideShapes.add_plain] at hc
    refine ⟨b, off, rfl, by simpa using lt_of_cell hc, ?_⟩
    rw [hc, List.getD_eq_getElem?_getD]
    simp [show j < L from by omega]

theorem subsIn_rows {w : World} {a : Addr} {len cap : Nat} {A : Nat → Option Addr} {L C : Nat → Nat} {Z : Nat → List Int} (h1 : len ≤ cap) (h2 : cap ≤ maxLen)
    (h : ∀ r, r < cap → w.cell? (a.add r) = some (.slice (A r) (L r) (C r)) ∧ L r ≤ C r ∧ C r ≤ maxLen ∧ (Z r).length = C r ∧ (∀ n ∈ Z r, (Lit.int .i64 n).wf = true) ∧ (A r = none → C r = 0) ∧
        ∀ a', A r = some a' → 0 ≤ a'.block ∧ ∀ c, c < C r → w.cell? (a'.add c) = some (.int .i64 ((Z r).getD c 0))) : SubsIn w (some a) len cap := by
  refine ⟨(List.range len).map fun r => (Z r).take (L r), by simp, fun j hj => ?_, h1, h2⟩
  have hj' : j < len := by simpa using hj
  obtain ⟨hc, q1, q2, q3, _, q5, q6⟩ := h j (by omega)
  have hsp := World.cell?_spot (h 0 (by omega)).1
  obtain ⟨b, off, spot⟩ := a
  have hspot : spot = none := by simpa [Addr.add] using hsp
  subst hspot
  rw [Go.WideShapes.add_plain] at hc
  have e : ((List.range len).map fun r => (Z r).take (L r))[j]?.getD [] = (Z j).take (L j) := by simp [hj']
  rw [e]
  have el : ((Z j).take (L j)).length = L j := by rw [List.length_take]; omega
  refine ⟨b, off, A j, C j, rfl, by simpa using lt_of_cell hc, ?_, ints_of_cells q1 q3 (fun x hx => (q6 x hx).2) q5, ?_, q2, q5⟩
  · rw [el]; exact hc
  · rw [el]; exact q1

theorem Tm.applyVal_le (ss : List (List Int)) (t : List Int) : (Tm.applyVal ss t).length ≤ 30 := by
  by_cases hs : Tm.subErr ss = 0
  · by_cases ht : Tm.err t = 0
    · rw [(Tm.apply_ok hs ht).2]
      split
      · simp
      · omega
    · rw [(Tm.apply_t hs ht).2]; simp
  · rw [(Tm.apply_s hs).2]; simp

end Go.Proofs.Ytgeknojpcjadkaa

namespace Go.Proofs.Ytgeknojpcjadkaa
open Go.Proofs Go.RowKit Go.Shelf Go.Maps

/-- An element reads as itself. -/
def heldElem (v : Value) : Option (DataW Value × List MemPlace) := some (.held v, [])

/-- BLOCK b IS THE MAP m, of at most n entries. -/
def IntMap (W : World) (b n : Nat) (m : Int → Option Value) : Prop :=
  ∃ D : DataW Value, W.ownsMap Try.prog 3 heldElem b n D ∧ (∀ k : Int, Maps.has D (.int .i64 k) = (m k).isSome) ∧ ∀ (k : Int) (v : Value), m k = some v → ∀ z, D.atKey (.int .i64 k) z = .held v
def upd {α : Type} (m : Int → Option α) (s : Int) (v : α) : Int → Option α := fun x => if x = s then some v else m x
theorem upd_same {α : Type} (m : Int → Option α) (s : Int) (v : α) : upd m s v s = some v := by simp [upd]
theorem upd_other {α : Type} (m : Int → Option α) {s x : Int} (v : α) (h : x ≠ s) : upd m s v x = m x := by simp [upd, h]

theorem IntMap.made (w : World) : IntMap (w.alloc (.map #[] 0)) w.heap.size 0 (fun _ => none) :=
  ⟨_, World.ownsMap_made w _ _ _, fun _ => rfl, fun _ _ h => by cases h⟩
theorem IntMap.lt {W : World} {b n : Nat} {m : Int → Option Value} (h : IntMap W b n m) : b < W.heap.size := by
  obtain ⟨D, hD, _⟩ := h; exact hD.lt
theorem IntMap.keep {W W' : World} {b n : Nat} {m : Int → Option Value} (h : IntMap W b n m) (hb : W'.heap[b]? = W.heap[b]?) : IntMap W' b n m := by
  obtain ⟨D, ⟨es, clock, hes, r⟩, r2⟩ := h
  exact ⟨D, ⟨es, clock, hb.trans hes, r⟩, r2⟩
theorem IntMap.mono {W : World} {b n n' : Nat} {m : Int → Option Value} (h : IntMap W b n m) (hn : n ≤ n') : IntMap W b n' m := by
  obtain ⟨D, hD, r⟩ := h; exact ⟨D, hD.mono hn, r⟩
theorem IntMap.map {W : World} {b n : Nat} {m : Int → Option Value} (h : IntMap W b n m) : ∃ es clock, W.heap[b]? = some (.map es clock) := by
  obtain ⟨D, ⟨es, clock, hes, r⟩, r2⟩ := h; exact ⟨es, clock, hes⟩

theorem atKey_none {D : DataW Value} {k : Lit} (hD : IsMap D) (h : Maps.has D k = false) (z : DataW Value) : D.atKey k z = z := by
  cases D with
  | map es =>
    simp only [Maps.has, List.any_eq_false] at h
    simp only [DataW.atKey]
    have : es.find? (fun p => p.1.sameKey k) = none := by
      rw [List.find?_eq_none]; intro x hx; simpa using h x hx
    simp [this]
  | _ => simp [IsMap] at hD

theorem IntMap.look {w : World} {b n : Nat} {M : Int → Option Value} (h : IntMap w b n M) {t e : TypeId} (ht : Try.prog.underlying t = some (.map 3 e)) {z : Value} (hz : (zeroValue e).run Try.prog w = .ok z w) {key : Int} (hwf : (Lit.int .i64 key).wf = true) :
    (Instr.lookup t (.map (some b)) (.int .i64 key) true).run Try.prog w = .ok (.tuple #[(M key).getD z, .bool (M key).isSome]) w ∧ (Instr.lookup t (.map (some b)) (.int .i64 key) false).run Try.prog w = .ok ((M key).getD z) w := by
  obtain ⟨D, hD, hh, ha⟩ := h
  have hkey := keyOf_int_mk Try.underlying3 hwf
  have hv : ∀ v, heldElem v = some (D.atKey (.int .i64 key) (.held z), []) → v = (M key).getD z := fun v hv => by
    unfold heldElem at hv
    simp only [Option.some.injEq, Prod.mk.injEq, and_true] at hv
    cases hm : M key with
    | none =>
      rw [atKey_none (hD.tidy lawInt).isMap (by rw [hh, hm]; rfl)] at hv
      simpa using hv
    | some u =>
      rw [ha key u hm] at hv
      simpa using hv
  constructor
  · obtain ⟨v, ps, hrun, hR⟩ := hD.look_ok lawInt ht hz (R := heldElem) (zd := .held z) (zp := []) rfl hkey
    have : ps = [] := by unfold heldElem at hR; simp at hR; exact hR.2
    subst this
    rw [hrun, hv v hR, hh]
  · obtain ⟨v, ps, hrun, hR⟩ := hD.lookup lawInt ht hz (R := heldElem) (zd := .held z) (zp := []) rfl hkey
    have : ps = [] := by unfold heldElem at hR; simp at hR; exact hR.2
    subst this
    rw [hrun, hv v hR]

theorem IntMap.set {w : World} {b n : Nat} {M : Int → Option Value} (h : IntMap w b n M) {t e : TypeId} (ht : Try.prog.underlying t = some (.map 3 e)) (hn : n < maxLen) {key : Int} (hwf : (Lit.int .i64 key).wf = true) (v : Value) :
    ∃ w', (Instr.mapUpdate t (.map (some b)) (.int .i64 key) v).run Try.prog w = .ok () w' ∧ IntMap w' b (n + 1) (upd M key v) ∧ w.grownBy w' (some b) := by
  obtain ⟨D, hD, hh, ha⟩ := h
  have hkey := keyOf_int_mk Try.underlying3 hwf
  obtain ⟨w', hrun, h1, h2⟩ := hD.update (R := heldElem) lawInt ht hn hkey (val := v) (d := .held v) (ps := []) rfl
  have hk : WideAt.IsKeyLit (.int .i64 key) := trivial
  refine ⟨w', hrun, ⟨_, h1, fun x => ?_, fun x u hx z => ?_⟩, h2⟩
  · by_cases e : x = key
    · subst e; rw [has_put_same (hD.tidy lawInt).isMap hk, upd_same]; rfl
    · rw [has_put_other (by simp [e]), upd_other _ _ e, hh]
  · by_cases e : x = key
    · subst e; rw [upd_same] at hx; cases hx; exact atKey_put_same (hD.tidy lawInt).isMap hk _ _
    · rw [upd_other _ _ e] at hx; rw [atKey_put_other (by simp [e])]; exact ha x u hx z

section
variable (w : World) {ops : Array Oper} {rest : List Oper} {o : Oper} {a : Act} {Q : Exit → Act → World → Prop}
theorem wp_look_hit (hg : o.guard = none) (m x : Operand) (t : TypeId) (hop : o.op = Op.lookup t m x true) (e : TypeId) (ht : Try.prog.underlying t = some (.map 3 e)) {z : Value} (hz : (zeroValue e).run Try.prog w = .ok z w) (b n : Nat) (M : Int → Option Value)
    (hm : a.eval m = .map (some b)) (hI : IntMap w b n M) (key : Int) (hx : a.eval x = .int .i64 key) (hwf : (Lit.int .i64 key).wf = true) (v : Value) (hv : M key = some v)
    (hK : wpList Try.prog ops Q rest (a.put o.dst (.tuple #[v, .bool true])) w) : wpList Try.prog ops Q (o :: rest) a w := by
  refine wpList_plain hg fun K' hK' => ?_
  have hrun := (hI.look ht hz hwf).1
  rw [hv] at hrun
  unfold Oper.wp
  simp [execOp, hop, hm, hx, hrun, Result.andThen]
  exact hK' _ _ hK
theorem wp_look_miss (hg : o.guard = none) (m x : Operand) (t : TypeId) (hop : o.op = Op.lookup t m x true) (e : TypeId) (ht : Try.prog.underlying t = some (.map 3 e)) {z : Value} (hz : (zeroValue e).run Try.prog w = .ok z w) (b n : Nat) (M : Int → Option Value)
    (hm : a.eval m = .map (some b)) (hI : IntMap w b n M) (key : Int) (hx : a.eval x = .int .i64 key) (hwf : (Lit.int .i64 key).wf = true) (hv : M key = none)
    (hK : wpList Try.prog ops Q rest (a.put o.dst (.tuple #[z, .bool false])) w) : wpList Try.prog ops Q (o :: rest) a w := by
  refine wpList_plain hg fun K' hK' => ?_
  have hrun := (hI.look ht hz hwf).1
  rw [hv] at hrun
  unfold Oper.wp
  simp [execOp, hop, hm, hx, hrun, Result.andThen]
  exact hK' _ _ hK
theorem wp_mapset (hg : o.guard = none) (m x u : Operand) (t : TypeId) (hop : o.op = Op.mapUpdate t m x u) (e : TypeId) (ht : Try.prog.underlying t = some (.map 3 e)) (b n : Nat) (M : Int → Option Value)
    (hm : a.eval m = .map (some b)) (hI : IntMap w b n M) (hn : n < maxLen) (key : Int) (hx : a.eval x = .int .i64 key) (hwf : (Lit.int .i64 key).wf = true) (v : Value) (hv : a.eval u = v)
    (hK : ∀ w', IntMap w' b (n + 1) (upd M key v) → w.grownBy w' (some b) → wpList Try.prog ops Q rest (a.put o.dst undef) w') : wpList Try.prog ops Q (o :: rest) a w := by
  refine wpList_plain hg fun K' hK' => ?_
  obtain ⟨w', hrun, h1, h2⟩ := hI.set ht hn hwf v
  unfold Oper.wp
  simp [execOp, hop, hm, hx, hv, hrun, Result.andThen]
  exact hK' _ _ (hK w' h1 h2)
end

section
variable {F : Fence} {nF : Nat} (w : World) {ops : Array Oper} {rest : List Oper} {o : Oper} {a : Act} {Q : Exit → Act → World → Prop}
theorem wpi_look (hg : o.guard = none) (m x : Operand) (t : TypeId) (hop : o.op = Op.lookup t m x false) (e : TypeId) (ht : Try.prog.underlying t = some (.map 3 e)) {z : Value} (hz : (zeroValue e).run Try.prog w = .ok z w) (b n : Nat) (M : Int → Option Value)
    (hm : a.eval m = .map (some b)) (hI : IntMap w b n M) (key : Int) (hx : a.eval x = .int .i64 key) (hwf : (Lit.int .i64 key).wf = true) (v : Value) (hv : (M key).getD z = v)
    (hK : wpListIn F nF Try.prog ops Q rest (a.put o.dst v) w) : wpListIn F nF Try.prog ops Q (o :: rest) a w := by
  refine wpListIn_plain hg fun K' hK' => ?_
  have hrun := (hI.look ht hz hwf).2
  rw [hv] at hrun
  unfold Oper.wpIn
  refine ⟨by simp [Oper.about, hop], ?_⟩
  rw [Oper.semAt_plain F _ _ (by rw [hop]; intro c hc'; cases hc')]
  simp [execOp, hop, hm, hx, hrun, Result.andThen]
  exact hK' _ _ hK
theorem wpi_mapset (hg : o.guard = none) (m x u : Operand) (t : TypeId) (hop : o.op = Op.mapUpdate t m x u) (e : TypeId) (ht : Try.prog.underlying t = some (.map 3 e)) (b n : Nat) (M : Int → Option Value)
    (hm : a.eval m = .map (some b)) (hI : IntMap w b n M) (hn : n < maxLen) (key : Int) (hx : a.eval x = .int .i64 key) (hwf : (Lit.int .i64 key).wf = true) (v : Value) (hv : a.eval u = v)
    (hK : ∀ w', IntMap w' b (n + 1) (upd M key v) → w.grownBy w' (some b) → wpListIn F nF Try.prog ops Q rest (a.put o.dst undef) w') : wpListIn F nF Try.prog ops Q (o :: rest) a w := by
  refine wpListIn_plain hg fun K' hK' => ?_
  obtain ⟨w', hrun, h1, h2⟩ := hI.set ht hn hwf v
  unfold Oper.wpIn
  refine ⟨by simp [Oper.about, hop], ?_⟩
  rw [Oper.semAt_plain F _ _ (by rw [hop]; intro c hc'; cases hc')]
  simp [execOp, hop, hm, hx, hv, hrun, Result.andThen]
  exact hK' _ _ (hK w' h1 h2)
end

end Go.Proofs.Ytgeknojpcjadkaa

namespace Go.Proofs.Ytgeknojpcjadkaa
open Go.Proofs Go.RowKit Go.Shelf

theorem Tm.run_app (l : List Int) : ∀ (r : List Int) (n : Nat), Tm.run l n ≤ l.length → Tm.run (l ++ r) n = Tm.run l n := by
  induction l with
  | nil => intro r n h; rw [Tm.run_nil] at h; have : n = 0 := by simpa using h
           subst this; simp [Tm.run_zero]
  | cons s l ih =>
    intro r n h
    cases n with
    | zero => simp [Tm.run_zero]
    | succ n =>
      rw [List.cons_append, Tm.run_cons, Tm.run_cons, ih]
      rw [Tm.run_cons, List.length_cons] at h
      omega
theorem Tm.run_take (l : List Int) : ∀ (n : Nat), Tm.run l n ≤ l.length → Tm.run (l.take (Tm.run l n)) n = Tm.run l n := by
  induction l with
  | nil => intro n h; simp [Tm.run_nil]
  | cons s l ih =>
    intro n h
    cases n with
    | zero => simp [Tm.run_zero]
    | succ n =>
      rw [Tm.run_cons] at h ⊢
      rw [List.length_cons] at h
      rw [show 1 + Tm.run l (n + Tm.room s) = Tm.run l (n + Tm.room s) + 1 from by omega, List.take_succ_cons, Tm.run_cons, ih _ (by omega)]
      omega
theorem Tm.run_open (l : List Int) : ∀ (r : List Int) (n : Nat), l.length < Tm.run (l ++ r) n → ∃ m, ∀ x, Tm.run (l ++ x) n = l.length + Tm.run x (m + 1) := by
  induction l with
  | nil =>
    intro r n h
    cases n with
    | zero => simp [Tm.run_zero] at h
    | succ n => exact ⟨n, fun x => by simp⟩
  | cons s l ih =>
    intro r n h
    cases n with
    | zero => simp [Tm.run_zero] at h
    | succ n =>
      rw [List.cons_append, Tm.run_cons, List.length_cons] at h
      obtain ⟨m, hm⟩ := ih r (n + Tm.room s) (by omega)
      refine ⟨m, fun x => ?_⟩
      rw [List.cons_append, Tm.run_cons, hm, List.length_cons]
      omega

theorem Tm.split (zs : List Int) (k : Nat) : zs = zs.take k ++ (Tm.part zs k ++ zs.drop (Tm.endAt zs k)) := by
  have hg := Tm.endAt_gt zs k
  have hd : zs.drop (Tm.endAt zs k) = (zs.drop k).drop (Tm.endAt zs k - k) := by rw [List.drop_drop]; congr 1; omega
  rw [hd, Tm.part, List.take_append_drop, List.take_append_drop]

theorem Tm.part_run {zs : List Int} (he : Tm.err zs = 0) {k : Nat} (hk : k < zs.length) : Tm.run (Tm.part zs k) 1 = (Tm.part zs k).length := by
  rw [Tm.part_length he hk]
  have h1 := Tm.end_in he hk
  have h2 : Tm.endAt zs k - k = Tm.run (zs.drop k) 1 := by unfold Tm.endAt; omega
  unfold Tm.part
  rw [h2, Tm.run_take]
  rw [List.length_drop]
  omega
theorem Tm.part_all {zs : List Int} (he : Tm.err zs = 0) (k : Nat) : (Tm.part zs k).all Tm.known = true := by
  have h := Tm.err_all he
  rw [List.all_eq_true] at h ⊢
  intro x hx
  exact h x (List.mem_of_mem_drop (List.mem_of_mem_take hx))
/-- Each part is a term. -/
theorem Tm.part_err {zs : List Int} (he : Tm.err zs = 0) {k : Nat} (hk : k < zs.length) : Tm.err (Tm.part zs k) = 0 := by
  refine Tm.err_ok ?_ (Tm.part_all he k) (Tm.part_run he hk)
  rw [Tm.part_length he hk]
  have := Tm.end_in he hk
  have := Tm.err_len he
  omega

theorem Tm.put_eq (zs us : List Int) (k : Nat) : Tm.put zs k us = zs.take k ++ (us ++ zs.drop (Tm.endAt zs k)) := by unfold Tm.put; rw [List.append_assoc]

theorem Tm.put_run {zs us : List Int} (he : Tm.err zs = 0) (hu : Tm.run us 1 = us.length) {k : Nat} (hk : k < zs.length) : Tm.run (Tm.put zs k us) 1 = (Tm.put zs k us).length := by
  have hs := Tm.split zs k
  have hr := Tm.err_run he
  have hp := Tm.part_run he hk
  have htl : (zs.take k).length = k := by rw [List.length_take]; omega
  generalize hP : Tm.part zs k = P at *
  rw [Tm.put_eq]
  generalize hA : zs.take k = A at *
  generalize hB : zs.drop (Tm.endAt zs k) = B at *
  clear hP hA hB
  rw [hs] at hr
  obtain ⟨m, hm⟩ := Tm.run_open A (P ++ B) 1 (by rw [hr]; rw [← hs]; omega)
  rw [hm, show m + 1 = 1 + m from by omega, Tm.run_add, Tm.run_app P B 1 (by omega), hp, List.drop_left] at hr
  rw [hm, show m + 1 = 1 + m from by omega, Tm.run_add, Tm.run_app us B 1 (by omega), hu, List.drop_left]
  simp only [List.length_append] at hr ⊢
  omega
theorem Tm.put_all {zs us : List Int} (he : Tm.err zs = 0) (hu : us.all Tm.known = true) (k : Nat) : (Tm.put zs k us).all Tm.known = true := by
  have h := Tm.err_all he
  rw [List.all_eq_true] at h hu ⊢
  intro x hx
  unfold Tm.put at hx
  rw [List.mem_append, List.mem_append] at hx
  rcases hx with (hx | hx) | hx
  · exact h x (List.mem_of_mem_take hx)
  · exact hu x hx
  · exact h x (List.mem_of_mem_drop hx)
/-- What comes is a term. -/
theorem Tm.put_err {zs us : List Int} (he : Tm.err zs = 0) (hu : Tm.err us = 0) {k : Nat} (hk : k < zs.length) (hl : (Tm.put zs k us).length ≤ 30) : Tm.err (Tm.put zs k us) = 0 :=
  Tm.err_ok hl (Tm.put_all he (Tm.err_all hu) k) (Tm.put_run he (Tm.err_run hu) hk)
theorem Tm.put_take {zs us : List Int} {k : Nat} (hk : k < zs.length) : (Tm.put zs k us).take k = zs.take k := by
  have htl : (zs.take k).length = k := by rw [List.length_take]; omega
  rw [Tm.put_eq]
  exact List.take_left' htl
theorem Tm.put_drop {zs us : List Int} {k : Nat} (hk : k < zs.length) : (Tm.put zs k us).drop k = us ++ zs.drop (Tm.endAt zs k) := by
  have htl : (zs.take k).length = k := by rw [List.length_take]; omega
  rw [Tm.put_eq]
  exact List.drop_left' htl
theorem Tm.put_end {zs us : List Int} (hu : Tm.err us = 0) {k : Nat} (hk : k < zs.length) : Tm.endAt (Tm.put zs k us) k = k + us.length := by
  unfold Tm.endAt
  rw [Tm.put_drop hk, Tm.run_app us _ 1 (by rw [Tm.err_run hu]; exact Nat.le_refl _), Tm.err_run hu]
/-- What is put at a place is part of what comes, there. -/
theorem Tm.put_part {zs us : List Int} (hu : Tm.err us = 0) {k : Nat} (hk : k < zs.length) : Tm.part (Tm.put zs k us) k = us := by
  unfold Tm.part
  rw [Tm.put_end hu hk, Tm.put_drop hk, show k + us.length - k = us.length from by omega, List.take_left]
/-- What stood there put back, it is the term it was. -/
theorem Tm.put_back {zs us : List Int} (hu : Tm.err us = 0) {k : Nat} (hk : k < zs.length) : Tm.put (Tm.put zs k us) k (Tm.part zs k) = zs := by
  have h1 : (Tm.put zs k us).drop (k + us.length) = zs.drop (Tm.endAt zs k) := by
    rw [← List.drop_drop, Tm.put_drop hk, List.drop_left]
  rw [Tm.put_eq (Tm.put zs k us), Tm.put_end hu hk, h1, Tm.put_take hk]
  exact (Tm.split zs k).symm

end Go.Proofs.Ytgeknojpcjadkaa
