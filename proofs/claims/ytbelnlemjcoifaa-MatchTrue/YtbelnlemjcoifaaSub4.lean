/-
  Slices of slices in new memory; haspref.SameSubs.
-/
import Derived.Test.YtbelnlemjcoifaaSub3
namespace Go.Proofs.Ytbelnlemjcoifaa
open Go.Proofs Go.RowKit Go.Shelf

set_option maxRecDepth 100000 in
set_option maxHeartbeats 1000000 in
/-- haspref.SameTerms: it only reads. -/
theorem same_quiet (xs ys : List Int) (a b : Option Addr) (ca cb n : Nat) (w : World) (hX : Ints n w a xs) (hY : Ints n w b ys) (hm : xs.length ≤ maxLen) :
    Calls Try.prog 21 #[.slice a xs.length ca, .slice b ys.length cb] w fun e w' => e = .returned (.bool (sameB xs ys)) ∧ ∃ m, w' = w.drewN m := by
  unfold maxLen at hm
  by_cases hl : xs.length = ys.length
  · have hne : ((xs.length : Int) != (ys.length : Int)) = false := by simp [hl]
    have Hl : Hid (xs.length = ys.length) := hl
    clear hl
    go_enter Try.func21, Try.ntmps21
    go_wp2
    go_loopw [5] (fun i wr => ∃ k d : Nat, k ≤ xs.length ∧ i = .int .i64 (k : Int) ∧ Hid (xs.take k = ys.take k) ∧ wr = w.drewN d) (fun i _ => xs.length - (intOf i).toNat)
    case atStart => exact ⟨0, 0, Nat.zero_le _, rfl, by simp [Hid], rfl⟩
    case round =>
      obtain ⟨k, d, hk, rfl, hsame, rfl⟩ := hrel
      by_cases hlt : k < xs.length
      · have hlt' : (k : Int) < (xs.length : Int) := by omega
        have hly : k < ys.length := by have := Hl.out; omega
        have hly' : (k : Int) < (ys.length : Int) := by omega
        obtain ⟨b1, off1, rfl, hb1, hc1⟩ := hX.at (by omega)
        obtain ⟨b2, off2, rfl, hb2, hc2⟩ := hY.at (by omega)
        have hx := hc1 k hlt
        have hy := hc2 k hly
        have hst := hid (@same_step xs ys k hlt hly hsame.out)
        have hno := hid (@same_not xs ys k)
        clear hc1 hc2 hX hY hly
        generalize xs[k]?.getD 0 = s at *
        generalize ys[k]?.getD 0 = u at *
        by_cases he : s = u
        · have hn : (s != u) = false := by simp [he]
          have He : Hid (s = u) := he
          clear he hno
          go_wp2
          go_quiet (fail)
          go_wp2
          go_roundw
          case rel => exact ⟨k + 1, _, by omega, by go_num, hst.out He.out, rfl⟩
          case measure => simp [intOf]; omega
        · have hn : (s != u) = true := by simp [he]
          have hf := hid (hno.out he)
          clear he hno hst
          go_wp2
          go_quiet (fail)
          go_wp2
          go_ret
          exact ⟨by rw [hf.out]; rfl, _, by rw [World.drewN_drewN]⟩
      · obtain rfl : k = xs.length := by omega
        have hy := hid (same_yes hsame.out Hl.out)
        clear hX hY
        go_wp2
        go_ret
        exact ⟨by rw [hy.out]; rfl, _, rfl⟩
  · have hne : ((xs.length : Int) != (ys.length : Int)) = true := by simp; omega
    rw [same_len hl]
    clear hl hX hY
    go_enter Try.func21, Try.ntmps21
    go_wp2
    go_ret
    exact ⟨rfl, 0, rfl⟩

theorem Try.info23 : (Try.prog.info? 23).map (fun i => (i.zero, i.size, i.bytes)) = some (some (.slice none 0 0), 1, 24) := by kernel_rfl

/-- v IS A SLICE OF SLICES IN NEW MEMORY, which are in new memory too: it holds ss. -/
def NewS (base : Nat) (W : World) (v : Value) (ss : List (List Int)) : Prop :=
  ∃ us : List Value, W.ownsRow base 23 1 v ss.length us ∧ ∀ j, j < ss.length → ∃ u, us[j]? = some u ∧ New base W u (ss[j]?.getD [])
theorem NewS.nil (base : Nat) (W : World) : NewS base W (.slice none 0 0) [] := ⟨[], World.ownsRow_nil _ _ _ _, fun j hj => by simp at hj⟩
theorem New.apart {base : Nat} {W : World} {u v : Value} {t : List Int} {n : Nat} {us : List Value} (hu : New base W u t) (hv : W.ownsRow base 23 1 v n us) : u.ownBlock = none ∨ u.ownBlock ≠ v.ownBlock := by
  rcases hu.2 with ⟨rfl, _⟩ | ⟨g, cap, cur, rfl, _, hg, _⟩
  · exact .inl rfl
  · rcases hv.2 with ⟨rfl, _⟩ | ⟨g', cap', cur', rfl, _, hg', _⟩
    · exact .inr (by simp [Value.ownBlock])
    · refine .inr fun e => ?_
      have e' : g = g' := by simpa [Value.ownBlock] using e
      subst e'
      rw [hg] at hg'
      simp at hg'
theorem NewS.below {base : Nat} {W W' : World} {v : Value} {ss : List (List Int)} (h : NewS base W v ss) (hB : Below W.heap.size W W') : NewS base W' v ss := by
  obtain ⟨us, h1, h2⟩ := h
  refine ⟨us, World.ownsRow.kept h1 (grown_of_below hB) (by cases h : v.ownBlock with | none => exact .inl rfl | some k => exact .inr (by simp)), fun j hj => ?_⟩
  obtain ⟨u, hu, hN⟩ := h2 j hj
  exact ⟨u, hu, hN.below hB⟩
theorem NewS.mono {base base' : Nat} {W : World} {v : Value} {ss : List (List Int)} (h : NewS base W v ss) (hb : base' ≤ base) : NewS base' W v ss := by
  obtain ⟨us, h1, h2⟩ := h
  refine ⟨us, ⟨h1.1, h1.2.elim .inl (fun ⟨g, cap, cur, e1, e2, e3⟩ => .inr ⟨g, cap, cur, e1, Nat.le_trans hb e2, e3⟩)⟩, fun j hj => ?_⟩
  obtain ⟨u, hu, hN⟩ := h2 j hj
  exact ⟨u, hu, hN.mono hb⟩
theorem NewS.subs {base : Nat} {W : World} {v : Value} {ss : List (List Int)} (h : NewS base W v ss) : ∃ a cap, v = .slice a ss.length cap ∧ Subs W.heap.size W a ss ∧ ss.length ≤ cap ∧ cap ≤ maxLen ∧ (a = none → cap = 0) := by
  obtain ⟨us, h1, h2⟩ := h
  rcases h1.2 with ⟨rfl, hn⟩ | ⟨g, cap, cur, rfl, hb, hg, e1, e2, e3, e4⟩
  · exact ⟨none, 0, by rw [hn], fun j hj => by omega, by omega, by omega, fun _ => rfl⟩
  · refine ⟨_, _, rfl, fun j hj => ?_, e1, e2, fun e => by cases e⟩
    obtain ⟨u, hu, hN⟩ := h2 j hj
    have h5 := World.ownsRow.cellAt h1 j (by omega)
    obtain ⟨aj, cj, rfl, hI, q1, q2⟩ := New.ints hN
    refine ⟨g, 0, aj, cj, rfl, (Array.getElem?_eq_some_iff.1 hg).1, ?_, hI, q1, q2, fun e => ?_⟩
    · rw [Nat.zero_add, h5, hu]
    · subst e
      rcases hN.2 with ⟨e, _⟩ | ⟨_, _, _, e, _⟩
      · simp only [Value.slice.injEq] at e; exact e.2.2
      · simp at e

/-- 'append(s, x)' of one list, onto what the call itself made. -/
theorem wp_append_sub {ops : Array Oper} {rest : List Oper} {o : Oper} {a : Act} {Q : Exit → Act → World → Prop} (w : World) (hgd : o.guard = none) (s x : Operand)
    (ho : o.op = .call { callee := .builtin .append, args := #[s, x], argTypes := #[36, 36] }) (base : Nat) (v : Value) (ss : List (List Int)) (hs : a.eval s = v) (hN : NewS base w v ss)
    (u : Value) (t : List Int) (B : Nat) (hx : a.eval x = .slice (some ⟨B, 0, none⟩) 1 1) (hB : w.cell? ⟨B, 0, none⟩ = some u) (hu : New base w u t) (hlen : ss.length ≤ 1000000) (hbase : base ≤ w.heap.size)
    (h : ∀ v' w', NewS base w' v' (ss ++ [t]) → Below base w w' → wpList Try.prog ops Q rest (a.put o.dst v') w') : wpList Try.prog ops Q (o :: rest) a w := by
  obtain ⟨i0, hi, hz0, hz1, hz2⟩ := info_parts Try.info23
  obtain ⟨us, h1, h2⟩ := hN
  have hul : us.length = ss.length := by have := h1.1; omega
  refine wpList_append_own w hgd s x 36 ho base 23 i0 (.slice none 0 0) 1 24 Try.underlying36 hi hz0 hz1 hz2 rfl (by decide) v ss.length us hs h1 ⟨B, 0, none⟩ 1 1 [u] hx (by simp)
    (by intro j z hj
        match j, hj with
        | 0, hj => simp at hj; subst hj; rw [Go.WideShapes.add_plain]; simpa using hB)
    (by intro z hz; simp at hz; subst hz; obtain ⟨_, _, rfl, _⟩ := New.ints hu; rfl) (by unfold maxLen; omega) (by omega) hbase ?_
  intro v' w' hown hg _
  have hkeep : ∀ (u' : Value) (t' : List Int), New base w u' t' → New base w' u' t' := fun u' t' hN' => World.ownsRow.kept hN' hg (New.apart hN' h1)
  refine h v' w' ⟨us ++ [u], by simpa using hown, fun j hj => ?_⟩ ((Below.refl base w).grown hg hbase (fun k e => (World.ownsRow.lt h1 k e).1))
  by_cases hjl : j < ss.length
  · obtain ⟨u', hu', hN'⟩ := h2 j hjl
    refine ⟨u', by rw [List.getElem?_append_left (by omega)]; exact hu', ?_⟩
    rw [List.getElem?_append_left hjl]
    exact hkeep u' _ hN'
  · have hje : j = ss.length := by simp at hj; omega
    subst hje
    refine ⟨u, by rw [List.getElem?_append_right (by omega), hul]; simp, ?_⟩
    rw [List.getElem?_append_right (by omega)]
    simpa using hkeep u t hu

def sameSB (xs ys : List (List Int)) : Bool := decide (xs = ys)
theorem sameS_len {xs ys : List (List Int)} (h : xs.length ≠ ys.length) : sameSB xs ys = false := by
  simp only [sameSB, decide_eq_false_iff_not]
  rintro rfl
  exact h rfl
theorem takeS_snoc {zs : List (List Int)} {k : Nat} (h : k < zs.length) : zs.take (k + 1) = zs.take k ++ [zs[k]?.getD []] := by
  rw [List.take_succ_eq_append_getElem h]; simp [h]
theorem sameS_step {xs ys : List (List Int)} {k : Nat} (hx : k < xs.length) (hy : k < ys.length) (h : xs.take k = ys.take k) (he : sameB (xs[k]?.getD []) (ys[k]?.getD []) = true) : xs.take (k + 1) = ys.take (k + 1) := by
  simp only [sameB, decide_eq_true_eq] at he
  rw [takeS_snoc hx, takeS_snoc hy, h, he]
theorem sameS_not {xs ys : List (List Int)} {k : Nat} (he : sameB (xs[k]?.getD []) (ys[k]?.getD []) = false) : sameSB xs ys = false := by
  simp only [sameB, decide_eq_false_iff_not] at he
  simp only [sameSB, decide_eq_false_iff_not]
  rintro rfl
  exact he rfl
theorem sameS_yes {xs ys : List (List Int)} (h : xs.take xs.length = ys.take xs.length) (hl : xs.length = ys.length) : sameSB xs ys = true := by
  simp only [sameSB, decide_eq_true_eq]
  rw [List.take_length, hl, List.take_length] at h
  exact h

set_option maxRecDepth 100000 in
set_option maxHeartbeats 1000000 in
/-- haspref.SameSubs: of lists whose terms are short. -/
theorem sameSubs_any (xs ys : List (List Int)) (a b : Option Addr) (ca cb : Nat) (w : World) (hX : Subs w.heap.size w a xs) (hY : Subs w.heap.size w b ys) (hm : xs.length ≤ 1000) :
    Calls Try.prog 34 #[.slice a xs.length ca, .slice b ys.length cb] w fun e w' => e = .returned (.bool (sameSB xs ys)) ∧ Below w.heap.size w w' := by
  by_cases hl : xs.length = ys.length
  · have hne : ((xs.length : Int) != (ys.length : Int)) = false := by simp [hl]
    have hxm : (xs.length : Int) ≤ 1000 := by omega
    have Hl : Hid (xs.length = ys.length) := hl
    have HX := hid hX
    have HY := hid hY
    clear hl hX hY
    go_enter Try.func34, Try.ntmps34
    go_wp2
    go_loopw [5] (fun i wr => ∃ k : Nat, k ≤ xs.length ∧ i = .int .i64 (k : Int) ∧ Hid (xs.take k = ys.take k) ∧ Below w.heap.size w wr) (fun i _ => xs.length - (intOf i).toNat)
    case atStart => exact ⟨0, Nat.zero_le _, rfl, by simp [Hid], Below.refl _ _⟩
    case round =>
      obtain ⟨k, hk, rfl, hsame, hB⟩ := hrel
      by_cases hlt : k < xs.length
      · have hlt' : (k : Int) < (xs.length : Int) := by omega
        have hly : k < ys.length := by have := Hl.out; omega
        have hly' : (k : Int) < (ys.length : Int) := by omega
        obtain ⟨b1, off1, rfl, hb1, hc1⟩ := (HX.out.below hB).at (by omega)
        obtain ⟨b2, off2, rfl, hb2, hc2⟩ := (HY.out.below hB).at (by omega)
        obtain ⟨ax, cx, hx, hIx, qx, qx2, _⟩ := hc1 k hlt
        obtain ⟨ay, cy, hy, hIy, _⟩ := hc2 k hly
        have hst := hid (@sameS_step xs ys k hlt hly hsame.out)
        have hno := hid (@sameS_not xs ys k)
        have hS : ∀ n : Nat, Calls Try.prog 21 #[.slice ax (xs[k]?.getD []).length cx, .slice ay (ys[k]?.getD []).length cy] (wr.drewN n) fun e w' => e = .returned (.bool (sameB (xs[k]?.getD []) (ys[k]?.getD []))) ∧ ∃ m, w' = (wr.drewN n).drewN m :=
          fun n => same_quiet _ _ ax ay cx cy w.heap.size (wr.drewN n) hIx hIy (by omega)
        have HS := hid hS
        clear hc1 hc2 hly hIx hIy qx qx2 hS
        generalize xs[k]?.getD [] = s at *
        generalize ys[k]?.getD [] = u at *
        cases hsb : sameB s u with
        | true =>
          have hst' := hid (hst.out hsb)
          rw [hsb] at HS
          clear hst hno hsb
          go_wp2
          go_quiet ((go_at_call 21; exact Calls.quiet_of (HS.out _)))
          go_wp2
          go_roundw
          case rel => exact ⟨k + 1, by omega, by go_num, hst'.out, below_drewN hB _⟩
          case measure => simp [intOf]; omega
        | false =>
          have hf := hid (hno.out hsb)
          rw [hsb] at HS
          clear hst hno hsb
          go_wp2
          go_quiet ((go_at_call 21; exact Calls.quiet_of (HS.out _)))
          go_wp2
          go_ret
          exact ⟨by rw [hf.out]; rfl, below_drewN hB _⟩
      · obtain rfl : k = xs.length := by omega
        have hy := hid (sameS_yes hsame.out Hl.out)
        go_wp2
        go_ret
        exact ⟨by rw [hy.out]; rfl, hB⟩
  · have hne : ((xs.length : Int) != (ys.length : Int)) = true := by simp; omega
    rw [sameS_len hl]
    clear hl hX hY
    go_enter Try.func34, Try.ntmps34
    go_wp2
    go_ret
    exact ⟨rfl, Below.refl _ _⟩

end Go.Proofs.Ytbelnlemjcoifaa
