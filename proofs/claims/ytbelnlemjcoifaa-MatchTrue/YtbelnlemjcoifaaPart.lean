/-
  slices.Clone, term.End, term.Part; haspref.endOf, EndOf, partOf, PartOf.
-/
import Derived.Laws.AppendOwnNone
import Derived.Test.YtbelnlemjcoifaaPlace
namespace Go.Proofs.Ytbelnlemjcoifaa
open Go.Proofs Go.RowKit Go.Shelf

theorem Tm.run_mono (l : List Int) {n m : Nat} (h : n ≤ m) : Tm.run l n ≤ Tm.run l m := by
  obtain ⟨d, rfl⟩ : ∃ d, m = n + d := ⟨m - n, by omega⟩
  rw [Tm.run_add]; omega
theorem Tm.endAt_in_run : ∀ (l : List Int) (n k : Nat), k < Tm.run l n → Tm.endAt l k ≤ Tm.run l n := by
  intro l
  induction l with
  | nil => intro n k h; rw [Tm.run_nil] at *; rw [Tm.endAt_out _ _ (by simp)]; omega
  | cons s l ih =>
    intro n k h
    cases n with
    | zero => rw [Tm.run_zero] at h; omega
    | succ n =>
      rw [Tm.run_cons] at h ⊢
      cases k with
      | zero =>
        rw [Tm.endAt_zero, show (1 : Nat) = 0 + 1 from rfl, Tm.run_cons]
        have := Tm.run_mono l (n := 0 + Tm.room s) (m := n + Tm.room s) (by omega)
        omega
      | succ k =>
        have := ih (n + Tm.room s) k (by omega)
        unfold Tm.endAt at this ⊢
        rw [List.drop_succ_cons]
        omega
theorem Tm.end_in {zs : List Int} (he : Tm.err zs = 0) {k : Nat} (hk : k < zs.length) : Tm.endAt zs k ≤ zs.length := by
  have hr := Tm.err_run he
  have := Tm.endAt_in_run zs 1 k (by omega)
  omega
/-- The term at place k. -/
def Tm.part (zs : List Int) (k : Nat) : List Int := (zs.drop k).take (Tm.endAt zs k - k)
theorem Tm.part_length {zs : List Int} (he : Tm.err zs = 0) {k : Nat} (hk : k < zs.length) : (Tm.part zs k).length = Tm.endAt zs k - k := by
  have := Tm.end_in he hk
  simp only [Tm.part, List.length_take, List.length_drop]
  omega

theorem Try.info3 : (Try.prog.info? 3).map (fun i => (i.zero, i.size, i.bytes)) = some (some (.int .i64 0), 1, 8) := by kernel_rfl

/-- v IS A SLICE IN NEW MEMORY (from block 'base' on) THAT HOLDS zs. -/
def New (base : Nat) (W : World) (v : Value) (zs : List Int) : Prop := W.ownsRow base 3 1 v zs.length (zs.map (Value.int .i64))
theorem New.ints {base : Nat} {W : World} {v : Value} {zs : List Int} (h : New base W v zs) : ∃ a cap, v = .slice a zs.length cap ∧ Ints W.heap.size W a zs ∧ zs.length ≤ cap ∧ cap ≤ maxLen := by
  rcases h.2 with ⟨rfl, hn⟩ | ⟨g, cap, cur, rfl, hb, hg, h1, h2, h3, h4⟩
  · exact ⟨none, 0, by rw [hn], fun j hj => by omega, by omega, by omega⟩
  · refine ⟨_, _, rfl, fun j hj => ⟨g, 0, rfl, (Array.getElem?_eq_some_iff.1 hg).1, ?_⟩, h1, h2⟩
    have h5 := World.ownsRow.cellAt (show W.ownsRow base 3 1 (.slice (some ⟨g, 0, none⟩) zs.length cap) zs.length (zs.map (Value.int .i64)) from h) j (by omega)
    rw [Nat.zero_add, h5]
    simp [hj]
theorem New.below {base : Nat} {W W' : World} {v : Value} {zs : List Int} (h : New base W v zs) (hB : Below W.heap.size W W') : New base W' v zs :=
  World.ownsRow.kept h (grown_of_below hB) (by cases h : v.ownBlock with | none => exact .inl rfl | some k => exact .inr (by simp))

theorem New.mono {base base' : Nat} {W : World} {v : Value} {zs : List Int} (h : New base W v zs) (hb : base' ≤ base) : New base' W v zs :=
  ⟨h.1, h.2.elim .inl (fun ⟨g, cap, cur, h1, h2, h3⟩ => .inr ⟨g, cap, cur, h1, Nat.le_trans hb h2, h3⟩)⟩
theorem New.nil (base : Nat) (W : World) : New base W (.slice none 0 0) [] := World.ownsRow_nil _ _ _ _
theorem New.lit (base : Nat) (W : World) (zs : List Int) (hb : base ≤ W.heap.size) (hm : zs.length ≤ maxLen) : New base (W.alloc (.cells (zs.map (Value.int .i64)).toArray 3)) (.slice (some ⟨W.heap.size, 0, none⟩) zs.length zs.length) zs := by
  have h := World.ownsRow_lit (base := base) (e := 3) (size := 1) W (zs.map (Value.int .i64)).toArray zs.length hb hm (by simp)
  simpa [New] using h
theorem Ints.news {n : Nat} {W : World} {ad : Addr} {zs : List Int} (h : Ints n W (some ad) zs) : ∀ j u, (zs.map (Value.int .i64))[j]? = some u → W.cell? (ad.add j) = some u := by
  intro j u hj
  have hlt : j < zs.length := by
    have := (List.getElem?_eq_some_iff.1 hj).1
    simpa using this
  obtain ⟨b, off, e, _, hc⟩ := h j hlt
  cases e
  rw [Go.WideShapes.add_plain, hc]
  simpa [hlt] using hj

/-- 'append(s, x...)' of ints, onto what the call itself made: whatever x is that can be read. -/
theorem wp_append_ints {ops : Array Oper} {rest : List Oper} {o : Oper} {a : Act} {Q : Exit → Act → World → Prop} (w : World) (hgd : o.guard = none) (s x : Operand)
    (ho : o.op = .call { callee := .builtin .append, args := #[s, x], argTypes := #[23, 23] }) (base : Nat) (v : Value) (xs : List Int) (hs : a.eval s = v) (hN : New base w v xs)
    (ao : Option Addr) (ys : List Int) (c : Nat) (hx : a.eval x = .slice ao ys.length c) (hn : ao = none → ys.length = 0 ∧ c = 0) (hI : Ints w.heap.size w ao ys) (hlen : xs.length + ys.length ≤ 1000000) (hbase : base ≤ w.heap.size)
    (h : ∀ v' w', New base w' v' (xs ++ ys) → Below base w w' → wpList Try.prog ops Q rest (a.put o.dst v') w') : wpList Try.prog ops Q (o :: rest) a w := by
  obtain ⟨i0, hi, hz0, hz1, hz2⟩ := info_parts Try.info3
  cases ao with
  | none =>
    obtain ⟨h0, rfl⟩ := hn rfl
    obtain rfl : ys = [] := List.eq_nil_of_length_eq_zero h0
    refine wpList_append_own_none hgd s x 23 ho base 3 i0 1 Try.underlying23 hi v xs.length (xs.map (Value.int .i64)) hs hN hx (h v w (by simpa using hN) (Below.refl _ _))
  | some ad =>
    refine wpList_append_own w hgd s x 23 ho base 3 i0 (.int .i64 0) 1 8 Try.underlying23 hi hz0 hz1 hz2 rfl (by decide) v xs.length (xs.map (Value.int .i64)) hs hN ad ys.length c (ys.map (Value.int .i64)) hx (by simp) hI.news
      (by intro u hu; simp at hu; obtain ⟨z, _, rfl⟩ := hu; rfl) (by unfold maxLen; omega) (by omega) hbase ?_
    intro v' w' hown hg _
    refine h v' w' (by simpa [New] using hown) ((Below.refl base w).grown hg hbase (fun k e => (World.ownsRow.lt hN k e).1))

set_option maxRecDepth 100000 in
set_option maxHeartbeats 400000 in
/-- slices.Clone, of a list that is not empty. -/
theorem clone_any (zs : List Int) (b off cap : Nat) (w : World) (h30 : zs.length ≤ 30) (hI : Ints w.heap.size w (some ⟨b, off, none⟩) zs) :
    Calls Try.prog 45 #[.slice (some ⟨b, off, none⟩) zs.length cap] w fun e w' => ∃ v, e = .returned v ∧ New w.heap.size w' v zs ∧ Below w.heap.size w w' := by
  have he : ∀ (w : World) (n c : Nat), (binOp .eql 23 (.slice (some ⟨b, off, none⟩) n c) (.slice none 0 0)).run Try.prog w = .ok (.bool false) w := fun _ _ _ => rfl
  have hl : New w.heap.size (w.alloc (.cells #[] 3)) (.slice (some ⟨w.heap.size, 0, none⟩) 0 0) [] := New.lit w.heap.size w [] (Nat.le_refl _) (by unfold maxLen; simp)
  have hB : Below w.heap.size w (w.alloc (.cells #[] 3)) := (Below.refl _ _).alloc (Nat.le_refl _) _
  have hI2 := (hI.below hB).mono hB.size
  go_enter Try.func45, Try.ntmps45
  go_wp2_with (at_builtin; go_loud (refine wp_append_ints _ rfl _ _ rfl w.heap.size _ [] rfl hl _ zs cap rfl (fun h => by cases h) hI2 (by simp; omega) (by simp) ?_); intro v' w2 hN hB2)
  obtain ⟨a', c', rfl, _⟩ := New.ints hN
  go_ret
  exact ⟨_, rfl, hN, hB.trans hB2⟩

/-- What End answers beside the error. -/
def Tm.endVal (zs : List Int) (k : Int) : Int := if Tm.placeErr zs k = 0 then (Tm.endAt zs k.toNat : Int) else 0
theorem Tm.place_ok {zs : List Int} {k : Int} (h : Tm.placeErr zs k = 0) : Tm.err zs = 0 ∧ insideB k 0 ((zs.length : Int) - 1) = true ∧ 0 ≤ k ∧ k < (zs.length : Int) := by
  unfold Tm.placeErr at h
  by_cases he : Tm.err zs = 0
  · rw [if_pos he] at h
    by_cases hp : insideB k 0 ((zs.length : Int) - 1) = true
    · have := (insideB_iff _ _ _).1 hp
      exact ⟨he, hp, by omega, by omega⟩
    · rw [if_neg hp] at h; omega
  · rw [if_neg he] at h; exact absurd h he
theorem Tm.place_of {zs : List Int} {k : Int} (he : Tm.err zs = 0) (h1 : 0 ≤ k) (h2 : k < (zs.length : Int)) : Tm.placeErr zs k = 0 := by
  unfold Tm.placeErr
  rw [if_pos he, if_pos ((insideB_iff _ _ _).2 ⟨h1, by omega⟩)]

set_option maxHeartbeats 400000 in
/-- term.End. -/
theorem termEnd_any (zs : List Int) (a : Option Addr) (cap : Nat) (k : Int) (w : World) (hI : Ints w.heap.size w a zs) :
    Calls Try.prog 14 #[.slice a zs.length cap, .int .i64 k] w fun e w' => e = .returned (.tuple #[.int .i64 (Tm.endVal zs k), .int .i64 (Tm.placeErr zs k)]) ∧ Below w.heap.size w w' := by
  have hC := check_any zs a cap w hI
  by_cases he : Tm.err zs = 0
  · rw [he] at hC
    by_cases hp : insideB k 0 ((zs.length : Int) - 1) = true
    · have hk := (insideB_iff _ _ _).1 hp
      obtain ⟨j, rfl⟩ : ∃ j : Nat, k = (j : Int) := ⟨k.toNat, by omega⟩
      have hpe : Tm.placeErr zs (j : Int) = 0 := by simp [Tm.placeErr, he, hp]
      have hev : Tm.endVal zs (j : Int) = (Tm.endAt zs j : Int) := by simp [Tm.endVal, hpe]
      have hE : ∀ W, Below w.heap.size w W → Calls Try.prog 44 #[.slice a zs.length cap, .int .i64 (j : Int)] W fun e w' => e = .returned (.int .i64 (Tm.endAt zs j : Int)) ∧ Below W.heap.size W w' :=
        fun W hW => end_any zs (Tm.err_len he) a cap j (by have := Tm.err_len he; omega) W ((hI.below hW).mono hW.size)
      have HE := show Hid _ from hE
      rw [hpe, hev]
      clear hpe hev he hI hk hE
      generalize Tm.endAt zs j = q at *
      go_enter Try.func14, Try.ntmps14
      go_wp2_with (first
        | (go_at_call 19; refine hC.mono ?_; clear hC; rintro e w1 ⟨rfl, hB1⟩)
        | (go_at_call 43; refine (hasPlace_any _ _ _ _ _).mono ?_; rw [hp]; rintro e w2 ⟨rfl, rfl⟩)
        | (go_at_call 44; refine (HE.out _ hB1).mono ?_; rintro e w3 ⟨rfl, hB3⟩))
      go_ret2
      exact ⟨rfl, hB1.trans (hB3.mono hB1.size)⟩
    · have hp' : insideB k 0 ((zs.length : Int) - 1) = false := by simpa using hp
      have hpe : Tm.placeErr zs k = 3 := by simp [Tm.placeErr, he, hp']
      have hev : Tm.endVal zs k = 0 := by simp [Tm.endVal, hpe]
      rw [hpe, hev]
      clear hpe hev he hI hp
      go_enter Try.func14, Try.ntmps14
      go_wp2_with (first
        | (go_at_call 19; refine hC.mono ?_; clear hC; rintro e w1 ⟨rfl, hB1⟩)
        | (go_at_call 43; refine (hasPlace_any _ _ _ _ _).mono ?_; rw [hp']; rintro e w2 ⟨rfl, rfl⟩))
      go_ret2
      exact ⟨rfl, hB1⟩
  · have hpe : Tm.placeErr zs k = Tm.err zs := by simp [Tm.placeErr, he]
    have hev : Tm.endVal zs k = 0 := by simp [Tm.endVal, hpe, he]
    have hne : (Tm.err zs != 0) = true := by simp [he]
    rw [hpe, hev]
    clear hpe hev he hI
    generalize Tm.err zs = q at *
    go_enter Try.func14, Try.ntmps14
    go_wp2_with (go_at_call 19; refine hC.mono ?_; clear hC; rintro e w1 ⟨rfl, hB1⟩)
    go_ret2
    exact ⟨rfl, hB1⟩

end Go.Proofs.Ytbelnlemjcoifaa
