/-
  unify.grow. · (*web).lay once more: and which block the signs lie in then. · A WEB WHOSE SIGNS ARE ITS OWN, AND WHAT IS TIED IN IT: (*web).lay, (*web).tie of it; unify.newWeb. · unify.newWeb. · PLAIN MATHEMATICS: what holds while pairs are tied, one behind the other; what is so found. · Rules in memory. · unify.meet. · unify.meet.
-/
import Derived.Test.YtloealnfbpegnabBun7
import Derived.Test.YtloealnfbpegnabBun2
namespace Go.Proofs.Ytloealnfbpegnab
open Go.Proofs Go.RowKit Go.Shelf Go.Maps

theorem results_box3 {fn : Func} {tmps : Array Value} {w : World} {a b c A B C : Nat} {e : Bool} {s : Option Addr} {n m : Nat} {f : Int} (h : fn.results = #[.cell a 24, .cell b 4, .cell c 25])
    (ha : tmps.getD a undef = .pointer (some ⟨A, 0, none⟩)) (hb : tmps.getD b undef = .pointer (some ⟨B, 0, none⟩)) (hc : tmps.getD c undef = .pointer (some ⟨C, 0, none⟩))
    (h1 : w.cell? ⟨A, 0, none⟩ = some (.slice s n m)) (h2 : w.cell? ⟨B, 0, none⟩ = some (.bool e)) (h3 : w.cell? ⟨C, 0, none⟩ = some (.int .i64 f)) : (results fn tmps).run Try.prog w = .ok (.tuple #[.slice s n m, .bool e, .int .i64 f]) w := by
  have ha' : tmps[a]?.getD undef = .pointer (some ⟨A, 0, none⟩) := by rw [← ha]; simp
  have hb' : tmps[b]?.getD undef = .pointer (some ⟨B, 0, none⟩) := by rw [← hb]; simp
  have hc' : tmps[c]?.getD undef = .pointer (some ⟨C, 0, none⟩) := by rw [← hc]; simp
  simp only [results, h]
  simp [go_sem, ha', hb', hc', h1, h2, h3]

/-- What holds ahead of round k of grow. -/
structure GrowInv (w : World) (Bw Bm b off cap N : Nat) (zs : List Int) (T : Nat → Option Nat) (f : Nat → List Int) (k : Nat) (W : World) : Prop where
  arr : ∃ cs : Array Value, W.heap[w.heap.size + 1 + 1 + 1]? = some (.cells cs 93 (0, 0)) ∧ cs.size = 8 ∧ ∀ j, j < k → ∃ u, cs[j]? = some u ∧ New (w.heap.size + 1 + 1 + 1 + 1) W u (f j)
  b0 : Boxed W w.heap.size 24 (.slice none 0 0)
  b1 : Boxed W (w.heap.size + 1) 4 (.bool false)
  b2 : Boxed W (w.heap.size + 1 + 1) 25 (.int .i64 0)
  web : WebAt W Bw Bm (some ⟨b, off, none⟩) cap zs N T
  bl : Below w.heap.size w W

theorem GrowInv.below {w : World} {Bw Bm b off cap N : Nat} {zs : List Int} {T : Nat → Option Nat} {f : Nat → List Int} {k : Nat} {W W' : World} (H : GrowInv w Bw Bm b off cap N zs T f k W) (hB : Below W.heap.size W W') : GrowInv w Bw Bm b off cap N zs T f k W' := by
  obtain ⟨⟨cs, hblk, h8, hc⟩, b0, b1, b2, hweb, hbl⟩ := H
  refine ⟨⟨cs, (hB.block _ (Array.getElem?_eq_some_iff.1 hblk).1).trans hblk, h8, fun j hj => ?_⟩, (hB.block _ b0.lt).trans b0, (hB.block _ b1.lt).trans b1, (hB.block _ b2.lt).trans b2, hweb.below hB, hbl.trans (hB.mono hbl.size)⟩
  obtain ⟨u, hu, hN⟩ := hc j hj
  exact ⟨u, hu, hN.below hB⟩
theorem GrowInv.cellA {w : World} {Bw Bm b off cap N : Nat} {zs : List Int} {T : Nat → Option Nat} {f : Nat → List Int} {k : Nat} {W : World} (H : GrowInv w Bw Bm b off cap N zs T f k W) {j : Nat} (hj : j < 8) : ∃ x, W.cell? ⟨w.heap.size + 1 + 1 + 1, j, none⟩ = some x ∧ W.frozen? ⟨w.heap.size + 1 + 1 + 1, j, none⟩ = false := by
  obtain ⟨⟨cs, hblk, h8, hc⟩, b0, b1, b2, hweb, hbl⟩ := H
  refine ⟨cs[j]'(by omega), ?_, ?_⟩
  · rw [cell_at hblk, Array.getElem?_eq_getElem]
  · simp only [World.frozen?]
    rw [hblk]
    simp
theorem GrowInv.set {w : World} {Bw Bm b off cap N : Nat} {zs : List Int} {T : Nat → Option Nat} {f : Nat → List Int} {k : Nat} {W : World} (H : GrowInv w Bw Bm b off cap N zs T f k W) (hk : k < 8) (hwl : Bw < w.heap.size ∧ Bm < w.heap.size) (hb : b < w.heap.size) {v : Value} {base : Nat} (hN : New base W v (f k)) (hbase : w.heap.size + 1 + 1 + 1 + 1 ≤ base) : GrowInv w Bw Bm b off cap N zs T f (k + 1) (W.setCell ⟨w.heap.size + 1 + 1 + 1, k, none⟩ v) := by
  obtain ⟨⟨cs, hblk, h8, hc⟩, b0, b1, b2, hweb, hbl⟩ := H
  have hg := grownBy_setCell1 W (w.heap.size + 1 + 1 + 1) k v
  have hbx : ∀ {C : Nat} {t : TypeId} {x : Value}, Boxed W C t x → C ≠ w.heap.size + 1 + 1 + 1 → Boxed (W.setCell ⟨w.heap.size + 1 + 1 + 1, k, none⟩ v) C t x := fun {C t x} hb hne => (Below.heap_setCell W ⟨w.heap.size + 1 + 1 + 1, k, none⟩ v C hne).trans hb
  have hkk : ∀ q, q < w.heap.size → (W.setCell ⟨w.heap.size + 1 + 1 + 1, k, none⟩ v).heap[q]? = W.heap[q]? := fun q hq => Below.heap_setCell W ⟨w.heap.size + 1 + 1 + 1, k, none⟩ v q (show q ≠ w.heap.size + 1 + 1 + 1 by omega)
  have hkeep : ∀ (u : Value) (t : List Int), New (w.heap.size + 1 + 1 + 1 + 1) W u t → New (w.heap.size + 1 + 1 + 1 + 1) (W.setCell ⟨w.heap.size + 1 + 1 + 1, k, none⟩ v) u t := fun u t hu => World.ownsRow.kept hu hg (by
    cases e : u.ownBlock with
    | none => exact .inl rfl
    | some q => exact .inr (by have := (World.ownsRow.lt hu q e).1; simp; omega))
  refine ⟨⟨cs.setIfInBounds k v, ?_, by simp [h8], fun j hj => ?_⟩, hbx b0 (by omega), hbx b1 (by omega), hbx b2 (by omega), hweb.of (hkk Bw hwl.1) (hkk Bm hwl.2) (hkk b hb) (by have := hg.size; have := hbl.size; omega), hbl.setCell (p := ⟨w.heap.size + 1 + 1 + 1, k, none⟩) (by show w.heap.size ≤ w.heap.size + 1 + 1 + 1; omega) _⟩
  · obtain ⟨hlt, hx⟩ := Array.getElem?_eq_some_iff.1 hblk
    show (W.heap.modify (w.heap.size + 1 + 1 + 1) _)[w.heap.size + 1 + 1 + 1]? = _
    rw [Array.getElem?_eq_getElem (by rw [Array.size_modify]; exact hlt), Array.getElem_modify_self, hx]
    rfl
  · by_cases e : j = k
    · subst e
      exact ⟨v, by simp [h8, hk], hkeep v _ (hN.mono hbase)⟩
    · obtain ⟨u, hu, hN'⟩ := hc j (by omega)
      exact ⟨u, by simp [Ne.symm e, hu], hkeep u _ hN'⟩

theorem GrowInv.subs {w : World} {Bw Bm b off cap N : Nat} {zs : List Int} {T : Nat → Option Nat} {f : Nat → List Int} {W W' : World} (H : GrowInv w Bw Bm b off cap N zs T f 8 W) (hk : ∀ q, w.heap.size + 1 + 1 + 1 ≤ q → W'.heap[q]? = W.heap[q]?) (hs : W.heap.size ≤ W'.heap.size) : Subs W'.heap.size W' (some ⟨w.heap.size + 1 + 1 + 1, 0, none⟩) ((List.range 8).map f) := by
  obtain ⟨⟨cs, hblk, h8, hc⟩, b0, b1, b2, hweb, hbl⟩ := H
  intro j hj
  have hj8 : j < 8 := by simpa using hj
  have ej : ((List.range 8).map f)[j]?.getD [] = f j := by simp [hj8]
  obtain ⟨u, hu, hN⟩ := hc j hj8
  have hlt := (Array.getElem?_eq_some_iff.1 hblk).1
  have hblk' := (hk _ (Nat.le_refl _)).trans hblk
  have hN' : New (w.heap.size + 1 + 1 + 1 + 1) W' u (f j) := by
    refine ⟨hN.1, hN.2.elim .inl fun ⟨g, c, cur, h1, h2, h3, h4⟩ => .inr ⟨g, c, cur, h1, h2, (hk g (by omega)).trans h3, h4⟩⟩
  obtain ⟨a, c, rfl, hI, h1, h2⟩ := New.ints hN'
  refine ⟨w.heap.size + 1 + 1 + 1, 0, a, c, rfl, by omega, ?_, ?_, ?_, h2, fun e => ?_⟩
  · rw [ej, Nat.zero_add, cell_at hblk', hu]
  · rw [ej]; exact hI
  · rw [ej]; exact h1
  · subst e
    rcases hN'.2 with ⟨h3, _⟩ | ⟨g, _, _, h3, _⟩
    · simp at h3; exact h3.2
    · simp at h3

set_option maxRecDepth 100000 in
set_option maxHeartbeats 2000000 in
theorem grow_any (zs : List Int) (G : Wb.Good zs) (T : Nat → Option Nat) (h : Nat → Nat) (S : Wb.St zs T h) (Bw Bm b off cap N : Nat) (f : Nat → List Int) (hf : ∀ i, i < 8 → Wb.Exp zs h i (f i)) (w : World) (hW : WebAt w Bw Bm (some ⟨b, off, none⟩) cap zs N T) :
    Calls Try.prog 53 #[.pointer (some ⟨Bw, 0, none⟩)] w fun e w' => Below w.heap.size w w' ∧ (((∀ i, i < 8 → (f i).length ≤ 30) ∧ ∃ a, e = .returned (.tuple #[.slice a 8 8, .bool true, .int .i64 0]) ∧ Subs w'.heap.size w' a ((List.range 8).map f)) ∨
      ((∃ i, i < 8 ∧ 30 < (f i).length) ∧ e = .returned (.tuple #[.slice none 0 0, .bool false, .int .i64 2]))) := by
  have hmf : ∀ (fn : Fn) (first cap : Array Value) (w : World), (Instr.makeFunc fn first cap).run Try.prog w = .ok (.func fn first cap) w := fun _ _ _ _ => rfl
  have h8 := G.eight
  obtain ⟨wl, ml⟩ := hW.lt
  have hbl : b < w.heap.size := by
    obtain ⟨b', off', e, hb, _⟩ := hW.ints.at (by omega)
    cases e
    exact hb
  have hI0 : Hid (GrowInv w Bw Bm b off cap N zs T f 0 ((((w.alloc (.cells #[.slice none 0 0] 24)).alloc (.cells #[.bool false] 4)).alloc (.cells #[.int .i64 0] 25)).alloc (.cells #[.slice none 0 0, .slice none 0 0, .slice none 0 0, .slice none 0 0, .slice none 0 0, .slice none 0 0, .slice none 0 0, .slice none 0 0] 93))) := by
    have hB : Below w.heap.size w ((((w.alloc (.cells #[.slice none 0 0] 24)).alloc (.cells #[.bool false] 4)).alloc (.cells #[.int .i64 0] 25)).alloc (.cells #[.slice none 0 0, .slice none 0 0, .slice none 0 0, .slice none 0 0, .slice none 0 0, .slice none 0 0, .slice none 0 0, .slice none 0 0] 93)) :=
      ((((Below.refl _ w).alloc (Nat.le_refl _) _).alloc (by simp) _).alloc (by simp; omega) _).alloc (by simp; omega) _
    have a0 := (((Boxed.new w 24 (.slice none 0 0)).alloc (.cells #[.bool false] 4)).alloc (.cells #[.int .i64 0] 25)).alloc (.cells #[.slice none 0 0, .slice none 0 0, .slice none 0 0, .slice none 0 0, .slice none 0 0, .slice none 0 0, .slice none 0 0, .slice none 0 0] 93)
    have a1 := ((Boxed.new (w.alloc (.cells #[.slice none 0 0] 24)) 4 (.bool false)).alloc (.cells #[.int .i64 0] 25)).alloc (.cells #[.slice none 0 0, .slice none 0 0, .slice none 0 0, .slice none 0 0, .slice none 0 0, .slice none 0 0, .slice none 0 0, .slice none 0 0] 93)
    have a2 := (Boxed.new ((w.alloc (.cells #[.slice none 0 0] 24)).alloc (.cells #[.bool false] 4)) 25 (.int .i64 0)).alloc (.cells #[.slice none 0 0, .slice none 0 0, .slice none 0 0, .slice none 0 0, .slice none 0 0, .slice none 0 0, .slice none 0 0, .slice none 0 0] 93)
    have a3 := World.alloc_heap_new (((w.alloc (.cells #[.slice none 0 0] 24)).alloc (.cells #[.bool false] 4)).alloc (.cells #[.int .i64 0] 25)) (.cells #[.slice none 0 0, .slice none 0 0, .slice none 0 0, .slice none 0 0, .slice none 0 0, .slice none 0 0, .slice none 0 0, .slice none 0 0] 93)
    simp only [World.size_alloc] at a1 a2 a3
    exact ⟨⟨_, a3, rfl, fun j hj => by omega⟩, a0, a1, a2, hW.below hB, hB⟩
  have HG := hid G
  have HS := hid S
  have Hf := hid hf
  clear G S hf hW
  go_enter_defers Try.func53, Try.ntmps53
  go_wp2_with fail
  go_loopw [8] (fun i wr => ∃ k : Nat, k ≤ 8 ∧ i = .int .i64 (k : Int) ∧ Hid (∀ j, j < k → (f j).length ≤ 30) ∧ Hid (GrowInv w Bw Bm b off cap N zs T f k wr)) (fun i _ => 8 - (intOf i).toNat)
  case atStart => exact ⟨0, by omega, rfl, fun j hj => by omega, hI0⟩
  case round =>
    obtain ⟨k, hk, rfl, hle, hI⟩ := hrel
    by_cases hlt : k < 8
    · have hlt' : (k : Int) < 8 := by omega
      have hC := grown_nil zs HG.out T h HS.out Bw Bm b off cap N (Hf.out k hlt) (by omega) wr hI.out.web
      by_cases h30 : (f k).length ≤ 30
      · have hC' := hid (hC.mono (R' := fun e w' => Below wr.heap.size wr w' ∧ ∃ v, e = .returned v ∧ New wr.heap.size w' v (f k)) (fun e w' hA => ⟨hA.1, hA.2.elim (fun h => h.2) (fun h => absurd h.1 (by omega))⟩))
        have hle' := hid (show ∀ j, j < k + 1 → (f j).length ≤ 30 from fun j hj => if e : j = k then e ▸ h30 else hle.out j (by omega))
        have hsz : w.heap.size + 1 + 1 + 1 + 1 ≤ wr.heap.size := by
          obtain ⟨cs, hblk, _⟩ := hI.out.arr
          have := (Array.getElem?_eq_some_iff.1 hblk).1
          omega
        clear hC h30 hle
        go_wp2_with (first
          | (go_at_call 67; refine hC'.out.mono ?_; clear hC'; rintro e w1 ⟨hB1, v, rfl, hN1⟩; obtain ⟨av, nv, cv, rfl⟩ := hN1.slice3; have hI1 := hid (hI.out.below hB1); obtain ⟨x1, cA, fA⟩ := hI1.out.cellA hlt))
        go_roundw
        case rel => exact ⟨k + 1, by omega, by go_num, hle', hid (hI1.out.set hlt ⟨wl, ml⟩ hbl hN1 hsz)⟩
        case measure => simp [intOf]; omega
      · have hC' := hid (hC.mono (R' := fun e w' => Below wr.heap.size wr w' ∧ e = .panicked manyChain) (fun e w' hA => ⟨hA.1, hA.2.elim (fun h => absurd h.1 h30) (fun h => h.2)⟩))
        clear hC
        go_wp2_with (first
          | (go_at_call 67; refine hC'.out.mono ?_; clear hC'; rintro e w1 ⟨hB1, rfl⟩))
        have hI1 := hI.out.below hB1
        refine leaves_cons (f := 66) (args := #[.pointer (some ⟨w.heap.size, 0, none⟩), .pointer (some ⟨w.heap.size + 1, 0, none⟩), .pointer (some ⟨w.heap.size + 1 + 1, 0, none⟩)]) (by simp) (by simp [go_sem]) ?_
        refine (grow_caught w.heap.size w1 hI1.b0 hI1.b1 hI1.b2).mono ?_
        rintro e u' w2 ⟨rfl, rfl, hB2, d0, d1, d2⟩
        exact ⟨_, results_box3 rfl rfl rfl rfl d0.cell d1.cell d2.cell, hI1.bl.trans hB2, .inr ⟨⟨k, hlt, by omega⟩, rfl⟩⟩
    · obtain rfl : k = 8 := by omega
      have e0 := hI.out.b0.cell
      have e1 := hI.out.b1.cell
      have e2 := hI.out.b2.cell
      have f0 := hI.out.b0.frozen
      have f1 := hI.out.b1.frozen
      have f2 := hI.out.b2.frozen
      go_wp2
      refine leaves_cons (f := 66) (args := #[.pointer (some ⟨w.heap.size, 0, none⟩), .pointer (some ⟨w.heap.size + 1, 0, none⟩), .pointer (some ⟨w.heap.size + 1 + 1, 0, none⟩)]) (by simp) (by simp [go_sem]) ?_
      refine (grow_idle ⟨w.heap.size, 0, none⟩ ⟨w.heap.size + 1, 0, none⟩ ⟨w.heap.size + 1 + 1, 0, none⟩ _).mono ?_
      rintro e u' w2 ⟨rfl, rfl, rfl⟩
      have hI1 := hI.out
      have d0 := ((hI1.b0.set (.slice (some ⟨w.heap.size + 1 + 1 + 1, 0, none⟩) 8 8)).other (B' := w.heap.size + 1) (by omega) (.bool true)).other (B' := w.heap.size + 1 + 1) (by omega) (.int .i64 0)
      have d1 := ((hI1.b1.other (B' := w.heap.size) (by omega) (.slice (some ⟨w.heap.size + 1 + 1 + 1, 0, none⟩) 8 8)).set (.bool true)).other (B' := w.heap.size + 1 + 1) (by omega) (.int .i64 0)
      have d2 := ((hI1.b2.other (B' := w.heap.size) (by omega) (.slice (some ⟨w.heap.size + 1 + 1 + 1, 0, none⟩) 8 8)).other (B' := w.heap.size + 1) (by omega) (.bool true)).set (.int .i64 0)
      refine ⟨_, results_box3 rfl rfl rfl rfl d0.cell d1.cell d2.cell, ?_, .inl ⟨hle.out, _, rfl, ?_⟩⟩
      · exact ((hI1.bl.setCell (p := ⟨w.heap.size, 0, none⟩) (Nat.le_refl _) _).setCell (p := ⟨w.heap.size + 1, 0, none⟩) (by show w.heap.size ≤ w.heap.size + 1; omega) _).setCell (p := ⟨w.heap.size + 1 + 1, 0, none⟩) (by show w.heap.size ≤ w.heap.size + 1 + 1; omega) _
      · refine hI1.subs (fun q hq => ?_) ?_
        · exact ((Below.heap_setCell _ ⟨w.heap.size + 1 + 1, 0, none⟩ _ q (show q ≠ w.heap.size + 1 + 1 by omega)).trans (Below.heap_setCell _ ⟨w.heap.size + 1, 0, none⟩ _ q (show q ≠ w.heap.size + 1 by omega))).trans (Below.heap_setCell _ ⟨w.heap.size, 0, none⟩ _ q (show q ≠ w.heap.size by omega))
        · exact Nat.le_trans (Nat.le_trans (KeepsWalks.setCell wr _ _).size (KeepsWalks.setCell _ _ _).size) (KeepsWalks.setCell _ _ _).size

end Go.Proofs.Ytloealnfbpegnab

namespace Go.Proofs.Ytloealnfbpegnab
open Go.Proofs Go.RowKit Go.Shelf Go.Maps

theorem run_append_any (w : World) (ty : TypeId) (base : Nat) (v : Value) (xs : List Int) (hN : New base w v xs) (ad : Addr) (ys : List Int) (c : Nat) (hI : Ints w.heap.size w (some ad) ys) (hlen : xs.length + ys.length ≤ 1000000) (hbase : base ≤ w.heap.size) :
    ∃ v' w', (Builtin.append_ #[23, 23] ty #[v, .slice (some ad) ys.length c]).run Try.prog w = .ok v' w' ∧ New base w' v' (xs ++ ys) ∧ w.grownBy w' v.ownBlock ∧ (v'.ownBlock = v.ownBlock ∨ v'.ownBlock = some w.heap.size) := by
  obtain ⟨i0, hi, hz0, hz1, hz2⟩ := info_parts Try.info3
  have hc := hI.news
  have h1 : ∀ u ∈ ys.map (Value.int .i64), u.oneCell' = true := by intro u hu; simp at hu; obtain ⟨z, _, rfl⟩ := hu; rfl
  obtain ⟨v', w', hr, r1, r2, r3⟩ := run_append_own (P := Try.prog) w base 23 ty 3 i0 (.int .i64 0) 1 8 Try.underlying23 hi hz0 hz1 hz2 rfl (by decide) v xs.length (xs.map (Value.int .i64)) hN ad ys.length c (ys.map (Value.int .i64)) (by simp) hc h1 (by unfold maxLen; omega) (by omega) hbase
  refine ⟨v', w', hr, by simpa [New] using r1, r2, ?_⟩
  have hsz : i0.size = 1 := hz1
  have hby : i0.bytes = 8 := hz2
  rcases hN.2 with ⟨rfl, h0⟩ | ⟨g, cap, cur, rfl, hbg, hg, hnc, hcm, hcs, htake⟩
  · by_cases hm : ys.length = 0
    · rw [r3.2 ⟨rfl, hm⟩]
      exact .inl rfl
    · have hr2 := run_append_nil (P := Try.prog) w 23 ty 3 i0 (.int .i64 0) Try.underlying23 hi hz0 ad ys.length c (ys.map (Value.int .i64)) (by simp [hsz]) hc (by omega) (by omega) (by rw [hby]; omega)
      rw [hr] at hr2
      cases hr2
      exact .inr rfl
  · by_cases hroom : xs.length + ys.length ≤ cap
    · have hfit : xs.length * i0.size + (ys.map (Value.int .i64)).length ≤ cur.size := by rw [hcs, hsz]; simp; omega
      have hr2 := run_append_room (P := Try.prog) w 23 ty 3 i0 Try.underlying23 hi g xs.length cap cur hg ad ys.length c (ys.map (Value.int .i64)) (by simp [hsz]) hc h1 hroom hfit
      rw [hr] at hr2
      cases hr2
      exact .inl rfl
    · have hr2 := run_append_grow (P := Try.prog) w 23 ty 3 i0 (.int .i64 0) Try.underlying23 hi hz0 ⟨g, 0, none⟩ xs.length cap (xs.map (Value.int .i64)) (by simp [hsz]) (World.ownsRow.cells hN (g := g) rfl) ad ys.length c (ys.map (Value.int .i64)) (by simp [hsz]) hc (by omega) (by omega) (growslice_fits (by omega) (by rw [hby]; omega))
      rw [hr] at hr2
      cases hr2
      exact .inr rfl

theorem wp_append_own3 {ops : Array Oper} {rest : List Oper} {o : Oper} {a : Act} {Q : Exit → Act → World → Prop} (w : World) (hgd : o.guard = none) (s x : Operand)
    (ho : o.op = .call { callee := .builtin .append, args := #[s, x], argTypes := #[23, 23] }) (base : Nat) (v : Value) (xs : List Int) (hs : a.eval s = v) (hN : New base w v xs)
    (ao : Option Addr) (ys : List Int) (c : Nat) (hx : a.eval x = .slice ao ys.length c) (hn : ao = none → ys.length = 0 ∧ c = 0) (hI : Ints w.heap.size w ao ys) (hlen : xs.length + ys.length ≤ 1000000) (hbase : base ≤ w.heap.size)
    (h : ∀ v' w', New base w' v' (xs ++ ys) → w.grownBy w' v.ownBlock → (v'.ownBlock = v.ownBlock ∨ v'.ownBlock = some w.heap.size) → wpList Try.prog ops Q rest (a.put o.dst v') w') : wpList Try.prog ops Q (o :: rest) a w := by
  cases ao with
  | none =>
    obtain ⟨i0, hi, hz0, hz1, hz2⟩ := info_parts Try.info3
    obtain ⟨h0, rfl⟩ := hn rfl
    obtain rfl : ys = [] := List.eq_nil_of_length_eq_zero h0
    exact wpList_append_own_none hgd s x 23 ho base 3 i0 1 Try.underlying23 hi v xs.length (xs.map (Value.int .i64)) hs hN hx (h v w (by simpa using hN) ⟨rfl, rfl, rfl, Nat.le_refl _, fun _ _ _ => rfl⟩ (.inl rfl))
  | some ad =>
    refine wpList_plain hgd fun _ hK => ?_
    obtain ⟨v', w', hr, h2, h3, h4⟩ := run_append_any w o.type base v xs hN ad ys c hI hlen hbase
    unfold Oper.wp execOp
    simp only [ho, resolve, invoke, builtin, Sem.run_bind, Sem.run_pure, Result.andThen_ok, List.map_toArray, List.map_cons, List.map_nil, hs, hx, hr]
    exact hK _ _ (h v' w' h2 h3 h4)

set_option maxRecDepth 100000 in
set_option maxHeartbeats 1000000 in
theorem lay_own (zs t : List Int) (Bw Bm : Nat) (v : Value) (at' : Option Addr) (ct : Nat) (w : World) (hO : OwnWeb w Bw Bm v zs) (hT : Ints w.heap.size w at' t) (hct : at' = none → t.length = 0 ∧ ct = 0) (hl : zs.length + t.length ≤ 5000) :
    Calls Try.prog 51 #[.pointer (some ⟨Bw, 0, none⟩), .slice at' t.length ct] w fun e w' => e = .returned (.int .i64 (zs.length : Int)) ∧ ∃ v', OwnWeb w' Bw Bm v' (zs ++ t) ∧ w'.os = w.os ∧ w'.tape = w.tape ∧ w'.output = w.output ∧ w.heap.size ≤ w'.heap.size ∧
      (∀ k, v'.ownBlock = some k → v.ownBlock = some k ∨ w.heap.size ≤ k) ∧ ∀ k, k < w.heap.size → k ≠ Bw → some k ≠ v.ownBlock → w'.heap[k]? = w.heap[k]? := by
  obtain ⟨hw, hN⟩ := hO
  have hlt : Bw < w.heap.size := (Array.getElem?_eq_some_iff.1 hw).1
  have hc0 : w.cell? ⟨Bw, 0, none⟩ = some v := (cell_at hw 0).trans rfl
  have hf0 : w.frozen? ⟨Bw, 0, none⟩ = false := by simp only [World.frozen?]; rw [hw]; simp
  obtain ⟨a0, c0, rfl, _⟩ := New.ints hN
  have hown : ∀ k, (Value.slice a0 zs.length c0).ownBlock = some k → Bw + 1 ≤ k := fun k e => (World.ownsRow.lt hN k e).1
  have hz : (zs.length : Int) ≤ 5000 := by omega
  go_enter Try.func51, Try.ntmps51
  go_wp2_with (first
    | (at_builtin; go_loud (refine wp_append_own3 _ rfl _ _ rfl (Bw + 1) _ zs rfl hN at' t ct rfl hct hT (by omega) (by omega) ?_); intro v' w2 hN2 hg2 ho2; have hw2 : w2.heap[Bw]? = some (.cells #[.slice a0 zs.length c0, .map (some Bm)] 91 (0, 0)) := (hg2.block Bw hlt (fun e => by have := hown Bw e.symm; omega)).trans hw; have hc2 : w2.cell? ⟨Bw, 0, none⟩ = some (.slice a0 zs.length c0) := (cell_at hw2 0).trans rfl; have hf2 : w2.frozen? ⟨Bw, 0, none⟩ = false := (by simp only [World.frozen?]; rw [hw2]; simp); obtain ⟨a2, c2, rfl, _⟩ := New.ints hN2))
  go_ret
  have hown2 : ∀ k, (Value.slice a2 (zs ++ t).length c2).ownBlock = some k → Bw + 1 ≤ k := fun k e => (World.ownsRow.lt hN2 k e).1
  refine ⟨rfl, .slice a2 (zs ++ t).length c2, ⟨?_, ?_⟩, hg2.os, hg2.tape, hg2.output, Nat.le_trans hg2.size (KeepsWalks.setCell w2 _ _).size, fun k e => ho2.elim (fun h => .inl (h ▸ e)) (fun h => .inr (by rw [h] at e; cases e; exact Nat.le_refl _)), fun k hk hn ho => (Below.heap_setCell w2 ⟨Bw, 0, none⟩ _ k hn).trans (hg2.block k hk ho)⟩
  · obtain ⟨hlt', hk⟩ := Array.getElem?_eq_some_iff.1 hw2
    rw [List.length_append]
    show (w2.heap.modify Bw _)[Bw]? = _
    rw [Array.getElem?_eq_getElem (by rw [Array.size_modify]; exact hlt'), Array.getElem_modify_self, hk]
    rfl
  · refine World.ownsRow.kept hN2 (grownBy_setCell1 w2 Bw 0 _) ?_
    cases e : (Value.slice a2 (zs ++ t).length c2).ownBlock with
    | none => exact .inl rfl
    | some k => exact .inr (by have := hown2 k e; simp; omega)

end Go.Proofs.Ytloealnfbpegnab

namespace Go.Proofs.Ytloealnfbpegnab
open Go.Proofs Go.RowKit Go.Shelf Go.Maps

namespace Wb
theorem rt_ext (zs t : List Int) (h : Nat → Nat) : rt (zs ++ t) h ≤ rt zs h + t.length := by
  unfold rt
  rw [List.length_append, List.range_add, List.filter_append, List.length_append]
  have h2 : ((List.map (fun x => zs.length + x) (List.range t.length)).filter fun p => decide (can (zs ++ t) p = p ∧ h p = p)).length ≤ t.length := by
    refine Nat.le_trans (List.length_filter_le _ _) ?_
    simp
  have h1 : ((List.range zs.length).filter fun p => decide (can (zs ++ t) p = p ∧ h p = p)) = (List.range zs.length).filter fun p => decide (can zs p = p ∧ h p = p) := by
    refine List.filter_congr fun p hp => ?_
    rw [can_ext (List.mem_range.1 hp)]
  rw [h1]
  omega
theorem rt_le (zs : List Int) (h : Nat → Nat) : rt zs h ≤ zs.length := by
  unfold rt
  refine Nat.le_trans (List.length_filter_le _ _) ?_
  simp
end Wb

/-- BLOCK Bw IS A WEB whose signs zs are its own, with who stands for whom. -/
structure FW (W : World) (Bw Bm : Nat) (v : Value) (zs : List Int) (h : Nat → Nat) : Prop where
  own : OwnWeb W Bw Bm v zs
  tied : ∃ T N M, Wb.St zs T h ∧ IntMap W Bm N M ∧ (∀ p : Nat, M (p : Int) = (T p).map fun q => .int .i64 (q : Int)) ∧ N + Wb.rt zs h ≤ zs.length
theorem FW.st {W : World} {Bw Bm : Nat} {v : Value} {zs : List Int} {h : Nat → Nat} (H : FW W Bw Bm v zs h) (h0 : 0 < zs.length) : ∃ b cap, v = .slice (some ⟨b, 0, none⟩) zs.length cap ∧ WSt W Bw Bm (some ⟨b, 0, none⟩) cap zs h := by
  obtain ⟨⟨hw, hN⟩, T, N, M, S, hM, hT, hn⟩ := H
  obtain ⟨a, c', e, hI, _⟩ := New.ints hN
  rcases hN.2 with ⟨rfl, h1⟩ | ⟨g, c, cur, rfl, _⟩
  · omega
  · cases e
    exact ⟨g, c', rfl, T, N, S, ⟨hw, hI, M, hM, hT⟩, hn⟩
theorem FW.lt {W : World} {Bw Bm : Nat} {v : Value} {zs : List Int} {h : Nat → Nat} (H : FW W Bw Bm v zs h) : Bw < W.heap.size ∧ Bm < W.heap.size := by
  obtain ⟨⟨hw, hN⟩, T, N, M, S, hM, hT, hn⟩ := H
  exact ⟨(Array.getElem?_eq_some_iff.1 hw).1, hM.lt⟩
theorem own_not_map {base : Nat} {X : World} {v : Value} {xs : List Int} {k : Nat} (hN : New base X v xs) {es : Array (MapEntry)} {ck : Nat} (hm : X.heap[k]? = some (.map es ck)) : some k ≠ v.ownBlock := fun e => by
  obtain ⟨o, ho, hc⟩ := own_cells hN e.symm
  rw [hm] at ho
  cases ho
  cases hc

/-- What a call leaves of all that is older than it, but the web. -/
def WKeep (w w' : World) (Bw Bm : Nat) (v : Value) : Prop := w'.os = w.os ∧ w'.tape = w.tape ∧ w'.output = w.output ∧ w.heap.size ≤ w'.heap.size ∧ ∀ k, k < w.heap.size → k ≠ Bw → k ≠ Bm → some k ≠ v.ownBlock → w'.heap[k]? = w.heap[k]?
theorem fw_lay (zs t : List Int) (h : Nat → Nat) (Bw Bm : Nat) (v : Value) (at' : Option Addr) (ct : Nat) (w : World) (H : FW w Bw Bm v zs h) (hT : Ints w.heap.size w at' t) (hct : at' = none → t.length = 0 ∧ ct = 0) (hl : zs.length + t.length ≤ 5000) :
    Calls Try.prog 51 #[.pointer (some ⟨Bw, 0, none⟩), .slice at' t.length ct] w fun e w' => e = .returned (.int .i64 (zs.length : Int)) ∧ ∃ v', FW w' Bw Bm v' (zs ++ t) h ∧ WKeep w w' Bw Bm v ∧ ∀ k, v'.ownBlock = some k → v.ownBlock = some k ∨ w.heap.size ≤ k := by
  obtain ⟨hO, T, N, M, S, hM, hMT, hn⟩ := H
  refine (lay_own zs t Bw Bm v at' ct w hO hT hct hl).mono ?_
  rintro e w' ⟨rfl, v', hO', h1, h2, h3, h4, ho, hk⟩
  obtain ⟨es, ck, hmap⟩ := hM.map
  have hne : Bm ≠ Bw := fun e => by
    have := hO.1
    rw [← e, hmap] at this
    cases this
  refine ⟨rfl, v', ⟨hO', T, N, M, S.ext, hM.keep (hk Bm hM.lt hne (own_not_map hO.2 hmap)), hMT, ?_⟩, ⟨h1, h2, h3, h4, fun k hk' n1 _ n3 => hk k hk' n1 n3⟩, ho⟩
  have := Wb.rt_ext zs t h
  rw [List.length_append]
  omega

/-- (*web).tie of a web of its own. -/
theorem fw_tie (zs : List Int) (G : Wb.Good zs) (h : Nat → Nat) (Bw Bm : Nat) (v : Value) (one other : Nat) (w : World) (h1 : one < zs.length) (h2 : other < zs.length) (H : FW w Bw Bm v zs h) :
    Calls Try.prog 50 #[.pointer (some ⟨Bw, 0, none⟩), .int .i64 (one : Int), .int .i64 (other : Int)] w fun e w' => ∃ q, e = .returned (.bool q) ∧ Keep w.heap.size Bm w w' ∧
      ((q = true ∧ ∃ h', Wb.TieL zs h h' [(one, other)] ∧ FW w' Bw Bm v zs h') ∨ (q = false ∧ Wb.No zs h [(one, other)])) := by
  obtain ⟨b, cap, rfl, hSt⟩ := H.st (by omega)
  obtain ⟨hO, T, N, M, S, hM, hMT, hn⟩ := H
  obtain ⟨es, ck, hmap⟩ := hM.map
  refine (tieQ (tie_all zs G Bw Bm b 0 cap _ h (Nat.le_refl _) one other w h1 h2 hSt)).mono ?_
  rintro e w' ⟨q, rfl, hK, hq⟩
  refine ⟨q, rfl, hK, ?_⟩
  rcases hq with ⟨rfl, h', hL, ⟨T', N', S', hW', hn'⟩, _⟩ | ⟨rfl, hNo⟩
  · obtain ⟨M', hM', hMT'⟩ := hW'.ties
    refine .inl ⟨rfl, h', hL, ⟨⟨hW'.web, ?_⟩, T', N', M', S', hM', hMT', hn'⟩⟩
    rcases hO.2.2 with ⟨e, _⟩ | ⟨g, c, cur, e, hb, hg, h4⟩
    · cases e
    · refine ⟨hO.2.1, .inr ⟨g, c, cur, e, hb, ?_, h4⟩⟩
      exact (hK.block g (Array.getElem?_eq_some_iff.1 hg).1 (fun e => by rw [e, hmap] at hg; cases hg)).trans hg
  · exact .inr ⟨rfl, hNo⟩

end Go.Proofs.Ytloealnfbpegnab

namespace Go.Proofs.Ytloealnfbpegnab
open Go.Proofs Go.RowKit Go.Shelf Go.Maps

namespace Wb
/-- Each variable by itself. -/
def eight (k : Nat) : List Int := ((Tm.noneL 8).take k).flatten
theorem eight_zero : eight 0 = [] := rfl
theorem eight_succ {k : Nat} (hk : k < 8) : eight (k + 1) = eight k ++ ((Tm.noneL 8)[k]?.getD []) := flat_take_succ _ k (by rw [Tm.noneL_length]; exact hk)
theorem eight_length : ∀ k, k ≤ 8 → (eight k).length = k := by decide +kernel
theorem none_length : ∀ k, k < 8 → ((Tm.noneL 8)[k]?.getD []).length = 1 := by decide +kernel
theorem good8 : Good (Wb.eight 8) := by
  refine ⟨by decide +kernel, by decide +kernel, ?_, ?_, ?_⟩
  · have : ∀ p, p < 8 → -8 ≤ sg (Wb.eight 8) p ∧ sg (Wb.eight 8) p < 6 := by decide +kernel
    intro p hp
    exact this p (by rw [eight_length 8 (by omega)] at hp; exact hp)
  · decide +kernel
  · have : ∀ p, p < 8 → Tm.endAt (Wb.eight 8) p ≤ 8 := by decide +kernel
    intro p hp
    rw [eight_length 8 (by omega)] at hp ⊢
    exact this p hp
end Wb

theorem FW.keep {W W' : World} {Bw Bm : Nat} {v : Value} {zs : List Int} {h : Nat → Nat} (H : FW W Bw Bm v zs h) (hB : Below W.heap.size W W') : FW W' Bw Bm v zs h := by
  obtain ⟨⟨hw, hN⟩, T, N, M, S, hM, hT, hn⟩ := H
  exact ⟨⟨(hB.block _ (Array.getElem?_eq_some_iff.1 hw).1).trans hw, hN.below hB⟩, T, N, M, S, hM.keep (hB.block _ hM.lt), hT, hn⟩

theorem New.keepFrom {base : Nat} {W W' : World} {v : Value} {xs : List Int} (h : New base W v xs) (hk : ∀ q, base ≤ q → q < W.heap.size → W'.heap[q]? = W.heap[q]?) : New base W' v xs :=
  ⟨h.1, h.2.elim .inl fun ⟨g, c, cur, e, hb, hg, r⟩ => .inr ⟨g, c, cur, e, hb, (hk g hb (Array.getElem?_eq_some_iff.1 hg).1).trans hg, r⟩⟩
theorem NewS.keepFrom {base : Nat} {W W' : World} {v : Value} {ss : List (List Int)} (h : NewS base W v ss) (hk : ∀ q, base ≤ q → q < W.heap.size → W'.heap[q]? = W.heap[q]?) (_hs : W.heap.size ≤ W'.heap.size) : NewS base W' v ss := by
  obtain ⟨us, h1, h2⟩ := h
  refine ⟨us, ⟨h1.1, h1.2.elim .inl fun ⟨g, c, cur, e, hb, hg, r⟩ => .inr ⟨g, c, cur, e, hb, (hk g hb (Array.getElem?_eq_some_iff.1 hg).1).trans hg, r⟩⟩, fun j hj => ?_⟩
  obtain ⟨u, hu, hN⟩ := h2 j hj
  exact ⟨u, hu, hN.keepFrom hk⟩

set_option maxRecDepth 100000 in
set_option maxHeartbeats 1000000 in
theorem newWeb_any (w : World) : Calls Try.prog 49 #[] w fun e w' => ∃ v, e = .returned (.pointer (some ⟨w.heap.size + 1, 0, none⟩)) ∧ FW w' (w.heap.size + 1) w.heap.size v (Wb.eight 8) (fun p => p) ∧ Below w.heap.size w w' := by
  have hmm := @run_makeMap Try.prog
  have hF0 : Hid (FW ((w.alloc (.map #[] 0)).alloc (.cells #[.slice none 0 0, .map (some w.heap.size)] 91)) (w.heap.size + 1) w.heap.size (.slice none 0 0) [] (fun p => p)) := by
    have h1 := World.alloc_heap_new (w.alloc (.map #[] 0)) (.cells #[.slice none 0 0, .map (some w.heap.size)] 91)
    rw [World.size_alloc] at h1
    refine ⟨⟨h1, New.nil _ _⟩, fun _ => none, 0, fun _ => none, Wb.St.start [], (IntMap.made w).keep (Below.heap_alloc _ _ _ (by simp)), fun _ => rfl, by simp [Wb.rt]⟩
  have hB0 : Below w.heap.size w ((w.alloc (.map #[] 0)).alloc (.cells #[.slice none 0 0, .map (some w.heap.size)] 91)) := ((Below.refl _ w).alloc (Nat.le_refl _) _).alloc (by simp) _
  have hs0 : ((w.alloc (.map #[] 0)).alloc (.cells #[.slice none 0 0, .map (some w.heap.size)] 91)).heap.size = w.heap.size + 1 + 1 := by simp
  go_enter Try.func49, Try.ntmps49
  go_wp2_with (first
    | (go_at_call 25; refine (none_any _).mono ?_; rintro e w3 ⟨u, rfl, hN, hB3⟩; obtain ⟨a, c, rfl, hS, _⟩ := hN.subs; have hlen : (Tm.noneL 8).length = 8 := Tm.noneL_length 8; rw [hlen]))
  have hs3 := hB3.size
  rw [hs0] at hs3 hN
  have hNk : Hid (∀ W : World, (∀ q, w.heap.size + 1 + 1 ≤ q → q < w3.heap.size → W.heap[q]? = w3.heap[q]?) → w3.heap.size ≤ W.heap.size → Subs W.heap.size W a (Tm.noneL 8)) := fun W h1 h2 => by
    obtain ⟨a', c', e, hS', _⟩ := (hN.keepFrom h1 h2).subs
    cases e
    exact hS'
  have hF3 := hid (hF0.out.keep hB3)
  have hBw := hid (hB0.trans (hB3.mono (by rw [hs0]; omega)))
  clear hN hS hF0 hB0 hB3
  go_loopw [9] (fun i wr => ∃ (k : Nat) (v : Value), k ≤ 8 ∧ i = .int .i64 (k : Int) ∧ Hid (FW wr (w.heap.size + 1) w.heap.size v (Wb.eight k) (fun p => p)) ∧ Hid (∀ q, v.ownBlock = some q → w3.heap.size ≤ q) ∧ Hid (wr.os = w.os ∧ wr.tape = w.tape ∧ wr.output = w.output ∧ w3.heap.size ≤ wr.heap.size ∧ ∀ q, q < w3.heap.size → q ≠ w.heap.size + 1 → q ≠ w.heap.size → wr.heap[q]? = w3.heap[q]?)) (fun i _ => 8 - (intOf i).toNat)
  case atStart => exact ⟨0, .slice none 0 0, by omega, rfl, hF3, fun q e => by simp [Value.ownBlock] at e, hBw.out.os, hBw.out.tape, hBw.out.output, Nat.le_refl _, fun _ _ _ _ => rfl⟩
  case round =>
    obtain ⟨k, v, hk, rfl, hF, ho, hK⟩ := hrel
    by_cases hlt : k < 8
    · have hlt' : (k : Int) < 8 := by omega
      have hS := hNk.out wr (fun q h1 h2 => hK.out.2.2.2.2 q h2 (by omega) (by omega)) hK.out.2.2.2.1
      obtain ⟨b, off, rfl, hb, hc⟩ := hS.at (by rw [hlen]; omega)
      obtain ⟨aj, cj, hcj, hIj, _⟩ := hc k (by rw [hlen]; exact hlt)
      have hl1 := Wb.none_length k hlt
      have hl8 := Wb.eight_length k hk
      have hC := hid (fw_lay (Wb.eight k) ((Tm.noneL 8)[k]?.getD []) (fun p => p) (w.heap.size + 1) w.heap.size v aj cj wr hF.out hIj (fun e => by
        obtain ⟨b', off', e', _⟩ := hIj.at (by omega)
        rw [e] at e'
        cases e') (by omega))
      have hst := hid (Wb.eight_succ hlt)
      rw [hl1] at hC hcj
      rw [hl8] at hC
      clear hS hc hIj hl1 hl8 hF
      go_wp2_with (first
        | (go_at_call 51; refine hC.out.mono ?_; clear hC; rintro e w4 ⟨rfl, v4, hF4, hK4, ho4⟩))
      go_roundw
      case rel =>
        obtain ⟨g1, g2, g3, g4, g5⟩ := hK.out
        obtain ⟨k1, k2, k3, k4, k5⟩ := hK4
        refine ⟨k + 1, v4, by omega, by go_num, by rw [hst.out]; exact hF4, fun q e => ?_, k1.trans g1, k2.trans g2, k3.trans g3, by omega, fun q hq n1 n2 => (k5 q (by omega) n1 n2 (fun e => by have := ho.out q e.symm; omega)).trans (g5 q hq n1 n2)⟩
        rcases ho4 q e with h1 | h1
        · exact ho.out q h1
        · omega
      case measure => simp [intOf]; omega
    · obtain rfl : k = 8 := by omega
      go_wp2
      go_ret
      obtain ⟨g1, g2, g3, g4, g5⟩ := hK.out
      exact ⟨v, rfl, hF.out, g1, g2, g3, by omega, fun q hq => (g5 q (by omega) (by omega) (by omega)).trans (hBw.out.block q hq)⟩

end Go.Proofs.Ytloealnfbpegnab

namespace Go.Proofs.Ytloealnfbpegnab
open Go.Proofs Go.RowKit Go.Shelf Go.Maps

abbrev PairL := List (List Int × List Int)
namespace Wb
theorem cont_laid {pre t post : List Int} (ht : Tm.err t = 0) : cont (pre ++ (t ++ post)) pre.length = t := by
  have h := Tm.part_mid (pre := pre) (t := t) (post := post) (k := 0) (by omega) (by rw [Tm.endAt_zero, Tm.err_run ht]; exact Nat.le_refl _)
  rw [Nat.add_zero] at h
  unfold cont
  rw [h]
  unfold Tm.part
  rw [Tm.endAt_zero, Tm.err_run ht]
  simp
/-- Do all of the first k pairs become the same? -/
def Same (ps : PairL) (k : Nat) (θ : Sb) : Prop := ∀ j, j < k → App θ (ps[j]?.getD ([], [])).1 = App θ (ps[j]?.getD ([], [])).2
/-- What holds when k pairs are tied. -/
structure MInv (ps : PairL) (k : Nat) (zs : List Int) (h : Nat → Nat) : Prop where
  good : Good zs
  st : ∃ T, St zs T h
  closed : Closed zs h []
  len : zs.length ≤ 8 + 60 * k
  sound : ∀ θ, TermSb θ → Same ps k θ → Resp zs h θ
  tied : ∀ j, j < k → ∃ p q, p < zs.length ∧ q < zs.length ∧ cont zs p = (ps[j]?.getD ([], [])).1 ∧ cont zs q = (ps[j]?.getD ([], [])).2 ∧ hd zs h p = hd zs h q
theorem MInv.start (ps : PairL) : MInv ps 0 (eight 8) (fun p => p) := by
  refine ⟨good8, ⟨_, St.start _⟩, fun p q hp _ sp _ _ => ?_, by rw [eight_length 8 (by omega)]; omega, fun θ _ _ p _ _ => rfl, fun j hj => by omega⟩
  rw [eight_length 8 (by omega)] at hp
  have := good8.vars p hp
  omega
theorem Closed.more {zs : List Int} {h : Nat → Nat} {P : List (Nat × Nat)} (C : Closed zs h []) : Closed zs h P := fun p q hp hq sp sq e => by
  obtain ⟨e1, e2⟩ := C p q hp hq sp sq e
  exact ⟨e1, fun i hi => (e2 i hi).move (fun _ _ _ _ h => h) (fun p q hm => by simp at hm)⟩
theorem Same.succ {ps : PairL} {k : Nat} {θ : Sb} (H : Same ps (k + 1) θ) : Same ps k θ ∧ App θ (ps[k]?.getD ([], [])).1 = App θ (ps[k]?.getD ([], [])).2 := ⟨fun j hj => H j (by omega), H k (by omega)⟩
theorem MInv.good2 {ps : PairL} {k : Nat} {zs : List Int} {h : Nat → Nat} (M : MInv ps k zs h) {L R : List Int} (hL : Tm.err L = 0) (hR : Tm.err R = 0) (lL : L.length ≤ 30) (lR : R.length ≤ 30) (hk : k < 40) : Good (zs ++ L ++ R) := by
  have := M.len
  exact (M.good.ext hL (by omega)).ext hR (by rw [List.length_append]; omega)
theorem MInv.at1 {zs L R : List Int} (hL : Tm.err L = 0) : cont (zs ++ L ++ R) zs.length = L := by rw [List.append_assoc]; exact cont_laid hL
theorem MInv.at2 {zs L R : List Int} (hR : Tm.err R = 0) : cont (zs ++ L ++ R) (zs ++ L).length = R := by
  have := cont_laid (pre := zs ++ L) (post := []) hR
  rwa [List.append_nil] at this
theorem MInv.step {ps : PairL} {k : Nat} {zs : List Int} {h : Nat → Nat} (M : MInv ps k zs h) {L R : List Int} (hL : Tm.err L = 0) (hR : Tm.err R = 0) (lL : L.length ≤ 30) (lR : R.length ≤ 30) (hk : k < 40) (eL : (ps[k]?.getD ([], [])).1 = L) (eR : (ps[k]?.getD ([], [])).2 = R) (h0 : 0 < L.length) (h1 : 0 < R.length) {h' : Nat → Nat} (hL' : TieL (zs ++ L ++ R) h h' [(zs.length, (zs ++ L).length)]) (S' : ∃ T, St (zs ++ L ++ R) T h') : MInv ps (k + 1) (zs ++ L ++ R) h' := by
  obtain ⟨T, S⟩ := M.st
  have G1 := M.good.ext hL (by have := M.len; omega)
  have G2 := M.good2 hL hR lL lR hk
  have S1 : St (zs ++ L) T h := S.ext
  have hlen : (zs ++ L ++ R).length = zs.length + L.length + R.length := by rw [List.length_append, List.length_append]
  have c1 := MInv.at1 (zs := zs) (R := R) hL
  have c2 := MInv.at2 (zs := zs) (L := L) hR
  refine ⟨G2, S', hL'.close [] ((Closed.ext G1 S1 G2 (Closed.ext M.good S G1 M.closed)).more), by have := M.len; omega, fun θ hθ H => ?_, fun j hj => ?_⟩
  · obtain ⟨H1, H2⟩ := H.succ
    refine hL'.sound θ hθ ((M.sound θ hθ H1).ext M.good S |>.ext G1 S1) fun p q hm => ?_
    simp only [List.mem_cons, List.not_mem_nil, or_false, Prod.mk.injEq] at hm
    obtain ⟨rfl, rfl⟩ := hm
    rw [c1, c2, ← eL, ← eR]
    exact H2
  · by_cases e : j = k
    · subst e
      exact ⟨zs.length, (zs ++ L).length, by omega, by rw [hlen, List.length_append]; omega, by rw [c1, eL], by rw [c2, eR], hL'.tied _ _ (by simp)⟩
    · obtain ⟨p, q, hp, hq, e1, e2, e3⟩ := M.tied j (by omega)
      have hp1 : p < (zs ++ L).length := by rw [List.length_append]; omega
      have hq1 : q < (zs ++ L).length := by rw [List.length_append]; omega
      refine ⟨p, q, by omega, by omega, by rw [cont_ext G1 hp1, cont_ext M.good hp, e1], by rw [cont_ext G1 hq1, cont_ext M.good hq, e2], hL'.coarse p q (by omega) (by omega) ?_⟩
      rw [hd_ext hp1, hd_ext hp, hd_ext hq1, hd_ext hq, e3]
theorem MInv.no {ps : PairL} {k : Nat} {zs : List Int} {h : Nat → Nat} (M : MInv ps k zs h) {L R : List Int} (hL : Tm.err L = 0) (hR : Tm.err R = 0) (lL : L.length ≤ 30) (hk : k < 40) (eL : (ps[k]?.getD ([], [])).1 = L) (eR : (ps[k]?.getD ([], [])).2 = R) (hN : No (zs ++ L ++ R) h [(zs.length, (zs ++ L).length)]) : ∀ θ, TermSb θ → ¬ Same ps (k + 1) θ := fun θ hθ H => by
  obtain ⟨T, S⟩ := M.st
  have G1 := M.good.ext hL (by have := M.len; omega)
  have S1 : St (zs ++ L) T h := S.ext
  obtain ⟨H1, H2⟩ := H.succ
  refine hN θ hθ ((M.sound θ hθ H1).ext M.good S |>.ext G1 S1) fun p q hm => ?_
  simp only [List.mem_cons, List.not_mem_nil, or_false, Prod.mk.injEq] at hm
  obtain ⟨rfl, rfl⟩ := hm
  rw [MInv.at1 (zs := zs) (R := R) hL, MInv.at2 (zs := zs) (L := L) hR, ← eL, ← eR]
  exact H2
/-- What is found: σ makes all pairs the same, whatever else does is made of it, and it takes the least variables. -/
structure Mgu (ps : PairL) (σ : Sb) : Prop where
  term : TermSb σ
  vars : ∀ v, -8 ≤ v → v < 0 → ∀ s ∈ σ v, -8 ≤ s ∧ s < 6
  same : Same ps ps.length σ
  most : ∀ θ, TermSb θ → Same ps ps.length θ → ∀ v, -8 ≤ v → v < 0 → θ v = App θ (σ v)
  least : ∀ v u, -8 ≤ v → v < 0 → σ v = [u] → u < 0 → v ≤ u
theorem MInv.mgu {ps : PairL} {zs : List Int} {h : Nat → Nat} (M : MInv ps ps.length zs h) (F : ∀ i, i < 8 → Fin zs h i) : ∃ σ, Mgu ps σ ∧ ∀ i, i < 8 → Exp zs h i (σ (-1 - (i : Int))) := by
  obtain ⟨T, S⟩ := M.st
  obtain ⟨σ, Sg⟩ := Sigma.of M.good S M.closed F
  have hv : ∀ v, -8 ≤ v → v < 0 → ∀ s ∈ σ v, -8 ≤ s ∧ s < 6 := fun v h1 h2 => by
    have hE := Sg.exp (-1 - v).toNat (by omega)
    rw [show -1 - (((-1 - v).toNat : Nat) : Int) = v from by omega] at hE
    exact hE.vars M.good S (by have := M.good.eight; omega)
  refine ⟨σ, ⟨Sg.term, hv, fun j hj => ?_, fun θ hθ H => Sg.most θ (M.sound θ hθ H), Sg.least⟩, Sg.exp⟩
  obtain ⟨p, q, hp, hq, e1, e2, e3⟩ := M.tied j hj
  have a := Exp.of_sigma M.good S M.closed Sg.exp _ p (Nat.le_refl _) hp
  have b := Exp.of_sigma M.good S M.closed Sg.exp _ q (Nat.le_refl _) hq
  have := (a.move e3).one _ b
  rw [e1, e2] at this
  exact this
/-- There is but one. -/
theorem Mgu.one {ps : PairL} {σ τ : Sb} (A : Mgu ps σ) (B : Mgu ps τ) : ∀ v, -8 ≤ v → v < 0 → σ v = τ v :=
  canon_one A.term B.term (fun v h1 h2 s hs _ => (A.vars v h1 h2 s hs).1) (fun v h1 h2 s hs _ => (B.vars v h1 h2 s hs).1) (B.most σ A.term A.same) (A.most τ B.term B.same) A.least B.least
end Wb

end Go.Proofs.Ytloealnfbpegnab

namespace Go.Proofs.Ytloealnfbpegnab
open Go.Proofs Go.RowKit Go.Shelf Go.Maps

abbrev RuleL := List (List Int × List Int)
/-- A SLICE OF RULES THAT CAN BE READ. -/
def RulesAt (n : Nat) (W : World) (a : Option Addr) (rs : RuleL) : Prop :=
  ∀ k, k < rs.length → ∃ b off, a = some ⟨b, off, none⟩ ∧ b < n ∧ ∃ aL cL aR cR, W.cell? ⟨b, off + k * 2, none⟩ = some (.slice aL (rs[k]?.getD ([], [])).1.length cL) ∧ W.cell? ⟨b, off + k * 2 + 1, none⟩ = some (.slice aR (rs[k]?.getD ([], [])).2.length cR) ∧
    Ints n W aL (rs[k]?.getD ([], [])).1 ∧ Ints n W aR (rs[k]?.getD ([], [])).2 ∧ (rs[k]?.getD ([], [])).1.length ≤ cL ∧ cL ≤ maxLen ∧ (rs[k]?.getD ([], [])).2.length ≤ cR ∧ cR ≤ maxLen
theorem RulesAt.below {n : Nat} {A B : World} (h : Below n A B) {a : Option Addr} {rs : RuleL} (hi : RulesAt n A a rs) : RulesAt n B a rs := fun k hk => by
  obtain ⟨b, off, e, hb, aL, cL, aR, cR, h1, h2, h3, h4, r⟩ := hi k hk
  exact ⟨b, off, e, hb, aL, cL, aR, cR, (h.cell (p := ⟨b, off + k * 2, none⟩) hb).trans h1, (h.cell (p := ⟨b, off + k * 2 + 1, none⟩) hb).trans h2, h3.below h, h4.below h, r⟩
theorem RulesAt.mono {n m : Nat} (h : n ≤ m) {W : World} {a : Option Addr} {rs : RuleL} (hi : RulesAt n W a rs) : RulesAt m W a rs := fun k hk => by
  obtain ⟨b, off, e, hb, aL, cL, aR, cR, h1, h2, h3, h4, r⟩ := hi k hk
  exact ⟨b, off, e, by omega, aL, cL, aR, cR, h1, h2, h3.mono h, h4.mono h, r⟩

end Go.Proofs.Ytloealnfbpegnab

namespace Go.Proofs.Ytloealnfbpegnab
open Go.Proofs Go.RowKit Go.Shelf Go.Maps

def Tm.pairErr (L R : List Int) : Int := if Tm.err L = 0 then Tm.err R else Tm.err L
/-- The first error of pairs. -/
def Tm.firstPair : PairL → Int
  | [] => 0
  | r :: l => if Tm.pairErr r.1 r.2 = 0 then Tm.firstPair l else Tm.pairErr r.1 r.2
theorem Tm.firstPair_step {rs : PairL} {k : Nat} (hk : k < rs.length) (he : Tm.pairErr (rs[k]?.getD ([], [])).1 (rs[k]?.getD ([], [])).2 = 0) : Tm.firstPair (rs.drop k) = Tm.firstPair (rs.drop (k + 1)) := by
  rw [List.drop_eq_getElem_cons hk, Tm.firstPair]
  simp only [hk, List.getElem?_eq_getElem, Option.getD_some] at he
  rw [if_pos he]
theorem Tm.firstPair_at {rs : PairL} {k : Nat} (hk : k < rs.length) (he : Tm.pairErr (rs[k]?.getD ([], [])).1 (rs[k]?.getD ([], [])).2 ≠ 0) : Tm.firstPair (rs.drop k) = Tm.pairErr (rs[k]?.getD ([], [])).1 (rs[k]?.getD ([], [])).2 := by
  rw [List.drop_eq_getElem_cons hk, Tm.firstPair]
  simp only [hk, List.getElem?_eq_getElem, Option.getD_some] at he ⊢
  rw [if_neg he]
theorem Tm.firstPair_right {rs : PairL} (h : Tm.firstPair rs = 0) : ∀ k, k < rs.length → Tm.err (rs[k]?.getD ([], [])).1 = 0 ∧ Tm.err (rs[k]?.getD ([], [])).2 = 0 := by
  induction rs with
  | nil => intro k hk; simp at hk
  | cons r l ih =>
    rw [Tm.firstPair] at h
    by_cases he : Tm.pairErr r.1 r.2 = 0
    · rw [if_pos he] at h
      intro k hk
      cases k with
      | zero =>
        simp only [List.getElem?_cons_zero, Option.getD_some]
        unfold Tm.pairErr at he
        by_cases hl : Tm.err r.1 = 0
        · rw [if_pos hl] at he; exact ⟨hl, he⟩
        · rw [if_neg hl] at he; exact absurd he hl
      | succ k =>
        simp only [List.getElem?_cons_succ]
        exact ih h k (by simpa using hk)
    · rw [if_neg he] at h
      exact absurd h he

/-- What meet answers to right pairs. -/
def MeetOk (ps : PairL) (W : World) (e : Ending) : Prop :=
  ((∀ θ, Wb.TermSb θ → ¬ Wb.Same ps ps.length θ) ∧ e = .returned (.tuple #[.slice none 0 0, .bool false, .int .i64 0])) ∨
  ∃ σ, Wb.Mgu ps σ ∧ (((∀ i : Nat, i < 8 → (σ (-1 - (i : Int))).length ≤ 30) ∧ ∃ a, e = .returned (.tuple #[.slice a 8 8, .bool true, .int .i64 0]) ∧ Subs W.heap.size W a ((List.range 8).map fun i : Nat => σ (-1 - (i : Int)))) ∨
    ((∃ i : Nat, i < 8 ∧ 30 < (σ (-1 - (i : Int))).length) ∧ e = .returned (.tuple #[.slice none 0 0, .bool false, .int .i64 2])))
def MeetAns (ps : PairL) (W : World) (e : Ending) : Prop :=
  (Tm.firstPair ps ≠ 0 ∧ e = .returned (.tuple #[.slice none 0 0, .bool false, .int .i64 (Tm.firstPair ps)])) ∨ (Tm.firstPair ps = 0 ∧ MeetOk ps W e)

end Go.Proofs.Ytloealnfbpegnab

namespace Go.Proofs.Ytloealnfbpegnab
open Go.Proofs Go.RowKit Go.Shelf Go.Maps

/-- What stands behind the laying and tying of one pair. -/
def MeetR (F : Bool → Act) (n : Nat) (wr : World) (B1 B0 : Nat) (zs : List Int) (h : Nat → Nat) (p q : Nat) (e : Exit) (a' : Act) (w4 : World) : Prop :=
  e = .normal ∧ ∃ (qb : Bool) (v3 : Value), a' = F qb ∧ Below n wr w4 ∧ ((qb = true ∧ ∃ h', Wb.TieL zs h h' [(p, q)] ∧ FW w4 B1 B0 v3 zs h') ∨ (qb = false ∧ Wb.No zs h [(p, q)]))
theorem MeetR.panic {F : Bool → Act} {n : Nat} {wr : World} {B1 B0 : Nat} {zs : List Int} {h : Nat → Nat} {p q : Nat} {c : _} {a' : Act} {w4 : World} {G : Prop} (H : MeetR F n wr B1 B0 zs h p q (.panic c) a' w4) : G := by
  cases H.1

set_option maxRecDepth 100000 in
set_option maxHeartbeats 30000000 in
theorem meet_any (ps : PairL) (h40 : ps.length ≤ 40) (a : Option Addr) (cap : Nat) (w : World) (hP : RulesAt w.heap.size w a ps) :
    Calls Try.prog 35 #[.slice a ps.length cap] w fun e w' => Below w.heap.size w w' ∧ MeetAns ps w' e := by
  have h40' : (ps.length : Int) ≤ 40 := by omega
  have HP := hid hP
  clear hP
  go_enter Try.func35, Try.ntmps35
  go_wp2_with fail
  go_loopw [14] (fun v wr => ∃ k : Nat, k ≤ ps.length ∧ v = .int .i64 (k : Int) ∧ Hid (Tm.firstPair ps = Tm.firstPair (ps.drop k)) ∧ Below w.heap.size w wr) (fun v _ => ps.length - (intOf v).toNat)
  case atStart => exact ⟨0, Nat.zero_le _, rfl, hid rfl, Below.refl _ _⟩
  case round =>
    obtain ⟨k, hk, rfl, hst, hB⟩ := hrel
    by_cases hlt : k < ps.length
    · have hlt' : (k : Int) < (ps.length : Int) := by omega
      obtain ⟨b, off, rfl, hb, aL, cL, aR, cR, h1, h2, h3, h4, _⟩ := (HP.out.below hB) k hlt
      have hs1 := hid (Tm.firstPair_step hlt)
      have hs2 := hid (Tm.firstPair_at hlt)
      obtain ⟨L, hL⟩ : ∃ L, (ps[k]?.getD ([], [])).1 = L := ⟨_, rfl⟩
      obtain ⟨R, hR⟩ : ∃ R, (ps[k]?.getD ([], [])).2 = R := ⟨_, rfl⟩
      rw [hL] at h1 h3 hs1 hs2
      rw [hR] at h2 h4 hs1 hs2
      have hBa : Below wr.heap.size wr (wr.alloc (.cells #[.slice aL L.length cL, .slice aR R.length cR] 60)) := (Below.refl _ wr).alloc (Nat.le_refl _) _
      have hC1 := hid (check_any L aL cL (wr.alloc (.cells #[.slice aL L.length cL, .slice aR R.length cR] 60)) (((h3.mono hB.size).below hBa).mono hBa.size))
      have hC2 := hid (fun w2 (hB2 : Below (wr.alloc (.cells #[.slice aL L.length cL, .slice aR R.length cR] 60)).heap.size (wr.alloc (.cells #[.slice aL L.length cL, .slice aR R.length cR] 60)) w2) => check_any R aR cR w2 (((((h4.mono hB.size).below hBa).mono hBa.size).below hB2).mono hB2.size))
      have hBw := hB.trans (hBa.mono hB.size)
      have hq : Hid (Tm.pairErr L R = if Tm.err L = 0 then Tm.err R else Tm.err L) := rfl
      have hsa : (wr.alloc (.cells #[.slice aL L.length cL, .slice aR R.length cR] 60)).heap.size = wr.heap.size + 1 := by simp
      have hcp : (wr.alloc (.cells #[.slice aL L.length cL, .slice aR R.length cR] 60)).cell? ⟨wr.heap.size, 1, none⟩ = some (.slice aR R.length cR) := (cell_at (World.alloc_heap_new wr _) 1).trans rfl
      clear hL hR h3 h4
      by_cases heL : Tm.err L = 0
      · rw [heL] at hC1
        by_cases heR : Tm.err R = 0
        · rw [heR] at hC2
          have Hs := hid (hs1.out (by rw [hq.out, if_pos heL, heR]))
          clear heL heR hs1 hs2 hq
          go_wp2_with (first
            | (go_at_call_of 33 (Value.slice aL L.length cL); refine hC1.out.mono ?_; clear hC1; rintro e w2 ⟨rfl, b2⟩; have hc2 := (b2.cell (p := ⟨wr.heap.size, 1, none⟩) (by rw [hsa]; exact Nat.lt_succ_self _)).trans hcp)
            | (go_at_call_of 33 (Value.slice aR R.length cR); refine (hC2.out w2 b2).mono ?_; clear hC2; rintro e w5 ⟨rfl, b5⟩))
          go_roundw
          case rel => exact ⟨k + 1, by omega, by go_num, hid (hst.out.trans Hs.out), (hBw.trans (b2.mono hBw.size)).trans (b5.mono (hBw.trans (b2.mono hBw.size)).size)⟩
          case measure => simp [intOf]; omega
        · have hn : (Tm.err R != 0) = true := by simpa using heR
          have Hs := hid (hs2.out (by rw [hq.out, if_pos heL]; exact heR))
          have Hv := hid (show Tm.pairErr L R = Tm.err R by rw [hq.out, if_pos heL])
          have hne := hid heR
          clear heL heR hs1 hs2 hq
          generalize Tm.err R = q at *
          go_wp2_with (first
            | (go_at_call_of 33 (Value.slice aL L.length cL); refine hC1.out.mono ?_; clear hC1; rintro e w2 ⟨rfl, b2⟩; have hc2 := (b2.cell (p := ⟨wr.heap.size, 1, none⟩) (by rw [hsa]; exact Nat.lt_succ_self _)).trans hcp)
            | (go_at_call_of 33 (Value.slice aR R.length cR); refine (hC2.out w2 b2).mono ?_; clear hC2; rintro e w5 ⟨rfl, b5⟩))
          go_ret3
          have he := hst.out.trans (Hs.out.trans Hv.out)
          exact ⟨(hBw.trans (b2.mono hBw.size)).trans (b5.mono (hBw.trans (b2.mono hBw.size)).size), .inl ⟨by rw [he]; exact hne.out, by rw [he]; rfl⟩⟩
      · have hn : (Tm.err L != 0) = true := by simpa using heL
        have Hs := hid (hs2.out (by rw [hq.out, if_neg heL]; exact heL))
        have Hv := hid (show Tm.pairErr L R = Tm.err L by rw [hq.out, if_neg heL])
        have hne := hid heL
        clear heL hs1 hs2 hq
        generalize Tm.err L = q at *
        go_wp2_with (first
          | (go_at_call_of 33 (Value.slice aL L.length cL); refine hC1.out.mono ?_; clear hC1; rintro e w2 ⟨rfl, b2⟩))
        go_ret3
        have he := hst.out.trans (Hs.out.trans Hv.out)
        exact ⟨hBw.trans (b2.mono hBw.size), .inl ⟨by rw [he]; exact hne.out, by rw [he]; rfl⟩⟩
    · obtain rfl : k = ps.length := by omega
      have hok : Hid (Tm.firstPair ps = 0) := by
        show _ = _
        rw [hst.out, List.drop_length]
        rfl
      go_wp2_with (first
        | (go_at_call 49; refine (newWeb_any wr).mono ?_; rintro e w5 ⟨v5, rfl, hF5, hB5⟩))
      have hsw := hB.size
      have hB5w := hB.trans (hB5.mono hB.size)
      have HF5 := hid hF5
      obtain ⟨W0, hW0⟩ : ∃ n, n = wr.heap.size := ⟨_, rfl⟩
      rw [← hW0] at HF5 hsw
      clear hF5 hst
      go_wp2_with fail
      rw [← hW0]
      clear hW0 hB5 hB
      go_loopw [34] (fun x wq => ∃ (k : Nat) (zs : List Int) (h : Nat → Nat) (v : Value), k ≤ ps.length ∧ x = .int .i64 (k : Int) ∧ Hid (Wb.MInv ps k zs h) ∧ Hid (FW wq (W0 + 1) W0 v zs h) ∧ Hid (Below w.heap.size w wq)) (fun x _ => ps.length - (intOf x).toNat)
      case atStart => exact ⟨0, _, _, v5, by omega, rfl, Wb.MInv.start ps, HF5, hB5w⟩
      case round =>
        obtain ⟨k, zs, h, v, hk2, rfl, hM, hF, hBq⟩ := hrel
        by_cases hlt : k < ps.length
        · have hlt' : (k : Int) < (ps.length : Int) := by omega
          obtain ⟨b, off, rfl, hb, aL, cL, aR, cR, h1, h2, h3, h4, _⟩ := (HP.out.below hBq.out) k hlt
          obtain ⟨eL0, eR0⟩ := Tm.firstPair_right hok.out k hlt
          obtain ⟨L, hL⟩ : ∃ L, (ps[k]?.getD ([], [])).1 = L := ⟨_, rfl⟩
          obtain ⟨R, hR⟩ : ∃ R, (ps[k]?.getD ([], [])).2 = R := ⟨_, rfl⟩
          rw [hL] at h1 h3 eL0
          rw [hR] at h2 h4 eR0
          have lL := Tm.err_len eL0
          have lR := Tm.err_len eR0
          have pL := Tm.err_pos eL0
          have pR := Tm.err_pos eR0
          have hzl := hM.out.len
          have G2 := hid (hM.out.good2 eL0 eR0 lL lR (by omega))
          have hsz := hBq.out.size
          have hlw := hF.out.lt
          obtain ⟨p, hp⟩ : ∃ p, p = zs.length := ⟨_, rfl⟩
          obtain ⟨q, hq⟩ : ∃ q, q = (zs ++ L).length := ⟨_, rfl⟩
          have hpq : q = p + L.length := by rw [hp, hq, List.length_append]
          have hBa : Below wr.heap.size wr ((wr.alloc (.cells #[.slice aL L.length cL, .slice aR R.length cR] 60)).drewN 1) := below_drewN ((Below.refl _ wr).alloc (Nat.le_refl _) _) 1
          have hsa : ((wr.alloc (.cells #[.slice aL L.length cL, .slice aR R.length cR] 60)).drewN 1).heap.size = wr.heap.size + 1 := by show (wr.alloc _).heap.size = _; simp
          have hblk : ((wr.alloc (.cells #[.slice aL L.length cL, .slice aR R.length cR] 60)).drewN 1).heap[wr.heap.size]? = some (.cells #[.slice aL L.length cL, .slice aR R.length cR] 60) := World.alloc_heap_new wr _
          have hnone : ∀ {x : Option Addr} {t : List Int} {W : World} {n c : Nat}, Ints n W x t → 0 < t.length → x = none → t.length = 0 ∧ c = 0 := fun {x t W n c} hI h0 e => by
            obtain ⟨b', off', e', _⟩ := hI.at h0
            rw [e] at e'
            cases e'
          have hC1 := hid (fw_lay zs L h (W0 + 1) W0 v aL cL _ (hF.out.keep hBa) (((h3.mono hsz).below hBa).mono hBa.size) (hnone h3 pL) (by omega))
          have hC2 := hid (fun w2 v2 (hF2 : FW w2 (W0 + 1) W0 v2 (zs ++ L) h) (hB2 : Below w.heap.size wr w2) => fw_lay (zs ++ L) R h (W0 + 1) W0 v2 aR cR w2 hF2 ((h4.below hB2).mono (by have := hB2.size; omega)) (hnone h4 pR) (by rw [List.length_append]; omega))
          rw [← hp] at hC1
          rw [← hq] at hC2
          have hlen3 : (zs ++ L ++ R).length = p + L.length + R.length := by rw [hp, List.length_append, List.length_append]
          have hT := hid (fun w3 v3 (hF3 : FW w3 (W0 + 1) W0 v3 (zs ++ L ++ R) h) => fw_tie (zs ++ L ++ R) G2.out h (W0 + 1) W0 v3 p q w3 (by omega) (by omega) hF3)
          have hstep := hid (fun h' hTL S' => hM.out.step eL0 eR0 lL lR (by omega) hL hR pL pR (h' := h') hTL S')
          have hno := hid (fun hN => hM.out.no eL0 eR0 lL (by omega) hL hR hN)
          rw [← hp, ← hq] at hstep hno
          have hwk : Hid (∀ (w1 w2 : World) (u : Value) (zz : List Int) (hh : Nat → Nat), FW w1 (W0 + 1) W0 u zz hh → WKeep w1 w2 (W0 + 1) W0 u → Below w.heap.size w1 w2) := fun w1 w2 u zz hh hf hk => ⟨hk.1, hk.2.1, hk.2.2.1, hk.2.2.2.1, fun x hx => hk.2.2.2.2 x (by have := hf.lt; omega) (by omega) (by omega) (fun e => by have := (World.ownsRow.lt hf.own.2 x e.symm).1; omega)⟩
          have hFa := hid (hF.out.keep hBa)
          have hvo := hid (fun x (e : v.ownBlock = some x) => (World.ownsRow.lt hF.out.own.2 x e).2)
          clear hL hR h3 h4 hp hq hnone hM hF eL0 eR0 hpq hlen3
          have hcc : Hid (∀ W : World, W.heap[wr.heap.size]? = some (.cells #[.slice aL L.length cL, .slice aR R.length cR] 60) → W.cell? ⟨wr.heap.size, 0, none⟩ = some (.slice aL L.length cL) ∧ W.cell? ⟨wr.heap.size, 1, none⟩ = some (.slice aR R.length cR)) := fun W hW => ⟨(cell_at hW 0).trans rfl, (cell_at hW 1).trans rfl⟩
          have hb2 : Hid (∀ (w2 : World), WKeep ((wr.alloc (.cells #[.slice aL L.length cL, .slice aR R.length cR] 60)).drewN 1) w2 (W0 + 1) W0 v → w2.heap[wr.heap.size]? = some (.cells #[.slice aL L.length cL, .slice aR R.length cR] 60)) := fun w2 hk => (hk.2.2.2.2 wr.heap.size (by rw [hsa]; omega) (by omega) (by omega) (fun e => by have := hvo.out _ e.symm; omega)).trans hblk
          have hS0 := hcc.out _ hblk
          have hS0' : (wr.alloc (.cells #[.slice aL L.length cL, .slice aR R.length cR] 60)).cell? ⟨wr.heap.size, 0, none⟩ = some (.slice aL L.length cL) ∧ (wr.alloc (.cells #[.slice aL L.length cL, .slice aR R.length cR] 60)).cell? ⟨wr.heap.size, 1, none⟩ = some (.slice aR R.length cR) := hS0
          go_wp2_with fail
          have mixed : Try.prog.follows .mixedOrders = true := by kernel_rfl
          refine wp_mono (Q := MeetR (fun qb => { tmps := #[.slice (some ⟨b, off, none⟩) ps.length cap, undef, u2, u3, u4, undef, u6, u7, u8, .pointer (some ⟨W0 + 1, 0, none⟩), undef, .pointer (some ⟨wr.heap.size, 0, none⟩), .slice (some ⟨b, off, none⟩) ps.length cap, .int .i64 (ps.length : Int), .int .i64 (ps.length : Int), .bool false, u16, u17, u18, u19, u20, u21, u22, u23, u24, u25, u26, u27, u28, u29, u30, .pointer (some ⟨W0 + 1, 0, none⟩), .slice (some ⟨b, off, none⟩) ps.length cap, .int .i64 (ps.length : Int), .int .i64 (k : Int), .bool true, .pointer (some ⟨b, off + k * 2, none⟩), .agg #[.slice aL L.length cL, .slice aR R.length cR], .pointer (some ⟨W0 + 1, 0, none⟩), .pointer (some ⟨W0 + 1, 0, none⟩), .pointer (some ⟨wr.heap.size, 0, none⟩), .slice aL L.length cL, .int .i64 (p : Int), .pointer (some ⟨W0 + 1, 0, none⟩), .pointer (some ⟨wr.heap.size, 1, none⟩), .slice aR R.length cR, .int .i64 (q : Int), .bool qb, .bool !qb, u49, undef, undef, undef, undef, undef, undef, undef], defers := [] }) w.heap.size wr (W0 + 1) W0 (zs ++ L ++ R) h p q) ?reg ?aft
          case reg =>
           refine wp_region_any mixed ?_
           change wpAny _ _ _ _ _ _ _ (World.drew _)
           show wpAny _ _ _ _ 11 (Array.replicate 11 false) _ _
           refine wpAny_take (i := 0) (v := .pointer (some ⟨W0 + 1, 0, none⟩)) rfl (by kernel_rfl) (by kernel_rfl) (by kernel_rfl) (fun _ _ _ h => h.panic) (Or.inl ⟨by rfl, fun w => by go_simp⟩) ?_
           refine wpAny_take (i := 1) (v := .pointer (some ⟨W0 + 1, 0, none⟩)) rfl (by kernel_rfl) (by kernel_rfl) (by kernel_rfl) (fun _ _ _ h => h.panic) (Or.inl ⟨by rfl, fun w => by go_simp⟩) ?_
           refine wpAny_take (i := 2) (v := .pointer (some ⟨wr.heap.size, 0, none⟩)) rfl (by kernel_rfl) (by kernel_rfl) (by kernel_rfl) (fun _ _ _ h => h.panic) (Or.inl ⟨by rfl, fun w => by go_simp⟩) ?_
           refine wpAny_take (i := 5) (v := .pointer (some ⟨W0 + 1, 0, none⟩)) rfl (by kernel_rfl) (by kernel_rfl) (by kernel_rfl) (fun _ _ _ h => h.panic) (Or.inl ⟨by rfl, fun w => by go_simp⟩) ?_
           refine wpAny_take (i := 6) (v := .pointer (some ⟨wr.heap.size, 1, none⟩)) rfl (by kernel_rfl) (by kernel_rfl) (by kernel_rfl) (fun _ _ _ h => h.panic) (Or.inl ⟨by rfl, fun w => by go_simp⟩) ?_
           refine wpAny_ready (rs := [3, 7]) (by kernel_rfl) (by simp) ?_
           refine AllReady.cons rfl (fun K hK => ?_) (AllReady.cons rfl (fun K hK => ?_) AllReady.nil)
           · go_simp
             refine hK _ _ ?_
             clear hK K
             refine wpAny_ready (rs := [4, 7]) (by kernel_rfl) (by simp) ?_
             refine AllReady.cons rfl (fun K hK => ?_) (AllReady.cons rfl (fun K hK => ?_) AllReady.nil)
             · go_simp
               refine hC1.out.mono ?_
               rintro e w2 ⟨rfl, v2, hF2, hK2, ho2⟩
               have hb22 := hb2.out w2 hK2
               have hS2 : w2.cell? ⟨wr.heap.size, 0, none⟩ = some (.slice aL L.length cL) ∧ w2.cell? ⟨wr.heap.size, 1, none⟩ = some (.slice aR R.length cR) := hcc.out w2 hb22
               have c21 := hS2.2
               have hB2 : Below w.heap.size wr w2 := (hBa.mono hsz).trans (hwk.out _ w2 v _ _ hFa.out hK2)
               refine hK _ _ ?_
               clear hK K
               refine wpAny_ready (rs := [7]) (by kernel_rfl) (by simp) ?_
               refine AllReady.cons rfl (fun K hK => ?_) AllReady.nil
               go_simp
               refine hK _ _ ?_
               clear hK K
               refine wpAny_ready (rs := [8]) (by kernel_rfl) (by simp) ?_
               refine AllReady.cons rfl (fun K hK => ?_) AllReady.nil
               go_simp
               refine (hC2.out w2 v2 hF2 hB2).mono ?_
               rintro e w3 ⟨rfl, v3, hF3, hK3, ho3⟩
               have hb33 : w3.heap[wr.heap.size]? = some (.cells #[.slice aL L.length cL, .slice aR R.length cR] 60) := (hK3.2.2.2.2 wr.heap.size (Array.getElem?_eq_some_iff.1 hb22).1 (by omega) (by omega) (fun e => by rcases ho2 _ e.symm with h | h; exact absurd (hvo.out _ h) (Nat.lt_irrefl _); rw [hsa] at h; omega)).trans hb22
               have hS3 : w3.cell? ⟨wr.heap.size, 0, none⟩ = some (.slice aL L.length cL) ∧ w3.cell? ⟨wr.heap.size, 1, none⟩ = some (.slice aR R.length cR) := hcc.out w3 hb33
               have hB3 : Below w.heap.size wr w3 := hB2.trans (hwk.out _ w3 v2 _ _ hF2 hK3)
               refine hK _ _ ?_
               clear hK K
               refine wpAny_ready (rs := [9]) (by kernel_rfl) (by simp) ?_
               refine AllReady.cons rfl (fun K hK => ?_) AllReady.nil
               go_simp
               refine (hT.out w3 v3 hF3).mono ?_
               rintro e w4 ⟨qb, rfl, hK4, hq4⟩
               have hb44 : w4.heap[wr.heap.size]? = some (.cells #[.slice aL L.length cL, .slice aR R.length cR] 60) := (hK4.block _ (Array.getElem?_eq_some_iff.1 hb33).1 (by omega)).trans hb33
               have hS4 : w4.cell? ⟨wr.heap.size, 0, none⟩ = some (.slice aL L.length cL) ∧ w4.cell? ⟨wr.heap.size, 1, none⟩ = some (.slice aR R.length cR) := hcc.out w4 hb44
               have hB4 : Below w.heap.size wr w4 := hB3.trans ⟨hK4.os, hK4.tape, hK4.output, hK4.size, fun x hx => hK4.block x (by have := hB3.size; omega) (by omega)⟩
               refine hK _ _ ?_
               clear hK K
               refine wpAny_ready (rs := [10]) (by kernel_rfl) (by simp) ?_
               refine AllReady.cons rfl (fun K hK => ?_) AllReady.nil
               go_simp
               refine hK _ _ ?_
               clear hK K
               refine wpAny_done (by kernel_rfl) ?_ _
               exact ⟨rfl, qb, v3, rfl, hB4, hq4⟩
             · go_simp
               refine hK _ _ ?_
               clear hK K
               refine wpAny_ready (rs := [4]) (by kernel_rfl) (by simp) ?_
               refine AllReady.cons rfl (fun K hK => ?_) AllReady.nil
               go_simp
               refine hC1.out.mono ?_
               rintro e w2 ⟨rfl, v2, hF2, hK2, ho2⟩
               have hb22 := hb2.out w2 hK2
               have hS2 : w2.cell? ⟨wr.heap.size, 0, none⟩ = some (.slice aL L.length cL) ∧ w2.cell? ⟨wr.heap.size, 1, none⟩ = some (.slice aR R.length cR) := hcc.out w2 hb22
               have c21 := hS2.2
               have hB2 : Below w.heap.size wr w2 := (hBa.mono hsz).trans (hwk.out _ w2 v _ _ hFa.out hK2)
               refine hK _ _ ?_
               clear hK K
               refine wpAny_ready (rs := [8]) (by kernel_rfl) (by simp) ?_
               refine AllReady.cons rfl (fun K hK => ?_) AllReady.nil
               go_simp
               refine (hC2.out w2 v2 hF2 hB2).mono ?_
               rintro e w3 ⟨rfl, v3, hF3, hK3, ho3⟩
               have hb33 : w3.heap[wr.heap.size]? = some (.cells #[.slice aL L.length cL, .slice aR R.length cR] 60) := (hK3.2.2.2.2 wr.heap.size (Array.getElem?_eq_some_iff.1 hb22).1 (by omega) (by omega) (fun e => by rcases ho2 _ e.symm with h | h; exact absurd (hvo.out _ h) (Nat.lt_irrefl _); rw [hsa] at h; omega)).trans hb22
               have hS3 : w3.cell? ⟨wr.heap.size, 0, none⟩ = some (.slice aL L.length cL) ∧ w3.cell? ⟨wr.heap.size, 1, none⟩ = some (.slice aR R.length cR) := hcc.out w3 hb33
               have hB3 : Below w.heap.size wr w3 := hB2.trans (hwk.out _ w3 v2 _ _ hF2 hK3)
               refine hK _ _ ?_
               clear hK K
               refine wpAny_ready (rs := [9]) (by kernel_rfl) (by simp) ?_
               refine AllReady.cons rfl (fun K hK => ?_) AllReady.nil
               go_simp
               refine (hT.out w3 v3 hF3).mono ?_
               rintro e w4 ⟨qb, rfl, hK4, hq4⟩
               have hb44 : w4.heap[wr.heap.size]? = some (.cells #[.slice aL L.length cL, .slice aR R.length cR] 60) := (hK4.block _ (Array.getElem?_eq_some_iff.1 hb33).1 (by omega)).trans hb33
               have hS4 : w4.cell? ⟨wr.heap.size, 0, none⟩ = some (.slice aL L.length cL) ∧ w4.cell? ⟨wr.heap.size, 1, none⟩ = some (.slice aR R.length cR) := hcc.out w4 hb44
               have hB4 : Below w.heap.size wr w4 := hB3.trans ⟨hK4.os, hK4.tape, hK4.output, hK4.size, fun x hx => hK4.block x (by have := hB3.size; omega) (by omega)⟩
               refine hK _ _ ?_
               clear hK K
               refine wpAny_ready (rs := [10]) (by kernel_rfl) (by simp) ?_
               refine AllReady.cons rfl (fun K hK => ?_) AllReady.nil
               go_simp
               refine hK _ _ ?_
               clear hK K
               refine wpAny_done (by kernel_rfl) ?_ _
               exact ⟨rfl, qb, v3, rfl, hB4, hq4⟩
           · go_simp
             refine hK _ _ ?_
             clear hK K
             refine wpAny_ready (rs := [3]) (by kernel_rfl) (by simp) ?_
             refine AllReady.cons rfl (fun K hK => ?_) AllReady.nil
             go_simp
             refine hK _ _ ?_
             clear hK K
             refine wpAny_ready (rs := [4]) (by kernel_rfl) (by simp) ?_
             refine AllReady.cons rfl (fun K hK => ?_) AllReady.nil
             go_simp
             refine hC1.out.mono ?_
             rintro e w2 ⟨rfl, v2, hF2, hK2, ho2⟩
             have hb22 := hb2.out w2 hK2
             have hS2 : w2.cell? ⟨wr.heap.size, 0, none⟩ = some (.slice aL L.length cL) ∧ w2.cell? ⟨wr.heap.size, 1, none⟩ = some (.slice aR R.length cR) := hcc.out w2 hb22
             have c21 := hS2.2
             have hB2 : Below w.heap.size wr w2 := (hBa.mono hsz).trans (hwk.out _ w2 v _ _ hFa.out hK2)
             refine hK _ _ ?_
             clear hK K
             refine wpAny_ready (rs := [8]) (by kernel_rfl) (by simp) ?_
             refine AllReady.cons rfl (fun K hK => ?_) AllReady.nil
             go_simp
             refine (hC2.out w2 v2 hF2 hB2).mono ?_
             rintro e w3 ⟨rfl, v3, hF3, hK3, ho3⟩
             have hb33 : w3.heap[wr.heap.size]? = some (.cells #[.slice aL L.length cL, .slice aR R.length cR] 60) := (hK3.2.2.2.2 wr.heap.size (Array.getElem?_eq_some_iff.1 hb22).1 (by omega) (by omega) (fun e => by rcases ho2 _ e.symm with h | h; exact absurd (hvo.out _ h) (Nat.lt_irrefl _); rw [hsa] at h; omega)).trans hb22
             have hS3 : w3.cell? ⟨wr.heap.size, 0, none⟩ = some (.slice aL L.length cL) ∧ w3.cell? ⟨wr.heap.size, 1, none⟩ = some (.slice aR R.length cR) := hcc.out w3 hb33
             have hB3 : Below w.heap.size wr w3 := hB2.trans (hwk.out _ w3 v2 _ _ hF2 hK3)
             refine hK _ _ ?_
             clear hK K
             refine wpAny_ready (rs := [9]) (by kernel_rfl) (by simp) ?_
             refine AllReady.cons rfl (fun K hK => ?_) AllReady.nil
             go_simp
             refine (hT.out w3 v3 hF3).mono ?_
             rintro e w4 ⟨qb, rfl, hK4, hq4⟩
             have hb44 : w4.heap[wr.heap.size]? = some (.cells #[.slice aL L.length cL, .slice aR R.length cR] 60) := (hK4.block _ (Array.getElem?_eq_some_iff.1 hb33).1 (by omega)).trans hb33
             have hS4 : w4.cell? ⟨wr.heap.size, 0, none⟩ = some (.slice aL L.length cL) ∧ w4.cell? ⟨wr.heap.size, 1, none⟩ = some (.slice aR R.length cR) := hcc.out w4 hb44
             have hB4 : Below w.heap.size wr w4 := hB3.trans ⟨hK4.os, hK4.tape, hK4.output, hK4.size, fun x hx => hK4.block x (by have := hB3.size; omega) (by omega)⟩
             refine hK _ _ ?_
             clear hK K
             refine wpAny_ready (rs := [10]) (by kernel_rfl) (by simp) ?_
             refine AllReady.cons rfl (fun K hK => ?_) AllReady.nil
             go_simp
             refine hK _ _ ?_
             clear hK K
             refine wpAny_done (by kernel_rfl) ?_ _
             exact ⟨rfl, qb, v3, rfl, hB4, hq4⟩
          case aft =>
            rintro e a' w4 ⟨rfl, qb, v3, rfl, hB4, hq4⟩
            clear hC1 hC2 hT hb2 hcc hS0 hS0' hwk hFa hvo hblk hBa
            rcases hq4 with ⟨rfl, h', hTL, hF4⟩ | ⟨rfl, hNo⟩
            · go_wp2
              go_roundw
              case rel =>
                have hB4w := hBq.out.trans hB4
                have HF4 := hid hF4
                obtain ⟨_, T4, _, _, S4, _⟩ := hF4
                exact ⟨k + 1, zs ++ L ++ R, h', v3, by omega, by go_num, hid (hstep.out h' hTL ⟨T4, S4⟩), HF4, hid hB4w⟩
              case measure => simp [intOf]; omega
            · go_wp2
              go_ret3
              have hB4w := hBq.out.trans hB4
              exact ⟨hB4w, .inr ⟨hok.out, .inl ⟨fun θ hθ H => hno.out hNo θ hθ (fun j hj => H j (by omega)), rfl⟩⟩⟩
        · obtain rfl : k = ps.length := by omega
          obtain ⟨T, hS⟩ := hM.out.st
          obtain ⟨b, c, rfl, T', N, S', hWb, _⟩ := hF.out.st (by have := hM.out.good.eight; omega)
          have hTB := hid (turnsBack_any zs hM.out.good T' h S' (W0 + 1) W0 b 0 c N wr hWb)
          have hGr := hid (fun w7 (hB7 : Below wr.heap.size wr w7) f (hf : ∀ i, i < 8 → Wb.Exp zs h i (f i)) => grow_any zs hM.out.good T' h S' (W0 + 1) W0 b 0 c N f hf w7 (hWb.below hB7))
          clear hWb hS
          go_wp2_with (first
            | (go_at_call 52; refine hTB.out.mono ?_; clear hTB; rintro e w7 ⟨hB7, (⟨rfl, hNo⟩ | ⟨rfl, hFin⟩)⟩)
            | (go_at_call 53; obtain ⟨σ, hσ, hE⟩ := hM.out.mgu hFin; refine (hGr.out w7 hB7 (fun i : Nat => σ (-1 - (i : Int))) hE).mono ?_; clear hGr; rintro e w8 ⟨hB8, (⟨h30, a8, rfl, hS8⟩ | ⟨h30, rfl⟩)⟩))
          · go_ret3
            exact ⟨hBq.out.trans (hB7.mono hBq.out.size), .inr ⟨hok.out, .inl ⟨fun θ hθ H => hNo θ hθ (hM.out.sound θ hθ H), rfl⟩⟩⟩
          · go_ret3
            have hB78 := hBq.out.trans (hB7.mono hBq.out.size)
            exact ⟨hB78.trans (hB8.mono hB78.size), .inr ⟨hok.out, .inr ⟨σ, hσ, .inl ⟨h30, a8, rfl, hS8⟩⟩⟩⟩
          · go_ret3
            have hB78 := hBq.out.trans (hB7.mono hBq.out.size)
            exact ⟨hB78.trans (hB8.mono hB78.size), .inr ⟨hok.out, .inr ⟨σ, hσ, .inr ⟨h30, rfl⟩⟩⟩⟩

end Go.Proofs.Ytloealnfbpegnab
