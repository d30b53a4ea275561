/-
  Parts of the proof: Mnw, Rul4, Rul5, Rul6, Rul7, Rng6, Rul8.
-/
import Derived.Test.YtgeknojpcjadkaaBlm11
import Derived.Test.YtgeknojpcjadkaaBlm7
import Derived.OwnWalkIn
import Derived.RangeFuncBox
import Derived.Test.YtgeknojpcjadkaaBlm5
namespace Go.Proofs.Ytgeknojpcjadkaa
open Go.Proofs Go.RowKit Go.Shelf Go.Maps
def IntT (W : World) (a : Option Addr) (zs : List Int) : Prop := ∀ j, j < zs.length → ∃ b off, a = some ⟨b, off, none⟩ ∧ (∃ cs p, W.heap[b]? = some (.cells cs 3 p)) ∧ W.cell? ⟨b, off + j, none⟩ = some (.int .i64 (zs[j]?.getD 0))
theorem IntT.ints {W : World} {a : Option Addr} {zs : List Int} (h : IntT W a zs) : Ints W.heap.size W a zs := fun j hj => by
  obtain ⟨b, off, e, ⟨cs, p, hb⟩, hc⟩ := h j hj
  exact ⟨b, off, e, (Array.getElem?_eq_some_iff.1 hb).1, hc⟩
theorem IntT.of {base : Nat} {W : World} {v : Value} {zs : List Int} (h : New base W v zs) : ∃ a c, v = .slice a zs.length c ∧ IntT W a zs ∧ zs.length ≤ c ∧ c ≤ maxLen ∧ (a = none → c = 0) := by
  rcases h.2 with ⟨rfl, hn⟩ | ⟨g, cap, cur, rfl, hb, hg, h1, h2, h3, h4⟩
  · exact ⟨none, 0, by rw [hn], fun j hj => by omega, by omega, by unfold maxLen; omega, fun _ => rfl⟩
  · refine ⟨_, cap, rfl, fun j hj => ⟨g, 0, rfl, ⟨cur, _, hg⟩, ?_⟩, h1, h2, fun e => by cases e⟩
    have := World.ownsRow.cellAt (xs := zs.map (Value.int .i64)) h j (by omega)
    rw [Nat.zero_add, this]
    simp [hj]
theorem IntT.keep {W W' : World} {a : Option Addr} {zs : List Int} (h : IntT W a zs) (hk : ∀ (b : Nat) (cs : Array Value) (p : Nat × Nat), W.heap[b]? = some (.cells cs 3 p) → W'.heap[b]? = W.heap[b]?) : IntT W' a zs := fun j hj => by
  obtain ⟨b, off, e, ⟨cs, p, hb⟩, hc⟩ := h j hj
  have h0 := hk b cs p hb
  exact ⟨b, off, e, ⟨cs, p, h0.trans hb⟩, (World.cell?_of_block (a := ⟨b, off + j, none⟩) h0).trans hc⟩
def termT (t : TypeId) : Prop := t = 204 ∨ t = 37
def SubT (W : World) (a : Option Addr) (ss : List (List Int)) : Prop :=
  ∀ j, j < ss.length → ∃ b off aj cj, a = some ⟨b, off, none⟩ ∧ (∃ cs t p, W.heap[b]? = some (.cells cs t p) ∧ termT t) ∧ W.cell? ⟨b, off + j, none⟩ = some (.slice aj (ss[j]?.getD []).length cj) ∧ IntT W aj (ss[j]?.getD []) ∧ (ss[j]?.getD []).length ≤ cj ∧ cj ≤ maxLen ∧ (aj = none → cj = 0)
theorem SubT.nil (W : World) (a : Option Addr) : SubT W a [] := fun j hj => by simp at hj
theorem SubT.subs {W : World} {a : Option Addr} {ss : List (List Int)} (h : SubT W a ss) : Subs W.heap.size W a ss := fun j hj => by
  obtain ⟨b, off, aj, cj, e, ⟨cs, t, p, hb, _⟩, hc, hI, r⟩ := h j hj
  exact ⟨b, off, aj, cj, e, (Array.getElem?_eq_some_iff.1 hb).1, hc, hI.ints, r⟩
theorem SubT.keep {W W' : World} {a : Option Addr} {ss : List (List Int)} (h : SubT W a ss) (hk : ∀ (b : Nat) (cs : Array Value) (t : TypeId) (p : Nat × Nat), W.heap[b]? = some (.cells cs t p) → t = 3 ∨ termT t → W'.heap[b]? = W.heap[b]?) : SubT W' a ss := fun j hj => by
  obtain ⟨b, off, aj, cj, e, ⟨cs, t, p, hb, ht⟩, hc, hI, r⟩ := h j hj
  have h0 := hk b cs t p hb (.inr ht)
  exact ⟨b, off, aj, cj, e, ⟨cs, t, p, h0.trans hb, ht⟩, (World.cell?_of_block (a := ⟨b, off + j, none⟩) h0).trans hc, hI.keep fun b cs p hb => hk b cs _ p hb (.inl rfl), r⟩
theorem SubT.below {W W' : World} {a : Option Addr} {ss : List (List Int)} (h : SubT W a ss) (hB : Below W.heap.size W W') : SubT W' a ss := h.keep fun b _ _ _ hb _ => hB.block b (Array.getElem?_eq_some_iff.1 hb).1
theorem SubT.of {base : Nat} {W : World} {v : Value} {ss : List (List Int)} (h : NewS base W v ss) : ∃ a c, v = .slice a ss.length c ∧ SubT W a ss ∧ ss.length ≤ c ∧ c ≤ maxLen := by
  obtain ⟨us, h1, h2⟩ := h
  have hh := h1
  rcases h1.2 with ⟨rfl, hn⟩ | ⟨g, cap, cur, rfl, hb, hg, q1, q2, _⟩
  · exact ⟨none, 0, by rw [hn], fun j hj => by omega, by omega, by unfold maxLen; omega⟩
  · refine ⟨_, cap, rfl, fun j hj => ?_, q1, q2⟩
    obtain ⟨u, hu, hN⟩ := h2 j hj
    obtain ⟨a, c, rfl, hI, c1, c2, c3⟩ := IntT.of hN
    have := World.ownsRow.cellAt hh j (by omega)
    rw [hu] at this
    exact ⟨g, 0, a, c, rfl, ⟨cur, _, _, hg, .inr rfl⟩, by rw [Nat.zero_add]; exact this, hI, c1, c2, c3⟩
theorem GrowInv.subt {w : World} {Bw Bm b off cap N : Nat} {zs : List Int} {T : Nat → Option Nat} {f : Nat → List Int} {W W' : World} (H : GrowInv w Bw Bm b off cap N zs T f 8 W) (hk : ∀ q, w.heap.size + 1 + 1 + 1 ≤ q → W'.heap[q]? = W.heap[q]?) : SubT W' (some ⟨w.heap.size + 1 + 1 + 1, 0, none⟩) ((List.range 8).map f) := by
  obtain ⟨⟨cs, hblk, h8, hc⟩, b0, b1, b2, hweb, hbl⟩ := H
  intro j hj
  have hj8 : j < 8 := by simpa using hj
  have ej : ((List.range 8).map f)[j]?.getD [] = f j := by simp [hj8]
  obtain ⟨u, hu, hN⟩ := hc j hj8
  have hblk' := (hk _ (Nat.le_refl _)).trans hblk
  have hN' : New (w.heap.size + 1 + 1 + 1 + 1) W' u (f j) := by
    refine ⟨hN.1, hN.2.elim .inl fun ⟨g, c, cur, h1, h2, h3, h4⟩ => .inr ⟨g, c, cur, h1, h2, (hk g (by omega)).trans h3, h4⟩⟩
  obtain ⟨a, c, rfl, hI, h1, h2, h3⟩ := IntT.of hN'
  rw [ej]
  exact ⟨w.heap.size + 1 + 1 + 1, 0, a, c, rfl, ⟨cs, _, _, hblk', .inl rfl⟩, by rw [Nat.zero_add, cell_at hblk', hu], hI, h1, h2, h3⟩
set_option maxRecDepth 100000 in
set_option maxHeartbeats 2000000 in
theorem grow_new (zs : List Int) (G : Wb.Good zs) (T : Nat → Option Nat) (h : Nat → Nat) (S : Wb.St zs T h) (Bw Bm b off cap N : Nat) (f : Nat → List Int) (hf : ∀ i, i < 8 → Wb.Exp zs h i (f i)) (w : World) (hW : WebAt w Bw Bm (some ⟨b, off, none⟩) cap zs N T) :
    Calls Try.prog 143 #[.pointer (some ⟨Bw, 0, none⟩)] w fun e w' => Below w.heap.size w w' ∧ (((∀ i, i < 8 → (f i).length ≤ 30) ∧ ∃ a, e = .returned (.tuple #[.slice a 8 8, .bool true, .int .i64 0]) ∧ SubT w' a ((List.range 8).map f)) ∨
      ((∃ i, i < 8 ∧ 30 < (f i).length) ∧ e = .returned (.tuple #[.slice none 0 0, .bool false, .int .i64 2]))) := by
  have hmf : ∀ (fn : Fn) (first cap : Array Value) (w : World), (Instr.makeFunc fn first cap).run Try.prog w = .ok (.func fn first cap) w := fun _ _ _ _ => rfl
  have h8 := G.eight
  obtain ⟨wl, ml⟩ := hW.lt
  have hbl : b < w.heap.size := by
    obtain ⟨b', off', e, hb, _⟩ := hW.ints.at (by omega)
    cases e
    exact hb
  have hI0 : Hid (GrowInv w Bw Bm b off cap N zs T f 0 ((((w.alloc (.cells #[.slice none 0 0] 58)).alloc (.cells #[.bool false] 4)).alloc (.cells #[.int .i64 0] 31)).alloc (.cells #[.slice none 0 0, .slice none 0 0, .slice none 0 0, .slice none 0 0, .slice none 0 0, .slice none 0 0, .slice none 0 0, .slice none 0 0] 204))) := by
    have hB : Below w.heap.size w ((((w.alloc (.cells #[.slice none 0 0] 58)).alloc (.cells #[.bool false] 4)).alloc (.cells #[.int .i64 0] 31)).alloc (.cells #[.slice none 0 0, .slice none 0 0, .slice none 0 0, .slice none 0 0, .slice none 0 0, .slice none 0 0, .slice none 0 0, .slice none 0 0] 204)) :=
      ((((Below.refl _ w).alloc (Nat.le_refl _) _).alloc (by simp) _).alloc (by simp; omega) _).alloc (by simp; omega) _
    have a0 := (((Boxed.new w 58 (.slice none 0 0)).alloc (.cells #[.bool false] 4)).alloc (.cells #[.int .i64 0] 31)).alloc (.cells #[.slice none 0 0, .slice none 0 0, .slice none 0 0, .slice none 0 0, .slice none 0 0, .slice none 0 0, .slice none 0 0, .slice none 0 0] 204)
    have a1 := ((Boxed.new (w.alloc (.cells #[.slice none 0 0] 58)) 4 (.bool false)).alloc (.cells #[.int .i64 0] 31)).alloc (.cells #[.slice none 0 0, .slice none 0 0, .slice none 0 0, .slice none 0 0, .slice none 0 0, .slice none 0 0, .slice none 0 0, .slice none 0 0] 204)
    have a2 := (Boxed.new ((w.alloc (.cells #[.slice none 0 0] 58)).alloc (.cells #[.bool false] 4)) 31 (.int .i64 0)).alloc (.cells #[.slice none 0 0, .slice none 0 0, .slice none 0 0, .slice none 0 0, .slice none 0 0, .slice none 0 0, .slice none 0 0, .slice none 0 0] 204)
    have a3 := World.alloc_heap_new (((w.alloc (.cells #[.slice none 0 0] 58)).alloc (.cells #[.bool false] 4)).alloc (.cells #[.int .i64 0] 31)) (.cells #[.slice none 0 0, .slice none 0 0, .slice none 0 0, .slice none 0 0, .slice none 0 0, .slice none 0 0, .slice none 0 0, .slice none 0 0] 204)
    simp only [World.size_alloc] at a1 a2 a3
    exact ⟨⟨_, a3, rfl, fun j hj => by omega⟩, a0, a1, a2, hW.below hB, hB⟩
  have HG := hid G
  have HS := hid S
  have Hf := hid hf
  clear G S hf hW
  go_enter_defers Try.func143, Try.ntmps143
  go_wp2_with fail
  go_loopw [8] (fun i wr => ∃ k : Nat, k ≤ 8 ∧ i = .int .i64 (k : Int) ∧ Hid (∀ j, j < k → (f j).length ≤ 30) ∧ Hid (GrowInv w Bw Bm b off cap N zs T f k wr)) (fun i _ => 8 - (intOf i).toNat)
  case atStart => exact ⟨0, by omega, rfl, fun j hj => by omega, hI0⟩
  case round =>
    obtain ⟨k, hk, rfl, hle, hI⟩ := hrel
    by_cases hlt : k < 8
    · have hlt' : (k : Int) < 8 := by omega
      have hC := grown_nil zs HG.out T h HS.out Bw Bm b off cap N (Hf.out k hlt) (by omega) wr hI.out.web
      by_cases h30 : (f k).length ≤ 30
      · have hC' := hid (hC.mono (R' := fun e w' => Below wr.heap.size wr w' ∧ ∃ v, e = .returned v ∧ New wr.heap.size w' v (f k)) (fun e w' hA => ⟨hA.1, hA.2.elim (fun h => h.2) (fun h => absurd h.1 (by omega))⟩))
        have hle' := hid (show ∀ j, j < k + 1 → (f j).length ≤ 30 from fun j hj => if e : j = k then e ▸ h30 else hle.out j (by omega))
        have hsz : w.heap.size + 1 + 1 + 1 + 1 ≤ wr.heap.size := by
          obtain ⟨cs, hblk, _⟩ := hI.out.arr
          have := (Array.getElem?_eq_some_iff.1 hblk).1
          omega
        clear hC h30 hle
        go_wp2_with (first
          | (go_at_call 159; refine hC'.out.mono ?_; clear hC'; rintro e w1 ⟨hB1, v, rfl, hN1⟩; obtain ⟨av, nv, cv, rfl⟩ := hN1.slice3; have hI1 := hid (hI.out.below hB1); obtain ⟨x1, cA, fA⟩ := hI1.out.cellA hlt))
        go_roundw
        case rel => exact ⟨k + 1, by omega, by go_num, hle', hid (hI1.out.set hlt ⟨wl, ml⟩ hbl hN1 hsz)⟩
        case measure => simp [intOf]; omega
      · have hC' := hid (hC.mono (R' := fun e w' => Below wr.heap.size wr w' ∧ e = .panicked manyChain) (fun e w' hA => ⟨hA.1, hA.2.elim (fun h => absurd h.1 h30) (fun h => h.2)⟩))
        clear hC
        go_wp2_with (first
          | (go_at_call 159; refine hC'.out.mono ?_; clear hC'; rintro e w1 ⟨hB1, rfl⟩))
        have hI1 := hI.out.below hB1
        refine leaves_cons (f := 158) (args := #[.pointer (some ⟨w.heap.size, 0, none⟩), .pointer (some ⟨w.heap.size + 1, 0, none⟩), .pointer (some ⟨w.heap.size + 1 + 1, 0, none⟩)]) (by simp) (by simp [go_sem]) ?_
        refine (grow_caught w.heap.size w1 hI1.b0 hI1.b1 hI1.b2).mono ?_
        rintro e u' w2 ⟨rfl, rfl, hB2, d0, d1, d2⟩
        exact ⟨_, results_box3 rfl rfl rfl rfl d0.cell d1.cell d2.cell, hI1.bl.trans hB2, .inr ⟨⟨k, hlt, by omega⟩, rfl⟩⟩
    · obtain rfl : k = 8 := by omega
      have e0 := hI.out.b0.cell
      have e1 := hI.out.b1.cell
      have e2 := hI.out.b2.cell
      have f0 := hI.out.b0.frozen
      have f1 := hI.out.b1.frozen
      have f2 := hI.out.b2.frozen
      go_wp2
      refine leaves_cons (f := 158) (args := #[.pointer (some ⟨w.heap.size, 0, none⟩), .pointer (some ⟨w.heap.size + 1, 0, none⟩), .pointer (some ⟨w.heap.size + 1 + 1, 0, none⟩)]) (by simp) (by simp [go_sem]) ?_
      refine (grow_idle ⟨w.heap.size, 0, none⟩ ⟨w.heap.size + 1, 0, none⟩ ⟨w.heap.size + 1 + 1, 0, none⟩ _).mono ?_
      rintro e u' w2 ⟨rfl, rfl, rfl⟩
      have hI1 := hI.out
      have d0 := ((hI1.b0.set (.slice (some ⟨w.heap.size + 1 + 1 + 1, 0, none⟩) 8 8)).other (B' := w.heap.size + 1) (by omega) (.bool true)).other (B' := w.heap.size + 1 + 1) (by omega) (.int .i64 0)
      have d1 := ((hI1.b1.other (B' := w.heap.size) (by omega) (.slice (some ⟨w.heap.size + 1 + 1 + 1, 0, none⟩) 8 8)).set (.bool true)).other (B' := w.heap.size + 1 + 1) (by omega) (.int .i64 0)
      have d2 := ((hI1.b2.other (B' := w.heap.size) (by omega) (.slice (some ⟨w.heap.size + 1 + 1 + 1, 0, none⟩) 8 8)).other (B' := w.heap.size + 1) (by omega) (.bool true)).set (.int .i64 0)
      refine ⟨_, results_box3 rfl rfl rfl rfl d0.cell d1.cell d2.cell, ?_, .inl ⟨hle.out, _, rfl, ?_⟩⟩
      · exact ((hI1.bl.setCell (p := ⟨w.heap.size, 0, none⟩) (Nat.le_refl _) _).setCell (p := ⟨w.heap.size + 1, 0, none⟩) (by show w.heap.size ≤ w.heap.size + 1; omega) _).setCell (p := ⟨w.heap.size + 1 + 1, 0, none⟩) (by show w.heap.size ≤ w.heap.size + 1 + 1; omega) _
      · refine hI1.subt (fun q hq => ?_)
        exact ((Below.heap_setCell _ ⟨w.heap.size + 1 + 1, 0, none⟩ _ q (show q ≠ w.heap.size + 1 + 1 by omega)).trans (Below.heap_setCell _ ⟨w.heap.size + 1, 0, none⟩ _ q (show q ≠ w.heap.size + 1 by omega))).trans (Below.heap_setCell _ ⟨w.heap.size, 0, none⟩ _ q (show q ≠ w.heap.size by omega))
def MeetOkT (ps : PairL) (W : World) (e : Ending) : Prop :=
  ((∀ θ, Wb.TermSb θ → ¬ Wb.Same ps ps.length θ) ∧ e = .returned (.tuple #[.slice none 0 0, .bool false, .int .i64 0])) ∨
  ∃ σ, Wb.Mgu ps σ ∧ (((∀ i : Nat, i < 8 → (σ (-1 - (i : Int))).length ≤ 30) ∧ ∃ a, e = .returned (.tuple #[.slice a 8 8, .bool true, .int .i64 0]) ∧ SubT W a ((List.range 8).map fun i : Nat => σ (-1 - (i : Int)))) ∨
    ((∃ i : Nat, i < 8 ∧ 30 < (σ (-1 - (i : Int))).length) ∧ e = .returned (.tuple #[.slice none 0 0, .bool false, .int .i64 2])))
def MeetAnsT (ps : PairL) (W : World) (e : Ending) : Prop :=
  (Tm.firstPair ps ≠ 0 ∧ e = .returned (.tuple #[.slice none 0 0, .bool false, .int .i64 (Tm.firstPair ps)])) ∨ (Tm.firstPair ps = 0 ∧ MeetOkT ps W e)
theorem MeetAnsT.says {ps : PairL} {W : World} {e : Ending} (h : MeetAnsT ps W e) : ∃ er is val a, Tm.MeetSays ps er is val ∧ e = .returned (.tuple #[.slice a val.length val.length, .bool is, .int .i64 er]) ∧ SubT W a val := by
  rcases h with ⟨h1, rfl⟩ | ⟨h1, ⟨h2, rfl⟩ | ⟨σ, M, ⟨h30, a, rfl, hS⟩ | ⟨h30, rfl⟩⟩⟩
  · exact ⟨_, _, [], none, .inl ⟨h1, rfl, rfl, rfl⟩, rfl, SubT.nil _ _⟩
  · exact ⟨_, _, [], none, .inr (.inl ⟨h1, h2, rfl, rfl, rfl⟩), rfl, SubT.nil _ _⟩
  · exact ⟨_, _, Tm.sbL σ, a, .inr (.inr (.inl ⟨h1, σ, M, h30, rfl, rfl, rfl⟩)), by rw [Tm.sbL_length], hS⟩
  · exact ⟨_, _, [], none, .inr (.inr (.inr ⟨h1, σ, M, h30, rfl, rfl, rfl⟩)), rfl, SubT.nil _ _⟩
set_option maxRecDepth 100000 in
set_option maxHeartbeats 30000000 in
theorem meet_new (ps : PairL) (h40 : ps.length ≤ 40) (a : Option Addr) (cap : Nat) (w : World) (hP : RulesAt w.heap.size w a ps) :
    Calls Try.prog 116 #[.slice a ps.length cap] w fun e w' => Below w.heap.size w w' ∧ MeetAnsT ps w' e := by
  have h40' : (ps.length : Int) ≤ 40 := by omega
  have HP := hid hP
  clear hP
  go_enter Try.func116, Try.ntmps116
  go_wp2_with fail
  go_loopw [14] (fun v wr => ∃ k : Nat, k ≤ ps.length ∧ v = .int .i64 (k : Int) ∧ Hid (Tm.firstPair ps = Tm.firstPair (ps.drop k)) ∧ Below w.heap.size w wr) (fun v _ => ps.length - (intOf v).toNat)
  case atStart => exact ⟨0, Nat.zero_le _, rfl, hid rfl, Below.refl _ _⟩
  case round =>
    obtain ⟨k, hk, rfl, hst, hB⟩ := hrel
    by_cases hlt : k < ps.length
    · have hlt' : (k : Int) < (ps.length : Int) := by omega
      obtain ⟨b, off, rfl, hb, aL, cL, aR, cR, h1, h2, h3, h4, _⟩ := (HP.out.below hB) k hlt
      have hs1 := hid (Tm.firstPair_step hlt)
      have hs2 := hid (Tm.firstPair_at hlt)
      obtain ⟨L, hL⟩ : ∃ L, (ps[k]?.getD ([], [])).1 = L := ⟨_, rfl⟩
      obtain ⟨R, hR⟩ : ∃ R, (ps[k]?.getD ([], [])).2 = R := ⟨_, rfl⟩
      rw [hL] at h1 h3 hs1 hs2
      rw [hR] at h2 h4 hs1 hs2
      have hBa : Below wr.heap.size wr (wr.alloc (.cells #[.slice aL L.length cL, .slice aR R.length cR] 42)) := (Below.refl _ wr).alloc (Nat.le_refl _) _
      have hC1 := hid (check_any L aL cL (wr.alloc (.cells #[.slice aL L.length cL, .slice aR R.length cR] 42)) (((h3.mono hB.size).below hBa).mono hBa.size))
      have hC2 := hid (fun w2 (hB2 : Below (wr.alloc (.cells #[.slice aL L.length cL, .slice aR R.length cR] 42)).heap.size (wr.alloc (.cells #[.slice aL L.length cL, .slice aR R.length cR] 42)) w2) => check_any R aR cR w2 (((((h4.mono hB.size).below hBa).mono hBa.size).below hB2).mono hB2.size))
      have hBw := hB.trans (hBa.mono hB.size)
      have hq : Hid (Tm.pairErr L R = if Tm.err L = 0 then Tm.err R else Tm.err L) := rfl
      have hsa : (wr.alloc (.cells #[.slice aL L.length cL, .slice aR R.length cR] 42)).heap.size = wr.heap.size + 1 := by simp
      have hcp : (wr.alloc (.cells #[.slice aL L.length cL, .slice aR R.length cR] 42)).cell? ⟨wr.heap.size, 1, none⟩ = some (.slice aR R.length cR) := (cell_at (World.alloc_heap_new wr _) 1).trans rfl
      clear hL hR h3 h4
      by_cases heL : Tm.err L = 0
      · rw [heL] at hC1
        by_cases heR : Tm.err R = 0
        · rw [heR] at hC2
          have Hs := hid (hs1.out (by rw [hq.out, if_pos heL, heR]))
          clear heL heR hs1 hs2 hq
          go_wp2_with (first
            | (go_at_call_of 53 (Value.slice aL L.length cL); refine hC1.out.mono ?_; clear hC1; rintro e w2 ⟨rfl, b2⟩; have hc2 := (b2.cell (p := ⟨wr.heap.size, 1, none⟩) (by rw [hsa]; exact Nat.lt_succ_self _)).trans hcp)
            | (go_at_call_of 53 (Value.slice aR R.length cR); refine (hC2.out w2 b2).mono ?_; clear hC2; rintro e w5 ⟨rfl, b5⟩))
          go_roundw
          case rel => exact ⟨k + 1, by omega, by go_num, hid (hst.out.trans Hs.out), (hBw.trans (b2.mono hBw.size)).trans (b5.mono (hBw.trans (b2.mono hBw.size)).size)⟩
          case measure => simp [intOf]; omega
        · have hn : (Tm.err R != 0) = true := by simpa using heR
          have Hs := hid (hs2.out (by rw [hq.out, if_pos heL]; exact heR))
          have Hv := hid (show Tm.pairErr L R = Tm.err R by rw [hq.out, if_pos heL])
          have hne := hid heR
          clear heL heR hs1 hs2 hq
          generalize Tm.err R = q at *
          go_wp2_with (first
            | (go_at_call_of 53 (Value.slice aL L.length cL); refine hC1.out.mono ?_; clear hC1; rintro e w2 ⟨rfl, b2⟩; have hc2 := (b2.cell (p := ⟨wr.heap.size, 1, none⟩) (by rw [hsa]; exact Nat.lt_succ_self _)).trans hcp)
            | (go_at_call_of 53 (Value.slice aR R.length cR); refine (hC2.out w2 b2).mono ?_; clear hC2; rintro e w5 ⟨rfl, b5⟩))
          go_ret3
          have he := hst.out.trans (Hs.out.trans Hv.out)
          exact ⟨(hBw.trans (b2.mono hBw.size)).trans (b5.mono (hBw.trans (b2.mono hBw.size)).size), .inl ⟨by rw [he]; exact hne.out, by rw [he]; rfl⟩⟩
      · have hn : (Tm.err L != 0) = true := by simpa using heL
        have Hs := hid (hs2.out (by rw [hq.out, if_neg heL]; exact heL))
        have Hv := hid (show Tm.pairErr L R = Tm.err L by rw [hq.out, if_neg heL])
        have hne := hid heL
        clear heL hs1 hs2 hq
        generalize Tm.err L = q at *
        go_wp2_with (first
          | (go_at_call_of 53 (Value.slice aL L.length cL); refine hC1.out.mono ?_; clear hC1; rintro e w2 ⟨rfl, b2⟩))
        go_ret3
        have he := hst.out.trans (Hs.out.trans Hv.out)
        exact ⟨hBw.trans (b2.mono hBw.size), .inl ⟨by rw [he]; exact hne.out, by rw [he]; rfl⟩⟩
    · obtain rfl : k = ps.length := by omega
      have hok : Hid (Tm.firstPair ps = 0) := by
        show _ = _
        rw [hst.out, List.drop_length]
        rfl
      go_wp2_with (first
        | (go_at_call 139; refine (newWeb_any wr).mono ?_; rintro e w5 ⟨v5, rfl, hF5, hB5⟩))
      have hsw := hB.size
      have hB5w := hB.trans (hB5.mono hB.size)
      have HF5 := hid hF5
      obtain ⟨W0, hW0⟩ : ∃ n, n = wr.heap.size := ⟨_, rfl⟩
      rw [← hW0] at HF5 hsw
      clear hF5 hst
      go_wp2_with fail
      rw [← hW0]
      clear hW0 hB5 hB
      go_loopw [34] (fun x wq => ∃ (k : Nat) (zs : List Int) (h : Nat → Nat) (v : Value), k ≤ ps.length ∧ x = .int .i64 (k : Int) ∧ Hid (Wb.MInv ps k zs h) ∧ Hid (FW wq (W0 + 1) W0 v zs h) ∧ Hid (Below w.heap.size w wq)) (fun x _ => ps.length - (intOf x).toNat)
      case atStart => exact ⟨0, _, _, v5, by omega, rfl, Wb.MInv.start ps, HF5, hB5w⟩
      case round =>
        obtain ⟨k, zs, h, v, hk2, rfl, hM, hF, hBq⟩ := hrel
        by_cases hlt : k < ps.length
        · have hlt' : (k : Int) < (ps.length : Int) := by omega
          obtain ⟨b, off, rfl, hb, aL, cL, aR, cR, h1, h2, h3, h4, _⟩ := (HP.out.below hBq.out) k hlt
          obtain ⟨eL0, eR0⟩ := Tm.firstPair_right hok.out k hlt
          obtain ⟨L, hL⟩ : ∃ L, (ps[k]?.getD ([], [])).1 = L := ⟨_, rfl⟩
          obtain ⟨R, hR⟩ : ∃ R, (ps[k]?.getD ([], [])).2 = R := ⟨_, rfl⟩
          rw [hL] at h1 h3 eL0
          rw [hR] at h2 h4 eR0
          have lL := Tm.err_len eL0
          have lR := Tm.err_len eR0
          have pL := Tm.err_pos eL0
          have pR := Tm.err_pos eR0
          have hzl := hM.out.len
          have G2 := hid (hM.out.good2 eL0 eR0 lL lR (by omega))
          have hsz := hBq.out.size
          have hlw := hF.out.lt
          obtain ⟨p, hp⟩ : ∃ p, p = zs.length := ⟨_, rfl⟩
          obtain ⟨q, hq⟩ : ∃ q, q = (zs ++ L).length := ⟨_, rfl⟩
          have hpq : q = p + L.length := by rw [hp, hq, List.length_append]
          have hBa : Below wr.heap.size wr ((wr.alloc (.cells #[.slice aL L.length cL, .slice aR R.length cR] 42)).drewN 1) := below_drewN ((Below.refl _ wr).alloc (Nat.le_refl _) _) 1
          have hsa : ((wr.alloc (.cells #[.slice aL L.length cL, .slice aR R.length cR] 42)).drewN 1).heap.size = wr.heap.size + 1 := by show (wr.alloc _).heap.size = _; simp
          have hblk : ((wr.alloc (.cells #[.slice aL L.length cL, .slice aR R.length cR] 42)).drewN 1).heap[wr.heap.size]? = some (.cells #[.slice aL L.length cL, .slice aR R.length cR] 42) := World.alloc_heap_new wr _
          have hnone : ∀ {x : Option Addr} {t : List Int} {W : World} {n c : Nat}, Ints n W x t → 0 < t.length → x = none → t.length = 0 ∧ c = 0 := fun {x t W n c} hI h0 e => by
            obtain ⟨b', off', e', _⟩ := hI.at h0
            rw [e] at e'
            cases e'
          have hC1 := hid (fw_lay zs L h (W0 + 1) W0 v aL cL _ (hF.out.keep hBa) (((h3.mono hsz).below hBa).mono hBa.size) (hnone h3 pL) (by omega))
          have hC2 := hid (fun w2 v2 (hF2 : FW w2 (W0 + 1) W0 v2 (zs ++ L) h) (hB2 : Below w.heap.size wr w2) => fw_lay (zs ++ L) R h (W0 + 1) W0 v2 aR cR w2 hF2 ((h4.below hB2).mono (by have := hB2.size; omega)) (hnone h4 pR) (by rw [List.length_append]; omega))
          rw [← hp] at hC1
          rw [← hq] at hC2
          have hlen3 : (zs ++ L ++ R).length = p + L.length + R.length := by rw [hp, List.length_append, List.length_append]
          have hT := hid (fun w3 v3 (hF3 : FW w3 (W0 + 1) W0 v3 (zs ++ L ++ R) h) => fw_tie (zs ++ L ++ R) G2.out h (W0 + 1) W0 v3 p q w3 (by omega) (by omega) hF3)
          have hstep := hid (fun h' hTL S' => hM.out.step eL0 eR0 lL lR (by omega) hL hR pL pR (h' := h') hTL S')
          have hno := hid (fun hN => hM.out.no eL0 eR0 lL (by omega) hL hR hN)
          rw [← hp, ← hq] at hstep hno
          have hwk : Hid (∀ (w1 w2 : World) (u : Value) (zz : List Int) (hh : Nat → Nat), FW w1 (W0 + 1) W0 u zz hh → WKeep w1 w2 (W0 + 1) W0 u → Below w.heap.size w1 w2) := fun w1 w2 u zz hh hf hk => ⟨hk.1, hk.2.1, hk.2.2.1, hk.2.2.2.1, fun x hx => hk.2.2.2.2 x (by have := hf.lt; omega) (by omega) (by omega) (fun e => by have := (World.ownsRow.lt hf.own.2 x e.symm).1; omega)⟩
          have hFa := hid (hF.out.keep hBa)
          have hvo := hid (fun x (e : v.ownBlock = some x) => (World.ownsRow.lt hF.out.own.2 x e).2)
          clear hL hR h3 h4 hp hq hnone hM hF eL0 eR0 hpq hlen3
          have hcc : Hid (∀ W : World, W.heap[wr.heap.size]? = some (.cells #[.slice aL L.length cL, .slice aR R.length cR] 42) → W.cell? ⟨wr.heap.size, 0, none⟩ = some (.slice aL L.length cL) ∧ W.cell? ⟨wr.heap.size, 1, none⟩ = some (.slice aR R.length cR)) := fun W hW => ⟨(cell_at hW 0).trans rfl, (cell_at hW 1).trans rfl⟩
          have hb2 : Hid (∀ (w2 : World), WKeep ((wr.alloc (.cells #[.slice aL L.length cL, .slice aR R.length cR] 42)).drewN 1) w2 (W0 + 1) W0 v → w2.heap[wr.heap.size]? = some (.cells #[.slice aL L.length cL, .slice aR R.length cR] 42)) := fun w2 hk => (hk.2.2.2.2 wr.heap.size (by rw [hsa]; omega) (by omega) (by omega) (fun e => by have := hvo.out _ e.symm; omega)).trans hblk
          have hS0 := hcc.out _ hblk
          have hS0' : (wr.alloc (.cells #[.slice aL L.length cL, .slice aR R.length cR] 42)).cell? ⟨wr.heap.size, 0, none⟩ = some (.slice aL L.length cL) ∧ (wr.alloc (.cells #[.slice aL L.length cL, .slice aR R.length cR] 42)).cell? ⟨wr.heap.size, 1, none⟩ = some (.slice aR R.length cR) := hS0
          go_wp2_with fail
          have mixed : Try.prog.follows .mixedOrders = true := by kernel_rfl
          refine wp_mono (Q := MeetR (fun qb => { tmps := #[.slice (some ⟨b, off, none⟩) ps.length cap, undef, u2, u3, u4, undef, u6, u7, u8, .pointer (some ⟨W0 + 1, 0, none⟩), undef, .pointer (some ⟨wr.heap.size, 0, none⟩), .slice (some ⟨b, off, none⟩) ps.length cap, .int .i64 (ps.length : Int), .int .i64 (ps.length : Int), .bool false, u16, u17, u18, u19, u20, u21, u22, u23, u24, u25, u26, u27, u28, u29, u30, .pointer (some ⟨W0 + 1, 0, none⟩), .slice (some ⟨b, off, none⟩) ps.length cap, .int .i64 (ps.length : Int), .int .i64 (k : Int), .bool true, .pointer (some ⟨b, off + k * 2, none⟩), .agg #[.slice aL L.length cL, .slice aR R.length cR], .pointer (some ⟨W0 + 1, 0, none⟩), .pointer (some ⟨W0 + 1, 0, none⟩), .pointer (some ⟨wr.heap.size, 0, none⟩), .slice aL L.length cL, .int .i64 (p : Int), .pointer (some ⟨W0 + 1, 0, none⟩), .pointer (some ⟨wr.heap.size, 1, none⟩), .slice aR R.length cR, .int .i64 (q : Int), .bool qb, .bool !qb, u49, undef, undef, undef, undef, undef, undef, undef], defers := [] }) w.heap.size wr (W0 + 1) W0 (zs ++ L ++ R) h p q) ?reg ?aft
          case reg =>
           refine wp_region_any mixed ?_
           change wpAny _ _ _ _ _ _ _ (World.drew _)
           show wpAny _ _ _ _ 11 (Array.replicate 11 false) _ _
           refine wpAny_take (i := 0) (v := .pointer (some ⟨W0 + 1, 0, none⟩)) rfl (by kernel_rfl) (by kernel_rfl) (by kernel_rfl) (fun _ _ _ h => h.panic) (Or.inl ⟨by rfl, fun w => by go_simp⟩) ?_
           refine wpAny_take (i := 1) (v := .pointer (some ⟨W0 + 1, 0, none⟩)) rfl (by kernel_rfl) (by kernel_rfl) (by kernel_rfl) (fun _ _ _ h => h.panic) (Or.inl ⟨by rfl, fun w => by go_simp⟩) ?_
           refine wpAny_take (i := 2) (v := .pointer (some ⟨wr.heap.size, 0, none⟩)) rfl (by kernel_rfl) (by kernel_rfl) (by kernel_rfl) (fun _ _ _ h => h.panic) (Or.inl ⟨by rfl, fun w => by go_simp⟩) ?_
           refine wpAny_take (i := 5) (v := .pointer (some ⟨W0 + 1, 0, none⟩)) rfl (by kernel_rfl) (by kernel_rfl) (by kernel_rfl) (fun _ _ _ h => h.panic) (Or.inl ⟨by rfl, fun w => by go_simp⟩) ?_
           refine wpAny_take (i := 6) (v := .pointer (some ⟨wr.heap.size, 1, none⟩)) rfl (by kernel_rfl) (by kernel_rfl) (by kernel_rfl) (fun _ _ _ h => h.panic) (Or.inl ⟨by rfl, fun w => by go_simp⟩) ?_
           refine wpAny_ready (rs := [3, 7]) (by kernel_rfl) (by simp) ?_
           refine AllReady.cons rfl (fun K hK => ?_) (AllReady.cons rfl (fun K hK => ?_) AllReady.nil)
           · go_simp
             refine hK _ _ ?_
             clear hK K
             refine wpAny_ready (rs := [4, 7]) (by kernel_rfl) (by simp) ?_
             refine AllReady.cons rfl (fun K hK => ?_) (AllReady.cons rfl (fun K hK => ?_) AllReady.nil)
             · go_simp
               refine hC1.out.mono ?_
               rintro e w2 ⟨rfl, v2, hF2, hK2, ho2⟩
               have hb22 := hb2.out w2 hK2
               have hS2 : w2.cell? ⟨wr.heap.size, 0, none⟩ = some (.slice aL L.length cL) ∧ w2.cell? ⟨wr.heap.size, 1, none⟩ = some (.slice aR R.length cR) := hcc.out w2 hb22
               have c21 := hS2.2
               have hB2 : Below w.heap.size wr w2 := (hBa.mono hsz).trans (hwk.out _ w2 v _ _ hFa.out hK2)
               refine hK _ _ ?_
               clear hK K
               refine wpAny_ready (rs := [7]) (by kernel_rfl) (by simp) ?_
               refine AllReady.cons rfl (fun K hK => ?_) AllReady.nil
               go_simp
               refine hK _ _ ?_
               clear hK K
               refine wpAny_ready (rs := [8]) (by kernel_rfl) (by simp) ?_
               refine AllReady.cons rfl (fun K hK => ?_) AllReady.nil
               go_simp
               refine (hC2.out w2 v2 hF2 hB2).mono ?_
               rintro e w3 ⟨rfl, v3, hF3, hK3, ho3⟩
               have hb33 : w3.heap[wr.heap.size]? = some (.cells #[.slice aL L.length cL, .slice aR R.length cR] 42) := (hK3.2.2.2.2 wr.heap.size (Array.getElem?_eq_some_iff.1 hb22).1 (by omega) (by omega) (fun e => by rcases ho2 _ e.symm with h | h; exact absurd (hvo.out _ h) (Nat.lt_irrefl _); rw [hsa] at h; omega)).trans hb22
               have hS3 : w3.cell? ⟨wr.heap.size, 0, none⟩ = some (.slice aL L.length cL) ∧ w3.cell? ⟨wr.heap.size, 1, none⟩ = some (.slice aR R.length cR) := hcc.out w3 hb33
               have hB3 : Below w.heap.size wr w3 := hB2.trans (hwk.out _ w3 v2 _ _ hF2 hK3)
               refine hK _ _ ?_
               clear hK K
               refine wpAny_ready (rs := [9]) (by kernel_rfl) (by simp) ?_
               refine AllReady.cons rfl (fun K hK => ?_) AllReady.nil
               go_simp
               refine (hT.out w3 v3 hF3).mono ?_
               rintro e w4 ⟨qb, rfl, hK4, hq4⟩
               have hb44 : w4.heap[wr.heap.size]? = some (.cells #[.slice aL L.length cL, .slice aR R.length cR] 42) := (hK4.block _ (Array.getElem?_eq_some_iff.1 hb33).1 (by omega)).trans hb33
               have hS4 : w4.cell? ⟨wr.heap.size, 0, none⟩ = some (.slice aL L.length cL) ∧ w4.cell? ⟨wr.heap.size, 1, none⟩ = some (.slice aR R.length cR) := hcc.out w4 hb44
               have hB4 : Below w.heap.size wr w4 := hB3.trans ⟨hK4.os, hK4.tape, hK4.output, hK4.size, fun x hx => hK4.block x (by have := hB3.size; omega) (by omega)⟩
               refine hK _ _ ?_
               clear hK K
               refine wpAny_ready (rs := [10]) (by kernel_rfl) (by simp) ?_
               refine AllReady.cons rfl (fun K hK => ?_) AllReady.nil
               go_simp
               refine hK _ _ ?_
               clear hK K
               refine wpAny_done (by kernel_rfl) ?_ _
               exact ⟨rfl, qb, v3, rfl, hB4, hq4⟩
             · go_simp
               refine hK _ _ ?_
               clear hK K
               refine wpAny_ready (rs := [4]) (by kernel_rfl) (by simp) ?_
               refine AllReady.cons rfl (fun K hK => ?_) AllReady.nil
               go_simp
               refine hC1.out.mono ?_
               rintro e w2 ⟨rfl, v2, hF2, hK2, ho2⟩
               have hb22 := hb2.out w2 hK2
               have hS2 : w2.cell? ⟨wr.heap.size, 0, none⟩ = some (.slice aL L.length cL) ∧ w2.cell? ⟨wr.heap.size, 1, none⟩ = some (.slice aR R.length cR) := hcc.out w2 hb22
               have c21 := hS2.2
               have hB2 : Below w.heap.size wr w2 := (hBa.mono hsz).trans (hwk.out _ w2 v _ _ hFa.out hK2)
               refine hK _ _ ?_
               clear hK K
               refine wpAny_ready (rs := [8]) (by kernel_rfl) (by simp) ?_
               refine AllReady.cons rfl (fun K hK => ?_) AllReady.nil
               go_simp
               refine (hC2.out w2 v2 hF2 hB2).mono ?_
               rintro e w3 ⟨rfl, v3, hF3, hK3, ho3⟩
               have hb33 : w3.heap[wr.heap.size]? = some (.cells #[.slice aL L.length cL, .slice aR R.length cR] 42) := (hK3.2.2.2.2 wr.heap.size (Array.getElem?_eq_some_iff.1 hb22).1 (by omega) (by omega) (fun e => by rcases ho2 _ e.symm with h | h; exact absurd (hvo.out _ h) (Nat.lt_irrefl _); rw [hsa] at h; omega)).trans hb22
               have hS3 : w3.cell? ⟨wr.heap.size, 0, none⟩ = some (.slice aL L.length cL) ∧ w3.cell? ⟨wr.heap.size, 1, none⟩ = some (.slice aR R.length cR) := hcc.out w3 hb33
               have hB3 : Below w.heap.size wr w3 := hB2.trans (hwk.out _ w3 v2 _ _ hF2 hK3)
               refine hK _ _ ?_
               clear hK K
               refine wpAny_ready (rs := [9]) (by kernel_rfl) (by simp) ?_
               refine AllReady.cons rfl (fun K hK => ?_) AllReady.nil
               go_simp
               refine (hT.out w3 v3 hF3).mono ?_
               rintro e w4 ⟨qb, rfl, hK4, hq4⟩
               have hb44 : w4.heap[wr.heap.size]? = some (.cells #[.slice aL L.length cL, .slice aR R.length cR] 42) := (hK4.block _ (Array.getElem?_eq_some_iff.1 hb33).1 (by omega)).trans hb33
               have hS4 : w4.cell? ⟨wr.heap.size, 0, none⟩ = some (.slice aL L.length cL) ∧ w4.cell? ⟨wr.heap.size, 1, none⟩ = some (.slice aR R.length cR) := hcc.out w4 hb44
               have hB4 : Below w.heap.size wr w4 := hB3.trans ⟨hK4.os, hK4.tape, hK4.output, hK4.size, fun x hx => hK4.block x (by have := hB3.size; omega) (by omega)⟩
               refine hK _ _ ?_
               clear hK K
               refine wpAny_ready (rs := [10]) (by kernel_rfl) (by simp) ?_
               refine AllReady.cons rfl (fun K hK => ?_) AllReady.nil
               go_simp
               refine hK _ _ ?_
               clear hK K
               refine wpAny_done (by kernel_rfl) ?_ _
               exact ⟨rfl, qb, v3, rfl, hB4, hq4⟩
           · go_simp
             refine hK _ _ ?_
             clear hK K
             refine wpAny_ready (rs := [3]) (by kernel_rfl) (by simp) ?_
             refine AllReady.cons rfl (fun K hK => ?_) AllReady.nil
             go_simp
             refine hK _ _ ?_
             clear hK K
             refine wpAny_ready (rs := [4]) (by kernel_rfl) (by simp) ?_
             refine AllReady.cons rfl (fun K hK => ?_) AllReady.nil
             go_simp
             refine hC1.out.mono ?_
             rintro e w2 ⟨rfl, v2, hF2, hK2, ho2⟩
             have hb22 := hb2.out w2 hK2
             have hS2 : w2.cell? ⟨wr.heap.size, 0, none⟩ = some (.slice aL L.length cL) ∧ w2.cell? ⟨wr.heap.size, 1, none⟩ = some (.slice aR R.length cR) := hcc.out w2 hb22
             have c21 := hS2.2
             have hB2 : Below w.heap.size wr w2 := (hBa.mono hsz).trans (hwk.out _ w2 v _ _ hFa.out hK2)
             refine hK _ _ ?_
             clear hK K
             refine wpAny_ready (rs := [8]) (by kernel_rfl) (by simp) ?_
             refine AllReady.cons rfl (fun K hK => ?_) AllReady.nil
             go_simp
             refine (hC2.out w2 v2 hF2 hB2).mono ?_
             rintro e w3 ⟨rfl, v3, hF3, hK3, ho3⟩
             have hb33 : w3.heap[wr.heap.size]? = some (.cells #[.slice aL L.length cL, .slice aR R.length cR] 42) := (hK3.2.2.2.2 wr.heap.size (Array.getElem?_eq_some_iff.1 hb22).1 (by omega) (by omega) (fun e => by rcases ho2 _ e.symm with h | h; exact absurd (hvo.out _ h) (Nat.lt_irrefl _); rw [hsa] at h; omega)).trans hb22
             have hS3 : w3.cell? ⟨wr.heap.size, 0, none⟩ = some (.slice aL L.length cL) ∧ w3.cell? ⟨wr.heap.size, 1, none⟩ = some (.slice aR R.length cR) := hcc.out w3 hb33
             have hB3 : Below w.heap.size wr w3 := hB2.trans (hwk.out _ w3 v2 _ _ hF2 hK3)
             refine hK _ _ ?_
             clear hK K
             refine wpAny_ready (rs := [9]) (by kernel_rfl) (by simp) ?_
             refine AllReady.cons rfl (fun K hK => ?_) AllReady.nil
             go_simp
             refine (hT.out w3 v3 hF3).mono ?_
             rintro e w4 ⟨qb, rfl, hK4, hq4⟩
             have hb44 : w4.heap[wr.heap.size]? = some (.cells #[.slice aL L.length cL, .slice aR R.length cR] 42) := (hK4.block _ (Array.getElem?_eq_some_iff.1 hb33).1 (by omega)).trans hb33
             have hS4 : w4.cell? ⟨wr.heap.size, 0, none⟩ = some (.slice aL L.length cL) ∧ w4.cell? ⟨wr.heap.size, 1, none⟩ = some (.slice aR R.length cR) := hcc.out w4 hb44
             have hB4 : Below w.heap.size wr w4 := hB3.trans ⟨hK4.os, hK4.tape, hK4.output, hK4.size, fun x hx => hK4.block x (by have := hB3.size; omega) (by omega)⟩
             refine hK _ _ ?_
             clear hK K
             refine wpAny_ready (rs := [10]) (by kernel_rfl) (by simp) ?_
             refine AllReady.cons rfl (fun K hK => ?_) AllReady.nil
             go_simp
             refine hK _ _ ?_
             clear hK K
             refine wpAny_done (by kernel_rfl) ?_ _
             exact ⟨rfl, qb, v3, rfl, hB4, hq4⟩
          case aft =>
            rintro e a' w4 ⟨rfl, qb, v3, rfl, hB4, hq4⟩
            clear hC1 hC2 hT hb2 hcc hS0 hS0' hwk hFa hvo hblk hBa
            rcases hq4 with ⟨rfl, h', hTL, hF4⟩ | ⟨rfl, hNo⟩
            · go_wp2
              go_roundw
              case rel =>
                have hB4w := hBq.out.trans hB4
                have HF4 := hid hF4
                obtain ⟨_, T4, _, _, S4, _⟩ := hF4
                exact ⟨k + 1, zs ++ L ++ R, h', v3, by omega, by go_num, hid (hstep.out h' hTL ⟨T4, S4⟩), HF4, hid hB4w⟩
              case measure => simp [intOf]; omega
            · go_wp2
              go_ret3
              have hB4w := hBq.out.trans hB4
              exact ⟨hB4w, .inr ⟨hok.out, .inl ⟨fun θ hθ H => hno.out hNo θ hθ (fun j hj => H j (by omega)), rfl⟩⟩⟩
        · obtain rfl : k = ps.length := by omega
          obtain ⟨T, hS⟩ := hM.out.st
          obtain ⟨b, c, rfl, T', N, S', hWb, _⟩ := hF.out.st (by have := hM.out.good.eight; omega)
          have hTB := hid (turnsBack_any zs hM.out.good T' h S' (W0 + 1) W0 b 0 c N wr hWb)
          have hGr := hid (fun w7 (hB7 : Below wr.heap.size wr w7) f (hf : ∀ i, i < 8 → Wb.Exp zs h i (f i)) => grow_new zs hM.out.good T' h S' (W0 + 1) W0 b 0 c N f hf w7 (hWb.below hB7))
          clear hWb hS
          go_wp2_with (first
            | (go_at_call 142; refine hTB.out.mono ?_; clear hTB; rintro e w7 ⟨hB7, (⟨rfl, hNo⟩ | ⟨rfl, hFin⟩)⟩)
            | (go_at_call 143; obtain ⟨σ, hσ, hE⟩ := hM.out.mgu hFin; refine (hGr.out w7 hB7 (fun i : Nat => σ (-1 - (i : Int))) hE).mono ?_; clear hGr; rintro e w8 ⟨hB8, (⟨h30, a8, rfl, hS8⟩ | ⟨h30, rfl⟩)⟩))
          · go_ret3
            exact ⟨hBq.out.trans (hB7.mono hBq.out.size), .inr ⟨hok.out, .inl ⟨fun θ hθ H => hNo θ hθ (hM.out.sound θ hθ H), rfl⟩⟩⟩
          · go_ret3
            have hB78 := hBq.out.trans (hB7.mono hBq.out.size)
            exact ⟨hB78.trans (hB8.mono hB78.size), .inr ⟨hok.out, .inr ⟨σ, hσ, .inl ⟨h30, a8, rfl, hS8⟩⟩⟩⟩
          · go_ret3
            have hB78 := hBq.out.trans (hB7.mono hBq.out.size)
            exact ⟨hB78.trans (hB8.mono hB78.size), .inr ⟨hok.out, .inr ⟨σ, hσ, .inr ⟨h30, rfl⟩⟩⟩⟩
set_option maxRecDepth 100000 in
set_option maxHeartbeats 1000000 in
theorem Meet_new (a b : List Int) (aa ab : Option Addr) (ca cb : Nat) (w : World) (hA : Ints w.heap.size w aa a) (hB : Ints w.heap.size w ab b) (ha1 : a.length ≤ ca) (ha2 : ca ≤ maxLen) (hb1 : b.length ≤ cb) (hb2 : cb ≤ maxLen) :
    Calls Try.prog 82 #[.slice aa a.length ca, .slice ab b.length cb] w fun e w' => Below w.heap.size w w' ∧ ∃ er is val x, Tm.MeetSays [(a, b)] er is val ∧ e = .returned (.tuple #[.slice x val.length val.length, .bool is, .int .i64 er]) ∧ SubT w' x val := by
  have hBl : Below w.heap.size w (w.alloc (.cells #[.slice aa a.length ca, .slice ab b.length cb] 42)) := (Below.refl _ w).alloc (Nat.le_refl _) _
  have blk : (w.alloc (.cells #[.slice aa a.length ca, .slice ab b.length cb] 42)).heap[w.heap.size]? = some (.cells #[.slice aa a.length ca, .slice ab b.length cb] 42) := World.alloc_heap_new w _
  have hR : RulesAt (w.alloc (.cells #[.slice aa a.length ca, .slice ab b.length cb] 42)).heap.size (w.alloc (.cells #[.slice aa a.length ca, .slice ab b.length cb] 42)) (some ⟨w.heap.size, 0, none⟩) [(a, b)] := by
    intro k hk
    obtain rfl : k = 0 := by simp at hk; omega
    exact ⟨w.heap.size, 0, rfl, by simp, aa, ca, ab, cb, (cell_at blk 0).trans rfl, (cell_at blk 1).trans rfl, (hA.below hBl).mono hBl.size, (hB.below hBl).mono hBl.size, ha1, ha2, hb1, hb2⟩
  have hM := hid (meet_new [(a, b)] (by simp) (some ⟨w.heap.size, 0, none⟩) 1 _ hR)
  have HB := hid hBl
  clear hR blk hA hB hBl
  go_enter Try.func82, Try.ntmps82
  go_wp2_with fail
  refine hM.out.mono ?_
  rintro e w2 ⟨hB2, hAns⟩
  obtain ⟨er, is, val, x, hs, rfl, hS⟩ := hAns.says
  have Hs := hid hs
  have HS := hid hS
  clear hM hAns hs hS
  go_wp2
  go_ret3
  exact ⟨HB.out.trans (hB2.mono HB.out.size), er, is, val, x, Hs.out, rfl, HS.out⟩
def Tm.fallsB (rk : List Int) (rs : RuleL) : Bool := rs.all fun r => Tm.aboveVal rk r.1 r.2
def Tm.fallsErr (rk : List Int) (rs : RuleL) : Int := if Tm.rankErr rk = 0 then Tm.rulesErr rs else Tm.rankErr rk
def Tm.fallsVal (rk : List Int) (rs : RuleL) : Bool := if Tm.fallsErr rk rs = 0 then Tm.fallsB rk rs else false
theorem Tm.firstRule_zero {rs : RuleL} (h : Tm.firstRule rs = 0) : ∀ k, k < rs.length → Tm.ruleErr (rs[k]?.getD ([], [])).1 (rs[k]?.getD ([], [])).2 = 0 := by
  induction rs with
  | nil => intro k hk; simp at hk
  | cons r l ih =>
    rw [Tm.firstRule] at h
    by_cases h1 : Tm.ruleErr r.1 r.2 = 0
    · rw [if_pos h1] at h
      intro k hk
      cases k with
      | zero => simpa using h1
      | succ k => simpa using ih h k (by simpa using hk)
    · rw [if_neg h1] at h; exact absurd h h1
theorem Tm.rulesErr_ok {rs : RuleL} (h : Tm.rulesErr rs = 0) : rs.length ≤ 8 ∧ ∀ k, k < rs.length → Tm.ruleErr (rs[k]?.getD ([], [])).1 (rs[k]?.getD ([], [])).2 = 0 := by
  unfold Tm.rulesErr at h
  by_cases h8 : 8 < rs.length
  · rw [if_pos h8] at h; omega
  · rw [if_neg h8] at h; exact ⟨by omega, Tm.firstRule_zero h⟩
theorem Tm.ruleErr_ok {L R : List Int} (h : Tm.ruleErr L R = 0) : Tm.err L = 0 ∧ Tm.err R = 0 ∧ L.any foreignB = false ∧ R.any foreignB = false ∧ (0 : Int) ≤ L[0]?.getD 0 ∧ R.any (freeIn L) = false := by
  unfold Tm.ruleErr at h
  by_cases h1 : Tm.err L = 0
  · rw [if_pos h1] at h
    by_cases h2 : Tm.err R = 0
    · rw [if_pos h2] at h
      cases h3 : L.any foreignB with
      | true => rw [h3, if_pos rfl] at h; omega
      | false =>
        rw [h3, if_neg (by decide)] at h
        cases h4 : R.any foreignB with
        | true => rw [h4, if_pos rfl] at h; omega
        | false =>
          rw [h4, if_neg (by decide)] at h
          by_cases h5 : L[0]?.getD 0 < 0
          · rw [if_pos h5] at h; omega
          · rw [if_neg h5] at h
            cases h6 : R.any (freeIn L) with
            | true => rw [h6, if_pos rfl] at h; omega
            | false => exact ⟨h1, h2, rfl, rfl, by omega, rfl⟩
    · rw [if_neg h2] at h; exact absurd h h2
  · rw [if_neg h1] at h; exact absurd h h1
def Tm.replErr (ss : List (List Int)) (t : List Int) (k : Int) (r : List Int) : Int := if Tm.applyErr ss r = 0 then Tm.putErr t k (Tm.applyVal ss r) else Tm.applyErr ss r
def Tm.replVal (ss : List (List Int)) (t : List Int) (k : Int) (r : List Int) : List Int := if Tm.applyErr ss r = 0 then Tm.putVal t k (Tm.applyVal ss r) else []
set_option maxRecDepth 100000 in
set_option maxHeartbeats 1000000 in
theorem replaced_any (ss : List (List Int)) (t r : List Int) (k : Int) (aS at' ar : Option Addr) (cs ct cr : Nat) (w : World) (hS : Subs w.heap.size w aS ss) (hT : Ints w.heap.size w at' t) (hR : Ints w.heap.size w ar r) (h1 : t.length ≤ ct) (h2 : ct ≤ maxLen) :
    Calls Try.prog 56 #[.slice at' t.length ct, .int .i64 k, .slice aS ss.length cs, .slice ar r.length cr] w fun e w' => ∃ v, e = .returned (.tuple #[v, .int .i64 (Tm.replErr ss t k r)]) ∧ New w.heap.size w' v (Tm.replVal ss t k r) ∧ Below w.heap.size w w' := by
  have C1 := apply_any ss r aS ar cs cr w hS hR
  by_cases he : Tm.applyErr ss r = 0
  · have e1 : Tm.replErr ss t k r = Tm.putErr t k (Tm.applyVal ss r) := by unfold Tm.replErr; rw [if_pos he]
    have e2 : Tm.replVal ss t k r = Tm.putVal t k (Tm.applyVal ss r) := by unfold Tm.replVal; rw [if_pos he]
    rw [e1, e2]
    rw [he] at C1
    clear e1 e2 he hS hR
    generalize Tm.applyVal ss r = u at *
    go_enter Try.func56, Try.ntmps56
    go_wp2_with fail
    refine C1.mono ?_
    rintro e w1 ⟨v1, rfl, hN1, b1⟩
    obtain ⟨x1, c1, rfl, hI1, _⟩ := New.ints hN1
    have C2 := termPut_any t u at' x1 ct c1 k w1 ((hT.below b1).mono b1.size) hI1 h1 h2
    clear C1 hN1 hI1
    go_wp2_with fail
    refine C2.mono ?_
    rintro e w2 ⟨v2, rfl, hN2, b2⟩
    clear C2
    go_wp2
    go_ret2
    exact ⟨_, rfl, hN2.mono b1.size, b1.trans (b2.mono b1.size)⟩
  · have e1 : Tm.replErr ss t k r = Tm.applyErr ss r := by unfold Tm.replErr; rw [if_neg he]
    have e2 : Tm.replVal ss t k r = [] := by unfold Tm.replVal; rw [if_neg he]
    have hn : (Tm.applyErr ss r != 0) = true := by simpa using he
    rw [e1, e2]
    clear e1 e2 he hS hR hT h1 h2
    generalize Tm.applyErr ss r = q at *
    go_enter Try.func56, Try.ntmps56
    go_wp2_with fail
    refine C1.mono ?_
    rintro e w1 ⟨v1, rfl, hN1, b1⟩
    obtain ⟨x1, c1, rfl, hI1, _⟩ := New.ints hN1
    clear C1 hN1 hI1
    go_wp2
    go_ret2
    exact ⟨_, rfl, New.nil _ _, b1⟩
abbrev StepL := List (Nat × Nat × List Int)
def NewT (base : Nat) (W : World) (v : Value) (sts : StepL) : Prop :=
  ∃ us : List Value, W.ownsRow base 54 3 v sts.length us ∧ ∀ j, j < sts.length → ∃ u, us[j * 3]? = some (.int .i64 ((sts[j]?.getD (0, 0, [])).1 : Int)) ∧ us[j * 3 + 1]? = some (.int .i64 ((sts[j]?.getD (0, 0, [])).2.1 : Int)) ∧ us[j * 3 + 2]? = some u ∧ New base W u (sts[j]?.getD (0, 0, [])).2.2
theorem NewT.nil (base : Nat) (W : World) : NewT base W (.slice none 0 0) [] := ⟨[], World.ownsRow_nil _ _ _ _, fun j hj => by simp at hj⟩
theorem New.apartT {base : Nat} {W : World} {u v : Value} {t : List Int} {n : Nat} {us : List Value} (hu : New base W u t) (hv : W.ownsRow base 54 3 v n us) : u.ownBlock = none ∨ u.ownBlock ≠ v.ownBlock := by
  rcases hu.2 with ⟨rfl, _⟩ | ⟨g, cap, cur, rfl, hb, hg, r⟩
  · exact .inl rfl
  · right
    rcases hv.2 with ⟨rfl, _⟩ | ⟨g', cap', cur', rfl, hb', hg', r'⟩
    · intro e; cases e
    · intro e
      simp only [Value.ownBlock, Option.some.injEq] at e
      subst e
      rw [hg] at hg'
      simp at hg'
theorem NewT.below {base : Nat} {W W' : World} {v : Value} {sts : StepL} (h : NewT base W v sts) (hB : Below W.heap.size W W') : NewT base W' v sts := by
  obtain ⟨us, h1, h2⟩ := h
  refine ⟨us, World.ownsRow.kept h1 (grown_of_below hB) (by cases h : v.ownBlock with | none => exact .inl rfl | some k => exact .inr (by simp)), fun j hj => ?_⟩
  obtain ⟨u, a, b, c, d⟩ := h2 j hj
  exact ⟨u, a, b, c, New.below d hB⟩
theorem Try.info54 : (Try.prog.info? 54).map (fun i => (i.zero, i.size, i.bytes)) = some (some (.agg #[.int .i64 0, .int .i64 0, .slice none 0 0]), 3, 40) := by kernel_rfl
def Tm.hitB (rs : RuleL) (t : List Int) (a k : Nat) : Bool := Tm.fitIs (rs[k]?.getD ([], [])).1 (Tm.part t a)
def Tm.hitErr (rs : RuleL) (t : List Int) (a k : Nat) : Int := Tm.replErr (Tm.fitVal (rs[k]?.getD ([], [])).1 (Tm.part t a)) t (a : Int) (rs[k]?.getD ([], [])).2
def Tm.hitVal (rs : RuleL) (t : List Int) (a k : Nat) : List Int := Tm.replVal (Tm.fitVal (rs[k]?.getD ([], [])).1 (Tm.part t a)) t (a : Int) (rs[k]?.getD ([], [])).2
def Tm.rowE (rs : RuleL) (t : List Int) (a : Nat) : Nat → Int
  | 0 => 0
  | n + 1 => if Tm.rowE rs t a n = 0 then (if Tm.hitB rs t a n = true then Tm.hitErr rs t a n else 0) else Tm.rowE rs t a n
def Tm.rowL (rs : RuleL) (t : List Int) (a : Nat) : Nat → StepL
  | 0 => []
  | n + 1 => Tm.rowL rs t a n ++ (if Tm.hitB rs t a n = true then [(n, a, Tm.hitVal rs t a n)] else [])
def Tm.allE (rs : RuleL) (t : List Int) : Nat → Int
  | 0 => 0
  | m + 1 => if Tm.allE rs t m = 0 then Tm.rowE rs t m rs.length else Tm.allE rs t m
def Tm.allL (rs : RuleL) (t : List Int) : Nat → StepL
  | 0 => []
  | m + 1 => Tm.allL rs t m ++ Tm.rowL rs t m rs.length
def Tm.stepErr (rs : RuleL) (t : List Int) : Int := if Tm.rulesErr rs = 0 then (if Tm.err t = 0 then Tm.allE rs t t.length else Tm.err t) else Tm.rulesErr rs
def Tm.stepVal (rs : RuleL) (t : List Int) : StepL := if Tm.stepErr rs t = 0 then Tm.allL rs t t.length else []
theorem Tm.rowE_stays {rs : RuleL} {t : List Int} {a n : Nat} (h : Tm.rowE rs t a n ≠ 0) : ∀ m, n ≤ m → Tm.rowE rs t a m = Tm.rowE rs t a n := by
  intro m hm
  induction m with
  | zero => obtain rfl : n = 0 := by omega
            rfl
  | succ m ih =>
    by_cases e : n = m + 1
    · rw [e]
    · rw [Tm.rowE, if_neg (by rw [ih (by omega)]; exact h), ih (by omega)]
theorem Tm.allE_stays {rs : RuleL} {t : List Int} {n : Nat} (h : Tm.allE rs t n ≠ 0) : ∀ m, n ≤ m → Tm.allE rs t m = Tm.allE rs t n := by
  intro m hm
  induction m with
  | zero => obtain rfl : n = 0 := by omega
            rfl
  | succ m ih =>
    by_cases e : n = m + 1
    · rw [e]
    · rw [Tm.allE, if_neg (by rw [ih (by omega)]; exact h), ih (by omega)]
theorem Tm.allE_stop {rs : RuleL} {t : List Int} {a n : Nat} (h0 : Tm.allE rs t a = 0) (hr : Tm.rowE rs t a n = 0) (ha : a < t.length) (hn : n < rs.length) (hb : Tm.hitB rs t a n = true) (he : Tm.hitErr rs t a n ≠ 0) :
    Tm.allE rs t t.length = Tm.hitErr rs t a n := by
  have e1 : Tm.rowE rs t a (n + 1) = Tm.hitErr rs t a n := by rw [Tm.rowE, if_pos hr, if_pos hb]
  have e2 : Tm.rowE rs t a rs.length = Tm.hitErr rs t a n := by rw [Tm.rowE_stays (by rw [e1]; exact he) rs.length (by omega), e1]
  have e3 : Tm.allE rs t (a + 1) = Tm.hitErr rs t a n := by rw [Tm.allE, if_pos h0, e2]
  rw [Tm.allE_stays (by rw [e3]; exact he) t.length (by omega), e3]
theorem Tm.allE_next {rs : RuleL} {t : List Int} {a : Nat} (h0 : Tm.allE rs t a = 0) (hr : Tm.rowE rs t a rs.length = 0) : Tm.allE rs t (a + 1) = 0 := by rw [Tm.allE, if_pos h0, hr]
theorem Tm.rowE_no {rs : RuleL} {t : List Int} {a n : Nat} (hr : Tm.rowE rs t a n = 0) (hb : Tm.hitB rs t a n = false) : Tm.rowE rs t a (n + 1) = 0 := by rw [Tm.rowE, if_pos hr, hb, if_neg (by decide)]
theorem Tm.rowE_yes {rs : RuleL} {t : List Int} {a n : Nat} (hr : Tm.rowE rs t a n = 0) (hb : Tm.hitB rs t a n = true) (he : Tm.hitErr rs t a n = 0) : Tm.rowE rs t a (n + 1) = 0 := by rw [Tm.rowE, if_pos hr, if_pos hb, he]
theorem Tm.rowL_no {rs : RuleL} {t : List Int} {a n : Nat} (hb : Tm.hitB rs t a n = false) : Tm.rowL rs t a (n + 1) = Tm.rowL rs t a n := by rw [Tm.rowL, hb, if_neg (by decide), List.append_nil]
theorem Tm.rowL_yes {rs : RuleL} {t : List Int} {a n : Nat} (hb : Tm.hitB rs t a n = true) : Tm.rowL rs t a (n + 1) = Tm.rowL rs t a n ++ [(n, a, Tm.hitVal rs t a n)] := by rw [Tm.rowL, if_pos hb]
theorem Tm.rowL_le (rs : RuleL) (t : List Int) (a : Nat) : ∀ n, (Tm.rowL rs t a n).length ≤ n := by
  intro n
  induction n with
  | zero => simp [Tm.rowL]
  | succ n ih =>
    rw [Tm.rowL, List.length_append]
    split
    · simp only [List.length_cons, List.length_nil]; omega
    · simp only [List.length_nil]; omega
theorem Tm.allL_le (rs : RuleL) (t : List Int) : ∀ m, (Tm.allL rs t m).length ≤ m * rs.length := by
  intro m
  induction m with
  | zero => simp [Tm.allL]
  | succ m ih =>
    rw [Tm.allL, List.length_append, Nat.succ_mul]
    have := Tm.rowL_le rs t m rs.length
    omega
theorem Tm.applied_put_le {t u : List Int} {a : Nat} : u.length ≤ (Tm.put t a u).length := by unfold Tm.put; simp only [List.length_append]; omega
theorem Tm.hitB_fit {rs : RuleL} {t : List Int} {a k : Nat} (hL : Tm.err (rs[k]?.getD ([], [])).1 = 0) (ht : Tm.err t = 0) (ha : a < t.length) : Tm.hitB rs t a k = (Tm.fit (rs[k]?.getD ([], [])).1 (Tm.part t a)).isSome := by
  unfold Tm.hitB Tm.fitIs
  rw [if_pos (Tm.fitErr_of hL (Tm.part_err ht ha))]
theorem row_apart {W : World} {base : Nat} {e : TypeId} {size : Nat} {v : Value} {n : Nat} {us : List Value} (h : W.ownsRow base e size v n us) {row : Option Nat} (hr : ∀ k, row = some k → ∀ cs p, W.heap[k]? ≠ some (.cells cs e p)) : v.ownBlock = none ∨ v.ownBlock ≠ row := by
  rcases h.2 with ⟨rfl, _⟩ | ⟨g, cap, cur, rfl, _, hgb, _⟩
  · exact .inl rfl
  · refine .inr fun e' => ?_
    exact hr g (by rw [← e']; rfl) _ _ hgb
theorem NewT.grown {base : Nat} {W W' : World} {v : Value} {sts : StepL} {row : Option Nat} (h : NewT base W v sts) (hg : W.grownBy W' row) (hr : ∀ k, row = some k → ∀ cs p, W.heap[k]? ≠ some (.cells cs 54 p) ∧ W.heap[k]? ≠ some (.cells cs 3 p)) : NewT base W' v sts := by
  obtain ⟨us, h1, h2⟩ := h
  refine ⟨us, h1.kept hg (row_apart h1 fun k e cs p => (hr k e cs p).1), fun j hj => ?_⟩
  obtain ⟨u, a, b, c, d⟩ := h2 j hj
  exact ⟨u, a, b, c, World.ownsRow.kept d hg (row_apart d fun k e cs p => (hr k e cs p).2)⟩
theorem boxed_ne {W : World} {B : Nat} {t e : TypeId} {x : Value} (h : Boxed W B t x) (hte : t ≠ e) (cs : Array Value) (p : Nat × Nat) : W.heap[B]? ≠ some (.cells cs e p) := by
  rw [show W.heap[B]? = _ from h]
  intro h'
  simp only [Option.some.injEq, Obj.cells.injEq] at h'
  exact hte h'.2.1
theorem NewT.set {base : Nat} {W : World} {v : Value} {sts : StepL} (h : NewT base W v sts) {B : Nat} {t : TypeId} {x : Value} (hb : Boxed W B t x) (h1 : t ≠ 54) (h2 : t ≠ 3) (y : Value) : NewT base (W.setCell ⟨B, 0, none⟩ y) v sts :=
  h.grown (grownBy_setCell' W B y) fun k e cs p => by
    cases e
    exact ⟨boxed_ne hb h1 cs p, boxed_ne hb h2 cs p⟩
theorem NewT.other {base : Nat} {W W' : World} {v : Value} {sts : StepL} {row : Option Nat} (h : NewT base W v sts) (hg : W.grownBy W' row) (hr : ∀ r, row = some r → ∃ o : Obj, W.heap[r]? = some o ∧ o.isCells = false) : NewT base W' v sts :=
  h.grown hg fun k e cs p => by
    obtain ⟨o, ho, hc⟩ := hr k e
    rw [ho]
    refine ⟨?_, ?_⟩ <;> (intro h'; simp only [Option.some.injEq] at h'; subst h'; simp [Obj.isCells] at hc)
theorem NewT.mono {base base' : Nat} {W : World} {v : Value} {sts : StepL} (h : NewT base W v sts) (hb : base' ≤ base) : NewT base' W v sts := by
  obtain ⟨us, h1, h2⟩ := h
  refine ⟨us, ⟨h1.1, h1.2.elim .inl (fun ⟨g, cap, cur, e1, e2, e3⟩ => .inr ⟨g, cap, cur, e1, Nat.le_trans hb e2, e3⟩)⟩, fun j hj => ?_⟩
  obtain ⟨u, a, b, c, d⟩ := h2 j hj
  exact ⟨u, a, b, c, d.mono hb⟩
theorem NewT.block {base : Nat} {W : World} {v : Value} {sts : StepL} (h : NewT base W v sts) {k : Nat} (hk : v.ownBlock = some k) : base ≤ k ∧ ∃ cs p, W.heap[k]? = some (.cells cs 54 p) := by
  obtain ⟨us, h1, _⟩ := h
  rcases h1.2 with ⟨rfl, _⟩ | ⟨g, cap, cur, rfl, hb, hgb, _⟩
  · cases hk
  · obtain rfl : g = k := by simpa [Value.ownBlock] using hk
    exact ⟨hb, _, _, hgb⟩
theorem NewT.slice {base : Nat} {W : World} {v : Value} {sts : StepL} (h : NewT base W v sts) : ∃ a cap, v = .slice a sts.length cap := by
  obtain ⟨us, h1, _⟩ := h
  rcases h1.2 with ⟨rfl, h0⟩ | ⟨g, cap, cur, rfl, _⟩
  · exact ⟨none, 0, by rw [h0]⟩
  · exact ⟨_, _, rfl⟩
theorem Try.infoSteps : Try.prog.underlying 50 = some (.slice 54) := by kernel_rfl
theorem wpi_append_step {F : Fence} {n : Nat} {ops : Array Oper} {rest : List Oper} {o : Oper} {a : Act} {Q : Exit → Act → World → Prop} (w : World) (hgd : o.guard = none) (s x : Operand)
    (ho : o.op = .call { callee := .builtin .append, args := #[s, x], argTypes := #[50, 50] }) (base : Nat) (v : Value) (sts : StepL) (hs : a.eval s = v) (hN : NewT base w v sts)
    (u : Value) (r p : Nat) (t : List Int) (B : Nat) (hx : a.eval x = .slice (some ⟨B, 0, none⟩) 1 1) (hB0 : w.cell? ⟨B, 0, none⟩ = some (.int .i64 (r : Int))) (hB1 : w.cell? ⟨B, 1, none⟩ = some (.int .i64 (p : Int))) (hB2 : w.cell? ⟨B, 2, none⟩ = some u) (hu : New base w u t) (hlen : sts.length ≤ 1000000) (hbase : base ≤ w.heap.size)
    (h : ∀ v' w', NewT base w' v' (sts ++ [(r, p, t)]) → w.grownBy w' v.ownBlock → (∃ g cap, v' = .slice (some ⟨g, 0, none⟩) (sts.length + 1) cap) → wpListIn F n Try.prog ops Q rest (a.put o.dst v') w') : wpListIn F n Try.prog ops Q (o :: rest) a w := by
  obtain ⟨i0, hi, hz0, hz1, hz2⟩ := info_parts Try.info54
  obtain ⟨us, h1, h2⟩ := hN
  have hul : us.length = sts.length * 3 := h1.1
  refine wpListIn_append_own w hgd s x 50 ho base 54 i0 (.agg #[.int .i64 0, .int .i64 0, .slice none 0 0]) 3 40 Try.infoSteps hi hz0 hz1 hz2 rfl (by decide) v sts.length us hs h1 ⟨B, 0, none⟩ 1 1 [.int .i64 (r : Int), .int .i64 (p : Int), u] hx (by simp)
    (by intro j z hj
        match j, hj with
        | 0, hj => simp at hj; subst hj; rw [Go.WideShapes.add_plain]; simpa using hB0
        | 1, hj => simp at hj; subst hj; rw [Go.WideShapes.add_plain]; simpa using hB1
        | 2, hj => simp at hj; subst hj; rw [Go.WideShapes.add_plain]; simpa using hB2)
    (by intro z hz; simp at hz; obtain ⟨_, _, rfl, _⟩ := New.ints hu; rcases hz with rfl | rfl | rfl <;> rfl) (by unfold maxLen; omega) (by omega) hbase ?_
  intro v' w' hown hg _
  have hkeep : ∀ (u' : Value) (t' : List Int), New base w u' t' → New base w' u' t' := fun u' t' hN' => World.ownsRow.kept hN' hg (New.apartT hN' h1)
  refine h v' w' ⟨us ++ [.int .i64 (r : Int), .int .i64 (p : Int), u], by simpa using hown, fun j hj => ?_⟩ hg (ownsRow_succ hown)
  by_cases hjl : j < sts.length
  · obtain ⟨u', q1, q2, q3, hN'⟩ := h2 j hjl
    rw [List.getElem?_append_left hjl, List.getElem?_append_left (by omega), List.getElem?_append_left (by omega), List.getElem?_append_left (by omega)]
    exact ⟨u', q1, q2, q3, hkeep u' _ hN'⟩
  · have hje : j = sts.length := by simp at hj; omega
    subst hje
    rw [List.getElem?_append_right (Nat.le_refl _), List.getElem?_append_right (by omega), List.getElem?_append_right (by omega), List.getElem?_append_right (by omega), hul]
    refine ⟨u, by simp, by simp, by simp, ?_⟩
    simpa using hkeep u t hu
end Go.Proofs.Ytgeknojpcjadkaa
namespace Go.Proofs.Ytgeknojpcjadkaa
open Go.Proofs Go.RowKit Go.Shelf
attribute [local go_sem] Oper.semAt_some
set_option maxHeartbeats 400000 in
theorem placesx_in (F : Fence) (hF : Pl F) (n : Nat) (a : Option Addr) (len cap : Nat) (w : World) :
    CallsIn F n Try.prog 54 #[.slice a len cap] w fun e w' => e = .returned (.func (.func 90) #[] #[.pointer (some ⟨w.heap.size, 0, none⟩)]) ∧
      w' = w.alloc (.cells #[.slice a len cap] 37) := by
  obtain ⟨hro, hfn, hdd⟩ := fx_facts hF
  have hf := hfn _ _ Try.func54
  clear hF hfn
  refine callsIn_of_wp Try.func54 rfl hf ?_ hro
  simp only [Try.ntmps54, List.size_toArray, List.length_cons, List.length_nil, Nat.reduceAdd, Nat.reduceSub, Array.replicate_succ, Array.replicate_zero, List.push_toArray, List.append_toArray, List.nil_append, List.cons_append]
  gi_wp2
  go_ret
  exact ⟨rfl, rfl⟩
def encPl (zs : List Int) (i : Nat) : Array Value := #[.int .i64 (i : Int), .int .i64 (Tm.endAt zs i : Int)]
def PlacesRd (Bt cap : Nat) (a : Option Addr) (zs : List Int) (W : World) : Prop := W.cell? ⟨Bt, 0, none⟩ = some (.slice a zs.length cap) ∧ Ints W.heap.size W a zs
set_option maxRecDepth 100000 in
set_option maxHeartbeats 1000000 in
theorem places_steps (F : Fence) (hF : Pl F) (n Bt cap : Nat) (a : Option Addr) (zs : List Int) (hlen : zs.length ≤ 5000) :
    SeqSteps F n Try.prog 90 #[.pointer (some ⟨Bt, 0, none⟩)] (encPl zs) zs.length (PlacesRd Bt cap a zs) := by
  intro l J Jx Jp W hJ hR hY h0
  obtain ⟨hro, hfn, hdd⟩ := fx_facts hF
  have HE := hid (fun n p W h2 h3 => endx_all F hF zs hlen a cap _ p n (Nat.le_refl _) h2 W h3)
  clear hF
  have hf55 := hfn _ _ Try.func90
  have hf32 := hfn _ _ Try.func89
  obtain ⟨hbt, _⟩ := hR 0 W h0
  have hl5 : (zs.length : Int) ≤ 5000 := by omega
  have HY := hid hY
  have HR := hid hR
  clear hY hR
  refine callsIn_of_wp Try.func90 rfl hf55 ?_ hro
  simp only [Try.ntmps90, List.size_toArray, List.length_cons, List.length_nil, Nat.reduceAdd, Nat.reduceSub, Array.replicate_succ, Array.replicate_zero, List.push_toArray, List.append_toArray, List.nil_append, List.cons_append]
  gi_wp2
  gi_loopw [6] (fun i wr => ∃ m : Nat, m ≤ zs.length ∧ i = .int .i64 (m : Int) ∧ J m wr) (fun i _ => zs.length - (intOf i).toNat)
  case atStart => exact ⟨0, Nat.zero_le _, rfl, h0⟩
  case round =>
    obtain ⟨m, hm, rfl, hJs⟩ := hrel
    obtain ⟨hbt', hI'⟩ := HR.out m wr hJs
    by_cases hlt : m < zs.length
    · have hlt' : (m : Int) < (zs.length : Int) := by omega
      have h1' := (HE.out (n - 1) m wr (by omega) hI').mono (R' := fun e W1 => e = .returned (.int .i64 (Tm.endAt zs m : Int)) ∧ YieldAt F (n - 1) Try.prog l #[.int .i64 (m : Int), .int .i64 (Tm.endAt zs m : Int)] W1 fun e W' =>
          (e = .returned (.bool true) ∧ J (m + 1) W') ∨ (e = .returned (.bool false) ∧ Jx W') ∨ ∃ ch, e = .panicked ch ∧ Jp ch W')
        (fun e W1 ⟨he, hB⟩ => ⟨he, by
          have hJ1 := hJ _ _ _ none hJs (grown_of_below hB) (fun r e => by cases e)
          refine YieldAt.mono (HY.out m W1 hJ1 hlt) fun e W2 h => ?_
          exact h⟩)
      gi_wp2_with (first
        | ((try refine ⟨hdd _, ?_⟩); gi_at_call 89; refine h1'.mono ?_; clear h1'; rintro e W1 ⟨rfl, fn, tmps, assign, body, hy, hR⟩)
        | ((try refine ⟨hdd _, ?_⟩); refine hR.mono ?_; clear hR; rintro e W2 (⟨rfl, hJ2⟩ | ⟨rfl, hx2⟩ | ⟨ch, rfl, hp2⟩)))
      · exact ⟨⟨m + 1, by omega, by go_num, hJ2⟩, by simp [intOf]; omega⟩
      · refine bodyPost_ret (results_none rfl _ _ _) rfl ?_
        exact .inl ⟨⟨_, rfl⟩, .inr hx2⟩
      · exact ⟨rfl, .inr ⟨ch, rfl, hp2⟩⟩
    · obtain rfl : m = zs.length := by omega
      have hlt' : ¬ (zs.length : Int) < (zs.length : Int) := by omega
      gi_wp2
      go_end0
      exact .inl ⟨⟨_, rfl⟩, .inl hJs⟩
end Go.Proofs.Ytgeknojpcjadkaa
namespace Go.Proofs.Ytgeknojpcjadkaa
open Go.Proofs Go.RowKit Go.Shelf Go.Maps
theorem results_box2 {fn : Func} {tmps : Array Value} {w : World} {a b B C : Nat} {ad : Option Addr} {n c : Nat} {x : Int} (h : fn.results = #[.cell a 50, .cell b 31]) (ha : tmps.getD a undef = .pointer (some ⟨B, 0, none⟩)) (hb : tmps.getD b undef = .pointer (some ⟨C, 0, none⟩))
    (hc : w.cell? ⟨B, 0, none⟩ = some (.slice ad n c)) (hd : w.cell? ⟨C, 0, none⟩ = some (.int .i64 x)) : (results fn tmps).run Try.prog w = .ok (.tuple #[.slice ad n c, .int .i64 x]) w := by
  have ha' : tmps[a]?.getD undef = .pointer (some ⟨B, 0, none⟩) := by rw [← ha]; simp
  have hb' : tmps[b]?.getD undef = .pointer (some ⟨C, 0, none⟩) := by rw [← hb]; simp
  simp only [results, h]
  simp [go_sem, ha', hb', hc, hd]
structure StInv (w2 : World) (B : Nat) (tv : Value) (l : StepL) (W : World) : Prop where
  out : ∃ v, Boxed W B 50 v ∧ NewT B W v l
  bP : Boxed W (B + 1) 37 tv
  kp : Below B w2 W
theorem StInv.own {w2 X Y : World} {B D : Nat} {tv : Value} {l : StepL} {row : Option Nat} (hB : B ≤ w2.heap.size) (hD : B ≤ D) (h : StInv w2 B tv l X) (hg : X.grownBy Y row) (hr : ∀ r, row = some r → D ≤ r ∧ ∃ o : Obj, X.heap[r]? = some o ∧ o.isCells = false) : StInv w2 B tv l Y := by
  obtain ⟨⟨v, hv, hN⟩, bP, kp⟩ := h
  exact ⟨⟨v, cells_own hv hg hr, hN.other hg (fun r e => (hr r e).2)⟩, cells_own bP hg hr, ⟨hg.os.trans kp.os, hg.tape.trans kp.tape, hg.output.trans kp.output, Nat.le_trans kp.size hg.size, fun k hk => (hg.block k (by have := kp.size; omega) (fun e => by have := (hr k e.symm).1; omega)).trans (kp.block k hk)⟩⟩
theorem StInv.below {w2 W W' : World} {B : Nat} {tv : Value} {l : StepL} (hB : B ≤ w2.heap.size) (h : StInv w2 B tv l W) (hb : Below W.heap.size W W') : StInv w2 B tv l W' := by
  obtain ⟨⟨v, hv, hN⟩, bP, kp⟩ := h
  exact ⟨⟨v, (hb.block _ hv.lt).trans hv, hN.below hb⟩, (hb.block _ bP.lt).trans bP, kp.trans (hb.mono (Nat.le_trans hB kp.size))⟩
theorem keepsFrom_below {C : Nat} {W W' : World} (hb : Below W.heap.size W W') : KeepsFrom C W W' := ⟨hb.size, fun k _ _ ho _ => (hb.block k (Array.getElem?_eq_some_iff.1 ho).1).trans ho⟩
theorem st_append {w2 W w' : World} {B C : Nat} {tv v v' : Value} {l : StepL} {x : Nat × Nat × List Int} {tmp : Obj} (hB : B ≤ w2.heap.size) (hv : Boxed W B 50 v) (hN : NewT B W v l) (bP : Boxed W (B + 1) 37 tv) (kp : Below B w2 W) (hN' : NewT B w' v' (l ++ [x])) (hg : (W.alloc tmp).grownBy w' v.ownBlock) :
    Boxed w' B 50 v ∧ StInv w2 B tv (l ++ [x]) (w'.setCell ⟨B, 0, none⟩ v') ∧ KeepsFrom C W (w'.setCell ⟨B, 0, none⟩ v') := by
  have hBW : B ≤ W.heap.size := Nat.le_trans hB kp.size
  have hne : ∀ {D : Nat} {e : TypeId} {y : Value}, Boxed W D e y → e ≠ 54 → some D ≠ v.ownBlock := fun hb he e' => by
    obtain ⟨_, cs, p, h⟩ := hN.block e'.symm
    exact boxed_ne hb he cs p h
  have hv1 : Boxed w' B 50 v := (hv.alloc tmp).kept hg (hne hv (by decide))
  have bP1 : Boxed w' (B + 1) 37 tv := (bP.alloc tmp).kept hg (hne bP (by decide))
  refine ⟨hv1, ⟨⟨v', hv1.set v', hN'.set hv1 (by decide) (by decide) v'⟩, (Below.heap_setCell w' ⟨B, 0, none⟩ v' (B + 1) (by show B + 1 ≠ B; omega)).trans bP1, kp.trans ?_⟩, ?_⟩
  · refine (((Below.refl B W).alloc hBW tmp).grown hg (by simp; omega) fun j ej => (hN.block ej).1).setCell (p := ⟨B, 0, none⟩) (Nat.le_refl _) v'
  · refine KeepsOthers.from (((KeepsOthers.alloc W tmp).trans (KeepsOthers.of_grownBy hg fun j o ej hj => ?_)).trans (KeepsOthers.setCell _ _ _)) C
    obtain ⟨_, cs, p, h⟩ := hN.block ej
    have h2 : (W.alloc tmp).heap[j]? = some (.cells cs 54 p) := (Below.heap_alloc W tmp j (Array.getElem?_eq_some_iff.1 h).1).trans h
    rw [h2] at hj
    cases hj
    rfl
end Go.Proofs.Ytgeknojpcjadkaa
