/-
  haspref.plain, PlainOf: the variables that have been seen lie in a slice. · haspref.plain, PlainOf. · haspref.PlainOf; hasplaw.subBegun: it answers true. · From the frame's word on a slice of slices of ints that came in to ours. · MAPS FROM ints, WHATEVER THEY HOLD: block b of the world is the map m : Int → Option Value. · A RANGE OVER signs.Parts, WHOSE BODY MAY PANIC: the rounds are numbered; what the body panics with goes up. · THE STATEMENT 'for .. := range it', whose rounds are numbered, whose body may leave, or panic. · signs.Room, signs.Parts, signs.End within a fence that holds all functions that there are; lists of up to 5000 signs. · signs.End, of lists of up to 5000 signs, within the fence. · signs.End, of lists of up to 5000 signs, at every place. · PLAIN MATHEMATICS: what is put at a place is part of what comes there; put back it is the term it was. · PLAIN MATHEMATICS of places that are tied: which place stands for which.
-/
import Derived.Test.YtloealnfbpegnabBun2
import Derived.Maps.OwnSet
import Derived.Maps.OwnOps
import Derived.Maps.OwnIn
namespace Go.Proofs.Ytloealnfbpegnab
open Go.Proofs Go.RowKit Go.Shelf Go.Maps

theorem Tm.see_nodup {seen : List Int} (h : seen.Nodup) (s : Int) : (Tm.see seen s).Nodup := by
  unfold Tm.see
  split
  · split
    · exact h
    · rename_i hc
      have : ¬ s ∈ seen := by simpa using hc
      rw [List.nodup_append]
      exact ⟨h, by simp, fun x hx y hy => by simp at hy; subst hy; rintro rfl; exact this hx⟩
  · exact h
theorem Tm.seen_nodup (t : List Int) : ∀ seen : List Int, seen.Nodup → (Tm.seenFrom seen t).Nodup := by
  induction t with
  | nil => intro seen h; exact h
  | cons s l ih => intro seen h; exact ih _ (Tm.see_nodup h s)
theorem Tm.idx_at {seen : List Int} (hn : seen.Nodup) {i : Nat} (hi : i < seen.length) {s : Int} (h : seen[i]?.getD 0 = s) : Tm.idx seen s = i := by
  unfold Tm.idx
  have h' : seen[i] = s := by simpa [hi] using h
  rw [List.findIdx_eq hi]
  refine ⟨by simp [h'], fun j hj => ?_⟩
  simp only [beq_eq_false_iff_ne]
  intro e
  exact (List.pairwise_iff_getElem.1 hn) j i (by omega) hi hj (e.trans h'.symm)
theorem Tm.has_at {seen : List Int} {i : Nat} (hi : i < seen.length) {s : Int} (h : seen[i]?.getD 0 = s) : seen.contains s = true := by
  have h' : seen[i] = s := by simpa [hi] using h
  simp only [List.contains_iff_mem]
  rw [← h']
  exact List.getElem_mem hi
theorem Tm.has_not {seen : List Int} {s : Int} (h : ∀ i, i < seen.length → seen[i]?.getD 0 ≠ s) : seen.contains s = false := by
  rw [Bool.eq_false_iff]
  intro hc
  have hm : s ∈ seen := by simpa using hc
  obtain ⟨i, hi, e⟩ := List.getElem_of_mem hm
  exact h i hi (by simp [hi, e])
/-- The first k signs made plain, the rest as they were. -/
def Tm.half (t : List Int) (k : Nat) : List Int := Tm.plainTo [] t k ++ t.drop k
theorem Tm.half_zero (t : List Int) : Tm.half t 0 = t := by simp [Tm.half, Tm.plainTo]
theorem Tm.half_all (t : List Int) : Tm.half t t.length = Tm.plain t := by simp [Tm.half, Tm.plain]
theorem Tm.half_length {t : List Int} {k : Nat} (h : k ≤ t.length) : (Tm.half t k).length = t.length := by
  simp only [Tm.half, List.length_append, Tm.plainTo_length, List.length_drop]; omega
theorem Tm.half_succ {t : List Int} {k : Nat} (h : k < t.length) : Tm.half t (k + 1) = (Tm.half t k).set k (Tm.name (Tm.seenFrom [] (t.take k)) (t[k]?.getD 0)) := by
  unfold Tm.half
  rw [Tm.plainTo_succ, List.set_append_right _ _ (by rw [Tm.plainTo_length]; exact Nat.le_refl _), Tm.plainTo_length, Nat.sub_self, List.drop_eq_getElem_cons h, List.set_cons_zero, List.append_assoc]
  rfl
theorem Tm.half_same {t : List Int} {k : Nat} (h : k < t.length) (hs : 0 ≤ t[k]?.getD 0) : Tm.half t (k + 1) = Tm.half t k := by
  unfold Tm.half
  have hn : Tm.name (Tm.seenFrom [] (t.take k)) (t[k]?.getD 0) = t[k]?.getD 0 := by unfold Tm.name; rw [if_neg (by omega)]
  rw [Tm.plainTo_succ, hn, List.drop_eq_getElem_cons h]
  simp [h]
theorem Tm.see_same {seen : List Int} {s : Int} (hs : 0 ≤ s) : Tm.see seen s = seen := by unfold Tm.see; rw [if_neg (by omega)]
theorem Tm.see_old {seen : List Int} {s : Int} (h : seen.contains s = true) : Tm.see seen s = seen := by unfold Tm.see; rw [if_pos h]; split <;> rfl
theorem Tm.see_new {seen : List Int} {s : Int} (hs : s < 0) (h : seen.contains s = false) : Tm.see seen s = seen ++ [s] := by unfold Tm.see; rw [if_pos hs, if_neg (by rw [h]; decide)]

/-- One int is stored anew. -/
theorem New.set {base : Nat} {W : World} {g c n : Nat} {zs : List Int} (h : New base W (.slice (some ⟨g, 0, none⟩) n c) zs) (hn : n = zs.length) (j : Nat) (x : Int) :
    New base (W.setCell ⟨g, j, none⟩ (.int .i64 x)) (.slice (some ⟨g, 0, none⟩) n c) (zs.set j x) := by
  subst hn
  have := (World.ownsRow.stored h j (.int .i64 x)).1
  unfold New
  rw [List.length_set, List.map_set]
  exact this

theorem Try.infoInts : Try.prog.underlying 22 = some (.slice 3) := by kernel_rfl

/-- 'append(s, x...)' onto a plain slice of ints that the call itself made. -/
theorem wp_append_int1 {ops : Array Oper} {rest : List Oper} {o : Oper} {a : Act} {Q : Exit → Act → World → Prop} (w : World) (hgd : o.guard = none) (s x : Operand)
    (ho : o.op = .call { callee := .builtin .append, args := #[s, x], argTypes := #[22, 22] }) (base : Nat) (v : Value) (xs : List Int) (hs : a.eval s = v) (hN : New base w v xs)
    (B : Nat) (y : Int) (hx : a.eval x = .slice (some ⟨B, 0, none⟩) 1 1) (hB : w.cell? ⟨B, 0, none⟩ = some (.int .i64 y)) (hlen : xs.length ≤ 1000000) (hbase : base ≤ w.heap.size)
    (h : ∀ v' w', New base w' v' (xs ++ [y]) → w.grownBy w' v.ownBlock → Below base w w' → wpList Try.prog ops Q rest (a.put o.dst v') w') : wpList Try.prog ops Q (o :: rest) a w := by
  obtain ⟨i0, hi, hz0, hz1, hz2⟩ := info_parts Try.info3
  refine wpList_append_own w hgd s x 22 ho base 3 i0 (.int .i64 0) 1 8 Try.infoInts hi hz0 hz1 hz2 rfl (by decide) v xs.length (xs.map (Value.int .i64)) hs hN ⟨B, 0, none⟩ 1 1 [.int .i64 y] hx (by simp)
    (by intro j z hj
        match j, hj with
        | 0, hj => simp at hj; subst hj; rw [Go.WideShapes.add_plain]; simpa using hB)
    (by intro z hz; simp at hz; subst hz; rfl) (by unfold maxLen; omega) (by omega) hbase ?_
  intro v' w' hown hg _
  exact h v' w' (by simpa [New] using hown) hg ((Below.refl base w).grown hg hbase (fun k e => (World.ownsRow.lt hN k e).1))

end Go.Proofs.Ytloealnfbpegnab

namespace Go.Proofs.Ytloealnfbpegnab
open Go.Proofs Go.RowKit Go.Shelf Go.Maps

theorem New.drewN {base : Nat} {W : World} {v : Value} {zs : List Int} (h : New base W v zs) (d : Nat) : New base (W.drewN d) v zs := h
theorem New.own_lt {base : Nat} {W : World} {g n c : Nat} {zs : List Int} (h : New base W (.slice (some ⟨g, 0, none⟩) n c) zs) : base ≤ g ∧ g < W.heap.size := World.ownsRow.lt h g rfl
theorem New.at0 {base : Nat} {W : World} {v : Value} {zs : List Int} (h : New base W v zs) (h0 : 0 < zs.length) : ∃ g c, v = .slice (some ⟨g, 0, none⟩) zs.length c ∧ (∀ j, j < zs.length → W.cell? ⟨g, j, none⟩ = some (.int .i64 (zs[j]?.getD 0))) ∧ ∀ j, W.frozen? ⟨g, j, none⟩ = false := by
  obtain ⟨m, hm⟩ : ∃ m, zs.length = m + 1 := ⟨zs.length - 1, by omega⟩
  have h' : W.ownsRow base 3 1 v (m + 1) (zs.map (Value.int .i64)) := by rw [← hm]; exact h
  obtain ⟨g, c, rfl⟩ := ownsRow_succ h'
  rw [← hm] at h'
  refine ⟨g, c, by rw [hm], fun j hj => ?_, fun j => ?_⟩
  · have := World.ownsRow.cellAt (by rw [hm] at h'; exact h') j (by omega)
    rw [this]
    simp [hj]
  · exact World.ownsRow.frozenAt (by rw [hm] at h'; exact h') j

/-- haspref.plain, one round: what stands before it and behind it. -/
def PlainSt (w W1 : World) (t : List Int) (g n c k : Nat) (vs : Value) (wr : World) : Prop :=
  New W1.heap.size wr vs (Tm.seenFrom [] (t.take k)) ∧ New w.heap.size wr (.slice (some ⟨g, 0, none⟩) n c) (Tm.half t k) ∧ Below w.heap.size w wr ∧ W1.heap.size ≤ wr.heap.size

theorem PlainSt.same {w W1 : World} {t : List Int} {g n c k : Nat} {vs : Value} {wr : World} (h : PlainSt w W1 t g n c k vs wr) (hk : k < t.length) (hs : 0 ≤ t[k]?.getD 0) : PlainSt w W1 t g n c (k + 1) vs wr := by
  obtain ⟨h1, h2, h3, h4⟩ := h
  refine ⟨?_, ?_, h3, h4⟩
  · rw [Tm.seen_succ [] hk, Tm.see_same hs]; exact h1
  · rw [Tm.half_same hk hs]; exact h2

theorem PlainSt.store {w W1 : World} {t : List Int} {g n c k : Nat} {vs : Value} {wr : World} (hg : g < W1.heap.size) (hn : n = t.length) (hk : k < t.length)
    (h1 : New W1.heap.size wr vs (Tm.seenFrom [] (t.take (k + 1)))) (h2 : New w.heap.size wr (.slice (some ⟨g, 0, none⟩) n c) (Tm.half t k)) (h3 : Below w.heap.size w wr) (h4 : W1.heap.size ≤ wr.heap.size)
    (x : Int) (hx : x = Tm.name (Tm.seenFrom [] (t.take k)) (t[k]?.getD 0)) : PlainSt w W1 t g n c (k + 1) vs (wr.setCell ⟨g, k, none⟩ (.int .i64 x)) := by
  have hgr := grownBy_setCell1 wr g k (.int .i64 x)
  refine ⟨World.ownsRow.kept h1 hgr (.inr fun e => ?_), ?_, h3.setCell (p := ⟨g, k, none⟩) h2.own_lt.1 _, Nat.le_trans h4 hgr.size⟩
  · have := (World.ownsRow.lt h1 g e).1
    omega
  · rw [Tm.half_succ hk, ← hx]
    exact h2.set (by rw [Tm.half_length (by omega)]; exact hn) k x

end Go.Proofs.Ytloealnfbpegnab

namespace Go.Proofs.Ytloealnfbpegnab
open Go.Proofs Go.RowKit Go.Shelf Go.Maps

theorem Tm.s1 : Tm.applyErr Tm.someL [4, -1, -2] = 0 := by decide +kernel
theorem Tm.s2 : Tm.applyVal Tm.someL [4, -1, -2] = [4, 2, -2, -1] := by decide +kernel
theorem Tm.s3 : Tm.afterErr Tm.someL Tm.someL = 0 := by decide +kernel
theorem Tm.s4 : Tm.afterVal Tm.someL Tm.someL = [[2, -1], [2, -2], [-3], [-4], [-5], [-6], [-7], [-8]] := by decide +kernel
theorem Tm.s5 : Tm.err [4, -5, 4, -2, -5] = 0 := by decide +kernel
theorem Tm.s6 : Tm.plainVal [4, -5, 4, -2, -5] = [4, -1, 4, -2, -1] := by decide +kernel
theorem Tm.s7 : Tm.applyErr [] [4, -1, 2, 0] = 1 := by decide +kernel
theorem Tm.s8 : Tm.applyVal [] [4, -1, 2, 0] = [] := by decide +kernel
theorem Tm.s9 : Tm.subErr (Tm.noneL 8) = 0 := by decide +kernel
theorem Tm.s10 : Tm.someL.length = 8 := rfl

end Go.Proofs.Ytloealnfbpegnab

namespace Go.Proofs.Ytloealnfbpegnab
open Go.Proofs Go.RowKit Go.Shelf

def TermIn (w : World) (a : Option Addr) (len cap : Nat) : Prop := ∃ zs : List Int, zs.length = len ∧ Ints w.heap.size w a zs ∧ len ≤ cap ∧ cap ≤ maxLen ∧ (a = none → cap = 0)
def SubsIn (w : World) (a : Option Addr) (len cap : Nat) : Prop := ∃ ss : List (List Int), ss.length = len ∧ Subs w.heap.size w a ss ∧ len ≤ cap ∧ cap ≤ maxLen
theorem subsIn_nil (w : World) : SubsIn w none 0 0 := ⟨[], rfl, Subs.nil _ _ _, Nat.le_refl _, Nat.zero_le _⟩

theorem ints_of_cells {w : World} {a : Option Addr} {L C : Nat} {Z : List Int} (h1 : L ≤ C) (h2 : Z.length = C) (h3 : ∀ x, a = some x → ∀ c, c < C → w.cell? (x.add c) = some (.int .i64 (Z.getD c 0))) (h4 : a = none → C = 0) :
    Ints w.heap.size w a (Z.take L) := fun j hj => by
  rw [List.length_take] at hj
  cases a with
  | none => have := h4 rfl; omega
  | some x =>
    have hc := h3 x rfl j (by omega)
    have hsp := World.cell?_spot (h3 x rfl 0 (by omega))
    obtain ⟨b, off, spot⟩ := x
    have hspot : spot = none := by simpa [Addr.add] using hsp
    subst hspot
    rw [Go.WideShapes.add_plain] at hc
    refine ⟨b, off, rfl, by simpa using lt_of_cell hc, ?_⟩
    rw [hc, List.getD_eq_getElem?_getD]
    simp [show j < L from by omega]

theorem subsIn_rows {w : World} {a : Addr} {len cap : Nat} {A : Nat → Option Addr} {L C : Nat → Nat} {Z : Nat → List Int} (h1 : len ≤ cap) (h2 : cap ≤ maxLen)
    (h : ∀ r, r < cap → w.cell? (a.add r) = some (.slice (A r) (L r) (C r)) ∧ L r ≤ C r ∧ C r ≤ maxLen ∧ (Z r).length = C r ∧ (∀ n ∈ Z r, (Lit.int .i64 n).wf = true) ∧ (A r = none → C r = 0) ∧
        ∀ a', A r = some a' → 0 ≤ a'.block ∧ ∀ c, c < C r → w.cell? (a'.add c) = some (.int .i64 ((Z r).getD c 0))) : SubsIn w (some a) len cap := by
  refine ⟨(List.range len).map fun r => (Z r).take (L r), by simp, fun j hj => ?_, h1, h2⟩
  have hj' : j < len := by simpa using hj
  obtain ⟨hc, q1, q2, q3, _, q5, q6⟩ := h j (by omega)
  have hsp := World.cell?_spot (h 0 (by omega)).1
  obtain ⟨b, off, spot⟩ := a
  have hspot : spot = none := by simpa [Addr.add] using hsp
  subst hspot
  rw [Go.WideShapes.add_plain] at hc
  have e : ((List.range len).map fun r => (Z r).take (L r))[j]?.getD [] = (Z j).take (L j) := by simp [hj']
  rw [e]
  have el : ((Z j).take (L j)).length = L j := by rw [List.length_take]; omega
  refine ⟨b, off, A j, C j, rfl, by simpa using lt_of_cell hc, ?_, ints_of_cells q1 q3 (fun x hx => (q6 x hx).2) q5, ?_, q2, q5⟩
  · rw [el]; exact hc
  · rw [el]; exact q1

theorem Tm.applyVal_le (ss : List (List Int)) (t : List Int) : (Tm.applyVal ss t).length ≤ 30 := by
  by_cases hs : Tm.subErr ss = 0
  · by_cases ht : Tm.err t = 0
    · rw [(Tm.apply_ok hs ht).2]
      split
      · simp
      · omega
    · rw [(Tm.apply_t hs ht).2]; simp
  · rw [(Tm.apply_s hs).2]; simp

end Go.Proofs.Ytloealnfbpegnab

namespace Go.Proofs.Ytloealnfbpegnab
open Go.Proofs Go.RowKit Go.Shelf Go.Maps

/-- An element reads as itself. -/
def heldElem (v : Value) : Option (DataW Value × List MemPlace) := some (.held v, [])

/-- BLOCK b IS THE MAP m, of at most n entries. -/
def IntMap (W : World) (b n : Nat) (m : Int → Option Value) : Prop :=
  ∃ D : DataW Value, W.ownsMap Try.prog 3 heldElem b n D ∧ (∀ k : Int, Maps.has D (.int .i64 k) = (m k).isSome) ∧ ∀ (k : Int) (v : Value), m k = some v → ∀ z, D.atKey (.int .i64 k) z = .held v
def upd {α : Type} (m : Int → Option α) (s : Int) (v : α) : Int → Option α := fun x => if x = s then some v else m x
theorem upd_same {α : Type} (m : Int → Option α) (s : Int) (v : α) : upd m s v s = some v := by simp [upd]
theorem upd_other {α : Type} (m : Int → Option α) {s x : Int} (v : α) (h : x ≠ s) : upd m s v x = m x := by simp [upd, h]

theorem IntMap.made (w : World) : IntMap (w.alloc (.map #[] 0)) w.heap.size 0 (fun _ => none) :=
  ⟨_, World.ownsMap_made w _ _ _, fun _ => rfl, fun _ _ h => by cases h⟩
theorem IntMap.lt {W : World} {b n : Nat} {m : Int → Option Value} (h : IntMap W b n m) : b < W.heap.size := by
  obtain ⟨D, hD, _⟩ := h; exact hD.lt
theorem IntMap.keep {W W' : World} {b n : Nat} {m : Int → Option Value} (h : IntMap W b n m) (hb : W'.heap[b]? = W.heap[b]?) : IntMap W' b n m := by
  obtain ⟨D, ⟨es, clock, hes, r⟩, r2⟩ := h
  exact ⟨D, ⟨es, clock, hb.trans hes, r⟩, r2⟩
theorem IntMap.mono {W : World} {b n n' : Nat} {m : Int → Option Value} (h : IntMap W b n m) (hn : n ≤ n') : IntMap W b n' m := by
  obtain ⟨D, hD, r⟩ := h; exact ⟨D, hD.mono hn, r⟩
theorem IntMap.map {W : World} {b n : Nat} {m : Int → Option Value} (h : IntMap W b n m) : ∃ es clock, W.heap[b]? = some (.map es clock) := by
  obtain ⟨D, ⟨es, clock, hes, r⟩, r2⟩ := h; exact ⟨es, clock, hes⟩

theorem atKey_none {D : DataW Value} {k : Lit} (hD : IsMap D) (h : Maps.has D k = false) (z : DataW Value) : D.atKey k z = z := by
  cases D with
  | map es =>
    simp only [Maps.has, List.any_eq_false] at h
    simp only [DataW.atKey]
    have : es.find? (fun p => p.1.sameKey k) = none := by
      rw [List.find?_eq_none]; intro x hx; simpa using h x hx
    simp [this]
  | _ => simp [IsMap] at hD

theorem IntMap.look {w : World} {b n : Nat} {M : Int → Option Value} (h : IntMap w b n M) {t e : TypeId} (ht : Try.prog.underlying t = some (.map 3 e)) {z : Value} (hz : (zeroValue e).run Try.prog w = .ok z w) {key : Int} (hwf : (Lit.int .i64 key).wf = true) :
    (Instr.lookup t (.map (some b)) (.int .i64 key) true).run Try.prog w = .ok (.tuple #[(M key).getD z, .bool (M key).isSome]) w ∧ (Instr.lookup t (.map (some b)) (.int .i64 key) false).run Try.prog w = .ok ((M key).getD z) w := by
  obtain ⟨D, hD, hh, ha⟩ := h
  have hkey := keyOf_int_mk Try.underlying3 hwf
  have hv : ∀ v, heldElem v = some (D.atKey (.int .i64 key) (.held z), []) → v = (M key).getD z := fun v hv => by
    unfold heldElem at hv
    simp only [Option.some.injEq, Prod.mk.injEq, and_true] at hv
    cases hm : M key with
    | none =>
      rw [atKey_none (hD.tidy lawInt).isMap (by rw [hh, hm]; rfl)] at hv
      simpa using hv
    | some u =>
      rw [ha key u hm] at hv
      simpa using hv
  constructor
  · obtain ⟨v, ps, hrun, hR⟩ := hD.look_ok lawInt ht hz (R := heldElem) (zd := .held z) (zp := []) rfl hkey
    have : ps = [] := by unfold heldElem at hR; simp at hR; exact hR.2
    subst this
    rw [hrun, hv v hR, hh]
  · obtain ⟨v, ps, hrun, hR⟩ := hD.lookup lawInt ht hz (R := heldElem) (zd := .held z) (zp := []) rfl hkey
    have : ps = [] := by unfold heldElem at hR; simp at hR; exact hR.2
    subst this
    rw [hrun, hv v hR]

theorem IntMap.set {w : World} {b n : Nat} {M : Int → Option Value} (h : IntMap w b n M) {t e : TypeId} (ht : Try.prog.underlying t = some (.map 3 e)) (hn : n < maxLen) {key : Int} (hwf : (Lit.int .i64 key).wf = true) (v : Value) :
    ∃ w', (Instr.mapUpdate t (.map (some b)) (.int .i64 key) v).run Try.prog w = .ok () w' ∧ IntMap w' b (n + 1) (upd M key v) ∧ w.grownBy w' (some b) := by
  obtain ⟨D, hD, hh, ha⟩ := h
  have hkey := keyOf_int_mk Try.underlying3 hwf
  obtain ⟨w', hrun, h1, h2⟩ := hD.update (R := heldElem) lawInt ht hn hkey (val := v) (d := .held v) (ps := []) rfl
  have hk : WideAt.IsKeyLit (.int .i64 key) := trivial
  refine ⟨w', hrun, ⟨_, h1, fun x => ?_, fun x u hx z => ?_⟩, h2⟩
  · by_cases e : x = key
    · subst e; rw [has_put_same (hD.tidy lawInt).isMap hk, upd_same]; rfl
    · rw [has_put_other (by simp [e]), upd_other _ _ e, hh]
  · by_cases e : x = key
    · subst e; rw [upd_same] at hx; cases hx; exact atKey_put_same (hD.tidy lawInt).isMap hk _ _
    · rw [upd_other _ _ e] at hx; rw [atKey_put_other (by simp [e])]; exact ha x u hx z

section
variable (w : World) {ops : Array Oper} {rest : List Oper} {o : Oper} {a : Act} {Q : Exit → Act → World → Prop}
theorem wp_look_hit (hg : o.guard = none) (m x : Operand) (t : TypeId) (hop : o.op = Op.lookup t m x true) (e : TypeId) (ht : Try.prog.underlying t = some (.map 3 e)) {z : Value} (hz : (zeroValue e).run Try.prog w = .ok z w) (b n : Nat) (M : Int → Option Value)
    (hm : a.eval m = .map (some b)) (hI : IntMap w b n M) (key : Int) (hx : a.eval x = .int .i64 key) (hwf : (Lit.int .i64 key).wf = true) (v : Value) (hv : M key = some v)
    (hK : wpList Try.prog ops Q rest (a.put o.dst (.tuple #[v, .bool true])) w) : wpList Try.prog ops Q (o :: rest) a w := by
  refine wpList_plain hg fun K' hK' => ?_
  have hrun := (hI.look ht hz hwf).1
  rw [hv] at hrun
  unfold Oper.wp
  simp [execOp, hop, hm, hx, hrun, Result.andThen]
  exact hK' _ _ hK
theorem wp_look_miss (hg : o.guard = none) (m x : Operand) (t : TypeId) (hop : o.op = Op.lookup t m x true) (e : TypeId) (ht : Try.prog.underlying t = some (.map 3 e)) {z : Value} (hz : (zeroValue e).run Try.prog w = .ok z w) (b n : Nat) (M : Int → Option Value)
    (hm : a.eval m = .map (some b)) (hI : IntMap w b n M) (key : Int) (hx : a.eval x = .int .i64 key) (hwf : (Lit.int .i64 key).wf = true) (hv : M key = none)
    (hK : wpList Try.prog ops Q rest (a.put o.dst (.tuple #[z, .bool false])) w) : wpList Try.prog ops Q (o :: rest) a w := by
  refine wpList_plain hg fun K' hK' => ?_
  have hrun := (hI.look ht hz hwf).1
  rw [hv] at hrun
  unfold Oper.wp
  simp [execOp, hop, hm, hx, hrun, Result.andThen]
  exact hK' _ _ hK
theorem wp_mapset (hg : o.guard = none) (m x u : Operand) (t : TypeId) (hop : o.op = Op.mapUpdate t m x u) (e : TypeId) (ht : Try.prog.underlying t = some (.map 3 e)) (b n : Nat) (M : Int → Option Value)
    (hm : a.eval m = .map (some b)) (hI : IntMap w b n M) (hn : n < maxLen) (key : Int) (hx : a.eval x = .int .i64 key) (hwf : (Lit.int .i64 key).wf = true) (v : Value) (hv : a.eval u = v)
    (hK : ∀ w', IntMap w' b (n + 1) (upd M key v) → w.grownBy w' (some b) → wpList Try.prog ops Q rest (a.put o.dst undef) w') : wpList Try.prog ops Q (o :: rest) a w := by
  refine wpList_plain hg fun K' hK' => ?_
  obtain ⟨w', hrun, h1, h2⟩ := hI.set ht hn hwf v
  unfold Oper.wp
  simp [execOp, hop, hm, hx, hv, hrun, Result.andThen]
  exact hK' _ _ (hK w' h1 h2)
end

section
variable {F : Fence} {nF : Nat} (w : World) {ops : Array Oper} {rest : List Oper} {o : Oper} {a : Act} {Q : Exit → Act → World → Prop}
theorem wpi_look (hg : o.guard = none) (m x : Operand) (t : TypeId) (hop : o.op = Op.lookup t m x false) (e : TypeId) (ht : Try.prog.underlying t = some (.map 3 e)) {z : Value} (hz : (zeroValue e).run Try.prog w = .ok z w) (b n : Nat) (M : Int → Option Value)
    (hm : a.eval m = .map (some b)) (hI : IntMap w b n M) (key : Int) (hx : a.eval x = .int .i64 key) (hwf : (Lit.int .i64 key).wf = true) (v : Value) (hv : (M key).getD z = v)
    (hK : wpListIn F nF Try.prog ops Q rest (a.put o.dst v) w) : wpListIn F nF Try.prog ops Q (o :: rest) a w := by
  refine wpListIn_plain hg fun K' hK' => ?_
  have hrun := (hI.look ht hz hwf).2
  rw [hv] at hrun
  unfold Oper.wpIn
  refine ⟨by simp [Oper.about, hop], ?_⟩
  rw [Oper.semAt_plain F _ _ (by rw [hop]; intro c hc'; cases hc')]
  simp [execOp, hop, hm, hx, hrun, Result.andThen]
  exact hK' _ _ hK
theorem wpi_mapset (hg : o.guard = none) (m x u : Operand) (t : TypeId) (hop : o.op = Op.mapUpdate t m x u) (e : TypeId) (ht : Try.prog.underlying t = some (.map 3 e)) (b n : Nat) (M : Int → Option Value)
    (hm : a.eval m = .map (some b)) (hI : IntMap w b n M) (hn : n < maxLen) (key : Int) (hx : a.eval x = .int .i64 key) (hwf : (Lit.int .i64 key).wf = true) (v : Value) (hv : a.eval u = v)
    (hK : ∀ w', IntMap w' b (n + 1) (upd M key v) → w.grownBy w' (some b) → wpListIn F nF Try.prog ops Q rest (a.put o.dst undef) w') : wpListIn F nF Try.prog ops Q (o :: rest) a w := by
  refine wpListIn_plain hg fun K' hK' => ?_
  obtain ⟨w', hrun, h1, h2⟩ := hI.set ht hn hwf v
  unfold Oper.wpIn
  refine ⟨by simp [Oper.about, hop], ?_⟩
  rw [Oper.semAt_plain F _ _ (by rw [hop]; intro c hc'; cases hc')]
  simp [execOp, hop, hm, hx, hv, hrun, Result.andThen]
  exact hK' _ _ (hK w' h1 h2)
end

end Go.Proofs.Ytloealnfbpegnab

namespace Go.Proofs.Ytloealnfbpegnab
open Go.Proofs Go.RowKit Go.Shelf

/-- How a round may be left; a panic goes up as it is. -/
def roundPostP (P : Program) (l : Nat) (R : Ending → World → Prop) : Exit → Act → World → Prop
  | .panic chain, a, w => a.defers = [] ∧ R (.panicked chain) w
  | e, a, w => roundPost P l R e a w

/-- One round out of its body's walk, a panic too. -/
theorem roundIn_panics {F : Fence} {n : Nat} {P : Program} {l : Nat} {f : FuncId} {tmps : Array Value} {assign body : Code} {w : World} {R : Ending → World → Prop} (hF : F.fn f) (hf : (∀ ch W, ¬ R (.panicked ch) W) ∨ ∃ fn, P.funcs[f]? = some fn)
    (h : assign.wpIn (F.inRound l) n P (Exit.then (fun a₁ w₁ => ∃ w₂, (Instr.beginRound l).run P w₁ = .ok () w₂ ∧ body.wpIn (F.inRound l) n P (roundPostP P l R) a₁ w₂) (fun _ _ _ => False)) { tmps := tmps, defers := [] } w) :
    RoundIn F n P l f tmps assign body w R := by
  refine ⟨hF, fun c cs hr => ?_⟩
  obtain ⟨b, hb⟩ : ∃ b : Frame, b = { (default : Frame) with fn := f, kind := .normal, roundOf := some l } := ⟨_, rfl⟩
  have hb0 : Frame.round l f tmps assign body .normal = b.atR { tmps := tmps, defers := [] } [.code assign, .beginRound, .code body] := by rw [hb]; simp [Frame.round, Frame.atR]
  have hbr : b.roundOf = some l := by rw [hb]
  have hbk : b.kind = .normal := by rw [hb]
  have hbf : b.fn = f := by rw [hb]
  have hr' : (F.inRound l).room ((c :: cs).length + 1 + n) := hr
  have hF' : (F.inRound l).fn b.fn := by rw [hbf]; exact hF
  obtain ⟨e, a₁, w₁, hq, harr⟩ := h b [.beginRound, .code body] (c :: cs) (by rw [hbr]; rfl) hF' hr'
  rw [← hb0] at harr
  cases e with
  | normal =>
    obtain ⟨w₂, hbeg, hbody⟩ := hq
    have s1 : StepsIn (Machine.fenced P (F.inRound l)) P (lone (b.atR a₁ [.beginRound, .code body]) (c :: cs) w₁) (lone (b.atR a₁ [.code body]) (c :: cs) w₂) :=
      .one (fenced_calm (fr := b.atR a₁ [.beginRound, .code body]) hF' hr' rfl) (stepR_beginRound hbr hbeg)
    obtain ⟨e₂, a₂, w₃, hq₂, harr₂⟩ := hbody b [] (c :: cs) (by rw [hbr]; rfl) hF' hr'
    have s2 := StepsIn.trans harr s1
    cases e₂ with
    | normal =>
      obtain ⟨v, w₄, hend, hR⟩ := hq₂
      exact ⟨.returned v, w₄, hR, s2.trans (StepsIn.trans harr₂ (.one (fenced_calm (fr := b.atR a₂ []) hF' hr' rfl) (stepR_round_end hbr hbk hend)))⟩
    | ret =>
      obtain ⟨v, w₄, hend, hR⟩ := hq₂
      obtain ⟨k₁, hs⟩ := harr₂.2 (by rw [hbr]; rfl)
      exact ⟨.returned v, w₄, hR, s2.trans (StepsIn.trans hs (.one (fenced_calm (fr := b.atR a₂ (.code .ret :: k₁)) hF' hr' rfl) (stepR_round_ret hbr hbk hend)))⟩
    | exit id =>
      obtain ⟨v, w₄, hend, hR⟩ := hq₂
      obtain ⟨k₁, hk, hs⟩ := harr₂.2 (by rw [hbr]; rfl) rfl
      exact ⟨.returned v, w₄, hR, s2.trans (StepsIn.trans hs (.one (fenced_calm (fr := b.atR a₂ (.code (.exit id) :: k₁)) hF' hr' rfl) (stepR_round_exit hbr hbk hk hend)))⟩
    | goto t =>
      obtain ⟨v, w₄, hend, hR⟩ := hq₂
      obtain ⟨k₁, hk, hs⟩ := harr₂.2 (by rw [hbr]; rfl) rfl
      exact ⟨.returned v, w₄, hR, s2.trans (StepsIn.trans hs (.one (fenced_calm (fr := b.atR a₂ (.code (.goto t) :: k₁)) hF' hr' rfl) (stepR_round_goto hbr hbk hk hend)))⟩
    | panic chain =>
      obtain ⟨hd, hR⟩ := hq₂
      obtain ⟨todo, hs⟩ := harr₂
      have hf' := hf.resolve_left (fun h => h _ _ hR)
      have hl : ({ b.atR a₂ todo with mode := .panicking chain } : Frame).leaving P w₃ (.panicked chain) := ⟨rfl, hd, by rw [← hbf] at hf'; exact hf'⟩
      exact ⟨.panicked chain, w₃, hR, s2.trans (StepsIn.trans hs (.one (fenced_leaving (F := F.inRound l) hF' hr' hl) (step_leave_panicked hl)))⟩
    | outgrown => exact hq₂.elim
  | exit id => exact hq.elim
  | goto t => exact hq.elim
  | ret => exact hq.elim
  | panic chain => exact hq.elim
  | outgrown => exact hq.elim

end Go.Proofs.Ytloealnfbpegnab

namespace Go.Proofs.Ytloealnfbpegnab
open Go.Proofs Go.RowKit Go.Shelf

/-- THE ITERATOR GIVES encs 0, encs 1, .. up to r, as long as what it reads ('rd') stands. -/
def SeqSteps (F : Fence) (n : Nat) (P : Program) (g : Nat) (lb : Array Value) (encs : Nat → Array Value) (r : Nat) (rd : World → Prop) : Prop :=
  ∀ (l : Nat) (J : Nat → World → Prop) (Jx : World → Prop) (Jp : List PanicEntry → World → Prop) (W : World), AbidesFrom W.heap.size J → (∀ i W, J i W → rd W) →
    (∀ i W1, J i W1 → i < r → YieldAt F (n - 1) P l (encs i) W1 fun e W' => (e = .returned (.bool true) ∧ J (i + 1) W') ∨ (e = .returned (.bool false) ∧ Jx W') ∨ ∃ ch, e = .panicked ch ∧ Jp ch W') →
    J 0 W → CallsIn F n P g (#[.func (.yield l) #[] #[]] ++ lb) W fun e W' => ((∃ v, e = .returned v) ∧ (J r W' ∨ Jx W')) ∨ ∃ ch, e = .panicked ch ∧ Jp ch W'

/-- How the body of a round may be left. -/
def stepPost (B : Nat) (I : Nat → World → Prop) (Ix : Code → World → Prop) (Ip : List PanicEntry → World → Prop) (i : Nat) (W : World) : Exit → Act → World → Prop
  | .normal, _, W' => KeepsFrom B W W' ∧ I i W'
  | .ret, _, W' => KeepsFrom B W W' ∧ Ix .ret W'
  | .exit id, _, W' => KeepsFrom B W W' ∧ Ix (.exit id) W'
  | .goto t, _, W' => KeepsFrom B W W' ∧ Ix (.goto t) W'
  | .panic ch, a, W' => a.defers = [] ∧ KeepsFrom B W W' ∧ Ip ch W'
  | .outgrown, _, _ => False

theorem wpIn_rangeSteps {F : Fence} {n : Nat} {P : Program} {g : Operand} {ps : Array Tmp} {assign body : Code} {Q : Exit → Act → World → Prop} {a : Act} {w : World}
    (hro : F.round = none) (h1 : 1 ≤ n) {gf : Nat} {lb : Array Value} (hg : a.eval g = .func (.func gf) #[] lb) (hFg : F.fn gf) (eg : ∀ args w, (callFunc gf args).run P w = .ok (.enter gf args) w)     {encs : Nat → Array Value} {r : Nat} {rd : World → Prop} (hseq : SeqSteps F (n - 1) P gf lb encs r rd) (hps : ∀ i, (encs i).size = ps.size)
    (I : Nat → World → Prop) (Ix : Code → World → Prop) (Ip : List PanicEntry → World → Prop) (hfs : (∀ ch W, ¬ Ip ch W) ∨ ∀ fn, F.fn fn → ∃ f, P.funcs[fn]? = some f) (hI : OwnFrom w.heap.size I) (hIx : OwnFrom w.heap.size Ix) (hrd : ∀ i W, I i W → rd W) (h0 : I 0 w) (a₁ : Nat → Act)
    (hassign : ∀ (l i : Nat) (W : World) (K : Act → World → Prop), K (a₁ i) W →
      assign.wpIn (F.inRound l) (n - 1 - 1) P (Exit.then K (fun _ _ _ => False)) { tmps := (ps.zip (encs i)).foldl (fun t (p, v) => t.setIfInBounds p v) a.tmps, defers := [] } W)
    (hbody : ∀ (l i : Nat) (W : World), I i W → i < r → body.wpIn (F.inRound l) (n - 1 - 1) P (stepPost w.heap.size I Ix Ip (i + 1) W) (a₁ i) W)
    (hdone : ∀ (D : Nat) (W : World), w.heap.size ≤ D → I r W → W.heap[D]? = some (.deferred (some [])) → Q .normal { a with defers := { target := .collected D, args := #[] } :: a.defers } W)
    (hstop : ∀ (D : Nat) (c : Code) (W : World), w.heap.size ≤ D → Ix c W → W.heap[D]? = some (.deferred (some [])) → c.wpIn F n P Q { a with defers := { target := .collected D, args := #[] } :: a.defers } W)
    (hpanic : ∀ (D : Nat) (ch : List PanicEntry) (W : World), w.heap.size ≤ D → Ip ch W → W.heap[D]? = some (.deferred (some [])) → Q (.panic ch) { a with defers := { target := .collected D, args := #[] } :: a.defers } W) :
    (Code.rangeFunc g ps assign body).wpIn F n P Q a w := by
  refine wpIn_rangeFunc fun fn hfn => ?_
  rw [hro]
  obtain ⟨rec, hrec⟩ : ∃ rec : LoopState → Option Code → Loop, rec = fun st pe => { state := st, pending := pe, fn, tmps := a.tmps, params := ps, assign, body, defers := w.heap.size } := ⟨_, rfl⟩
  obtain ⟨W1, hW1⟩ : ∃ W1, (w.alloc (.deferred (some []))).alloc (.loop (rec .ready none)) = W1 := ⟨_, rfl⟩
  have hL1 : W1.heap[w.heap.size + 1]? = some (.loop (rec .ready none)) := by
    have := World.alloc_heap_new (w.alloc (.deferred (some []))) (.loop (rec .ready none))
    rw [World.size_alloc, hW1] at this
    exact this
  have hD1 : W1.heap[w.heap.size]? = some (.deferred (some [])) := by rw [← hW1]; exact (Below.heap_alloc _ _ _ (by simp)).trans (World.alloc_heap_new w _)
  have hS1 : w.heap.size ≤ W1.heap.size := by rw [← hW1]; simp; omega
  have hI1 : I 0 W1 := by rw [← hW1]; exact hI.alloc _ (hI.alloc _ h0)
  refine ⟨w.heap.size + 1, [{ target := .collected w.heap.size, args := #[] }], W1, { target := .fn (.func gf) lb, args := #[.func (.yield (w.heap.size + 1)) #[] #[]] }, W1, gf, #[.func (.yield (w.heap.size + 1)) #[] #[]] ++ lb, W1,
    by rw [← hW1, hrec]; exact run_enterLoop_outer _ _ _ _ _, by simp only [resolve, hg]; simp [go_sem], fun f' hf' => by simp [Target.leads] at hf'; subst hf'; exact hFg, by simp [invoke, go_sem, eg], fun _ => h1, ?_⟩
  have hcells : ∀ {A : World} {row : Option Nat}, (∀ r, row = some r → W1.heap.size ≤ r ∧ ∃ o : Obj, A.heap[r]? = some o ∧ o.isWalk = true) → ∀ r, row = some r → w.heap.size ≤ r ∧ ∃ o : Obj, A.heap[r]? = some o ∧ o.isCells = false := fun hr q e => by
    obtain ⟨hB, o, ho, hw⟩ := hr q e
    exact ⟨by omega, o, ho, Obj.not_cells_of_walk hw⟩
  refine (hseq (w.heap.size + 1) (fun i W => I i W ∧ W.heap[w.heap.size + 1]? = some (.loop (rec .ready none)) ∧ W.heap[w.heap.size]? = some (.deferred (some [])))
    (fun W => ∃ c, Ix c W ∧ W.heap[w.heap.size + 1]? = some (.loop (rec .done (some c))) ∧ W.heap[w.heap.size]? = some (.deferred (some [])))
    (fun ch W => Ip ch W ∧ W.heap[w.heap.size]? = some (.deferred (some []))) W1
    (fun i A B row hs hgr hr => ⟨hI i A B row hs.1 hgr (hcells hr), (grownBy_keeps hgr (fun q e => (hr q e).2) hs.2.1 rfl).trans hs.2.1, (grownBy_keeps hgr (fun q e => (hr q e).2) hs.2.2 rfl).trans hs.2.2⟩)
    (fun i W h => hrd i W h.1) ?_ ⟨hI1, hL1, hD1⟩).mono ?_
  · rintro i W ⟨hi, hl, hk⟩ hlen
    have hlt : w.heap.size + 1 < W.heap.size := (Array.getElem?_eq_some_iff.1 hl).1
    have hy := run_yield (P := P) (args := encs i) hl (by rw [hrec]; exact hps i)
    rw [hrec] at hy
    refine ⟨fn, _, assign, body, hy, roundIn_panics hfn (hfs.elim (fun h => .inl fun ch W hr => by rcases hr with ⟨e, _⟩ | ⟨e, _⟩ | ⟨c, _, hp, _⟩ <;> first | cases e | exact h _ _ hp) (fun h => .inr (h fn hfn))) (hassign _ i W _ ⟨_, run_beginRound hl (by rw [hrec]), ?_⟩)⟩
    obtain ⟨W2, hW2⟩ : ∃ W2, W.putObj (w.heap.size + 1) (.loop { rec .ready none with state := .busy }) = W2 := ⟨_, rfl⟩
    have hl2 : W2.heap[w.heap.size + 1]? = some (.loop { rec .ready none with state := .busy }) := by rw [← hW2]; exact World.putObj_heap_same hlt
    have hk2 : W2.heap[w.heap.size]? = some (.deferred (some [])) := by rw [← hW2]; exact (World.putObj_heap_other (by omega)).trans hk
    have hi2 : I i W2 := by rw [← hW2]; exact hI.putObj _ hi (by omega) hl rfl
    have hgo : (W.putObj (w.heap.size + 1) (.loop { rec .ready none with state := .busy })) = W2 := hW2
    rw [hgo]
    refine wpIn_mono (hbody _ i W2 hi2 hlen) ?_
    have fin : ∀ (jump : Option Code) (W3 : World), KeepsFrom w.heap.size W2 W3 →
        (Instr.endRound (w.heap.size + 1) jump).run P W3 = .ok (.bool jump.isNone) (W3.putObj (w.heap.size + 1) (.loop (rec (if jump.isNone then .ready else .done) jump))) ∧
        W3.heap[w.heap.size + 1]? = some (.loop { rec .ready none with state := .busy }) ∧
        (W3.putObj (w.heap.size + 1) (.loop (rec (if jump.isNone then .ready else .done) jump))).heap[w.heap.size + 1]? = some (.loop (rec (if jump.isNone then .ready else .done) jump)) ∧
        (W3.putObj (w.heap.size + 1) (.loop (rec (if jump.isNone then .ready else .done) jump))).heap[w.heap.size]? = some (.deferred (some [])) := fun jump W3 hk3 => by
      have hl3 := hk3.same _ _ (by omega) hl2 rfl
      have hend := run_endRound (P := P) jump hl3
      have hk4 := (World.putObj_heap_other (w := W3) (o := .loop (rec (if jump.isNone then .ready else .done) jump)) (show w.heap.size ≠ w.heap.size + 1 by omega)).trans (hk3.same _ _ (Nat.le_refl _) hk2 rfl)
      refine ⟨?_, hl3, World.putObj_heap_same (Array.getElem?_eq_some_iff.1 hl3).1, hk4⟩
      rw [hrec] at hend ⊢
      exact hend
    intro e a3 W3 hp
    cases e with
    | normal =>
      obtain ⟨hr, hl3, hl4, hk4⟩ := fin none W3 hp.1
      exact ⟨_, _, hr, .inl ⟨rfl, hI.putObj _ hp.2 (by omega) hl3 rfl, hl4, hk4⟩⟩
    | ret =>
      obtain ⟨hr, hl3, hl4, hk4⟩ := fin (some .ret) W3 hp.1
      exact ⟨_, _, hr, .inr (.inl ⟨rfl, _, hIx.putObj _ hp.2 (by omega) hl3 rfl, hl4, hk4⟩)⟩
    | exit id =>
      obtain ⟨hr, hl3, hl4, hk4⟩ := fin (some (.exit id)) W3 hp.1
      exact ⟨_, _, hr, .inr (.inl ⟨rfl, _, hIx.putObj _ hp.2 (by omega) hl3 rfl, hl4, hk4⟩)⟩
    | goto t =>
      obtain ⟨hr, hl3, hl4, hk4⟩ := fin (some (.goto t)) W3 hp.1
      exact ⟨_, _, hr, .inr (.inl ⟨rfl, _, hIx.putObj _ hp.2 (by omega) hl3 rfl, hl4, hk4⟩)⟩
    | panic ch => exact ⟨hp.1, .inr (.inr ⟨ch, rfl, hp.2.2, hp.2.1.same _ _ (Nat.le_refl _) hk2 rfl⟩)⟩
    | outgrown => exact hp.elim
  · rintro e W2 (⟨⟨v, rfl⟩, (⟨hi, hl, hk⟩ | ⟨c, hi, hl, hk⟩)⟩ | ⟨ch, rfl, hi, hk⟩)
    · refine ⟨none, _, by have := run_endLoop (P := P) hl (by rw [hrec]; simp); rw [hrec] at this; exact this, hdone _ _ (Nat.le_refl _) (hI.putObj _ hi (by omega) hl rfl) ((World.putObj_heap_other (by omega)).trans hk)⟩
    · refine ⟨some c, _, by have := run_endLoop (P := P) hl (by rw [hrec]; simp); rw [hrec] at this; exact this, hstop _ c _ (Nat.le_refl _) (hIx.putObj _ hi (by omega) hl rfl) ((World.putObj_heap_other (by omega)).trans hk)⟩
    · exact hpanic _ ch _ (Nat.le_refl _) hi hk

end Go.Proofs.Ytloealnfbpegnab

namespace Go.Proofs.Ytloealnfbpegnab
open Go.Proofs Go.RowKit Go.Shelf

attribute [local go_sem] Oper.semAt_some

/-- The fence of all functions that there are. -/
def Fx : Fence := { fn := fun f => ∃ fn, Try.prog.funcs[f]? = some fn, depth := none, alive := false }
/-- A fence that bars nothing. -/
def Pl (F : Fence) : Prop := F.round = none ∧ (∀ f fn, Try.prog.funcs[f]? = some fn → F.fn f) ∧ F.depth = none
theorem fx_pl : Pl Fx := ⟨rfl, fun _ fn h => ⟨fn, h⟩, rfl⟩
theorem wide_pl : Pl Fence.wide := ⟨rfl, fun _ _ _ => trivial, rfl⟩
theorem fx_all : ∀ fn, Fx.fn fn → ∃ f, Try.prog.funcs[fn]? = some f := fun _ h => h
theorem fx_facts {F : Fence} (hF : Pl F) : F.round = none ∧ (∀ f fn, Try.prog.funcs[f]? = some fn → F.fn f) ∧ ∀ k : Nat, (F.depth.isSome = true → 1 ≤ k) := by
  obtain ⟨h1, h2, h3⟩ := hF
  exact ⟨h1, h2, fun k h => by rw [h3] at h; simp at h⟩
theorem fx_calls {n : Nat} {f : FuncId} {args : Array Value} {w : World} {R : Ending → World → Prop} (h : CallsIn Fx n Try.prog f args w R) : Calls Try.prog f args w R := h.calls (fun k d hd => by simp [Fx] at hd)

set_option maxHeartbeats 400000 in
theorem room_in (F : Fence) (hF : Pl F) (n : Nat) (s : Int) (w : World) : CallsIn F n Try.prog 70 #[.int .i64 s] w fun e w' => e = .returned (.int .i64 (Tm.room s : Int)) ∧ w' = w := by
  obtain ⟨hro, hfn, hdd⟩ := fx_facts hF
  have hf := hfn _ _ Try.func70
  clear hF hfn
  by_cases h2 : s = 2
  · subst h2; refine callsIn_of_wp Try.func70 rfl hf ?_ hro; simp only [Try.ntmps70, List.size_toArray, List.length_cons, List.length_nil, Nat.reduceAdd, Nat.reduceSub, Array.replicate_succ, Array.replicate_zero, List.push_toArray, List.append_toArray, List.nil_append, List.cons_append]; gi_wp2; go_ret; exact ⟨rfl, rfl⟩
  by_cases h3 : s = 3
  · subst h3; refine callsIn_of_wp Try.func70 rfl hf ?_ hro; simp only [Try.ntmps70, List.size_toArray, List.length_cons, List.length_nil, Nat.reduceAdd, Nat.reduceSub, Array.replicate_succ, Array.replicate_zero, List.push_toArray, List.append_toArray, List.nil_append, List.cons_append]; gi_wp2; go_ret; exact ⟨rfl, rfl⟩
  by_cases h4 : s = 4
  · subst h4; refine callsIn_of_wp Try.func70 rfl hf ?_ hro; simp only [Try.ntmps70, List.size_toArray, List.length_cons, List.length_nil, Nat.reduceAdd, Nat.reduceSub, Array.replicate_succ, Array.replicate_zero, List.push_toArray, List.append_toArray, List.nil_append, List.cons_append]; gi_wp2; go_ret; exact ⟨rfl, rfl⟩
  by_cases h5 : s = 5
  · subst h5; refine callsIn_of_wp Try.func70 rfl hf ?_ hro; simp only [Try.ntmps70, List.size_toArray, List.length_cons, List.length_nil, Nat.reduceAdd, Nat.reduceSub, Array.replicate_succ, Array.replicate_zero, List.push_toArray, List.append_toArray, List.nil_append, List.cons_append]; gi_wp2; go_ret; exact ⟨rfl, rfl⟩
  have e : Tm.room s = 0 := by simp [Tm.room, h2, h3, h4, h5]
  have b2 : (s == 2) = false := by simp [h2]
  have b3 : (s == 3) = false := by simp [h3]
  have b4 : (s == 4) = false := by simp [h4]
  have b5 : (s == 5) = false := by simp [h5]
  clear h2 h3 h4 h5
  rw [e]
  clear e
  refine callsIn_of_wp Try.func70 rfl hf ?_ hro; simp only [Try.ntmps70, List.size_toArray, List.length_cons, List.length_nil, Nat.reduceAdd, Nat.reduceSub, Array.replicate_succ, Array.replicate_zero, List.push_toArray, List.append_toArray, List.nil_append, List.cons_append]
  gi_wp2
  go_ret
  exact ⟨rfl, rfl⟩

set_option maxHeartbeats 400000 in
theorem partsx_in (F : Fence) (hF : Pl F) (n : Nat) (a : Option Addr) (len cap : Nat) (k : Int) (w : World) :
    CallsIn F n Try.prog 59 #[.slice a len cap, .int .i64 k] w fun e w' => e = .returned (.func (.func 69) #[] #[.pointer (some ⟨w.heap.size + 1, 0, none⟩), .pointer (some ⟨w.heap.size, 0, none⟩)]) ∧
      w' = (w.alloc (.cells #[.slice a len cap] 23)).alloc (.cells #[.int .i64 k] 3) := by
  obtain ⟨hro, hfn, hdd⟩ := fx_facts hF
  have hf := hfn _ _ Try.func59
  clear hF hfn
  refine callsIn_of_wp Try.func59 rfl hf ?_ hro
  simp only [Try.ntmps59, List.size_toArray, List.length_cons, List.length_nil, Nat.reduceAdd, Nat.reduceSub, Array.replicate_succ, Array.replicate_zero, List.push_toArray, List.append_toArray, List.nil_append, List.cons_append]
  gi_wp2
  go_ret
  exact ⟨rfl, rfl⟩

def encPart (zs : List Int) (k i : Nat) : Array Value := #[.int .i64 (Tm.pos zs k i : Int), .int .i64 (Tm.pos zs k (i + 1) : Int)]
/-- What the iterator reads. -/
def PartsRd (Bk Bt k cap : Nat) (a : Option Addr) (zs : List Int) (W : World) : Prop := W.cell? ⟨Bk, 0, none⟩ = some (.int .i64 (k : Int)) ∧ W.cell? ⟨Bt, 0, none⟩ = some (.slice a zs.length cap) ∧ Ints W.heap.size W a zs

/-- signs.End at places beyond k. -/
def EndsBeyond (F : Fence) (a : Option Addr) (cap : Nat) (zs : List Int) (k : Nat) : Prop :=
  ∀ (n p : Nat) (W : World), k < p → p ≤ 20000 → Ints W.heap.size W a zs → CallsIn F n Try.prog 37 #[.slice a zs.length cap, .int .i64 (p : Int)] W fun e W' => e = .returned (.int .i64 (Tm.endAt zs p : Int)) ∧ Below W.heap.size W W'

set_option maxRecDepth 100000 in
set_option maxHeartbeats 1000000 in
theorem parts_steps (F : Fence) (hF : Pl F) (n Bk Bt k cap : Nat) (a : Option Addr) (zs : List Int) (hlen : zs.length ≤ 5000) (hk : k < zs.length) (hE : EndsBeyond F a cap zs k) :
    SeqSteps F n Try.prog 69 #[.pointer (some ⟨Bk, 0, none⟩), .pointer (some ⟨Bt, 0, none⟩)] (encPart zs k) (Tm.room (zs[k]?.getD 0)) (PartsRd Bk Bt k cap a zs) := by
  intro l J Jx Jp W hJ hR hY h0
  obtain ⟨hro, hfn, hdd⟩ := fx_facts hF
  have hroom : ∀ n W, CallsIn F n Try.prog 70 #[.int .i64 (zs[k]?.getD 0)] W fun e w' => e = .returned (.int .i64 (Tm.room (zs[k]?.getD 0) : Int)) ∧ w' = W := fun n W => room_in F hF n _ W
  clear hF
  have hf55 := hfn _ _ Try.func69
  have hf56 := hfn _ _ Try.func70
  have hf32 := hfn _ _ Try.func37
  have hr2 := Tm.room_le (zs[k]?.getD 0)
  obtain ⟨hbk, hbt, hI⟩ := hR 0 W h0
  obtain ⟨b, off, rfl, hb, hc⟩ := hI.at (by omega)
  have hck := hc k hk
  have hkl : (k : Int) < (zs.length : Int) := by omega
  have hl5 : (zs.length : Int) ≤ 5000 := by omega
  generalize hrdef : Tm.room (zs[k]?.getD 0) = r at *
  clear hrdef
  generalize zs[k]?.getD 0 = s at *
  have HY := hid hY
  have HE := hid hE
  have HRm := hid hroom
  have HR := hid hR
  clear hY hE hc hI hroom hR
  refine callsIn_of_wp Try.func69 rfl hf55 ?_ hro
  simp only [Try.ntmps69, List.size_toArray, List.length_cons, List.length_nil, Nat.reduceAdd, Nat.reduceSub, Array.replicate_succ, Array.replicate_zero, List.push_toArray, List.append_toArray, List.nil_append, List.cons_append]
  gi_wp2_with ((try refine ⟨hdd _, ?_⟩); gi_at_call 70; refine (HRm.out _ _).mono ?_; rintro e W ⟨rfl, rfl⟩)
  gi_loopw [4, 13] (fun p i wr => ∃ m : Nat, m ≤ r ∧ i = .int .i64 (m : Int) ∧ p = .int .i64 (Tm.pos zs k m : Int) ∧ J m wr)
    (fun _ i _ => r - (intOf i).toNat)
  case atStart => exact ⟨0, Nat.zero_le _, rfl, by rw [Tm.pos_zero]; rfl, h0⟩
  case round =>
    obtain ⟨m, hm, rfl, rfl, hJs⟩ := hrel
    obtain ⟨_, hbt', hI'⟩ := HR.out m wr hJs
    by_cases hlt : m < r
    · have hlt' : (m : Int) < (r : Int) := by omega
      have h1' := (HE.out (n - 1) (Tm.pos zs k m) wr (Tm.pos_gt _ _ _) (by have := Tm.pos_le zs k m; omega) hI').mono (R' := fun e W1 => e = .returned (.int .i64 (Tm.pos zs k (m + 1) : Int)) ∧ YieldAt F (n - 1) Try.prog l #[.int .i64 (Tm.pos zs k m : Int), .int .i64 (Tm.pos zs k (m + 1) : Int)] W1 fun e W' =>
          (e = .returned (.bool true) ∧ J (m + 1) W') ∨ (e = .returned (.bool false) ∧ Jx W') ∨ ∃ ch, e = .panicked ch ∧ Jp ch W')
        (fun e W1 ⟨he, hB⟩ => ⟨by rw [Tm.pos_succ]; exact he, by
          have hJ1 := hJ _ _ _ none hJs (grown_of_below hB) (fun r e => by cases e)
          refine YieldAt.mono (HY.out m W1 hJ1 hlt) fun e W2 h => ?_
          exact h⟩)
      gi_wp2_with (first
        | ((try refine ⟨hdd _, ?_⟩); gi_at_call 37; refine h1'.mono ?_; clear h1'; rintro e W1 ⟨rfl, fn, tmps, assign, body, hy, hR⟩)
        | ((try refine ⟨hdd _, ?_⟩); refine hR.mono ?_; clear hR; rintro e W2 (⟨rfl, hJ2⟩ | ⟨rfl, hx2⟩ | ⟨ch, rfl, hp2⟩)))
      · exact ⟨⟨m + 1, by omega, by go_num, rfl, hJ2⟩, by simp [intOf]; omega⟩
      · refine bodyPost_ret (results_none rfl _ _ _) rfl ?_
        exact .inl ⟨⟨_, rfl⟩, .inr hx2⟩
      · exact ⟨rfl, .inr ⟨ch, rfl, hp2⟩⟩
    · obtain rfl : m = r := by omega
      have hlt' : ¬ (m : Int) < (m : Int) := by omega
      gi_wp2
      go_end0
      exact .inl ⟨⟨_, rfl⟩, .inl hJs⟩

end Go.Proofs.Ytloealnfbpegnab

namespace Go.Proofs.Ytloealnfbpegnab
open Go.Proofs Go.RowKit Go.Shelf

attribute [local go_sem] Oper.semAt_some

set_option maxHeartbeats 400000 in
theorem endx_out (F : Fence) (hF : Pl F) (n : Nat) (a : Option Addr) (len cap k : Nat) (w : World) (hk : len ≤ k) (hk2 : k ≤ 20000) :
    CallsIn F n Try.prog 37 #[.slice a len cap, .int .i64 (k : Int)] w fun e w' => e = .returned (.int .i64 ((k : Int) + 1)) ∧ Below w.heap.size w w' := by
  have h1 : (len : Int) ≤ (k : Int) := by omega
  have h2 : (k : Int) ≤ 20000 := by omega
  have h3 : (0 : Int) ≤ (k : Int) := by omega
  obtain ⟨hro, hfn, hdd⟩ := fx_facts hF
  have hf := hfn _ _ Try.func37
  clear hF hfn
  refine callsIn_of_wp Try.func37 rfl hf ?_ hro
  simp only [Try.ntmps37, List.size_toArray, List.length_cons, List.length_nil, Nat.reduceAdd, Nat.reduceSub, Array.replicate_succ, Array.replicate_zero, List.push_toArray, List.append_toArray, List.nil_append, List.cons_append]
  gi_wp2
  go_ret
  exact ⟨rfl, (Below.refl _ _).alloc (Nat.le_refl _) _⟩

theorem partsRd_of {Bk Bt k cap : Nat} {a : Option Addr} {zs : List Int} {w W : World} (hk : Boxed W Bk 3 (.int .i64 (k : Int))) (ht : Boxed W Bt 23 (.slice a zs.length cap)) (hI : Ints w.heap.size w a zs) (hB : Below w.heap.size w W) : PartsRd Bk Bt k cap a zs W :=
  ⟨hk.cell, ht.cell, (hI.below hB).mono hB.size⟩

set_option maxRecDepth 100000 in
set_option maxHeartbeats 1000000 in
theorem endx_step (F : Fence) (hF : Pl F) (n : Nat) (a : Option Addr) (cap k : Nat) (zs : List Int) (w : World) (hn : 3 ≤ n) (hlen : zs.length ≤ 5000) (hk : k < zs.length) (hI : Ints w.heap.size w a zs) (hE : EndsBeyond F a cap zs k) :
    CallsIn F n Try.prog 37 #[.slice a zs.length cap, .int .i64 (k : Int)] w fun e w' => e = .returned (.int .i64 (Tm.endAt zs k : Int)) ∧ Below w.heap.size w w' := by
  obtain ⟨hro, hfn, hdd⟩ := fx_facts hF
  have HF : Hid (Pl F) := hF
  have HE := hid hE
  clear hF hE
  have hf32 := hfn _ _ Try.func37
  have hf49 := hfn _ _ Try.func59
  have hf55 := hfn _ _ Try.func69
  clear hfn
  have hlt : (k : Int) < (zs.length : Int) := by omega
  have h30 : (zs.length : Int) ≤ 5000 := by omega
  have hk0 : (0 : Int) ≤ (k : Int) := by omega
  rw [Tm.endAt_in zs k hk]
  refine callsIn_of_wp_marks Try.func37 rfl hf32 ?_ hro
  simp only [Try.ntmps37, List.size_toArray, List.length_cons, List.length_nil, Nat.reduceAdd, Nat.reduceSub, Array.replicate_succ, Array.replicate_zero, List.push_toArray, List.append_toArray, List.nil_append, List.cons_append]
  gi_wp2_with ((try refine ⟨hdd _, ?_⟩); gi_at_call 59; refine (partsx_in F HF.out _ _ _ _ _ _).mono ?_; rintro e w' ⟨rfl, rfl⟩)
  have bE := ((Boxed.new w 3 (.int .i64 ((k : Int) + 1))).alloc (.cells #[.slice a zs.length cap] 23)).alloc (.cells #[.int .i64 (k : Int)] 3)
  have bT := (Boxed.new (w.alloc (.cells #[.int .i64 ((k : Int) + 1)] 3)) 23 (.slice a zs.length cap)).alloc (.cells #[.int .i64 (k : Int)] 3)
  have bK := Boxed.new ((w.alloc (.cells #[.int .i64 ((k : Int) + 1)] 3)).alloc (.cells #[.slice a zs.length cap] 23)) 3 (.int .i64 (k : Int))
  rw [World.size_alloc] at bT
  rw [World.size_alloc, World.size_alloc] at bK
  have hB0 : Below w.heap.size w (((w.alloc (.cells #[.int .i64 ((k : Int) + 1)] 3)).alloc (.cells #[.slice a zs.length cap] 23)).alloc (.cells #[.int .i64 (k : Int)] 3)) := (((Below.refl _ w).alloc (Nat.le_refl _) _).alloc (by simp) _).alloc (by simp; omega) _
  refine wpIn_rangeSteps hro (by omega) (gf := 69) (lb := #[.pointer (some ⟨w.heap.size + 1 + 1, 0, none⟩), .pointer (some ⟨w.heap.size + 1, 0, none⟩)]) rfl hf55 (enters_of Try.func69 (by kernel_rfl) rfl)
    (parts_steps F HF.out _ (w.heap.size + 1 + 1) (w.heap.size + 1) k cap a zs hlen hk HE.out) (fun _ => rfl)
    (fun i W => Boxed W w.heap.size 3 (.int .i64 (Tm.pos zs k i : Int)) ∧ Boxed W (w.heap.size + 1 + 1) 3 (.int .i64 (k : Int)) ∧ Boxed W (w.heap.size + 1) 23 (.slice a zs.length cap) ∧ Below w.heap.size w W)
    (fun _ _ => False) (fun _ _ => False) (.inl fun _ _ h => h)
    (OwnFrom.and ((boxed_own w.heap.size 3 (fun i => .int .i64 (Tm.pos zs k i : Int))).from _) (OwnFrom.and ((boxed_own (w.heap.size + 1 + 1) 3 (fun _ => .int .i64 (k : Int))).from _) (OwnFrom.and ((boxed_own (w.heap.size + 1) 23 (fun _ => .slice a zs.length cap)).from _) (ownFrom_below (Nat.le_refl _) (by simp; omega)))))
    (fun _ _ _ _ h _ _ => h)
    (fun i W h => partsRd_of h.2.1 h.2.2.1 hI h.2.2.2)
    ⟨by rw [Tm.pos_zero]; exact bE, bK, bT, hB0⟩
    (fun i => { tmps := #[.slice a zs.length cap, .int .i64 (k : Int), undef, undef, .int .i64 0, .pointer (some ⟨w.heap.size, 0, none⟩), undef, .int .i64 (Tm.pos zs k (i + 1) : Int), .int .i64 (k : Int), .int .i64 ((k : Int) + 1), .int .i64 (k : Int), .slice a zs.length cap,
      .int .i64 (zs.length : Int), .bool false, undef, .slice a zs.length cap, .int .i64 (k : Int), .func (.func 69) #[] #[.pointer (some ⟨w.heap.size + 1 + 1, 0, none⟩), .pointer (some ⟨w.heap.size + 1, 0, none⟩)], .int .i64 (Tm.pos zs k i : Int), .int .i64 (Tm.pos zs k (i + 1) : Int), undef, undef], defers := [] }) ?assign ?body ?done ?stop ?panic
  case assign =>
    intro l i W K hK
    simp only [encPart]
    gi_wp2
    exact hK
  case body =>
    rintro l i W ⟨hE, hK, hT, hB⟩ _
    have hc := hE.cell
    have hf := hE.frozen
    gi_wp2
    exact ⟨(KeepsOthers.setCell _ _ _).from _, hE.set _, hK.other (by omega) _, hT.other (by omega) _, hB.setCell (p := ⟨w.heap.size, 0, none⟩) (Nat.le_refl _) _⟩
  case done =>
    rintro D W hD ⟨hE, _, _, hB⟩ hK
    have hc := hE.cell
    gi_wp2
    refine ⟨by simp, .inl ⟨_, _, rfl, run_takeDeferred hK, ?_⟩⟩
    exact ⟨_, results_tmp rfl _ _ _, by simp [hk], hB.trans (belowK_b (w := w) (Nat.le_refl _) W D _ _ (by simp at hD; omega) hK rfl rfl)⟩
  case stop => exact fun _ _ _ _ h => h.elim
  case panic => exact fun _ _ _ _ h => h.elim

end Go.Proofs.Ytloealnfbpegnab

namespace Go.Proofs.Ytloealnfbpegnab
open Go.Proofs Go.RowKit Go.Shelf

theorem fx_any {F : Fence} (hF : Pl F) {n m : Nat} {P : Program} {f : FuncId} {args : Array Value} {w : World} {R : Ending → World → Prop} (h : CallsIn F n P f args w R) : CallsIn F m P f args w R :=
  ⟨h.1, fun cs _ => h.2 cs (fun d hd => by rw [hF.2.2] at hd; cases hd)⟩

theorem endx_all (F : Fence) (hF : Pl F) (zs : List Int) (hlen : zs.length ≤ 5000) (a : Option Addr) (cap : Nat) : ∀ (m k n : Nat), zs.length - k ≤ m → k ≤ 20000 → ∀ w : World, Ints w.heap.size w a zs →
    CallsIn F n Try.prog 37 #[.slice a zs.length cap, .int .i64 (k : Int)] w fun e w' => e = .returned (.int .i64 (Tm.endAt zs k : Int)) ∧ Below w.heap.size w w' := by
  intro m
  induction m with
  | zero =>
    intro k n hm hk w hI
    rw [Tm.endAt_out zs k (by omega)]
    exact endx_out F hF n a zs.length cap k w (by omega) hk
  | succ m ih =>
    intro k n hm hk w hI
    by_cases hlt : k < zs.length
    · exact fx_any hF (endx_step F hF 3 a cap k zs w (by omega) hlen hlt hI (fun n p W h1 h2 h3 => ih p n (by omega) h2 W h3))
    · rw [Tm.endAt_out zs k (by omega)]
      exact endx_out F hF n a zs.length cap k w (by omega) hk
theorem ends_beyond (F : Fence) (hF : Pl F) (zs : List Int) (hlen : zs.length ≤ 5000) (a : Option Addr) (cap k : Nat) : EndsBeyond F a cap zs k :=
  fun n p W _ h2 h3 => endx_all F hF zs hlen a cap _ p n (Nat.le_refl _) h2 W h3

end Go.Proofs.Ytloealnfbpegnab

namespace Go.Proofs.Ytloealnfbpegnab
open Go.Proofs Go.RowKit Go.Shelf

theorem Tm.run_app (l : List Int) : ∀ (r : List Int) (n : Nat), Tm.run l n ≤ l.length → Tm.run (l ++ r) n = Tm.run l n := by
  induction l with
  | nil => intro r n h; rw [Tm.run_nil] at h; have : n = 0 := by simpa using h
           subst this; simp [Tm.run_zero]
  | cons s l ih =>
    intro r n h
    cases n with
    | zero => simp [Tm.run_zero]
    | succ n =>
      rw [List.cons_append, Tm.run_cons, Tm.run_cons, ih]
      rw [Tm.run_cons, List.length_cons] at h
      omega
theorem Tm.run_take (l : List Int) : ∀ (n : Nat), Tm.run l n ≤ l.length → Tm.run (l.take (Tm.run l n)) n = Tm.run l n := by
  induction l with
  | nil => intro n h; simp [Tm.run_nil]
  | cons s l ih =>
    intro n h
    cases n with
    | zero => simp [Tm.run_zero]
    | succ n =>
      rw [Tm.run_cons] at h ⊢
      rw [List.length_cons] at h
      rw [show 1 + Tm.run l (n + Tm.room s) = Tm.run l (n + Tm.room s) + 1 from by omega, List.take_succ_cons, Tm.run_cons, ih _ (by omega)]
      omega
theorem Tm.run_open (l : List Int) : ∀ (r : List Int) (n : Nat), l.length < Tm.run (l ++ r) n → ∃ m, ∀ x, Tm.run (l ++ x) n = l.length + Tm.run x (m + 1) := by
  induction l with
  | nil =>
    intro r n h
    cases n with
    | zero => simp [Tm.run_zero] at h
    | succ n => exact ⟨n, fun x => by simp⟩
  | cons s l ih =>
    intro r n h
    cases n with
    | zero => simp [Tm.run_zero] at h
    | succ n =>
      rw [List.cons_append, Tm.run_cons, List.length_cons] at h
      obtain ⟨m, hm⟩ := ih r (n + Tm.room s) (by omega)
      refine ⟨m, fun x => ?_⟩
      rw [List.cons_append, Tm.run_cons, hm, List.length_cons]
      omega

theorem Tm.split (zs : List Int) (k : Nat) : zs = zs.take k ++ (Tm.part zs k ++ zs.drop (Tm.endAt zs k)) := by
  have hg := Tm.endAt_gt zs k
  have hd : zs.drop (Tm.endAt zs k) = (zs.drop k).drop (Tm.endAt zs k - k) := by rw [List.drop_drop]; congr 1; omega
  rw [hd, Tm.part, List.take_append_drop, List.take_append_drop]

theorem Tm.part_run {zs : List Int} (he : Tm.err zs = 0) {k : Nat} (hk : k < zs.length) : Tm.run (Tm.part zs k) 1 = (Tm.part zs k).length := by
  rw [Tm.part_length he hk]
  have h1 := Tm.end_in he hk
  have h2 : Tm.endAt zs k - k = Tm.run (zs.drop k) 1 := by unfold Tm.endAt; omega
  unfold Tm.part
  rw [h2, Tm.run_take]
  rw [List.length_drop]
  omega
theorem Tm.part_all {zs : List Int} (he : Tm.err zs = 0) (k : Nat) : (Tm.part zs k).all Tm.known = true := by
  have h := Tm.err_all he
  rw [List.all_eq_true] at h ⊢
  intro x hx
  exact h x (List.mem_of_mem_drop (List.mem_of_mem_take hx))
/-- Each part is a term. -/
theorem Tm.part_err {zs : List Int} (he : Tm.err zs = 0) {k : Nat} (hk : k < zs.length) : Tm.err (Tm.part zs k) = 0 := by
  refine Tm.err_ok ?_ (Tm.part_all he k) (Tm.part_run he hk)
  rw [Tm.part_length he hk]
  have := Tm.end_in he hk
  have := Tm.err_len he
  omega

theorem Tm.put_eq (zs us : List Int) (k : Nat) : Tm.put zs k us = zs.take k ++ (us ++ zs.drop (Tm.endAt zs k)) := by unfold Tm.put; rw [List.append_assoc]

theorem Tm.put_run {zs us : List Int} (he : Tm.err zs = 0) (hu : Tm.run us 1 = us.length) {k : Nat} (hk : k < zs.length) : Tm.run (Tm.put zs k us) 1 = (Tm.put zs k us).length := by
  have hs := Tm.split zs k
  have hr := Tm.err_run he
  have hp := Tm.part_run he hk
  have htl : (zs.take k).length = k := by rw [List.length_take]; omega
  generalize hP : Tm.part zs k = P at *
  rw [Tm.put_eq]
  generalize hA : zs.take k = A at *
  generalize hB : zs.drop (Tm.endAt zs k) = B at *
  clear hP hA hB
  rw [hs] at hr
  obtain ⟨m, hm⟩ := Tm.run_open A (P ++ B) 1 (by rw [hr]; rw [← hs]; omega)
  rw [hm, show m + 1 = 1 + m from by omega, Tm.run_add, Tm.run_app P B 1 (by omega), hp, List.drop_left] at hr
  rw [hm, show m + 1 = 1 + m from by omega, Tm.run_add, Tm.run_app us B 1 (by omega), hu, List.drop_left]
  simp only [List.length_append] at hr ⊢
  omega
theorem Tm.put_all {zs us : List Int} (he : Tm.err zs = 0) (hu : us.all Tm.known = true) (k : Nat) : (Tm.put zs k us).all Tm.known = true := by
  have h := Tm.err_all he
  rw [List.all_eq_true] at h hu ⊢
  intro x hx
  unfold Tm.put at hx
  rw [List.mem_append, List.mem_append] at hx
  rcases hx with (hx | hx) | hx
  · exact h x (List.mem_of_mem_take hx)
  · exact hu x hx
  · exact h x (List.mem_of_mem_drop hx)
/-- What comes is a term. -/
theorem Tm.put_err {zs us : List Int} (he : Tm.err zs = 0) (hu : Tm.err us = 0) {k : Nat} (hk : k < zs.length) (hl : (Tm.put zs k us).length ≤ 30) : Tm.err (Tm.put zs k us) = 0 :=
  Tm.err_ok hl (Tm.put_all he (Tm.err_all hu) k) (Tm.put_run he (Tm.err_run hu) hk)
theorem Tm.put_take {zs us : List Int} {k : Nat} (hk : k < zs.length) : (Tm.put zs k us).take k = zs.take k := by
  have htl : (zs.take k).length = k := by rw [List.length_take]; omega
  rw [Tm.put_eq]
  exact List.take_left' htl
theorem Tm.put_drop {zs us : List Int} {k : Nat} (hk : k < zs.length) : (Tm.put zs k us).drop k = us ++ zs.drop (Tm.endAt zs k) := by
  have htl : (zs.take k).length = k := by rw [List.length_take]; omega
  rw [Tm.put_eq]
  exact List.drop_left' htl
theorem Tm.put_end {zs us : List Int} (hu : Tm.err us = 0) {k : Nat} (hk : k < zs.length) : Tm.endAt (Tm.put zs k us) k = k + us.length := by
  unfold Tm.endAt
  rw [Tm.put_drop hk, Tm.run_app us _ 1 (by rw [Tm.err_run hu]; exact Nat.le_refl _), Tm.err_run hu]
/-- What is put at a place is part of what comes, there. -/
theorem Tm.put_part {zs us : List Int} (hu : Tm.err us = 0) {k : Nat} (hk : k < zs.length) : Tm.part (Tm.put zs k us) k = us := by
  unfold Tm.part
  rw [Tm.put_end hu hk, Tm.put_drop hk, show k + us.length - k = us.length from by omega, List.take_left]
/-- What stood there put back, it is the term it was. -/
theorem Tm.put_back {zs us : List Int} (hu : Tm.err us = 0) {k : Nat} (hk : k < zs.length) : Tm.put (Tm.put zs k us) k (Tm.part zs k) = zs := by
  have h1 : (Tm.put zs k us).drop (k + us.length) = zs.drop (Tm.endAt zs k) := by
    rw [← List.drop_drop, Tm.put_drop hk, List.drop_left]
  rw [Tm.put_eq (Tm.put zs k us), Tm.put_end hu hk, h1, Tm.put_take hk]
  exact (Tm.split zs k).symm

end Go.Proofs.Ytloealnfbpegnab

namespace Go.Proofs.Ytloealnfbpegnab
open Go.Proofs Go.RowKit Go.Shelf

namespace Wb
def sg (zs : List Int) (p : Nat) : Int := zs[p]?.getD 0
/-- Each variable stands at its own place first of all; behind them terms. -/
structure Good (zs : List Int) : Prop where
  len : zs.length ≤ 5000
  eight : 8 ≤ zs.length
  known : ∀ p, p < zs.length → -8 ≤ sg zs p ∧ sg zs p < 6
  vars : ∀ i, i < 8 → sg zs i = -1 - (i : Int)
  ends : ∀ p, p < zs.length → Tm.endAt zs p ≤ zs.length
/-- The place that a place is looked up at. -/
def can (zs : List Int) (p : Nat) : Nat := if sg zs p < 0 then (-1 - sg zs p).toNat else p
theorem can_pos {zs : List Int} {p : Nat} (h : 0 ≤ sg zs p) : can zs p = p := by unfold can; rw [if_neg (by omega)]
theorem can_lt {zs : List Int} (G : Good zs) {p : Nat} (h : p < zs.length) : can zs p < zs.length := by
  have := G.known p h
  have := G.eight
  unfold can
  split <;> omega
theorem sg_can {zs : List Int} (G : Good zs) {p : Nat} (h : p < zs.length) : sg zs (can zs p) = sg zs p := by
  by_cases hs : sg zs p < 0
  · unfold can
    rw [if_pos hs]
    have := G.known p h
    rw [G.vars _ (by omega)]
    omega
  · rw [can_pos (by omega)]
theorem can_can {zs : List Int} (G : Good zs) {p : Nat} (h : p < zs.length) : can zs (can zs p) = can zs p := by
  have e := sg_can G h
  by_cases hs : sg zs p < 0
  · rw [show can zs (can zs p) = (-1 - sg zs (can zs p)).toNat from by conv => lhs; rw [can]
                                                                       rw [if_pos (by rw [e]; exact hs)], e]
    unfold can; rw [if_pos hs]
  · rw [can_pos (p := can zs p) (by rw [e]; omega)]

/-- T: which place each is tied to; h: which place stands for each (of places that are looked up at). -/
structure St (zs : List Int) (T : Nat → Option Nat) (h : Nat → Nat) : Prop where
  root : ∀ p, p < zs.length → can zs p = p → h p < zs.length ∧ can zs (h p) = h p ∧ h (h p) = h p
  free : ∀ p, p < zs.length → can zs p = p → (T p = none ↔ h p = p)
  next : ∀ p q, p < zs.length → can zs p = p → T p = some q → q < zs.length ∧ can zs q = q ∧ h q = h p
  down : ∃ st : Nat → Nat, ∀ p q, p < zs.length → can zs p = p → T p = some q → st q < st p
  up : ∀ p, p < zs.length → can zs p = p → sg zs p ≤ sg zs (h p)
  out : ∀ p, zs.length ≤ p → h p = p ∧ T p = none
theorem St.start (zs : List Int) : St zs (fun _ => none) (fun p => p) :=
  ⟨fun p h1 h2 => ⟨h1, h2, rfl⟩, fun p _ _ => by simp, fun p q _ _ h => by simp at h, ⟨fun _ => 0, fun p q _ _ h => by simp at h⟩, fun p _ _ => Int.le_refl _, fun _ _ => ⟨rfl, rfl⟩⟩
def updN (T : Nat → Option Nat) (o n : Nat) : Nat → Option Nat := fun p => if p = o then some n else T p
def mg (h : Nat → Nat) (o n : Nat) : Nat → Nat := fun p => if h p = o then n else h p
theorem St.merge {zs : List Int} {T : Nat → Option Nat} {h : Nat → Nat} (S : St zs T h) {o n : Nat} (ho : o < zs.length) (hn : n < zs.length) (co : can zs o = o) (cn : can zs n = n) (ro : h o = o) (rn : h n = n) (hne : o ≠ n) (hs : sg zs o ≤ sg zs n) :
    St zs (updN T o n) (mg h o n) := by
  have hmn : mg h o n n = n := by unfold mg; rw [rn, if_neg (fun e => hne e.symm)]
  have hmo : mg h o n o = n := by unfold mg; rw [if_pos ro]
  refine ⟨fun p h1 h2 => ?_, fun p h1 h2 => ?_, fun p q h1 h2 h3 => ?_, ?_, fun p h1 h2 => ?_, fun p hp => ?_⟩
  · obtain ⟨a, b, c⟩ := S.root p h1 h2
    by_cases e : h p = o
    · have : mg h o n p = n := by unfold mg; rw [if_pos e]
      rw [this]; exact ⟨hn, cn, hmn⟩
    · have : mg h o n p = h p := by unfold mg; rw [if_neg e]
      rw [this]
      refine ⟨a, b, ?_⟩
      unfold mg; rw [c, if_neg e]
  · by_cases e : p = o
    · subst e
      rw [hmo]
      simp [updN]
      exact fun e => hne e.symm
    · have hT : updN T o n p = T p := by simp [updN, e]
      rw [hT, S.free p h1 h2]
      unfold mg
      by_cases e2 : h p = o
      · rw [if_pos e2]
        constructor
        · intro e3; exact absurd (e3.symm.trans e2) e
        · intro e3; subst e3; rw [rn] at e2; exact absurd e2.symm hne
      · rw [if_neg e2]
  · by_cases e : p = o
    · subst e
      simp [updN] at h3
      subst h3
      exact ⟨hn, cn, by rw [hmn, hmo]⟩
    · have hT : updN T o n p = T p := by simp [updN, e]
      rw [hT] at h3
      obtain ⟨a, b, c⟩ := S.next p q h1 h2 h3
      exact ⟨a, b, by unfold mg; rw [c]⟩
  · obtain ⟨st, hst⟩ := S.down
    refine ⟨fun p => if h p = o then st p + (st n + 1) else st p, fun p q h1 h2 h3 => ?_⟩
    show (if h q = o then st q + (st n + 1) else st q) < (if h p = o then st p + (st n + 1) else st p)
    by_cases e : p = o
    · subst e
      simp [updN] at h3
      subst h3
      rw [if_neg (by rw [rn]; exact fun e => hne e.symm), if_pos ro]
      omega
    · have hT : updN T o n p = T p := by simp [updN, e]
      rw [hT] at h3
      have hc := (S.next p q h1 h2 h3).2.2
      have hl := hst p q h1 h2 h3
      rw [hc]
      by_cases e2 : h p = o
      · rw [if_pos e2, if_pos e2]; omega
      · rw [if_neg e2, if_neg e2]; exact hl
  · have := S.up p h1 h2
    unfold mg
    by_cases e : h p = o
    · rw [if_pos e]; rw [e] at this; omega
    · rw [if_neg e]; exact this
  · obtain ⟨e1, e2⟩ := S.out p hp
    refine ⟨by unfold mg; rw [e1, if_neg (by omega)], ?_⟩
    unfold updN
    rw [if_neg (by omega)]
    exact e2
/-- How many places stand for themselves. -/
def rt (zs : List Int) (h : Nat → Nat) : Nat := ((List.range zs.length).filter fun p => decide (can zs p = p ∧ h p = p)).length
theorem filter_lt {α : Type} (l : List α) (f g : α → Bool) (hle : ∀ x ∈ l, f x = true → g x = true) (x : α) (hx : x ∈ l) (h1 : f x = false) (h2 : g x = true) : (l.filter f).length < (l.filter g).length := by
  have hmono : ∀ (l : List α), (∀ x ∈ l, f x = true → g x = true) → (l.filter f).length ≤ (l.filter g).length := by
    intro l
    induction l with
    | nil => intro _; simp
    | cons y l ih =>
      intro h
      have := ih (fun x hx => h x (by simp [hx]))
      rw [List.filter_cons, List.filter_cons]
      by_cases hf : f y = true
      · rw [if_pos hf, if_pos (h y (by simp) hf)]; simp; omega
      · rw [if_neg hf]; split <;> (try simp) <;> omega
  induction l with
  | nil => simp at hx
  | cons y l ih =>
    rw [List.filter_cons, List.filter_cons]
    rcases List.mem_cons.1 hx with e | hm
    · subst e
      have := hmono l (fun x hx => hle x (by simp [hx]))
      rw [if_neg (by rw [h1]; decide), if_pos h2]
      simp; omega
    · have := ih (fun x hx => hle x (by simp [hx])) hm
      by_cases hf : f y = true
      · rw [if_pos hf, if_pos (hle y (by simp) hf)]; simp; omega
      · rw [if_neg hf]; split <;> (try simp) <;> omega
theorem rt_merge {zs : List Int} {h : Nat → Nat} {o n : Nat} (ho : o < zs.length) (co : can zs o = o) (ro : h o = o) (rn : h n = n) (hne : o ≠ n) : rt zs (mg h o n) < rt zs h := by
  refine filter_lt _ _ _ (fun p _ hp => ?_) o (List.mem_range.2 ho) ?_ ?_
  · simp only [decide_eq_true_eq] at hp ⊢
    refine ⟨hp.1, ?_⟩
    have h2 := hp.2
    unfold mg at h2
    by_cases e : h p = o
    · rw [if_pos e] at h2; subst h2; exact rn
    · rw [if_neg e] at h2; exact h2
  · simp only [decide_eq_false_iff_not]
    rintro ⟨_, h2⟩
    unfold mg at h2
    rw [if_pos ro] at h2
    exact hne h2.symm
  · simp [co, ro]

/-- Which place stands for a place. -/
def hd (zs : List Int) (h : Nat → Nat) (p : Nat) : Nat := h (can zs p)
theorem hd_lt {zs : List Int} (G : Good zs) {T : Nat → Option Nat} {h : Nat → Nat} (S : St zs T h) {p : Nat} (hp : p < zs.length) : hd zs h p < zs.length ∧ can zs (hd zs h p) = hd zs h p ∧ h (hd zs h p) = hd zs h p :=
  S.root _ (can_lt G hp) (can_can G hp)
theorem hd_up {zs : List Int} (G : Good zs) {T : Nat → Option Nat} {h : Nat → Nat} (S : St zs T h) {p : Nat} (hp : p < zs.length) : sg zs p ≤ sg zs (hd zs h p) := by
  have := S.up _ (can_lt G hp) (can_can G hp)
  rw [sg_can G hp] at this
  exact this
end Wb

end Go.Proofs.Ytloealnfbpegnab
