/-
  PLAIN MATHEMATICS: variables made plain in the order in which they first stand; and the map that keeps them. · signs.Plain's function literal; signs.Change by it. · signs.Plain of one term, sub.Plain. · haspref.plain, PlainOf: the variables that have been seen lie in a slice. · haspref.plain, PlainOf. · haspref.PlainOf; hasplaw.subBegun: it answers true. · From the frame's word on a slice of slices of ints that came in to ours. · MAPS FROM ints, WHATEVER THEY HOLD: block b of the world is the map m : Int → Option Value. · PLAIN MATHEMATICS: what is put at a place is part of what comes there; put back it is the term it was. · PLAIN MATHEMATICS of fitting: sign by sign, what the variables of p must become. · slices.Equal; match.fit. · match.firstError, match.Fit. · TREES IN MEMORY: haspref.grown and haspref.treeOf make a tree that holds the term's signs. · haspref.grown, haspref.treeOf: the tree of a term; haspref.flat: its signs. · haspref.flat: a tree's signs. · PLAIN MATHEMATICS: fitting part by part is fitting sign by sign; what a tree holds is a term. · PLAIN MATHEMATICS of the order: 'Gt r a b': by the ranks r the term a is above b. It is an order: who is above who is above is above; nothing is above itself. · haspref.fit: tree against tree, as sign by sign. · haspref.twoErrors, haspref.fitted, haspref.FitOf. · signs.Places: the iterator over all places.
-/
import Derived.Maps.OwnSet
import Derived.Test.YtgeknojpcjadkaaBln2
import Derived.Maps.OwnOps
import Derived.Maps.OwnIn
import Derived.Maps.AppendAt
import Derived.Deep.RegionHeld3
namespace Go.Proofs.Ytgeknojpcjadkaa
open Go.Proofs Go.RowKit Go.Shelf Go.Maps

def Tm.idx (seen : List Int) (s : Int) : Nat := seen.findIdx (fun x => x == s)
def Tm.see (seen : List Int) (s : Int) : List Int := if s < 0 then (if seen.contains s = true then seen else seen ++ [s]) else seen
def Tm.name (seen : List Int) (s : Int) : Int := if s < 0 then -1 - (Tm.idx seen s : Int) else s
def Tm.seenFrom (seen : List Int) (l : List Int) : List Int := l.foldl Tm.see seen
/-- The first k signs of t made plain, where 'seen' have been seen. -/
def Tm.plainTo (seen : List Int) (t : List Int) (k : Nat) : List Int := (List.range k).map fun i : Nat => Tm.name (Tm.seenFrom seen (t.take i)) (t[i]?.getD 0)

theorem Tm.plainTo_succ (seen t : List Int) (k : Nat) : Tm.plainTo seen t (k + 1) = Tm.plainTo seen t k ++ [Tm.name (Tm.seenFrom seen (t.take k)) (t[k]?.getD 0)] := by simp [Tm.plainTo, List.range_succ]
theorem Tm.plainTo_length (seen t : List Int) (k : Nat) : (Tm.plainTo seen t k).length = k := by simp [Tm.plainTo]
theorem Tm.seen_succ (seen : List Int) {t : List Int} {k : Nat} (h : k < t.length) : Tm.seenFrom seen (t.take (k + 1)) = Tm.see (Tm.seenFrom seen (t.take k)) (t[k]?.getD 0) := by
  rw [take_snoc h]
  simp [Tm.seenFrom, List.foldl_append]
theorem Tm.idx_new {seen : List Int} {s : Int} (h : seen.contains s = false) : Tm.idx seen s = seen.length := by
  unfold Tm.idx
  rw [List.findIdx_eq_length]
  intro x hx
  have : ¬ s ∈ seen := by simpa using h
  simp only [beq_eq_false_iff_ne]
  rintro rfl
  exact this hx
theorem Tm.idx_app {seen : List Int} {s : Int} (h : seen.contains s = true) (r : List Int) : Tm.idx (seen ++ r) s = Tm.idx seen s := by
  unfold Tm.idx
  rw [List.findIdx_append, if_pos]
  rw [List.findIdx_lt_length]
  exact ⟨s, by simpa using h, by simp⟩
theorem Tm.see_len (seen : List Int) (s : Int) : (Tm.see seen s).length ≤ seen.length + 1 := by
  unfold Tm.see
  split
  · split
    · omega
    · simp
  · omega
theorem Tm.seen_len (t : List Int) : ∀ seen : List Int, (Tm.seenFrom seen t).length ≤ seen.length + t.length := by
  induction t with
  | nil => intro seen; simp [Tm.seenFrom]
  | cons s l ih =>
    intro seen
    have h1 := ih (Tm.see seen s)
    have h2 := Tm.see_len seen s
    simp only [Tm.seenFrom, List.foldl_cons, List.length_cons] at h1 ⊢
    omega

/-- THE MAP D KEEPS the variables that have been seen, each with its new name. -/
structure MapIs (seen : List Int) (D : DataW Unit) : Prop where
  has : ∀ s : Int, Maps.has D (.int .i64 s) = seen.contains s
  at_ : ∀ s : Int, seen.contains s = true → D.atKey (.int .i64 s) (.lit (.int .i64 0)) = .lit (.int .i64 (-1 - (Tm.idx seen s : Int)))
  size : Maps.size D = seen.length

theorem MapIs.put {seen : List Int} {D : DataW Unit} (h : MapIs seen D) (hT : Tidy D) {s : Int} (hs : seen.contains s = false) :
    MapIs (seen ++ [s]) (D.put (.int .i64 s) (.lit (.int .i64 (-1 - (seen.length : Int))))) := by
  have hk : WideAt.IsKeyLit (.int .i64 s) := trivial
  have hh : Maps.has D (.int .i64 s) = false := by rw [h.has, hs]
  have hne : ¬ s ∈ seen := by simpa using hs
  refine ⟨fun x => ?_, fun x hx => ?_, ?_⟩
  · by_cases e : x = s
    · subst e
      rw [has_put_same hT.isMap hk]
      simp
    · rw [has_put_other (by simp [e]), h.has]
      simp [e]
  · by_cases e : x = s
    · subst e
      rw [atKey_put_same hT.isMap hk]
      have : Tm.idx (seen ++ [x]) x = seen.length := by
        unfold Tm.idx
        rw [List.findIdx_append, if_neg]
        · simp
        · rw [List.findIdx_lt_length]
          rintro ⟨y, hy, e⟩
          have : y = x := by simpa using e
          subst this
          exact hne hy
      rw [this]
    · rw [atKey_put_other (by simp [e])]
      have hx' : seen.contains x = true := by simpa [e] using hx
      rw [Tm.idx_app hx']
      exact h.at_ x hx'
  · rw [size_put hT, hh, h.size]
    simp

/-- Block Bf is the box of the map 'fresh', block Bm the map: it keeps 'seen'. -/
def FreshAt (W : World) (Bf Bm : Nat) (seen : List Int) : Prop :=
  W.cell? ⟨Bf, 0, none⟩ = some (.map (some Bm)) ∧ ∃ D : DataW Unit, W.ownsMap Try.prog 3 (plainElem Try.prog 3) Bm seen.length D ∧ MapIs seen D
theorem FreshAt.keep {W W' : World} {Bf Bm : Nat} {seen : List Int} (h : FreshAt W Bf Bm seen) (h1 : W'.heap[Bf]? = W.heap[Bf]?) (h2 : W'.heap[Bm]? = W.heap[Bm]?) : FreshAt W' Bf Bm seen := by
  obtain ⟨hc, D, ⟨es, clock, hb, r⟩, hM⟩ := h
  exact ⟨(World.cell?_of_block (a := ⟨Bf, 0, none⟩) h1).trans hc, D, ⟨es, clock, h2.trans hb, r⟩, hM⟩
theorem FreshAt.map {W : World} {Bf Bm : Nat} {seen : List Int} (h : FreshAt W Bf Bm seen) : ∃ es clock, W.heap[Bm]? = some (.map es clock) := by
  obtain ⟨_, D, ⟨es, clock, hb, _⟩, _⟩ := h
  exact ⟨es, clock, hb⟩
theorem FreshAt.lt {W : World} {Bf Bm : Nat} {seen : List Int} (h : FreshAt W Bf Bm seen) : Bf < W.heap.size ∧ Bm < W.heap.size := by
  obtain ⟨es, clock, hb⟩ := h.map
  exact ⟨lt_of_cell h.1, (Array.getElem?_eq_some_iff.1 hb).1⟩
theorem ne_map {W : World} {b o Bm : Nat} {v : Value} (hc : W.cell? ⟨b, o, none⟩ = some v) {es : Array (MapEntry)} {clock : Nat} (hm : W.heap[Bm]? = some (.map es clock)) : b ≠ Bm := by
  rintro rfl
  simp [World.cell?, hm] at hc

/-- w' is w below block n, but for block m. -/
structure Keep (n m : Nat) (w w' : World) : Prop where
  os : w'.os = w.os
  tape : w'.tape = w.tape
  output : w'.output = w.output
  size : w.heap.size ≤ w'.heap.size
  block : ∀ k, k < n → k ≠ m → w'.heap[k]? = w.heap[k]?
theorem Keep.refl (n m : Nat) (w : World) : Keep n m w w := ⟨rfl, rfl, rfl, Nat.le_refl _, fun _ _ _ => rfl⟩
theorem Keep.trans {n m : Nat} {a b c : World} (h : Keep n m a b) (k : Keep n m b c) : Keep n m a c :=
  ⟨k.os.trans h.os, k.tape.trans h.tape, k.output.trans h.output, Nat.le_trans h.size k.size, fun i hi hm => (k.block i hi hm).trans (h.block i hi hm)⟩
theorem Keep.of_below {n m : Nat} {a b : World} (h : Below n a b) : Keep n m a b := ⟨h.os, h.tape, h.output, h.size, fun k hk _ => h.block k hk⟩
theorem Keep.of_grown {n m : Nat} {a b : World} (h : a.grownBy b (some m)) (hn : n ≤ a.heap.size) : Keep n m a b :=
  ⟨h.os, h.tape, h.output, h.size, fun k hk hm => h.block k (by omega) (by simpa using hm)⟩
theorem Keep.mono {n n' m : Nat} {a b : World} (h : Keep n m a b) (hn : n' ≤ n) : Keep n' m a b := ⟨h.os, h.tape, h.output, h.size, fun k hk hm => h.block k (by omega) hm⟩
theorem Keep.below {n m : Nat} {a b : World} (h : Keep n m a b) (hm : n ≤ m) : Below n a b := ⟨h.os, h.tape, h.output, h.size, fun k hk => h.block k hk (by omega)⟩

end Go.Proofs.Ytgeknojpcjadkaa

namespace Go.Proofs.Ytgeknojpcjadkaa
open Go.Proofs Go.RowKit Go.Shelf Go.Maps

theorem lawInt : Keyed Try.prog 3 := int_keyed Try.underlying3
theorem zeroInt (w : World) : (zeroValue 3).run Try.prog w = .ok (.int .i64 0) w := by kernel_rfl
end Go.Proofs.Ytgeknojpcjadkaa

namespace Go.Proofs.Ytgeknojpcjadkaa
open Go.Proofs Go.RowKit Go.Shelf Go.Maps

/-- A term made plain. -/
def Tm.plain (t : List Int) : List Int := Tm.plainTo [] t t.length

def Tm.plainVal (t : List Int) : List Int := if Tm.err t = 0 then Tm.plain t else []
end Go.Proofs.Ytgeknojpcjadkaa

namespace Go.Proofs.Ytgeknojpcjadkaa
open Go.Proofs Go.RowKit Go.Shelf Go.Maps

theorem Tm.see_nodup {seen : List Int} (h : seen.Nodup) (s : Int) : (Tm.see seen s).Nodup := by
  unfold Tm.see
  split
  · split
    · exact h
    · rename_i hc
      have : ¬ s ∈ seen := by simpa using hc
      rw [List.nodup_append]
      exact ⟨h, by simp, fun x hx y hy => by simp at hy; subst hy; rintro rfl; exact this hx⟩
  · exact h
theorem Tm.seen_nodup (t : List Int) : ∀ seen : List Int, seen.Nodup → (Tm.seenFrom seen t).Nodup := by
  induction t with
  | nil => intro seen h; exact h
  | cons s l ih => intro seen h; exact ih _ (Tm.see_nodup h s)
/-- The first k signs made plain, the rest as they were. -/
def Tm.half (t : List Int) (k : Nat) : List Int := Tm.plainTo [] t k ++ t.drop k
theorem Tm.half_same {t : List Int} {k : Nat} (h : k < t.length) (hs : 0 ≤ t[k]?.getD 0) : Tm.half t (k + 1) = Tm.half t k := by
  unfold Tm.half
  have hn : Tm.name (Tm.seenFrom [] (t.take k)) (t[k]?.getD 0) = t[k]?.getD 0 := by unfold Tm.name; rw [if_neg (by omega)]
  rw [Tm.plainTo_succ, hn, List.drop_eq_getElem_cons h]
  simp [h]
theorem Tm.see_same {seen : List Int} {s : Int} (hs : 0 ≤ s) : Tm.see seen s = seen := by unfold Tm.see; rw [if_neg (by omega)]
/-- One int is stored anew. -/
theorem New.set {base : Nat} {W : World} {g c n : Nat} {zs : List Int} (h : New base W (.slice (some ⟨g, 0, none⟩) n c) zs) (hn : n = zs.length) (j : Nat) (x : Int) :
    New base (W.setCell ⟨g, j, none⟩ (.int .i64 x)) (.slice (some ⟨g, 0, none⟩) n c) (zs.set j x) := by
  subst hn
  have := (World.ownsRow.stored h j (.int .i64 x)).1
  unfold New
  rw [List.length_set, List.map_set]
  exact this

theorem Try.infoInts : Try.prog.underlying 36 = some (.slice 3) := by kernel_rfl

end Go.Proofs.Ytgeknojpcjadkaa

namespace Go.Proofs.Ytgeknojpcjadkaa
open Go.Proofs Go.RowKit Go.Shelf Go.Maps

theorem New.drewN {base : Nat} {W : World} {v : Value} {zs : List Int} (h : New base W v zs) (d : Nat) : New base (W.drewN d) v zs := h
theorem New.own_lt {base : Nat} {W : World} {g n c : Nat} {zs : List Int} (h : New base W (.slice (some ⟨g, 0, none⟩) n c) zs) : base ≤ g ∧ g < W.heap.size := World.ownsRow.lt h g rfl
theorem New.at0 {base : Nat} {W : World} {v : Value} {zs : List Int} (h : New base W v zs) (h0 : 0 < zs.length) : ∃ g c, v = .slice (some ⟨g, 0, none⟩) zs.length c ∧ (∀ j, j < zs.length → W.cell? ⟨g, j, none⟩ = some (.int .i64 (zs[j]?.getD 0))) ∧ ∀ j, W.frozen? ⟨g, j, none⟩ = false := by
  obtain ⟨m, hm⟩ : ∃ m, zs.length = m + 1 := ⟨zs.length - 1, by omega⟩
  have h' : W.ownsRow base 3 1 v (m + 1) (zs.map (Value.int .i64)) := by rw [← hm]; exact h
  obtain ⟨g, c, rfl⟩ := ownsRow_succ h'
  rw [← hm] at h'
  refine ⟨g, c, by rw [hm], fun j hj => ?_, fun j => ?_⟩
  · have := World.ownsRow.cellAt (by rw [hm] at h'; exact h') j (by omega)
    rw [this]
    simp [hj]
  · exact World.ownsRow.frozenAt (by rw [hm] at h'; exact h') j

/-- haspref.plain, one round: what stands before it and behind it. -/
def PlainSt (w W1 : World) (t : List Int) (g n c k : Nat) (vs : Value) (wr : World) : Prop :=
  New W1.heap.size wr vs (Tm.seenFrom [] (t.take k)) ∧ New w.heap.size wr (.slice (some ⟨g, 0, none⟩) n c) (Tm.half t k) ∧ Below w.heap.size w wr ∧ W1.heap.size ≤ wr.heap.size

theorem PlainSt.same {w W1 : World} {t : List Int} {g n c k : Nat} {vs : Value} {wr : World} (h : PlainSt w W1 t g n c k vs wr) (hk : k < t.length) (hs : 0 ≤ t[k]?.getD 0) : PlainSt w W1 t g n c (k + 1) vs wr := by
  obtain ⟨h1, h2, h3, h4⟩ := h
  refine ⟨?_, ?_, h3, h4⟩
  · rw [Tm.seen_succ [] hk, Tm.see_same hs]; exact h1
  · rw [Tm.half_same hk hs]; exact h2

end Go.Proofs.Ytgeknojpcjadkaa

namespace Go.Proofs.Ytgeknojpcjadkaa
open Go.Proofs Go.RowKit Go.Shelf Go.Maps

theorem Tm.s1 : Tm.applyErr Tm.someL [4, -1, -2] = 0 := by decide +kernel
theorem Tm.s2 : Tm.applyVal Tm.someL [4, -1, -2] = [4, 2, -2, -1] := by decide +kernel
theorem Tm.s5 : Tm.err [4, -5, 4, -2, -5] = 0 := by decide +kernel
theorem Tm.s9 : Tm.subErr (Tm.noneL 8) = 0 := by decide +kernel
end Go.Proofs.Ytgeknojpcjadkaa

namespace Go.Proofs.Ytgeknojpcjadkaa
open Go.Proofs Go.RowKit Go.Shelf

def TermIn (w : World) (a : Option Addr) (len cap : Nat) : Prop := ∃ zs : List Int, zs.length = len ∧ Ints w.heap.size w a zs ∧ len ≤ cap ∧ cap ≤ maxLen ∧ (a = none → cap = 0)
def SubsIn (w : World) (a : Option Addr) (len cap : Nat) : Prop := ∃ ss : List (List Int), ss.length = len ∧ Subs w.heap.size w a ss ∧ len ≤ cap ∧ cap ≤ maxLen
theorem ints_of_cells {w : World} {a : Option Addr} {L C : Nat} {Z : List Int} (h1 : L ≤ C) (h2 : Z.length = C) (h3 : ∀ x, a = some x → ∀ c, c < C → w.cell? (x.add c) = some (.int .i64 (Z.getD c 0))) (h4 : a = none → C = 0) :
    Ints w.heap.size w a (Z.take L) := fun j hj => by
  rw [List.length_take] at hj
  cases a with
  | none => have := h4 rfl; omega
  | some x =>
    have hc := h3 x rfl j (by omega)
    have hsp := World.cell?_spot (h3 x rfl 0 (by omega))
    obtain ⟨b, off, spot⟩ := x
    have hspot : spot = none := by simpa [Addr.add] using hsp
    subst hspot
    rw [Go.WideShapes.add_plain] at hc
    refine ⟨b, off, rfl, by simpa using lt_of_cell hc, ?_⟩
    rw [hc, List.getD_eq_getElem?_getD]
    simp [show j < L from by omega]

end Go.Proofs.Ytgeknojpcjadkaa

namespace Go.Proofs.Ytgeknojpcjadkaa
open Go.Proofs Go.RowKit Go.Shelf Go.Maps

/-- An element reads as itself. -/
def heldElem (v : Value) : Option (DataW Value × List MemPlace) := some (.held v, [])

/-- BLOCK b IS THE MAP m, of at most n entries. -/
def IntMap (W : World) (b n : Nat) (m : Int → Option Value) : Prop :=
  ∃ D : DataW Value, W.ownsMap Try.prog 3 heldElem b n D ∧ (∀ k : Int, Maps.has D (.int .i64 k) = (m k).isSome) ∧ ∀ (k : Int) (v : Value), m k = some v → ∀ z, D.atKey (.int .i64 k) z = .held v
def upd {α : Type} (m : Int → Option α) (s : Int) (v : α) : Int → Option α := fun x => if x = s then some v else m x
theorem upd_same {α : Type} (m : Int → Option α) (s : Int) (v : α) : upd m s v s = some v := by simp [upd]
theorem upd_other {α : Type} (m : Int → Option α) {s x : Int} (v : α) (h : x ≠ s) : upd m s v x = m x := by simp [upd, h]

theorem IntMap.made (w : World) : IntMap (w.alloc (.map #[] 0)) w.heap.size 0 (fun _ => none) :=
  ⟨_, World.ownsMap_made w _ _ _, fun _ => rfl, fun _ _ h => by cases h⟩
theorem IntMap.lt {W : World} {b n : Nat} {m : Int → Option Value} (h : IntMap W b n m) : b < W.heap.size := by
  obtain ⟨D, hD, _⟩ := h; exact hD.lt
theorem IntMap.keep {W W' : World} {b n : Nat} {m : Int → Option Value} (h : IntMap W b n m) (hb : W'.heap[b]? = W.heap[b]?) : IntMap W' b n m := by
  obtain ⟨D, ⟨es, clock, hes, r⟩, r2⟩ := h
  exact ⟨D, ⟨es, clock, hb.trans hes, r⟩, r2⟩
theorem IntMap.mono {W : World} {b n n' : Nat} {m : Int → Option Value} (h : IntMap W b n m) (hn : n ≤ n') : IntMap W b n' m := by
  obtain ⟨D, hD, r⟩ := h; exact ⟨D, hD.mono hn, r⟩
theorem IntMap.map {W : World} {b n : Nat} {m : Int → Option Value} (h : IntMap W b n m) : ∃ es clock, W.heap[b]? = some (.map es clock) := by
  obtain ⟨D, ⟨es, clock, hes, r⟩, r2⟩ := h; exact ⟨es, clock, hes⟩

theorem atKey_none {D : DataW Value} {k : Lit} (hD : IsMap D) (h : Maps.has D k = false) (z : DataW Value) : D.atKey k z = z := by
  cases D with
  | map es =>
    simp only [Maps.has, List.any_eq_false] at h
    simp only [DataW.atKey]
    have : es.find? (fun p => p.1.sameKey k) = none := by
      rw [List.find?_eq_none]; intro x hx; simpa using h x hx
    simp [this]
  | _ => simp [IsMap] at hD

theorem IntMap.look {w : World} {b n : Nat} {M : Int → Option Value} (h : IntMap w b n M) {t e : TypeId} (ht : Try.prog.underlying t = some (.map 3 e)) {z : Value} (hz : (zeroValue e).run Try.prog w = .ok z w) {key : Int} (hwf : (Lit.int .i64 key).wf = true) :
    (Instr.lookup t (.map (some b)) (.int .i64 key) true).run Try.prog w = .ok (.tuple #[(M key).getD z, .bool (M key).isSome]) w ∧ (Instr.lookup t (.map (some b)) (.int .i64 key) false).run Try.prog w = .ok ((M key).getD z) w := by
  obtain ⟨D, hD, hh, ha⟩ := h
  have hkey := keyOf_int_mk Try.underlying3 hwf
  have hv : ∀ v, heldElem v = some (D.atKey (.int .i64 key) (.held z), []) → v = (M key).getD z := fun v hv => by
    unfold heldElem at hv
    simp only [Option.some.injEq, Prod.mk.injEq, and_true] at hv
    cases hm : M key with
    | none =>
      rw [atKey_none (hD.tidy lawInt).isMap (by rw [hh, hm]; rfl)] at hv
      simpa using hv
    | some u =>
      rw [ha key u hm] at hv
      simpa using hv
  constructor
  · obtain ⟨v, ps, hrun, hR⟩ := hD.look_ok lawInt ht hz (R := heldElem) (zd := .held z) (zp := []) rfl hkey
    have : ps = [] := by unfold heldElem at hR; simp at hR; exact hR.2
    subst this
    rw [hrun, hv v hR, hh]
  · obtain ⟨v, ps, hrun, hR⟩ := hD.lookup lawInt ht hz (R := heldElem) (zd := .held z) (zp := []) rfl hkey
    have : ps = [] := by unfold heldElem at hR; simp at hR; exact hR.2
    subst this
    rw [hrun, hv v hR]

theorem IntMap.set {w : World} {b n : Nat} {M : Int → Option Value} (h : IntMap w b n M) {t e : TypeId} (ht : Try.prog.underlying t = some (.map 3 e)) (hn : n < maxLen) {key : Int} (hwf : (Lit.int .i64 key).wf = true) (v : Value) :
    ∃ w', (Instr.mapUpdate t (.map (some b)) (.int .i64 key) v).run Try.prog w = .ok () w' ∧ IntMap w' b (n + 1) (upd M key v) ∧ w.grownBy w' (some b) := by
  obtain ⟨D, hD, hh, ha⟩ := h
  have hkey := keyOf_int_mk Try.underlying3 hwf
  obtain ⟨w', hrun, h1, h2⟩ := hD.update (R := heldElem) lawInt ht hn hkey (val := v) (d := .held v) (ps := []) rfl
  have hk : WideAt.IsKeyLit (.int .i64 key) := trivial
  refine ⟨w', hrun, ⟨_, h1, fun x => ?_, fun x u hx z => ?_⟩, h2⟩
  · by_cases e : x = key
    · subst e; rw [has_put_same (hD.tidy lawInt).isMap hk, upd_same]; rfl
    · rw [has_put_other (by simp [e]), upd_other _ _ e, hh]
  · by_cases e : x = key
    · subst e; rw [upd_same] at hx; cases hx; exact atKey_put_same (hD.tidy lawInt).isMap hk _ _
    · rw [upd_other _ _ e] at hx; rw [atKey_put_other (by simp [e])]; exact ha x u hx z

section
variable (w : World) {ops : Array Oper} {rest : List Oper} {o : Oper} {a : Act} {Q : Exit → Act → World → Prop}
theorem wp_mapset (hg : o.guard = none) (m x u : Operand) (t : TypeId) (hop : o.op = Op.mapUpdate t m x u) (e : TypeId) (ht : Try.prog.underlying t = some (.map 3 e)) (b n : Nat) (M : Int → Option Value)
    (hm : a.eval m = .map (some b)) (hI : IntMap w b n M) (hn : n < maxLen) (key : Int) (hx : a.eval x = .int .i64 key) (hwf : (Lit.int .i64 key).wf = true) (v : Value) (hv : a.eval u = v)
    (hK : ∀ w', IntMap w' b (n + 1) (upd M key v) → w.grownBy w' (some b) → wpList Try.prog ops Q rest (a.put o.dst undef) w') : wpList Try.prog ops Q (o :: rest) a w := by
  refine wpList_plain hg fun K' hK' => ?_
  obtain ⟨w', hrun, h1, h2⟩ := hI.set ht hn hwf v
  unfold Oper.wp
  simp [execOp, hop, hm, hx, hv, hrun, Result.andThen]
  exact hK' _ _ (hK w' h1 h2)
end

section
variable {F : Fence} {nF : Nat} (w : World) {ops : Array Oper} {rest : List Oper} {o : Oper} {a : Act} {Q : Exit → Act → World → Prop}
theorem wpi_look (hg : o.guard = none) (m x : Operand) (t : TypeId) (hop : o.op = Op.lookup t m x false) (e : TypeId) (ht : Try.prog.underlying t = some (.map 3 e)) {z : Value} (hz : (zeroValue e).run Try.prog w = .ok z w) (b n : Nat) (M : Int → Option Value)
    (hm : a.eval m = .map (some b)) (hI : IntMap w b n M) (key : Int) (hx : a.eval x = .int .i64 key) (hwf : (Lit.int .i64 key).wf = true) (v : Value) (hv : (M key).getD z = v)
    (hK : wpListIn F nF Try.prog ops Q rest (a.put o.dst v) w) : wpListIn F nF Try.prog ops Q (o :: rest) a w := by
  refine wpListIn_plain hg fun K' hK' => ?_
  have hrun := (hI.look ht hz hwf).2
  rw [hv] at hrun
  unfold Oper.wpIn
  refine ⟨by simp [Oper.about, hop], ?_⟩
  rw [Oper.semAt_plain F _ _ (by rw [hop]; intro c hc'; cases hc')]
  simp [execOp, hop, hm, hx, hrun, Result.andThen]
  exact hK' _ _ hK
theorem wpi_mapset (hg : o.guard = none) (m x u : Operand) (t : TypeId) (hop : o.op = Op.mapUpdate t m x u) (e : TypeId) (ht : Try.prog.underlying t = some (.map 3 e)) (b n : Nat) (M : Int → Option Value)
    (hm : a.eval m = .map (some b)) (hI : IntMap w b n M) (hn : n < maxLen) (key : Int) (hx : a.eval x = .int .i64 key) (hwf : (Lit.int .i64 key).wf = true) (v : Value) (hv : a.eval u = v)
    (hK : ∀ w', IntMap w' b (n + 1) (upd M key v) → w.grownBy w' (some b) → wpListIn F nF Try.prog ops Q rest (a.put o.dst undef) w') : wpListIn F nF Try.prog ops Q (o :: rest) a w := by
  refine wpListIn_plain hg fun K' hK' => ?_
  obtain ⟨w', hrun, h1, h2⟩ := hI.set ht hn hwf v
  unfold Oper.wpIn
  refine ⟨by simp [Oper.about, hop], ?_⟩
  rw [Oper.semAt_plain F _ _ (by rw [hop]; intro c hc'; cases hc')]
  simp [execOp, hop, hm, hx, hv, hrun, Result.andThen]
  exact hK' _ _ (hK w' h1 h2)
end

end Go.Proofs.Ytgeknojpcjadkaa

namespace Go.Proofs.Ytgeknojpcjadkaa
open Go.Proofs Go.RowKit Go.Shelf

theorem Tm.run_app (l : List Int) : ∀ (r : List Int) (n : Nat), Tm.run l n ≤ l.length → Tm.run (l ++ r) n = Tm.run l n := by
  induction l with
  | nil => intro r n h; rw [Tm.run_nil] at h; have : n = 0 := by simpa using h
           subst this; simp [Tm.run_zero]
  | cons s l ih =>
    intro r n h
    cases n with
    | zero => simp [Tm.run_zero]
    | succ n =>
      rw [List.cons_append, Tm.run_cons, Tm.run_cons, ih]
      rw [Tm.run_cons, List.length_cons] at h
      omega
theorem Tm.run_take (l : List Int) : ∀ (n : Nat), Tm.run l n ≤ l.length → Tm.run (l.take (Tm.run l n)) n = Tm.run l n := by
  induction l with
  | nil => intro n h; simp [Tm.run_nil]
  | cons s l ih =>
    intro n h
    cases n with
    | zero => simp [Tm.run_zero]
    | succ n =>
      rw [Tm.run_cons] at h ⊢
      rw [List.length_cons] at h
      rw [show 1 + Tm.run l (n + Tm.room s) = Tm.run l (n + Tm.room s) + 1 from by omega, List.take_succ_cons, Tm.run_cons, ih _ (by omega)]
      omega
theorem Tm.run_open (l : List Int) : ∀ (r : List Int) (n : Nat), l.length < Tm.run (l ++ r) n → ∃ m, ∀ x, Tm.run (l ++ x) n = l.length + Tm.run x (m + 1) := by
  induction l with
  | nil =>
    intro r n h
    cases n with
    | zero => simp [Tm.run_zero] at h
    | succ n => exact ⟨n, fun x => by simp⟩
  | cons s l ih =>
    intro r n h
    cases n with
    | zero => simp [Tm.run_zero] at h
    | succ n =>
      rw [List.cons_append, Tm.run_cons, List.length_cons] at h
      obtain ⟨m, hm⟩ := ih r (n + Tm.room s) (by omega)
      refine ⟨m, fun x => ?_⟩
      rw [List.cons_append, Tm.run_cons, hm, List.length_cons]
      omega

theorem Tm.split (zs : List Int) (k : Nat) : zs = zs.take k ++ (Tm.part zs k ++ zs.drop (Tm.endAt zs k)) := by
  have hg := Tm.endAt_gt zs k
  have hd : zs.drop (Tm.endAt zs k) = (zs.drop k).drop (Tm.endAt zs k - k) := by rw [List.drop_drop]; congr 1; omega
  rw [hd, Tm.part, List.take_append_drop, List.take_append_drop]

theorem Tm.part_run {zs : List Int} (he : Tm.err zs = 0) {k : Nat} (hk : k < zs.length) : Tm.run (Tm.part zs k) 1 = (Tm.part zs k).length := by
  rw [Tm.part_length he hk]
  have h1 := Tm.end_in he hk
  have h2 : Tm.endAt zs k - k = Tm.run (zs.drop k) 1 := by unfold Tm.endAt; omega
  unfold Tm.part
  rw [h2, Tm.run_take]
  rw [List.length_drop]
  omega
theorem Tm.part_all {zs : List Int} (he : Tm.err zs = 0) (k : Nat) : (Tm.part zs k).all Tm.known = true := by
  have h := Tm.err_all he
  rw [List.all_eq_true] at h ⊢
  intro x hx
  exact h x (List.mem_of_mem_drop (List.mem_of_mem_take hx))
/-- Each part is a term. -/
theorem Tm.part_err {zs : List Int} (he : Tm.err zs = 0) {k : Nat} (hk : k < zs.length) : Tm.err (Tm.part zs k) = 0 := by
  refine Tm.err_ok ?_ (Tm.part_all he k) (Tm.part_run he hk)
  rw [Tm.part_length he hk]
  have := Tm.end_in he hk
  have := Tm.err_len he
  omega

theorem Tm.put_eq (zs us : List Int) (k : Nat) : Tm.put zs k us = zs.take k ++ (us ++ zs.drop (Tm.endAt zs k)) := by unfold Tm.put; rw [List.append_assoc]

theorem Tm.put_run {zs us : List Int} (he : Tm.err zs = 0) (hu : Tm.run us 1 = us.length) {k : Nat} (hk : k < zs.length) : Tm.run (Tm.put zs k us) 1 = (Tm.put zs k us).length := by
  have hs := Tm.split zs k
  have hr := Tm.err_run he
  have hp := Tm.part_run he hk
  have htl : (zs.take k).length = k := by rw [List.length_take]; omega
  generalize hP : Tm.part zs k = P at *
  rw [Tm.put_eq]
  generalize hA : zs.take k = A at *
  generalize hB : zs.drop (Tm.endAt zs k) = B at *
  clear hP hA hB
  rw [hs] at hr
  obtain ⟨m, hm⟩ := Tm.run_open A (P ++ B) 1 (by rw [hr]; rw [← hs]; omega)
  rw [hm, show m + 1 = 1 + m from by omega, Tm.run_add, Tm.run_app P B 1 (by omega), hp, List.drop_left] at hr
  rw [hm, show m + 1 = 1 + m from by omega, Tm.run_add, Tm.run_app us B 1 (by omega), hu, List.drop_left]
  simp only [List.length_append] at hr ⊢
  omega
theorem Tm.put_all {zs us : List Int} (he : Tm.err zs = 0) (hu : us.all Tm.known = true) (k : Nat) : (Tm.put zs k us).all Tm.known = true := by
  have h := Tm.err_all he
  rw [List.all_eq_true] at h hu ⊢
  intro x hx
  unfold Tm.put at hx
  rw [List.mem_append, List.mem_append] at hx
  rcases hx with (hx | hx) | hx
  · exact h x (List.mem_of_mem_take hx)
  · exact hu x hx
  · exact h x (List.mem_of_mem_drop hx)
/-- What comes is a term. -/
theorem Tm.put_err {zs us : List Int} (he : Tm.err zs = 0) (hu : Tm.err us = 0) {k : Nat} (hk : k < zs.length) (hl : (Tm.put zs k us).length ≤ 30) : Tm.err (Tm.put zs k us) = 0 :=
  Tm.err_ok hl (Tm.put_all he (Tm.err_all hu) k) (Tm.put_run he (Tm.err_run hu) hk)
end Go.Proofs.Ytgeknojpcjadkaa

namespace Go.Proofs.Ytgeknojpcjadkaa
open Go.Proofs Go.RowKit Go.Shelf Go.Maps

abbrev Asg := Int → Option (List Int)
/-- From place k of t on, against the signs that are left. -/
def Tm.fitGo (t : List Int) : List Int → Nat → Asg → Option Asg
  | [], _, m => some m
  | s :: p, k, m => if s < 0 then (if (m s).isSome = true ∧ m s ≠ some (Tm.part t k) then none else Tm.fitGo t p (Tm.endAt t k) (upd m s (Tm.part t k))) else if t[k]?.getD 0 = s then Tm.fitGo t p (k + 1) m else none
def Tm.fit (p t : List Int) : Option Asg := Tm.fitGo t p 0 (fun _ => none)

theorem Tm.fitGo_nil (t : List Int) (k : Nat) (m : Asg) : Tm.fitGo t [] k m = some m := rfl
/-- As many terms are left of p as of t. -/
def Against (p t : List Int) (i k : Nat) : Prop := ∃ o, Tm.run (p.drop i) o = p.length - i ∧ Tm.run (t.drop k) o = t.length - k ∧ i ≤ p.length ∧ k ≤ t.length
theorem Against.start {p t : List Int} (hp : Tm.err p = 0) (ht : Tm.err t = 0) : Against p t 0 0 := ⟨1, by simpa using Tm.err_run hp, by simpa using Tm.err_run ht, by omega, by omega⟩
theorem Against.pos {p t : List Int} {i k : Nat} (h : Against p t i k) (hi : i < p.length) : k < t.length := by
  obtain ⟨o, h1, h2, h3, h4⟩ := h
  have ho : o ≠ 0 := by rintro rfl; rw [Tm.run_zero] at h1; omega
  have := Tm.run_ge (t.drop k) o
  omega
theorem Tm.room_neg {s : Int} (h : s < 0) : Tm.room s = 0 := by unfold Tm.room; rw [if_neg (by omega), if_neg (by omega)]
theorem Against.var {p t : List Int} {i k : Nat} (h : Against p t i k) (hi : i < p.length) (hs : p[i]?.getD 0 < 0) : Against p t (i + 1) (Tm.endAt t k) := by
  have hk := h.pos hi
  obtain ⟨o, h1, h2, h3, h4⟩ := h
  have ho : o ≠ 0 := by rintro rfl; rw [Tm.run_zero] at h1; omega
  obtain ⟨o, rfl⟩ : ∃ o', o = o' + 1 := ⟨o - 1, by omega⟩
  rw [Tm.run_step hi, Tm.room_neg hs] at h1
  rw [Nat.add_comm o 1, Tm.run_add] at h2
  have hle : Tm.endAt t k ≤ t.length := by
    rw [show Tm.endAt t k = k + Tm.run (t.drop k) 1 from rfl]
    omega
  refine ⟨o, by simpa using (by omega : Tm.run (p.drop (i + 1)) (o + 0) = p.length - (i + 1)), ?_, by omega, hle⟩
  rw [List.drop_drop] at h2
  rw [show Tm.endAt t k = k + Tm.run (t.drop k) 1 from rfl] at hle ⊢
  omega
theorem Against.sym {p t : List Int} {i k : Nat} (h : Against p t i k) (hi : i < p.length) (he : t[k]?.getD 0 = p[i]?.getD 0) : Against p t (i + 1) (k + 1) := by
  have hk := h.pos hi
  obtain ⟨o, h1, h2, h3, h4⟩ := h
  have ho : o ≠ 0 := by rintro rfl; rw [Tm.run_zero] at h1; omega
  obtain ⟨o, rfl⟩ : ∃ o', o = o' + 1 := ⟨o - 1, by omega⟩
  rw [Tm.run_step hi] at h1
  rw [Tm.run_step hk, he] at h2
  exact ⟨o + Tm.room (p[i]?.getD 0), by omega, by omega, by omega, by omega⟩
/-- A value that is a slice which reads zs, all below block n. -/
def Reads (n : Nat) (W : World) (v : Value) (zs : List Int) : Prop := ∃ b off c, v = .slice (some ⟨b, off, none⟩) zs.length c ∧ Ints n W (some ⟨b, off, none⟩) zs ∧ zs.length ≤ c ∧ c ≤ maxLen ∧ zs.length ≤ 30
theorem Reads.below {n : Nat} {W W' : World} {v : Value} {zs : List Int} (h : Reads n W v zs) (hB : Below n W W') : Reads n W' v zs := by
  obtain ⟨b, off, c, rfl, hI, h1⟩ := h
  exact ⟨b, off, c, rfl, hI.below hB, h1⟩
/-- BLOCK bm IS THE MAP OF WHAT VARIABLES BECOME. -/
def FitAt (n : Nat) (W : World) (bm N : Nat) (m : Asg) : Prop := ∃ M, IntMap W bm N M ∧ (∀ s, m s = none → M s = none) ∧ ∀ s zs, m s = some zs → ∃ v, M s = some v ∧ Reads n W v zs
theorem FitAt.upd {n : Nat} {W W' : World} {bm N : Nat} {m : Asg} {s : Int} {v : Value} {zs : List Int} {M : Int → Option Value} (h1 : ∀ s, m s = none → M s = none) (h2 : ∀ s zs, m s = some zs → ∃ v, M s = some v ∧ Reads n W v zs)
    (h3 : IntMap W' bm N (upd M s v)) (hB : Below n W W') (hv : Reads n W v zs) : FitAt n W' bm N (upd m s zs) := by
  refine ⟨_, h3, fun x hx => ?_, fun x ys hx => ?_⟩
  · by_cases e : x = s
    · subst e; rw [upd_same] at hx; cases hx
    · rw [upd_other _ _ e] at hx ⊢; exact h1 x hx
  · by_cases e : x = s
    · subst e; rw [upd_same] at hx; cases hx; exact ⟨v, upd_same _ _ _, hv.below hB⟩
    · rw [upd_other _ _ e] at hx
      obtain ⟨u, hu, hr⟩ := h2 x ys hx
      exact ⟨u, by rw [upd_other _ _ e]; exact hu, hr.below hB⟩

/-- What comes: what has been found for the first k variables; all others become themselves. -/
def Tm.fitL (m : Asg) (k : Nat) : List (List Int) := (List.range 8).map fun i : Nat => if i < k then (m (-1 - (i : Int))).getD [-1 - (i : Int)] else [-1 - (i : Int)]
theorem Tm.fitL_length (m : Asg) (k : Nat) : (Tm.fitL m k).length = 8 := by simp [Tm.fitL]
def Tm.fitErr (p t : List Int) : Int := Tm.firstErr [p, t]
def Tm.fitIs (p t : List Int) : Bool := if Tm.fitErr p t = 0 then (Tm.fit p t).isSome else false
def Tm.fitOut : Option Asg → List (List Int)
  | some m => Tm.fitL m 8
  | none => []
def Tm.fitVal (p t : List Int) : List (List Int) := if Tm.fitErr p t = 0 then Tm.fitOut (Tm.fit p t) else []
theorem Tm.fitErr_ok {p t : List Int} (h : Tm.fitErr p t = 0) : Tm.err p = 0 ∧ Tm.err t = 0 := by
  have := Tm.firstErr_all h
  exact ⟨by simpa using this 0 (by simp), by simpa using this 1 (by simp)⟩
end Go.Proofs.Ytgeknojpcjadkaa

namespace Go.Proofs.Ytgeknojpcjadkaa
open Go.Proofs Go.RowKit Go.Shelf Go.Maps

/-- What fit answers. -/
def FitAns (w w' : World) (e : Ending) : Option Asg → Prop
  | none => e = .returned (.tuple #[.map none, .bool false])
  | some m => ∃ bm N, e = .returned (.tuple #[.map (some bm), .bool true]) ∧ w.heap.size ≤ bm ∧ FitAt w.heap.size w' bm N m

end Go.Proofs.Ytgeknojpcjadkaa

namespace Go.Proofs.Ytgeknojpcjadkaa
open Go.Proofs Go.RowKit Go.Shelf Go.Maps

theorem newS_cell {base : Nat} {W : World} {g c : Nat} {ss : List (List Int)} (h : NewS base W (.slice (some ⟨g, 0, none⟩) 8 c) ss) (hl : ss.length = 8) {k : Nat} (hk : k < 8) :
    base ≤ g ∧ ∃ x, W.cell? ⟨g, k, none⟩ = some x ∧ W.frozen? ⟨g, k, none⟩ = false := by
  obtain ⟨us, h1, _⟩ := h
  rw [hl] at h1
  have hus : us.length = 8 := by have := h1.1; omega
  have c0 := World.ownsRow.cellAt h1 k (by omega)
  rw [List.getElem?_eq_getElem (by omega)] at c0
  exact ⟨(World.ownsRow.lt h1 g rfl).1, _, c0, World.ownsRow.frozenAt h1 k⟩

end Go.Proofs.Ytgeknojpcjadkaa

namespace Go.Proofs.Ytgeknojpcjadkaa
open Go.Proofs Go.RowKit Go.Shelf Go.Maps

abbrev ptr (X : Nat) : Value := .pointer (some ⟨X, 0, none⟩)
/-- v is a slice of the pointers to Xs, its cells in blocks from lo to hi. -/
def PartsAt (lo hi : Nat) (W : World) (v : Value) (Xs : List Nat) : Prop := ∃ a c, v = .slice a Xs.length c ∧ ∀ j, j < Xs.length → ∃ b off, a = some ⟨b, off, none⟩ ∧ lo ≤ b ∧ b < hi ∧ W.cell? ⟨b, off + j, none⟩ = some (ptr (Xs[j]?.getD 0))
/-- BLOCK X IS A TREE, all of it in blocks from lo to hi, whose signs are zs. -/
inductive TreeIn (lo hi : Nat) (W : World) : Nat → List Int → Prop
  | mk (X : Nat) (s : Int) (v : Value) (Xs : List Nat) (zss : List (List Int)) : lo ≤ X → X < hi → Node W X s v → PartsAt lo hi W v Xs → Xs.length = Tm.room s → zss.length = Xs.length →
      (∀ j, j < Xs.length → TreeIn lo hi W (Xs[j]?.getD 0) (zss[j]?.getD [])) → TreeIn lo hi W X (s :: zss.flatten)

theorem PartsAt.keep {lo hi lo' hi' : Nat} {W W' : World} {v : Value} {Xs : List Nat} (h : PartsAt lo hi W v Xs) (h1 : lo' ≤ lo) (h2 : hi ≤ hi') (hk : ∀ k, lo ≤ k → k < hi → W'.heap[k]? = W.heap[k]?) : PartsAt lo' hi' W' v Xs := by
  obtain ⟨a, c, rfl, hc⟩ := h
  refine ⟨a, c, rfl, fun j hj => ?_⟩
  obtain ⟨b, off, e, hb1, hb2, hcell⟩ := hc j hj
  exact ⟨b, off, e, by omega, by omega, (World.cell?_of_block (a := ⟨b, off + j, none⟩) (hk b hb1 hb2)).trans hcell⟩
theorem TreeIn.keep {lo hi lo' hi' : Nat} {W W' : World} {X : Nat} {zs : List Int} (h : TreeIn lo hi W X zs) (h1 : lo' ≤ lo) (h2 : hi ≤ hi') (hk : ∀ k, lo ≤ k → k < hi → W'.heap[k]? = W.heap[k]?) : TreeIn lo' hi' W' X zs := by
  induction h with
  | mk X s v Xs zss hX1 hX2 hN hP hr hl _ ih =>
    exact TreeIn.mk X s v Xs zss (by omega) (by omega) ((hk X hX1 hX2).trans hN) (hP.keep h1 h2 hk) hr hl ih
theorem TreeIn.under {lo hi n : Nat} {W W' : World} {X : Nat} {zs : List Int} (h : TreeIn lo hi W X zs) (hB : Below n W W') (hn : hi ≤ n) : TreeIn lo hi W' X zs :=
  h.keep (Nat.le_refl _) (Nat.le_refl _) fun k _ hk => hB.block k (by omega)
theorem TreeIn.wide {lo hi lo' hi' : Nat} {W : World} {X : Nat} {zs : List Int} (h : TreeIn lo hi W X zs) (h1 : lo' ≤ lo) (h2 : hi ≤ hi') : TreeIn lo' hi' W X zs := h.keep h1 h2 fun _ _ _ => rfl

/-- The first m parts, one behind the other. -/
theorem Tm.parts_flat {zs : List Int} {m : Nat} (hm : Tm.pos zs 0 (m + 1) ≤ zs.length) : (zs.take (Tm.pos zs 0 (m + 1))).drop 1 = (zs.take (Tm.pos zs 0 m)).drop 1 ++ (zs.drop (Tm.pos zs 0 m)).take (Tm.pos zs 0 (m + 1) - Tm.pos zs 0 m) := by
  have h1 := Tm.pos_mono zs 0 m (m + 1) (by omega)
  have h0 : 1 ≤ Tm.pos zs 0 m := Tm.pos_gt zs 0 m
  rw [show zs.take (Tm.pos zs 0 (m + 1)) = zs.take (Tm.pos zs 0 m) ++ (zs.drop (Tm.pos zs 0 m)).take (Tm.pos zs 0 (m + 1) - Tm.pos zs 0 m) from by
    rw [← List.take_add]; congr 1; omega]
  rw [List.drop_append_of_le_length]
  simp only [List.length_take]
  omega

/-- The state of grown's loop: m parts are there. -/
def GrownSt (base : Nat) (wr : World) (zs : List Int) (m : Nat) (v : Value) (xs : List Value) : Prop :=
  ∃ (Xs : List Nat) (zss : List (List Int)), Xs.length = m ∧ zss.length = m ∧ xs = Xs.map ptr ∧ zss.flatten = (zs.take (Tm.pos zs 0 m)).drop 1 ∧
    ∀ j, j < m → ∃ lo hi, base < lo ∧ hi ≤ wr.heap.size ∧ TreeIn lo hi wr (Xs[j]?.getD 0) (zss[j]?.getD []) ∧ ∀ k, v.ownBlock = some k → k < lo ∨ hi ≤ k
theorem GrownSt.start (base : Nat) (wr : World) (zs : List Int) (v : Value) (xs : List Value) (h : xs = []) : GrownSt base wr zs 0 v xs :=
  ⟨[], [], rfl, rfl, by rw [h]; rfl, by rw [Tm.pos_zero]; simp, fun j hj => by omega⟩
/-- One part more: made between sizes lo and hi; then appended. -/
theorem GrownSt.step {base lo hi : Nat} {wr w2 w3 : World} {zs pt : List Int} {m : Nat} {v v' : Value} {xs : List Value} {p : Nat} (h : GrownSt base wr zs m v xs) (hlo : lo = wr.heap.size) (hb : base < lo) (hlo2 : lo ≤ hi) (hB1 : ∀ k, k < lo → w2.heap[k]? = wr.heap[k]?)
    (hT : TreeIn lo hi w2 p pt) (hown : ∀ k, v.ownBlock = some k → k < lo) (hown' : v'.ownBlock = v.ownBlock ∨ ∃ q, v'.ownBlock = some q ∧ hi ≤ q) (hs3 : hi ≤ w3.heap.size)
    (hk : ∀ k, base < k → k < hi → (∀ q, v.ownBlock = some q → k ≠ q) → w3.heap[k]? = w2.heap[k]?)
    (hpt : pt = (zs.drop (Tm.pos zs 0 m)).take (Tm.pos zs 0 (m + 1) - Tm.pos zs 0 m)) (hle : Tm.pos zs 0 (m + 1) ≤ zs.length) : GrownSt base w3 zs (m + 1) v' (xs ++ [ptr p]) := by
  obtain ⟨Xs, zss, h1, h2, h3, h4, h5⟩ := h
  refine ⟨Xs ++ [p], zss ++ [pt], by simp [h1], by simp [h2], by simp [h3], by rw [List.flatten_append, h4, Tm.parts_flat hle, hpt]; simp, fun j hj => ?_⟩
  by_cases hjm : j < m
  · obtain ⟨l, h, e1, e2, hTj, e3⟩ := h5 j hjm
    refine ⟨l, h, e1, by omega, ?_, ?_⟩
    · rw [List.getElem?_append_left (by omega), List.getElem?_append_left (by omega)]
      refine hTj.keep (Nat.le_refl _) (Nat.le_refl _) fun k hk1 hk2 => ?_
      rw [hk k (by omega) (by omega) (fun q hq => by have := e3 q hq; omega), hB1 k (by omega)]
    · intro k hk'
      rcases hown' with e | ⟨q, e, hq⟩
      · exact e3 k (by rw [← e]; exact hk')
      · rw [e] at hk'
        have : q = k := by simpa using hk'
        exact .inr (by omega)
  · obtain rfl : j = m := by omega
    refine ⟨lo, hi, hb, hs3, ?_, ?_⟩
    · rw [List.getElem?_append_right (by omega), List.getElem?_append_right (by omega), h1, h2]
      simp only [Nat.sub_self, List.getElem?_cons_zero, Option.getD_some]
      refine hT.keep (Nat.le_refl _) (Nat.le_refl _) fun k hk1 hk2 => hk k (by omega) hk2 (fun q hq => by have := hown q hq; omega)
    · intro k hk'
      rcases hown' with e | ⟨q, e, hq⟩
      · exact .inl (hown k (by rw [← e]; exact hk'))
      · rw [e] at hk'
        have : q = k := by simpa using hk'
        exact .inr (by omega)
/-- All parts are there. -/
theorem GrownSt.done {base r : Nat} {wr : World} {zs : List Int} {s : Int} {v : Value} {xs : List Value} (h : GrownSt base wr zs r v xs) (hN : Node wr base s v) (hown : wr.ownsRow (base + 1) 161 1 v r xs) (hr : r = Tm.room s) (hs : zs[0]?.getD 0 = s) (h0 : 0 < zs.length) :
    TreeIn base wr.heap.size wr base (zs.take (Tm.pos zs 0 r)) := by
  obtain ⟨Xs, zss, h1, h2, h3, h4, h5⟩ := h
  have hz : zs.take (Tm.pos zs 0 r) = s :: zss.flatten := by
    rw [h4]
    have hp : 0 < Tm.pos zs 0 r := Tm.pos_gt zs 0 r
    cases zs with
    | nil => simp at h0
    | cons a l =>
      simp at hs
      subst hs
      obtain ⟨q, hq⟩ : ∃ q, Tm.pos (a :: l) 0 r = q + 1 := ⟨Tm.pos (a :: l) 0 r - 1, by omega⟩
      rw [hq]
      simp
  rw [hz]
  refine TreeIn.mk base s v Xs zss (Nat.le_refl _) hN.lt hN ?_ (by omega) (by omega) (fun j hj => ?_)
  · rcases hown.2 with ⟨rfl, hn⟩ | ⟨g, cap, cur, rfl, hb, hg, _⟩
    · exact ⟨none, 0, by rw [h1, hn], fun j hj => by omega⟩
    · refine ⟨_, cap, by rw [h1], fun j hj => ⟨g, 0, rfl, by omega, (Array.getElem?_eq_some_iff.1 hg).1, ?_⟩⟩
      have h5 := World.ownsRow.cellAt hown j (by omega)
      rw [Nat.zero_add, h5, h3]
      simp [hj]
  · obtain ⟨lo, hi, e1, e2, hT, _⟩ := h5 j (by omega)
    exact hT.wide (by omega) e2

end Go.Proofs.Ytgeknojpcjadkaa

namespace Go.Proofs.Ytgeknojpcjadkaa
open Go.Proofs Go.RowKit Go.Shelf Go.Maps

set_option maxRecDepth 100000 in
set_option maxHeartbeats 1000000 in
theorem growT_step (zs : List Int) (a : Option Addr) (cap : Nat) (w : World) (hlen : zs.length ≤ 30) (h0 : 0 < zs.length) (hall : zs.all Tm.known = true) (hrun : Tm.run zs 1 ≤ zs.length) (hcap : zs.length ≤ cap) (hcap2 : cap ≤ maxLen)
    (hI : Ints w.heap.size w a zs)
    (ih : ∀ (e : Nat) (a' : Option Addr) (cap' : Nat) (W : World), 0 < e → e < zs.length → Tm.run (zs.drop e) 1 ≤ zs.length - e → zs.length - e ≤ cap' → cap' ≤ maxLen → Ints W.heap.size W a' (zs.drop e) →
      Calls Try.prog 135 #[.slice a' (zs.length - e) cap'] W fun r w' => ∃ a2 c2, r = .returned (.tuple #[ptr W.heap.size, .slice a2 (zs.length - Tm.endAt zs e) c2]) ∧ Below W.heap.size W w' ∧ (∀ n X, Ints n X a' (zs.drop e) → Ints n X a2 (zs.drop (Tm.endAt zs e))) ∧ zs.length - Tm.endAt zs e ≤ c2 ∧ c2 ≤ maxLen ∧ TreeIn W.heap.size w'.heap.size w' W.heap.size ((zs.drop e).take (Tm.endAt zs e - e))) :
    Calls Try.prog 135 #[.slice a zs.length cap] w fun r w' => ∃ a2 c2, r = .returned (.tuple #[ptr w.heap.size, .slice a2 (zs.length - Tm.run zs 1) c2]) ∧ Below w.heap.size w w' ∧ (∀ n X, Ints n X a zs → Ints n X a2 (zs.drop (Tm.run zs 1))) ∧ zs.length - Tm.run zs 1 ≤ c2 ∧ c2 ≤ maxLen ∧ TreeIn w.heap.size w'.heap.size w' w.heap.size (zs.take (Tm.run zs 1)) := by
  have hcap3 : cap ≤ 9223372036854775807 := hcap2
  obtain ⟨b, off, rfl, hb, hc⟩ := hI.at h0
  have hc0 := hc 0 h0
  rw [Nat.add_zero] at hc0
  have h1 : (0 : Int) < (zs.length : Int) := by omega
  have h30 : (zs.length : Int) ≤ 30 := by omega
  have h2 : (zs.length : Int) ≤ (cap : Int) := by omega
  have hend := Tm.endAt_in zs 0 h0
  rw [Tm.endAt_zero] at hend
  rw [hend] at hrun ⊢
  have hs6 := Tm.known_lt (Tm.all_at hall h0)
  have hr2 := Tm.room_le (zs[0]?.getD 0)
  have hI' := show Hid _ from hI
  have ih' := show Hid _ from ih
  clear hc hI hend hall ih
  have Hs0 : Hid (zs[0]?.getD 0 = zs[0]?.getD 0) := rfl
  generalize hsd : zs[0]?.getD 0 = s at hc0 hrun hs6 hr2 ⊢
  have HS := hid hsd
  clear hsd Hs0
  have hsz : ∀ W, Calls Try.prog 47 #[.int .i64 s] W fun e w' => e = .returned (.int .i64 (Tm.room s : Int)) ∧ w' = W := fun W => size_any s W hs6
  clear hs6
  generalize hrd : Tm.room s = r at hrun hr2 hsz ⊢
  have HR := hid hrd.symm
  clear hrd
  obtain ⟨i0, hi, hz0, hz1, hz2⟩ := info_parts Try.info161
  have hNode : Node (w.alloc (.cells #[.int .i64 s, .slice none 0 0] 165)) w.heap.size s (.slice none 0 0) := World.alloc_heap_new w _
  have hB0 : Below w.heap.size w (w.alloc (.cells #[.int .i64 s, .slice none 0 0] 165)) := (Below.refl _ w).alloc (Nat.le_refl _) _
  have hs0 : w.heap.size < (w.alloc (.cells #[.int .i64 s, .slice none 0 0] 165)).heap.size := by simp
  obtain ⟨W0, hW0⟩ : ∃ W0, w.alloc (.cells #[.int .i64 s, .slice none 0 0] 165) = W0 := ⟨_, rfl⟩
  rw [hW0] at hNode hB0 hs0
  have HW0 : Hid (w.alloc (.cells #[.int .i64 s, .slice none 0 0] 165) = W0) := hW0
  clear hW0
  by_cases hc1 : cap = 1
  · subst hc1
    have hl1 : zs.length = 1 := by omega
    have hr0 : r = 0 := by have := Tm.pos_mono zs 0 1 r; have h := Tm.pos_succ zs 0 0; rw [Nat.zero_add] at h; have := Tm.endAt_gt zs (Tm.pos zs 0 0); have := Tm.pos_zero zs 0; omega
    subst hr0
    have HT := hid ((GrownSt.start w.heap.size W0 zs (.slice none 0 0) [] rfl).done hNode (World.ownsRow_nil _ _ _ _) HR.out HS.out h0)
    rw [Tm.pos_zero] at HT ⊢
    go_enter Try.func135, Try.ntmps135
    go_wp2
    rw [HW0.out]
    have hn0 := hNode.cell0
    have HN := show Hid _ from hNode
    clear hNode hl1
    refine wp_loop_rounds 1 ?_
    rw [rounds_succ]
    go_wp2_with (go_at_call 47; refine (hsz _).mono ?_; rintro e wr ⟨rfl, rfl⟩)
    go_ret2
    refine ⟨some ⟨b, off, none⟩, 0, ?_, hB0, fun n X hX => by rw [List.drop_of_length_le (by omega)]; exact Ints.nil _ _ _, by omega, by unfold maxLen; omega, HT.out⟩
    rw [show zs.length - (0 + 1) = 0 from by omega]; rfl
  · have Hc1 : Hid (¬ cap = 1) := hc1
    go_enter Try.func135, Try.ntmps135
    go_wp2
    rw [HW0.out]
    go_loopw [5, 6] (fun q i wr => ∃ (m : Nat) (a' : Option Addr) (c' : Nat) (v : Value) (xs : List Value), m ≤ r ∧ i = .int .i64 (m : Int) ∧ q = .slice a' (zs.length - Tm.pos zs 0 m) c' ∧ Hid (∀ n X, Ints n X (some ⟨b, off, none⟩) zs → Ints n X a' (zs.drop (Tm.pos zs 0 m))) ∧ zs.length - Tm.pos zs 0 m ≤ c' ∧ c' ≤ maxLen ∧
        Node wr w.heap.size s v ∧ wr.ownsRow (w.heap.size + 1) 161 1 v m xs ∧ Below w.heap.size w wr ∧ Hid (GrownSt w.heap.size wr zs m v xs)) (fun _ i _ => r - (intOf i).toNat)
    case atStart => exact ⟨0, _, _, _, [], Nat.zero_le _, rfl, by rw [Tm.pos_zero], fun n X hX => by rw [Tm.pos_zero]; exact hX.drop 1, by rw [Tm.pos_zero]; omega, by unfold maxLen; omega, hNode, World.ownsRow_nil _ _ _ _, hB0, GrownSt.start _ _ _ _ _ rfl⟩
    case round =>
      obtain ⟨m, a', c', v, xs, hm, rfl, rfl, hIa, hca, hca2, hN, hown, hB, hSt⟩ := hrel
      have hn0 := hN.cell0
      by_cases hlt : m < r
      · have hlt' : (m : Int) < (r : Int) := by omega
        have hp1 := Tm.pos_gt zs 0 m
        have hp2 := Tm.pos_succ zs 0 m
        have hp3 := Tm.pos_mono zs 0 (m + 1) r (by omega)
        have hp4 := Tm.endAt_gt zs (Tm.pos zs 0 m)
        have hg := ih'.out (Tm.pos zs 0 m) a' c' wr hp1 (by omega) (by unfold Tm.endAt at hp2; omega) hca hca2 ((hIa.out _ _ (Ints.below hB hI'.out)).mono hB.size)
        rw [← hp2] at hg
        have hX := hN.lt
        have hca3 : c' ≤ 9223372036854775807 := hca2
        have Hp3 := show Hid _ from hp3
        have Hle : Hid (Tm.pos zs 0 (m + 1) ≤ zs.length) := by show _ ≤ _; omega
        clear hp1 hp2 hp3 hp4 hca2 hNode hB0 hcap2
        go_wp2_with (first
          | (go_at_call 47; refine (hsz _).mono ?_; rintro e wr ⟨rfl, rfl⟩)
          | (go_at_call 135; refine hg.mono ?_; clear hg; rintro e W1 ⟨a2, c2, rfl, hB1, hI2, hc2, hc22, hT1⟩; have hN1 := hN.kept (grown_of_below hB1) (by simp); have hown1 := hown.kept (grown_of_below hB1) (by cases h : v.ownBlock with | none => exact .inl rfl | some k => exact .inr (by simp)); obtain ⟨ao, co, rfl⟩ := own_form hown1; have hn1 := hN1.cell1; have hf1 := hN1.frozen; have HI2 := show Hid _ from hI2; clear hI2; have Hc22 := show Hid _ from hc22; clear hc22; have HT1 := hid hT1; clear hT1)
          | (at_builtin; go_loud (refine wpList_append_own_at _ rfl _ _ 157 rfl (w.heap.size + 1) 161 i0 (.pointer none) 1 8 Try.underlying157 hi hz0 hz1 hz2 rfl (by decide) _ _ _ rfl (hown1.alloc _) ⟨W1.heap.size, 0, none⟩ 1 1 [ptr wr.heap.size] rfl rfl (cell_one_new _ _ _) (by simp [Value.oneCell', ptr]) (by unfold maxLen; omega) (by omega) (by have := hB1.size; simp; omega) ?_); intro v' w2 hown' hgrow _ hat; obtain ⟨g', cap', rfl⟩ := ownsRow_succ hown'; have R := hN1.appended hown1 hown' hgrow; have hn2 := R.1.cell1; have hf2 := R.1.frozen; have HR2 := show Hid _ from R; have Hg := hid hgrow; have Hat := hid hat; clear R hown' hgrow hat))
        refine ⟨⟨m + 1, a2, c2, _, _, by omega, by go_num, rfl, fun n X hX => HI2.out n X (hIa.out n X hX), hc2, Hc22.out, HR2.out.2.1, HR2.out.2.2.1, (hB.trans (hB1.mono hB.size)).trans HR2.out.2.2.2, ?_⟩, by simp [intOf]; omega⟩
        have hs1 := hB1.size
        have hs2 := Hg.out.size
        have ho : ∀ k, (Value.slice ao m co).ownBlock = some k → w.heap.size < k ∧ k < wr.heap.size := fun k hk => by have := hown.lt k hk; omega
        refine GrownSt.step hSt.out rfl hX hs1 (fun k hk => hB1.block k hk) HT1.out (fun k hk => (ho k hk).2) ?_ ?_ ?_ rfl Hle.out
        · rcases Hat.out with e | e
          · exact .inl e
          · exact .inr ⟨_, e, by simp⟩
        · have hs3 := (KeepsWalks.setCell w2 ⟨w.heap.size, 1, none⟩ (Value.slice (some ⟨g', 0, none⟩) (m + 1) cap')).size; simp at hs2; omega
        · intro k hk1 hk2 hk3
          rw [Below.heap_setCell _ _ _ _ (by simp; omega), Hg.out.block k (by simp; omega) (fun e => hk3 k e.symm rfl), Below.heap_alloc _ _ _ hk2]
      · obtain rfl : m = r := by omega
        have HT := hid (hSt.out.done hN hown HR.out HS.out h0)
        go_wp2_with (go_at_call 47; refine (hsz _).mono ?_; rintro e wr ⟨rfl, rfl⟩)
        go_ret2
        exact ⟨_, _, rfl, hB, hIa, hca, hca2, HT.out⟩

/-- haspref.grown. -/
theorem growT_any : ∀ (m : Nat) (zs : List Int) (a : Option Addr) (cap : Nat) (w : World), zs.length ≤ m → zs.length ≤ 30 → 0 < zs.length → zs.all Tm.known = true → Tm.run zs 1 ≤ zs.length → zs.length ≤ cap → cap ≤ maxLen → Ints w.heap.size w a zs →
    Calls Try.prog 135 #[.slice a zs.length cap] w fun r w' => ∃ a2 c2, r = .returned (.tuple #[ptr w.heap.size, .slice a2 (zs.length - Tm.run zs 1) c2]) ∧ Below w.heap.size w w' ∧ (∀ n X, Ints n X a zs → Ints n X a2 (zs.drop (Tm.run zs 1))) ∧ zs.length - Tm.run zs 1 ≤ c2 ∧ c2 ≤ maxLen ∧ TreeIn w.heap.size w'.heap.size w' w.heap.size (zs.take (Tm.run zs 1)) := by
  intro m
  induction m with
  | zero => intro zs a cap w h1 _ h2; omega
  | succ m ih =>
    intro zs a cap w hm h30 h0 hall hrun hcap hcap2 hI
    refine growT_step zs a cap w h30 h0 hall hrun hcap hcap2 hI ?_
    intro e a' cap' W he1 he2 hr hc hc2 hIe
    have h := ih (zs.drop e) a' cap' W (by rw [List.length_drop]; omega) (by rw [List.length_drop]; omega) (by rw [List.length_drop]; omega)
      (by rw [List.all_eq_true] at hall ⊢; exact fun x hx => hall x (List.mem_of_mem_drop hx)) (by rw [List.length_drop]; exact hr) (by rw [List.length_drop]; exact hc) hc2 hIe
    simp only [List.length_drop, List.drop_drop] at h
    rw [Tm.endAt_drop, show zs.length - (e + Tm.run (zs.drop e) 1) = zs.length - e - Tm.run (zs.drop e) 1 from by omega, show e + Tm.run (zs.drop e) 1 - e = Tm.run (zs.drop e) 1 from by omega]
    exact h

set_option maxRecDepth 100000 in
/-- haspref.treeOf. -/
theorem treeOf_any (zs : List Int) (a : Option Addr) (cap : Nat) (w : World) (he : Tm.err zs = 0) (hcap : zs.length ≤ cap) (hcap2 : cap ≤ maxLen) (hI : Ints w.heap.size w a zs) :
    Calls Try.prog 105 #[.slice a zs.length cap] w fun r w' => r = .returned (ptr w.heap.size) ∧ Below w.heap.size w w' ∧ TreeIn w.heap.size w'.heap.size w' w.heap.size zs := by
  have hr := Tm.err_run he
  have hg := growT_any _ zs a cap w (Nat.le_refl _) (Tm.err_len he) (Tm.err_pos he) (Tm.err_all he) (by omega) hcap hcap2 hI
  rw [hr, List.take_length] at hg
  clear hI hr he
  go_enter Try.func105, Try.ntmps105
  go_wp2_with (go_at_call 135; refine hg.mono ?_; clear hg; rintro e w1 ⟨a2, c2, rfl, hB, _, _, _, hT⟩)
  go_ret
  exact ⟨rfl, hB, hT⟩

end Go.Proofs.Ytgeknojpcjadkaa

namespace Go.Proofs.Ytgeknojpcjadkaa
open Go.Proofs Go.RowKit Go.Shelf Go.Maps

theorem flatten_snoc {zss : List (List Int)} {k : Nat} (hk : k < zss.length) : (zss.take (k + 1)).flatten = (zss.take k).flatten ++ (zss[k]?.getD []) := by
  rw [takeS_snoc hk, List.flatten_append]; simp
theorem flatten_le {zss : List (List Int)} {k : Nat} (hk : k < zss.length) : (zss.take k).flatten.length + (zss[k]?.getD []).length ≤ zss.flatten.length := by
  have h1 : zss.flatten.length = ((zss.take (k + 1)) ++ zss.drop (k + 1)).flatten.length := by rw [List.take_append_drop]
  rw [h1, List.flatten_append, List.length_append, flatten_snoc hk, List.length_append]
  omega
theorem flatten_take_le {zss : List (List Int)} (k : Nat) : (zss.take k).flatten.length ≤ zss.flatten.length := by
  have h1 : zss.flatten.length = ((zss.take k) ++ zss.drop k).flatten.length := by rw [List.take_append_drop]
  rw [h1, List.flatten_append, List.length_append]
  omega

end Go.Proofs.Ytgeknojpcjadkaa

namespace Go.Proofs.Ytgeknojpcjadkaa
open Go.Proofs Go.RowKit Go.Shelf Go.Maps

theorem Tm.run_flatten (zss : List (List Int)) : (∀ j, j < zss.length → Tm.run (zss[j]?.getD []) 1 = (zss[j]?.getD []).length) → Tm.run zss.flatten zss.length = zss.flatten.length := by
  induction zss with
  | nil => intro _; simp [Tm.run_zero]
  | cons t l ih =>
    intro h
    have h0 : Tm.run t 1 = t.length := by simpa using h 0 (by simp)
    have hl := ih (fun j hj => by simpa using h (j + 1) (by simpa using hj))
    rw [List.length_cons, Nat.add_comm, Tm.run_add, List.flatten_cons, Tm.run_app t _ 1 (by omega), h0, List.drop_left, hl, List.length_append]
theorem TreeIn.run {lo hi : Nat} {W : World} {X : Nat} {zs : List Int} (h : TreeIn lo hi W X zs) : Tm.run zs 1 = zs.length := by
  induction h with
  | mk X s v Xs zss _ _ _ _ hr hl _ ih =>
    rw [show (1 : Nat) = 0 + 1 from rfl, Tm.run_cons, Nat.zero_add, ← hr, ← hl, Tm.run_flatten zss (fun j hj => ih j (by omega)), List.length_cons]
    omega

theorem Tm.endAt_mid {pre t post : List Int} {k : Nat} (hk : k ≤ t.length) (he : Tm.endAt t k ≤ t.length) : Tm.endAt (pre ++ (t ++ post)) (pre.length + k) = pre.length + Tm.endAt t k := by
  unfold Tm.endAt at he ⊢
  rw [List.drop_append, List.drop_of_length_le (by omega), List.nil_append, Nat.add_sub_cancel_left, List.drop_append_of_le_length hk, Tm.run_app _ _ _ (by rw [List.length_drop]; omega)]
  omega
theorem Tm.part_mid {pre t post : List Int} {k : Nat} (hk : k ≤ t.length) (he : Tm.endAt t k ≤ t.length) : Tm.part (pre ++ (t ++ post)) (pre.length + k) = Tm.part t k := by
  unfold Tm.part
  rw [Tm.endAt_mid hk he, List.drop_append, List.drop_of_length_le (by omega), List.nil_append, Nat.add_sub_cancel_left, List.drop_append_of_le_length hk, show pre.length + Tm.endAt t k - (pre.length + k) = Tm.endAt t k - k from by omega,
    List.take_append_of_le_length (by rw [List.length_drop]; omega)]
theorem Against.fin {p t : List Int} {k : Nat} (h : Against p t p.length k) : k = t.length := by
  obtain ⟨o, h1, h2, h3, h4⟩ := h
  rw [List.drop_length, Tm.run_nil] at h1
  have : o = 0 := by omega
  subst this
  rw [Tm.run_zero] at h2
  omega
theorem drop_flatten {zss : List (List Int)} {j : Nat} (hj : j < zss.length) : (zss.drop j).flatten = zss[j]?.getD [] ++ (zss.drop (j + 1)).flatten := by
  rw [List.drop_eq_getElem_cons hj, List.flatten_cons]
  simp [hj]
theorem split_flatten {zss : List (List Int)} {j : Nat} (hj : j < zss.length) : zss.flatten = (zss.take j).flatten ++ (zss[j]?.getD [] ++ (zss.drop (j + 1)).flatten) := by
  rw [← drop_flatten hj, ← List.flatten_append, List.take_append_drop]
theorem Tm.part_all0 {ts : List Int} (h : Tm.run ts 1 = ts.length) : Tm.part ts 0 = ts := by
  unfold Tm.part Tm.endAt
  rw [List.drop_zero, h, Nat.zero_add, Nat.sub_zero, List.take_length]

/-- What the array of trees says. -/
def FitS (W : World) (Bs lo hi : Nat) (m : Asg) : Prop := ∀ v : Nat, v < 8 → W.frozen? ⟨Bs, v, none⟩ = false ∧
  ((m (-1 - (v : Int)) = none ∧ W.cell? ⟨Bs, v, none⟩ = some (.pointer none)) ∨ ∃ zs X, m (-1 - (v : Int)) = some zs ∧ W.cell? ⟨Bs, v, none⟩ = some (ptr X) ∧ TreeIn lo hi W X zs ∧ zs.length ≤ 30)
theorem FitS.keep {W W' : World} {Bs lo hi n : Nat} {m : Asg} (h : FitS W Bs lo hi m) (hB : Below n W W') (h1 : Bs < n) (h2 : hi ≤ n) : FitS W' Bs lo hi m := fun v hv => by
  obtain ⟨hf, hc⟩ := h v hv
  refine ⟨by rw [← hf]; simp only [World.frozen?, hB.block Bs h1], ?_⟩
  rcases hc with ⟨e1, e2⟩ | ⟨zs, X, e1, e2, hT, e3⟩
  · exact .inl ⟨e1, (hB.cell (p := ⟨Bs, v, none⟩) h1).trans e2⟩
  · exact .inr ⟨zs, X, e1, (hB.cell (p := ⟨Bs, v, none⟩) h1).trans e2, hT.under hB h2, e3⟩
theorem frozen_setCell' (W : World) (a b : Addr) (v : Value) : (W.setCell a v).frozen? b = W.frozen? b := World.frozen?_setCell ..
theorem FitS.set {W : World} {Bs lo hi T v : Nat} {m : Asg} {ts : List Int} (h : FitS W Bs lo hi m) (hv : v < 8) (hlo : Bs < lo) (hT : TreeIn lo hi W T ts) (ht : ts.length ≤ 30) :
    FitS (W.setCell ⟨Bs, v, none⟩ (ptr T)) Bs lo hi (upd m (-1 - (v : Int)) ts) := fun x hx => by
  have hk : ∀ k, lo ≤ k → k < hi → (W.setCell ⟨Bs, v, none⟩ (ptr T)).heap[k]? = W.heap[k]? := fun k h1 _ => Below.heap_setCell _ _ _ k (by simp; omega)
  obtain ⟨hf, hc⟩ := h x hx
  refine ⟨by rw [frozen_setCell']; exact hf, ?_⟩
  by_cases e : x = v
  · subst e
    refine .inr ⟨ts, T, upd_same _ _ _, World.cell?_setCell_same' _ _ _ ?_, hT.keep (Nat.le_refl _) (Nat.le_refl _) hk, ht⟩
    rcases hc with ⟨_, e2⟩ | ⟨_, _, _, e2, _⟩ <;> rw [e2] <;> rfl
  · have hne : (-1 - (x : Int)) ≠ (-1 - (v : Int)) := by omega
    have hcc : (W.setCell ⟨Bs, v, none⟩ (ptr T)).cell? ⟨Bs, x, none⟩ = W.cell? ⟨Bs, x, none⟩ := World.cell?_setCell_other _ _ _ _ (fun h => e (by cases h; rfl))
    rw [upd_other _ _ hne, hcc]
    rcases hc with ⟨e1, e2⟩ | ⟨zs, X, e1, e2, hT', e3⟩
    · exact .inl ⟨e1, e2⟩
    · exact .inr ⟨zs, X, e1, e2, hT'.keep (Nat.le_refl _) (Nat.le_refl _) hk, e3⟩

end Go.Proofs.Ytgeknojpcjadkaa

namespace Go.Proofs.Ytgeknojpcjadkaa
open Go.Proofs Go.RowKit Go.Shelf

/-- The first sign of a term; its part m. -/
def Tm.sym (x : List Int) : Int := x[0]?.getD 0
def Tm.kid (x : List Int) (m : Nat) : List Int := Tm.part x (Tm.pos x 0 m)

theorem Tm.kid_short {x : List Int} {m : Nat} (h : m < Tm.room (Tm.sym x)) : (Tm.kid x m).length < x.length := by
  cases x with
  | nil => simp [Tm.sym, Tm.room] at h
  | cons s l =>
    have := Tm.pos_gt (s :: l) 0 m
    simp only [Tm.kid, Tm.part, List.length_take, List.length_drop, List.length_cons]
    omega

/-- E2. -/
inductive Tm.Gt (r : Int → Int) : List Int → List Int → Prop
  | eq (a b : List Int) (m : Nat) : m < Tm.room (Tm.sym a) → Tm.kid a m = b → Tm.Gt r a b
  | sub (a b : List Int) (m : Nat) : m < Tm.room (Tm.sym a) → Tm.Gt r (Tm.kid a m) b → Tm.Gt r a b
  | rk (a b : List Int) : 0 ≤ Tm.sym a → 0 ≤ Tm.sym b → (∀ m, m < Tm.room (Tm.sym b) → Tm.Gt r a (Tm.kid b m)) → Tm.sym a ≠ Tm.sym b → r (Tm.sym b) < r (Tm.sym a) → Tm.Gt r a b
  | lex (a b : List Int) (m : Nat) : 0 ≤ Tm.sym a → Tm.sym a = Tm.sym b → (∀ m, m < Tm.room (Tm.sym b) → Tm.Gt r a (Tm.kid b m)) → m < Tm.room (Tm.sym a) → (∀ l, l < m → Tm.kid a l = Tm.kid b l) → Tm.Gt r (Tm.kid a m) (Tm.kid b m) → Tm.Gt r a b

theorem Tm.Gt.pos {r : Int → Int} {a b : List Int} (h : Tm.Gt r a b) : 0 ≤ Tm.sym a := by
  have key : ∀ m, m < Tm.room (Tm.sym a) → 0 ≤ Tm.sym a := fun m hm => by unfold Tm.room at hm; split at hm <;> (try split at hm) <;> omega
  cases h with
  | eq _ _ m hm _ => exact key m hm
  | sub _ _ m hm _ => exact key m hm
  | rk _ _ h0 _ _ _ _ => exact h0
  | lex _ _ _ h0 _ _ _ _ _ => exact h0

theorem Tm.Gt.trans_n {r : Int → Int} : ∀ (n : Nat) (a b c : List Int), a.length + b.length + c.length < n → Tm.Gt r a b → Tm.Gt r b c → Tm.Gt r a c := by
  intro n
  induction n with
  | zero => intro a b c hn; omega
  | succ n ih =>
    intro a b c hn hab hbc
    have main : (∀ m, m < Tm.room (Tm.sym b) → Tm.Gt r a (Tm.kid b m)) → 0 ≤ Tm.sym a → ((Tm.sym a ≠ Tm.sym b ∧ r (Tm.sym b) < r (Tm.sym a)) ∨ (Tm.sym a = Tm.sym b ∧ ∃ m, m < Tm.room (Tm.sym a) ∧ (∀ l, l < m → Tm.kid a l = Tm.kid b l) ∧ Tm.Gt r (Tm.kid a m) (Tm.kid b m))) → Tm.Gt r a c := by
      intro hall ha0 how
      cases hbc with
      | eq _ _ m hm e => rw [← e]; exact hall m hm
      | sub _ _ m hm h => exact ih a (Tm.kid b m) c (by have := Tm.kid_short hm; omega) (hall m hm) h
      | rk _ _ hb0 hc0 hcs hne hr =>
        have hall2 : ∀ m, m < Tm.room (Tm.sym c) → Tm.Gt r a (Tm.kid c m) := fun m hm => ih a b (Tm.kid c m) (by have := Tm.kid_short hm; omega) hab (hcs m hm)
        rcases how with ⟨h1, h2⟩ | ⟨h1, _⟩
        · refine .rk a c ha0 hc0 hall2 (fun e => ?_) (by omega)
          rw [e] at h2; omega
        · exact .rk a c ha0 hc0 hall2 (by rw [h1]; exact hne) (by rw [h1]; exact hr)
      | lex _ _ m hb0 hs hcs hm hl hk =>
        have hall2 : ∀ m, m < Tm.room (Tm.sym c) → Tm.Gt r a (Tm.kid c m) := fun m hm => ih a b (Tm.kid c m) (by have := Tm.kid_short hm; omega) hab (hcs m hm)
        rcases how with ⟨h1, h2⟩ | ⟨h1, m', hm', hl', hk'⟩
        · exact .rk a c ha0 (by omega) hall2 (by rw [← hs]; exact h1) (by rw [← hs]; exact h2)
        · rcases Nat.lt_trichotomy m m' with hlt | heq | hgt
          · exact .lex a c m ha0 (h1.trans hs) hall2 (by omega) (fun l hlm => (hl' l (by omega)).trans (hl l hlm)) (by rw [hl' m hlt]; exact hk)
          · subst heq
            refine .lex a c m ha0 (h1.trans hs) hall2 hm' (fun l hlm => (hl' l hlm).trans (hl l hlm)) (ih _ _ _ ?_ hk' hk)
            have e1 := Tm.kid_short (x := a) hm'
            have e2 := Tm.kid_short (x := b) hm
            have e3 := Tm.kid_short (x := c) (m := m) (by rw [← hs]; exact hm)
            omega
          · exact .lex a c m' ha0 (h1.trans hs) hall2 hm' (fun l hlm => (hl' l hlm).trans (hl l (by omega))) (by rw [← hl m' hgt]; exact hk')
    cases hab with
    | eq _ _ m hm e => exact .sub a c m hm (by rw [e]; exact hbc)
    | sub _ _ m hm h => exact .sub a c m hm (ih _ b c (by have := Tm.kid_short hm; omega) h hbc)
    | rk _ _ ha0 hb0 hall hne hr => exact main hall ha0 (.inl ⟨hne, hr⟩)
    | lex _ _ m ha0 hs hall hm hl hk => exact main hall ha0 (.inr ⟨hs, m, hm, hl, hk⟩)
theorem Tm.Gt.trans {r : Int → Int} {a b c : List Int} (h : Tm.Gt r a b) (h' : Tm.Gt r b c) : Tm.Gt r a c := Tm.Gt.trans_n _ a b c (Nat.lt_succ_self _) h h'

theorem Tm.Gt.irrefl {r : Int → Int} : ∀ (n : Nat) (a : List Int), a.length < n → ¬ Tm.Gt r a a := by
  intro n
  induction n with
  | zero => intro a h; omega
  | succ n ih =>
    intro a hn h
    cases h with
    | eq _ _ m hm e => have := Tm.kid_short hm; rw [e] at this; omega
    | sub _ _ m hm h => exact ih (Tm.kid a m) (by have := Tm.kid_short hm; omega) (h.trans (.eq a _ m hm rfl))
    | rk _ _ _ _ _ hne _ => exact hne rfl
    | lex _ _ m _ _ _ hm _ hk => exact ih (Tm.kid a m) (by have := Tm.kid_short hm; omega) hk
end Go.Proofs.Ytgeknojpcjadkaa

namespace Go.Proofs.Ytgeknojpcjadkaa
open Go.Proofs Go.RowKit Go.Shelf Go.Maps

/-- What fit answers. -/
def RefFit (w' : World) (e : Ending) (Bs lo hi : Nat) : Option Asg → Prop
  | none => e = .returned (.bool false)
  | some m => e = .returned (.bool true) ∧ FitS w' Bs lo hi m

theorem Keep.cell {n m : Nat} {a b : World} (h : Keep n m a b) {p : Addr} (h1 : p.block < n) (h2 : p.block ≠ m) : b.cell? p = a.cell? p := World.cell?_of_block (h.block p.block h1 h2)
theorem keep_drewN {n m : Nat} {a b : World} (h : Keep n m a b) (d : Nat) : Keep n m a (b.drewN d) := ⟨h.os, h.tape, h.output, h.size, h.block⟩

theorem TreeIn.open {lo hi : Nat} {W : World} {X : Nat} {zs : List Int} (h : TreeIn lo hi W X zs) : ∃ (s : Int) (a : Option Addr) (c : Nat) (Xs : List Nat) (zss : List (List Int)), zs = s :: zss.flatten ∧ lo ≤ X ∧ X < hi ∧ Node W X s (.slice a Xs.length c) ∧ Xs.length = Tm.room s ∧ zss.length = Xs.length ∧
    (∀ j, j < Xs.length → ∃ b off, a = some ⟨b, off, none⟩ ∧ lo ≤ b ∧ b < hi ∧ W.cell? ⟨b, off + j, none⟩ = some (ptr (Xs[j]?.getD 0))) ∧ ∀ j, j < Xs.length → TreeIn lo hi W (Xs[j]?.getD 0) (zss[j]?.getD []) := by
  cases h with
  | mk X s v Xs zss h1 h2 h3 h4 h5 h6 h7 =>
    obtain ⟨a, c, rfl, h8⟩ := h4
    exact ⟨s, a, c, Xs, zss, rfl, h1, h2, h3, h5, h6, h8, h7⟩

end Go.Proofs.Ytgeknojpcjadkaa

namespace Go.Proofs.Ytgeknojpcjadkaa
open Go.Proofs Go.RowKit Go.Shelf Go.Maps

set_option maxRecDepth 100000 in
set_option maxHeartbeats 400000 in
theorem twoErrors_any (p t : List Int) (ap at' : Option Addr) (cp ct : Nat) (w : World) (hP : Ints w.heap.size w ap p) (hT : Ints w.heap.size w at' t) :
    Calls Try.prog 41 #[.slice ap p.length cp, .slice at' t.length ct] w fun e w' => e = .returned (.int .i64 (Tm.fitErr p t)) ∧ w' = w := by
  have h1 := termError_any p ap cp w hP
  have h2 := termError_any t at' ct w hT
  by_cases he : Tm.err p = 0
  · have hf : Tm.fitErr p t = Tm.err t := by
      simp only [Tm.fitErr, Tm.firstErr, he, if_true]
      by_cases h : Tm.err t = 0 <;> simp [h]
    rw [hf]
    rw [he] at h1
    clear hf he hP hT
    generalize Tm.err t = q at *
    go_enter Try.func41, Try.ntmps41
    go_wp2_with (first
      | (go_at_call_of 16 (Value.slice ap p.length cp); refine h1.mono ?_; rintro e w ⟨rfl, rfl⟩)
      | (go_at_call_of 16 (Value.slice at' t.length ct); refine h2.mono ?_; rintro e w ⟨rfl, rfl⟩))
    go_ret
    exact ⟨rfl, rfl⟩
  · have hf : Tm.fitErr p t = Tm.err p := by simp [Tm.fitErr, Tm.firstErr, he]
    rw [hf]
    have hne : (Tm.err p != 0) = true := by simp [he]
    clear hf he hP hT h2
    generalize Tm.err p = q at *
    go_enter Try.func41, Try.ntmps41
    go_wp2_with (first
      | (go_at_call 16; refine h1.mono ?_; clear h1; rintro e w ⟨rfl, rfl⟩))
    go_ret
    exact ⟨rfl, rfl⟩

end Go.Proofs.Ytgeknojpcjadkaa

namespace Go.Proofs.Ytgeknojpcjadkaa
open Go.Proofs Go.RowKit Go.Shelf Go.Maps

attribute [local go_sem] Oper.semAt_some

/-- A place of zs. -/
abbrev PlaceOf (zs : List Int) : Type := { k : Nat // k < zs.length }
def encPlace (zs : List Int) (x : PlaceOf zs) : Array Value := #[.int .i64 (x.1 : Int), .int .i64 (Tm.endAt zs x.1 : Int)]
/-- The first m places. -/
def placesTo (zs : List Int) : Nat → List (PlaceOf zs)
  | 0 => []
  | m + 1 => if h : m < zs.length then placesTo zs m ++ [⟨m, h⟩] else placesTo zs m
end Go.Proofs.Ytgeknojpcjadkaa
