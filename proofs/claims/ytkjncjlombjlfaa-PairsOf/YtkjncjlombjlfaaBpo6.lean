/-
  (*web).grown. · (*web).grown: the step. · (*web).grown, at every place that ends. · What unify.grow defers: it recovers 'too large'. · unify.grow. · (*web).lay once more: and which block the signs lie in then. · A WEB WHOSE SIGNS ARE ITS OWN, AND WHAT IS TIED IN IT: (*web).lay, (*web).tie of it; unify.newWeb. · unify.newWeb. · signs.Plain of two terms. · pairs.parted. · PLAIN MATHEMATICS: what holds while pairs are tied, one behind the other; what is so found. · unify.meet. · unify.meet. · PLAIN MATHEMATICS: what meeting answers; what makes two terms the same, as a list. · Literals. · unify.Meet, unify.All. · hasplaw.unifyBegun. · rules.Falls; rules.replaced. · rules.replaced; lists of steps in new memory, one more behind them. · PLAIN MATHEMATICS of steps: at which places which rules fit, and what comes of each. · Lists of steps in new memory: what keeps them; one more behind them, within a round. · Lists of pairs in new memory: what keeps them; one more behind them, within a round. · signs.Places: the rounds are numbered; the body may leave, or panic. · What stands while rules.Steps goes through places and rules; two results that lie in boxes. · Which places are passed over; what stands while pairs come. · A REGION THAT DRAWS ITS ORDER, WITHIN A ROUND: it runs there as it runs outside of it, if nothing is deferred in it: so the laws that take an operation first (which want that no round is at hand) serve there, too. · pairs.laps. · pairs.Of. · pairs.All.
-/
import Derived.WalkLawsBesides
import Derived.Shelf.RegionOpen
import Derived.Test.YtkjncjlombjlfaaBpo5
import Derived.Defers
import Derived.Recover
import Derived.Test.YtkjncjlombjlfaaBpo1
import Derived.Test.YtkjncjlombjlfaaBpo3
import Derived.OwnWalkIn
import Derived.RangeFuncBox
import Derived.OrdersIn
import Derived.RangeFuncCalls
import Derived.Deep.DrawnRows
import Derived.Deep.RegionHeld3
namespace Go.Proofs.Ytkjncjlombjlfaa
open Go.Proofs Go.RowKit Go.Shelf Go.Maps

attribute [local go_sem] Oper.semAt_some

/-- What holds ahead of round i of grown. -/
structure GInv (w : World) (Bt Bw Bm b off cap N base : Nat) (zs : List Int) (T : Nat → Option Nat) (v : Value) (ys : List Int) (ls : List (List Int)) (r i : Nat) (W : World) : Prop where
  out : ∃ v1, Boxed W (w.heap.size + 1) 33 v1 ∧ New base W v1 (ys ++ (ls.take i).flatten) ∧ ys.length + (ls.take i).flatten.length ≤ 30 ∧ ∀ k, v1.ownBlock = some k → (v.ownBlock = some k ∨ w.heap.size ≤ k) ∧ k ≠ w.heap.size ∧ k ≠ w.heap.size + 1 ∧ k ≠ Bt ∧ k ≠ Bt + 1
  web : WebAt W Bw Bm (some ⟨b, off, none⟩) cap zs N T
  bW : Boxed W w.heap.size 98 (.pointer (some ⟨Bw, 0, none⟩))
  bK : Boxed W (Bt + 1) 3 (.int .i64 (r : Int))
  bT : Boxed W Bt 33 (.slice (some ⟨b, off, none⟩) zs.length cap)
  gr : w.grownBy W v.ownBlock
theorem own_cells {base : Nat} {X : World} {v : Value} {xs : List Int} {k : Nat} (hN : New base X v xs) (hk : v.ownBlock = some k) : ∃ o : Obj, X.heap[k]? = some o ∧ o.isCells = true := by
  rcases hN.2 with ⟨rfl, _⟩ | ⟨g, cap, cur, rfl, _, hg, _⟩
  · simp [Value.ownBlock] at hk
  · simp [Value.ownBlock] at hk
    subst hk
    exact ⟨_, hg, rfl⟩
theorem New.own {base : Nat} {X Y : World} {v : Value} {xs : List Int} {row : Option Nat} (hN : New base X v xs) (hg : X.grownBy Y row) (hr : ∀ r, row = some r → ∃ o : Obj, X.heap[r]? = some o ∧ o.isCells = false) : New base Y v xs := by
  refine World.ownsRow.kept hN hg ?_
  cases hv : v.ownBlock with
  | none => exact .inl rfl
  | some k =>
    refine .inr fun e => ?_
    obtain ⟨o, ho, hf⟩ := hr k e.symm
    obtain ⟨o', ho', hf'⟩ := own_cells hN hv
    rw [ho] at ho'
    cases ho'
    rw [hf] at hf'
    cases hf'
theorem grown_trans {w X Y : World} {row row' : Option Nat} (h : w.grownBy X row) (h' : X.grownBy Y row') (hr : ∀ k, row' = some k → row = some k ∨ w.heap.size ≤ k) : w.grownBy Y row :=
  ⟨h'.os.trans h.os, h'.tape.trans h.tape, h'.output.trans h.output, Nat.le_trans h.size h'.size, fun k hk hn => (h'.block k (by have := h.size; omega) (fun e => by
    rcases hr k e.symm with h1 | h1
    · exact hn h1.symm
    · omega)).trans (h.block k hk hn)⟩
theorem GInv.own {w : World} {Bt Bw Bm b off cap N base : Nat} {zs : List Int} {T : Nat → Option Nat} {v : Value} {ys : List Int} {ls : List (List Int)} {r B : Nat} (h1 : Bw < w.heap.size) (h2 : Bm < w.heap.size) (h3 : b < w.heap.size) (hB : w.heap.size ≤ B) : OwnFrom B (GInv w Bt Bw Bm b off cap N base zs T v ys ls r) := by
  rintro i X Y row ⟨⟨v1, bO, hN, hl, ho⟩, hweb, bW, bK, bT, hG⟩ hg hrow
  have hbx : ∀ {C : Nat} {t : TypeId} {v : Value}, Boxed X C t v → Boxed Y C t v := fun {C t v} hb => (boxed_own C t (fun _ : Unit => v)).from B () X Y row hb hg hrow
  have hkk : ∀ k, k < w.heap.size → Y.heap[k]? = X.heap[k]? := fun k hk => hg.block k (by have := hG.size; omega) (fun e => by have := (hrow k e.symm).1; omega)
  exact ⟨⟨v1, hbx bO, hN.own hg (fun q e => (hrow q e).2), hl, ho⟩, hweb.of (hkk Bw h1) (hkk Bm h2) (hkk b h3) (by have := hG.size; have := hg.size; omega), hbx bW, hbx bK, hbx bT, grown_trans hG hg fun k e => .inr (by have := (hrow k e).1; omega)⟩

end Go.Proofs.Ytkjncjlombjlfaa

namespace Go.Proofs.Ytkjncjlombjlfaa
open Go.Proofs Go.RowKit Go.Shelf Go.Maps

attribute [local go_sem] Oper.semAt_some

end Go.Proofs.Ytkjncjlombjlfaa

namespace Go.Proofs.Ytkjncjlombjlfaa
open Go.Proofs Go.RowKit Go.Shelf Go.Maps

end Go.Proofs.Ytkjncjlombjlfaa

namespace Go.Proofs.Ytkjncjlombjlfaa
open Go.Proofs Go.RowKit Go.Shelf Go.Maps

end Go.Proofs.Ytkjncjlombjlfaa

namespace Go.Proofs.Ytkjncjlombjlfaa
open Go.Proofs Go.RowKit Go.Shelf Go.Maps

/-- What holds ahead of round k of grow. -/
structure GrowInv (w : World) (Bw Bm b off cap N : Nat) (zs : List Int) (T : Nat → Option Nat) (f : Nat → List Int) (k : Nat) (W : World) : Prop where
  arr : ∃ cs : Array Value, W.heap[w.heap.size + 1 + 1 + 1]? = some (.cells cs 119 (0, 0)) ∧ cs.size = 8 ∧ ∀ j, j < k → ∃ u, cs[j]? = some u ∧ New (w.heap.size + 1 + 1 + 1 + 1) W u (f j)
  b0 : Boxed W w.heap.size 55 (.slice none 0 0)
  b1 : Boxed W (w.heap.size + 1) 4 (.bool false)
  b2 : Boxed W (w.heap.size + 1 + 1) 24 (.int .i64 0)
  web : WebAt W Bw Bm (some ⟨b, off, none⟩) cap zs N T
  bl : Below w.heap.size w W

theorem GrowInv.below {w : World} {Bw Bm b off cap N : Nat} {zs : List Int} {T : Nat → Option Nat} {f : Nat → List Int} {k : Nat} {W W' : World} (H : GrowInv w Bw Bm b off cap N zs T f k W) (hB : Below W.heap.size W W') : GrowInv w Bw Bm b off cap N zs T f k W' := by
  obtain ⟨⟨cs, hblk, h8, hc⟩, b0, b1, b2, hweb, hbl⟩ := H
  refine ⟨⟨cs, (hB.block _ (Array.getElem?_eq_some_iff.1 hblk).1).trans hblk, h8, fun j hj => ?_⟩, (hB.block _ b0.lt).trans b0, (hB.block _ b1.lt).trans b1, (hB.block _ b2.lt).trans b2, hweb.below hB, hbl.trans (hB.mono hbl.size)⟩
  obtain ⟨u, hu, hN⟩ := hc j hj
  exact ⟨u, hu, hN.below hB⟩
theorem GrowInv.set {w : World} {Bw Bm b off cap N : Nat} {zs : List Int} {T : Nat → Option Nat} {f : Nat → List Int} {k : Nat} {W : World} (H : GrowInv w Bw Bm b off cap N zs T f k W) (hk : k < 8) (hwl : Bw < w.heap.size ∧ Bm < w.heap.size) (hb : b < w.heap.size) {v : Value} {base : Nat} (hN : New base W v (f k)) (hbase : w.heap.size + 1 + 1 + 1 + 1 ≤ base) : GrowInv w Bw Bm b off cap N zs T f (k + 1) (W.setCell ⟨w.heap.size + 1 + 1 + 1, k, none⟩ v) := by
  obtain ⟨⟨cs, hblk, h8, hc⟩, b0, b1, b2, hweb, hbl⟩ := H
  have hg := grownBy_setCell1 W (w.heap.size + 1 + 1 + 1) k v
  have hbx : ∀ {C : Nat} {t : TypeId} {x : Value}, Boxed W C t x → C ≠ w.heap.size + 1 + 1 + 1 → Boxed (W.setCell ⟨w.heap.size + 1 + 1 + 1, k, none⟩ v) C t x := fun {C t x} hb hne => (Below.heap_setCell W ⟨w.heap.size + 1 + 1 + 1, k, none⟩ v C hne).trans hb
  have hkk : ∀ q, q < w.heap.size → (W.setCell ⟨w.heap.size + 1 + 1 + 1, k, none⟩ v).heap[q]? = W.heap[q]? := fun q hq => Below.heap_setCell W ⟨w.heap.size + 1 + 1 + 1, k, none⟩ v q (show q ≠ w.heap.size + 1 + 1 + 1 by omega)
  have hkeep : ∀ (u : Value) (t : List Int), New (w.heap.size + 1 + 1 + 1 + 1) W u t → New (w.heap.size + 1 + 1 + 1 + 1) (W.setCell ⟨w.heap.size + 1 + 1 + 1, k, none⟩ v) u t := fun u t hu => World.ownsRow.kept hu hg (by
    cases e : u.ownBlock with
    | none => exact .inl rfl
    | some q => exact .inr (by have := (World.ownsRow.lt hu q e).1; simp; omega))
  refine ⟨⟨cs.setIfInBounds k v, ?_, by simp [h8], fun j hj => ?_⟩, hbx b0 (by omega), hbx b1 (by omega), hbx b2 (by omega), hweb.of (hkk Bw hwl.1) (hkk Bm hwl.2) (hkk b hb) (by have := hg.size; have := hbl.size; omega), hbl.setCell (p := ⟨w.heap.size + 1 + 1 + 1, k, none⟩) (by show w.heap.size ≤ w.heap.size + 1 + 1 + 1; omega) _⟩
  · obtain ⟨hlt, hx⟩ := Array.getElem?_eq_some_iff.1 hblk
    show (W.heap.modify (w.heap.size + 1 + 1 + 1) _)[w.heap.size + 1 + 1 + 1]? = _
    rw [Array.getElem?_eq_getElem (by rw [Array.size_modify]; exact hlt), Array.getElem_modify_self, hx]
    rfl
  · by_cases e : j = k
    · subst e
      exact ⟨v, by simp [h8, hk], hkeep v _ (hN.mono hbase)⟩
    · obtain ⟨u, hu, hN'⟩ := hc j (by omega)
      exact ⟨u, by simp [Ne.symm e, hu], hkeep u _ hN'⟩

end Go.Proofs.Ytkjncjlombjlfaa

namespace Go.Proofs.Ytkjncjlombjlfaa
open Go.Proofs Go.RowKit Go.Shelf Go.Maps

end Go.Proofs.Ytkjncjlombjlfaa

namespace Go.Proofs.Ytkjncjlombjlfaa
open Go.Proofs Go.RowKit Go.Shelf Go.Maps

namespace Wb
end Wb

/-- BLOCK Bw IS A WEB whose signs zs are its own, with who stands for whom. -/
structure FW (W : World) (Bw Bm : Nat) (v : Value) (zs : List Int) (h : Nat → Nat) : Prop where
  own : OwnWeb W Bw Bm v zs
  tied : ∃ T N M, Wb.St zs T h ∧ IntMap W Bm N M ∧ (∀ p : Nat, M (p : Int) = (T p).map fun q => .int .i64 (q : Int)) ∧ N + Wb.rt zs h ≤ zs.length
theorem FW.st {W : World} {Bw Bm : Nat} {v : Value} {zs : List Int} {h : Nat → Nat} (H : FW W Bw Bm v zs h) (h0 : 0 < zs.length) : ∃ b cap, v = .slice (some ⟨b, 0, none⟩) zs.length cap ∧ WSt W Bw Bm (some ⟨b, 0, none⟩) cap zs h := by
  obtain ⟨⟨hw, hN⟩, T, N, M, S, hM, hT, hn⟩ := H
  obtain ⟨a, c', e, hI, _⟩ := New.ints hN
  rcases hN.2 with ⟨rfl, h1⟩ | ⟨g, c, cur, rfl, _⟩
  · omega
  · cases e
    exact ⟨g, c', rfl, T, N, S, ⟨hw, hI, M, hM, hT⟩, hn⟩
theorem FW.lt {W : World} {Bw Bm : Nat} {v : Value} {zs : List Int} {h : Nat → Nat} (H : FW W Bw Bm v zs h) : Bw < W.heap.size ∧ Bm < W.heap.size := by
  obtain ⟨⟨hw, hN⟩, T, N, M, S, hM, hT, hn⟩ := H
  exact ⟨(Array.getElem?_eq_some_iff.1 hw).1, hM.lt⟩
/-- What a call leaves of all that is older than it, but the web. -/
def WKeep (w w' : World) (Bw Bm : Nat) (v : Value) : Prop := w'.os = w.os ∧ w'.tape = w.tape ∧ w'.output = w.output ∧ w.heap.size ≤ w'.heap.size ∧ ∀ k, k < w.heap.size → k ≠ Bw → k ≠ Bm → some k ≠ v.ownBlock → w'.heap[k]? = w.heap[k]?
end Go.Proofs.Ytkjncjlombjlfaa

namespace Go.Proofs.Ytkjncjlombjlfaa
open Go.Proofs Go.RowKit Go.Shelf Go.Maps

namespace Wb
/-- Each variable by itself. -/
def eight (k : Nat) : List Int := ((Tm.noneL 8).take k).flatten
theorem eight_length : ∀ k, k ≤ 8 → (eight k).length = k := by decide +kernel
theorem good8 : Good (Wb.eight 8) := by
  refine ⟨by decide +kernel, by decide +kernel, ?_, ?_, ?_⟩
  · have : ∀ p, p < 8 → -8 ≤ sg (Wb.eight 8) p ∧ sg (Wb.eight 8) p < 6 := by decide +kernel
    intro p hp
    exact this p (by rw [eight_length 8 (by omega)] at hp; exact hp)
  · decide +kernel
  · have : ∀ p, p < 8 → Tm.endAt (Wb.eight 8) p ≤ 8 := by decide +kernel
    intro p hp
    rw [eight_length 8 (by omega)] at hp ⊢
    exact this p hp
end Wb

theorem FW.keep {W W' : World} {Bw Bm : Nat} {v : Value} {zs : List Int} {h : Nat → Nat} (H : FW W Bw Bm v zs h) (hB : Below W.heap.size W W') : FW W' Bw Bm v zs h := by
  obtain ⟨⟨hw, hN⟩, T, N, M, S, hM, hT, hn⟩ := H
  exact ⟨⟨(hB.block _ (Array.getElem?_eq_some_iff.1 hw).1).trans hw, hN.below hB⟩, T, N, M, S, hM.keep (hB.block _ hM.lt), hT, hn⟩

end Go.Proofs.Ytkjncjlombjlfaa

namespace Go.Proofs.Ytkjncjlombjlfaa
open Go.Proofs Go.RowKit Go.Shelf Go.Maps

/-- The second of two terms made plain. -/
def Tm.plain2 (t u : List Int) : List Int := Tm.plainTo (Tm.seenFrom [] t) u u.length

end Go.Proofs.Ytkjncjlombjlfaa

namespace Go.Proofs.Ytkjncjlombjlfaa
open Go.Proofs Go.RowKit Go.Shelf Go.Maps

def Tm.prtErr (ss : List (List Int)) (L1 R1 : List Int) (k : Int) (R2 : List Int) : Int := if Tm.putErr L1 k R2 = 0 then (if Tm.applyErr ss (Tm.putVal L1 k R2) = 0 then Tm.applyErr ss R1 else Tm.applyErr ss (Tm.putVal L1 k R2)) else Tm.putErr L1 k R2
def Tm.prtVal (ss : List (List Int)) (L1 R1 : List Int) (k : Int) (R2 : List Int) : List Int × List Int := if Tm.prtErr ss L1 R1 k R2 = 0 then (Tm.plain (Tm.applyVal ss (Tm.putVal L1 k R2)), Tm.plain2 (Tm.applyVal ss (Tm.putVal L1 k R2)) (Tm.applyVal ss R1)) else ([], [])
/-- What stands behind parted's last region. -/
def PaR (n : Nat) (W : World) (e : Exit) (b : Act) (w4 : World) : Prop := e = .normal ∧ b.tmps.getD 8 undef = .pointer (some ⟨n, 0, none⟩) ∧ b.tmps.getD 9 undef = .int .i64 0 ∧ b.defers = [] ∧ w4 = W.drew
theorem PaR.panic {n : Nat} {b : Act} {W w4 : World} {c : _} {G : Prop} (H : PaR n W (.panic c) b w4) : G := by
  cases H.1
/-- Two terms in new memory. -/
theorem NewS.two {base : Nat} {W : World} {v : Value} {p q : List Int} (h : NewS base W v [p, q]) : ∃ g cap u0 u1, v = .slice (some ⟨g, 0, none⟩) 2 cap ∧ base ≤ g ∧ W.cell? ⟨g, 0, none⟩ = some u0 ∧ W.cell? ⟨g, 1, none⟩ = some u1 ∧ New base W u0 p ∧ New base W u1 q := by
  obtain ⟨us, h1, h2⟩ := h
  obtain ⟨u0, e0, n0⟩ := h2 0 (by simp)
  obtain ⟨u1, e1, n1⟩ := h2 1 (by simp)
  rcases h1.2 with ⟨rfl, hn⟩ | ⟨g, cap, cur, rfl, hb, r⟩
  · simp at hn
  · have cc := fun k hk => World.ownsRow.cellAt h1 k hk
    exact ⟨g, cap, u0, u1, rfl, hb, by rw [cc 0 (by simp), e0], by rw [cc 1 (by simp), e1], n0, n1⟩

end Go.Proofs.Ytkjncjlombjlfaa

namespace Go.Proofs.Ytkjncjlombjlfaa
open Go.Proofs Go.RowKit Go.Shelf Go.Maps

abbrev PairL := List (List Int × List Int)
namespace Wb
theorem cont_laid {pre t post : List Int} (ht : Tm.err t = 0) : cont (pre ++ (t ++ post)) pre.length = t := by
  have h := Tm.part_mid (pre := pre) (t := t) (post := post) (k := 0) (by omega) (by rw [Tm.endAt_zero, Tm.err_run ht]; exact Nat.le_refl _)
  rw [Nat.add_zero] at h
  unfold cont
  rw [h]
  unfold Tm.part
  rw [Tm.endAt_zero, Tm.err_run ht]
  simp
/-- Do all of the first k pairs become the same? -/
def Same (ps : PairL) (k : Nat) (θ : Sb) : Prop := ∀ j, j < k → App θ (ps[j]?.getD ([], [])).1 = App θ (ps[j]?.getD ([], [])).2
/-- What holds when k pairs are tied. -/
structure MInv (ps : PairL) (k : Nat) (zs : List Int) (h : Nat → Nat) : Prop where
  good : Good zs
  st : ∃ T, St zs T h
  closed : Closed zs h []
  len : zs.length ≤ 8 + 60 * k
  sound : ∀ θ, TermSb θ → Same ps k θ → Resp zs h θ
  tied : ∀ j, j < k → ∃ p q, p < zs.length ∧ q < zs.length ∧ cont zs p = (ps[j]?.getD ([], [])).1 ∧ cont zs q = (ps[j]?.getD ([], [])).2 ∧ hd zs h p = hd zs h q
theorem MInv.start (ps : PairL) : MInv ps 0 (eight 8) (fun p => p) := by
  refine ⟨good8, ⟨_, St.start _⟩, fun p q hp _ sp _ _ => ?_, by rw [eight_length 8 (by omega)]; omega, fun θ _ _ p _ _ => rfl, fun j hj => by omega⟩
  rw [eight_length 8 (by omega)] at hp
  have := good8.vars p hp
  omega
theorem Closed.more {zs : List Int} {h : Nat → Nat} {P : List (Nat × Nat)} (C : Closed zs h []) : Closed zs h P := fun p q hp hq sp sq e => by
  obtain ⟨e1, e2⟩ := C p q hp hq sp sq e
  exact ⟨e1, fun i hi => (e2 i hi).move (fun _ _ _ _ h => h) (fun p q hm => by simp at hm)⟩
theorem Same.succ {ps : PairL} {k : Nat} {θ : Sb} (H : Same ps (k + 1) θ) : Same ps k θ ∧ App θ (ps[k]?.getD ([], [])).1 = App θ (ps[k]?.getD ([], [])).2 := ⟨fun j hj => H j (by omega), H k (by omega)⟩
theorem MInv.good2 {ps : PairL} {k : Nat} {zs : List Int} {h : Nat → Nat} (M : MInv ps k zs h) {L R : List Int} (hL : Tm.err L = 0) (hR : Tm.err R = 0) (lL : L.length ≤ 30) (lR : R.length ≤ 30) (hk : k < 40) : Good (zs ++ L ++ R) := by
  have := M.len
  exact (M.good.ext hL (by omega)).ext hR (by rw [List.length_append]; omega)
theorem MInv.at1 {zs L R : List Int} (hL : Tm.err L = 0) : cont (zs ++ L ++ R) zs.length = L := by rw [List.append_assoc]; exact cont_laid hL
theorem MInv.at2 {zs L R : List Int} (hR : Tm.err R = 0) : cont (zs ++ L ++ R) (zs ++ L).length = R := by
  have := cont_laid (pre := zs ++ L) (post := []) hR
  rwa [List.append_nil] at this
theorem MInv.step {ps : PairL} {k : Nat} {zs : List Int} {h : Nat → Nat} (M : MInv ps k zs h) {L R : List Int} (hL : Tm.err L = 0) (hR : Tm.err R = 0) (lL : L.length ≤ 30) (lR : R.length ≤ 30) (hk : k < 40) (eL : (ps[k]?.getD ([], [])).1 = L) (eR : (ps[k]?.getD ([], [])).2 = R) (h0 : 0 < L.length) (h1 : 0 < R.length) {h' : Nat → Nat} (hL' : TieL (zs ++ L ++ R) h h' [(zs.length, (zs ++ L).length)]) (S' : ∃ T, St (zs ++ L ++ R) T h') : MInv ps (k + 1) (zs ++ L ++ R) h' := by
  obtain ⟨T, S⟩ := M.st
  have G1 := M.good.ext hL (by have := M.len; omega)
  have G2 := M.good2 hL hR lL lR hk
  have S1 : St (zs ++ L) T h := S.ext
  have hlen : (zs ++ L ++ R).length = zs.length + L.length + R.length := by rw [List.length_append, List.length_append]
  have c1 := MInv.at1 (zs := zs) (R := R) hL
  have c2 := MInv.at2 (zs := zs) (L := L) hR
  refine ⟨G2, S', hL'.close [] ((Closed.ext G1 S1 G2 (Closed.ext M.good S G1 M.closed)).more), by have := M.len; omega, fun θ hθ H => ?_, fun j hj => ?_⟩
  · obtain ⟨H1, H2⟩ := H.succ
    refine hL'.sound θ hθ ((M.sound θ hθ H1).ext M.good S |>.ext G1 S1) fun p q hm => ?_
    simp only [List.mem_cons, List.not_mem_nil, or_false, Prod.mk.injEq] at hm
    obtain ⟨rfl, rfl⟩ := hm
    rw [c1, c2, ← eL, ← eR]
    exact H2
  · by_cases e : j = k
    · subst e
      exact ⟨zs.length, (zs ++ L).length, by omega, by rw [hlen, List.length_append]; omega, by rw [c1, eL], by rw [c2, eR], hL'.tied _ _ (by simp)⟩
    · obtain ⟨p, q, hp, hq, e1, e2, e3⟩ := M.tied j (by omega)
      have hp1 : p < (zs ++ L).length := by rw [List.length_append]; omega
      have hq1 : q < (zs ++ L).length := by rw [List.length_append]; omega
      refine ⟨p, q, by omega, by omega, by rw [cont_ext G1 hp1, cont_ext M.good hp, e1], by rw [cont_ext G1 hq1, cont_ext M.good hq, e2], hL'.coarse p q (by omega) (by omega) ?_⟩
      rw [hd_ext hp1, hd_ext hp, hd_ext hq1, hd_ext hq, e3]
theorem MInv.no {ps : PairL} {k : Nat} {zs : List Int} {h : Nat → Nat} (M : MInv ps k zs h) {L R : List Int} (hL : Tm.err L = 0) (hR : Tm.err R = 0) (lL : L.length ≤ 30) (hk : k < 40) (eL : (ps[k]?.getD ([], [])).1 = L) (eR : (ps[k]?.getD ([], [])).2 = R) (hN : No (zs ++ L ++ R) h [(zs.length, (zs ++ L).length)]) : ∀ θ, TermSb θ → ¬ Same ps (k + 1) θ := fun θ hθ H => by
  obtain ⟨T, S⟩ := M.st
  have G1 := M.good.ext hL (by have := M.len; omega)
  have S1 : St (zs ++ L) T h := S.ext
  obtain ⟨H1, H2⟩ := H.succ
  refine hN θ hθ ((M.sound θ hθ H1).ext M.good S |>.ext G1 S1) fun p q hm => ?_
  simp only [List.mem_cons, List.not_mem_nil, or_false, Prod.mk.injEq] at hm
  obtain ⟨rfl, rfl⟩ := hm
  rw [MInv.at1 (zs := zs) (R := R) hL, MInv.at2 (zs := zs) (L := L) hR, ← eL, ← eR]
  exact H2
/-- What is found: σ makes all pairs the same, whatever else does is made of it, and it takes the least variables. -/
structure Mgu (ps : PairL) (σ : Sb) : Prop where
  term : TermSb σ
  vars : ∀ v, -8 ≤ v → v < 0 → ∀ s ∈ σ v, -8 ≤ s ∧ s < 6
  same : Same ps ps.length σ
  most : ∀ θ, TermSb θ → Same ps ps.length θ → ∀ v, -8 ≤ v → v < 0 → θ v = App θ (σ v)
  least : ∀ v u, -8 ≤ v → v < 0 → σ v = [u] → u < 0 → v ≤ u
/-- There is but one. -/
theorem Mgu.one {ps : PairL} {σ τ : Sb} (A : Mgu ps σ) (B : Mgu ps τ) : ∀ v, -8 ≤ v → v < 0 → σ v = τ v :=
  canon_one A.term B.term (fun v h1 h2 s hs _ => (A.vars v h1 h2 s hs).1) (fun v h1 h2 s hs _ => (B.vars v h1 h2 s hs).1) (B.most σ A.term A.same) (A.most τ B.term B.same) A.least B.least
end Wb

end Go.Proofs.Ytkjncjlombjlfaa

namespace Go.Proofs.Ytkjncjlombjlfaa
open Go.Proofs Go.RowKit Go.Shelf Go.Maps

def Tm.pairErr (L R : List Int) : Int := if Tm.err L = 0 then Tm.err R else Tm.err L
/-- The first error of pairs. -/
def Tm.firstPair : PairL → Int
  | [] => 0
  | r :: l => if Tm.pairErr r.1 r.2 = 0 then Tm.firstPair l else Tm.pairErr r.1 r.2
/-- What meet answers to right pairs. -/
def MeetOk (ps : PairL) (W : World) (e : Ending) : Prop :=
  ((∀ θ, Wb.TermSb θ → ¬ Wb.Same ps ps.length θ) ∧ e = .returned (.tuple #[.slice none 0 0, .bool false, .int .i64 0])) ∨
  ∃ σ, Wb.Mgu ps σ ∧ (((∀ i : Nat, i < 8 → (σ (-1 - (i : Int))).length ≤ 30) ∧ ∃ a, e = .returned (.tuple #[.slice a 8 8, .bool true, .int .i64 0]) ∧ Subs W.heap.size W a ((List.range 8).map fun i : Nat => σ (-1 - (i : Int)))) ∨
    ((∃ i : Nat, i < 8 ∧ 30 < (σ (-1 - (i : Int))).length) ∧ e = .returned (.tuple #[.slice none 0 0, .bool false, .int .i64 2])))
def MeetAns (ps : PairL) (W : World) (e : Ending) : Prop :=
  (Tm.firstPair ps ≠ 0 ∧ e = .returned (.tuple #[.slice none 0 0, .bool false, .int .i64 (Tm.firstPair ps)])) ∨ (Tm.firstPair ps = 0 ∧ MeetOk ps W e)

end Go.Proofs.Ytkjncjlombjlfaa

namespace Go.Proofs.Ytkjncjlombjlfaa
open Go.Proofs Go.RowKit Go.Shelf Go.Maps

/-- What stands behind the laying and tying of one pair. -/
def MeetR (F : Bool → Act) (n : Nat) (wr : World) (B1 B0 : Nat) (zs : List Int) (h : Nat → Nat) (p q : Nat) (e : Exit) (a' : Act) (w4 : World) : Prop :=
  e = .normal ∧ ∃ (qb : Bool) (v3 : Value), a' = F qb ∧ Below n wr w4 ∧ ((qb = true ∧ ∃ h', Wb.TieL zs h h' [(p, q)] ∧ FW w4 B1 B0 v3 zs h') ∨ (qb = false ∧ Wb.No zs h [(p, q)]))
theorem MeetR.panic {F : Bool → Act} {n : Nat} {wr : World} {B1 B0 : Nat} {zs : List Int} {h : Nat → Nat} {p q : Nat} {c : _} {a' : Act} {w4 : World} {G : Prop} (H : MeetR F n wr B1 B0 zs h p q (.panic c) a' w4) : G := by
  cases H.1

end Go.Proofs.Ytkjncjlombjlfaa

namespace Go.Proofs.Ytkjncjlombjlfaa
open Go.Proofs Go.RowKit Go.Shelf Go.Maps

theorem Tm.known_of {s : Int} (h1 : -8 ≤ s) (h2 : s < 6) : Tm.known s = true := by
  simp [Tm.known]
  omega
/-- What the eight variables become. -/
def Tm.sbL (σ : Wb.Sb) : List (List Int) := (List.range 8).map fun i : Nat => σ (-1 - (i : Int))
theorem Tm.sbL_length (σ : Wb.Sb) : (Tm.sbL σ).length = 8 := by simp [Tm.sbL]
theorem Tm.sbL_congr {σ τ : Wb.Sb} (h : ∀ v, -8 ≤ v → v < 0 → σ v = τ v) : Tm.sbL σ = Tm.sbL τ := by
  unfold Tm.sbL
  refine List.map_congr_left fun i hi => ?_
  have := List.mem_range.1 hi
  exact h _ (by omega) (by omega)
/-- A list as what variables become. -/
def Tm.ofL (us : List (List Int)) (s : Int) : List Int := if -8 ≤ s then us[(-1 - s).toNat]?.getD [] else [s]
/-- WHAT MEETING ANSWERS: the error, whether something comes, and what. -/
def Tm.MeetSays (ps : PairL) (er : Int) (is : Bool) (val : List (List Int)) : Prop :=
  (Tm.firstPair ps ≠ 0 ∧ er = Tm.firstPair ps ∧ is = false ∧ val = []) ∨
  (Tm.firstPair ps = 0 ∧ (∀ θ, Wb.TermSb θ → ¬ Wb.Same ps ps.length θ) ∧ er = 0 ∧ is = false ∧ val = []) ∨
  (Tm.firstPair ps = 0 ∧ ∃ σ, Wb.Mgu ps σ ∧ (∀ i : Nat, i < 8 → (σ (-1 - (i : Int))).length ≤ 30) ∧ er = 0 ∧ is = true ∧ val = Tm.sbL σ) ∨
  (Tm.firstPair ps = 0 ∧ ∃ σ, Wb.Mgu ps σ ∧ (∃ i : Nat, i < 8 ∧ 30 < (σ (-1 - (i : Int))).length) ∧ er = 2 ∧ is = false ∧ val = [])
theorem Tm.MeetSays.one {ps : PairL} {er er' : Int} {is is' : Bool} {val val' : List (List Int)} (A : Tm.MeetSays ps er is val) (B : Tm.MeetSays ps er' is' val') : er = er' ∧ is = is' ∧ val = val' := by
  rcases A with ⟨a1, rfl, rfl, rfl⟩ | ⟨a1, a2, rfl, rfl, rfl⟩ | ⟨a1, σ, a2, a3, rfl, rfl, rfl⟩ | ⟨a1, σ, a2, ⟨i, hi, a3⟩, rfl, rfl, rfl⟩ <;>
  rcases B with ⟨b1, rfl, rfl, rfl⟩ | ⟨b1, b2, rfl, rfl, rfl⟩ | ⟨b1, τ, b2, b3, rfl, rfl, rfl⟩ | ⟨b1, τ, b2, ⟨j, hj, b3⟩, rfl, rfl, rfl⟩
  · exact ⟨rfl, rfl, rfl⟩
  · exact absurd b1 a1
  · exact absurd b1 a1
  · exact absurd b1 a1
  · exact absurd a1 b1
  · exact ⟨rfl, rfl, rfl⟩
  · exact absurd b2.same (a2 τ b2.term)
  · exact absurd b2.same (a2 τ b2.term)
  · exact absurd a1 b1
  · exact absurd a2.same (b2 σ a2.term)
  · exact ⟨rfl, rfl, Tm.sbL_congr (a2.one b2)⟩
  · have := a2.one b2 (-1 - (j : Int)) (by omega) (by omega)
    have h := a3 j hj
    rw [this] at h
    omega
  · exact absurd a1 b1
  · exact absurd a2.same (b2 σ a2.term)
  · have := a2.one b2 (-1 - (i : Int)) (by omega) (by omega)
    have h := b3 i hi
    rw [← this] at h
    omega
  · exact ⟨rfl, rfl, rfl⟩
/-- unify.meet's answer in one form. -/
theorem MeetAns.says {ps : PairL} {W : World} {e : Ending} (h : MeetAns ps W e) : ∃ er is val a, Tm.MeetSays ps er is val ∧ e = .returned (.tuple #[.slice a val.length val.length, .bool is, .int .i64 er]) ∧ Subs W.heap.size W a val := by
  rcases h with ⟨h1, rfl⟩ | ⟨h1, ⟨h2, rfl⟩ | ⟨σ, M, ⟨h30, a, rfl, hS⟩ | ⟨h30, rfl⟩⟩⟩
  · exact ⟨_, _, [], none, .inl ⟨h1, rfl, rfl, rfl⟩, rfl, Subs.nil _ _ _⟩
  · exact ⟨_, _, [], none, .inr (.inl ⟨h1, h2, rfl, rfl, rfl⟩), rfl, Subs.nil _ _ _⟩
  · exact ⟨_, _, Tm.sbL σ, a, .inr (.inr (.inl ⟨h1, σ, M, h30, rfl, rfl, rfl⟩)), by rw [Tm.sbL_length], hS⟩
  · exact ⟨_, _, [], none, .inr (.inr (.inr ⟨h1, σ, M, h30, rfl, rfl, rfl⟩)), rfl, Subs.nil _ _ _⟩

end Go.Proofs.Ytkjncjlombjlfaa

namespace Go.Proofs.Ytkjncjlombjlfaa
open Go.Proofs Go.RowKit Go.Shelf Go.Maps

/-- Lists laid one behind the other. -/
def allocs : World → List (List Int) → World
  | w, [] => w
  | w, z :: l => allocs (w.alloc (.cells (z.map (Value.int .i64)).toArray 3)) l
end Go.Proofs.Ytkjncjlombjlfaa

namespace Go.Proofs.Ytkjncjlombjlfaa
open Go.Proofs Go.RowKit Go.Shelf Go.Maps

end Go.Proofs.Ytkjncjlombjlfaa

namespace Go.Proofs.Ytkjncjlombjlfaa
open Go.Proofs Go.RowKit Go.Shelf Go.Maps

/-- Terms that open the same list are the same. -/
theorem Wb.split {x y r s : List Int} (hx : Tm.run x 1 = x.length) (hy : Tm.run y 1 = y.length) (h : x ++ r = y ++ s) : x = y ∧ r = s := by
  have h1 := Tm.run_app x r 1 (by omega)
  have h2 := Tm.run_app y s 1 (by omega)
  rw [h, h2, hx, hy] at h1
  exact List.append_inj h h1.symm
def Tm.mv1 : List (List Int) := [[2, -2], [-2], [2, -2], [-4], [-5], [-6], [-7], [-8]]
def Tm.mv3 : List (List Int) := [[-1], [-2], [-2], [-4], [-2], [-6], [-7], [-8]]
end Go.Proofs.Ytkjncjlombjlfaa

namespace Go.Proofs.Ytkjncjlombjlfaa
open Go.Proofs Go.RowKit Go.Shelf Go.Maps

/-- F1: is each L above its R? -/
def Tm.fallsB (rk : List Int) (rs : RuleL) : Bool := rs.all fun r => Tm.aboveVal rk r.1 r.2
def Tm.fallsErr (rk : List Int) (rs : RuleL) : Int := if Tm.rankErr rk = 0 then Tm.rulesErr rs else Tm.rankErr rk
def Tm.fallsVal (rk : List Int) (rs : RuleL) : Bool := if Tm.fallsErr rk rs = 0 then Tm.fallsB rk rs else false
theorem Tm.firstRule_zero {rs : RuleL} (h : Tm.firstRule rs = 0) : ∀ k, k < rs.length → Tm.ruleErr (rs[k]?.getD ([], [])).1 (rs[k]?.getD ([], [])).2 = 0 := by
  induction rs with
  | nil => intro k hk; simp at hk
  | cons r l ih =>
    rw [Tm.firstRule] at h
    by_cases h1 : Tm.ruleErr r.1 r.2 = 0
    · rw [if_pos h1] at h
      intro k hk
      cases k with
      | zero => simpa using h1
      | succ k => simpa using ih h k (by simpa using hk)
    · rw [if_neg h1] at h; exact absurd h h1
theorem Tm.rulesErr_ok {rs : RuleL} (h : Tm.rulesErr rs = 0) : rs.length ≤ 8 ∧ ∀ k, k < rs.length → Tm.ruleErr (rs[k]?.getD ([], [])).1 (rs[k]?.getD ([], [])).2 = 0 := by
  unfold Tm.rulesErr at h
  by_cases h8 : 8 < rs.length
  · rw [if_pos h8] at h; omega
  · rw [if_neg h8] at h; exact ⟨by omega, Tm.firstRule_zero h⟩
theorem Tm.ruleErr_ok {L R : List Int} (h : Tm.ruleErr L R = 0) : Tm.err L = 0 ∧ Tm.err R = 0 ∧ L.any foreignB = false ∧ R.any foreignB = false ∧ (0 : Int) ≤ L[0]?.getD 0 ∧ R.any (freeIn L) = false := by
  unfold Tm.ruleErr at h
  by_cases h1 : Tm.err L = 0
  · rw [if_pos h1] at h
    by_cases h2 : Tm.err R = 0
    · rw [if_pos h2] at h
      cases h3 : L.any foreignB with
      | true => rw [h3, if_pos rfl] at h; omega
      | false =>
        rw [h3, if_neg (by decide)] at h
        cases h4 : R.any foreignB with
        | true => rw [h4, if_pos rfl] at h; omega
        | false =>
          rw [h4, if_neg (by decide)] at h
          by_cases h5 : L[0]?.getD 0 < 0
          · rw [if_pos h5] at h; omega
          · rw [if_neg h5] at h
            cases h6 : R.any (freeIn L) with
            | true => rw [h6, if_pos rfl] at h; omega
            | false => exact ⟨h1, h2, rfl, rfl, by omega, rfl⟩
    · rw [if_neg h2] at h; exact absurd h h2
  · rw [if_neg h1] at h; exact absurd h h1
end Go.Proofs.Ytkjncjlombjlfaa

namespace Go.Proofs.Ytkjncjlombjlfaa
open Go.Proofs Go.RowKit Go.Shelf Go.Maps

def Tm.replErr (ss : List (List Int)) (t : List Int) (k : Int) (r : List Int) : Int := if Tm.applyErr ss r = 0 then Tm.putErr t k (Tm.applyVal ss r) else Tm.applyErr ss r
def Tm.replVal (ss : List (List Int)) (t : List Int) (k : Int) (r : List Int) : List Int := if Tm.applyErr ss r = 0 then Tm.putVal t k (Tm.applyVal ss r) else []

/-- A step: by which rule, where, to what. -/
abbrev StepL := List (Nat × Nat × List Int)
/-- v IS A SLICE IN NEW MEMORY THAT HOLDS THESE STEPS, each term in new memory too. -/
def NewT (base : Nat) (W : World) (v : Value) (sts : StepL) : Prop :=
  ∃ us : List Value, W.ownsRow base 74 3 v sts.length us ∧ ∀ j, j < sts.length → ∃ u, us[j * 3]? = some (.int .i64 ((sts[j]?.getD (0, 0, [])).1 : Int)) ∧ us[j * 3 + 1]? = some (.int .i64 ((sts[j]?.getD (0, 0, [])).2.1 : Int)) ∧ us[j * 3 + 2]? = some u ∧ New base W u (sts[j]?.getD (0, 0, [])).2.2
theorem NewT.nil (base : Nat) (W : World) : NewT base W (.slice none 0 0) [] := ⟨[], World.ownsRow_nil _ _ _ _, fun j hj => by simp at hj⟩
theorem NewT.below {base : Nat} {W W' : World} {v : Value} {sts : StepL} (h : NewT base W v sts) (hB : Below W.heap.size W W') : NewT base W' v sts := by
  obtain ⟨us, h1, h2⟩ := h
  refine ⟨us, World.ownsRow.kept h1 (grown_of_below hB) (by cases h : v.ownBlock with | none => exact .inl rfl | some k => exact .inr (by simp)), fun j hj => ?_⟩
  obtain ⟨u, a, b, c, d⟩ := h2 j hj
  exact ⟨u, a, b, c, New.below d hB⟩
end Go.Proofs.Ytkjncjlombjlfaa

namespace Go.Proofs.Ytkjncjlombjlfaa
open Go.Proofs Go.RowKit Go.Shelf Go.Maps

/-- Does rule k fit at place a? -/
def Tm.hitB (rs : RuleL) (t : List Int) (a k : Nat) : Bool := Tm.fitIs (rs[k]?.getD ([], [])).1 (Tm.part t a)
def Tm.hitErr (rs : RuleL) (t : List Int) (a k : Nat) : Int := Tm.replErr (Tm.fitVal (rs[k]?.getD ([], [])).1 (Tm.part t a)) t (a : Int) (rs[k]?.getD ([], [])).2
def Tm.hitVal (rs : RuleL) (t : List Int) (a k : Nat) : List Int := Tm.replVal (Tm.fitVal (rs[k]?.getD ([], [])).1 (Tm.part t a)) t (a : Int) (rs[k]?.getD ([], [])).2
/-- The first error of the first n rules at a place; the steps of the first n rules there. -/
def Tm.rowE (rs : RuleL) (t : List Int) (a : Nat) : Nat → Int
  | 0 => 0
  | n + 1 => if Tm.rowE rs t a n = 0 then (if Tm.hitB rs t a n = true then Tm.hitErr rs t a n else 0) else Tm.rowE rs t a n
def Tm.rowL (rs : RuleL) (t : List Int) (a : Nat) : Nat → StepL
  | 0 => []
  | n + 1 => Tm.rowL rs t a n ++ (if Tm.hitB rs t a n = true then [(n, a, Tm.hitVal rs t a n)] else [])
/-- The first error of the first m places; the steps there. -/
def Tm.allE (rs : RuleL) (t : List Int) : Nat → Int
  | 0 => 0
  | m + 1 => if Tm.allE rs t m = 0 then Tm.rowE rs t m rs.length else Tm.allE rs t m
def Tm.allL (rs : RuleL) (t : List Int) : Nat → StepL
  | 0 => []
  | m + 1 => Tm.allL rs t m ++ Tm.rowL rs t m rs.length
/-- F2. -/
def Tm.stepErr (rs : RuleL) (t : List Int) : Int := if Tm.rulesErr rs = 0 then (if Tm.err t = 0 then Tm.allE rs t t.length else Tm.err t) else Tm.rulesErr rs
def Tm.stepVal (rs : RuleL) (t : List Int) : StepL := if Tm.stepErr rs t = 0 then Tm.allL rs t t.length else []

theorem Tm.applied_put_le {t u : List Int} {a : Nat} : u.length ≤ (Tm.put t a u).length := by unfold Tm.put; simp only [List.length_append]; omega
end Go.Proofs.Ytkjncjlombjlfaa

namespace Go.Proofs.Ytkjncjlombjlfaa
open Go.Proofs Go.RowKit Go.Shelf Go.Maps

theorem row_apart {W : World} {base : Nat} {e : TypeId} {size : Nat} {v : Value} {n : Nat} {us : List Value} (h : W.ownsRow base e size v n us) {row : Option Nat} (hr : ∀ k, row = some k → ∀ cs p, W.heap[k]? ≠ some (.cells cs e p)) : v.ownBlock = none ∨ v.ownBlock ≠ row := by
  rcases h.2 with ⟨rfl, _⟩ | ⟨g, cap, cur, rfl, _, hgb, _⟩
  · exact .inl rfl
  · refine .inr fun e' => ?_
    exact hr g (by rw [← e']; rfl) _ _ hgb
theorem NewT.grown {base : Nat} {W W' : World} {v : Value} {sts : StepL} {row : Option Nat} (h : NewT base W v sts) (hg : W.grownBy W' row) (hr : ∀ k, row = some k → ∀ cs p, W.heap[k]? ≠ some (.cells cs 74 p) ∧ W.heap[k]? ≠ some (.cells cs 3 p)) : NewT base W' v sts := by
  obtain ⟨us, h1, h2⟩ := h
  refine ⟨us, h1.kept hg (row_apart h1 fun k e cs p => (hr k e cs p).1), fun j hj => ?_⟩
  obtain ⟨u, a, b, c, d⟩ := h2 j hj
  exact ⟨u, a, b, c, World.ownsRow.kept d hg (row_apart d fun k e cs p => (hr k e cs p).2)⟩
theorem boxed_ne {W : World} {B : Nat} {t e : TypeId} {x : Value} (h : Boxed W B t x) (hte : t ≠ e) (cs : Array Value) (p : Nat × Nat) : W.heap[B]? ≠ some (.cells cs e p) := by
  rw [show W.heap[B]? = _ from h]
  intro h'
  simp only [Option.some.injEq, Obj.cells.injEq] at h'
  exact hte h'.2.1
theorem NewT.set {base : Nat} {W : World} {v : Value} {sts : StepL} (h : NewT base W v sts) {B : Nat} {t : TypeId} {x : Value} (hb : Boxed W B t x) (h1 : t ≠ 74) (h2 : t ≠ 3) (y : Value) : NewT base (W.setCell ⟨B, 0, none⟩ y) v sts :=
  h.grown (grownBy_setCell' W B y) fun k e cs p => by
    cases e
    exact ⟨boxed_ne hb h1 cs p, boxed_ne hb h2 cs p⟩
theorem NewT.other {base : Nat} {W W' : World} {v : Value} {sts : StepL} {row : Option Nat} (h : NewT base W v sts) (hg : W.grownBy W' row) (hr : ∀ r, row = some r → ∃ o : Obj, W.heap[r]? = some o ∧ o.isCells = false) : NewT base W' v sts :=
  h.grown hg fun k e cs p => by
    obtain ⟨o, ho, hc⟩ := hr k e
    rw [ho]
    refine ⟨?_, ?_⟩ <;> (intro h'; simp only [Option.some.injEq] at h'; subst h'; simp [Obj.isCells] at hc)
theorem NewT.mono {base base' : Nat} {W : World} {v : Value} {sts : StepL} (h : NewT base W v sts) (hb : base' ≤ base) : NewT base' W v sts := by
  obtain ⟨us, h1, h2⟩ := h
  refine ⟨us, ⟨h1.1, h1.2.elim .inl (fun ⟨g, cap, cur, e1, e2, e3⟩ => .inr ⟨g, cap, cur, e1, Nat.le_trans hb e2, e3⟩)⟩, fun j hj => ?_⟩
  obtain ⟨u, a, b, c, d⟩ := h2 j hj
  exact ⟨u, a, b, c, d.mono hb⟩
/-- The list's own block. -/
theorem NewT.block {base : Nat} {W : World} {v : Value} {sts : StepL} (h : NewT base W v sts) {k : Nat} (hk : v.ownBlock = some k) : base ≤ k ∧ ∃ cs p, W.heap[k]? = some (.cells cs 74 p) := by
  obtain ⟨us, h1, _⟩ := h
  rcases h1.2 with ⟨rfl, _⟩ | ⟨g, cap, cur, rfl, hb, hgb, _⟩
  · cases hk
  · obtain rfl : g = k := by simpa [Value.ownBlock] using hk
    exact ⟨hb, _, _, hgb⟩
theorem NewT.slice {base : Nat} {W : World} {v : Value} {sts : StepL} (h : NewT base W v sts) : ∃ a cap, v = .slice a sts.length cap := by
  obtain ⟨us, h1, _⟩ := h
  rcases h1.2 with ⟨rfl, h0⟩ | ⟨g, cap, cur, rfl, _⟩
  · exact ⟨none, 0, by rw [h0]⟩
  · exact ⟨_, _, rfl⟩
end Go.Proofs.Ytkjncjlombjlfaa

namespace Go.Proofs.Ytkjncjlombjlfaa
open Go.Proofs Go.RowKit Go.Shelf Go.Maps

/-- v IS A SLICE IN NEW MEMORY THAT HOLDS THESE PAIRS, each term in new memory too. -/
def NewP (base : Nat) (W : World) (v : Value) (ps : PairL) : Prop :=
  ∃ us : List Value, W.ownsRow base 35 2 v ps.length us ∧ ∀ j, j < ps.length → ∃ u u', us[j * 2]? = some u ∧ us[j * 2 + 1]? = some u' ∧ New base W u (ps[j]?.getD ([], [])).1 ∧ New base W u' (ps[j]?.getD ([], [])).2
theorem NewP.nil (base : Nat) (W : World) : NewP base W (.slice none 0 0) [] := ⟨[], World.ownsRow_nil _ _ _ _, fun j hj => by simp at hj⟩
theorem NewP.below {base : Nat} {W W' : World} {v : Value} {ps : PairL} (h : NewP base W v ps) (hB : Below W.heap.size W W') : NewP base W' v ps := by
  obtain ⟨us, h1, h2⟩ := h
  refine ⟨us, World.ownsRow.kept h1 (grown_of_below hB) (by cases h : v.ownBlock with | none => exact .inl rfl | some k => exact .inr (by simp)), fun j hj => ?_⟩
  obtain ⟨u, u', a, b, c, d⟩ := h2 j hj
  exact ⟨u, u', a, b, New.below c hB, New.below d hB⟩
theorem NewP.grown {base : Nat} {W W' : World} {v : Value} {ps : PairL} {row : Option Nat} (h : NewP base W v ps) (hg : W.grownBy W' row) (hr : ∀ k, row = some k → ∀ cs p, W.heap[k]? ≠ some (.cells cs 35 p) ∧ W.heap[k]? ≠ some (.cells cs 3 p)) : NewP base W' v ps := by
  obtain ⟨us, h1, h2⟩ := h
  refine ⟨us, h1.kept hg (row_apart h1 fun k e cs p => (hr k e cs p).1), fun j hj => ?_⟩
  obtain ⟨u, u', a, b, c, d⟩ := h2 j hj
  exact ⟨u, u', a, b, World.ownsRow.kept c hg (row_apart c fun k e cs p => (hr k e cs p).2), World.ownsRow.kept d hg (row_apart d fun k e cs p => (hr k e cs p).2)⟩
theorem NewP.set {base : Nat} {W : World} {v : Value} {ps : PairL} (h : NewP base W v ps) {B : Nat} {t : TypeId} {x : Value} (hb : Boxed W B t x) (h1 : t ≠ 35) (h2 : t ≠ 3) (y : Value) : NewP base (W.setCell ⟨B, 0, none⟩ y) v ps :=
  h.grown (grownBy_setCell' W B y) fun k e cs p => by
    cases e
    exact ⟨boxed_ne hb h1 cs p, boxed_ne hb h2 cs p⟩
theorem NewP.other {base : Nat} {W W' : World} {v : Value} {ps : PairL} {row : Option Nat} (h : NewP base W v ps) (hg : W.grownBy W' row) (hr : ∀ r, row = some r → ∃ o : Obj, W.heap[r]? = some o ∧ o.isCells = false) : NewP base W' v ps :=
  h.grown hg fun k e cs p => by
    obtain ⟨o, ho, hc⟩ := hr k e
    rw [ho]
    refine ⟨?_, ?_⟩ <;> (intro h'; simp only [Option.some.injEq] at h'; subst h'; simp [Obj.isCells] at hc)
theorem NewP.mono {base base' : Nat} {W : World} {v : Value} {ps : PairL} (h : NewP base W v ps) (hb : base' ≤ base) : NewP base' W v ps := by
  obtain ⟨us, h1, h2⟩ := h
  refine ⟨us, ⟨h1.1, h1.2.elim .inl (fun ⟨g, cap, cur, e1, e2, e3⟩ => .inr ⟨g, cap, cur, e1, Nat.le_trans hb e2, e3⟩)⟩, fun j hj => ?_⟩
  obtain ⟨u, u', a, b, c, d⟩ := h2 j hj
  exact ⟨u, u', a, b, c.mono hb, d.mono hb⟩
/-- The list's own block. -/
theorem NewP.block {base : Nat} {W : World} {v : Value} {ps : PairL} (h : NewP base W v ps) {k : Nat} (hk : v.ownBlock = some k) : base ≤ k ∧ ∃ cs p, W.heap[k]? = some (.cells cs 35 p) := by
  obtain ⟨us, h1, _⟩ := h
  rcases h1.2 with ⟨rfl, _⟩ | ⟨g, cap, cur, rfl, hb, hgb, _⟩
  · cases hk
  · obtain rfl : g = k := by simpa [Value.ownBlock] using hk
    exact ⟨hb, _, _, hgb⟩
theorem NewP.slice {base : Nat} {W : World} {v : Value} {ps : PairL} (h : NewP base W v ps) : ∃ a cap, v = .slice a ps.length cap := by
  obtain ⟨us, h1, _⟩ := h
  rcases h1.2 with ⟨rfl, h0⟩ | ⟨g, cap, cur, rfl, _⟩
  · exact ⟨none, 0, by rw [h0]⟩
  · exact ⟨_, _, rfl⟩
/-- Such a list can be read. -/
theorem NewP.at {base : Nat} {W : World} {v : Value} {ps : PairL} (h : NewP base W v ps) : ∃ a cap, v = .slice a ps.length cap ∧ RulesAt W.heap.size W a ps ∧ ps.length ≤ cap ∧ cap ≤ maxLen := by
  obtain ⟨us, h1, h2⟩ := h
  have hl : us.length = ps.length * 2 := h1.1
  rcases h1.2 with ⟨rfl, hn⟩ | ⟨g, cap, cur, rfl, hb, hgb, q1, q2, _⟩
  · refine ⟨none, 0, by rw [hn], fun k hk => by omega, by omega, by omega⟩
  · refine ⟨_, cap, rfl, fun j hj => ?_, q1, q2⟩
    obtain ⟨u, u', p1, p2, n1, n2⟩ := h2 j hj
    obtain ⟨a1, c1, rfl, i1, m1, m1'⟩ := New.ints n1
    obtain ⟨a2, c2, rfl, i2, m2, m2'⟩ := New.ints n2
    have cc := fun k hk => World.ownsRow.cellAt h1 k hk
    exact ⟨g, 0, rfl, (Array.getElem?_eq_some_iff.1 hgb).1, a1, c1, a2, c2, by rw [Nat.zero_add, cc _ (by omega), p1], by rw [Nat.zero_add, cc _ (by omega), p2], i1, i2, m1, m1', m2, m2'⟩
end Go.Proofs.Ytkjncjlombjlfaa

namespace Go.Proofs.Ytkjncjlombjlfaa
open Go.Proofs Go.RowKit Go.Shelf

attribute [local go_sem] Oper.semAt_some

def encPl (zs : List Int) (i : Nat) : Array Value := #[.int .i64 (i : Int), .int .i64 (Tm.endAt zs i : Int)]
/-- What the iterator reads. -/
def PlacesRd (Bt cap : Nat) (a : Option Addr) (zs : List Int) (W : World) : Prop := W.cell? ⟨Bt, 0, none⟩ = some (.slice a zs.length cap) ∧ Ints W.heap.size W a zs

end Go.Proofs.Ytkjncjlombjlfaa

namespace Go.Proofs.Ytkjncjlombjlfaa
open Go.Proofs Go.RowKit Go.Shelf Go.Maps

/-- What stands while steps come. -/
structure StInv (w2 : World) (B : Nat) (tv : Value) (l : StepL) (W : World) : Prop where
  out : ∃ v, Boxed W B 70 v ∧ NewT B W v l
  bP : Boxed W (B + 1) 33 tv
  kp : Below B w2 W
theorem StInv.own {w2 X Y : World} {B D : Nat} {tv : Value} {l : StepL} {row : Option Nat} (hB : B ≤ w2.heap.size) (hD : B ≤ D) (h : StInv w2 B tv l X) (hg : X.grownBy Y row) (hr : ∀ r, row = some r → D ≤ r ∧ ∃ o : Obj, X.heap[r]? = some o ∧ o.isCells = false) : StInv w2 B tv l Y := by
  obtain ⟨⟨v, hv, hN⟩, bP, kp⟩ := h
  exact ⟨⟨v, cells_own hv hg hr, hN.other hg (fun r e => (hr r e).2)⟩, cells_own bP hg hr, ⟨hg.os.trans kp.os, hg.tape.trans kp.tape, hg.output.trans kp.output, Nat.le_trans kp.size hg.size, fun k hk => (hg.block k (by have := kp.size; omega) (fun e => by have := (hr k e.symm).1; omega)).trans (kp.block k hk)⟩⟩
theorem StInv.below {w2 W W' : World} {B : Nat} {tv : Value} {l : StepL} (hB : B ≤ w2.heap.size) (h : StInv w2 B tv l W) (hb : Below W.heap.size W W') : StInv w2 B tv l W' := by
  obtain ⟨⟨v, hv, hN⟩, bP, kp⟩ := h
  exact ⟨⟨v, (hb.block _ hv.lt).trans hv, hN.below hb⟩, (hb.block _ bP.lt).trans bP, kp.trans (hb.mono (Nat.le_trans hB kp.size))⟩
end Go.Proofs.Ytkjncjlombjlfaa

namespace Go.Proofs.Ytkjncjlombjlfaa
open Go.Proofs Go.RowKit Go.Shelf Go.Maps

def Tm.passB (L : List Int) (i j : Int) (m : Nat) : Bool := decide (L[m]?.getD 0 < 0) || (decide (m = 0) && decide (i = j))

/-- What stands while pairs come. -/
structure PInv (w2 : World) (B : Nat) (tv : Value) (l : PairL) (W : World) : Prop where
  out : ∃ v, Boxed W B 23 v ∧ NewP B W v l
  bP : Boxed W (B + 1) 33 tv
  kp : Below B w2 W
theorem PInv.own {w2 X Y : World} {B D : Nat} {tv : Value} {l : PairL} {row : Option Nat} (hB : B ≤ w2.heap.size) (hD : B ≤ D) (h : PInv w2 B tv l X) (hg : X.grownBy Y row) (hr : ∀ r, row = some r → D ≤ r ∧ ∃ o : Obj, X.heap[r]? = some o ∧ o.isCells = false) : PInv w2 B tv l Y := by
  obtain ⟨⟨v, hv, hN⟩, bP, kp⟩ := h
  exact ⟨⟨v, cells_own hv hg hr, hN.other hg (fun r e => (hr r e).2)⟩, cells_own bP hg hr, ⟨hg.os.trans kp.os, hg.tape.trans kp.tape, hg.output.trans kp.output, Nat.le_trans kp.size hg.size, fun k hk => (hg.block k (by have := kp.size; omega) (fun e => by have := (hr k e.symm).1; omega)).trans (kp.block k hk)⟩⟩
theorem PInv.below {w2 W W' : World} {B : Nat} {tv : Value} {l : PairL} (hB : B ≤ w2.heap.size) (h : PInv w2 B tv l W) (hb : Below W.heap.size W W') : PInv w2 B tv l W' := by
  obtain ⟨⟨v, hv, hN⟩, bP, kp⟩ := h
  exact ⟨⟨v, (hb.block _ hv.lt).trans hv, hN.below hb⟩, (hb.block _ bP.lt).trans bP, kp.trans (hb.mono (Nat.le_trans hB kp.size))⟩
/-- What laps has found ahead of place m. -/
inductive Tm.Laps (L1 R1 L2 R2 : List Int) (pass : Nat → Bool) : Nat → PairL → Prop
  | zero : Tm.Laps L1 R1 L2 R2 pass 0 []
  | pass {m : Nat} {l : PairL} : Tm.Laps L1 R1 L2 R2 pass m l → pass m = true → Tm.Laps L1 R1 L2 R2 pass (m + 1) l
  | no {m : Nat} {l : PairL} {val : List (List Int)} : Tm.Laps L1 R1 L2 R2 pass m l → pass m = false → Tm.MeetSays [(Tm.part L1 m, L2)] 0 false val → Tm.Laps L1 R1 L2 R2 pass (m + 1) l
  | yes {m : Nat} {l : PairL} {val : List (List Int)} : Tm.Laps L1 R1 L2 R2 pass m l → pass m = false → Tm.MeetSays [(Tm.part L1 m, L2)] 0 true val → Tm.prtErr val L1 R1 (m : Int) R2 = 0 → Tm.Laps L1 R1 L2 R2 pass (m + 1) (l ++ [Tm.prtVal val L1 R1 (m : Int) R2])
theorem Tm.Laps.len {L1 R1 L2 R2 : List Int} {pass : Nat → Bool} {m : Nat} {l : PairL} (h : Tm.Laps L1 R1 L2 R2 pass m l) : l.length ≤ m := by
  induction h with
  | zero => exact Nat.le_refl _
  | pass _ _ ih => omega
  | no _ _ _ ih => omega
  | yes _ _ _ _ ih => rw [List.length_append]; simp; omega
/-- The error that laps tells. -/
def Tm.LapsErr (L1 R1 L2 R2 : List Int) (pass : Nat → Bool) (e : Int) : Prop := e ≠ 0 ∧ ∃ m l, m < L1.length ∧ Tm.Laps L1 R1 L2 R2 pass m l ∧ pass m = false ∧ ((∃ is val, Tm.MeetSays [(Tm.part L1 m, L2)] e is val) ∨ (∃ val, Tm.MeetSays [(Tm.part L1 m, L2)] 0 true val ∧ Tm.prtErr val L1 R1 (m : Int) R2 = e))
/-- What laps answers. -/
def Tm.LapsSays (L1 R1 L2 R2 : List Int) (pass : Nat → Bool) (e : Int) (ps : PairL) : Prop := (e = 0 ∧ Tm.Laps L1 R1 L2 R2 pass L1.length ps) ∨ (Tm.LapsErr L1 R1 L2 R2 pass e ∧ ps = [])

end Go.Proofs.Ytkjncjlombjlfaa

namespace Go.Proofs.Ytkjncjlombjlfaa
open Go.Proofs Go.RowKit Go.Shelf

/-- Is no operation one that defers? -/
def noDefer (ops : Array Oper) : Bool := ops.all fun o => match o.op with | .defer _ => false | _ => true
end Go.Proofs.Ytkjncjlombjlfaa

namespace Go.Proofs.Ytkjncjlombjlfaa
open Go.Proofs Go.RowKit Go.Shelf Go.Maps

attribute [local go_sem] Oper.semAt_some
attribute [local go_sem ↓] Go.wp_at_zero Go.wp_at_succ

/-- What holds ahead of place m. -/
structure LpAt (L1 R1 L2 R2 : List Int) (pass : Nat → Bool) (w2 : World) (B : Nat) (tv : Value) (m : Nat) (W : World) : Prop where
  inv : ∃ l, Tm.Laps L1 R1 L2 R2 pass m l ∧ PInv w2 B tv l W
/-- What holds where it is left. -/
structure LpOut (L1 R1 L2 R2 : List Int) (pass : Nat → Bool) (w : World) (n : Nat) (c : Code) (W : World) : Prop where
  ret : c = .ret
  kp : Below n w W
  bad : ∃ er, Tm.LapsErr L1 R1 L2 R2 pass er ∧ Boxed W (n + 1 + 1 + 1) 23 (.slice none 0 0) ∧ Boxed W (n + 1 + 1 + 1 + 1) 24 (.int .i64 er)

end Go.Proofs.Ytkjncjlombjlfaa

namespace Go.Proofs.Ytkjncjlombjlfaa
open Go.Proofs Go.RowKit Go.Shelf Go.Maps

/-- What pairs.Of answers. -/
def Tm.OfSays (rs : RuleL) (i j er : Int) (ps : PairL) : Prop :=
  (Tm.rulesErr rs ≠ 0 ∧ er = Tm.rulesErr rs ∧ ps = []) ∨
  (Tm.rulesErr rs = 0 ∧ ¬ (0 ≤ i ∧ i < (rs.length : Int) ∧ 0 ≤ j ∧ j < (rs.length : Int)) ∧ er = 5 ∧ ps = []) ∨
  (Tm.rulesErr rs = 0 ∧ ∃ a b : Nat, a < rs.length ∧ b < rs.length ∧ i = (a : Int) ∧ j = (b : Int) ∧ Tm.LapsSays (rs[a]?.getD ([], [])).1 (rs[a]?.getD ([], [])).2 (Tm.others (rs[b]?.getD ([], [])).1) (Tm.others (rs[b]?.getD ([], [])).2) (Tm.passB (rs[a]?.getD ([], [])).1 i j) er ps)
def OfAns (rs : RuleL) (i j : Int) (w : World) (e : Ending) (w' : World) : Prop := ∃ er ps v, Tm.OfSays rs i j er ps ∧ e = .returned (.tuple #[v, .int .i64 er]) ∧ NewP w.heap.size w' v ps ∧ Below w.heap.size w w'

end Go.Proofs.Ytkjncjlombjlfaa

namespace Go.Proofs.Ytkjncjlombjlfaa
open Go.Proofs Go.RowKit Go.Shelf Go.Maps

/-- What pairs.All has found ahead of rules i, j. -/
inductive Tm.AllTo (rs : RuleL) : Nat → Nat → PairL → Prop
  | zero : Tm.AllTo rs 0 0 []
  | next {i j : Nat} {l ps : PairL} : Tm.AllTo rs i j l → j < rs.length → Tm.OfSays rs (i : Int) (j : Int) 0 ps → Tm.AllTo rs i (j + 1) (l ++ ps)
  | row {i : Nat} {l : PairL} : Tm.AllTo rs i rs.length l → Tm.AllTo rs (i + 1) 0 l
/-- What pairs.All answers. -/
def Tm.AllPSays (rs : RuleL) (er : Int) (ps : PairL) : Prop :=
  (∃ l, Tm.AllTo rs rs.length 0 l ∧ ((l.length ≤ 40 ∧ er = 0 ∧ ps = l) ∨ (40 < l.length ∧ er = 2 ∧ ps = []))) ∨
  (∃ i j l qs, i < rs.length ∧ j < rs.length ∧ Tm.AllTo rs i j l ∧ Tm.OfSays rs (i : Int) (j : Int) er qs ∧ er ≠ 0 ∧ ps = [])
theorem Tm.OfSays.len {rs : RuleL} {i j : Nat} {ps : PairL} (h : Tm.OfSays rs (i : Int) (j : Int) 0 ps) : rs.length ≤ 8 ∧ ps.length ≤ 30 := by
  rcases h with ⟨h1, h2, _⟩ | ⟨_, _, h2, _⟩ | ⟨h1, a, b, ha, hb, _, _, h3⟩
  · exact absurd h2.symm h1
  · omega
  · obtain ⟨h8, hall⟩ := Tm.rulesErr_ok h1
    obtain ⟨eL, _⟩ := Tm.ruleErr_ok (hall a ha)
    have := Tm.err_len eL
    refine ⟨h8, ?_⟩
    rcases h3 with ⟨_, h4⟩ | ⟨h4, _⟩
    · have := h4.len
      omega
    · exact absurd rfl h4.1
theorem Tm.AllTo.len {rs : RuleL} {i j : Nat} {l : PairL} (h : Tm.AllTo rs i j l) : j ≤ rs.length ∧ l.length ≤ 30 * (i * rs.length + j) := by
  induction h with
  | zero => simp
  | next h1 h2 h3 ih =>
    have := h3.len.2
    rw [List.length_append]
    refine ⟨h2, ?_⟩
    have := ih.2
    rw [Nat.mul_add] at this ⊢
    omega
  | row h1 ih =>
    refine ⟨Nat.zero_le _, ?_⟩
    have := ih.2
    rw [Nat.add_zero, Nat.add_mul, Nat.one_mul]
    exact this

end Go.Proofs.Ytkjncjlombjlfaa
