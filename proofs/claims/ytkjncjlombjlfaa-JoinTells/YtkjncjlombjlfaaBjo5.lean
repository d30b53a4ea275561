/-
  (*sides).above, wherever it is asked; order.Check; order.Above. · slices.Index, slices.Contains of a list of numbers; order.Check; order.Above. · order.Above. · hasplaw.rank, orderBegun. · hasplaw.choose: of n things, one. · PLAIN MATHEMATICS of OrderTrue and OrderKeeps: of right ones no error comes; what Above answers is an order. · PLAIN MATHEMATICS of fitting: what comes is a list of terms; by it the one becomes the other, without an error. · hasplaw.choose, which number it is; PLAIN MATHEMATICS of OrderKeeps: ranks differ; without variables one of two that differ is above; who is above stays above. · rules.checkOne's two tests, slices.ContainsFunc of them; slices.Contains of a term. · rules.checkOne; rules.Check. · Rules in memory. · Rules in memory; rules.Check. · From the frame's word on a slice of rules (or of pairs) that came in to ours. · From the frame's word on one pair that came in to ours. · pairs.apart: a rule with its variables made others. · Two values in a box; pairs.apart. · PLAIN MATHEMATICS of places that are tied: which place stands for which. · THE WEB IN MEMORY; (*web).head. · PLAIN MATHEMATICS: what places hold, what becomes of it, and what tying does. · PLAIN MATHEMATICS: what one tie does. · (*web).tie. · A result that lies in a box. · (*web).tieParts; (*web).tie, whatever is tied already. · PLAIN MATHEMATICS: what places become, if nothing turns back; that it makes the same of what is tied, and whatever else does is made of it; and there is but one such list. · PLAIN MATHEMATICS of turning back: each place that is begun is larger than the one that is asked. · (*web).leadsBack: at a place that has been seen. · (*web).leadsBack: at a new place; whatever has been seen; (*web).turnsBack. · (*web).leadsBack, whatever has been seen; (*web).turnsBack. · PLAIN MATHEMATICS: where nothing turns back there is a list of what variables become; all that is asked of it. · (*web).lay: a term behind all others. · PLAIN MATHEMATICS: a term is laid behind all others: what stood there stands as it stood. · 'append(s, y)' of one sign within a fence: which block it lies in then; lists of parts laid one behind the other.
-/
import Derived.Test.YtkjncjlombjlfaaBjo4
import Derived.Test.YtkjncjlombjlfaaBjo1
import Derived.Test.YtkjncjlombjlfaaBjo3
import Derived.Deep.SlicePairs
import Derived.ChangeOld
import Derived.Deep.RegionHeld3
import Derived.Deep.QuietTactic
import Derived.BigQuiet
import Derived.OwnWalkIn
namespace Go.Proofs.Ytkjncjlombjlfaa
open Go.Proofs Go.RowKit Go.Shelf Go.Maps

end Go.Proofs.Ytkjncjlombjlfaa

namespace Go.Proofs.Ytkjncjlombjlfaa
open Go.Proofs Go.RowKit Go.Shelf Go.Maps

/-- Is a number among them? -/
def Tm.hasB (zs : List Int) (x : Int) : Bool := decide (x ∈ zs)
/-- E1. -/
def Tm.rankErr (rk : List Int) : Int := if rk.length = 6 then (if (List.range 6).all (fun n => Tm.hasB rk (n : Int)) = true then 0 else 3) else 1
end Go.Proofs.Ytkjncjlombjlfaa

namespace Go.Proofs.Ytkjncjlombjlfaa
open Go.Proofs Go.RowKit Go.Shelf Go.Maps

/-- E1, E2: Above's error and answer. -/
def Tm.aboveErr (rk za zb : List Int) : Int := if Tm.rankErr rk = 0 then (if Tm.err za = 0 then Tm.err zb else Tm.err za) else Tm.rankErr rk
def Tm.aboveVal (rk za zb : List Int) : Bool := if Tm.aboveErr rk za zb = 0 then Tm.above (Tm.rankOf rk) za zb else false
end Go.Proofs.Ytkjncjlombjlfaa

namespace Go.Proofs.Ytkjncjlombjlfaa
open Go.Proofs Go.RowKit Go.Shelf Go.Maps

def rk6 : List Int := [0, 1, 2, 3, 4, 5]
end Go.Proofs.Ytkjncjlombjlfaa

namespace Go.Proofs.Ytkjncjlombjlfaa
open Go.Proofs Go.RowKit Go.Shelf

end Go.Proofs.Ytkjncjlombjlfaa

namespace Go.Proofs.Ytkjncjlombjlfaa
open Go.Proofs Go.RowKit Go.Shelf Go.Maps

end Go.Proofs.Ytkjncjlombjlfaa

namespace Go.Proofs.Ytkjncjlombjlfaa
open Go.Proofs Go.RowKit Go.Shelf

theorem Tm.fit_terms (p t : List Int) (ht : Tm.err t = 0) : ∀ (n i k : Nat) (m m' : Asg), p.length - i = n → i ≤ p.length → Against p t i k → (∀ x z, m x = some z → Tm.err z = 0) → Tm.fitGo t (p.drop i) k m = some m' → ∀ x z, m' x = some z → Tm.err z = 0 := by
  intro n
  induction n with
  | zero =>
    intro i k m m' hn hi ha hm h
    obtain rfl : i = p.length := by omega
    rw [List.drop_length, Tm.fitGo_nil] at h
    cases h
    exact hm
  | succ n ih =>
    intro i k m m' hn hi ha hm h
    have hlt : i < p.length := by omega
    have hk := ha.pos hlt
    rw [List.drop_eq_getElem_cons hlt, Tm.fitGo] at h
    by_cases hs : p[i] < 0
    · rw [if_pos hs] at h
      by_cases hc : (m p[i]).isSome = true ∧ m p[i] ≠ some (Tm.part t k)
      · rw [if_pos hc] at h; cases h
      · rw [if_neg hc] at h
        refine ih (i + 1) (Tm.endAt t k) _ m' (by omega) (by omega) (ha.var hlt (by simpa [hlt] using hs)) (fun x z hx => ?_) h
        by_cases e : x = p[i]
        · subst e; rw [upd_same] at hx; cases hx; exact Tm.part_err ht hk
        · rw [upd_other _ _ e] at hx; exact hm x z hx
    · rw [if_neg hs] at h
      by_cases hu : t[k]?.getD 0 = p[i]
      · rw [if_pos hu] at h
        exact ih (i + 1) (k + 1) m m' (by omega) (by omega) (ha.sym hlt (by simpa [hlt] using hu)) hm h
      · rw [if_neg hu] at h; cases h
theorem Tm.firstErr_zero : ∀ (l : List (List Int)), (∀ t ∈ l, Tm.err t = 0) → Tm.firstErr l = 0 := by
  intro l
  induction l with
  | nil => intro _; rfl
  | cons t l ih =>
    intro h
    unfold Tm.firstErr
    rw [if_pos (h t (by simp))]
    exact ih (fun x hx => h x (by simp [hx]))
theorem Tm.err_var (i : Nat) (h : i < 8) : Tm.err [-1 - (i : Int)] = 0 := by
  refine Tm.err_ok (by simp) ?_ ?_
  · simp [Tm.known]; omega
  · rw [show (1 : Nat) = 0 + 1 from rfl, Tm.run_cons, Tm.room_neg (by omega), Tm.run_zero]; rfl
theorem Tm.subErr_fitL {p t : List Int} {m : Asg} (hp : Tm.err p = 0) (ht : Tm.err t = 0) (h : Tm.fit p t = some m) : Tm.subErr (Tm.fitL m 8) = 0 := by
  have hm := Tm.fit_terms p t ht _ 0 0 (fun _ => none) m rfl (by omega) (Against.start hp ht) (fun x z hx => by cases hx) (by simpa [Tm.fit] using h)
  unfold Tm.subErr
  rw [if_pos (Tm.fitL_length _ _)]
  refine Tm.firstErr_zero _ fun x hx => ?_
  unfold Tm.fitL at hx
  rw [List.mem_map] at hx
  obtain ⟨i, hi, rfl⟩ := hx
  rw [List.mem_range] at hi
  rw [if_pos hi]
  cases e : m (-1 - (i : Int)) with
  | none => exact Tm.err_var i hi
  | some z => exact hm _ z e
end Go.Proofs.Ytkjncjlombjlfaa

namespace Go.Proofs.Ytkjncjlombjlfaa
open Go.Proofs Go.RowKit Go.Shelf Go.Maps

/-- No variable in it. -/
def Tm.freeB (x : List Int) : Bool := x.all fun s => decide (0 ≤ s)
end Go.Proofs.Ytkjncjlombjlfaa

namespace Go.Proofs.Ytkjncjlombjlfaa
open Go.Proofs Go.RowKit Go.Shelf Go.Maps

/-- Is the sign a variable below those of rules? -/
def foreignB (s : Int) : Bool := decide (s < -4)
/-- Is the sign a variable that does not stand in L? -/
def freeIn (L : List Int) (s : Int) : Bool := decide (s < 0) && !Tm.hasB L s

end Go.Proofs.Ytkjncjlombjlfaa

namespace Go.Proofs.Ytkjncjlombjlfaa
open Go.Proofs Go.RowKit Go.Shelf Go.Maps

/-- F1, of one rule. -/
def Tm.ruleErr (L R : List Int) : Int :=
  if Tm.err L = 0 then (if Tm.err R = 0 then (if L.any foreignB = true then 3 else if R.any foreignB = true then 3 else if L[0]?.getD 0 < 0 then 1 else if R.any (freeIn L) = true then 4 else 0) else Tm.err R) else Tm.err L

end Go.Proofs.Ytkjncjlombjlfaa

namespace Go.Proofs.Ytkjncjlombjlfaa
open Go.Proofs Go.RowKit Go.Shelf Go.Maps

abbrev RuleL := List (List Int × List Int)
/-- A SLICE OF RULES THAT CAN BE READ. -/
def RulesAt (n : Nat) (W : World) (a : Option Addr) (rs : RuleL) : Prop :=
  ∀ k, k < rs.length → ∃ b off, a = some ⟨b, off, none⟩ ∧ b < n ∧ ∃ aL cL aR cR, W.cell? ⟨b, off + k * 2, none⟩ = some (.slice aL (rs[k]?.getD ([], [])).1.length cL) ∧ W.cell? ⟨b, off + k * 2 + 1, none⟩ = some (.slice aR (rs[k]?.getD ([], [])).2.length cR) ∧
    Ints n W aL (rs[k]?.getD ([], [])).1 ∧ Ints n W aR (rs[k]?.getD ([], [])).2 ∧ (rs[k]?.getD ([], [])).1.length ≤ cL ∧ cL ≤ maxLen ∧ (rs[k]?.getD ([], [])).2.length ≤ cR ∧ cR ≤ maxLen
theorem RulesAt.below {n : Nat} {A B : World} (h : Below n A B) {a : Option Addr} {rs : RuleL} (hi : RulesAt n A a rs) : RulesAt n B a rs := fun k hk => by
  obtain ⟨b, off, e, hb, aL, cL, aR, cR, h1, h2, h3, h4, r⟩ := hi k hk
  exact ⟨b, off, e, hb, aL, cL, aR, cR, (h.cell (p := ⟨b, off + k * 2, none⟩) hb).trans h1, (h.cell (p := ⟨b, off + k * 2 + 1, none⟩) hb).trans h2, h3.below h, h4.below h, r⟩
theorem RulesAt.mono {n m : Nat} (h : n ≤ m) {W : World} {a : Option Addr} {rs : RuleL} (hi : RulesAt n W a rs) : RulesAt m W a rs := fun k hk => by
  obtain ⟨b, off, e, hb, aL, cL, aR, cR, h1, h2, h3, h4, r⟩ := hi k hk
  exact ⟨b, off, e, by omega, aL, cL, aR, cR, h1, h2, h3.mono h, h4.mono h, r⟩

end Go.Proofs.Ytkjncjlombjlfaa

namespace Go.Proofs.Ytkjncjlombjlfaa
open Go.Proofs Go.RowKit Go.Shelf Go.Maps

/-- The first error of rules. -/
def Tm.firstRule : RuleL → Int
  | [] => 0
  | r :: l => if Tm.ruleErr r.1 r.2 = 0 then Tm.firstRule l else Tm.ruleErr r.1 r.2
/-- F1. -/
def Tm.rulesErr (rs : RuleL) : Int := if 8 < rs.length then 2 else Tm.firstRule rs
end Go.Proofs.Ytkjncjlombjlfaa

namespace Go.Proofs.Ytkjncjlombjlfaa
open Go.Proofs Go.RowKit Go.Shelf Go.Deep Go.ChangeShapes Go.WideShapes

def RulesIn (w : World) (a : Option Addr) (len cap : Nat) : Prop := ∃ rs : RuleL, rs.length = len ∧ RulesAt w.heap.size w a rs ∧ len ≤ cap ∧ cap ≤ maxLen
end Go.Proofs.Ytkjncjlombjlfaa

namespace Go.Proofs.Ytkjncjlombjlfaa
open Go.Proofs Go.RowKit Go.Shelf Go.Deep Go.ChangeShapes Go.WideShapes

set_option maxRecDepth 20000

def PairIn (w : World) (v : Value) : Prop := ∃ (P Q : List Int) (aP aQ : Option Addr) (cP cQ : Nat), v = .agg #[.slice aP P.length cP, .slice aQ Q.length cQ] ∧ Ints w.heap.size w aP P ∧ Ints w.heap.size w aQ Q ∧ P.length ≤ cP ∧ cP ≤ maxLen ∧ Q.length ≤ cQ ∧ cQ ≤ maxLen
end Go.Proofs.Ytkjncjlombjlfaa

namespace Go.Proofs.Ytkjncjlombjlfaa
open Go.Proofs Go.RowKit Go.Shelf Go.Maps

def Tm.oth (s : Int) : Int := if s < 0 then s - 4 else s
def Tm.others (t : List Int) : List Int := t.map Tm.oth
theorem Tm.others_length (t : List Int) : (Tm.others t).length = t.length := by simp [Tm.others]
end Go.Proofs.Ytkjncjlombjlfaa

namespace Go.Proofs.Ytkjncjlombjlfaa
open Go.Proofs Go.RowKit Go.Shelf Go.Maps

/-- Two values in a box. -/
def Box2 (W : World) (B : Nat) (t : TypeId) (x y : Value) : Prop := W.heap[B]? = some (.cells #[x, y] t (0, 0))
theorem Box2.lt {W : World} {B : Nat} {t : TypeId} {x y : Value} (h : Box2 W B t x y) : B < W.heap.size := (Array.getElem?_eq_some_iff.1 h).1
theorem Box2.cell0 {W : World} {B : Nat} {t : TypeId} {x y : Value} (h : Box2 W B t x y) : W.cell? ⟨B, 0, none⟩ = some x := by simp [World.cell?, show W.heap[B]? = _ from h]
theorem Box2.new (W : World) (t : TypeId) (x y : Value) : Box2 (W.alloc (.cells #[x, y] t)) W.heap.size t x y := World.alloc_heap_new W _
theorem Box2.kept {W W' : World} {row : Option Nat} {B : Nat} {t : TypeId} {x y : Value} (h : Box2 W B t x y) (hg : W.grownBy W' row) (hne : some B ≠ row) : Box2 W' B t x y := (hg.block B h.lt hne).trans h
theorem Box2.below {W W' : World} {n B : Nat} {t : TypeId} {x y : Value} (h : Box2 W B t x y) (hb : Below n W W') (hn : B < n) : Box2 W' B t x y := (hb.block B hn).trans h
theorem Box2.alloc {W : World} {B : Nat} {t : TypeId} {x y : Value} (h : Box2 W B t x y) (o : Obj) : Box2 (W.alloc o) B t x y := h.kept (World.grownBy_alloc W o none) (by simp)
theorem Box2.other {W : World} {B : Nat} {t : TypeId} {x y : Value} (h : Box2 W B t x y) {p : Addr} (hp : B ≠ p.block) (u : Value) : Box2 (W.setCell p u) B t x y := (Below.heap_setCell W p u B hp).trans h
/-- What stands behind apart's last region. -/
def ApR (w : World) (L R : List Int) (F : Value → Value → Act) (e : Exit) (a' : Act) (w4 : World) : Prop :=
  e = .normal ∧ ∃ v u, a' = F v u ∧ New w.heap.size w4 v (Tm.others L) ∧ New w.heap.size w4 u (Tm.others R) ∧ Below w.heap.size w w4 ∧ Box2 w4 (w.heap.size + 1) 42 v u
theorem ApR.panic {w : World} {L R : List Int} {F : Value → Value → Act} {c : _} {a' : Act} {w4 : World} {G : Prop} (H : ApR w L R F (.panic c) a' w4) : G := by
  cases H.1

end Go.Proofs.Ytkjncjlombjlfaa

namespace Go.Proofs.Ytkjncjlombjlfaa
open Go.Proofs Go.RowKit Go.Shelf

namespace Wb
def sg (zs : List Int) (p : Nat) : Int := zs[p]?.getD 0
/-- Each variable stands at its own place first of all; behind them terms. -/
structure Good (zs : List Int) : Prop where
  len : zs.length ≤ 5000
  eight : 8 ≤ zs.length
  known : ∀ p, p < zs.length → -8 ≤ sg zs p ∧ sg zs p < 6
  vars : ∀ i, i < 8 → sg zs i = -1 - (i : Int)
  ends : ∀ p, p < zs.length → Tm.endAt zs p ≤ zs.length
/-- The place that a place is looked up at. -/
def can (zs : List Int) (p : Nat) : Nat := if sg zs p < 0 then (-1 - sg zs p).toNat else p
theorem can_pos {zs : List Int} {p : Nat} (h : 0 ≤ sg zs p) : can zs p = p := by unfold can; rw [if_neg (by omega)]
theorem can_lt {zs : List Int} (G : Good zs) {p : Nat} (h : p < zs.length) : can zs p < zs.length := by
  have := G.known p h
  have := G.eight
  unfold can
  split <;> omega
theorem sg_can {zs : List Int} (G : Good zs) {p : Nat} (h : p < zs.length) : sg zs (can zs p) = sg zs p := by
  by_cases hs : sg zs p < 0
  · unfold can
    rw [if_pos hs]
    have := G.known p h
    rw [G.vars _ (by omega)]
    omega
  · rw [can_pos (by omega)]
theorem can_can {zs : List Int} (G : Good zs) {p : Nat} (h : p < zs.length) : can zs (can zs p) = can zs p := by
  have e := sg_can G h
  by_cases hs : sg zs p < 0
  · rw [show can zs (can zs p) = (-1 - sg zs (can zs p)).toNat from by conv => lhs; rw [can]
                                                                       rw [if_pos (by rw [e]; exact hs)], e]
    unfold can; rw [if_pos hs]
  · rw [can_pos (p := can zs p) (by rw [e]; omega)]

/-- T: which place each is tied to; h: which place stands for each (of places that are looked up at). -/
structure St (zs : List Int) (T : Nat → Option Nat) (h : Nat → Nat) : Prop where
  root : ∀ p, p < zs.length → can zs p = p → h p < zs.length ∧ can zs (h p) = h p ∧ h (h p) = h p
  free : ∀ p, p < zs.length → can zs p = p → (T p = none ↔ h p = p)
  next : ∀ p q, p < zs.length → can zs p = p → T p = some q → q < zs.length ∧ can zs q = q ∧ h q = h p
  down : ∃ st : Nat → Nat, ∀ p q, p < zs.length → can zs p = p → T p = some q → st q < st p
  up : ∀ p, p < zs.length → can zs p = p → sg zs p ≤ sg zs (h p)
  out : ∀ p, zs.length ≤ p → h p = p ∧ T p = none
theorem St.start (zs : List Int) : St zs (fun _ => none) (fun p => p) :=
  ⟨fun p h1 h2 => ⟨h1, h2, rfl⟩, fun p _ _ => by simp, fun p q _ _ h => by simp at h, ⟨fun _ => 0, fun p q _ _ h => by simp at h⟩, fun p _ _ => Int.le_refl _, fun _ _ => ⟨rfl, rfl⟩⟩
def updN (T : Nat → Option Nat) (o n : Nat) : Nat → Option Nat := fun p => if p = o then some n else T p
def mg (h : Nat → Nat) (o n : Nat) : Nat → Nat := fun p => if h p = o then n else h p
/-- How many places stand for themselves. -/
def rt (zs : List Int) (h : Nat → Nat) : Nat := ((List.range zs.length).filter fun p => decide (can zs p = p ∧ h p = p)).length
theorem filter_lt {α : Type} (l : List α) (f g : α → Bool) (hle : ∀ x ∈ l, f x = true → g x = true) (x : α) (hx : x ∈ l) (h1 : f x = false) (h2 : g x = true) : (l.filter f).length < (l.filter g).length := by
  have hmono : ∀ (l : List α), (∀ x ∈ l, f x = true → g x = true) → (l.filter f).length ≤ (l.filter g).length := by
    intro l
    induction l with
    | nil => intro _; simp
    | cons y l ih =>
      intro h
      have := ih (fun x hx => h x (by simp [hx]))
      rw [List.filter_cons, List.filter_cons]
      by_cases hf : f y = true
      · rw [if_pos hf, if_pos (h y (by simp) hf)]; simp; omega
      · rw [if_neg hf]; split <;> (try simp) <;> omega
  induction l with
  | nil => simp at hx
  | cons y l ih =>
    rw [List.filter_cons, List.filter_cons]
    rcases List.mem_cons.1 hx with e | hm
    · subst e
      have := hmono l (fun x hx => hle x (by simp [hx]))
      rw [if_neg (by rw [h1]; decide), if_pos h2]
      simp; omega
    · have := ih (fun x hx => hle x (by simp [hx])) hm
      by_cases hf : f y = true
      · rw [if_pos hf, if_pos (hle y (by simp) hf)]; simp; omega
      · rw [if_neg hf]; split <;> (try simp) <;> omega
/-- Which place stands for a place. -/
def hd (zs : List Int) (h : Nat → Nat) (p : Nat) : Nat := h (can zs p)
theorem hd_lt {zs : List Int} (G : Good zs) {T : Nat → Option Nat} {h : Nat → Nat} (S : St zs T h) {p : Nat} (hp : p < zs.length) : hd zs h p < zs.length ∧ can zs (hd zs h p) = hd zs h p ∧ h (hd zs h p) = hd zs h p :=
  S.root _ (can_lt G hp) (can_can G hp)
theorem hd_up {zs : List Int} (G : Good zs) {T : Nat → Option Nat} {h : Nat → Nat} (S : St zs T h) {p : Nat} (hp : p < zs.length) : sg zs p ≤ sg zs (hd zs h p) := by
  have := S.up _ (can_lt G hp) (can_can G hp)
  rw [sg_can G hp] at this
  exact this
end Wb

end Go.Proofs.Ytkjncjlombjlfaa

namespace Go.Proofs.Ytkjncjlombjlfaa
open Go.Proofs Go.RowKit Go.Shelf Go.Maps

section
variable {F : Fence} {nF : Nat} (w : World) {ops : Array Oper} {rest : List Oper} {o : Oper} {a : Act} {Q : Exit → Act → World → Prop}
end

/-- BLOCK Bw IS A WEB: its signs zs at a, its ties T in block Bm. -/
structure WebAt (W : World) (Bw Bm : Nat) (a : Option Addr) (cap : Nat) (zs : List Int) (N : Nat) (T : Nat → Option Nat) : Prop where
  web : W.heap[Bw]? = some (.cells #[.slice a zs.length cap, .map (some Bm)] 117 (0, 0))
  ints : Ints W.heap.size W a zs
  ties : ∃ M, IntMap W Bm N M ∧ ∀ p : Nat, M (p : Int) = (T p).map fun q => .int .i64 (q : Int)
theorem WebAt.cell0 {W : World} {Bw Bm : Nat} {a : Option Addr} {cap : Nat} {zs : List Int} {N : Nat} {T : Nat → Option Nat} (h : WebAt W Bw Bm a cap zs N T) : W.cell? ⟨Bw, 0, none⟩ = some (.slice a zs.length cap) := (cell_at h.web 0).trans rfl
theorem WebAt.below {W W' : World} {Bw Bm : Nat} {a : Option Addr} {cap : Nat} {zs : List Int} {N : Nat} {T : Nat → Option Nat} (h : WebAt W Bw Bm a cap zs N T) (hB : Below W.heap.size W W') : WebAt W' Bw Bm a cap zs N T := by
  refine ⟨(hB.block Bw (Array.getElem?_eq_some_iff.1 h.web).1).trans h.web, (h.ints.below hB).mono hB.size, ?_⟩
  obtain ⟨M, hM, hT⟩ := h.ties
  exact ⟨M, hM.keep (hB.block Bm hM.lt), hT⟩
theorem WebAt.lt {W : World} {Bw Bm : Nat} {a : Option Addr} {cap : Nat} {zs : List Int} {N : Nat} {T : Nat → Option Nat} (h : WebAt W Bw Bm a cap zs N T) : Bw < W.heap.size ∧ Bm < W.heap.size := by
  obtain ⟨M, hM, hT⟩ := h.ties
  exact ⟨(Array.getElem?_eq_some_iff.1 h.web).1, hM.lt⟩
attribute [local go_sem] Oper.semAt_some

end Go.Proofs.Ytkjncjlombjlfaa

namespace Go.Proofs.Ytkjncjlombjlfaa
open Go.Proofs Go.RowKit Go.Shelf

namespace Wb
abbrev Sb := Int → List Int
def App (θ : Sb) (t : List Int) : List Int := t.flatMap fun s => if s < 0 then θ s else [s]
/-- Each variable becomes a term. -/
def TermSb (θ : Sb) : Prop := ∀ s, s < 0 → Tm.run (θ s) 1 = (θ s).length
theorem App_nil (θ : Sb) : App θ [] = [] := rfl
theorem App_cons (θ : Sb) (s : Int) (l : List Int) : App θ (s :: l) = (if s < 0 then θ s else [s]) ++ App θ l := by simp [App]
theorem App_append (θ : Sb) (l r : List Int) : App θ (l ++ r) = App θ l ++ App θ r := by simp [App]
theorem App_flatten (θ : Sb) (l : List (List Int)) : App θ l.flatten = (l.map (App θ)).flatten := by
  induction l with
  | nil => rfl
  | cons x l ih => rw [List.flatten_cons, App_append, ih, List.map_cons, List.flatten_cons]
theorem room_var {s : Int} (h : s < 0) : Tm.room s = 0 := by unfold Tm.room; rw [if_neg (by omega), if_neg (by omega)]
theorem App_run {θ : Sb} (hθ : TermSb θ) : ∀ (t : List Int) (n : Nat), Tm.run t n = t.length → Tm.run (App θ t) n = (App θ t).length := by
  intro t
  induction t with
  | nil => intro n hr; rw [Tm.run_nil] at hr; subst hr; rw [List.length_nil, Tm.run_zero]; rfl
  | cons s l ih =>
    intro n hr
    cases n with
    | zero => rw [Tm.run_zero, List.length_cons] at hr; omega
    | succ n =>
      rw [Tm.run_cons, List.length_cons] at hr
      rw [App_cons]
      by_cases hs : s < 0
      · rw [room_var hs, Nat.add_zero] at hr
        rw [if_pos hs, show n + 1 = 1 + n from by omega, Tm.run_add, Tm.run_app _ _ 1 (by rw [hθ s hs]; omega), hθ s hs, List.drop_left, ih n (by omega), List.length_append]
      · rw [if_neg hs, List.singleton_append, Tm.run_cons, List.length_cons, ih _ (by omega)]
        omega

/-- What stands at a place; the places of its parts. -/
def cont (zs : List Int) (p : Nat) : List Int := Tm.part zs p
def kids (zs : List Int) (p : Nat) : List Nat := (List.range (Tm.room (sg zs p))).map (Tm.pos zs p)
theorem kids_length (zs : List Int) (p : Nat) : (kids zs p).length = Tm.room (sg zs p) := by simp [kids]
theorem pos_end {zs : List Int} {p : Nat} (hp : p < zs.length) : Tm.endAt zs p = Tm.pos zs p (Tm.room (sg zs p)) := Tm.endAt_in zs p hp
theorem pos_lt {zs : List Int} (k : Nat) {i j : Nat} (h : i < j) : Tm.pos zs k i < Tm.pos zs k j := by
  have h1 := Tm.pos_mono zs k (i + 1) j h
  have h2 := Tm.pos_succ zs k i
  have h3 := Tm.endAt_gt zs (Tm.pos zs k i)
  omega
theorem kid_lt {zs : List Int} (G : Good zs) {p i : Nat} (hp : p < zs.length) (hi : i < Tm.room (sg zs p)) : Tm.pos zs p i < zs.length := by
  have h1 := G.ends p hp
  rw [pos_end hp] at h1
  have := pos_lt (zs := zs) p hi
  omega
theorem kids_flat {zs : List Int} {p : Nat} : ∀ m, Tm.pos zs p m ≤ zs.length → (zs.drop (p + 1)).take (Tm.pos zs p m - (p + 1)) = (((List.range m).map (Tm.pos zs p)).map (cont zs)).flatten := by
  intro m
  induction m with
  | zero => intro _; rw [Tm.pos_zero]; simp
  | succ m ih =>
    intro h
    have h1 := Tm.pos_succ zs p m
    have h2 := Tm.pos_gt zs p m
    have h3 := Tm.endAt_gt zs (Tm.pos zs p m)
    rw [List.range_succ, List.map_append, List.map_append, List.flatten_append, ← ih (by omega)]
    simp only [List.map_cons, List.map_nil, List.flatten_cons, List.flatten_nil, List.append_nil]
    unfold cont Tm.part
    rw [h1, show Tm.endAt zs (Tm.pos zs p m) - (p + 1) = (Tm.pos zs p m - (p + 1)) + (Tm.endAt zs (Tm.pos zs p m) - Tm.pos zs p m) from by omega, List.take_add, List.drop_drop, show p + 1 + (Tm.pos zs p m - (p + 1)) = Tm.pos zs p m from by omega]
theorem cont_eq {zs : List Int} (G : Good zs) {p : Nat} (hp : p < zs.length) : cont zs p = sg zs p :: ((kids zs p).map (cont zs)).flatten := by
  have h1 := G.ends p hp
  have h2 := Tm.endAt_gt zs p
  rw [show ((kids zs p).map (cont zs)).flatten = (zs.drop (p + 1)).take (Tm.pos zs p (Tm.room (sg zs p)) - (p + 1)) from (kids_flat _ (by rw [← pos_end hp]; exact h1)).symm, ← pos_end hp]
  unfold cont Tm.part
  rw [show Tm.endAt zs p - p = (Tm.endAt zs p - (p + 1)) + 1 from by omega, List.drop_eq_getElem_cons hp, List.take_succ_cons]
  congr 1
  simp [sg, hp]
theorem cont_run {zs : List Int} (G : Good zs) {p : Nat} (hp : p < zs.length) : Tm.run (cont zs p) 1 = (cont zs p).length := by
  have h1 := G.ends p hp
  unfold Tm.endAt at h1
  have hl : Tm.run (zs.drop p) 1 ≤ (zs.drop p).length := by rw [List.length_drop]; omega
  have := Tm.run_take (zs.drop p) 1 hl
  unfold cont Tm.part Tm.endAt
  rw [show p + Tm.run (zs.drop p) 1 - p = Tm.run (zs.drop p) 1 from by omega, this, List.length_take]
  omega
theorem cont_var {zs : List Int} (G : Good zs) {p : Nat} (hp : p < zs.length) (hs : sg zs p < 0) : cont zs p = [sg zs p] := by
  rw [cont_eq G hp, show kids zs p = [] from by unfold kids; rw [room_var hs]; rfl]; rfl
theorem cont_can {zs : List Int} (G : Good zs) {p : Nat} (hp : p < zs.length) : cont zs (can zs p) = cont zs p := by
  by_cases hs : sg zs p < 0
  · rw [cont_var G hp hs, cont_var G (can_lt G hp) (by rw [sg_can G hp]; exact hs), sg_can G hp]
  · rw [can_pos (by omega)]

theorem flatten_inj : ∀ (l l' : List (List Int)), (∀ x ∈ l, Tm.run x 1 = x.length) → (∀ x ∈ l', Tm.run x 1 = x.length) → l.length = l'.length → l.flatten = l'.flatten → l = l' := by
  intro l
  induction l with
  | nil => intro l' _ _ h _; cases l' with
    | nil => rfl
    | cons x l' => simp at h
  | cons x l ih =>
    intro l' h1 h2 h3 h4
    cases l' with
    | nil => simp at h3
    | cons y l' =>
      rw [List.flatten_cons, List.flatten_cons] at h4
      have hx := h1 x (by simp)
      have hy := h2 y (by simp)
      have e1 := Tm.run_app x l.flatten 1 (by omega)
      have e2 := Tm.run_app y l'.flatten 1 (by omega)
      rw [h4, e2] at e1
      obtain ⟨a, b⟩ := List.append_inj h4 (by omega)
      subst a
      rw [ih l' (fun z hz => h1 z (by simp [hz])) (fun z hz => h2 z (by simp [hz])) (by simpa using h3) b]

theorem App_cont {zs : List Int} (G : Good zs) (θ : Sb) {p : Nat} (hp : p < zs.length) (hs : 0 ≤ sg zs p) : App θ (cont zs p) = sg zs p :: ((kids zs p).map fun k => App θ (cont zs k)).flatten := by
  rw [cont_eq G hp, App_cons, if_neg (by omega), App_flatten, List.map_map]
  rfl
theorem kids_get {zs : List Int} {p i : Nat} (hi : i < Tm.room (sg zs p)) : (kids zs p)[i]? = some (Tm.pos zs p i) := by simp [kids, hi]
/-- What becomes the same of two symbols has the same symbol, and parts that become the same. -/
theorem kids_eq {zs : List Int} (G : Good zs) {θ : Sb} (hθ : TermSb θ) {p q : Nat} (hp : p < zs.length) (hq : q < zs.length) (sp : 0 ≤ sg zs p) (sq : 0 ≤ sg zs q) (h : App θ (cont zs p) = App θ (cont zs q)) :
    sg zs p = sg zs q ∧ ∀ i, i < Tm.room (sg zs p) → App θ (cont zs (Tm.pos zs p i)) = App θ (cont zs (Tm.pos zs q i)) := by
  rw [App_cont G θ hp sp, App_cont G θ hq sq] at h
  obtain ⟨e, h2⟩ := List.cons.inj h
  have hrun : ∀ r, r < zs.length → ∀ x ∈ (kids zs r).map (fun k => App θ (cont zs k)), Tm.run x 1 = x.length := fun r hr x hx => by
    rw [List.mem_map] at hx
    obtain ⟨k, hk, rfl⟩ := hx
    unfold kids at hk
    rw [List.mem_map] at hk
    obtain ⟨i, hi, rfl⟩ := hk
    exact App_run hθ _ 1 (cont_run G (kid_lt G hr (List.mem_range.1 hi)))
  have h3 := flatten_inj _ _ (hrun p hp) (hrun q hq) (by simp [kids, e]) h2
  refine ⟨e, fun i hi => ?_⟩
  have h4 := congrArg (fun l => l[i]?) h3
  simp only [List.getElem?_map] at h4
  rw [kids_get hi, kids_get (by rw [← e]; exact hi)] at h4
  simpa using h4
/-- What a list makes the same of all that is tied. -/
def Resp (zs : List Int) (h : Nat → Nat) (θ : Sb) : Prop := ∀ p, p < zs.length → can zs p = p → App θ (cont zs p) = App θ (cont zs (h p))
theorem Resp.hd {zs : List Int} (G : Good zs) {h : Nat → Nat} {θ : Sb} (R : Resp zs h θ) {p : Nat} (hp : p < zs.length) : App θ (cont zs p) = App θ (cont zs (hd zs h p)) := by
  rw [← cont_can G hp]
  exact R _ (can_lt G hp) (can_can G hp)
/-- What is the same by ties and by pairs. -/
inductive Eqv (zs : List Int) (h : Nat → Nat) (P : List (Nat × Nat)) : Nat → Nat → Prop
  | base (p q : Nat) : p < zs.length → q < zs.length → hd zs h p = hd zs h q → Eqv zs h P p q
  | pair (p q : Nat) : (p, q) ∈ P → Eqv zs h P p q
  | symm (p q : Nat) : Eqv zs h P p q → Eqv zs h P q p
  | trans (p q r : Nat) : Eqv zs h P p q → Eqv zs h P q r → Eqv zs h P p r
def Closed (zs : List Int) (h : Nat → Nat) (P : List (Nat × Nat)) : Prop :=
  ∀ p q, p < zs.length → q < zs.length → 0 ≤ sg zs p → 0 ≤ sg zs q → h p = h q → sg zs p = sg zs q ∧ ∀ i, i < Tm.room (sg zs p) → Eqv zs h P (Tm.pos zs p i) (Tm.pos zs q i)
theorem Eqv.move {zs : List Int} {h h' : Nat → Nat} {P P' : List (Nat × Nat)} (hc : ∀ p q, p < zs.length → q < zs.length → hd zs h p = hd zs h q → hd zs h' p = hd zs h' q) (hP : ∀ p q, (p, q) ∈ P → Eqv zs h' P' p q) {p q : Nat} (e : Eqv zs h P p q) : Eqv zs h' P' p q := by
  induction e with
  | base p q h1 h2 h3 => exact .base p q h1 h2 (hc p q h1 h2 h3)
  | pair p q h1 => exact hP p q h1
  | symm p q _ ih => exact .symm _ _ ih
  | trans p q r _ _ i1 i2 => exact .trans _ _ _ i1 i2

/-- What tying pairs has done. -/
structure TieL (zs : List Int) (h h' : Nat → Nat) (ps : List (Nat × Nat)) : Prop where
  coarse : ∀ p q, p < zs.length → q < zs.length → hd zs h p = hd zs h q → hd zs h' p = hd zs h' q
  sound : ∀ θ, TermSb θ → Resp zs h θ → (∀ p q, (p, q) ∈ ps → App θ (cont zs p) = App θ (cont zs q)) → Resp zs h' θ
  tied : ∀ p q, (p, q) ∈ ps → hd zs h' p = hd zs h' q
  close : ∀ P, Closed zs h (ps ++ P) → Closed zs h' P
theorem TieL.nil (zs : List Int) (h : Nat → Nat) : TieL zs h h [] := ⟨fun _ _ _ _ h => h, fun _ _ R _ => R, fun p q h => by simp at h, fun _ h => h⟩
theorem TieL.same {zs : List Int} {h : Nat → Nat} {a b : Nat} (ha : a < zs.length) (hb : b < zs.length) (e : hd zs h a = hd zs h b) : TieL zs h h [(a, b)] := by
  refine ⟨fun _ _ _ _ h => h, fun _ _ R _ => R, fun p q hm => by simp at hm; obtain ⟨rfl, rfl⟩ := hm; exact e, fun P hC p q hp hq sp sq ep => ?_⟩
  obtain ⟨e1, e2⟩ := hC p q hp hq sp sq ep
  refine ⟨e1, fun i hi => (e2 i hi).move (fun _ _ _ _ h => h) fun x y hm => ?_⟩
  simp at hm
  rcases hm with ⟨rfl, rfl⟩ | hm
  · exact .base _ _ ha hb e
  · exact .pair _ _ hm
end Wb

end Go.Proofs.Ytkjncjlombjlfaa

namespace Go.Proofs.Ytkjncjlombjlfaa
open Go.Proofs Go.RowKit Go.Shelf

namespace Wb
theorem hd_mg (zs : List Int) (h : Nat → Nat) (o n p : Nat) : hd zs (mg h o n) p = if hd zs h p = o then n else hd zs h p := rfl
theorem mg_coarse (zs : List Int) (h : Nat → Nat) (o n : Nat) : ∀ p q, p < zs.length → q < zs.length → hd zs h p = hd zs h q → hd zs (mg h o n) p = hd zs (mg h o n) q := fun p q _ _ e => by rw [hd_mg, hd_mg, e]
/-- o and n stand for a and b, one for each. -/
def Ends (zs : List Int) (h : Nat → Nat) (a b o n : Nat) : Prop := (hd zs h a = n ∧ hd zs h b = o) ∨ (hd zs h a = o ∧ hd zs h b = n)
theorem Ends.tied {zs : List Int} {h : Nat → Nat} {a b o n : Nat} (E : Ends zs h a b o n) (hne : o ≠ n) : hd zs (mg h o n) a = hd zs (mg h o n) b := by
  rw [hd_mg, hd_mg]
  rcases E with ⟨e1, e2⟩ | ⟨e1, e2⟩
  · rw [e1, e2, if_pos rfl, if_neg (fun e => hne e.symm)]
  · rw [e1, e2, if_pos rfl, if_neg (fun e => hne e.symm)]
theorem Ends.app {zs : List Int} (G : Good zs) {h : Nat → Nat} {a b o n : Nat} (E : Ends zs h a b o n) (ha : a < zs.length) (hb : b < zs.length) {θ : Sb} (R : Resp zs h θ) (e : App θ (cont zs a) = App θ (cont zs b)) : App θ (cont zs o) = App θ (cont zs n) := by
  have h1 := R.hd G ha
  have h2 := R.hd G hb
  rcases E with ⟨e1, e2⟩ | ⟨e1, e2⟩
  · rw [e1] at h1; rw [e2] at h2; rw [← h2, ← h1, e]
  · rw [e1] at h1; rw [e2] at h2; rw [← h1, ← h2, e]
theorem Resp.mg {zs : List Int} {h : Nat → Nat} {o n : Nat} {θ : Sb} (R : Resp zs h θ) (e : App θ (cont zs o) = App θ (cont zs n)) : Resp zs (mg h o n) θ := fun p hp cp => by
  have := R p hp cp
  unfold Wb.mg
  by_cases ep : h p = o
  · rw [if_pos ep, this, ep, e]
  · rw [if_neg ep, this]
/-- A variable is tied. -/
theorem TieL.var {zs : List Int} (G : Good zs) {T : Nat → Option Nat} {h : Nat → Nat} (S : St zs T h) {a b o n : Nat} (ha : a < zs.length) (hb : b < zs.length) (E : Ends zs h a b o n) (hne : o ≠ n) (ov : sg zs o < 0) : TieL zs h (Wb.mg h o n) [(a, b)] := by
  refine ⟨mg_coarse zs h o n, fun θ _ R hq => R.mg (E.app G ha hb R (hq a b (by simp))), fun p q hm => by simp at hm; obtain ⟨rfl, rfl⟩ := hm; exact E.tied hne, fun P hC p q hp hq sp sq e => ?_⟩
  have hno : ∀ x, x < zs.length → 0 ≤ sg zs x → h x ≠ o := fun x hx sx ex => by
    have := S.up x hx (can_pos sx)
    rw [ex] at this
    omega
  have e' : h p = h q := by
    unfold Wb.mg at e
    rw [if_neg (hno p hp sp), if_neg (hno q hq sq)] at e
    exact e
  obtain ⟨e1, e2⟩ := hC p q hp hq sp sq e'
  refine ⟨e1, fun i hi => (e2 i hi).move (mg_coarse zs h o n) fun x y hm => ?_⟩
  simp at hm
  rcases hm with ⟨rfl, rfl⟩ | hm
  · exact .base _ _ ha hb (E.tied hne)
  · exact .pair _ _ hm
/-- The parts of two places, one against the other. -/
def pairsTo (zs : List Int) (n o : Nat) (m : Nat) : List (Nat × Nat) := (List.range m).map fun i => (Tm.pos zs n i, Tm.pos zs o i)
theorem mem_pairsTo {zs : List Int} {n o m p q : Nat} (h : (p, q) ∈ pairsTo zs n o m) : ∃ i, i < m ∧ p = Tm.pos zs n i ∧ q = Tm.pos zs o i := by
  unfold pairsTo at h
  rw [List.mem_map] at h
  obtain ⟨i, hi, e⟩ := h
  cases e
  exact ⟨i, List.mem_range.1 hi, rfl, rfl⟩
theorem pairsTo_mem {zs : List Int} {n o m i : Nat} (h : i < m) : (Tm.pos zs n i, Tm.pos zs o i) ∈ pairsTo zs n o m := by
  unfold pairsTo
  rw [List.mem_map]
  exact ⟨i, List.mem_range.2 h, rfl⟩
/-- Two symbols are tied, and their parts behind that. -/
theorem TieL.sym {zs : List Int} (G : Good zs) {h h2 : Nat → Nat} {a b o n : Nat} (ha : a < zs.length) (hb : b < zs.length) (E : Ends zs h a b o n) (hne : o ≠ n) (ho : o < zs.length) (hn : n < zs.length) (ro : h o = o) (rn : h n = n) (so : 0 ≤ sg zs o)
    (es : sg zs o = sg zs n) (K : TieL zs (Wb.mg h o n) h2 (pairsTo zs n o (Tm.room (sg zs n)))) : TieL zs h h2 [(a, b)] := by
  refine ⟨fun p q hp hq e => K.coarse p q hp hq (mg_coarse zs h o n p q hp hq e), fun θ hθ R hq => ?_, fun p q hm => by simp at hm; obtain ⟨rfl, rfl⟩ := hm; exact K.coarse _ _ ha hb (E.tied hne), fun P hC => K.close P fun p q hp hq sp sq e => ?_⟩
  · have e := E.app G ha hb R (hq a b (by simp))
    refine K.sound θ hθ (R.mg e) fun p q hm => ?_
    obtain ⟨i, hi, rfl, rfl⟩ := mem_pairsTo hm
    exact (kids_eq G hθ hn ho (by omega) so e.symm).2 i hi
  · have mv : ∀ x y, Eqv zs h ([(a, b)] ++ P) x y → Eqv zs (Wb.mg h o n) (pairsTo zs n o (Tm.room (sg zs n)) ++ P) x y := fun x y hxy => hxy.move (mg_coarse zs h o n) fun u v hm => by
      simp at hm
      rcases hm with ⟨rfl, rfl⟩ | hm
      · exact .base _ _ ha hb (E.tied hne)
      · exact .pair _ _ (List.mem_append_right _ hm)
    have on : ∀ i, i < Tm.room (sg zs n) → Eqv zs (Wb.mg h o n) (pairsTo zs n o (Tm.room (sg zs n)) ++ P) (Tm.pos zs o i) (Tm.pos zs n i) := fun i hi => .symm _ _ (.pair _ _ (List.mem_append_left _ (pairsTo_mem hi)))
    have cross : ∀ x y, x < zs.length → y < zs.length → 0 ≤ sg zs x → 0 ≤ sg zs y → h x = o → h y = n → sg zs x = sg zs y ∧ ∀ i, i < Tm.room (sg zs x) → Eqv zs (Wb.mg h o n) (pairsTo zs n o (Tm.room (sg zs n)) ++ P) (Tm.pos zs x i) (Tm.pos zs y i) := fun x y hx hy sx sy ex ey => by
      obtain ⟨e1, e2⟩ := hC x o hx ho sx so (by rw [ex, ro])
      obtain ⟨e3, e4⟩ := hC y n hy hn sy (by omega) (by rw [ey, rn])
      refine ⟨by omega, fun i hi => ?_⟩
      exact .trans _ _ _ (mv _ _ (e2 i hi)) (.trans _ _ _ (on i (by rw [← es, ← e1]; exact hi)) (.symm _ _ (mv _ _ (e4 i (by rw [e3, ← es, ← e1]; exact hi)))))
    have same : h p = h q → sg zs p = sg zs q ∧ ∀ i, i < Tm.room (sg zs p) → Eqv zs (Wb.mg h o n) (pairsTo zs n o (Tm.room (sg zs n)) ++ P) (Tm.pos zs p i) (Tm.pos zs q i) := fun e' => by
      obtain ⟨e1, e2⟩ := hC p q hp hq sp sq e'
      exact ⟨e1, fun i hi => mv _ _ (e2 i hi)⟩
    unfold Wb.mg at e
    by_cases ep : h p = o
    · by_cases eq : h q = o
      · exact same (by rw [ep, eq])
      · rw [if_pos ep, if_neg eq] at e
        exact cross p q hp hq sp sq ep e.symm
    · by_cases eq : h q = o
      · rw [if_neg ep, if_pos eq] at e
        obtain ⟨e1, e2⟩ := cross q p hq hp sq sp eq e
        exact ⟨e1.symm, fun i hi => .symm _ _ (e2 i (by rw [e1]; exact hi))⟩
      · rw [if_neg ep, if_neg eq] at e
        exact same e

/-- Nothing that respects the ties makes them the same. -/
def No (zs : List Int) (h : Nat → Nat) (ps : List (Nat × Nat)) : Prop := ∀ θ, TermSb θ → Resp zs h θ → (∀ p q, (p, q) ∈ ps → App θ (cont zs p) = App θ (cont zs q)) → False
theorem No.clash {zs : List Int} (G : Good zs) {h : Nat → Nat} {a b o n : Nat} (ha : a < zs.length) (hb : b < zs.length) (E : Ends zs h a b o n) (ho : o < zs.length) (hn : n < zs.length) (so : 0 ≤ sg zs o) (sn : 0 ≤ sg zs n) (es : sg zs o ≠ sg zs n) : No zs h [(a, b)] := fun θ hθ R hq =>
  es (kids_eq G hθ ho hn so sn (E.app G ha hb R (hq a b (by simp)))).1
theorem No.sym {zs : List Int} (G : Good zs) {h : Nat → Nat} {a b o n : Nat} (ha : a < zs.length) (hb : b < zs.length) (E : Ends zs h a b o n) (ho : o < zs.length) (hn : n < zs.length) (so : 0 ≤ sg zs o) (sn : 0 ≤ sg zs n)
    (K : No zs (Wb.mg h o n) (pairsTo zs n o (Tm.room (sg zs n)))) : No zs h [(a, b)] := fun θ hθ R hq => by
  have e := E.app G ha hb R (hq a b (by simp))
  refine K θ hθ (R.mg e) fun p q hm => ?_
  obtain ⟨i, hi, rfl, rfl⟩ := mem_pairsTo hm
  exact (kids_eq G hθ hn ho sn so e.symm).2 i hi
end Wb

end Go.Proofs.Ytkjncjlombjlfaa

namespace Go.Proofs.Ytkjncjlombjlfaa
open Go.Proofs Go.RowKit Go.Shelf Go.Maps

theorem WebAt.set {W W1 : World} {Bw Bm : Nat} {a : Option Addr} {cap : Nat} {zs : List Int} {N o n : Nat} {T : Nat → Option Nat} {M : Int → Option Value} (h : WebAt W Bw Bm a cap zs N T) (hM : IntMap W Bm N M) (hMT : ∀ p : Nat, M (p : Int) = (T p).map fun q => .int .i64 (q : Int))
    (h1 : IntMap W1 Bm (N + 1) (upd M (o : Int) (.int .i64 (n : Int)))) (hg : W.grownBy W1 (some Bm)) : WebAt W1 Bw Bm a cap zs (N + 1) (Wb.updN T o n) := by
  obtain ⟨es, clock, hmap⟩ := hM.map
  have hk : ∀ k, k < W.heap.size → k ≠ Bm → W1.heap[k]? = W.heap[k]? := fun k hk hne => hg.block k hk (by simpa using hne)
  have hne : Bw ≠ Bm := ne_map h.cell0 hmap
  refine ⟨(hk Bw h.lt.1 hne).trans h.web, fun j hj => ?_, ⟨_, h1, fun p => ?_⟩⟩
  · obtain ⟨b, off, e, hb, hc⟩ := h.ints j hj
    exact ⟨b, off, e, by have := hg.size; omega, (World.cell?_of_block (a := ⟨b, off + j, none⟩) (hk b hb (ne_map hc hmap))).trans hc⟩
  · by_cases e : p = o
    · subst e; rw [upd_same]; simp [Wb.updN]
    · rw [upd_other _ _ (by omega), hMT]; simp [Wb.updN, e]
theorem IntMap.drewN {W : World} {b n : Nat} {m : Int → Option Value} (h : IntMap W b n m) (d : Nat) : IntMap (W.drewN d) b n m := h.keep rfl

/-- The web's state. -/
def WSt (W : World) (Bw Bm : Nat) (a : Option Addr) (cap : Nat) (zs : List Int) (h : Nat → Nat) : Prop := ∃ T N, Wb.St zs T h ∧ WebAt W Bw Bm a cap zs N T ∧ N + Wb.rt zs h ≤ zs.length
def TieAns (W' : World) (e : Ending) (Bw Bm : Nat) (a : Option Addr) (cap : Nat) (zs : List Int) (h : Nat → Nat) (ps : List (Nat × Nat)) : Prop :=
  (e = .returned (.bool true) ∧ ∃ h', Wb.TieL zs h h' ps ∧ WSt W' Bw Bm a cap zs h' ∧ Wb.rt zs h' ≤ Wb.rt zs h) ∨ (e = .returned (.bool false) ∧ Wb.No zs h ps)

end Go.Proofs.Ytkjncjlombjlfaa

namespace Go.Proofs.Ytkjncjlombjlfaa
open Go.Proofs Go.RowKit Go.Shelf Go.Maps

end Go.Proofs.Ytkjncjlombjlfaa

namespace Go.Proofs.Ytkjncjlombjlfaa
open Go.Proofs Go.RowKit Go.Shelf Go.Maps

attribute [local go_sem] Oper.semAt_some

theorem WSt.keep {W W' : World} {Bw Bm b off n : Nat} {cap : Nat} {zs : List Int} {h : Nat → Nat} (H : WSt W Bw Bm (some ⟨b, off, none⟩) cap zs h) (h1 : Bw < n) (h2 : Bm < n) (h3 : b < n) (hn : n ≤ W'.heap.size) (hk : ∀ k, k < n → W'.heap[k]? = W.heap[k]?) : WSt W' Bw Bm (some ⟨b, off, none⟩) cap zs h := by
  obtain ⟨T, N, S, hW, hN⟩ := H
  refine ⟨T, N, S, ⟨(hk Bw h1).trans hW.web, fun j hj => ?_, ?_⟩, hN⟩
  · obtain ⟨b', off', e, _, hc⟩ := hW.ints j hj
    cases e
    exact ⟨b, off, rfl, by omega, (World.cell?_of_block (a := ⟨b, off + j, none⟩) (hk b h3)).trans hc⟩
  · obtain ⟨M, hM, hMT⟩ := hW.ties
    exact ⟨M, hM.keep (hk Bm h2), hMT⟩
theorem WSt.ints {W : World} {Bw Bm : Nat} {a : Option Addr} {cap : Nat} {zs : List Int} {h : Nat → Nat} (H : WSt W Bw Bm a cap zs h) : Ints W.heap.size W a zs := by
  obtain ⟨T, N, S, hW, hN⟩ := H
  exact hW.ints
theorem WSt.cell0 {W : World} {Bw Bm : Nat} {a : Option Addr} {cap : Nat} {zs : List Int} {h : Nat → Nat} (H : WSt W Bw Bm a cap zs h) : W.cell? ⟨Bw, 0, none⟩ = some (.slice a zs.length cap) := by
  obtain ⟨T, N, S, hW, hN⟩ := H
  exact hW.cell0
theorem WSt.lt {W : World} {Bw Bm : Nat} {a : Option Addr} {cap : Nat} {zs : List Int} {h : Nat → Nat} (H : WSt W Bw Bm a cap zs h) : Bw < W.heap.size ∧ Bm < W.heap.size := by
  obtain ⟨T, N, S, hW, hN⟩ := H
  exact hW.lt

theorem keep_own {n m B : Nat} {w X Y : World} {row : Option Nat} (hB : n ≤ B) (h : Keep n m w X) (hg : X.grownBy Y row) (hr : ∀ r, row = some r → B ≤ r ∧ ∃ o : Obj, X.heap[r]? = some o ∧ o.isCells = false) (hn : n ≤ w.heap.size := by exact Nat.le_refl _) : Keep n m w Y :=
  ⟨hg.os.trans h.os, hg.tape.trans h.tape, hg.output.trans h.output, Nat.le_trans h.size hg.size, fun k hk hm => (hg.block k (by have := h.size; omega) (fun e => by have := (hr k e.symm).1; omega)).trans (h.block k hk hm)⟩
/-- What holds ahead of round i of tieParts. -/
structure TPInv (w : World) (Bw Bm b off cap : Nat) (zs : List Int) (h : Nat → Nat) (one other i : Nat) (W : World) : Prop where
  st : ∃ h', Wb.TieL zs h h' (Wb.pairsTo zs one other i) ∧ WSt W Bw Bm (some ⟨b, off, none⟩) cap zs h' ∧ Wb.rt zs h' ≤ Wb.rt zs h
  bA : Boxed W (w.heap.size + 1 + 1) 3 (.int .i64 (Tm.pos zs other i : Int))
  bW : Boxed W w.heap.size 98 (.pointer (some ⟨Bw, 0, none⟩))
  bR : Boxed W (w.heap.size + 1) 4 (.bool false)
  bK : Boxed W (w.heap.size + 1 + 1 + 1 + 1) 3 (.int .i64 (one : Int))
  bT : Boxed W (w.heap.size + 1 + 1 + 1) 33 (.slice (some ⟨b, off, none⟩) zs.length cap)
  kp : Keep w.heap.size Bm w W
theorem TPInv.own {w : World} {Bw Bm b off cap : Nat} {zs : List Int} {h : Nat → Nat} {one other B : Nat} (h1 : Bw < w.heap.size) (h2 : Bm < w.heap.size) (h3 : b < w.heap.size) (hB : w.heap.size ≤ B) : OwnFrom B (TPInv w Bw Bm b off cap zs h one other) := by
  rintro i X Y row ⟨⟨h', hL, hS, hr⟩, bA, bW, bR, bK, bT, hK⟩ hg hrow
  have hbx : ∀ {C : Nat} {t : TypeId} {v : Value}, Boxed X C t v → Boxed Y C t v := fun {C t v} hb => (boxed_own C t (fun _ : Unit => v)).from B () X Y row hb hg hrow
  refine ⟨⟨h', hL, hS.keep h1 h2 h3 (Nat.le_trans hK.size hg.size) fun k hk => hg.block k (by have := hK.size; omega) (fun e => by have := (hrow k e.symm).1; omega), hr⟩, hbx bA, hbx bW, hbx bR, hbx bK, hbx bT, keep_own hB hK hg hrow⟩

end Go.Proofs.Ytkjncjlombjlfaa

namespace Go.Proofs.Ytkjncjlombjlfaa
open Go.Proofs Go.RowKit Go.Shelf

namespace Wb
/-- What stands for p, and all within it, ends. -/
inductive Fin (zs : List Int) (h : Nat → Nat) : Nat → Prop
  | mk (p : Nat) : (∀ i, i < Tm.room (sg zs (hd zs h p)) → Fin zs h (Tm.pos zs (hd zs h p) i)) → Fin zs h p
/-- p becomes l. -/
inductive Exp (zs : List Int) (h : Nat → Nat) : Nat → List Int → Prop
  | mk (p : Nat) (ls : List (List Int)) : ls.length = Tm.room (sg zs (hd zs h p)) → (∀ i, i < Tm.room (sg zs (hd zs h p)) → Exp zs h (Tm.pos zs (hd zs h p) i) (ls[i]?.getD [])) → Exp zs h p (sg zs (hd zs h p) :: ls.flatten)
theorem Fin.exp {zs : List Int} {h : Nat → Nat} {p : Nat} (H : Fin zs h p) : ∃ l, Exp zs h p l := by
  induction H with
  | mk p _ ih =>
    have hc : ∀ i, ∃ l, i < Tm.room (sg zs (hd zs h p)) → Exp zs h (Tm.pos zs (hd zs h p) i) l := fun i => by
      by_cases hi : i < Tm.room (sg zs (hd zs h p))
      · obtain ⟨l, hl⟩ := ih i hi
        exact ⟨l, fun _ => hl⟩
      · exact ⟨[], fun hi' => absurd hi' hi⟩
    obtain ⟨f, hf⟩ := Classical.axiomOfChoice hc
    refine ⟨_, Exp.mk p ((List.range (Tm.room (sg zs (hd zs h p)))).map f) (by simp) fun i hi => ?_⟩
    have := hf i hi
    simpa [hi] using this
theorem Exp.one {zs : List Int} {h : Nat → Nat} {p : Nat} {l : List Int} (H : Exp zs h p l) : ∀ l', Exp zs h p l' → l = l' := by
  induction H with
  | mk p ls hl _ ih =>
    intro l' H'
    cases H' with
    | mk _ ls' hl' hk' =>
      congr 2
      refine List.ext_getElem (by omega) fun i h1 h2 => ?_
      have := ih i (by omega) _ (hk' i (by omega))
      simpa [h1, h2] using this
theorem Exp.move {zs : List Int} {h : Nat → Nat} {p q : Nat} {l : List Int} (H : Exp zs h p l) (e : hd zs h p = hd zs h q) : Exp zs h q l := by
  cases H with
  | mk _ ls hl hk =>
    rw [e] at hl hk ⊢
    exact Exp.mk q ls hl hk
/-- Whatever respects the ties is made of it. -/
theorem Exp.most {zs : List Int} (G : Good zs) {T : Nat → Option Nat} {h : Nat → Nat} (S : St zs T h) {θ : Sb} (R : Resp zs h θ) {p : Nat} {l : List Int} (H : Exp zs h p l) : p < zs.length → App θ (cont zs p) = App θ l := by
  induction H with
  | mk p ls hl _ ih =>
    intro hp
    obtain ⟨hq, _, _⟩ := hd_lt G S hp
    rw [R.hd G hp]
    by_cases hs : sg zs (hd zs h p) < 0
    · have : ls = [] := List.eq_nil_of_length_eq_zero (by rw [hl, room_var hs])
      rw [cont_var G hq hs, this]
      rfl
    · rw [App_cont G θ hq (by omega), App_cons, if_neg hs, App_flatten]
      congr 2
      refine List.ext_getElem (by simp [kids, hl]) fun i h1 h2 => ?_
      have hi : i < Tm.room (sg zs (hd zs h p)) := by simpa [kids] using h1
      have := ih i hi (kid_lt G hq hi)
      rw [List.getElem_map, List.getElem_map]
      have e : (kids zs (hd zs h p))[i]'(by simpa [kids] using hi) = Tm.pos zs (hd zs h p) i := by simp [kids]
      rw [e, this]
      simp [show i < ls.length by omega]
theorem eqv_nil {zs : List Int} {h : Nat → Nat} {p q : Nat} (e : Eqv zs h [] p q) : hd zs h p = hd zs h q := by
  induction e with
  | base p q _ _ h3 => exact h3
  | pair p q hm => simp at hm
  | symm p q _ ih => exact ih.symm
  | trans p q r _ _ i1 i2 => exact i1.trans i2
theorem cont_len {zs : List Int} (G : Good zs) {p i : Nat} (hp : p < zs.length) (hi : i < Tm.room (sg zs p)) : (cont zs (Tm.pos zs p i)).length < (cont zs p).length := by
  rw [cont_eq G hp, List.length_cons]
  have : cont zs (Tm.pos zs p i) ∈ (kids zs p).map (cont zs) := List.mem_map.2 ⟨_, List.mem_map.2 ⟨i, List.mem_range.2 hi, rfl⟩, rfl⟩
  have h2 : ∀ (L : List (List Int)) (x : List Int), x ∈ L → x.length ≤ L.flatten.length := by
    intro L
    induction L with
    | nil => intro x hx; simp at hx
    | cons y L ih =>
      intro x hx
      rw [List.flatten_cons, List.length_append]
      rcases List.mem_cons.1 hx with rfl | hx
      · omega
      · have := ih x hx; omega
  have := h2 _ _ this
  omega
/-- By what the variables become, each place becomes what it becomes. -/
theorem Exp.of_sigma {zs : List Int} (G : Good zs) {T : Nat → Option Nat} {h : Nat → Nat} (S : St zs T h) (C : Closed zs h []) {σ : Sb} (hσ : ∀ i, i < 8 → Exp zs h i (σ (-1 - (i : Int)))) : ∀ (n p : Nat), (cont zs p).length ≤ n → p < zs.length → Exp zs h p (App σ (cont zs p)) := by
  intro n
  induction n with
  | zero => intro p hn hp; rw [cont_eq G hp] at hn; simp at hn
  | succ n ih =>
    intro p hn hp
    by_cases hs : sg zs p < 0
    · have hk := G.known p hp
      have hc : can zs p = (-1 - sg zs p).toNat := by unfold can; rw [if_pos hs]
      have he := hσ (-1 - sg zs p).toNat (by omega)
      rw [show (-1 - (((-1 - sg zs p).toNat : Nat) : Int)) = sg zs p from by omega, ← hc] at he
      rw [cont_var G hp hs, App_cons, if_pos hs, App_nil, List.append_nil]
      exact he.move (by unfold hd; rw [can_can G hp])
    · have hcp : can zs p = p := can_pos (by omega)
      obtain ⟨hq, cq, rq⟩ := hd_lt G S hp
      have hup := hd_up G S hp
      have hhp : hd zs h p = h p := by unfold hd; rw [hcp]
      obtain ⟨e1, e2⟩ := C p (hd zs h p) hp hq (by omega) (by omega) (by rw [rq, hhp])
      rw [App_cont G σ hp (by omega), e1]
      have hlen : ((kids zs p).map fun k => App σ (cont zs k)).length = Tm.room (sg zs (hd zs h p)) := by rw [List.length_map, kids_length, e1]
      refine Exp.mk p _ hlen fun i hi => ?_
      have hi' : i < Tm.room (sg zs p) := by rw [e1]; exact hi
      have hE := ih (Tm.pos zs p i) (by have := cont_len G hp hi'; omega) (kid_lt G hp hi')
      have hm := hE.move (eqv_nil (e2 i hi'))
      rw [List.getElem?_map, kids_get hi']
      exact hm

/-- Two lists that each make the other, and both take the least variable, are one. -/
theorem flat_fix {f : Int → List Int} (hf : ∀ s, 1 ≤ (f s).length) : ∀ l : List Int, l.flatMap f = l → ∀ s ∈ l, f s = [s] := by
  have hge : ∀ l : List Int, l.length ≤ (l.flatMap f).length := by
    intro l
    induction l with
    | nil => simp
    | cons s l ih => rw [List.flatMap_cons, List.length_append, List.length_cons]; have := hf s; omega
  intro l
  induction l with
  | nil => intro _ s hs; simp at hs
  | cons x l ih =>
    intro h s hs
    rw [List.flatMap_cons] at h
    have h1 := hf x
    have h2 := hge l
    have h3 := congrArg List.length h
    rw [List.length_append, List.length_cons] at h3
    have h4 : (f x).length = 1 := by omega
    obtain ⟨y, hy⟩ := List.length_eq_one_iff.1 h4
    rw [hy, List.singleton_append] at h
    obtain ⟨rfl, h5⟩ := List.cons.inj h
    rcases List.mem_cons.1 hs with rfl | hs
    · exact hy
    · exact ih h5 s hs
theorem term_pos {θ : Sb} (hθ : TermSb θ) {s : Int} (hs : s < 0) : 1 ≤ (θ s).length := by
  have := hθ s hs
  have h2 := Tm.run_ge (θ s) 1
  omega
theorem App_ge {θ : Sb} (hθ : TermSb θ) : ∀ l : List Int, l.length ≤ (App θ l).length := by
  intro l
  induction l with
  | nil => simp
  | cons s l ih =>
    rw [App_cons, List.length_append, List.length_cons]
    by_cases hs : s < 0
    · rw [if_pos hs]; have := term_pos hθ hs; omega
    · rw [if_neg hs]; simp; omega
/-- The variables that a list speaks of lie from -8 to -1. -/
def InVars (l : List Int) : Prop := ∀ s ∈ l, s < 0 → -8 ≤ s
theorem canon_one {σ τ : Sb} (hσ : TermSb σ) (hτ : TermSb τ) (rσ : ∀ v, -8 ≤ v → v < 0 → InVars (σ v)) (rτ : ∀ v, -8 ≤ v → v < 0 → InVars (τ v)) (h1 : ∀ v, -8 ≤ v → v < 0 → σ v = App σ (τ v)) (h2 : ∀ v, -8 ≤ v → v < 0 → τ v = App τ (σ v))
    (d1 : ∀ v u, -8 ≤ v → v < 0 → σ v = [u] → u < 0 → v ≤ u) (d2 : ∀ v u, -8 ≤ v → v < 0 → τ v = [u] → u < 0 → v ≤ u) : ∀ v, -8 ≤ v → v < 0 → σ v = τ v := by
  intro v hv1 hv2
  have hfix : (σ v).flatMap (fun s => App σ (if s < 0 then τ s else [s])) = σ v := by
    have e : App σ (App τ (σ v)) = σ v := by rw [← h2 v hv1 hv2, ← h1 v hv1 hv2]
    conv => rhs; rw [← e]
    unfold App
    rw [List.flatMap_assoc]
  have hone := flat_fix (f := fun s => App σ (if s < 0 then τ s else [s])) (fun s => by
    by_cases hs : s < 0
    · have h3 := App_ge hσ (τ s)
      have h4 := term_pos hτ hs
      simp only [hs, if_true]; omega
    · simp [hs, App]) (σ v) hfix
  have hkeep : ∀ s ∈ σ v, s < 0 → τ s = [s] := fun u hu hu0 => by
    have hu8 := rσ v hv1 hv2 u hu hu0
    have e := hone u hu
    simp only [hu0, if_true] at e
    have hl : (τ u).length = 1 := by
      have h3 := App_ge hσ (τ u)
      have h4 := term_pos hτ hu0
      rw [e] at h3
      simp at h3
      omega
    obtain ⟨w, hw⟩ := List.length_eq_one_iff.1 hl
    rw [hw, App_cons, App_nil, List.append_nil] at e
    by_cases hw0 : w < 0
    · rw [if_pos hw0] at e
      have hw8 := rτ u hu8 hu0 w (by rw [hw]; simp) hw0
      have a := d1 w u hw8 hw0 e hu0
      have b := d2 u w hu8 hu0 hw hw0
      rw [hw]
      congr 1
      omega
    · rw [if_neg hw0] at e
      cases e
      exact absurd hu0 hw0
  rw [h2 v hv1 hv2]
  have happ : ∀ l : List Int, (∀ s ∈ l, s < 0 → τ s = [s]) → App τ l = l := by
    intro l
    induction l with
    | nil => intro _; rfl
    | cons s l ih =>
      intro hk
      rw [App_cons, ih (fun x hx => hk x (by simp [hx]))]
      by_cases hs : s < 0
      · rw [if_pos hs, hk s (by simp) hs]; rfl
      · rw [if_neg hs]; rfl
  exact (happ _ hkeep).symm
end Wb

end Go.Proofs.Ytkjncjlombjlfaa

namespace Go.Proofs.Ytkjncjlombjlfaa
open Go.Proofs Go.RowKit Go.Shelf

namespace Wb
def Sz (zs : List Int) (θ : Sb) (p : Nat) : Nat := (App θ (cont zs p)).length
/-- Nothing respects the ties. -/
def None (zs : List Int) (h : Nat → Nat) : Prop := ∀ θ, TermSb θ → Resp zs h θ → False
def Begun (zs : List Int) (h : Nat → Nat) (st : Nat → Nat) (p : Nat) : Prop := ∀ θ, TermSb θ → Resp zs h θ → ∀ q, q < zs.length → st q = 1 → Sz zs θ p < Sz zs θ q
def Dones (zs : List Int) (h : Nat → Nat) (st : Nat → Nat) : Prop := ∀ q, q < zs.length → st q = 2 → Fin zs h q
def setS (st : Nat → Nat) (p v : Nat) : Nat → Nat := fun q => if q = p then v else st q
/-- How many places have not been begun. -/
def fr (zs : List Int) (st : Nat → Nat) : Nat := ((List.range zs.length).filter fun q => decide (st q = 0)).length
theorem fr_set {zs : List Int} {st : Nat → Nat} {p v : Nat} (hp : p < zs.length) (h0 : st p = 0) (hv : v ≠ 0) : fr zs (setS st p v) < fr zs st := by
  refine filter_lt _ _ _ (fun q _ hq => ?_) p (List.mem_range.2 hp) ?_ ?_
  · simp only [decide_eq_true_eq] at hq ⊢
    unfold setS at hq
    by_cases e : q = p
    · rw [if_pos e] at hq; exact absurd hq hv
    · rw [if_neg e] at hq; exact hq
  · simp [setS, hv]
  · simp [h0]
theorem filter_le {α : Type} (f g : α → Bool) (h : ∀ x, f x = true → g x = true) : ∀ l : List α, (l.filter f).length ≤ (l.filter g).length := by
  intro l
  induction l with
  | nil => simp
  | cons y l ih =>
    rw [List.filter_cons, List.filter_cons]
    by_cases hf : f y = true
    · rw [if_pos hf, if_pos (h y hf)]; simp; omega
    · rw [if_neg hf]; split <;> (try simp) <;> omega
theorem fin_root {zs : List Int} {h : Nat → Nat} {p q : Nat} (e : hd zs h p = hd zs h q) (H : Fin zs h p) : Fin zs h q := by
  cases H with
  | mk _ hk => rw [e] at hk; exact Fin.mk q hk
theorem hd_hd {zs : List Int} (G : Good zs) {T : Nat → Option Nat} {h : Nat → Nat} (S : St zs T h) {p : Nat} (hp : p < zs.length) : hd zs h (hd zs h p) = hd zs h p := by
  obtain ⟨_, h2, h3⟩ := hd_lt G S hp
  conv => lhs; rw [hd]
  rw [h2, h3]
/-- What leadsBack leaves, where it says no. -/
structure Left (zs : List Int) (h : Nat → Nat) (st st' : Nat → Nat) : Prop where
  one : ∀ x, st' x = 1 ↔ st x = 1
  dones : Dones zs h st'
  less : fr zs st' ≤ fr zs st
theorem Left.refl {zs : List Int} {h : Nat → Nat} {st : Nat → Nat} (D : Dones zs h st) : Left zs h st st := ⟨fun _ => Iff.rfl, D, Nat.le_refl _⟩
theorem Left.trans {zs : List Int} {h : Nat → Nat} {a b c : Nat → Nat} (A : Left zs h a b) (B : Left zs h b c) : Left zs h a c := ⟨fun x => (B.one x).trans (A.one x), B.dones, Nat.le_trans B.less A.less⟩
/-- All parts end: so does the place. -/
theorem Left.close {zs : List Int} (G : Good zs) {T : Nat → Option Nat} {h : Nat → Nat} (S : St zs T h) {st st1 : Nat → Nat} {p : Nat} (hp : p < zs.length) (h0 : st (hd zs h p) = 0) (L : Left zs h (setS st (hd zs h p) 1) st1) (K : ∀ i, i < Tm.room (sg zs (hd zs h p)) → Fin zs h (Tm.pos zs (hd zs h p) i)) :
    Fin zs h p ∧ Left zs h st (setS st1 (hd zs h p) 2) ∧ fr zs (setS st1 (hd zs h p) 2) < fr zs st := by
  have hF : Fin zs h p := Fin.mk p K
  have hF2 : Fin zs h (hd zs h p) := fin_root (hd_hd G S hp).symm hF
  have hlt := fr_set (v := 1) (hd_lt G S hp).1 h0 (by omega)
  have h1 : st1 (hd zs h p) = 1 := (L.one _).2 (by simp [setS])
  have hle : fr zs (setS st1 (hd zs h p) 2) ≤ fr zs st1 := by
    unfold fr
    refine filter_le _ _ (fun q hq => ?_) _
    simp only [decide_eq_true_eq] at hq ⊢
    unfold setS at hq
    by_cases e : q = hd zs h p
    · rw [if_pos e] at hq; omega
    · rw [if_neg e] at hq; exact hq
  refine ⟨hF, ⟨fun x => ?_, fun x hx e => ?_, by have := L.less; omega⟩, by have := L.less; omega⟩
  · unfold setS
    by_cases e : x = hd zs h p
    · subst e; rw [if_pos rfl]; constructor <;> intro h' <;> omega
    · rw [if_neg e, L.one x]; unfold setS; rw [if_neg e]
  · unfold setS at e
    by_cases ex : x = hd zs h p
    · subst ex; exact hF2
    · rw [if_neg ex] at e; exact L.dones x hx e
end Wb

end Go.Proofs.Ytkjncjlombjlfaa

namespace Go.Proofs.Ytkjncjlombjlfaa
open Go.Proofs Go.RowKit Go.Shelf Go.Maps

attribute [local go_sem] Oper.semAt_some

/-- BLOCK Bs IS THE MAP OF HOW FAR EACH PLACE HAS GOT. -/
def StMap (W : World) (Bs N : Nat) (st : Nat → Nat) : Prop := ∃ M, IntMap W Bs N M ∧ ∀ p : Nat, (M (p : Int)).getD (.int .i64 0) = .int .i64 (st p : Int) ∧ st p ≤ 2
theorem StMap.made (w : World) : StMap (w.alloc (.map #[] 0)) w.heap.size 0 (fun _ => 0) := ⟨_, IntMap.made w, fun _ => ⟨rfl, Nat.zero_le _⟩⟩
theorem StMap.lt {W : World} {Bs N : Nat} {st : Nat → Nat} (h : StMap W Bs N st) : Bs < W.heap.size := by
  obtain ⟨M, hM, _⟩ := h
  exact hM.lt
theorem StMap.keep {W W' : World} {Bs N : Nat} {st : Nat → Nat} (h : StMap W Bs N st) (hk : W'.heap[Bs]? = W.heap[Bs]?) : StMap W' Bs N st := by
  obtain ⟨M, hM, hs⟩ := h
  exact ⟨M, hM.keep hk, hs⟩
theorem StMap.set {W1 : World} {Bs N : Nat} {st : Nat → Nat} {M : Int → Option Value} (hs : ∀ p : Nat, (M (p : Int)).getD (.int .i64 0) = .int .i64 (st p : Int) ∧ st p ≤ 2) {q v : Nat} (hv : v ≤ 2) (h1 : IntMap W1 Bs (N + 1) (upd M (q : Int) (.int .i64 (v : Int)))) : StMap W1 Bs (N + 1) (Wb.setS st q v) := by
  refine ⟨_, h1, fun p => ?_⟩
  by_cases e : p = q
  · subst e; rw [upd_same]; simp [Wb.setS, hv]
  · rw [upd_other _ _ (by omega), (hs p).1]; simp [Wb.setS, e, (hs p).2]
theorem StMap.le {W : World} {Bs N : Nat} {st : Nat → Nat} (h : StMap W Bs N st) (p : Nat) : st p ≤ 2 := by
  obtain ⟨M, _, hs⟩ := h
  exact (hs p).2
def LBAns (W' : World) (e : Ending) (Bs N : Nat) (zs : List Int) (h : Nat → Nat) (st : Nat → Nat) (p : Nat) : Prop :=
  (e = .returned (.bool true) ∧ Wb.None zs h) ∨ (e = .returned (.bool false) ∧ Wb.Fin zs h p ∧ ∃ st' N', Wb.Left zs h st st' ∧ StMap W' Bs N' st' ∧ N' + 2 * Wb.fr zs st' ≤ N + 2 * Wb.fr zs st)

end Go.Proofs.Ytkjncjlombjlfaa

namespace Go.Proofs.Ytkjncjlombjlfaa
open Go.Proofs Go.RowKit Go.Shelf Go.Maps

attribute [local go_sem] Oper.semAt_some

theorem WebAt.of {W W' : World} {Bw Bm b off cap N : Nat} {zs : List Int} {T : Nat → Option Nat} (H : WebAt W Bw Bm (some ⟨b, off, none⟩) cap zs N T) (h1 : W'.heap[Bw]? = W.heap[Bw]?) (h2 : W'.heap[Bm]? = W.heap[Bm]?) (h3 : W'.heap[b]? = W.heap[b]?) (hb : b < W'.heap.size) : WebAt W' Bw Bm (some ⟨b, off, none⟩) cap zs N T := by
  refine ⟨h1.trans H.web, fun j hj => ?_, ?_⟩
  · obtain ⟨b', off', e, _, hc⟩ := H.ints j hj
    cases e
    exact ⟨b, off, rfl, hb, (World.cell?_of_block (a := ⟨b, off + j, none⟩) h3).trans hc⟩
  · obtain ⟨M, hM, hMT⟩ := H.ties
    exact ⟨M, hM.keep h2, hMT⟩
/-- What holds ahead of round i of leadsBack. -/
structure LBInv (w : World) (Bt Bw Bm Bs b off cap N0 N : Nat) (zs : List Int) (T : Nat → Option Nat) (h : Nat → Nat) (st : Nat → Nat) (r i : Nat) (W : World) : Prop where
  sm : ∃ st1 N1, Wb.Left zs h (Wb.setS st r 1) st1 ∧ StMap W Bs N1 st1 ∧ N1 + 2 * Wb.fr zs st1 ≤ N + 1 + 2 * Wb.fr zs (Wb.setS st r 1) ∧ ∀ j, j < i → Wb.Fin zs h (Tm.pos zs r j)
  web : WebAt W Bw Bm (some ⟨b, off, none⟩) cap zs N0 T
  bW : Boxed W w.heap.size 98 (.pointer (some ⟨Bw, 0, none⟩))
  bS : Boxed W (w.heap.size + 1) 104 (.map (some Bs))
  bR : Boxed W (w.heap.size + 1 + 1) 4 (.bool false)
  bK : Boxed W (Bt + 1) 3 (.int .i64 (r : Int))
  bT : Boxed W Bt 33 (.slice (some ⟨b, off, none⟩) zs.length cap)
  kp : Keep w.heap.size Bs w W
theorem LBInv.own {w : World} {Bt Bw Bm Bs b off cap N0 N : Nat} {zs : List Int} {T : Nat → Option Nat} {h : Nat → Nat} {st : Nat → Nat} {r B : Nat} (h1 : Bw < w.heap.size) (h2 : Bm < w.heap.size) (h3 : b < w.heap.size) (h4 : Bs < w.heap.size) (hB : w.heap.size ≤ B) : OwnFrom B (LBInv w Bt Bw Bm Bs b off cap N0 N zs T h st r) := by
  rintro i X Y row ⟨⟨st1, N1, hL, hS, hn, hf⟩, hweb, bW, bS, bR, bK, bT, hK⟩ hg hrow
  have hbx : ∀ {C : Nat} {t : TypeId} {v : Value}, Boxed X C t v → Boxed Y C t v := fun {C t v} hb => (boxed_own C t (fun _ : Unit => v)).from B () X Y row hb hg hrow
  have hkk : ∀ k, k < w.heap.size → Y.heap[k]? = X.heap[k]? := fun k hk => hg.block k (by have := hK.size; omega) (fun e => by have := (hrow k e.symm).1; omega)
  refine ⟨⟨st1, N1, hL, hS.keep (hkk Bs h4), hn, hf⟩, hweb.of (hkk Bw h1) (hkk Bm h2) (hkk b h3) (by have := hK.size; have := hg.size; omega), hbx bW, hbx bS, hbx bR, hbx bK, hbx bT, keep_own hB hK hg hrow⟩

end Go.Proofs.Ytkjncjlombjlfaa

namespace Go.Proofs.Ytkjncjlombjlfaa
open Go.Proofs Go.RowKit Go.Shelf Go.Maps

end Go.Proofs.Ytkjncjlombjlfaa

namespace Go.Proofs.Ytkjncjlombjlfaa
open Go.Proofs Go.RowKit Go.Shelf

namespace Wb
theorem Exp.run {zs : List Int} {h : Nat → Nat} {p : Nat} {l : List Int} (H : Exp zs h p l) : Tm.run l 1 = l.length := by
  induction H with
  | mk p ls hl _ ih =>
    rw [show (1 : Nat) = 0 + 1 from rfl, Tm.run_cons, Nat.zero_add, ← hl, Tm.run_flatten ls (fun j hj => ih j (by omega)), List.length_cons]
    omega
theorem Exp.vars {zs : List Int} (G : Good zs) {T : Nat → Option Nat} {h : Nat → Nat} (S : St zs T h) {p : Nat} {l : List Int} (H : Exp zs h p l) : p < zs.length → ∀ s ∈ l, -8 ≤ s ∧ s < 6 := by
  induction H with
  | mk p ls hl _ ih =>
    intro hp s hs
    have hq := (hd_lt G S hp).1
    rcases List.mem_cons.1 hs with rfl | hs
    · exact G.known _ hq
    · obtain ⟨x, hx, hsx⟩ := List.mem_flatten.1 hs
      obtain ⟨i, hi, e⟩ := List.getElem_of_mem hx
      have hi' : i < Tm.room (sg zs (hd zs h p)) := by omega
      refine ih i hi' (kid_lt G hq hi') s ?_
      rw [List.getElem?_eq_getElem hi, Option.getD_some, e]
      exact hsx
/-- What variables become: all that is asked of it. -/
structure Sigma (zs : List Int) (h : Nat → Nat) (σ : Sb) : Prop where
  exp : ∀ i, i < 8 → Exp zs h i (σ (-1 - (i : Int)))
  term : TermSb σ
  vars : ∀ v, -8 ≤ v → v < 0 → InVars (σ v)
  resp : Resp zs h σ
  most : ∀ θ, Resp zs h θ → ∀ v, -8 ≤ v → v < 0 → θ v = App θ (σ v)
  least : ∀ v u, -8 ≤ v → v < 0 → σ v = [u] → u < 0 → v ≤ u
theorem Sigma.of {zs : List Int} (G : Good zs) {T : Nat → Option Nat} {h : Nat → Nat} (S : St zs T h) (C : Closed zs h []) (F : ∀ i, i < 8 → Fin zs h i) : ∃ σ, Sigma zs h σ := by
  have hc : ∀ i, ∃ l, i < 8 → Exp zs h i l := fun i => by
    by_cases hi : i < 8
    · obtain ⟨l, hl⟩ := (F i hi).exp
      exact ⟨l, fun _ => hl⟩
    · exact ⟨[], fun hi' => absurd hi' hi⟩
  obtain ⟨f, hf⟩ := Classical.axiomOfChoice hc
  have h8 := G.eight
  obtain ⟨σ, hσd⟩ : ∃ σ : Sb, σ = fun s => if -8 ≤ s ∧ s < 0 then f (-1 - s).toNat else [s] := ⟨_, rfl⟩
  have hin : ∀ i : Nat, i < 8 → σ (-1 - (i : Int)) = f i := fun i hi => by
    rw [hσd]
    show (if -8 ≤ -1 - (i : Int) ∧ -1 - (i : Int) < 0 then _ else _) = _
    rw [if_pos ⟨by omega, by omega⟩]
    congr 1
    omega
  have hexp : ∀ i : Nat, i < 8 → Exp zs h i (σ (-1 - (i : Int))) := fun i hi => by rw [hin i hi]; exact hf i hi
  have hv : ∀ v, -8 ≤ v → v < 0 → ∃ i : Nat, i < 8 ∧ v = -1 - (i : Int) := fun v h1 h2 => ⟨(-1 - v).toNat, by omega, by omega⟩
  refine ⟨σ, hexp, fun s hs => ?_, fun v h1 h2 => ?_, fun p hp cp => ?_, fun θ R v h1 h2 => ?_, fun v u h1 h2 e hu => ?_⟩
  · by_cases h1 : -8 ≤ s
    · obtain ⟨i, hi, rfl⟩ := hv s h1 hs
      exact (hexp i hi).run
    · rw [hσd]
      show Tm.run (if -8 ≤ s ∧ s < 0 then _ else _) 1 = (if -8 ≤ s ∧ s < 0 then _ else _ : List Int).length
      rw [if_neg (fun e => h1 e.1), show (1 : Nat) = 0 + 1 from rfl, Tm.run_cons, room_var hs, Tm.run_zero]
      rfl
  · obtain ⟨i, hi, rfl⟩ := hv v h1 h2
    exact fun s hs _ => ((hexp i hi).vars G S (by omega) s hs).1
  · have e1 := Exp.of_sigma G S C hexp _ p (Nat.le_refl _) hp
    obtain ⟨r1, r2, r3⟩ := S.root p hp cp
    have e2 := Exp.of_sigma G S C hexp _ (h p) (Nat.le_refl _) r1
    refine (e1.move ?_).one _ e2
    show h (can zs p) = h (can zs (h p))
    rw [cp, r2, r3]
  · obtain ⟨i, hi, rfl⟩ := hv v h1 h2
    have hm := (hexp i hi).most G S R (by omega)
    rw [cont_var G (by omega) (by rw [G.vars i hi]; omega), G.vars i hi, App_cons, if_pos (by omega), App_nil, List.append_nil] at hm
    exact hm
  · obtain ⟨i, hi, rfl⟩ := hv v h1 h2
    have he := hexp i hi
    rw [e] at he
    have hup := hd_up G S (p := i) (by omega)
    rw [G.vars i hi] at hup
    generalize hl : [u] = l at he
    cases he with
    | mk _ ls _ _ =>
      obtain ⟨rfl, _⟩ := List.cons.inj hl
      exact hup
end Wb

end Go.Proofs.Ytkjncjlombjlfaa

namespace Go.Proofs.Ytkjncjlombjlfaa
open Go.Proofs Go.RowKit Go.Shelf Go.Maps

/-- BLOCK Bw IS A WEB whose signs are its own. -/
def OwnWeb (W : World) (Bw Bm : Nat) (v : Value) (zs : List Int) : Prop := W.heap[Bw]? = some (.cells #[v, .map (some Bm)] 117 (0, 0)) ∧ New (Bw + 1) W v zs

end Go.Proofs.Ytkjncjlombjlfaa

namespace Go.Proofs.Ytkjncjlombjlfaa
open Go.Proofs Go.RowKit Go.Shelf

namespace Wb
theorem sg_ext {zs t : List Int} {p : Nat} (hp : p < zs.length) : sg (zs ++ t) p = sg zs p := by unfold sg; rw [List.getElem?_append_left hp]
theorem can_ext {zs t : List Int} {p : Nat} (hp : p < zs.length) : can (zs ++ t) p = can zs p := by unfold can; rw [sg_ext hp]
theorem end_ext {zs t : List Int} (G : Good zs) {p : Nat} (hp : p < zs.length) : Tm.endAt (zs ++ t) p = Tm.endAt zs p := by
  have h := Tm.endAt_mid (pre := []) (t := zs) (post := t) (k := p) (by omega) (G.ends p hp)
  simpa using h
theorem cont_ext {zs t : List Int} (G : Good zs) {p : Nat} (hp : p < zs.length) : cont (zs ++ t) p = cont zs p := by
  have h := Tm.part_mid (pre := []) (t := zs) (post := t) (k := p) (by omega) (G.ends p hp)
  simpa [cont] using h
theorem pos_ext {zs t : List Int} (G : Good zs) {p : Nat} (hp : p < zs.length) : ∀ i, i ≤ Tm.room (sg zs p) → Tm.pos (zs ++ t) p i = Tm.pos zs p i := by
  intro i
  induction i with
  | zero => intro _; rw [Tm.pos_zero, Tm.pos_zero]
  | succ i ih =>
    intro hi
    rw [Tm.pos_succ, Tm.pos_succ, ih (by omega)]
    exact end_ext G (kid_lt G hp (by omega))
theorem Good.ext {zs t : List Int} (G : Good zs) (ht : Tm.err t = 0) (hl : zs.length + t.length ≤ 5000) : Good (zs ++ t) := by
  refine ⟨by rw [List.length_append]; exact hl, by rw [List.length_append]; have := G.eight; omega, fun p hp => ?_, fun i hi => ?_, fun p hp => ?_⟩
  · by_cases h : p < zs.length
    · rw [sg_ext h]; exact G.known p h
    · rw [List.length_append] at hp
      have hk := Tm.all_at (Tm.err_all ht) (k := p - zs.length) (by omega)
      have e : sg (zs ++ t) p = t[p - zs.length]?.getD 0 := by unfold sg; rw [List.getElem?_append_right (by omega)]
      rw [e]
      exact ⟨Tm.known_ge hk, Tm.known_lt hk⟩
  · rw [sg_ext (by have := G.eight; omega)]; exact G.vars i hi
  · rw [List.length_append] at hp ⊢
    by_cases h : p < zs.length
    · rw [end_ext G h]; have := G.ends p h; omega
    · have he := Tm.end_in ht (k := p - zs.length) (by omega)
      have h2 := Tm.endAt_mid (pre := zs) (t := t) (post := []) (k := p - zs.length) (by omega) he
      rw [List.append_nil, show zs.length + (p - zs.length) = p from by omega] at h2
      omega
theorem St.ext {zs t : List Int} {T : Nat → Option Nat} {h : Nat → Nat} (S : St zs T h) : St (zs ++ t) T h := by
  have hc : ∀ p, p < zs.length → can (zs ++ t) p = can zs p := fun p hp => can_ext hp
  have hle : zs.length ≤ (zs ++ t).length := by rw [List.length_append]; omega
  refine ⟨fun p h1 h2 => ?_, fun p h1 h2 => ?_, fun p q h1 h2 h3 => ?_, ?_, fun p h1 h2 => ?_, fun p hp => S.out p (by omega)⟩
  · by_cases hp : p < zs.length
    · obtain ⟨a, b, c⟩ := S.root p hp (by rw [← hc p hp]; exact h2)
      exact ⟨by omega, by rw [hc _ a]; exact b, c⟩
    · obtain ⟨a, _⟩ := S.out p (by omega)
      rw [a]; exact ⟨h1, h2, a⟩
  · by_cases hp : p < zs.length
    · exact S.free p hp (by rw [← hc p hp]; exact h2)
    · obtain ⟨a, b⟩ := S.out p (by omega)
      simp [a, b]
  · by_cases hp : p < zs.length
    · obtain ⟨a, b, c⟩ := S.next p q hp (by rw [← hc p hp]; exact h2) h3
      exact ⟨by omega, by rw [hc _ a]; exact b, c⟩
    · obtain ⟨_, b⟩ := S.out p (by omega)
      rw [b] at h3; cases h3
  · obtain ⟨st, hst⟩ := S.down
    refine ⟨st, fun p q h1 h2 h3 => ?_⟩
    by_cases hp : p < zs.length
    · exact hst p q hp (by rw [← hc p hp]; exact h2) h3
    · obtain ⟨_, b⟩ := S.out p (by omega)
      rw [b] at h3; cases h3
  · by_cases hp : p < zs.length
    · have h2' : can zs p = p := by rw [← hc p hp]; exact h2
      obtain ⟨a, _, _⟩ := S.root p hp h2'
      rw [sg_ext hp, sg_ext a]
      exact S.up p hp h2'
    · rw [(S.out p (by omega)).1]; exact Int.le_refl _
theorem hd_ext {zs t : List Int} {h : Nat → Nat} {p : Nat} (hp : p < zs.length) : hd (zs ++ t) h p = hd zs h p := by unfold hd; rw [can_ext hp]
theorem Resp.ext {zs t : List Int} (G : Good zs) {T : Nat → Option Nat} {h : Nat → Nat} (S : St zs T h) {θ : Sb} (R : Resp zs h θ) : Resp (zs ++ t) h θ := fun p hp cp => by
  by_cases h1 : p < zs.length
  · have cp' : can zs p = p := by rw [← can_ext (t := t) h1]; exact cp
    obtain ⟨a, _, _⟩ := S.root p h1 cp'
    rw [cont_ext G h1, cont_ext G a]
    exact R p h1 cp'
  · rw [(S.out p (by omega)).1]
theorem Closed.ext {zs t : List Int} (G : Good zs) {T : Nat → Option Nat} {h : Nat → Nat} (S : St zs T h) (G' : Good (zs ++ t)) (C : Closed zs h []) : Closed (zs ++ t) h [] := fun p q hp hq sp sq e => by
  by_cases h1 : p < zs.length
  · by_cases h2 : q < zs.length
    · rw [sg_ext h1] at sp
      rw [sg_ext h2] at sq
      obtain ⟨e1, e2⟩ := C p q h1 h2 sp sq e
      rw [sg_ext h1, sg_ext h2]
      refine ⟨e1, fun i hi => ?_⟩
      rw [pos_ext G h1 i (by omega), pos_ext G h2 i (by rw [← e1]; omega)]
      have a := kid_lt G h1 hi
      have b := kid_lt G h2 (i := i) (by rw [← e1]; exact hi)
      exact .base _ _ (by rw [List.length_append]; omega) (by rw [List.length_append]; omega) (by rw [hd_ext a, hd_ext b]; exact eqv_nil (e2 i hi))
    · rw [sg_ext h1] at sp
      have := (S.root p h1 (can_pos sp)).1
      rw [e, (S.out q (by omega)).1] at this
      exact absurd this h2
  · by_cases h2 : q < zs.length
    · rw [sg_ext h2] at sq
      have := (S.root q h2 (can_pos sq)).1
      rw [← e, (S.out p (by omega)).1] at this
      exact absurd this h1
    · rw [(S.out p (by omega)).1, (S.out q (by omega)).1] at e
      subst e
      exact ⟨rfl, fun i hi => .base _ _ (kid_lt G' hp hi) (kid_lt G' hp hi) rfl⟩
end Wb

end Go.Proofs.Ytkjncjlombjlfaa

namespace Go.Proofs.Ytkjncjlombjlfaa
open Go.Proofs Go.RowKit Go.Shelf Go.Maps

namespace Wb
end Wb

/-- What is told by a panic: too large. -/
def manyChain : List PanicEntry := [{ v := .iface 24 (.int .i64 2), recovered := false }]
/-- What grown leaves: xs with l behind it, or the panic that l is too large; it writes nothing but the list's own block. -/
def GrAns (w w' : World) (base : Nat) (e : Ending) (v : Value) (xs l : List Int) : Prop :=
  w.grownBy w' v.ownBlock ∧ ((xs.length + l.length ≤ 30 ∧ ∃ v', e = .returned v' ∧ New base w' v' (xs ++ l) ∧ ∀ k, v'.ownBlock = some k → v.ownBlock = some k ∨ w.heap.size ≤ k) ∨ (30 < xs.length + l.length ∧ e = .panicked manyChain))

end Go.Proofs.Ytkjncjlombjlfaa
