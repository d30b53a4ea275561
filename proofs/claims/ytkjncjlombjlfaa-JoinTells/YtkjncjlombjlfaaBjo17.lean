/-
  A whole struct read out of its box, where the reading stands behind '&&' or '||'. · PLAIN MATHEMATICS: two terms made plain are both what one list of variables makes of them; pairs hold wherever the rules do. · PLAIN MATHEMATICS: pairs hold wherever the rules do; how many there are; in which order their variables stand. · PLAIN MATHEMATICS of haspref.met: nodes that are tied in classes; what a class becomes. · TIES IN MEMORY: haspref's (*ties).node of what is there, symbol, round. · haspref's (*ties).round. · haspref's (*ties).become. · haspref's (*ties).tie. · haspref's (*ties).close. · NODES WHILE THEY ARE LAID: what haspref's (*ties).node leaves. · haspref's (*ties).node. · haspref.met: from nodes that are laid to ties; what holds while pairs are tied. · haspref.met: nodes of both terms of a pair; a tie of two nodes; what is filled in. · haspref.met. · haspref.met, MeetOf, MeetAll. · The reference's side of pairs: what is put and then becomes; haspref.others; lists of pairs that can be read. · haspref.pairsOf. · haspref.own, stands, RulesError. · haspref.RulesError. · haspref.SamePairs; haspref.PairsOf. · haspref.allPairs, haspref.PairsAll.
-/
import Derived.Test.YtkjncjlombjlfaaBjo16
import Derived.Test.YtkjncjlombjlfaaBjo10
import Derived.Test.YtkjncjlombjlfaaBjo6
import Derived.Deep.QuietTactic
import Derived.BigQuiet
import Derived.LaidEqlPtr
import Derived.Deep.RegionHeld3
import Derived.Deep.DrawnRows
import Derived.Deep.AppendLies
import Derived.Deep.RegionLaw
import Derived.Test.YtkjncjlombjlfaaBjo5
namespace Go.Proofs.Ytkjncjlombjlfaa
open Go.Proofs Go.RowKit Go.Shelf Go.Maps

end Go.Proofs.Ytkjncjlombjlfaa

namespace Go.Proofs.Ytkjncjlombjlfaa
open Go.Proofs Go.RowKit Go.Shelf Go.Maps

namespace Sn
theorem see_cases (seen : List Int) (s : Int) : (0 ≤ s ∧ Tm.see seen s = seen) ∨ (s < 0 ∧ seen.contains s = true ∧ Tm.see seen s = seen) ∨ (s < 0 ∧ seen.contains s = false ∧ Tm.see seen s = seen ++ [s]) := by
  unfold Tm.see
  by_cases hs : s < 0
  · rw [if_pos hs]
    cases hc : seen.contains s with
    | true => exact .inr (.inl ⟨hs, rfl, by rw [if_pos rfl]⟩)
    | false => exact .inr (.inr ⟨hs, rfl, by rw [if_neg (by simp)]⟩)
  · rw [if_neg hs]; exact .inl ⟨by omega, rfl⟩
theorem see_pre (seen : List Int) (s : Int) : ∃ r, Tm.see seen s = seen ++ r := by
  rcases see_cases seen s with ⟨_, h⟩ | ⟨_, _, h⟩ | ⟨_, _, h⟩
  · exact ⟨[], by rw [h, List.append_nil]⟩
  · exact ⟨[], by rw [h, List.append_nil]⟩
  · exact ⟨[s], h⟩
theorem seen_cons (seen : List Int) (s : Int) (l : List Int) : Tm.seenFrom seen (s :: l) = Tm.seenFrom (Tm.see seen s) l := rfl
theorem seen_app (seen l r : List Int) : Tm.seenFrom seen (l ++ r) = Tm.seenFrom (Tm.seenFrom seen l) r := by simp [Tm.seenFrom, List.foldl_append]
theorem seen_pre : ∀ (t seen : List Int), ∃ r, Tm.seenFrom seen t = seen ++ r := by
  intro t
  induction t with
  | nil => intro seen; exact ⟨[], by rw [List.append_nil]; rfl⟩
  | cons s l ih =>
    intro seen
    obtain ⟨r1, h1⟩ := see_pre seen s
    obtain ⟨r2, h2⟩ := ih (Tm.see seen s)
    exact ⟨r1 ++ r2, by rw [seen_cons, h2, h1, List.append_assoc]⟩
theorem see_mem (seen : List Int) {s : Int} (hs : s < 0) : (Tm.see seen s).contains s = true := by
  rcases see_cases seen s with ⟨h, _⟩ | ⟨_, h, e⟩ | ⟨_, _, e⟩
  · omega
  · rw [e]; exact h
  · rw [e]; simp
theorem idx_lt {seen : List Int} {s : Int} (h : seen.contains s = true) : Tm.idx seen s < seen.length := by
  unfold Tm.idx
  rw [List.findIdx_lt_length]
  exact ⟨s, by simpa using h, by simp⟩
theorem idx_last {seen : List Int} {s : Int} (h : seen.contains s = false) : Tm.idx (seen ++ [s]) s = seen.length := by
  unfold Tm.idx
  rw [List.findIdx_append, if_neg]
  · simp
  · rw [List.findIdx_lt_length]
    rintro ⟨y, hy, e⟩
    have e' : y = s := by simpa using e
    subst e'
    have : ¬ y ∈ seen := by simpa using h
    exact this hy
/-- A variable's new name, by all that are seen in the end. -/
def ren (S : List Int) (s : Int) : Int := if s < 0 then -1 - (Tm.idx S s : Int) else s
theorem name_ren (seen r : List Int) (s : Int) : Tm.name seen s = ren (Tm.see seen s ++ r) s := by
  unfold Tm.name ren
  by_cases hs : s < 0
  · rw [if_pos hs, if_pos hs, Tm.idx_app (see_mem seen hs)]
    rcases see_cases seen s with ⟨h, _⟩ | ⟨_, _, e⟩ | ⟨_, hc, e⟩
    · omega
    · rw [e]
    · rw [e, idx_last hc, Tm.idx_new hc]
  · rw [if_neg hs, if_neg hs]
theorem plain_map (t seen r : List Int) : Tm.plainTo seen t t.length = t.map (ren (Tm.seenFrom seen t ++ r)) := by
  refine List.ext_getElem (by simp [Tm.plainTo_length]) fun i h1 h2 => ?_
  rw [Tm.plainTo_length] at h1
  have hl : (Tm.plainTo seen t t.length)[i]'(by rw [Tm.plainTo_length]; exact h1) = Tm.name (Tm.seenFrom seen (t.take i)) t[i] := by simp [Tm.plainTo, h1]
  rw [List.getElem_map, hl]
  have hd : t = t.take i ++ (t[i] :: t.drop (i + 1)) := by rw [← List.drop_eq_getElem_cons h1, List.take_append_drop]
  obtain ⟨r', hr'⟩ := seen_pre (t.drop (i + 1)) (Tm.see (Tm.seenFrom seen (t.take i)) t[i])
  have hS : Tm.seenFrom seen t ++ r = Tm.see (Tm.seenFrom seen (t.take i)) t[i] ++ (r' ++ r) := by
    conv => lhs; rw [hd]
    rw [seen_app, seen_cons, hr', List.append_assoc]
  have hf := name_ren (Tm.seenFrom seen (t.take i)) (r' ++ r) t[i]
  rw [← hS] at hf
  exact hf
def renL (S : List Int) : List (List Int) := (List.range 8).map fun i : Nat => if S.contains (-1 - (i : Int)) = true then [-1 - (Tm.idx S (-1 - (i : Int)) : Int)] else [-1]
theorem err_var {v : Int} (h1 : -8 ≤ v) (h2 : v < 0) : Tm.err [v] = 0 := by
  refine Tm.err_ok (by simp) (by simp only [List.all_cons, List.all_nil, Bool.and_true]; exact Tm.known_of h1 (by omega)) ?_
  rw [show (1 : Nat) = 0 + 1 from rfl, Tm.run_cons, Wb.room_var h2, Tm.run_zero]
  rfl
end Sn

/-- A rule with its variables made others. -/
def Tm.othL : List (List Int) := [[-5], [-6], [-7], [-8], [-1], [-1], [-1], [-1]]
end Go.Proofs.Ytkjncjlombjlfaa

namespace Go.Proofs.Ytkjncjlombjlfaa
open Go.Proofs Go.RowKit Go.Shelf Go.Maps

/-- The variables stand in their order. -/
def Ordered (B : List Int) : Prop := ∃ nx : Nat → Int, nx 0 = -1 ∧ ∀ n, n < B.length → ¬ B[n]?.getD 0 < nx n ∧ nx (n + 1) = (if B[n]?.getD 0 = nx n then nx n - 1 else nx n) ∧ -100000 ≤ nx n
theorem Sn.both (X Y : List Int) : Tm.plain X ++ Tm.plain2 X Y = Tm.plainTo [] (X ++ Y) (X ++ Y).length := by
  obtain ⟨r, hr⟩ := Sn.seen_pre Y (Tm.seenFrom [] X)
  have h1 := Sn.plain_map X [] r
  have h2 := Sn.plain_map Y (Tm.seenFrom [] X) []
  have h3 := Sn.plain_map (X ++ Y) [] []
  rw [← hr] at h1
  rw [List.append_nil] at h2 h3
  rw [Sn.seen_app] at h3
  show Tm.plainTo [] X X.length ++ Tm.plainTo (Tm.seenFrom [] X) Y Y.length = _
  rw [h1, h2, h3, List.map_append]
theorem Sn.step (S : List Int) (s : Int) (h : S.length ≤ 1000) : ¬ Tm.name S s < -1 - (S.length : Int) ∧ -1 - ((Tm.see S s).length : Int) = (if Tm.name S s = -1 - (S.length : Int) then -1 - (S.length : Int) - 1 else -1 - (S.length : Int)) ∧ -100000 ≤ -1 - (S.length : Int) := by
  rcases Sn.see_cases S s with ⟨h0, e⟩ | ⟨hs, hc, e⟩ | ⟨hs, hc, e⟩
  · have hn : Tm.name S s = s := by unfold Tm.name; rw [if_neg (by omega)]
    rw [hn, e]
    refine ⟨by omega, by rw [if_neg (by omega)], by omega⟩
  · have hn : Tm.name S s = -1 - (Tm.idx S s : Int) := by unfold Tm.name; rw [if_pos hs]
    have := Sn.idx_lt hc
    rw [hn, e]
    refine ⟨by omega, by rw [if_neg (by omega)], by omega⟩
  · have hn : Tm.name S s = -1 - (S.length : Int) := by unfold Tm.name; rw [if_pos hs, Tm.idx_new hc]
    rw [hn, e, List.length_append]
    refine ⟨by omega, by rw [if_pos rfl]; simp; omega, by omega⟩
/-- How many symbols. -/
def symN (L : List Int) : Nat := (L.filter fun s => decide (0 ≤ s)).length
end Go.Proofs.Ytkjncjlombjlfaa

namespace Go.Proofs.Ytkjncjlombjlfaa
open Go.Proofs Go.RowKit Go.Shelf Go.Maps

namespace Mt
open Wb (App TermSb Same Sb App_cons App_flatten)

/-- n nodes; each has a sign, parts (nodes, too) and signs that stand there; a variable is one node. -/
structure Gph (n : Nat) (S : Nat → Int) (K : Nat → List Nat) (Z : Nat → List Int) : Prop where
  known : ∀ k, k < n → -8 ≤ S k ∧ S k < 6
  room : ∀ k, k < n → (K k).length = Tm.room (S k)
  kids : ∀ k, k < n → ∀ i ∈ K k, i < n
  sign : ∀ k, k < n → Z k = S k :: ((K k).map Z).flatten
  vars : ∀ i j, i < n → j < n → S i < 0 → S i = S j → i = j

theorem mem_len {l : List (List Int)} {x : List Int} (h : x ∈ l) : x.length ≤ l.flatten.length := by
  induction l with
  | nil => simp at h
  | cons y l ih =>
    rw [List.flatten_cons, List.length_append]
    rcases List.mem_cons.1 h with e | h
    · subst e; omega
    · have := ih h; omega
theorem Gph.kid_len {n : Nat} {S : Nat → Int} {K : Nat → List Nat} {Z : Nat → List Int} (G : Gph n S K Z) {k i : Nat} (hk : k < n) (hi : i ∈ K k) : (Z i).length < (Z k).length := by
  rw [G.sign k hk, List.length_cons]
  have := mem_len (List.mem_map_of_mem (f := Z) hi)
  omega
theorem run_kids {l : List (List Int)} (h : ∀ x ∈ l, Tm.run x 1 = x.length) : Tm.run l.flatten l.length = l.flatten.length :=
  Tm.run_flatten l fun j hj => by
    rw [List.getElem?_eq_getElem hj]
    exact h _ (List.getElem_mem hj)
theorem Gph.run {n : Nat} {S : Nat → Int} {K : Nat → List Nat} {Z : Nat → List Int} (G : Gph n S K Z) : ∀ (m k : Nat), (Z k).length ≤ m → k < n → Tm.run (Z k) 1 = (Z k).length := by
  intro m
  induction m with
  | zero => intro k h hk; rw [G.sign k hk, List.length_cons] at h; omega
  | succ m ih =>
    intro k h hk
    have e := G.sign k hk
    have hr : Tm.run ((K k).map Z).flatten ((K k).map Z).length = ((K k).map Z).flatten.length := run_kids fun x hx => by
      obtain ⟨i, hi, rfl⟩ := List.mem_map.1 hx
      exact ih i (by have := G.kid_len hk hi; omega) (G.kids k hk i hi)
    rw [List.length_map, G.room k hk] at hr
    rw [e, show (1 : Nat) = 0 + 1 from rfl, Tm.run_cons, Nat.zero_add, hr, List.length_cons]
    omega
theorem Gph.app {n : Nat} {S : Nat → Int} {K : Nat → List Nat} {Z : Nat → List Int} (G : Gph n S K Z) (θ : Sb) {k : Nat} (hk : k < n) (hs : 0 ≤ S k) : App θ (Z k) = S k :: ((K k).map fun i => App θ (Z i)).flatten := by
  rw [G.sign k hk, App_cons, if_neg (by omega), App_flatten, List.map_map]
  rfl
theorem Gph.var {n : Nat} {S : Nat → Int} {K : Nat → List Nat} {Z : Nat → List Int} (G : Gph n S K Z) {k : Nat} (hk : k < n) (hs : S k < 0) : K k = [] ∧ Z k = [S k] := by
  have h := G.room k hk
  rw [Wb.room_var hs] at h
  have e := List.eq_nil_of_length_eq_zero h
  exact ⟨e, by rw [G.sign k hk, e]; rfl⟩
/-- What becomes the same of two symbols has the same symbol, and parts that become the same. -/
theorem Gph.eq {n : Nat} {S : Nat → Int} {K : Nat → List Nat} {Z : Nat → List Int} (G : Gph n S K Z) {θ : Sb} (hθ : TermSb θ) {p q : Nat} (hp : p < n) (hq : q < n) (sp : 0 ≤ S p) (sq : 0 ≤ S q) (h : App θ (Z p) = App θ (Z q)) :
    S p = S q ∧ ∀ i, i < Tm.room (S p) → App θ (Z ((K p)[i]?.getD 0)) = App θ (Z ((K q)[i]?.getD 0)) := by
  rw [G.app θ hp sp, G.app θ hq sq] at h
  obtain ⟨e, h2⟩ := List.cons.inj h
  have hrun : ∀ r, r < n → ∀ x ∈ (K r).map (fun k => App θ (Z k)), Tm.run x 1 = x.length := fun r hr x hx => by
    obtain ⟨i, hi, rfl⟩ := List.mem_map.1 hx
    exact Wb.App_run hθ _ 1 (G.run _ i (Nat.le_refl _) (G.kids r hr i hi))
  have h3 := Wb.flatten_inj _ _ (hrun p hp) (hrun q hq) (by rw [List.length_map, List.length_map, G.room p hp, G.room q hq, e]) h2
  refine ⟨e, fun i hi => ?_⟩
  have h4 := congrArg (fun l : List (List Int) => l[i]?.getD []) h3
  simp only [List.getElem?_map] at h4
  have l1 : i < (K p).length := by rw [G.room p hp]; exact hi
  have l2 : i < (K q).length := by rw [G.room q hq, ← e]; exact hi
  rw [List.getElem?_eq_getElem l1, List.getElem?_eq_getElem l2] at h4 ⊢
  exact h4

/-- Does what variables become keep to the classes? -/
def Resp (n : Nat) (Z : Nat → List Int) (C : Nat → Nat) (θ : Sb) : Prop := ∀ i j, i < n → j < n → C i = C j → App θ (Z i) = App θ (Z j)
/-- Two classes are made one. -/
def tied (C : Nat → Nat) (a b : Nat) : Nat → Nat := fun k => if C k = C a then C b else C k
theorem tied_same (C : Nat → Nat) (a b : Nat) : tied C a b a = tied C a b b := by
  unfold tied
  rw [if_pos rfl]
  by_cases e : C b = C a
  · rw [if_pos e]
  · rw [if_neg e]
theorem tied_mono {C : Nat → Nat} {i j : Nat} (a b : Nat) (h : C i = C j) : tied C a b i = tied C a b j := by unfold tied; rw [h]
theorem Resp.tie {n : Nat} {Z : Nat → List Int} {C : Nat → Nat} {θ : Sb} (R : Resp n Z C θ) {a b : Nat} (ha : a < n) (hb : b < n) (h : App θ (Z a) = App θ (Z b)) : Resp n Z (tied C a b) θ := fun i j hi hj e => by
  unfold tied at e
  by_cases h1 : C i = C a
  · rw [if_pos h1] at e
    by_cases h2 : C j = C a
    · rw [R i a hi ha h1, R j a hj ha h2]
    · rw [if_neg h2] at e
      rw [R i a hi ha h1, h, R b j hb hj e]
  · rw [if_neg h1] at e
    by_cases h2 : C j = C a
    · rw [if_pos h2] at e
      rw [R i b hi hb e, ← h, R j a hj ha h2]
    · rw [if_neg h2] at e
      exact R i j hi hj e
/-- How many classes there are. -/
def cls (n : Nat) (C : Nat → Nat) : Nat := ((List.range n).filter fun c => (List.range n).any fun k => C k == c).length
theorem used_iff {n : Nat} {C : Nat → Nat} {c : Nat} : ((List.range n).any fun k => C k == c) = true ↔ ∃ k, k < n ∧ C k = c := by simp
theorem cls_tie {n : Nat} {C : Nat → Nat} {a b : Nat} (hC : ∀ k, k < n → C k < n) (ha : a < n) (hb : b < n) (hne : C a ≠ C b) : cls n (tied C a b) < cls n C := by
  refine Wb.filter_lt _ _ _ (fun c _ h => ?_) (C a) (List.mem_range.2 (hC a ha)) ?_ (used_iff.2 ⟨a, ha, rfl⟩)
  · obtain ⟨k, hk, e⟩ := used_iff.1 h
    unfold tied at e
    by_cases h1 : C k = C a
    · rw [if_pos h1] at e; exact used_iff.2 ⟨b, hb, e⟩
    · rw [if_neg h1] at e; exact used_iff.2 ⟨k, hk, e⟩
  · rw [Bool.eq_false_iff]
    intro h
    obtain ⟨k, hk, e⟩ := used_iff.1 h
    unfold tied at e
    by_cases h1 : C k = C a
    · rw [if_pos h1] at e; exact hne e.symm
    · rw [if_neg h1] at e; exact h1 e
theorem tied_lt {n : Nat} {C : Nat → Nat} {a b : Nat} (hC : ∀ k, k < n → C k < n) (hb : b < n) : ∀ k, k < n → tied C a b k < n := fun k hk => by
  unfold tied
  split
  · exact hC b hb
  · exact hC k hk

/-- Are two nodes closed: if they are tied, and are symbols, these are the same, and all parts are tied? -/
def Shut (S : Nat → Int) (K : Nat → List Nat) (C : Nat → Nat) (a b : Nat) : Prop := C a = C b → 0 ≤ S a → 0 ≤ S b → S a = S b ∧ ∀ i, i < Tm.room (S a) → C ((K a)[i]?.getD 0) = C ((K b)[i]?.getD 0)
/-- The first symbol of a class. -/
def sym (n : Nat) (S : Nat → Int) (C : Nat → Nat) (c : Nat) : Option Nat := (List.range n).find? fun k => decide (C k = c) && decide (0 ≤ S k)
/-- Does a class stand in itself, as far as it is looked? -/
def rnd (n : Nat) (S : Nat → Int) (K : Nat → List Nat) (C : Nat → Nat) : Nat → Nat → Bool
  | 0, _ => true
  | f + 1, c => match sym n S C c with
    | none => false
    | some k => (K k).any fun i => rnd n S K C f (C i)
/-- The greatest variable of a class, of the first m nodes. -/
def bst (S : Nat → Int) (C : Nat → Nat) (c : Nat) : Nat → Int
  | 0 => -9
  | m + 1 => if C m = c ∧ bst S C c m < S m then S m else bst S C c m
/-- What a class becomes. -/
def bec (n : Nat) (S : Nat → Int) (K : Nat → List Nat) (C : Nat → Nat) : Nat → Nat → List Int
  | 0, _ => []
  | f + 1, c => match sym n S C c with
    | none => [bst S C c n]
    | some k => S k :: ((K k).map fun i => bec n S K C f (C i)).flatten
/-- What variables become by the classes. -/
def sig (n : Nat) (S : Nat → Int) (K : Nat → List Nat) (C : Nat → Nat) : Sb := fun v => match (List.range n).find? fun k => decide (S k = v) with
  | some k => bec n S K C (n + 1) (C k)
  | none => [v]
end Mt

end Go.Proofs.Ytkjncjlombjlfaa

namespace Go.Proofs.Ytkjncjlombjlfaa
open Go.Proofs Go.RowKit Go.Shelf Go.Maps

/-- Node j is the one that is found for the tree at p, whose sign is S j. -/
def Fnd (n : Nat) (N : Nat → Nat) (S : Nat → Int) (p j : Nat) : Prop := j < n ∧ (S j < 0 → ∀ k, k < j → S k ≠ S j) ∧ (0 ≤ S j → N j = p ∧ ∀ k, k < j → N k ≠ p)
/-- Block x holds ties: nodes N, classes C; the nodes' signs S, parts P, and the nodes K that are found for these. -/
structure Ties (W : World) (x n : Nat) (aN : Option Addr) (cN : Nat) (aC : Option Addr) (cC : Nat) (N : Nat → Nat) (C : Nat → Nat) (S : Nat → Int) (K : Nat → List Nat) (P : Nat → Nat → Nat) : Prop where
  c0 : W.cell? ⟨x, 0, none⟩ = some (.slice aN n cN)
  c1 : W.cell? ⟨x, 1, none⟩ = some (.slice aC n cC)
  nd : ∀ k, k < n → ∃ b off, aN = some ⟨b, off, none⟩ ∧ W.cell? ⟨b, off + k, none⟩ = some (ptr (N k))
  cl : ∀ k, k < n → ∃ b off, aC = some ⟨b, off, none⟩ ∧ W.cell? ⟨b, off + k, none⟩ = some (.int .i64 (C k : Int))
  tr : ∀ k, k < n → ∃ a c, Node W (N k) (S k) (.slice a (Tm.room (S k)) c) ∧ ∀ i, i < Tm.room (S k) → ∃ b off, a = some ⟨b, off, none⟩ ∧ W.cell? ⟨b, off + i, none⟩ = some (ptr (P k i))
  ps : ∀ k i, k < n → i < Tm.room (S k) → ∃ v, Node W (P k i) (S ((K k)[i]?.getD 0)) v
  fd : ∀ k i, k < n → i < Tm.room (S k) → Fnd n N S (P k i) ((K k)[i]?.getD 0)
  le : n ≤ 5000
theorem Ties.drewN {W : World} {x n : Nat} {aN : Option Addr} {cN : Nat} {aC : Option Addr} {cC : Nat} {N : Nat → Nat} {C : Nat → Nat} {S : Nat → Int} {K : Nat → List Nat} {P : Nat → Nat → Nat} (h : Ties W x n aN cN aC cC N C S K P) (d : Nat) : Ties (W.drewN d) x n aN cN aC cC N C S K P :=
  ⟨h.c0, h.c1, h.nd, h.cl, h.tr, h.ps, h.fd, h.le⟩

theorem Try.infoTree : ∃ j, Try.prog.info? 94 = some j ∧ j.size ≠ 0 := by
  have h : (Try.prog.info? 94).map (fun i => i.size) = some 2 := by kernel_rfl
  cases hi : Try.prog.info? 94 with
  | none => rw [hi] at h; cases h
  | some j =>
    rw [hi] at h
    simp only [Option.map_some, Option.some.injEq] at h
    exact ⟨j, rfl, by omega⟩

set_option maxRecDepth 100000 in
set_option maxHeartbeats 1000000 in
/-- (*ties).node of a tree that is there. -/
theorem node_fd {x n : Nat} {aN : Option Addr} {cN : Nat} {N : Nat → Nat} {S : Nat → Int} (w : World) (p j : Nat) (hc0 : w.cell? ⟨x, 0, none⟩ = some (.slice aN n cN)) (hnd : ∀ k, k < n → ∃ b off, aN = some ⟨b, off, none⟩ ∧ w.cell? ⟨b, off + k, none⟩ = some (ptr (N k))) (hsg : ∀ k, k < n → ∃ v, Node w (N k) (S k) v) (hn : n ≤ 5000)
    {vp : Value} (hpN : Node w p (S j) vp) (F : Fnd n N S p j) :
    Calls Try.prog 62 #[ptr x, ptr p] w fun e w' => e = .returned (.int .i64 (j : Int)) ∧ ∃ m, w' = w.drewN m := by
  obtain ⟨hj, F1, F2⟩ := F
  obtain ⟨ti, hti, htz⟩ := Try.infoTree
  have hn' : (n : Int) ≤ 5000 := by omega
  have Hnd := hid hnd
  have hp := hpN.cell0
  have HpN := hid hpN
  clear hpN
  have Hsg := hid hsg
  clear hnd hsg
  by_cases hs : S j < 0
  · have F1' := hid (F1 hs)
    clear F1 F2
    have Hd : Hid (S j = S j) := rfl
    generalize hsd : S j = s at *
    have HS := hid hsd
    clear hsd Hd
    go_enter Try.func62, Try.ntmps62
    go_wp2
    go_loopw [5] (fun i wr => ∃ k : Nat, k ≤ j ∧ i = .int .i64 (k : Int) ∧ ∃ d, wr = w.drewN d) (fun i _ => j - (intOf i).toNat)
    case atStart => exact ⟨0, Nat.zero_le _, rfl, 0, rfl⟩
    case round =>
      obtain ⟨k, hk, rfl, d, rfl⟩ := hrel
      have hkn : (k : Int) < (n : Int) := by omega
      obtain ⟨b, off, rfl, hck⟩ := Hnd.out k (by omega)
      obtain ⟨vk, hNk⟩ := Hsg.out k (by omega)
      have hsk := hNk.cell0
      clear hNk
      by_cases hlt : k < j
      · have hne : (S k == s) = false := by simpa using F1'.out k hlt
        generalize S k = sk at *
        go_wp2
        go_quiet (fail)
        go_wp2
        go_roundw
        case rel => exact ⟨k + 1, by omega, by go_num, _, rfl⟩
        case measure => simp [intOf]; omega
      · obtain rfl : k = j := by omega
        rw [HS.out] at hsk
        go_wp2
        go_quiet (fail)
        go_wp2
        go_ret
        exact ⟨rfl, _, World.drewN_drewN _ _ _⟩
  · obtain ⟨F3, F4⟩ := F2 (by omega)
    have F4' := hid F4
    have F3' := hid F3
    have hs0 : decide (S j < 0) = false := by simpa using hs
    clear F1 F2 F3 F4 hs
    generalize S j = s at *
    have h0n : (0 : Int) < (n : Int) := by omega
    go_enter Try.func62, Try.ntmps62
    go_wp2
    refine wp_loop_rounds 1 ?_
    rw [rounds_succ]
    go_wp2
    go_loopw [6] (fun i wr => ∃ k : Nat, k ≤ j ∧ i = .int .i64 (k : Int) ∧ ∃ d, wr = w.drewN d) (fun i _ => j - (intOf i).toNat)
    case atStart => exact ⟨0, Nat.zero_le _, rfl, 0, rfl⟩
    case round =>
      obtain ⟨k, hk, rfl, d, rfl⟩ := hrel
      have hkn : (k : Int) < (n : Int) := by omega
      obtain ⟨b, off, rfl, hck⟩ := Hnd.out k (by omega)
      by_cases hlt : k < j
      · obtain ⟨vk, hNk⟩ := Hsg.out k (by omega)
        have hrun := run_eql_ptr_other (P := Try.prog) (w.drewN d) (a := ⟨N k, 0, none⟩) (b := ⟨p, 0, none⟩) Try.underlying89 hti htz (fun e => F4'.out k hlt (by cases e; rfl)) hNk HpN.out
        clear hNk
        generalize N k = q at *
        go_wp2
        go_roundw
        case rel => exact ⟨k + 1, by omega, by go_num, _, rfl⟩
        case measure => simp [intOf]; omega
      · obtain rfl : k = j := by omega
        rw [F3'.out] at hck
        have hrun := run_eql_ptr_same (P := Try.prog) (w.drewN d) ⟨p, 0, none⟩ Try.underlying89 hti
        go_wp2
        go_ret
        exact ⟨rfl, _, rfl⟩

namespace Mt
/-- As (*ties).symbol tells it. -/
def symI (n : Nat) (S : Nat → Int) (C : Nat → Nat) (c : Nat) : Int := match sym n S C c with
  | some k => (k : Int)
  | none => -1
end Mt

end Go.Proofs.Ytkjncjlombjlfaa

namespace Go.Proofs.Ytkjncjlombjlfaa
open Go.Proofs Go.RowKit Go.Shelf Go.Maps

end Go.Proofs.Ytkjncjlombjlfaa

namespace Go.Proofs.Ytkjncjlombjlfaa
open Go.Proofs Go.RowKit Go.Shelf Go.Maps

theorem Node.heap {W W' : World} {X : Nat} {s : Int} {v : Value} (h : Node W X s v) (e : W'.heap = W.heap) : Node W' X s v := by unfold Node; rw [e]; exact h
/-- All that is read is as it was. -/
theorem Ties.keep {W W' : World} {x n : Nat} {aN : Option Addr} {cN : Nat} {aC : Option Addr} {cC : Nat} {N : Nat → Nat} {C : Nat → Nat} {S : Nat → Int} {K : Nat → List Nat} {P : Nat → Nat → Nat} (h : Ties W x n aN cN aC cC N C S K P) (hk : ∀ k, k < W.heap.size → W'.heap[k]? = W.heap[k]?) : Ties W' x n aN cN aC cC N C S K P := by
  have hc : ∀ (p : Addr) v, W.cell? p = some v → W'.cell? p = some v := fun p v hv => by
    have hlt : p.block < W.heap.size := lt_of_cell hv
    rw [World.cell?_of_block (hk p.block hlt), hv]
  refine ⟨hc _ _ h.c0, hc _ _ h.c1, fun k hk' => ?_, fun k hk' => ?_, fun k hk' => ?_, fun k i hk' hi => ?_, h.fd, h.le⟩
  · obtain ⟨b, off, e, h1⟩ := h.nd k hk'; exact ⟨b, off, e, hc _ _ h1⟩
  · obtain ⟨b, off, e, h1⟩ := h.cl k hk'; exact ⟨b, off, e, hc _ _ h1⟩
  · obtain ⟨a, c, h1, h2⟩ := h.tr k hk'
    exact ⟨a, c, (hk _ h1.lt).trans h1, fun i hi => by obtain ⟨b, off, e, h3⟩ := h2 i hi; exact ⟨b, off, e, hc _ _ h3⟩⟩
  · obtain ⟨v, h1⟩ := h.ps k i hk' hi; exact ⟨v, (hk _ h1.lt).trans h1⟩
theorem Ties.heap {W W' : World} {x n : Nat} {aN : Option Addr} {cN : Nat} {aC : Option Addr} {cC : Nat} {N : Nat → Nat} {C : Nat → Nat} {S : Nat → Int} {K : Nat → List Nat} {P : Nat → Nat → Nat} (h : Ties W x n aN cN aC cC N C S K P) (e : W'.heap = W.heap) : Ties W' x n aN cN aC cC N C S K P := h.keep fun k _ => by rw [e]
theorem Ties.below {W W' : World} {x n : Nat} {aN : Option Addr} {cN : Nat} {aC : Option Addr} {cC : Nat} {N : Nat → Nat} {C : Nat → Nat} {S : Nat → Int} {K : Nat → List Nat} {P : Nat → Nat → Nat} (h : Ties W x n aN cN aC cC N C S K P) (hB : Below W.heap.size W W') : Ties W' x n aN cN aC cC N C S K P := h.keep hB.block
/-- (*ties).node of a node's part. -/
theorem Ties.node {W : World} {x n : Nat} {aN : Option Addr} {cN : Nat} {aC : Option Addr} {cC : Nat} {N : Nat → Nat} {C : Nat → Nat} {S : Nat → Int} {K : Nat → List Nat} {P : Nat → Nat → Nat} (h : Ties W x n aN cN aC cC N C S K P) {k i : Nat} (hk : k < n) (hi : i < Tm.room (S k)) :
    Calls Try.prog 62 #[ptr x, ptr (P k i)] W fun e w' => e = .returned (.int .i64 (((K k)[i]?.getD 0 : Nat) : Int)) ∧ ∃ m, w' = W.drewN m := by
  obtain ⟨v, hv⟩ := h.ps k i hk hi
  exact node_fd (x := x) W (P k i) ((K k)[i]?.getD 0) h.c0 h.nd (fun k hk => by obtain ⟨a, c, h, _⟩ := h.tr k hk; exact ⟨_, h⟩) h.le hv (h.fd k i hk hi)

/-- What become answers. -/
def BecAns (w w' : World) (e : Ending) (zs : List Int) : Prop := ∃ v, e = .returned v ∧ Below w.heap.size w w' ∧ ((zs.length ≤ 30 ∧ New w.heap.size w' v zs) ∨ (30 < zs.length ∧ v = .slice none 0 0))

attribute [local go_sem ↓] Go.wp_at_zero Go.wp_at_succ

namespace Mt
/-- The parts' signs, the first j of them. -/
def becT (n : Nat) (S : Nat → Int) (K : Nat → List Nat) (C : Nat → Nat) (f : Nat) (l : List Nat) (j : Nat) : List Int := ((l.take j).map fun i => bec n S K C f (C i)).flatten
end Mt

end Go.Proofs.Ytkjncjlombjlfaa

namespace Go.Proofs.Ytkjncjlombjlfaa
open Go.Proofs Go.RowKit Go.Shelf Go.Maps

namespace Mt
def clL (n : Nat) (C : Nat → Nat) : List Int := (List.range n).map fun k => (C k : Int)
theorem clL_length (n : Nat) (C : Nat → Nat) : (clL n C).length = n := by simp [clL]
theorem clL_at {n : Nat} (C : Nat → Nat) {k : Nat} (h : k < n) : (clL n C)[k]?.getD 0 = (C k : Int) := by simp [clL, h]
/-- Tied, the first k nodes of them. -/
def mid (C : Nat → Nat) (a b k : Nat) : Nat → Nat := fun j => if j < k then tied C a b j else C j
end Mt

/-- Ties whose classes lie in block g, and nothing else that they are of. -/
def TiesO (W : World) (x n : Nat) (aN : Option Addr) (cN g cC : Nat) (N : Nat → Nat) (C : Nat → Nat) (S : Nat → Int) (K : Nat → List Nat) (P : Nat → Nat → Nat) : Prop :=
  g < W.heap.size ∧ (∀ W', Keep W.heap.size g W W' → ∀ C', (∀ k, k < n → W'.cell? ⟨g, k, none⟩ = some (.int .i64 (C' k : Int))) → Ties W' x n aN cN (some ⟨g, 0, none⟩) cC N C' S K P) ∧ New 0 W (.slice (some ⟨g, 0, none⟩) n cC) (Mt.clL n C)
theorem New.atG {base : Nat} {W : World} {g n c : Nat} {zs : List Int} (h : New base W (.slice (some ⟨g, 0, none⟩) n c) zs) (hn : n = zs.length) : (∀ j, j < n → W.cell? ⟨g, j, none⟩ = some (.int .i64 (zs[j]?.getD 0))) ∧ ∀ j, W.frozen? ⟨g, j, none⟩ = false := by
  by_cases h0 : 0 < zs.length
  · obtain ⟨g', c', e, h1, h2⟩ := New.at0 h h0
    cases e
    exact ⟨fun j hj => h1 j (by omega), h2⟩
  · refine ⟨fun j hj => by omega, fun j => ?_⟩
    rcases h.2 with ⟨e, _⟩ | ⟨g', c', cur, e, _, hg, _⟩
    · cases e
    · cases e
      simp [World.frozen?, hg]
theorem TiesO.ties {W : World} {x n : Nat} {aN : Option Addr} {cN g cC : Nat} {N : Nat → Nat} {C : Nat → Nat} {S : Nat → Int} {K : Nat → List Nat} {P : Nat → Nat → Nat} (h : TiesO W x n aN cN g cC N C S K P) : Ties W x n aN cN (some ⟨g, 0, none⟩) cC N C S K P := by
  obtain ⟨_, h1, h2⟩ := h
  refine h1 W (Keep.refl _ _ _) C fun k hk => ?_
  rw [(New.atG h2 (Mt.clL_length n C).symm).1 k hk, Mt.clL_at C hk]
theorem TiesO.keep {W W' : World} {x n : Nat} {aN : Option Addr} {cN g cC : Nat} {N : Nat → Nat} {C C' : Nat → Nat} {S : Nat → Int} {K : Nat → List Nat} {P : Nat → Nat → Nat} (h : TiesO W x n aN cN g cC N C S K P) (hK : Keep W.heap.size g W W') (hN : New 0 W' (.slice (some ⟨g, 0, none⟩) n cC) (Mt.clL n C')) : TiesO W' x n aN cN g cC N C' S K P :=
  ⟨by have := h.1; have := hK.size; omega, fun W2 hK2 C2 hC2 => h.2.1 W2 (hK.trans (hK2.mono hK.size)) C2 hC2, hN⟩

end Go.Proofs.Ytkjncjlombjlfaa

namespace Go.Proofs.Ytkjncjlombjlfaa
open Go.Proofs Go.RowKit Go.Shelf Go.Maps

namespace Mt
open Wb (App TermSb Same Sb)
/-- What holds while parts are tied: C0: how it began; C1: how this round began; ag: whether something was tied in it. -/
structure CInv (n : Nat) (Z : Nat → List Int) (C0 C1 : Nat → Nat) (ag : Bool) (C : Nat → Nat) : Prop where
  lt : ∀ k, k < n → C k < n
  coarse : ∀ i j, i < n → j < n → C0 i = C0 j → C i = C j
  sound : ∀ θ, TermSb θ → Resp n Z C0 θ → Resp n Z C θ
  same : ag = false → C = C1
  less : ag = true → cls n C < cls n C1
theorem CInv.le {n : Nat} {Z : Nat → List Int} {C0 C1 : Nat → Nat} {ag : Bool} {C : Nat → Nat} (H : CInv n Z C0 C1 ag C) : cls n C ≤ cls n C1 := by
  cases ag with
  | false => rw [H.same rfl]; exact Nat.le_refl _
  | true => have := H.less rfl; omega
theorem CInv.begin {n : Nat} {Z : Nat → List Int} {C0 C1 : Nat → Nat} {ag : Bool} {C : Nat → Nat} (H : CInv n Z C0 C1 ag C) : CInv n Z C0 C false C := ⟨H.lt, H.coarse, H.sound, fun _ => rfl, fun h => by cases h⟩
theorem CInv.start {n : Nat} (Z : Nat → List Int) {C : Nat → Nat} (h : ∀ k, k < n → C k < n) : CInv n Z C C false C := ⟨h, fun _ _ _ _ e => e, fun _ _ R => R, fun _ => rfl, fun h => by cases h⟩
theorem CInv.parts {n : Nat} {S : Nat → Int} {K : Nat → List Nat} {Z : Nat → List Int} (G : Gph n S K Z) {C0 C1 : Nat → Nat} {ag : Bool} {C : Nat → Nat} (H : CInv n Z C0 C1 ag C) {a b : Nat} (ha : a < n) (hb : b < n) (sa : 0 ≤ S a) (sb : 0 ≤ S b) (e : C a = C b) : ∀ θ, TermSb θ → Resp n Z C0 θ → S a = S b ∧ ∀ i, i < Tm.room (S a) → App θ (Z ((K a)[i]?.getD 0)) = App θ (Z ((K b)[i]?.getD 0)) :=
  fun θ hθ R => G.eq hθ ha hb sa sb (H.sound θ hθ R a b ha hb e)
theorem CInv.tie {n : Nat} {S : Nat → Int} {K : Nat → List Nat} {Z : Nat → List Int} (G : Gph n S K Z) {C0 C1 : Nat → Nat} {ag : Bool} {C : Nat → Nat} (H : CInv n Z C0 C1 ag C) {a b i : Nat} (ha : a < n) (hb : b < n) (sa : 0 ≤ S a) (sb : 0 ≤ S b) (e : C a = C b) (hi : i < Tm.room (S a)) (li : (K a)[i]?.getD 0 < n) (lj : (K b)[i]?.getD 0 < n) (hne : C ((K a)[i]?.getD 0) ≠ C ((K b)[i]?.getD 0)) :
    CInv n Z C0 C1 true (tied C ((K a)[i]?.getD 0) ((K b)[i]?.getD 0)) := by
  refine ⟨tied_lt H.lt lj, fun i j hi hj e => tied_mono _ _ (H.coarse i j hi hj e), fun θ hθ R => (H.sound θ hθ R).tie li lj ((H.parts G ha hb sa sb e θ hθ R).2 i hi), (fun h => by cases h), fun _ => ?_⟩
  have h1 := cls_tie H.lt li lj hne
  have h2 := H.le
  omega
theorem cls_congr {n : Nat} {C D : Nat → Nat} (h : ∀ k, k < n → C k = D k) : cls n C = cls n D := by
  unfold cls
  congr 1
  refine List.filter_congr fun c _ => ?_
  rw [Bool.eq_iff_iff, used_iff, used_iff]
  constructor
  · rintro ⟨k, hk, e⟩; exact ⟨k, hk, by rw [← h k hk]; exact e⟩
  · rintro ⟨k, hk, e⟩; exact ⟨k, hk, by rw [h k hk]; exact e⟩
/-- The classes, as they are read. -/
def rdC (g : Nat) (W : World) (k : Nat) : Nat := match W.cell? ⟨g, k, none⟩ with
  | some (.int _ z) => z.toNat
  | _ => 0
/-- Till nothing is tied any more. -/
def left (n g : Nat) (v : Value) (W : World) : Nat := 2 * cls n (rdC g W) + (match v with | .bool true => 1 | _ => 0)
end Mt
theorem TiesO.drewN {W : World} {x n : Nat} {aN : Option Addr} {cN g cC : Nat} {N : Nat → Nat} {C : Nat → Nat} {S : Nat → Int} {K : Nat → List Nat} {P : Nat → Nat → Nat} (h : TiesO W x n aN cN g cC N C S K P) (d : Nat) : TiesO (W.drewN d) x n aN cN g cC N C S K P := h.keep (keep_drewN (Keep.refl _ _ _) d) (h.2.2.drewN d)
theorem TiesO.cls {W : World} {x n : Nat} {aN : Option Addr} {cN g cC : Nat} {N : Nat → Nat} {C : Nat → Nat} {S : Nat → Int} {K : Nat → List Nat} {P : Nat → Nat → Nat} (h : TiesO W x n aN cN g cC N C S K P) : Mt.cls n (Mt.rdC g W) = Mt.cls n C := by
  refine Mt.cls_congr fun k hk => ?_
  obtain ⟨_, _, e, hc⟩ := h.ties.cl k hk
  cases e
  rw [Nat.zero_add] at hc
  unfold Mt.rdC
  rw [hc]
  exact Int.toNat_natCast _

/-- What close answers. -/
def CloseAns (w w' : World) (e : Ending) (x n : Nat) (aN : Option Addr) (cN g cC : Nat) (N : Nat → Nat) (C0 : Nat → Nat) (S : Nat → Int) (K : Nat → List Nat) (P : Nat → Nat → Nat) (Z : Nat → List Int) : Prop :=
  Keep w.heap.size g w w' ∧ ((e = .returned (.bool false) ∧ ∀ θ, Wb.TermSb θ → ¬ Mt.Resp n Z C0 θ) ∨
    (e = .returned (.bool true) ∧ ∃ C, TiesO w' x n aN cN g cC N C S K P ∧ (∀ k, k < n → C k < n) ∧ (∀ i j, i < n → j < n → C0 i = C0 j → C i = C j) ∧ (∀ θ, Wb.TermSb θ → Mt.Resp n Z C0 θ → Mt.Resp n Z C θ) ∧ ∀ a b, a < n → b < n → Mt.Shut S K C a b))
theorem Mt.Shut.symm {S : Nat → Int} {K : Nat → List Nat} {C : Nat → Nat} {a b : Nat} (h : Mt.Shut S K C a b) : Mt.Shut S K C b a := fun e h1 h2 => by
  obtain ⟨e1, e2⟩ := h e.symm h2 h1
  exact ⟨e1.symm, fun i hi => (e2 i (by rw [e1]; exact hi)).symm⟩
theorem Mt.Shut.all {n : Nat} {S : Nat → Int} {K : Nat → List Nat} {C : Nat → Nat} (h : ∀ a b, a < n → b < a → Mt.Shut S K C a b) : ∀ a b, a < n → b < n → Mt.Shut S K C a b := fun a b ha hb => by
  rcases Nat.lt_trichotomy b a with h1 | rfl | h1
  · exact h a b ha h1
  · exact fun _ _ _ => ⟨rfl, fun _ _ => rfl⟩
  · exact (h b a hb h1).symm

end Go.Proofs.Ytkjncjlombjlfaa

namespace Go.Proofs.Ytkjncjlombjlfaa
open Go.Proofs Go.RowKit Go.Shelf Go.Maps

/-- A node: its block, its sign, its parts' blocks, the signs of these. -/
structure Nd where
  X : Nat
  s : Int
  Xs : List Nat
  zss : List (List Int)
def Nd.z (d : Nd) : List Int := d.s :: d.zss.flatten
def nd0 : Nd := ⟨0, 0, [], []⟩
abbrev ndAt (L : List Nd) (k : Nat) : Nd := L[k]?.getD nd0
def hd0 (z : List Int) : Int := z[0]?.getD 0
theorem Nd.hd (d : Nd) : hd0 d.z = d.s := rfl
/-- Node i is the one for the tree at p, whose signs are z. -/
def FndL (L : List Nd) (p : Nat) (z : List Int) (i : Nat) : Prop := i < L.length ∧ (ndAt L i).z = z ∧ (hd0 z < 0 → ∀ k, k < i → (ndAt L k).s ≠ hd0 z) ∧ (0 ≤ hd0 z → (ndAt L i).X = p ∧ ∀ k, k < i → (ndAt L k).X ≠ p)
/-- All parts of a node are nodes. -/
def FullL (L : List Nd) (d : Nd) : Prop := ∀ j, j < d.Xs.length → ∃ i, FndL L (d.Xs[j]?.getD 0) (d.zss[j]?.getD []) i
/-- A variable is one node. -/
def OneL (L : List Nd) : Prop := ∀ i j, i < L.length → j < L.length → (ndAt L i).s < 0 → (ndAt L i).s = (ndAt L j).s → i = j
theorem ndAt_app {L : List Nd} (M : List Nd) {k : Nat} (h : k < L.length) : ndAt (L ++ M) k = ndAt L k := by unfold ndAt; rw [List.getElem?_append_left h]
theorem ndAt_mem {L : List Nd} {k : Nat} (h : k < L.length) : ndAt L k ∈ L := by unfold ndAt; rw [List.getElem?_eq_getElem h]; exact List.getElem_mem h
theorem FndL.app {L : List Nd} {p : Nat} {z : List Int} {i : Nat} (h : FndL L p z i) (M : List Nd) : FndL (L ++ M) p z i := by
  obtain ⟨h1, h2, h3, h4⟩ := h
  refine ⟨by rw [List.length_append]; omega, by rw [ndAt_app M h1]; exact h2, fun hs k hk => by rw [ndAt_app M (by omega)]; exact h3 hs k hk, fun hs => ?_⟩
  obtain ⟨h5, h6⟩ := h4 hs
  exact ⟨by rw [ndAt_app M h1]; exact h5, fun k hk => by rw [ndAt_app M (by omega)]; exact h6 k hk⟩
theorem FullL.app {L : List Nd} {d : Nd} (h : FullL L d) (M : List Nd) : FullL (L ++ M) d := fun j hj => by
  obtain ⟨i, hi⟩ := h j hj
  exact ⟨i, hi.app M⟩
/-- No block of the tree is one of the ties' own. -/
def Far (vN vC : Value) (lo hi : Nat) : Prop := ∀ q, (vN.ownBlock = some q ∨ vC.ownBlock = some q) → q < lo ∨ hi ≤ q
/-- A node in memory. -/
def NdAt (W : World) (x : Nat) (vN vC : Value) (d : Nd) : Prop := ∃ lo hi v, x < lo ∧ hi ≤ W.heap.size ∧ Far vN vC lo hi ∧ lo ≤ d.X ∧ d.X < hi ∧ Node W d.X d.s v ∧ PartsAt lo hi W v d.Xs ∧ d.Xs.length = Tm.room d.s ∧ d.zss.length = d.Xs.length ∧ (∀ s ∈ d.z, -8 ≤ s ∧ s < 6) ∧ ∀ j, j < d.Xs.length → TreeIn lo hi W (d.Xs[j]?.getD 0) (d.zss[j]?.getD [])
/-- What a call leaves of all that is older, but the ties; which blocks are theirs behind it. -/
structure WK (W W' : World) (x : Nat) (vN vC vN' vC' : Value) : Prop where
  os : W'.os = W.os
  tape : W'.tape = W.tape
  output : W'.output = W.output
  size : W.heap.size ≤ W'.heap.size
  block : ∀ k, k < W.heap.size → k ≠ x → some k ≠ vN.ownBlock → some k ≠ vC.ownBlock → W'.heap[k]? = W.heap[k]?
  ownN : ∀ k, vN'.ownBlock = some k → vN.ownBlock = some k ∨ W.heap.size ≤ k
  ownC : ∀ k, vC'.ownBlock = some k → vC.ownBlock = some k ∨ W.heap.size ≤ k
theorem WK.refl (W : World) (x : Nat) (vN vC : Value) : WK W W x vN vC vN vC := ⟨rfl, rfl, rfl, Nat.le_refl _, fun _ _ _ _ _ => rfl, fun _ h => .inl h, fun _ h => .inl h⟩
theorem WK.drewN {W W' : World} {x : Nat} {vN vC vN' vC' : Value} (h : WK W W' x vN vC vN' vC') (d : Nat) : WK W (W'.drewN d) x vN vC vN' vC' := ⟨h.os, h.tape, h.output, h.size, h.block, h.ownN, h.ownC⟩
theorem WK.trans {W1 W2 W3 : World} {x : Nat} {vN1 vC1 vN2 vC2 vN3 vC3 : Value} (h : WK W1 W2 x vN1 vC1 vN2 vC2) (k : WK W2 W3 x vN2 vC2 vN3 vC3) : WK W1 W3 x vN1 vC1 vN3 vC3 := by
  refine ⟨k.os.trans h.os, k.tape.trans h.tape, k.output.trans h.output, Nat.le_trans h.size k.size, fun q hq h1 h2 h3 => ?_, fun q hq => ?_, fun q hq => ?_⟩
  · have e1 := h.block q hq h1 h2 h3
    refine (k.block q (by have := h.size; omega) h1 (fun e => ?_) (fun e => ?_)).trans e1
    · rcases h.ownN q e.symm with e2 | e2
      · exact h2 e2.symm
      · omega
    · rcases h.ownC q e.symm with e2 | e2
      · exact h3 e2.symm
      · omega
  · rcases k.ownN q hq with e | e
    · exact h.ownN q e
    · have := h.size; exact .inr (by omega)
  · rcases k.ownC q hq with e | e
    · exact h.ownC q e
    · have := h.size; exact .inr (by omega)
theorem WK.far {W W' : World} {x : Nat} {vN vC vN' vC' : Value} (h : WK W W' x vN vC vN' vC') {lo hi : Nat} (hF : Far vN vC lo hi) (hh : hi ≤ W.heap.size) : Far vN' vC' lo hi := fun q hq => by
  rcases hq with e | e
  · rcases h.ownN q e with e | e
    · exact hF q (.inl e)
    · exact .inr (by omega)
  · rcases h.ownC q e with e | e
    · exact hF q (.inr e)
    · exact .inr (by omega)
theorem WK.keeps {W W' : World} {x : Nat} {vN vC vN' vC' : Value} (h : WK W W' x vN vC vN' vC') {lo hi : Nat} (hF : Far vN vC lo hi) (hx : x < lo) (hh : hi ≤ W.heap.size) : ∀ k, lo ≤ k → k < hi → W'.heap[k]? = W.heap[k]? := fun k h1 h2 =>
  h.block k (by omega) (by omega) (fun e => by have := hF k (.inl e.symm); omega) (fun e => by have := hF k (.inr e.symm); omega)
theorem NdAt.keep {W W' : World} {x : Nat} {vN vC vN' vC' : Value} {d : Nd} (H : NdAt W x vN vC d) (h : WK W W' x vN vC vN' vC') : NdAt W' x vN' vC' d := by
  obtain ⟨lo, hi, v, h1, h2, h3, h4, h5, h6, h7, h8, h9, h10, h11⟩ := H
  have hk := h.keeps h3 h1 h2
  exact ⟨lo, hi, v, h1, by have := h.size; omega, h.far h3 h2, h4, h5, (hk _ h4 h5).trans h6, h7.keep (Nat.le_refl _) (Nat.le_refl _) hk, h8, h9, h10, fun j hj => (h11 j hj).keep (Nat.le_refl _) (Nat.le_refl _) hk⟩

theorem parts_one {lo hi lo' hi' : Nat} {W : World} {v : Value} {Xs Ys : List Nat} (h : PartsAt lo hi W v Xs) (k : PartsAt lo' hi' W v Ys) : Xs = Ys := by
  obtain ⟨a, c, rfl, h1⟩ := h
  obtain ⟨a', c', e, h2⟩ := k
  simp only [Value.slice.injEq] at e
  obtain ⟨rfl, hl, rfl⟩ := e
  refine List.ext_getElem hl fun j j1 j2 => ?_
  obtain ⟨b, off, e1, _, _, c1⟩ := h1 j j1
  obtain ⟨b', off', e2, _, _, c2⟩ := h2 j j2
  rw [e1] at e2
  simp only [Option.some.injEq, Addr.mk.injEq] at e2
  obtain ⟨rfl, rfl, _⟩ := e2
  rw [c1] at c2
  simp only [Option.some.injEq, Value.pointer.injEq, Addr.mk.injEq] at c2
  have := c2.1
  rw [List.getElem?_eq_getElem j1, List.getElem?_eq_getElem j2] at this
  exact this
/-- A tree holds but one list of signs. -/
theorem TreeIn.one {lo hi : Nat} {W : World} {X : Nat} {zs : List Int} (h : TreeIn lo hi W X zs) : ∀ {lo' hi' : Nat} {zs' : List Int}, TreeIn lo' hi' W X zs' → zs = zs' := by
  induction h with
  | mk X s v Xs zss hX1 hX2 hN hP hr hl _ ih =>
    intro lo' hi' zs' h'
    cases h' with
    | mk _ s' v' Xs' zss' _ _ hN' hP' hr' hl' hT' =>
      have e : some (Obj.cells #[Value.int .i64 s, v] 94 (0, 0)) = some (Obj.cells #[Value.int .i64 s', v'] 94 (0, 0)) := (show W.heap[X]? = _ from hN).symm.trans (show W.heap[X]? = _ from hN')
      simp only [Option.some.injEq, Obj.cells.injEq, and_true] at e
      have e2 := congrArg Array.toList e
      simp only [List.cons.injEq, and_true, Value.int.injEq, true_and] at e2
      obtain ⟨rfl, rfl⟩ := e2
      obtain rfl := parts_one hP hP'
      congr 2
      refine List.ext_getElem (by omega) fun j j1 j2 => ?_
      have := ih j (by omega) (hT' j (by omega))
      rw [List.getElem?_eq_getElem j1, List.getElem?_eq_getElem j2] at this
      exact this
theorem NdAt.tree {W : World} {x : Nat} {vN vC : Value} {d : Nd} (H : NdAt W x vN vC d) : ∃ lo hi, TreeIn lo hi W d.X d.z := by
  obtain ⟨lo, hi, v, h1, h2, h3, h4, h5, h6, h7, h8, h9, h10, h11⟩ := H
  exact ⟨lo, hi, TreeIn.mk d.X d.s v d.Xs d.zss h4 h5 h6 h7 h8 h9 h11⟩
theorem NdAt.node {W : World} {x : Nat} {vN vC : Value} {d : Nd} (H : NdAt W x vN vC d) : ∃ v, Node W d.X d.s v := by
  obtain ⟨lo, hi, v, h1, h2, h3, h4, h5, h6, _⟩ := H
  exact ⟨v, h6⟩
/-- Block x holds nodes L with classes C; all of it its own. -/
structure TB (W : World) (x : Nat) (vN vC : Value) (L : List Nd) (m : Nat) (C : Nat → Nat) : Prop where
  cell : W.heap[x]? = some (.cells #[vN, vC] 87 (0, 0))
  rowN : W.ownsRow (x + 1) 89 1 vN L.length (L.map fun d => ptr d.X)
  rowC : New (x + 1) W vC (Mt.clL m C)
  nds : ∀ d ∈ L, NdAt W x vN vC d
  one : OneL L
theorem TB.lt {W : World} {x : Nat} {vN vC : Value} {L : List Nd} {m : Nat} {C : Nat → Nat} (h : TB W x vN vC L m C) : x < W.heap.size := (Array.getElem?_eq_some_iff.1 h.cell).1
theorem TB.drewN {W : World} {x : Nat} {vN vC : Value} {L : List Nd} {m : Nat} {C : Nat → Nat} (h : TB W x vN vC L m C) (d : Nat) : TB (W.drewN d) x vN vC L m C := ⟨h.cell, h.rowN, h.rowC, fun q hq => (h.nds q hq).keep ((WK.refl W x vN vC).drewN d), h.one⟩
theorem TB.form {W : World} {x : Nat} {vN vC : Value} {L : List Nd} {m : Nat} {C : Nat → Nat} (h : TB W x vN vC L m C) : ∃ aN cN, vN = .slice aN L.length cN ∧ ∀ k, k < L.length → ∃ b off, aN = some ⟨b, off, none⟩ ∧ W.cell? ⟨b, off + k, none⟩ = some (ptr (ndAt L k).X) := by
  rcases h.rowN.2 with ⟨e, hn⟩ | ⟨g, cap, cur, e, _⟩
  · exact ⟨none, 0, by rw [e, hn], fun k hk => by omega⟩
  · refine ⟨_, cap, e, fun k hk => ⟨g, 0, rfl, ?_⟩⟩
    have hr := h.rowN
    rw [e] at hr
    have := World.ownsRow.cellAt hr k (by omega)
    rw [Nat.zero_add, this]
    simp [ndAt, hk]
/-- The classes, with new ones behind. -/
def extC (n : Nat) (C : Nat → Nat) : Nat → Nat := fun k => if k < n then C k else k
theorem ownsRow_keep {W W' : World} {base : Nat} {e : TypeId} {size : Nat} {v : Value} {n : Nat} {xs : List Value} (h : W.ownsRow base e size v n xs) (hk : ∀ q, v.ownBlock = some q → W'.heap[q]? = W.heap[q]?) : W'.ownsRow base e size v n xs := by
  refine ⟨h.1, ?_⟩
  rcases h.2 with h1 | ⟨g, cap, cur, rfl, h2, h3, h4⟩
  · exact .inl h1
  · exact .inr ⟨g, cap, cur, rfl, h2, (hk g rfl).trans h3, h4⟩
theorem row_type {W : World} {base : Nat} {e : TypeId} {size : Nat} {v : Value} {n : Nat} {xs : List Value} (h : W.ownsRow base e size v n xs) {q : Nat} (hq : v.ownBlock = some q) : ∃ cur, W.heap[q]? = some (.cells cur e (0, 0)) := by
  rcases h.2 with ⟨rfl, _⟩ | ⟨g, cap, cur, rfl, h2, h3, h4⟩
  · cases hq
  · cases hq; exact ⟨cur, h3⟩
theorem TB.apart {W : World} {x : Nat} {vN vC : Value} {L : List Nd} {m : Nat} {C : Nat → Nat} (h : TB W x vN vC L m C) {q : Nat} (h1 : vN.ownBlock = some q) (h2 : vC.ownBlock = some q) : False := by
  obtain ⟨c1, e1⟩ := row_type h.rowN h1
  obtain ⟨c2, e2⟩ := row_type h.rowC h2
  rw [e1] at e2
  simp only [Option.some.injEq, Obj.cells.injEq] at e2
  exact absurd e2.2.1 (by decide)
theorem least {P : Nat → Prop} : ∀ n, (∃ k, k < n ∧ P k) → ∃ k, k < n ∧ P k ∧ ∀ j, j < k → ¬ P j := by
  intro n
  induction n with
  | zero => rintro ⟨k, h, _⟩; omega
  | succ n ih =>
    intro h
    by_cases h1 : ∃ k, k < n ∧ P k
    · obtain ⟨k, hk, h2, h3⟩ := ih h1
      exact ⟨k, by omega, h2, h3⟩
    · obtain ⟨k, hk, h2⟩ := h
      have : k = n := by
        by_cases e : k = n
        · exact e
        · exact absurd ⟨k, by omega, h2⟩ h1
      subst this
      exact ⟨k, by omega, h2, fun j hj hp => h1 ⟨j, hj, hp⟩⟩

/-- What node answers. -/
def NodeAns (W W' : World) (e : Ending) (x : Nat) (vN vC : Value) (L : List Nd) (C : Nat → Nat) (p : Nat) (z : List Int) : Prop :=
  ∃ (i : Nat) (vN' vC' : Value) (M : List Nd), e = .returned (.int .i64 (i : Int)) ∧ FndL (L ++ M) p z i ∧ (∀ d ∈ M, FullL (L ++ M) d) ∧ TB W' x vN' vC' (L ++ M) (L ++ M).length (extC L.length C) ∧ WK W W' x vN vC vN' vC' ∧ M.length ≤ z.length

end Go.Proofs.Ytkjncjlombjlfaa

namespace Go.Proofs.Ytkjncjlombjlfaa
open Go.Proofs Go.RowKit Go.Shelf Go.Maps

theorem Nd.var {W : World} {x : Nat} {vN vC : Value} {d : Nd} (h : NdAt W x vN vC d) (hs : d.s < 0) : d.z = [d.s] := by
  obtain ⟨lo, hi, v, h1, h2, h3, h4, h5, h6, h7, h8, h9, h10, h11⟩ := h
  rw [Wb.room_var hs] at h8
  have : d.zss = [] := List.eq_nil_of_length_eq_zero (by omega)
  unfold Nd.z
  rw [this]
  rfl
theorem extC_of {n : Nat} {C : Nat → Nat} (h : ∀ k, n ≤ k → C k = k) : extC n C = C := by
  funext k
  unfold extC
  by_cases e : k < n
  · rw [if_pos e]
  · rw [if_neg e, h k (by omega)]

end Go.Proofs.Ytkjncjlombjlfaa

namespace Go.Proofs.Ytkjncjlombjlfaa
open Go.Proofs Go.RowKit Go.Shelf Go.Maps

def ndN (L : List Nd) (k : Nat) : Nat := (ndAt L k).X
def ndS (L : List Nd) (k : Nat) : Int := (ndAt L k).s
def ndZ (L : List Nd) (k : Nat) : List Int := (ndAt L k).z
def ndP (L : List Nd) (k i : Nat) : Nat := (ndAt L k).Xs[i]?.getD 0
/-- Which nodes are a node's parts. -/
def KidsL (L : List Nd) (K : Nat → List Nat) : Prop := ∀ k, k < L.length → (K k).length = (ndAt L k).Xs.length ∧ ∀ j, j < (ndAt L k).Xs.length → FndL L (ndP L k j) ((ndAt L k).zss[j]?.getD []) ((K k)[j]?.getD 0)
theorem tree_head {lo hi : Nat} {W : World} {X : Nat} {zs : List Int} (h : TreeIn lo hi W X zs) : lo ≤ X ∧ X < hi ∧ ∃ v, Node W X (hd0 zs) v := by
  cases h with
  | mk _ s v Xs zss h1 h2 hN => exact ⟨h1, h2, v, hN⟩
/-- TIES, out of nodes that are laid. -/
theorem TB.ties {W : World} {x : Nat} {vN vC : Value} {L : List Nd} {C : Nat → Nat} (H : TB W x vN vC L L.length C) {K : Nat → List Nat} (hK : KidsL L K) (h5 : L.length ≤ 5000) (h0 : 0 < L.length) : ∃ aN cN g cC, vN = .slice aN L.length cN ∧ vC = .slice (some ⟨g, 0, none⟩) L.length cC ∧ TiesO W x L.length aN cN g cC (ndN L) C (ndS L) K (ndP L) := by
  obtain ⟨gC, cC, rfl, _⟩ := New.at0 H.rowC (by rw [Mt.clL_length]; exact h0)
  rw [Mt.clL_length] at H
  obtain ⟨gN, cN, rfl, hgN, _⟩ := World.ownsRow.form H.rowN h0
  refine ⟨some ⟨gN, 0, none⟩, cN, gC, cC, rfl, by rw [Mt.clL_length], (World.ownsRow.lt H.rowC gC rfl).2, fun W' hk C' hC' => ?_, ?_⟩
  · have hgC := (World.ownsRow.lt H.rowC gC rfl).1
    have hx : W'.heap[x]? = W.heap[x]? := hk.block x H.lt (by omega)
    have hN' : W'.heap[gN]? = W.heap[gN]? := hk.block gN (World.ownsRow.lt H.rowN gN rfl).2 fun e => H.apart (q := gC) (by rw [e]; rfl) rfl
    refine ⟨(World.cell?_of_block (a := ⟨x, 0, none⟩) hx).trans ((cell_at H.cell 0).trans rfl), (World.cell?_of_block (a := ⟨x, 1, none⟩) hx).trans ((cell_at H.cell 1).trans rfl), fun k hk' => ?_, fun k hk' => ⟨gC, 0, rfl, by rw [Nat.zero_add]; exact hC' k hk'⟩, fun k hk' => ?_, fun k i hk' hi => ?_, fun k i hk' hi => ?_, h5⟩
    · obtain ⟨aN, cN', e, hf⟩ := H.form
      simp only [Value.slice.injEq, true_and] at e
      obtain ⟨rfl, rfl⟩ := e
      obtain ⟨b, off, e, hc⟩ := hf k hk'
      simp only [Option.some.injEq, Addr.mk.injEq] at e
      obtain ⟨rfl, rfl, _⟩ := e
      exact ⟨gN, 0, rfl, (World.cell?_of_block (a := ⟨gN, 0 + k, none⟩) hN').trans hc⟩
    · obtain ⟨lo, hi, v, h1, h2, h3, h4, h5', h6, ⟨a, c, rfl, h7⟩, h8, h9, h10, h11⟩ := H.nds _ (ndAt_mem hk')
      have hfar : ∀ q, lo ≤ q → q < hi → W'.heap[q]? = W.heap[q]? := fun q q1 q2 => hk.block q (by omega) fun e => by have := h3 gC (.inr rfl); omega
      rw [h8] at h6 h7
      refine ⟨a, c, (hfar _ h4 h5').trans h6, fun i hi => ?_⟩
      obtain ⟨b, off, e, b1, b2, hc⟩ := h7 i hi
      exact ⟨b, off, e, (World.cell?_of_block (a := ⟨b, off + i, none⟩) (hfar b b1 b2)).trans hc⟩
    · obtain ⟨lo, hi', v, h1, h2, h3, h4, h5', h6, h7, h8, h9, h10, h11⟩ := H.nds _ (ndAt_mem hk')
      have hfar : ∀ q, lo ≤ q → q < hi' → W'.heap[q]? = W.heap[q]? := fun q q1 q2 => hk.block q (by omega) fun e => by have := h3 gC (.inr rfl); omega
      have hi2 : i < (ndAt L k).Xs.length := by rw [h8]; exact hi
      obtain ⟨t1, t2, v', t3⟩ := tree_head (h11 i hi2)
      have hF := (hK k hk').2 i hi2
      have es : ndS L ((K k)[i]?.getD 0) = hd0 ((ndAt L k).zss[i]?.getD []) := by rw [← hF.2.1]; rfl
      rw [es]
      exact ⟨v', (hfar _ t1 t2).trans t3⟩
    · obtain ⟨lo, hi', v, h1, h2, h3, h4, h5', h6, h7, h8, h9, h10, h11⟩ := H.nds _ (ndAt_mem hk')
      obtain ⟨f1, f2, f3, f4⟩ := (hK k hk').2 i (by rw [h8]; exact hi)
      have es : ndS L ((K k)[i]?.getD 0) = hd0 ((ndAt L k).zss[i]?.getD []) := by rw [← f2]; rfl
      exact ⟨f1, fun h q hq => by rw [es]; exact f3 (by rw [← es]; exact h) q hq, fun h => f4 (by rw [← es]; exact h)⟩
  · exact H.rowC.mono (Nat.zero_le _)
theorem New.rebase {base base' : Nat} {W : World} {g n c : Nat} {zs : List Int} (h : New base W (.slice (some ⟨g, 0, none⟩) n c) zs) (hb : base' ≤ g) : New base' W (.slice (some ⟨g, 0, none⟩) n c) zs := by
  refine ⟨h.1, ?_⟩
  rcases h.2 with ⟨e, _⟩ | ⟨g', c', cur, e, _, h3⟩
  · cases e
  · cases e
    exact .inr ⟨_, _, cur, rfl, hb, h3⟩
/-- Behind a tie. -/
theorem TB.tied {W W' : World} {x : Nat} {vN : Value} {L : List Nd} {m g cC : Nat} {C C' : Nat → Nat} (H : TB W x vN (.slice (some ⟨g, 0, none⟩) m cC) L m C) (hk : Keep W.heap.size g W W') (hN : New 0 W' (.slice (some ⟨g, 0, none⟩) m cC) (Mt.clL m C')) : TB W' x vN (.slice (some ⟨g, 0, none⟩) m cC) L m C' ∧ WK W W' x vN (.slice (some ⟨g, 0, none⟩) m cC) vN (.slice (some ⟨g, 0, none⟩) m cC) := by
  have hgC := (World.ownsRow.lt H.rowC g rfl).1
  have hwk : WK W W' x vN (.slice (some ⟨g, 0, none⟩) m cC) vN (.slice (some ⟨g, 0, none⟩) m cC) := ⟨hk.os, hk.tape, hk.output, hk.size, fun k h1 _ _ h4 => hk.block k h1 fun e => h4 (by rw [e]; rfl), fun _ h => .inl h, fun _ h => .inl h⟩
  refine ⟨⟨(hk.block x H.lt (by omega)).trans H.cell, ownsRow_keep H.rowN fun q hq => hk.block q (World.ownsRow.lt H.rowN q hq).2 fun e => H.apart hq (by rw [e]; rfl), hN.rebase hgC, fun d hd => (H.nds d hd).keep hwk, H.one⟩, hwk⟩
theorem WK.below {W W' : World} {x : Nat} {vN vC vN' vC' : Value} {L : List Nd} {m : Nat} {C : Nat → Nat} (h : WK W W' x vN vC vN' vC') (H : TB W x vN vC L m C) : Below x W W' :=
  ⟨h.os, h.tape, h.output, h.size, fun k hk => h.block k (by have := H.lt; omega) (by omega) (fun e => by have := (World.ownsRow.lt H.rowN k e.symm).1; omega) (fun e => by have := (World.ownsRow.lt H.rowC k e.symm).1; omega)⟩

/-- What holds when k pairs are tied. -/
structure MI (ps : PairL) (k : Nat) (L : List Nd) (C : Nat → Nat) : Prop where
  lt : ∀ q, q < L.length → C q < L.length
  out : ∀ q, L.length ≤ q → C q = q
  sound : ∀ θ, Wb.TermSb θ → Wb.Same ps k θ → Mt.Resp L.length (ndZ L) C θ
  tied : ∀ j, j < k → ∃ a b, a < L.length ∧ b < L.length ∧ ndZ L a = (ps[j]?.getD ([], [])).1 ∧ ndZ L b = (ps[j]?.getD ([], [])).2 ∧ C a = C b
  full : ∀ d ∈ L, FullL L d
theorem MI.start (ps : PairL) : MI ps 0 [] (fun q => q) := ⟨fun q h => by simp at h, fun _ _ => rfl, fun _ _ _ i _ h => by simp at h, fun j hj => by omega, fun d h => by simp at h⟩
theorem MI.extC {ps : PairL} {k : Nat} {L : List Nd} {C : Nat → Nat} (H : MI ps k L C) : extC L.length C = C := extC_of H.out
theorem ndZ_app {L : List Nd} (M : List Nd) {k : Nat} (h : k < L.length) : ndZ (L ++ M) k = ndZ L k := by unfold ndZ; rw [ndAt_app M h]
theorem MI.ext {ps : PairL} {k : Nat} {L : List Nd} {C : Nat → Nat} (H : MI ps k L C) {M : List Nd} (hM : ∀ d ∈ M, FullL (L ++ M) d) : MI ps k (L ++ M) C := by
  refine ⟨fun q hq => ?_, fun q hq => H.out q (by rw [List.length_append] at hq; omega), fun θ hθ hs i j hi hj e => ?_, fun j hj => ?_, fun d hd => ?_⟩
  · rw [List.length_append] at hq ⊢
    by_cases h : q < L.length
    · have := H.lt q h; omega
    · rw [H.out q (by omega)]; exact hq
  · by_cases h1 : i < L.length
    · by_cases h2 : j < L.length
      · rw [ndZ_app M h1, ndZ_app M h2]; exact H.sound θ hθ hs i j h1 h2 e
      · rw [H.out j (by omega)] at e; have := H.lt i h1; omega
    · rw [H.out i (by omega)] at e
      by_cases h2 : j < L.length
      · have := H.lt j h2; omega
      · rw [H.out j (by omega)] at e; rw [e]
  · obtain ⟨a, b, ha, hb, e1, e2, e3⟩ := H.tied j hj
    exact ⟨a, b, by rw [List.length_append]; omega, by rw [List.length_append]; omega, by rw [ndZ_app M ha]; exact e1, by rw [ndZ_app M hb]; exact e2, e3⟩
  · rcases List.mem_append.1 hd with h | h
    · exact (H.full d h).app M
    · exact hM d h
theorem MI.tie {ps : PairL} {k : Nat} {L : List Nd} {C : Nat → Nat} (H : MI ps k L C) {a b : Nat} (ha : a < L.length) (hb : b < L.length) (e1 : ndZ L a = (ps[k]?.getD ([], [])).1) (e2 : ndZ L b = (ps[k]?.getD ([], [])).2) : MI ps (k + 1) L (Mt.tied C a b) := by
  refine ⟨Mt.tied_lt H.lt hb, fun q hq => ?_, fun θ hθ hs => ?_, fun j hj => ?_, H.full⟩
  · unfold Mt.tied
    have := H.lt a ha
    rw [H.out q hq, if_neg (by omega)]
  · obtain ⟨h1, h2⟩ := hs.succ
    refine (H.sound θ hθ h1).tie ha hb ?_
    rw [e1, e2]
    exact h2
  · by_cases e : j = k
    · subst e
      exact ⟨a, b, ha, hb, e1, e2, Mt.tied_same C a b⟩
    · obtain ⟨a', b', ha', hb', f1, f2, f3⟩ := H.tied j (by omega)
      exact ⟨a', b', ha', hb', f1, f2, Mt.tied_mono a b f3⟩

end Go.Proofs.Ytkjncjlombjlfaa

namespace Go.Proofs.Ytkjncjlombjlfaa
open Go.Proofs Go.RowKit Go.Shelf Go.Maps

theorem TB.below {W W1 : World} {x : Nat} {vN vC : Value} {L : List Nd} {m : Nat} {C : Nat → Nat} (H : TB W x vN vC L m C) (hB : Below W.heap.size W W1) : TB W1 x vN vC L m C ∧ WK W W1 x vN vC vN vC := by
  have hwk : WK W W1 x vN vC vN vC := ⟨hB.os, hB.tape, hB.output, hB.size, fun k hk _ _ _ => hB.block k hk, fun _ h => .inl h, fun _ h => .inl h⟩
  exact ⟨⟨(hB.block x H.lt).trans H.cell, ownsRow_keep H.rowN fun q hq => hB.block q (World.ownsRow.lt H.rowN q hq).2, ownsRow_keep H.rowC fun q hq => hB.block q (World.ownsRow.lt H.rowC q hq).2, fun d hd => (H.nds d hd).keep hwk, H.one⟩, hwk⟩
theorem TB.start (w : World) : TB (w.alloc (.cells #[.slice none 0 0, .slice none 0 0] 87)) w.heap.size (.slice none 0 0) (.slice none 0 0) [] 0 (fun q => q) :=
  ⟨World.alloc_heap_new w _, World.ownsRow_nil _ _ _ _, New.nil _ _, fun d hd => by simp at hd, fun i j hi => by simp at hi⟩
namespace Mt
/-- What variables become, by the first k nodes. -/
def sigT (n : Nat) (S : Nat → Int) (K : Nat → List Nat) (C : Nat → Nat) (k : Nat) : Wb.Sb := fun v => match (List.range k).find? fun q => decide (S q = v) with
  | some q => bec n S K C (n + 1) (C q)
  | none => [v]
end Mt

end Go.Proofs.Ytkjncjlombjlfaa

namespace Go.Proofs.Ytkjncjlombjlfaa
open Go.Proofs Go.RowKit Go.Shelf Go.Maps

/-- What met answers. -/
def MetAns (ps : PairL) (w w' : World) (e : Ending) : Prop := Below w.heap.size w w' ∧ ∃ er is val v, Tm.MeetSays ps er is val ∧ e = .returned (.tuple #[v, .bool is, .int .i64 er]) ∧ NewS w.heap.size w' v val
end Go.Proofs.Ytkjncjlombjlfaa

namespace Go.Proofs.Ytkjncjlombjlfaa
open Go.Proofs Go.RowKit Go.Shelf Go.Maps

end Go.Proofs.Ytkjncjlombjlfaa

namespace Go.Proofs.Ytkjncjlombjlfaa
open Go.Proofs Go.RowKit Go.Shelf Go.Maps

theorem Tm.known_mem {t : List Int} (h : Tm.err t = 0) {s : Int} (hs : s ∈ t) : -8 ≤ s ∧ s < 6 := by
  have h2 := Tm.err_all h
  rw [List.all_eq_true] at h2
  have := h2 s hs
  exact ⟨Tm.known_ge this, Tm.known_lt this⟩
/-- Signs in new memory, in a block of ints. -/
def IntRow (base : Nat) (W : World) (a : Option Addr) (zs : List Int) : Prop := ∀ j, j < zs.length → ∃ b off, a = some ⟨b, off, none⟩ ∧ base ≤ b ∧ (∃ cs p, W.heap[b]? = some (.cells cs 3 p)) ∧ W.cell? ⟨b, off + j, none⟩ = some (.int .i64 (zs[j]?.getD 0))
theorem IntRow.ints {base : Nat} {W : World} {a : Option Addr} {zs : List Int} (h : IntRow base W a zs) : Ints W.heap.size W a zs := fun j hj => by
  obtain ⟨b, off, e, _, ⟨cs, p, hb⟩, hc⟩ := h j hj
  exact ⟨b, off, e, (Array.getElem?_eq_some_iff.1 hb).1, hc⟩
theorem IntRow.of {base : Nat} {W : World} {v : Value} {zs : List Int} (h : New base W v zs) : ∃ a c, v = .slice a zs.length c ∧ IntRow base W a zs ∧ zs.length ≤ c ∧ c ≤ maxLen := by
  rcases h.2 with ⟨rfl, hn⟩ | ⟨g, cap, cur, rfl, hb, hg, h1, h2, h3, h4⟩
  · exact ⟨none, 0, by rw [hn], fun j hj => by omega, by omega, by unfold maxLen; omega⟩
  · refine ⟨_, cap, rfl, fun j hj => ⟨g, 0, rfl, hb, ⟨cur, _, hg⟩, ?_⟩, h1, h2⟩
    have := World.ownsRow.cellAt (xs := zs.map (Value.int .i64)) h j (by omega)
    rw [Nat.zero_add, this]
    simp [hj]
theorem IntRow.keep {base : Nat} {W W' : World} {a : Option Addr} {zs : List Int} (h : IntRow base W a zs) (hk : ∀ b, base ≤ b → (∃ cs p, W.heap[b]? = some (.cells cs 3 p)) → W'.heap[b]? = W.heap[b]?) : IntRow base W' a zs := fun j hj => by
  obtain ⟨b, off, e, hb, hc, hcell⟩ := h j hj
  refine ⟨b, off, e, hb, ?_, (World.cell?_of_block (a := ⟨b, off + j, none⟩) (hk b hb hc)).trans hcell⟩
  obtain ⟨cs, p, hc'⟩ := hc
  exact ⟨cs, p, (hk b hb ⟨cs, p, hc'⟩).trans hc'⟩
theorem IntRow.below {base : Nat} {W W' : World} {a : Option Addr} {zs : List Int} (h : IntRow base W a zs) (hB : Below W.heap.size W W') : IntRow base W' a zs := h.keep fun b _ ⟨_, _, hc⟩ => hB.block b (Array.getElem?_eq_some_iff.1 hc).1
theorem IntRow.mono {base base' : Nat} {W : World} {a : Option Addr} {zs : List Int} (h : IntRow base W a zs) (hb : base' ≤ base) : IntRow base' W a zs := fun j hj => by
  obtain ⟨b, off, e, h1, r⟩ := h j hj
  exact ⟨b, off, e, by omega, r⟩
/-- v is a slice in new memory that holds these pairs, each term in new memory too (it may be shared). -/
def NewQ (base : Nat) (W : World) (v : Value) (ps : PairL) : Prop :=
  ∃ us : List Value, W.ownsRow base 35 2 v ps.length us ∧ ∀ j, j < ps.length → ∃ aL cL aR cR, us[j * 2]? = some (.slice aL (ps[j]?.getD ([], [])).1.length cL) ∧ us[j * 2 + 1]? = some (.slice aR (ps[j]?.getD ([], [])).2.length cR) ∧ IntRow base W aL (ps[j]?.getD ([], [])).1 ∧ IntRow base W aR (ps[j]?.getD ([], [])).2 ∧ (ps[j]?.getD ([], [])).1.length ≤ cL ∧ cL ≤ maxLen ∧ (ps[j]?.getD ([], [])).2.length ≤ cR ∧ cR ≤ maxLen
theorem NewQ.nil (base : Nat) (W : World) : NewQ base W (.slice none 0 0) [] := ⟨[], World.ownsRow_nil _ _ _ _, fun j hj => by simp at hj⟩
theorem NewQ.below {base : Nat} {W W' : World} {v : Value} {ps : PairL} (h : NewQ base W v ps) (hB : Below W.heap.size W W') : NewQ base W' v ps := by
  obtain ⟨us, h1, h2⟩ := h
  refine ⟨us, ownsRow_keep h1 fun q hq => hB.block q (World.ownsRow.lt h1 q hq).2, fun j hj => ?_⟩
  obtain ⟨aL, cL, aR, cR, a, b, c, d, r⟩ := h2 j hj
  exact ⟨aL, cL, aR, cR, a, b, c.below hB, d.below hB, r⟩
theorem NewQ.mono {base base' : Nat} {W : World} {v : Value} {ps : PairL} (h : NewQ base W v ps) (hb : base' ≤ base) : NewQ base' W v ps := by
  obtain ⟨us, h1, h2⟩ := h
  refine ⟨us, ⟨h1.1, h1.2.elim .inl (fun ⟨g, cap, cur, e1, e2, e3⟩ => .inr ⟨g, cap, cur, e1, Nat.le_trans hb e2, e3⟩)⟩, fun j hj => ?_⟩
  obtain ⟨aL, cL, aR, cR, a, b, c, d, r⟩ := h2 j hj
  exact ⟨aL, cL, aR, cR, a, b, c.mono hb, d.mono hb, r⟩
theorem NewQ.at {base : Nat} {W : World} {v : Value} {ps : PairL} (h : NewQ base W v ps) : ∃ a cap, v = .slice a ps.length cap ∧ RulesAt W.heap.size W a ps ∧ ps.length ≤ cap ∧ cap ≤ maxLen := by
  obtain ⟨us, h1, h2⟩ := h
  have hl : us.length = ps.length * 2 := h1.1
  rcases h1.2 with ⟨rfl, hn⟩ | ⟨g, cap, cur, rfl, hb, hgb, q1, q2, _⟩
  · refine ⟨none, 0, by rw [hn], fun k hk => by omega, by omega, by unfold maxLen; omega⟩
  · refine ⟨_, cap, rfl, fun j hj => ?_, q1, q2⟩
    obtain ⟨a1, c1, a2, c2, p1, p2, i1, i2, m1, m1', m2, m2'⟩ := h2 j hj
    have cc := fun k hk => World.ownsRow.cellAt h1 k hk
    exact ⟨g, 0, rfl, (Array.getElem?_eq_some_iff.1 hgb).1, a1, c1, a2, c2, by rw [Nat.zero_add, cc _ (by omega), p1], by rw [Nat.zero_add, cc _ (by omega), p2], i1.ints, i2.ints, m1, m1', m2, m2'⟩
end Go.Proofs.Ytkjncjlombjlfaa

namespace Go.Proofs.Ytkjncjlombjlfaa
open Go.Proofs Go.RowKit Go.Shelf Go.Maps

theorem IntRow.drop {base : Nat} {W : World} {b off : Nat} {zs : List Int} (h : IntRow base W (some ⟨b, off, none⟩) zs) (k : Nat) : IntRow base W (some ⟨b, off + k, none⟩) (zs.drop k) := fun j hj => by
  rw [List.length_drop] at hj
  obtain ⟨b', off', e, h1, h2, h3⟩ := h (k + j) (by omega)
  cases e
  exact ⟨b, off + k, rfl, h1, h2, by rw [List.getElem?_drop, show off + k + j = off + (k + j) from by omega]; exact h3⟩
theorem IntRow.take {base : Nat} {W : World} {a : Option Addr} {zs : List Int} (h : IntRow base W a zs) (k : Nat) : IntRow base W a (zs.take k) := fun j hj => by
  rw [List.length_take] at hj
  obtain ⟨b', off', e, h1, h2, h3⟩ := h j (by omega)
  exact ⟨b', off', e, h1, h2, by rw [List.getElem?_take_of_lt (by omega)]; exact h3⟩
/-- What haspref.pairsOf answers. -/
def RefOf (L1 R1 L2 R2 : List Int) (i j : Int) (w : World) (e : Ending) (w' : World) : Prop := Below w.heap.size w w' ∧ ∃ er ps v, Tm.LapsSays L1 R1 (Tm.others L2) (Tm.others R2) (Tm.passB L1 i j) er ps ∧ e = .returned (.tuple #[v, .int .i64 er]) ∧ NewQ w.heap.size w' v ps

end Go.Proofs.Ytkjncjlombjlfaa

namespace Go.Proofs.Ytkjncjlombjlfaa
open Go.Proofs Go.RowKit Go.Shelf Go.Maps

end Go.Proofs.Ytkjncjlombjlfaa

namespace Go.Proofs.Ytkjncjlombjlfaa
open Go.Proofs Go.RowKit Go.Shelf Go.Maps

end Go.Proofs.Ytkjncjlombjlfaa

namespace Go.Proofs.Ytkjncjlombjlfaa
open Go.Proofs Go.RowKit Go.Shelf Go.Maps

theorem Tm.others_run (t : List Int) : ∀ n, Tm.run (Tm.others t) n = Tm.run t n := by
  induction t with
  | nil => intro n; rfl
  | cons s l ih =>
    intro n
    cases n with
    | zero => rw [Tm.run_zero, Tm.run_zero]
    | succ n =>
      show Tm.run (Tm.oth s :: Tm.others l) (n + 1) = _
      have hr : Tm.room (Tm.oth s) = Tm.room s := by
        unfold Tm.oth
        by_cases hs : s < 0
        · rw [if_pos hs, Wb.room_var hs, Wb.room_var (by omega)]
        · rw [if_neg hs]
      rw [Tm.run_cons, Tm.run_cons, hr, ih]
theorem Tm.others_err {t : List Int} (h : Tm.err t = 0) (hf : t.any foreignB = false) : Tm.err (Tm.others t) = 0 := by
  refine Tm.err_ok (by rw [Tm.others_length]; exact Tm.err_len h) ?_ (by rw [Tm.others_run, Tm.others_length]; exact Tm.err_run h)
  rw [List.all_eq_true]
  intro s hs
  obtain ⟨q, hq, rfl⟩ := List.mem_map.1 hs
  obtain ⟨h1, h2⟩ := Tm.known_mem h hq
  have h3 := List.any_eq_false.1 hf q hq
  simp only [foreignB, decide_eq_true_eq] at h3
  refine Tm.known_of ?_ ?_ <;> (unfold Tm.oth; split <;> omega)

/-- What haspref.PairsOf answers. -/
def RefOfAns (rs : RuleL) (i j : Int) (w : World) (e : Ending) (w' : World) : Prop := Below w.heap.size w w' ∧ ∃ er ps v, Tm.OfSays rs i j er ps ∧ e = .returned (.tuple #[v, .int .i64 er]) ∧ NewQ w.heap.size w' v ps
end Go.Proofs.Ytkjncjlombjlfaa

namespace Go.Proofs.Ytkjncjlombjlfaa
open Go.Proofs Go.RowKit Go.Shelf Go.Maps

theorem Tm.AllTo.pre {rs : RuleL} {n m : Nat} {L : PairL} (h : Tm.AllTo rs n m L) : (∀ i j, j ≤ rs.length → (i < n ∨ (i = n ∧ j ≤ m)) → ∃ l, Tm.AllTo rs i j l ∧ l.length ≤ L.length) ∧ (∀ i j, j < rs.length → (i < n ∨ (i = n ∧ j < m)) → ∃ ps, Tm.OfSays rs (i : Int) (j : Int) 0 ps) := by
  induction h with
  | zero =>
    refine ⟨fun i j _ h => ?_, fun i j _ h => by omega⟩
    obtain ⟨rfl, rfl⟩ : i = 0 ∧ j = 0 := by omega
    exact ⟨[], .zero, Nat.le_refl _⟩
  | @next n m L0 ps h hm hs ih =>
    refine ⟨fun i j hj hb => ?_, fun i j hj hb => ?_⟩
    · by_cases e : i = n ∧ j = m + 1
      · obtain ⟨rfl, rfl⟩ := e
        exact ⟨_, .next h hm hs, Nat.le_refl _⟩
      · obtain ⟨l, h1, h2⟩ := ih.1 i j hj (by omega)
        exact ⟨l, h1, by rw [List.length_append]; omega⟩
    · by_cases e : i = n ∧ j = m
      · obtain ⟨rfl, rfl⟩ := e
        exact ⟨ps, hs⟩
      · exact ih.2 i j hj (by omega)
  | @row n L0 h ih =>
    refine ⟨fun i j hj hb => ?_, fun i j hj hb => ?_⟩
    · by_cases e : i = n + 1
      · subst e
        obtain rfl : j = 0 := by omega
        exact ⟨_, .row h, Nat.le_refl _⟩
      · exact ih.1 i j hj (by omega)
    · exact ih.2 i j hj (by omega)
theorem Tm.OfSays.bad {rs : RuleL} {i j : Nat} {er : Int} {ps : PairL} (h : Tm.OfSays rs (i : Int) (j : Int) er ps) (hi : i < rs.length) (hj : j < rs.length) (he : er ≠ 0) : er = if Tm.rulesErr rs = 0 then 2 else Tm.rulesErr rs := by
  rcases h with ⟨h1, rfl, _⟩ | ⟨h1, h2, _, _⟩ | ⟨h1, a, b, ha, hb, ea, eb, h2⟩
  · rw [if_neg h1]
  · exact absurd ⟨by omega, by omega, by omega, by omega⟩ h2
  · rw [if_pos h1]
    obtain ⟨_, hall⟩ := Tm.rulesErr_ok h1
    obtain ⟨eL, eR, _⟩ := Tm.ruleErr_ok (hall a ha)
    obtain ⟨eL2, eR2, fL, fR, _⟩ := Tm.ruleErr_ok (hall b hb)
    rcases h2 with ⟨h3, _⟩ | ⟨h3, _⟩
    · exact absurd h3 he
    · exact h3.two eL eR (Tm.others_err eL2 fL) (Tm.others_err eR2 fR)
theorem Tm.AllTo.one {rs : RuleL} {n m : Nat} {L : PairL} (h : Tm.AllTo rs n m L) : n ≤ rs.length → ∀ {L'}, Tm.AllTo rs n m L' → L = L' := by
  induction h with
  | zero => intro _ L' h'; cases h'; rfl
  | @next n m L0 ps h hm hs ih =>
    intro hn L' h'
    cases h' with
    | next h2 _ hs2 => rw [ih hn h2, (hs.one hs2).2]
  | @row n L0 h ih =>
    intro hn L' h'
    cases h' with
    | row h2 => exact ih (by omega) h2
/-- What the reference's answer to all pairs may be. -/
def Tm.RefAll (rs : RuleL) (er : Int) (ps : PairL) : Prop := Tm.AllPSays rs er ps ∨ (Tm.rulesErr rs = 0 ∧ er = 2 ∧ ps = [] ∧ ∃ i j l, i < rs.length ∧ j ≤ rs.length ∧ Tm.AllTo rs i j l ∧ 40 < l.length)
theorem Tm.AllPSays.one {rs : RuleL} {er er' : Int} {ps ps' : PairL} (h : Tm.AllPSays rs er ps) (h' : Tm.AllPSays rs er' ps') : er = er' ∧ ps = ps' := by
  have key : ∀ {L : PairL} {i j : Nat} {er : Int} {qs : PairL}, Tm.AllTo rs rs.length 0 L → i < rs.length → j < rs.length → Tm.OfSays rs (i : Int) (j : Int) er qs → er ≠ 0 → False := fun hL hi hj hs he => by
    obtain ⟨ps, h⟩ := hL.pre.2 _ _ hj (.inl hi)
    exact he (hs.one h).1
  rcases h with ⟨l, hl, hc⟩ | ⟨i, j, l, qs, hi, hj, hl, hs, he, rfl⟩ <;> rcases h' with ⟨l', hl', hc'⟩ | ⟨i', j', l', qs', hi', hj', hl', hs', he', rfl⟩
  · obtain rfl := hl.one (Nat.le_refl _) hl'
    rcases hc with ⟨h1, rfl, rfl⟩ | ⟨h1, rfl, rfl⟩ <;> rcases hc' with ⟨h2, rfl, rfl⟩ | ⟨h2, rfl, rfl⟩
    · exact ⟨rfl, rfl⟩
    · omega
    · omega
    · exact ⟨rfl, rfl⟩
  · exact (key hl hi' hj' hs' he').elim
  · exact (key hl' hi hj hs he).elim
  · exact ⟨by rw [hs.bad hi hj he, hs'.bad hi' hj' he'], rfl⟩
theorem Tm.AllTo.lens {rs : RuleL} {n m : Nat} {L : PairL} (h : Tm.AllTo rs n m L) : ∀ x ∈ L, x.1.length ≤ 1000 ∧ x.2.length ≤ 1000 := by
  induction h with
  | zero => intro x hx; cases hx
  | @next n m L0 ps h hm hs ih =>
    intro x hx
    rcases List.mem_append.1 hx with h1 | h1
    · exact ih x h1
    · obtain ⟨k, hk, e⟩ := List.getElem_of_mem h1
      have := hs.lens.2 k hk
      rw [List.getElem?_eq_getElem hk, e] at this
      exact this
  | row h ih => exact ih
theorem Tm.AllPSays.lens {rs : RuleL} {er : Int} {ps : PairL} (h : Tm.AllPSays rs er ps) : ps.length ≤ 1000 ∧ ∀ k, k < ps.length → (ps[k]?.getD ([], [])).1.length ≤ 1000 ∧ (ps[k]?.getD ([], [])).2.length ≤ 1000 := by
  rcases h with ⟨l, hl, ⟨h1, _, rfl⟩ | ⟨_, _, rfl⟩⟩ | ⟨_, _, _, _, _, _, _, _, _, rfl⟩
  · refine ⟨by omega, fun k hk => ?_⟩
    rw [List.getElem?_eq_getElem hk]
    exact hl.lens _ (List.getElem_mem hk)
  · exact ⟨by simp, fun k hk => by simp at hk⟩
  · exact ⟨by simp, fun k hk => by simp at hk⟩

end Go.Proofs.Ytkjncjlombjlfaa
