/-
  PLAIN MATHEMATICS of terms of any size as trees: each is a list of signs (flat), and each list of signs that is a term is one tree's. · PLAIN MATHEMATICS: the order on trees of any size: it stays under what variables become and in whatever they stand; and it ends: nothing goes down without an end. · PLAIN MATHEMATICS: steps on trees of any size, by rules; Newman's lemma; steps that part meet again if those do that lap over (the critical pair lemma). · PLAIN MATHEMATICS: the critical pair lemma on trees. · rules.Falls; rules.replaced. · rules.replaced; lists of steps in new memory, one more behind them. · PLAIN MATHEMATICS of steps: at which places which rules fit, and what comes of each.
-/
import Derived.Test.YtgeknojpcjadkaaBjs7
import Derived.Test.YtgeknojpcjadkaaBjs11
namespace Go.Proofs.Ytgeknojpcjadkaa
open Go.Proofs Go.RowKit Go.Shelf

inductive Tr
  | leaf (s : Int)
  | one (s : Int) (a : Tr)
  | two (s : Int) (a b : Tr)
def Tr.flat : Tr → List Int
  | .leaf s => [s]
  | .one s a => s :: a.flat
  | .two s a b => s :: (a.flat ++ b.flat)
def Tr.ok : Tr → Prop
  | .leaf s => s < 2
  | .one s a => (s = 2 ∨ s = 3) ∧ a.ok
  | .two s a b => (s = 4 ∨ s = 5) ∧ a.ok ∧ b.ok
def Tr.sy : Tr → Int
  | .leaf s => s
  | .one s _ => s
  | .two s _ _ => s
def Tr.kids : Tr → List Tr
  | .leaf _ => []
  | .one _ a => [a]
  | .two _ a b => [a, b]

theorem room_leaf {s : Int} (h : s < 2) : Tm.room s = 0 := by unfold Tm.room; rw [if_neg (by omega), if_neg (by omega)]
theorem room_one {s : Int} (h : s = 2 ∨ s = 3) : Tm.room s = 1 := by unfold Tm.room; rw [if_pos h]
theorem room_two {s : Int} (h : s = 4 ∨ s = 5) : Tm.room s = 2 := by unfold Tm.room; rw [if_neg (by omega), if_pos h]

theorem Tr.room {x : Tr} (h : x.ok) : Tm.room x.sy = x.kids.length := by
  cases x with
  | leaf s => exact room_leaf h
  | one s a => exact room_one h.1
  | two s a b => exact room_two h.1
theorem Tr.kids_ok {x : Tr} (h : x.ok) : ∀ c ∈ x.kids, c.ok := by
  cases x with
  | leaf s => intro c hc; cases hc
  | one s a => intro c hc; rw [List.mem_singleton.1 hc]; exact h.2
  | two s a b =>
    intro c hc
    rcases List.mem_cons.1 hc with rfl | hc
    · exact h.2.1
    · rw [List.mem_singleton.1 hc]; exact h.2.2
theorem Tr.sym (x : Tr) : Tm.sym x.flat = x.sy := by cases x <;> rfl
theorem Tr.flat_pos (x : Tr) : 0 < x.flat.length := by cases x <;> simp [Tr.flat]

theorem Tr.run {x : Tr} : x.ok → ∀ (l : List Int) (n : Nat), Tm.run (x.flat ++ l) (n + 1) = x.flat.length + Tm.run l n := by
  induction x with
  | leaf s => intro h l n; rw [Tr.flat, List.singleton_append, Tm.run_cons, room_leaf h]; rfl
  | one s a ih =>
    intro h l n
    rw [Tr.flat, List.cons_append, Tm.run_cons, room_one h.1, ih h.2, List.length_cons]
    omega
  | two s a b iha ihb =>
    intro h l n
    rw [Tr.flat, List.cons_append, Tm.run_cons, room_two h.1, List.append_assoc, iha h.2.1, ihb h.2.2, List.length_cons, List.length_append]
    omega
theorem Tr.run1 {x : Tr} (h : x.ok) : Tm.run x.flat 1 = x.flat.length := by
  have := Tr.run h [] 0
  rwa [List.append_nil, Tm.run_zero] at this

theorem Tr.flat_kids (x : Tr) : x.flat = x.sy :: (x.kids.map Tr.flat).flatten := by
  cases x <;> simp [Tr.flat, Tr.sy, Tr.kids]
theorem Tr.kid {x : Tr} (h : x.ok) {m : Nat} {c : Tr} (hm : x.kids[m]? = some c) : Tm.kid x.flat m = c.flat := by
  rw [Tr.flat_kids x]
  have hlt : m < x.kids.length := by
    rcases Nat.lt_or_ge m x.kids.length with h | h
    · exact h
    · rw [List.getElem?_eq_none h] at hm; cases hm
  rw [Tm.kid_flat (zss := x.kids.map Tr.flat) ?_ (by simpa using hlt)]
  · rw [List.getElem?_map, hm]; rfl
  · intro j hj
    have hj' : j < x.kids.length := by simpa using hj
    rw [List.getElem?_map, List.getElem?_eq_getElem hj']
    exact Tr.run1 (Tr.kids_ok h _ (List.getElem_mem hj'))

theorem Tr.inj {x : Tr} : x.ok → ∀ {y : Tr} {l m : List Int}, y.ok → x.flat ++ l = y.flat ++ m → x = y ∧ l = m := by
  induction x with
  | leaf s =>
    intro h y l m hy e
    cases y with
    | leaf s' => simp only [Tr.flat, List.singleton_append, List.cons.injEq] at e; exact ⟨by rw [e.1], e.2⟩
    | one s' a => simp only [Tr.flat, List.cons_append, List.cons.injEq] at e; simp only [Tr.ok] at h hy; omega
    | two s' a b => simp only [Tr.flat, List.cons_append, List.cons.injEq] at e; simp only [Tr.ok] at h hy; omega
  | one s a ih =>
    intro h y l m hy e
    cases y with
    | leaf s' => simp only [Tr.flat, List.cons_append, List.cons.injEq] at e; simp only [Tr.ok] at h hy; omega
    | one s' a' =>
      simp only [Tr.flat, List.cons_append, List.cons.injEq] at e
      obtain ⟨h1, h2⟩ := ih h.2 hy.2 e.2
      exact ⟨by rw [e.1, h1], h2⟩
    | two s' a' b' => simp only [Tr.flat, List.cons_append, List.cons.injEq] at e; simp only [Tr.ok] at h hy; omega
  | two s a b iha ihb =>
    intro h y l m hy e
    cases y with
    | leaf s' => simp only [Tr.flat, List.cons_append, List.cons.injEq] at e; simp only [Tr.ok] at h hy; omega
    | one s' a' => simp only [Tr.flat, List.cons_append, List.cons.injEq] at e; simp only [Tr.ok] at h hy; omega
    | two s' a' b' =>
      simp only [Tr.flat, List.cons_append, List.append_assoc, List.cons.injEq] at e
      obtain ⟨h1, h2⟩ := iha h.2.1 hy.2.1 e.2
      obtain ⟨h3, h4⟩ := ihb h.2.2 hy.2.2 h2
      exact ⟨by rw [e.1, h1, h3], h4⟩
theorem Tr.flat_inj {x y : Tr} (hx : x.ok) (hy : y.ok) (e : x.flat = y.flat) : x = y := (Tr.inj hx (l := []) (m := []) hy (by rw [e])).1

/-- So many terms are so many trees. -/
theorem Tr.parse : ∀ (t : List Int) (n : Nat), (∀ s ∈ t, s < 6) → Tm.run t n = t.length → ∃ xs : List Tr, xs.length = n ∧ (∀ x ∈ xs, x.ok) ∧ (xs.map Tr.flat).flatten = t := by
  intro t
  induction t with
  | nil =>
    intro n _ h
    rw [Tm.run_nil] at h
    exact ⟨[], by simpa using h.symm, (fun _ h => by cases h), rfl⟩
  | cons s l ih =>
    intro n hs h
    cases n with
    | zero => rw [Tm.run_zero] at h; simp at h
    | succ n =>
      rw [Tm.run_cons, List.length_cons] at h
      obtain ⟨xs, h1, h2, h3⟩ := ih (n + Tm.room s) (fun x hx => hs x (List.mem_cons_of_mem _ hx)) (by omega)
      have h6 := hs s List.mem_cons_self
      by_cases c0 : s < 2
      · rw [room_leaf c0] at h1
        refine ⟨.leaf s :: xs, by simpa using h1, fun x hx => ?_, by simp [Tr.flat, h3]⟩
        rcases List.mem_cons.1 hx with rfl | hx
        · exact c0
        · exact h2 x hx
      · by_cases c1 : s = 2 ∨ s = 3
        · rw [room_one c1] at h1
          cases xs with
          | nil => simp at h1
          | cons a xs =>
            refine ⟨.one s a :: xs, by simpa using h1, fun x hx => ?_, by rw [← h3]; simp [Tr.flat]⟩
            rcases List.mem_cons.1 hx with rfl | hx
            · exact ⟨c1, h2 a List.mem_cons_self⟩
            · exact h2 x (List.mem_cons_of_mem _ hx)
        · have c2 : s = 4 ∨ s = 5 := by omega
          rw [room_two c2] at h1
          cases xs with
          | nil => simp at h1
          | cons a xs =>
            cases xs with
            | nil => simp at h1
            | cons b xs =>
              refine ⟨.two s a b :: xs, by simpa using h1, fun x hx => ?_, by rw [← h3]; simp [Tr.flat]⟩
              rcases List.mem_cons.1 hx with rfl | hx
              · exact ⟨c2, h2 a List.mem_cons_self, h2 b (List.mem_cons_of_mem _ List.mem_cons_self)⟩
              · exact h2 x (List.mem_cons_of_mem _ (List.mem_cons_of_mem _ hx))
theorem Tr.of {t : List Int} (hs : ∀ s ∈ t, s < 6) (h : Tm.run t 1 = t.length) : ∃ x : Tr, x.ok ∧ x.flat = t := by
  obtain ⟨xs, h1, h2, h3⟩ := Tr.parse t 1 hs h
  match xs, h1 with
  | [x], _ => exact ⟨x, h2 x List.mem_cons_self, by simpa using h3⟩

end Go.Proofs.Ytgeknojpcjadkaa

namespace Go.Proofs.Ytgeknojpcjadkaa
open Go.Proofs Go.RowKit Go.Shelf

/-- a is above b. -/
def Tr.G (r : Int → Int) (a b : Tr) : Prop := Tm.Gt r a.flat b.flat
theorem Tr.kid_at {x : Tr} (h : x.ok) {m : Nat} (hm : m < Tm.room (Tm.sym x.flat)) : ∃ c, x.kids[m]? = some c ∧ Tm.kid x.flat m = c.flat ∧ c ∈ x.kids ∧ c.ok := by
  rw [Tr.sym, Tr.room h] at hm
  exact ⟨x.kids[m], List.getElem?_eq_getElem hm, Tr.kid h (List.getElem?_eq_getElem hm), List.getElem_mem hm, Tr.kids_ok h _ (List.getElem_mem hm)⟩
theorem Tr.kid_of {x c : Tr} (h : x.ok) (hc : c ∈ x.kids) : ∃ m, m < Tm.room (Tm.sym x.flat) ∧ x.kids[m]? = some c ∧ Tm.kid x.flat m = c.flat := by
  obtain ⟨m, hm, rfl⟩ := List.getElem_of_mem hc
  exact ⟨m, by rw [Tr.sym, Tr.room h]; exact hm, List.getElem?_eq_getElem hm, Tr.kid h (List.getElem?_eq_getElem hm)⟩

/-- By the first parts that differ. -/
def Tr.Lex (r : Int → Int) (a b : Tr) : Prop := a.sy = b.sy ∧ ∃ (m : Nat) (c d : Tr), a.kids[m]? = some c ∧ b.kids[m]? = some d ∧ (∀ l, l < m → a.kids[l]? = b.kids[l]?) ∧ Tr.G r c d

theorem Tr.G.iff {r : Int → Int} {a b : Tr} (ha : a.ok) (hb : b.ok) : Tr.G r a b ↔ (∃ c ∈ a.kids, c = b ∨ Tr.G r c b) ∨ (0 ≤ a.sy ∧ 0 ≤ b.sy ∧ (∀ c ∈ b.kids, Tr.G r a c) ∧ ((a.sy ≠ b.sy ∧ r b.sy < r a.sy) ∨ Tr.Lex r a b)) := by
  unfold Tr.G Tr.Lex
  rw [Tm.Gt.iff]
  constructor
  · rintro (⟨m, hm, h⟩ | ⟨h1, h2, h3, h4⟩)
    · obtain ⟨c, e1, e2, e3, e4⟩ := Tr.kid_at ha hm
      rw [e2] at h
      rcases h with h | h
      · exact .inl ⟨c, e3, .inl (Tr.flat_inj e4 hb h)⟩
      · exact .inl ⟨c, e3, .inr h⟩
    · rw [Tr.sym] at h1 h2
      refine .inr ⟨h1, h2, fun c hc => ?_, ?_⟩
      · obtain ⟨m, hm, e1, e2⟩ := Tr.kid_of hb hc
        rw [← e2]
        exact h3 m hm
      · rw [Tr.sym, Tr.sym] at h4
        rcases h4 with h4 | ⟨hs, m, hm, hl, hk⟩
        · exact .inl h4
        · right
          have hm1 : m < Tm.room (Tm.sym a.flat) := by rw [Tr.sym]; exact hm
          have hm2 : m < Tm.room (Tm.sym b.flat) := by rw [Tr.sym, ← hs]; exact hm
          obtain ⟨c, e1, e2, _, _⟩ := Tr.kid_at ha hm1
          obtain ⟨d, f1, f2, _, _⟩ := Tr.kid_at hb hm2
          rw [e2, f2] at hk
          refine ⟨hs, m, c, d, e1, f1, fun l hlm => ?_, hk⟩
          obtain ⟨c', e1', e2', _, o1⟩ := Tr.kid_at ha (Nat.lt_trans hlm hm1)
          obtain ⟨d', f1', f2', _, o2⟩ := Tr.kid_at hb (Nat.lt_trans hlm hm2)
          have := hl l hlm
          rw [e2', f2'] at this
          rw [e1', f1', Tr.flat_inj o1 o2 this]
  · rintro (⟨c, hc, h⟩ | ⟨h1, h2, h3, h4⟩)
    · obtain ⟨m, hm, e1, e2⟩ := Tr.kid_of ha hc
      refine .inl ⟨m, hm, ?_⟩
      rw [e2]
      rcases h with rfl | h
      · exact .inl rfl
      · exact .inr h
    · refine .inr ⟨by rw [Tr.sym]; exact h1, by rw [Tr.sym]; exact h2, fun m hm => ?_, ?_⟩
      · obtain ⟨c, e1, e2, e3, e4⟩ := Tr.kid_at hb hm
        rw [e2]
        exact h3 c e3
      · rw [Tr.sym, Tr.sym]
        rcases h4 with h4 | ⟨hs, m, c, d, e1, f1, hl, hk⟩
        · exact .inl h4
        · right
          have hm1 : m < a.kids.length := by
            rcases Nat.lt_or_ge m a.kids.length with h | h
            · exact h
            · rw [List.getElem?_eq_none h] at e1; cases e1
          refine ⟨hs, m, by rw [Tr.room ha]; exact hm1, fun l hlm => ?_, by rw [Tr.kid ha e1, Tr.kid hb f1]; exact hk⟩
          have e1' := List.getElem?_eq_getElem (Nat.lt_trans hlm hm1)
          have f1' := (hl l hlm).symm.trans e1'
          rw [Tr.kid ha e1', Tr.kid hb f1']

theorem Tr.G.trans {r : Int → Int} {a b c : Tr} (h : Tr.G r a b) (h' : Tr.G r b c) : Tr.G r a c := Tm.Gt.trans h h'
theorem Tr.G.pos {r : Int → Int} {a b : Tr} (h : Tr.G r a b) : 0 ≤ a.sy := by have := Tm.Gt.pos h; rwa [Tr.sym] at this

/-- What nothing goes down from without an end. -/
def Tr.Ends (r : Int → Int) (x : Tr) : Prop := Acc (fun b a : Tr => b.ok ∧ Tr.G r a b) x
theorem Tr.Ends.down {r : Int → Int} {a b : Tr} (h : Tr.Ends r a) (hb : b.ok) (hg : Tr.G r a b) : Tr.Ends r b := Acc.inv h ⟨hb, hg⟩

/-- One whose parts end, ends, if those do that are below by the symbol or by parts. -/
theorem Tr.Ends.node {r : Int → Int} {a : Tr} (ha : a.ok) (hk : ∀ c ∈ a.kids, Tr.Ends r c) (hr : ∀ b : Tr, b.ok → 0 ≤ b.sy → r b.sy < r a.sy → (∀ c ∈ b.kids, Tr.Ends r c) → Tr.Ends r b)
    (hl : ∀ b : Tr, b.ok → (∀ c ∈ b.kids, Tr.Ends r c) → Tr.Lex r a b → Tr.Ends r b) : Tr.Ends r a := by
  have kids : ∀ b : Tr, b.ok → Tr.G r a b → (∀ c ∈ b.kids, Tr.G r a c → Tr.Ends r c) → Tr.Ends r b := by
    intro b hb hg ih
    rcases (Tr.G.iff ha hb).1 hg with ⟨c, hc, rfl | h⟩ | ⟨_, h2, h3, ⟨_, h4⟩ | h4⟩
    · exact hk c hc
    · exact (hk c hc).down hb h
    · exact hr b hb h2 h4 (fun c hc => ih c hc (h3 c hc))
    · exact hl b hb (fun c hc => ih c hc (h3 c hc)) h4
  have main : ∀ b : Tr, b.ok → Tr.G r a b → Tr.Ends r b := by
    intro b
    induction b with
    | leaf s => exact fun hb hg => kids _ hb hg (fun c hc => by cases hc)
    | one s b ih => exact fun hb hg => kids _ hb hg (fun c hc hgc => by rw [List.mem_singleton.1 hc] at hgc ⊢; exact ih hb.2 hgc)
    | two s b c ihb ihc =>
      refine fun hb hg => kids _ hb hg (fun d hd hgd => ?_)
      rcases List.mem_cons.1 hd with rfl | hd
      · exact ihb hb.2.1 hgd
      · rw [List.mem_singleton.1 hd] at hgd ⊢; exact ihc hb.2.2 hgd
  exact Acc.intro _ fun b hb => main b hb.1 hb.2

theorem Tr.Ends.sym {r : Int → Int} {B : Int} (h0 : ∀ s, 0 ≤ s → B ≤ r s) : ∀ (n : Nat) (a : Tr), a.ok → 0 ≤ a.sy → (r a.sy - B).toNat < n → (∀ c ∈ a.kids, Tr.Ends r c) → Tr.Ends r a := by
  intro n
  induction n with
  | zero => intro a _ _ h; omega
  | succ n ih =>
    intro a ha hs hn hk
    have hr : ∀ b : Tr, b.ok → 0 ≤ b.sy → r b.sy < r a.sy → (∀ c ∈ b.kids, Tr.Ends r c) → Tr.Ends r b := fun b hb hbs hlt hbk => ih b hb hbs (by have := h0 _ hbs; have := h0 _ hs; omega) hbk
    cases a with
    | leaf s => exact Tr.Ends.node ha hk hr fun b _ _ hl => by obtain ⟨_, m, c, d, e, _⟩ := hl; simp [Tr.kids] at e
    | one s a =>
      have hE : Tr.Ends r a := hk a List.mem_cons_self
      have hok := ha.2
      have hs1 := ha.1
      have hr' : ∀ b : Tr, b.ok → 0 ≤ b.sy → r b.sy < r s → (∀ c ∈ b.kids, Tr.Ends r c) → Tr.Ends r b := hr
      clear ha hk hs hn hr
      induction hE with
      | intro a hacc iha =>
        refine Tr.Ends.node ⟨hs1, hok⟩ (fun c hc => by rw [List.mem_singleton.1 hc]; exact Acc.intro _ hacc) hr' fun b hb hbk hl => ?_
        obtain ⟨e, m, c, d, e1, e2, _, hg⟩ := hl
        cases b with
        | leaf s' => simp [Tr.kids] at e2
        | two s' b1 b2 => simp only [Tr.sy] at e; simp only [Tr.ok] at hb; omega
        | one s' b1 =>
          simp only [Tr.sy] at e
          subst e
          cases m with
          | succ m => simp [Tr.kids] at e1
          | zero =>
            simp only [Tr.kids, List.getElem?_cons_zero, Option.some.injEq] at e1 e2
            subst e1 e2
            exact iha b1 ⟨hb.2, hg⟩ hb.2
    | two s a1 a2 =>
      have hE1 : Tr.Ends r a1 := hk a1 List.mem_cons_self
      have hE2 : Tr.Ends r a2 := hk a2 (List.mem_cons_of_mem _ List.mem_cons_self)
      have hok1 := ha.2.1
      have hok2 := ha.2.2
      have hs1 := ha.1
      have hr' : ∀ b : Tr, b.ok → 0 ≤ b.sy → r b.sy < r s → (∀ c ∈ b.kids, Tr.Ends r c) → Tr.Ends r b := hr
      clear ha hk hs hn hr
      induction hE1 generalizing a2 with
      | intro a1 hacc1 iha1 =>
        induction hE2 with
        | intro a2 hacc2 iha2 =>
          refine Tr.Ends.node ⟨hs1, hok1, hok2⟩ (fun c hc => ?_) hr' fun b hb hbk hl => ?_
          · rcases List.mem_cons.1 hc with rfl | hc
            · exact Acc.intro _ hacc1
            · rw [List.mem_singleton.1 hc]; exact Acc.intro _ hacc2
          · obtain ⟨e, m, c, d, e1, e2, hl, hg⟩ := hl
            cases b with
            | leaf s' => simp [Tr.kids] at e2
            | one s' b1 => simp only [Tr.sy] at e; simp only [Tr.ok] at hb; omega
            | two s' b1 b2 =>
              simp only [Tr.sy] at e
              subst e
              match m with
              | 0 =>
                simp only [Tr.kids, List.getElem?_cons_zero, Option.some.injEq] at e1 e2
                subst e1 e2
                exact iha1 b1 ⟨hb.2.1, hg⟩ b2 (hbk b2 (List.mem_cons_of_mem _ List.mem_cons_self)) hb.2.1 hb.2.2
              | 1 =>
                have h01 := hl 0 (by omega)
                simp only [Tr.kids, List.getElem?_cons_zero, List.getElem?_cons_succ, Option.some.injEq] at e1 e2 h01
                subst e1 e2 h01
                exact iha2 b2 ⟨hb.2.2, hg⟩ hb.2.2
              | m + 2 => simp [Tr.kids] at e1

/-- Nothing goes down without an end. -/
theorem Tr.ends {r : Int → Int} {B : Int} (h0 : ∀ s, 0 ≤ s → B ≤ r s) : ∀ (x : Tr), x.ok → Tr.Ends r x := by
  have var : ∀ s : Int, s < 0 → Tr.Ends r (.leaf s) := fun s hs => Acc.intro _ fun b hb => by have := Tr.G.pos hb.2; simp only [Tr.sy] at this; omega
  intro x
  induction x with
  | leaf s =>
    intro h
    by_cases hs : s < 0
    · exact var s hs
    · exact Tr.Ends.sym h0 _ _ h (by simp only [Tr.sy]; omega) (Nat.lt_succ_self _) (fun c hc => by cases hc)
  | one s a ih =>
    intro h
    have := h.1
    exact Tr.Ends.sym h0 _ _ h (by simp only [Tr.sy]; omega) (Nat.lt_succ_self _) (fun c hc => by rw [List.mem_singleton.1 hc]; exact ih h.2)
  | two s a b iha ihb =>
    intro h
    have := h.1
    refine Tr.Ends.sym h0 _ _ h (by simp only [Tr.sy]; omega) (Nat.lt_succ_self _) (fun c hc => ?_)
    rcases List.mem_cons.1 hc with rfl | hc
    · exact iha h.2.1
    · rw [List.mem_singleton.1 hc]; exact ihb h.2.2

end Go.Proofs.Ytgeknojpcjadkaa

namespace Go.Proofs.Ytgeknojpcjadkaa
open Go.Proofs Go.RowKit Go.Shelf

/-- What comes if each variable becomes that. -/
def Tr.sub (f : Int → Tr) : Tr → Tr
  | .leaf s => if s < 0 then f s else .leaf s
  | .one s a => .one s (a.sub f)
  | .two s a b => .two s (a.sub f) (b.sub f)
def Tr.Oks (f : Int → Tr) : Prop := ∀ s, s < 0 → (f s).ok
theorem Tr.sub_ok {f : Int → Tr} (hf : Tr.Oks f) {x : Tr} : x.ok → (x.sub f).ok := by
  induction x with
  | leaf s =>
    intro h
    rw [Tr.sub]
    split
    · exact hf s ‹_›
    · exact h
  | one s a ih => exact fun h => ⟨h.1, ih h.2⟩
  | two s a b iha ihb => exact fun h => ⟨h.1, iha h.2.1, ihb h.2.2⟩
theorem Tr.sub_sub (f g : Int → Tr) (x : Tr) : (x.sub f).sub g = x.sub (fun s => (f s).sub g) := by
  induction x with
  | leaf s =>
    by_cases h : s < 0
    · simp only [Tr.sub, if_pos h]
    · simp only [Tr.sub, if_neg h]
  | one s a ih => simp only [Tr.sub, ih]
  | two s a b iha ihb => simp only [Tr.sub, iha, ihb]
theorem Tr.sub_congr {f g : Int → Tr} {x : Tr} (h : ∀ s ∈ x.flat, s < 0 → f s = g s) : x.sub f = x.sub g := by
  induction x with
  | leaf s =>
    simp only [Tr.sub]
    split
    · exact h s (by simp [Tr.flat]) ‹_›
    · rfl
  | one s a ih => simp only [Tr.sub, ih (fun s hs => h s (List.mem_cons_of_mem _ hs))]
  | two s a b iha ihb => simp only [Tr.sub, iha (fun s hs => h s (List.mem_cons_of_mem _ (List.mem_append_left _ hs))), ihb (fun s hs => h s (List.mem_cons_of_mem _ (List.mem_append_right _ hs)))]

theorem Tr.sub_sy {f : Int → Tr} {x : Tr} (h : 0 ≤ x.sy) : (x.sub f).sy = x.sy ∧ (x.sub f).kids = x.kids.map (Tr.sub f) := by
  cases x with
  | leaf s => simp only [Tr.sy] at h; rw [Tr.sub, if_neg (by omega)]; exact ⟨rfl, rfl⟩
  | one s a => exact ⟨rfl, rfl⟩
  | two s a b => exact ⟨rfl, rfl⟩

theorem Tr.kid_len {x c : Tr} (hc : c ∈ x.kids) : c.flat.length < x.flat.length := by
  cases x with
  | leaf s => cases hc
  | one s a => rw [List.mem_singleton.1 hc]; simp [Tr.flat]
  | two s a b =>
    rcases List.mem_cons.1 hc with rfl | hc
    · simp [Tr.flat]; omega
    · rw [List.mem_singleton.1 hc]; simp [Tr.flat]; omega

/-- Above stays above. -/
theorem Tr.G.sub_n {r : Int → Int} {f : Int → Tr} (hf : Tr.Oks f) : ∀ (n : Nat) (a b : Tr), a.flat.length + b.flat.length < n → a.ok → b.ok → Tr.G r a b → Tr.G r (a.sub f) (b.sub f) := by
  intro n
  induction n with
  | zero => intro a b h; omega
  | succ n ih =>
    intro a b hn ha hb hg
    obtain ⟨s1, k1⟩ := Tr.sub_sy (f := f) (Tr.G.pos hg)
    refine (Tr.G.iff (Tr.sub_ok hf ha) (Tr.sub_ok hf hb)).2 ?_
    rcases (Tr.G.iff ha hb).1 hg with ⟨c, hc, h⟩ | ⟨h1, h2, h3, h4⟩
    · refine .inl ⟨c.sub f, by rw [k1]; exact List.mem_map.2 ⟨c, hc, rfl⟩, ?_⟩
      rcases h with rfl | h
      · exact .inl rfl
      · exact .inr (ih c b (by have := Tr.kid_len hc; omega) (Tr.kids_ok ha c hc) hb h)
    · obtain ⟨s2, k2⟩ := Tr.sub_sy (f := f) h2
      refine .inr ⟨by rw [s1]; exact h1, by rw [s2]; exact h2, fun c hc => ?_, ?_⟩
      · rw [k2] at hc
        obtain ⟨c, hc', rfl⟩ := List.mem_map.1 hc
        clear hc
        have hc := hc'
        exact ih a c (by have := Tr.kid_len hc; omega) ha (Tr.kids_ok hb c hc) (h3 c hc)
      · rw [s1, s2]
        rcases h4 with h4 | ⟨e, m, c, d, e1, e2, hl, hg'⟩
        · exact .inl h4
        · have hc := List.mem_of_getElem? e1
          have hd := List.mem_of_getElem? e2
          refine .inr ⟨by rw [s1, s2]; exact e, m, c.sub f, d.sub f, by rw [k1, List.getElem?_map, e1]; rfl, by rw [k2, List.getElem?_map, e2]; rfl, fun l hlm => ?_, ?_⟩
          · rw [k1, k2, List.getElem?_map, List.getElem?_map, hl l hlm]
          · exact ih c d (by have := Tr.kid_len hc; have := Tr.kid_len hd; omega) (Tr.kids_ok ha c hc) (Tr.kids_ok hb d hd) hg'
theorem Tr.G.sub {r : Int → Int} {f : Int → Tr} (hf : Tr.Oks f) {a b : Tr} (ha : a.ok) (hb : b.ok) (h : Tr.G r a b) : Tr.G r (a.sub f) (b.sub f) := Tr.G.sub_n hf _ a b (Nat.lt_succ_self _) ha hb h
theorem Tr.G.one {r : Int → Int} {s : Int} {a b : Tr} (hs : s = 2 ∨ s = 3) (ha : a.ok) (hb : b.ok) (h : Tr.G r a b) : Tr.G r (.one s a) (.one s b) := by
  refine (Tr.G.iff (a := .one s a) (b := .one s b) ⟨hs, ha⟩ ⟨hs, hb⟩).2 (.inr ⟨by simp only [Tr.sy]; omega, by simp only [Tr.sy]; omega, fun c hc => ?_, .inr ⟨rfl, 0, a, b, rfl, rfl, (fun l hl => by omega), h⟩⟩)
  rw [List.mem_singleton.1 hc]
  exact (Tr.G.iff (a := .one s a) ⟨hs, ha⟩ hb).2 (.inl ⟨a, List.mem_cons_self, .inr h⟩)
theorem Tr.G.twoL {r : Int → Int} {s : Int} {a b c : Tr} (hs : s = 4 ∨ s = 5) (ha : a.ok) (hb : b.ok) (hc : c.ok) (h : Tr.G r a b) : Tr.G r (.two s a c) (.two s b c) := by
  refine (Tr.G.iff (a := .two s a c) (b := .two s b c) ⟨hs, ha, hc⟩ ⟨hs, hb, hc⟩).2 (.inr ⟨by simp only [Tr.sy]; omega, by simp only [Tr.sy]; omega, fun d hd => ?_, .inr ⟨rfl, 0, a, b, rfl, rfl, (fun l hl => by omega), h⟩⟩)
  rcases List.mem_cons.1 hd with rfl | hd
  · exact (Tr.G.iff (a := .two s a c) ⟨hs, ha, hc⟩ hb).2 (.inl ⟨a, List.mem_cons_self, .inr h⟩)
  · rw [List.mem_singleton.1 hd]
    exact (Tr.G.iff (a := .two s a c) ⟨hs, ha, hc⟩ hc).2 (.inl ⟨c, List.mem_cons_of_mem _ List.mem_cons_self, .inl rfl⟩)
theorem Tr.G.twoR {r : Int → Int} {s : Int} {a b c : Tr} (hs : s = 4 ∨ s = 5) (ha : a.ok) (hb : b.ok) (hc : c.ok) (h : Tr.G r a b) : Tr.G r (.two s c a) (.two s c b) := by
  refine (Tr.G.iff (a := .two s c a) (b := .two s c b) ⟨hs, hc, ha⟩ ⟨hs, hc, hb⟩).2 (.inr ⟨by simp only [Tr.sy]; omega, by simp only [Tr.sy]; omega, fun d hd => ?_, .inr ⟨rfl, 1, a, b, rfl, rfl, (fun l hl => ?_), h⟩⟩)
  · rcases List.mem_cons.1 hd with rfl | hd
    · exact (Tr.G.iff (a := .two s d a) ⟨hs, hc, ha⟩ hc).2 (.inl ⟨d, List.mem_cons_self, .inl rfl⟩)
    · rw [List.mem_singleton.1 hd]
      exact (Tr.G.iff (a := .two s c a) ⟨hs, hc, ha⟩ hb).2 (.inl ⟨a, List.mem_cons_of_mem _ List.mem_cons_self, .inr h⟩)
  · obtain rfl : l = 0 := by omega
    rfl

/-- One step. -/
inductive Tr.St (rs : List (Tr × Tr)) : Tr → Tr → Prop
  | root (l r : Tr) (f : Int → Tr) : (l, r) ∈ rs → Tr.Oks f → Tr.St rs (l.sub f) (r.sub f)
  | one (s : Int) (a b : Tr) : Tr.St rs a b → Tr.St rs (.one s a) (.one s b)
  | twoL (s : Int) (a b c : Tr) : Tr.St rs a b → Tr.St rs (.two s a c) (.two s b c)
  | twoR (s : Int) (a b c : Tr) : Tr.St rs a b → Tr.St rs (.two s c a) (.two s c b)
/-- Any number of steps. -/
inductive Tr.Sts (rs : List (Tr × Tr)) : Tr → Tr → Prop
  | refl (a : Tr) : Tr.Sts rs a a
  | step (a b c : Tr) : Tr.St rs a b → Tr.Sts rs b c → Tr.Sts rs a c
theorem Tr.Sts.trans {rs : List (Tr × Tr)} {a b c : Tr} (h : Tr.Sts rs a b) (h' : Tr.Sts rs b c) : Tr.Sts rs a c := by
  induction h with
  | refl a => exact h'
  | step a b d h1 _ ih => exact .step _ _ _ h1 (ih h')
theorem Tr.St.many {rs : List (Tr × Tr)} {a b : Tr} (h : Tr.St rs a b) : Tr.Sts rs a b := .step _ _ _ h (.refl _)
theorem Tr.Sts.map {rs : List (Tr × Tr)} {F : Tr → Tr} (hF : ∀ a b, Tr.St rs a b → Tr.St rs (F a) (F b)) {a b : Tr} (h : Tr.Sts rs a b) : Tr.Sts rs (F a) (F b) := by
  induction h with
  | refl a => exact .refl _
  | step a b d h1 _ ih => exact .step _ _ _ (hF _ _ h1) ih
theorem Tr.Sts.two {rs : List (Tr × Tr)} (s : Int) {a b c d : Tr} (h : Tr.Sts rs a b) (h' : Tr.Sts rs c d) : Tr.Sts rs (.two s a c) (.two s b d) :=
  (h.map (F := fun x => .two s x c) (fun _ _ h => .twoL _ _ _ _ h)).trans (h'.map (F := fun x => .two s b x) (fun _ _ h => .twoR _ _ _ _ h))
theorem Tr.Sts.one {rs : List (Tr × Tr)} (s : Int) {a b : Tr} (h : Tr.Sts rs a b) : Tr.Sts rs (.one s a) (.one s b) := h.map (F := fun x => .one s x) (fun _ _ h => .one _ _ _ h)
def Tr.Meets (rs : List (Tr × Tr)) (a b : Tr) : Prop := ∃ c, Tr.Sts rs a c ∧ Tr.Sts rs b c
theorem Tr.Meets.symm {rs : List (Tr × Tr)} {a b : Tr} (h : Tr.Meets rs a b) : Tr.Meets rs b a := by obtain ⟨c, h1, h2⟩ := h; exact ⟨c, h2, h1⟩
theorem Tr.St.sub {rs : List (Tr × Tr)} {f : Int → Tr} (hf : Tr.Oks f) {a b : Tr} (h : Tr.St rs a b) : Tr.St rs (a.sub f) (b.sub f) := by
  induction h with
  | root l r g hm hg =>
    rw [Tr.sub_sub, Tr.sub_sub]
    exact .root l r _ hm (fun s hs => Tr.sub_ok hf (hg s hs))
  | one s a b _ ih => exact .one _ _ _ ih
  | twoL s a b c _ ih => exact .twoL _ _ _ _ ih
  | twoR s a b c _ ih => exact .twoR _ _ _ _ ih
theorem Tr.Sts.sub {rs : List (Tr × Tr)} {f : Int → Tr} (hf : Tr.Oks f) {a b : Tr} (h : Tr.Sts rs a b) : Tr.Sts rs (a.sub f) (b.sub f) := h.map (F := Tr.sub f) (fun _ _ h => h.sub hf)
theorem Tr.Meets.sub {rs : List (Tr × Tr)} {f : Int → Tr} (hf : Tr.Oks f) {a b : Tr} (h : Tr.Meets rs a b) : Tr.Meets rs (a.sub f) (b.sub f) := by obtain ⟨c, h1, h2⟩ := h; exact ⟨_, h1.sub hf, h2.sub hf⟩

/-- What variables become goes on: so does the whole. -/
theorem Tr.Sts.vars {rs : List (Tr × Tr)} {f g : Int → Tr} (h : ∀ s, s < 0 → Tr.Sts rs (f s) (g s)) (x : Tr) : Tr.Sts rs (x.sub f) (x.sub g) := by
  induction x with
  | leaf s =>
    simp only [Tr.sub]
    split
    · exact h s ‹_›
    · exact .refl _
  | one s a ih => exact ih.one s
  | two s a b iha ihb => exact iha.two s ihb

/-- Newman. -/
theorem Tr.newman {rs : List (Tr × Tr)} {P : Tr → Prop} (hP : ∀ x y, P x → Tr.St rs x y → P y) (hloc : ∀ x y z, P x → Tr.St rs x y → Tr.St rs x z → Tr.Meets rs y z) {x : Tr} (hacc : Acc (fun b a : Tr => Tr.St rs a b) x) : P x → ∀ y z, Tr.Sts rs x y → Tr.Sts rs x z → Tr.Meets rs y z := by
  induction hacc with
  | intro x _ ih =>
    intro hx y z hy hz
    cases hy with
    | refl => exact ⟨z, hz, .refl _⟩
    | step _ y1 _ h1 h2 =>
      cases hz with
      | refl => exact ⟨y, .refl _, .step _ _ _ h1 h2⟩
      | step _ z1 _ g1 g2 =>
        obtain ⟨w, hw1, hw2⟩ := hloc x y1 z1 hx h1 g1
        obtain ⟨u, hu1, hu2⟩ := ih y1 h1 (hP _ _ hx h1) y w h2 hw1
        obtain ⟨v, hv1, hv2⟩ := ih z1 g1 (hP _ _ hx g1) u z (hw2.trans hu2) g2
        exact ⟨v, hu1.trans hv1, hv2⟩

end Go.Proofs.Ytgeknojpcjadkaa

namespace Go.Proofs.Ytgeknojpcjadkaa
open Go.Proofs Go.RowKit Go.Shelf

/-- A tree with a hole. -/
inductive Cx
  | hole
  | one (s : Int) (C : Cx)
  | twoL (s : Int) (C : Cx) (b : Tr)
  | twoR (s : Int) (a : Tr) (C : Cx)
def Cx.fill : Cx → Tr → Tr
  | .hole, x => x
  | .one s C, x => .one s (C.fill x)
  | .twoL s C b, x => .two s (C.fill x) b
  | .twoR s a C, x => .two s a (C.fill x)
def Cx.sub (f : Int → Tr) : Cx → Cx
  | .hole => .hole
  | .one s C => .one s (C.sub f)
  | .twoL s C b => .twoL s (C.sub f) (b.sub f)
  | .twoR s a C => .twoR s (a.sub f) (C.sub f)
theorem Cx.fill_sub (f : Int → Tr) (C : Cx) (x : Tr) : (C.fill x).sub f = (C.sub f).fill (x.sub f) := by
  induction C with
  | hole => rfl
  | one s C ih => simp only [Cx.fill, Cx.sub, Tr.sub, ih]
  | twoL s C b ih => simp only [Cx.fill, Cx.sub, Tr.sub, ih]
  | twoR s a C ih => simp only [Cx.fill, Cx.sub, Tr.sub, ih]
theorem Tr.St.fill {rs : List (Tr × Tr)} (C : Cx) {a b : Tr} (h : Tr.St rs a b) : Tr.St rs (C.fill a) (C.fill b) := by
  induction C with
  | hole => exact h
  | one s C ih => exact .one _ _ _ ih
  | twoL s C b ih => exact .twoL _ _ _ _ ih
  | twoR s a C ih => exact .twoR _ _ _ _ ih
theorem Tr.Sts.fill {rs : List (Tr × Tr)} (C : Cx) {a b : Tr} (h : Tr.Sts rs a b) : Tr.Sts rs (C.fill a) (C.fill b) := h.map (F := C.fill) (fun _ _ h => h.fill C)

def Tr.RsOk (rs : List (Tr × Tr)) : Prop := ∀ p ∈ rs, p.1.ok ∧ p.2.ok
theorem Tr.St.ok {rs : List (Tr × Tr)} (hrs : Tr.RsOk rs) {a b : Tr} (h : Tr.St rs a b) : a.ok → b.ok := by
  induction h with
  | root l r g hm hg => exact fun _ => Tr.sub_ok hg (hrs _ hm).2
  | one s a b _ ih => exact fun h => ⟨h.1, ih h.2⟩
  | twoL s a b c _ ih => exact fun h => ⟨h.1, ih h.2.1, h.2.2⟩
  | twoR s a b c _ ih => exact fun h => ⟨h.1, h.2.1, ih h.2.2⟩
theorem Tr.Sts.ok {rs : List (Tr × Tr)} (hrs : Tr.RsOk rs) {a b : Tr} (h : Tr.Sts rs a b) : a.ok → b.ok := by
  induction h with
  | refl a => exact id
  | step a b c h1 _ ih => exact fun h => ih (h1.ok hrs h)
/-- Steps go down. -/
theorem Tr.St.down {rs : List (Tr × Tr)} {r : Int → Int} (hrs : Tr.RsOk rs) (hg : ∀ p ∈ rs, Tr.G r p.1 p.2) {a b : Tr} (h : Tr.St rs a b) : a.ok → Tr.G r a b := by
  induction h with
  | root l r g hm hf => exact fun _ => Tr.G.sub hf (hrs _ hm).1 (hrs _ hm).2 (hg _ hm)
  | one s a b h ih => exact fun ho => Tr.G.one ho.1 ho.2 (h.ok hrs ho.2) (ih ho.2)
  | twoL s a b c h ih => exact fun ho => Tr.G.twoL ho.1 ho.2.1 (h.ok hrs ho.2.1) ho.2.2 (ih ho.2.1)
  | twoR s a b c h ih => exact fun ho => Tr.G.twoR ho.1 ho.2.2 (h.ok hrs ho.2.2) ho.2.1 (ih ho.2.2)
theorem Tr.St.ends {rs : List (Tr × Tr)} {r : Int → Int} {B : Int} (h0 : ∀ s, 0 ≤ s → B ≤ r s) (hrs : Tr.RsOk rs) (hg : ∀ p ∈ rs, Tr.G r p.1 p.2) {x : Tr} (hx : x.ok) : Acc (fun b a : Tr => Tr.St rs a b) x := by
  have h := Tr.ends h0 x hx
  unfold Tr.Ends at h
  induction h with
  | intro x _ ih => exact Acc.intro _ fun b hb => ih b ⟨hb.ok hrs hx, hb.down hrs hg hx⟩ (hb.ok hrs hx)

theorem Tr.St.inv {rs : List (Tr × Tr)} {x z : Tr} (h : Tr.St rs x z) : (∃ l r g, (l, r) ∈ rs ∧ Tr.Oks g ∧ x = l.sub g ∧ z = r.sub g) ∨ (∃ s a b, x = .one s a ∧ z = .one s b ∧ Tr.St rs a b) ∨
    (∃ s a b c, x = .two s a c ∧ z = .two s b c ∧ Tr.St rs a b) ∨ (∃ s a b c, x = .two s c a ∧ z = .two s c b ∧ Tr.St rs a b) := by
  cases h with
  | root l r g hm hg => exact .inl ⟨l, r, g, hm, hg, rfl, rfl⟩
  | one s a b h => exact .inr (.inl ⟨s, a, b, rfl, rfl, h⟩)
  | twoL s a b c h => exact .inr (.inr (.inl ⟨s, a, b, c, rfl, rfl, h⟩))
  | twoR s a b c h => exact .inr (.inr (.inr ⟨s, a, b, c, rfl, rfl, h⟩))

/-- A step in what comes of l: at a symbol of l, or in what a variable became. -/
theorem Tr.peak {rs : List (Tr × Tr)} (hrs : Tr.RsOk rs) {f : Int → Tr} (hf : Tr.Oks f) : ∀ (l z : Tr), Tr.St rs (l.sub f) z →
    (∃ C u l2 r2 g, Cx.fill C u = l ∧ 0 ≤ u.sy ∧ (l2, r2) ∈ rs ∧ Tr.Oks g ∧ u.sub f = l2.sub g ∧ z = (C.sub f).fill (r2.sub g)) ∨ (∃ f', Tr.Oks f' ∧ (∀ s, s < 0 → Tr.Sts rs (f s) (f' s)) ∧ Tr.Sts rs z (l.sub f')) := by
  intro l
  induction l with
  | leaf s =>
    intro z h
    by_cases hs : s < 0
    · right
      rw [Tr.sub, if_pos hs] at h
      refine ⟨fun x => if x = s then z else f x, fun x hx => ?_, fun x hx => ?_, ?_⟩
      · by_cases e : x = s
        · simp only [if_pos e]; exact h.ok hrs (hf s hs)
        · simp only [if_neg e]; exact hf x hx
      · by_cases e : x = s
        · simp only [if_pos e]; rw [e]; exact h.many
        · simp only [if_neg e]; exact .refl _
      · simp only [Tr.sub, if_pos hs, if_true]; exact .refl _
    · left
      have h' := h
      rw [Tr.sub, if_neg hs] at h'
      rcases h'.inv with ⟨l2, r2, g, hm, hg, e1, e2⟩ | ⟨_, _, _, e, _⟩ | ⟨_, _, _, _, e, _⟩ | ⟨_, _, _, _, e, _⟩
      · exact ⟨.hole, .leaf s, l2, r2, g, rfl, by simp only [Tr.sy]; omega, hm, hg, by rw [Tr.sub, if_neg hs]; exact e1, e2⟩
      · cases e
      · cases e
      · cases e
  | one s a ih =>
    intro z h
    by_cases h0 : 0 ≤ s
    · rcases h.inv with ⟨l2, r2, g, hm, hg, e1, e2⟩ | ⟨s', a', b', e, e2, h'⟩ | ⟨_, _, _, _, e, _⟩ | ⟨_, _, _, _, e, _⟩
      · exact .inl ⟨.hole, .one s a, l2, r2, g, rfl, h0, hm, hg, e1, e2⟩
      · rw [Tr.sub] at e
        cases e
        rcases ih _ h' with ⟨C, u, l2, r2, g, q1, q2, q3, q4, q5, q6⟩ | ⟨f', q1, q2, q3⟩
        · exact .inl ⟨.one s C, u, l2, r2, g, by rw [Cx.fill, q1], q2, q3, q4, q5, by rw [e2, q6]; rfl⟩
        · exact .inr ⟨f', q1, q2, by rw [e2]; exact q3.one s⟩
      · cases e
      · cases e
    · rcases h.inv with ⟨l2, r2, g, hm, hg, e1, e2⟩ | ⟨s', a', b', e, e2, h'⟩ | ⟨_, _, _, _, e, _⟩ | ⟨_, _, _, _, e, _⟩
      · exfalso
        have hok := Tr.sub_ok hg (hrs _ hm).1
        rw [← e1, Tr.sub] at hok
        have := hok.1
        omega
      · rw [Tr.sub] at e
        cases e
        rcases ih _ h' with ⟨C, u, l2, r2, g, q1, q2, q3, q4, q5, q6⟩ | ⟨f', q1, q2, q3⟩
        · exact .inl ⟨.one s C, u, l2, r2, g, by rw [Cx.fill, q1], q2, q3, q4, q5, by rw [e2, q6]; rfl⟩
        · exact .inr ⟨f', q1, q2, by rw [e2]; exact q3.one s⟩
      · cases e
      · cases e
  | two s a b iha ihb =>
    intro z h
    rcases h.inv with ⟨l2, r2, g, hm, hg, e1, e2⟩ | ⟨s', a', b', e, _⟩ | ⟨s', a', b', c', e, e2, h'⟩ | ⟨s', a', b', c', e, e2, h'⟩
    · have h0 : 0 ≤ s := by
        have hok := Tr.sub_ok hg (hrs _ hm).1
        rw [← e1, Tr.sub] at hok
        have := hok.1
        omega
      exact .inl ⟨.hole, .two s a b, l2, r2, g, rfl, h0, hm, hg, e1, e2⟩
    · cases e
    · rw [Tr.sub] at e
      cases e
      rcases iha _ h' with ⟨C, u, l2, r2, g, q1, q2, q3, q4, q5, q6⟩ | ⟨f', q1, q2, q3⟩
      · exact .inl ⟨.twoL s C b, u, l2, r2, g, by rw [Cx.fill, q1], q2, q3, q4, q5, by rw [e2, q6]; rfl⟩
      · exact .inr ⟨f', q1, q2, by rw [e2]; exact q3.two s (Tr.Sts.vars q2 b)⟩
    · rw [Tr.sub] at e
      cases e
      rcases ihb _ h' with ⟨C, u, l2, r2, g, q1, q2, q3, q4, q5, q6⟩ | ⟨f', q1, q2, q3⟩
      · exact .inl ⟨.twoR s a C, u, l2, r2, g, by rw [Cx.fill, q1], q2, q3, q4, q5, by rw [e2, q6]; rfl⟩
      · exact .inr ⟨f', q1, q2, by rw [e2]; exact (Tr.Sts.vars q2 a).two s q3⟩

/-- All that lap over meet. -/
def Tr.LapMeet (rs : List (Tr × Tr)) : Prop := ∀ l1 r1 l2 r2, (l1, r1) ∈ rs → (l2, r2) ∈ rs → ∀ C u f g, Cx.fill C u = l1 → 0 ≤ u.sy → Tr.Oks f → Tr.Oks g → u.sub f = l2.sub g → Tr.Meets rs (r1.sub f) ((C.sub f).fill (r2.sub g))

theorem Tr.root_meet {rs : List (Tr × Tr)} (hrs : Tr.RsOk rs) (hl : Tr.LapMeet rs) {l r : Tr} {f : Int → Tr} (hm : (l, r) ∈ rs) (hf : Tr.Oks f) {z : Tr} (h : Tr.St rs (l.sub f) z) : Tr.Meets rs (r.sub f) z := by
  rcases Tr.peak hrs hf l z h with ⟨C, u, l2, r2, g, q1, q2, q3, q4, q5, q6⟩ | ⟨f', q1, q2, q3⟩
  · rw [q6]
    exact hl l r l2 r2 hm q3 C u f g q1 q2 hf q4 q5
  · exact ⟨r.sub f', Tr.Sts.vars q2 r, q3.trans (Tr.St.root l r f' hm q1).many⟩

/-- Where steps part, they meet again. -/
theorem Tr.local_meet {rs : List (Tr × Tr)} (hrs : Tr.RsOk rs) (hl : Tr.LapMeet rs) : ∀ (x y z : Tr), Tr.St rs x y → Tr.St rs x z → Tr.Meets rs y z := by
  intro x
  induction x with
  | leaf s =>
    intro y z h1 h2
    rcases h1.inv with ⟨l, r, g, hm, hg, e1, e2⟩ | ⟨_, _, _, e, _⟩ | ⟨_, _, _, _, e, _⟩ | ⟨_, _, _, _, e, _⟩
    · rw [e1] at h2; rw [e2]; exact Tr.root_meet hrs hl hm hg h2
    · cases e
    · cases e
    · cases e
  | one s a ih =>
    intro y z h1 h2
    rcases h1.inv with ⟨l, r, g, hm, hg, e1, e2⟩ | ⟨s1, a1, b1, e1, e2, i1⟩ | ⟨_, _, _, _, e, _⟩ | ⟨_, _, _, _, e, _⟩
    · rw [e1] at h2; rw [e2]; exact Tr.root_meet hrs hl hm hg h2
    · rcases h2.inv with ⟨l, r, g, hm, hg, f1, f2⟩ | ⟨s2, a2, b2, f1, f2, i2⟩ | ⟨_, _, _, _, e, _⟩ | ⟨_, _, _, _, e, _⟩
      · rw [f1] at h1; rw [f2]; exact (Tr.root_meet hrs hl hm hg h1).symm
      · cases e1
        cases f1
        obtain ⟨c, c1, c2⟩ := ih _ _ i1 i2
        exact ⟨.one s c, by rw [e2]; exact c1.one s, by rw [f2]; exact c2.one s⟩
      · cases e
      · cases e
    · cases e
    · cases e
  | two s a b iha ihb =>
    intro y z h1 h2
    rcases h1.inv with ⟨l, r, g, hm, hg, e1, e2⟩ | ⟨_, _, _, e, _⟩ | ⟨s1, a1, b1, c1, e1, e2, i1⟩ | ⟨s1, a1, b1, c1, e1, e2, i1⟩
    · rw [e1] at h2; rw [e2]; exact Tr.root_meet hrs hl hm hg h2
    · cases e
    · rcases h2.inv with ⟨l, r, g, hm, hg, f1, f2⟩ | ⟨_, _, _, e, _⟩ | ⟨s2, a2, b2, c2, f1, f2, i2⟩ | ⟨s2, a2, b2, c2, f1, f2, i2⟩
      · rw [f1] at h1; rw [f2]; exact (Tr.root_meet hrs hl hm hg h1).symm
      · cases e
      · cases e1
        cases f1
        obtain ⟨c, d1, d2⟩ := iha _ _ i1 i2
        exact ⟨.two s c b, by rw [e2]; exact d1.two s (.refl _), by rw [f2]; exact d2.two s (.refl _)⟩
      · cases e1
        cases f1
        exact ⟨.two s b1 b2, by rw [e2]; exact (Tr.Sts.refl _).two s i2.many, by rw [f2]; exact i1.many.two s (.refl _)⟩
    · rcases h2.inv with ⟨l, r, g, hm, hg, f1, f2⟩ | ⟨_, _, _, e, _⟩ | ⟨s2, a2, b2, c2, f1, f2, i2⟩ | ⟨s2, a2, b2, c2, f1, f2, i2⟩
      · rw [f1] at h1; rw [f2]; exact (Tr.root_meet hrs hl hm hg h1).symm
      · cases e
      · cases e1
        cases f1
        exact ⟨.two s b2 b1, by rw [e2]; exact i2.many.two s (.refl _), by rw [f2]; exact (Tr.Sts.refl _).two s i1.many⟩
      · cases e1
        cases f1
        obtain ⟨c, d1, d2⟩ := ihb _ _ i1 i2
        exact ⟨.two s a c, by rw [e2]; exact (Tr.Sts.refl _).two s d1, by rw [f2]; exact (Tr.Sts.refl _).two s d2⟩

/-- RULES THAT FALL AND WHOSE PAIRS MEET: whatever comes of one term meets again. -/
theorem Tr.meet_all {rs : List (Tr × Tr)} {r : Int → Int} {B : Int} (h0 : ∀ s, 0 ≤ s → B ≤ r s) (hrs : Tr.RsOk rs) (hg : ∀ p ∈ rs, Tr.G r p.1 p.2) (hl : Tr.LapMeet rs) {x y z : Tr} (hx : x.ok) (hy : Tr.Sts rs x y) (hz : Tr.Sts rs x z) : Tr.Meets rs y z :=
  Tr.newman (P := fun _ => True) (fun _ _ _ _ => trivial) (fun x y z _ h1 h2 => Tr.local_meet hrs hl x y z h1 h2) (Tr.St.ends h0 hrs hg hx) trivial y z hy hz

end Go.Proofs.Ytgeknojpcjadkaa

namespace Go.Proofs.Ytgeknojpcjadkaa
open Go.Proofs Go.RowKit Go.Shelf Go.Maps

/-- F1: is each L above its R? -/
def Tm.fallsB (rk : List Int) (rs : RuleL) : Bool := rs.all fun r => Tm.aboveVal rk r.1 r.2
def Tm.fallsErr (rk : List Int) (rs : RuleL) : Int := if Tm.rankErr rk = 0 then Tm.rulesErr rs else Tm.rankErr rk
def Tm.fallsVal (rk : List Int) (rs : RuleL) : Bool := if Tm.fallsErr rk rs = 0 then Tm.fallsB rk rs else false
theorem Tm.firstRule_zero {rs : RuleL} (h : Tm.firstRule rs = 0) : ∀ k, k < rs.length → Tm.ruleErr (rs[k]?.getD ([], [])).1 (rs[k]?.getD ([], [])).2 = 0 := by
  induction rs with
  | nil => intro k hk; simp at hk
  | cons r l ih =>
    rw [Tm.firstRule] at h
    by_cases h1 : Tm.ruleErr r.1 r.2 = 0
    · rw [if_pos h1] at h
      intro k hk
      cases k with
      | zero => simpa using h1
      | succ k => simpa using ih h k (by simpa using hk)
    · rw [if_neg h1] at h; exact absurd h h1
theorem Tm.rulesErr_ok {rs : RuleL} (h : Tm.rulesErr rs = 0) : rs.length ≤ 8 ∧ ∀ k, k < rs.length → Tm.ruleErr (rs[k]?.getD ([], [])).1 (rs[k]?.getD ([], [])).2 = 0 := by
  unfold Tm.rulesErr at h
  by_cases h8 : 8 < rs.length
  · rw [if_pos h8] at h; omega
  · rw [if_neg h8] at h; exact ⟨by omega, Tm.firstRule_zero h⟩
theorem Tm.ruleErr_ok {L R : List Int} (h : Tm.ruleErr L R = 0) : Tm.err L = 0 ∧ Tm.err R = 0 ∧ L.any foreignB = false ∧ R.any foreignB = false ∧ (0 : Int) ≤ L[0]?.getD 0 ∧ R.any (freeIn L) = false := by
  unfold Tm.ruleErr at h
  by_cases h1 : Tm.err L = 0
  · rw [if_pos h1] at h
    by_cases h2 : Tm.err R = 0
    · rw [if_pos h2] at h
      cases h3 : L.any foreignB with
      | true => rw [h3, if_pos rfl] at h; omega
      | false =>
        rw [h3, if_neg (by decide)] at h
        cases h4 : R.any foreignB with
        | true => rw [h4, if_pos rfl] at h; omega
        | false =>
          rw [h4, if_neg (by decide)] at h
          by_cases h5 : L[0]?.getD 0 < 0
          · rw [if_pos h5] at h; omega
          · rw [if_neg h5] at h
            cases h6 : R.any (freeIn L) with
            | true => rw [h6, if_pos rfl] at h; omega
            | false => exact ⟨h1, h2, rfl, rfl, by omega, rfl⟩
    · rw [if_neg h2] at h; exact absurd h h2
  · rw [if_neg h1] at h; exact absurd h h1
theorem fallsB_snoc {rk : List Int} {rs : RuleL} {k : Nat} (hk : k < rs.length) (h : Tm.fallsB rk (rs.take k) = true) : Tm.fallsB rk (rs.take (k + 1)) = Tm.aboveVal rk (rs[k]?.getD ([], [])).1 (rs[k]?.getD ([], [])).2 := by
  unfold Tm.fallsB at *
  rw [List.take_add_one, List.all_append, h]
  simp [hk]
theorem fallsB_no {rk : List Int} {rs : RuleL} {k : Nat} (hk : k < rs.length) (h : Tm.aboveVal rk (rs[k]?.getD ([], [])).1 (rs[k]?.getD ([], [])).2 = false) : Tm.fallsB rk rs = false := by
  rw [Bool.eq_false_iff]
  intro e
  unfold Tm.fallsB at e
  rw [List.all_eq_true] at e
  have := e rs[k] (List.getElem_mem hk)
  simp only [hk, List.getElem?_eq_getElem, Option.getD_some] at h
  rw [h] at this
  cases this

set_option maxRecDepth 100000 in
set_option maxHeartbeats 1000000 in
theorem rulesFalls_any (rk : List Int) (rs : RuleL) (ar a : Option Addr) (cr cap : Nat) (w : World) (hR : Ints w.heap.size w ar rk) (hI : RulesAt w.heap.size w a rs) :
    Calls Try.prog 18 #[.slice ar rk.length cr, .slice a rs.length cap] w fun e w' => e = .returned (.tuple #[.bool (Tm.fallsVal rk rs), .int .i64 (Tm.fallsErr rk rs)]) ∧ Below w.heap.size w w' := by
  have C1 := orderCheck_any rk ar cr w hR
  have C2 := rulesCheck_any rs a cap w hI
  by_cases h1 : Tm.rankErr rk = 0
  · rw [h1] at C1
    have he : Tm.fallsErr rk rs = Tm.rulesErr rs := by unfold Tm.fallsErr; rw [if_pos h1]
    by_cases h2 : Tm.rulesErr rs = 0
    · rw [h2] at C2
      have hv : Tm.fallsVal rk rs = Tm.fallsB rk rs := by unfold Tm.fallsVal; rw [he, if_pos h2]
      rw [hv, he, h2]
      obtain ⟨h8, hall⟩ := Tm.rulesErr_ok h2
      have h8' : (rs.length : Int) ≤ 8 := by omega
      have HA := hid (fun W (hW : Below w.heap.size w W) k (hk : k < rs.length) aL aR cL cR hL hR2 h3 h4 h5 h6 => orderAbove_any rk (rs[k]?.getD ([], [])).1 (rs[k]?.getD ([], [])).2 ar aL aR cr cL cR W ((hR.below hW).mono hW.size) hL hR2 h3 h4 h5 h6)
      have HE := hid (fun k (hk : k < rs.length) => Tm.aboveErr_of h1 (Tm.ruleErr_ok (hall k hk)).1 (Tm.ruleErr_ok (hall k hk)).2.1)
      clear he hv h1 h2 hall hR h8
      go_enter Try.func18, Try.ntmps18
      go_wp2_with fail
      refine C1.mono ?_
      rintro e w ⟨rfl, rfl⟩
      go_wp2_with fail
      refine C2.mono ?_
      rintro e w1 ⟨rfl, b1⟩
      go_wp2_with fail
      go_loopw [24] (fun v wr => ∃ k : Nat, k ≤ rs.length ∧ v = .int .i64 (k : Int) ∧ Hid (Tm.fallsB rk (rs.take k) = true) ∧ Below w.heap.size w wr) (fun v _ => rs.length - (intOf v).toNat)
      case atStart => exact ⟨0, Nat.zero_le _, rfl, hid rfl, b1⟩
      case round =>
        obtain ⟨k, hk, rfl, hst, hB⟩ := hrel
        by_cases hlt : k < rs.length
        · have hlt' : (k : Int) < (rs.length : Int) := by omega
          obtain ⟨b, off, rfl, hb, aL, cL, aR, cR, g1, g2, g3, g4, g5, g6, g7, g8⟩ := (hI.below hB) k hlt
          have hs1 := hid (fallsB_snoc hlt hst.out)
          have hs2 := hid (fun h => fallsB_no (rk := rk) hlt h)
          have he := HE.out k hlt
          have hBa : Below wr.heap.size wr (wr.alloc (.cells #[.slice aL (rs[k]?.getD ([], [])).1.length cL, .slice aR (rs[k]?.getD ([], [])).2.length cR] 39)) := (Below.refl _ wr).alloc (Nat.le_refl _) _
          have hBw := hB.trans (hBa.mono hB.size)
          have hC := hid (HA.out _ hBw k hlt aL aR cL cR (((g3.mono hB.size).below hBa).mono hBa.size) (((g4.mono hB.size).below hBa).mono hBa.size) g5 g6 g7 g8)
          rw [he] at hC
          generalize (rs[k]?.getD ([], [])).1 = L at *
          generalize (rs[k]?.getD ([], [])).2 = R at *
          clear he g3 g4 g5 g6 g7 g8
          cases hq : Tm.aboveVal rk L R with
          | true =>
            rw [hq] at hC hs1
            clear hq hs2
            go_wp2_with (first
              | (go_at_call 51; refine hC.out.mono ?_; clear hC; rintro e w2 ⟨rfl, b2⟩))
            go_roundw
            case rel => exact ⟨k + 1, by omega, by go_num, hid hs1.out, hBw.trans (b2.mono hBw.size)⟩
            case measure => simp [intOf]; omega
          | false =>
            have hno := hid (hs2.out hq)
            rw [hq] at hC
            clear hq hs1 hs2
            go_wp2_with (first
              | (go_at_call 51; refine hC.out.mono ?_; clear hC; rintro e w2 ⟨rfl, b2⟩))
            go_ret2
            exact ⟨by rw [hno.out]; rfl, hBw.trans (b2.mono hBw.size)⟩
        · obtain rfl : k = rs.length := by omega
          rw [List.take_length] at hst
          go_wp2
          go_ret2
          exact ⟨by rw [hst.out]; rfl, hB⟩
    · have hv : Tm.fallsVal rk rs = false := by unfold Tm.fallsVal; rw [he, if_neg h2]
      have hn : (Tm.rulesErr rs != 0) = true := by simpa using h2
      rw [hv, he]
      clear h1 h2 he hv hR hI
      generalize Tm.rulesErr rs = q at *
      go_enter Try.func18, Try.ntmps18
      go_wp2_with fail
      refine C1.mono ?_
      rintro e w ⟨rfl, rfl⟩
      go_wp2_with fail
      refine C2.mono ?_
      rintro e w1 ⟨rfl, b1⟩
      go_wp2
      go_ret2
      exact ⟨rfl, b1⟩
  · have he : Tm.fallsErr rk rs = Tm.rankErr rk := by unfold Tm.fallsErr; rw [if_neg h1]
    have hv : Tm.fallsVal rk rs = false := by unfold Tm.fallsVal; rw [he, if_neg h1]
    have hn : (Tm.rankErr rk != 0) = true := by simpa using h1
    rw [hv, he]
    clear h1 he hv hR hI C2
    generalize Tm.rankErr rk = q at *
    go_enter Try.func18, Try.ntmps18
    go_wp2_with fail
    refine C1.mono ?_
    rintro e w ⟨rfl, rfl⟩
    go_wp2
    go_ret2
    exact ⟨rfl, Below.refl _ _⟩

end Go.Proofs.Ytgeknojpcjadkaa

namespace Go.Proofs.Ytgeknojpcjadkaa
open Go.Proofs Go.RowKit Go.Shelf Go.Maps

def Tm.replErr (ss : List (List Int)) (t : List Int) (k : Int) (r : List Int) : Int := if Tm.applyErr ss r = 0 then Tm.putErr t k (Tm.applyVal ss r) else Tm.applyErr ss r
def Tm.replVal (ss : List (List Int)) (t : List Int) (k : Int) (r : List Int) : List Int := if Tm.applyErr ss r = 0 then Tm.putVal t k (Tm.applyVal ss r) else []

set_option maxRecDepth 100000 in
set_option maxHeartbeats 1000000 in
theorem replaced_any (ss : List (List Int)) (t r : List Int) (k : Int) (aS at' ar : Option Addr) (cs ct cr : Nat) (w : World) (hS : Subs w.heap.size w aS ss) (hT : Ints w.heap.size w at' t) (hR : Ints w.heap.size w ar r) (h1 : t.length ≤ ct) (h2 : ct ≤ maxLen) :
    Calls Try.prog 56 #[.slice at' t.length ct, .int .i64 k, .slice aS ss.length cs, .slice ar r.length cr] w fun e w' => ∃ v, e = .returned (.tuple #[v, .int .i64 (Tm.replErr ss t k r)]) ∧ New w.heap.size w' v (Tm.replVal ss t k r) ∧ Below w.heap.size w w' := by
  have C1 := apply_any ss r aS ar cs cr w hS hR
  by_cases he : Tm.applyErr ss r = 0
  · have e1 : Tm.replErr ss t k r = Tm.putErr t k (Tm.applyVal ss r) := by unfold Tm.replErr; rw [if_pos he]
    have e2 : Tm.replVal ss t k r = Tm.putVal t k (Tm.applyVal ss r) := by unfold Tm.replVal; rw [if_pos he]
    rw [e1, e2]
    rw [he] at C1
    clear e1 e2 he hS hR
    generalize Tm.applyVal ss r = u at *
    go_enter Try.func56, Try.ntmps56
    go_wp2_with fail
    refine C1.mono ?_
    rintro e w1 ⟨v1, rfl, hN1, b1⟩
    obtain ⟨x1, c1, rfl, hI1, _⟩ := New.ints hN1
    have C2 := termPut_any t u at' x1 ct c1 k w1 ((hT.below b1).mono b1.size) hI1 h1 h2
    clear C1 hN1 hI1
    go_wp2_with fail
    refine C2.mono ?_
    rintro e w2 ⟨v2, rfl, hN2, b2⟩
    clear C2
    go_wp2
    go_ret2
    exact ⟨_, rfl, hN2.mono b1.size, b1.trans (b2.mono b1.size)⟩
  · have e1 : Tm.replErr ss t k r = Tm.applyErr ss r := by unfold Tm.replErr; rw [if_neg he]
    have e2 : Tm.replVal ss t k r = [] := by unfold Tm.replVal; rw [if_neg he]
    have hn : (Tm.applyErr ss r != 0) = true := by simpa using he
    rw [e1, e2]
    clear e1 e2 he hS hR hT h1 h2
    generalize Tm.applyErr ss r = q at *
    go_enter Try.func56, Try.ntmps56
    go_wp2_with fail
    refine C1.mono ?_
    rintro e w1 ⟨v1, rfl, hN1, b1⟩
    obtain ⟨x1, c1, rfl, hI1, _⟩ := New.ints hN1
    clear C1 hN1 hI1
    go_wp2
    go_ret2
    exact ⟨_, rfl, New.nil _ _, b1⟩

/-- A step: by which rule, where, to what. -/
abbrev StepL := List (Nat × Nat × List Int)
/-- v IS A SLICE IN NEW MEMORY THAT HOLDS THESE STEPS, each term in new memory too. -/
def NewT (base : Nat) (W : World) (v : Value) (sts : StepL) : Prop :=
  ∃ us : List Value, W.ownsRow base 54 3 v sts.length us ∧ ∀ j, j < sts.length → ∃ u, us[j * 3]? = some (.int .i64 ((sts[j]?.getD (0, 0, [])).1 : Int)) ∧ us[j * 3 + 1]? = some (.int .i64 ((sts[j]?.getD (0, 0, [])).2.1 : Int)) ∧ us[j * 3 + 2]? = some u ∧ New base W u (sts[j]?.getD (0, 0, [])).2.2
theorem NewT.nil (base : Nat) (W : World) : NewT base W (.slice none 0 0) [] := ⟨[], World.ownsRow_nil _ _ _ _, fun j hj => by simp at hj⟩
theorem New.apartT {base : Nat} {W : World} {u v : Value} {t : List Int} {n : Nat} {us : List Value} (hu : New base W u t) (hv : W.ownsRow base 54 3 v n us) : u.ownBlock = none ∨ u.ownBlock ≠ v.ownBlock := by
  rcases hu.2 with ⟨rfl, _⟩ | ⟨g, cap, cur, rfl, hb, hg, r⟩
  · exact .inl rfl
  · right
    rcases hv.2 with ⟨rfl, _⟩ | ⟨g', cap', cur', rfl, hb', hg', r'⟩
    · intro e; cases e
    · intro e
      simp only [Value.ownBlock, Option.some.injEq] at e
      subst e
      rw [hg] at hg'
      simp at hg'
theorem NewT.below {base : Nat} {W W' : World} {v : Value} {sts : StepL} (h : NewT base W v sts) (hB : Below W.heap.size W W') : NewT base W' v sts := by
  obtain ⟨us, h1, h2⟩ := h
  refine ⟨us, World.ownsRow.kept h1 (grown_of_below hB) (by cases h : v.ownBlock with | none => exact .inl rfl | some k => exact .inr (by simp)), fun j hj => ?_⟩
  obtain ⟨u, a, b, c, d⟩ := h2 j hj
  exact ⟨u, a, b, c, New.below d hB⟩
theorem Try.info54 : (Try.prog.info? 54).map (fun i => (i.zero, i.size, i.bytes)) = some (some (.agg #[.int .i64 0, .int .i64 0, .slice none 0 0]), 3, 40) := by kernel_rfl

end Go.Proofs.Ytgeknojpcjadkaa

namespace Go.Proofs.Ytgeknojpcjadkaa
open Go.Proofs Go.RowKit Go.Shelf Go.Maps

/-- Does rule k fit at place a? -/
def Tm.hitB (rs : RuleL) (t : List Int) (a k : Nat) : Bool := Tm.fitIs (rs[k]?.getD ([], [])).1 (Tm.part t a)
def Tm.hitErr (rs : RuleL) (t : List Int) (a k : Nat) : Int := Tm.replErr (Tm.fitVal (rs[k]?.getD ([], [])).1 (Tm.part t a)) t (a : Int) (rs[k]?.getD ([], [])).2
def Tm.hitVal (rs : RuleL) (t : List Int) (a k : Nat) : List Int := Tm.replVal (Tm.fitVal (rs[k]?.getD ([], [])).1 (Tm.part t a)) t (a : Int) (rs[k]?.getD ([], [])).2
/-- The first error of the first n rules at a place; the steps of the first n rules there. -/
def Tm.rowE (rs : RuleL) (t : List Int) (a : Nat) : Nat → Int
  | 0 => 0
  | n + 1 => if Tm.rowE rs t a n = 0 then (if Tm.hitB rs t a n = true then Tm.hitErr rs t a n else 0) else Tm.rowE rs t a n
def Tm.rowL (rs : RuleL) (t : List Int) (a : Nat) : Nat → StepL
  | 0 => []
  | n + 1 => Tm.rowL rs t a n ++ (if Tm.hitB rs t a n = true then [(n, a, Tm.hitVal rs t a n)] else [])
/-- The first error of the first m places; the steps there. -/
def Tm.allE (rs : RuleL) (t : List Int) : Nat → Int
  | 0 => 0
  | m + 1 => if Tm.allE rs t m = 0 then Tm.rowE rs t m rs.length else Tm.allE rs t m
def Tm.allL (rs : RuleL) (t : List Int) : Nat → StepL
  | 0 => []
  | m + 1 => Tm.allL rs t m ++ Tm.rowL rs t m rs.length
/-- F2. -/
def Tm.stepErr (rs : RuleL) (t : List Int) : Int := if Tm.rulesErr rs = 0 then (if Tm.err t = 0 then Tm.allE rs t t.length else Tm.err t) else Tm.rulesErr rs
def Tm.stepVal (rs : RuleL) (t : List Int) : StepL := if Tm.stepErr rs t = 0 then Tm.allL rs t t.length else []

theorem Tm.rowE_stays {rs : RuleL} {t : List Int} {a n : Nat} (h : Tm.rowE rs t a n ≠ 0) : ∀ m, n ≤ m → Tm.rowE rs t a m = Tm.rowE rs t a n := by
  intro m hm
  induction m with
  | zero => obtain rfl : n = 0 := by omega
            rfl
  | succ m ih =>
    by_cases e : n = m + 1
    · rw [e]
    · rw [Tm.rowE, if_neg (by rw [ih (by omega)]; exact h), ih (by omega)]
theorem Tm.allE_stays {rs : RuleL} {t : List Int} {n : Nat} (h : Tm.allE rs t n ≠ 0) : ∀ m, n ≤ m → Tm.allE rs t m = Tm.allE rs t n := by
  intro m hm
  induction m with
  | zero => obtain rfl : n = 0 := by omega
            rfl
  | succ m ih =>
    by_cases e : n = m + 1
    · rw [e]
    · rw [Tm.allE, if_neg (by rw [ih (by omega)]; exact h), ih (by omega)]
/-- An error at a place is the whole's, where none was ahead of it. -/
theorem Tm.allE_stop {rs : RuleL} {t : List Int} {a n : Nat} (h0 : Tm.allE rs t a = 0) (hr : Tm.rowE rs t a n = 0) (ha : a < t.length) (hn : n < rs.length) (hb : Tm.hitB rs t a n = true) (he : Tm.hitErr rs t a n ≠ 0) :
    Tm.allE rs t t.length = Tm.hitErr rs t a n := by
  have e1 : Tm.rowE rs t a (n + 1) = Tm.hitErr rs t a n := by rw [Tm.rowE, if_pos hr, if_pos hb]
  have e2 : Tm.rowE rs t a rs.length = Tm.hitErr rs t a n := by rw [Tm.rowE_stays (by rw [e1]; exact he) rs.length (by omega), e1]
  have e3 : Tm.allE rs t (a + 1) = Tm.hitErr rs t a n := by rw [Tm.allE, if_pos h0, e2]
  rw [Tm.allE_stays (by rw [e3]; exact he) t.length (by omega), e3]
theorem Tm.allE_next {rs : RuleL} {t : List Int} {a : Nat} (h0 : Tm.allE rs t a = 0) (hr : Tm.rowE rs t a rs.length = 0) : Tm.allE rs t (a + 1) = 0 := by rw [Tm.allE, if_pos h0, hr]
theorem Tm.rowE_no {rs : RuleL} {t : List Int} {a n : Nat} (hr : Tm.rowE rs t a n = 0) (hb : Tm.hitB rs t a n = false) : Tm.rowE rs t a (n + 1) = 0 := by rw [Tm.rowE, if_pos hr, hb, if_neg (by decide)]
theorem Tm.rowE_yes {rs : RuleL} {t : List Int} {a n : Nat} (hr : Tm.rowE rs t a n = 0) (hb : Tm.hitB rs t a n = true) (he : Tm.hitErr rs t a n = 0) : Tm.rowE rs t a (n + 1) = 0 := by rw [Tm.rowE, if_pos hr, if_pos hb, he]
theorem Tm.rowL_no {rs : RuleL} {t : List Int} {a n : Nat} (hb : Tm.hitB rs t a n = false) : Tm.rowL rs t a (n + 1) = Tm.rowL rs t a n := by rw [Tm.rowL, hb, if_neg (by decide), List.append_nil]
theorem Tm.rowL_yes {rs : RuleL} {t : List Int} {a n : Nat} (hb : Tm.hitB rs t a n = true) : Tm.rowL rs t a (n + 1) = Tm.rowL rs t a n ++ [(n, a, Tm.hitVal rs t a n)] := by rw [Tm.rowL, if_pos hb]
theorem Tm.rowL_le (rs : RuleL) (t : List Int) (a : Nat) : ∀ n, (Tm.rowL rs t a n).length ≤ n := by
  intro n
  induction n with
  | zero => simp [Tm.rowL]
  | succ n ih =>
    rw [Tm.rowL, List.length_append]
    split
    · simp only [List.length_cons, List.length_nil]; omega
    · simp only [List.length_nil]; omega
theorem Tm.allL_le (rs : RuleL) (t : List Int) : ∀ m, (Tm.allL rs t m).length ≤ m * rs.length := by
  intro m
  induction m with
  | zero => simp [Tm.allL]
  | succ m ih =>
    rw [Tm.allL, List.length_append, Nat.succ_mul]
    have := Tm.rowL_le rs t m rs.length
    omega

theorem Tm.applied_put_le {t u : List Int} {a : Nat} : u.length ≤ (Tm.put t a u).length := by unfold Tm.put; simp only [List.length_append]; omega
theorem insideB_place {t : List Int} {a : Nat} (ha : a < t.length) : insideB (a : Int) 0 ((t.length : Int) - 1) = true := by rw [insideB_iff]; omega
/-- What comes of a rule that fits, in plain words. -/
theorem Tm.repl_fit {L R t : List Int} {a : Nat} {m : Asg} (hL : Tm.err L = 0) (hR : Tm.err R = 0) (ht : Tm.err t = 0) (ha : a < t.length) (hf : Tm.fit L (Tm.part t a) = some m) :
    Tm.replErr (Tm.fitL m 8) t (a : Int) R = (if 30 < (Tm.put t a (Tm.applied (Tm.fitL m 8) R)).length then 2 else 0) ∧
      Tm.replVal (Tm.fitL m 8) t (a : Int) R = (if 30 < (Tm.put t a (Tm.applied (Tm.fitL m 8) R)).length then [] else Tm.put t a (Tm.applied (Tm.fitL m 8) R)) := by
  have hs := Tm.subErr_fitL hL (Tm.part_err ht ha) hf
  obtain ⟨e1, e2⟩ := Tm.apply_ok hs hR
  have hle := Tm.applied_put_le (t := t) (u := Tm.applied (Tm.fitL m 8) R) (a := a)
  by_cases h30 : 30 < (Tm.applied (Tm.fitL m 8) R).length
  · rw [if_pos h30] at e1
    have h2 : ¬ (2 : Int) = 0 := by decide
    refine ⟨?_, ?_⟩
    · unfold Tm.replErr; rw [e1, if_neg h2, if_pos (by omega)]
    · unfold Tm.replVal; rw [e1, if_neg h2, if_pos (by omega)]
  · rw [if_neg h30] at e1 e2
    have hu := Tm.err_applied (Terms.of hs) hR (by omega)
    unfold Tm.replErr Tm.replVal
    rw [e1, if_pos rfl, if_pos rfl, e2, Tm.putErr_in ht hu (insideB_place ha), Tm.putVal_in ht hu (insideB_place ha)]
    exact ⟨rfl, rfl⟩
theorem Tm.hitB_fit {rs : RuleL} {t : List Int} {a k : Nat} (hL : Tm.err (rs[k]?.getD ([], [])).1 = 0) (ht : Tm.err t = 0) (ha : a < t.length) : Tm.hitB rs t a k = (Tm.fit (rs[k]?.getD ([], [])).1 (Tm.part t a)).isSome := by
  unfold Tm.hitB Tm.fitIs
  rw [if_pos (Tm.fitErr_of hL (Tm.part_err ht ha))]
theorem Tm.hit_fit {rs : RuleL} {t : List Int} {a k : Nat} {m : Asg} (hL : Tm.err (rs[k]?.getD ([], [])).1 = 0) (hR : Tm.err (rs[k]?.getD ([], [])).2 = 0) (ht : Tm.err t = 0) (ha : a < t.length) (hf : Tm.fit (rs[k]?.getD ([], [])).1 (Tm.part t a) = some m) :
    Tm.hitErr rs t a k = (if 30 < (Tm.put t a (Tm.applied (Tm.fitL m 8) (rs[k]?.getD ([], [])).2)).length then 2 else 0) ∧
      Tm.hitVal rs t a k = (if 30 < (Tm.put t a (Tm.applied (Tm.fitL m 8) (rs[k]?.getD ([], [])).2)).length then [] else Tm.put t a (Tm.applied (Tm.fitL m 8) (rs[k]?.getD ([], [])).2)) := by
  unfold Tm.hitErr Tm.hitVal
  rw [(Tm.fit_yes (Tm.fitErr_of hL (Tm.part_err ht ha)) hf).2]
  exact Tm.repl_fit hL hR ht ha hf

end Go.Proofs.Ytgeknojpcjadkaa
