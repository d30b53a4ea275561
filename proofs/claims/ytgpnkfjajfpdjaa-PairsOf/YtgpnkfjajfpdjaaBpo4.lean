/-
  PLAIN MATHEMATICS of the order: 'Gt r a b': by the ranks r the term a is above b. It is an order: who is above who is above is above; nothing is above itself. · haspref.fit: tree against tree, as sign by sign. · haspref.twoErrors, haspref.fitted, haspref.FitOf. · signs.Places: the iterator over all places.
-/
import Derived.Test.YtgpnkfjajfpdjaaBpo3
import Derived.Deep.RegionHeld3
namespace Go.Proofs.Ytgpnkfjajfpdjaa
open Go.Proofs Go.RowKit Go.Shelf

/-- The first sign of a term; its part m. -/
def Tm.sym (x : List Int) : Int := x[0]?.getD 0
def Tm.kid (x : List Int) (m : Nat) : List Int := Tm.part x (Tm.pos x 0 m)

theorem Tm.kid_short {x : List Int} {m : Nat} (h : m < Tm.room (Tm.sym x)) : (Tm.kid x m).length < x.length := by
  cases x with
  | nil => simp [Tm.sym, Tm.room] at h
  | cons s l =>
    have := Tm.pos_gt (s :: l) 0 m
    simp only [Tm.kid, Tm.part, List.length_take, List.length_drop, List.length_cons]
    omega

/-- E2. -/
inductive Tm.Gt (r : Int → Int) : List Int → List Int → Prop
  | eq (a b : List Int) (m : Nat) : m < Tm.room (Tm.sym a) → Tm.kid a m = b → Tm.Gt r a b
  | sub (a b : List Int) (m : Nat) : m < Tm.room (Tm.sym a) → Tm.Gt r (Tm.kid a m) b → Tm.Gt r a b
  | rk (a b : List Int) : 0 ≤ Tm.sym a → 0 ≤ Tm.sym b → (∀ m, m < Tm.room (Tm.sym b) → Tm.Gt r a (Tm.kid b m)) → Tm.sym a ≠ Tm.sym b → r (Tm.sym b) < r (Tm.sym a) → Tm.Gt r a b
  | lex (a b : List Int) (m : Nat) : 0 ≤ Tm.sym a → Tm.sym a = Tm.sym b → (∀ m, m < Tm.room (Tm.sym b) → Tm.Gt r a (Tm.kid b m)) → m < Tm.room (Tm.sym a) → (∀ l, l < m → Tm.kid a l = Tm.kid b l) → Tm.Gt r (Tm.kid a m) (Tm.kid b m) → Tm.Gt r a b

theorem Tm.Gt.pos {r : Int → Int} {a b : List Int} (h : Tm.Gt r a b) : 0 ≤ Tm.sym a := by
  have key : ∀ m, m < Tm.room (Tm.sym a) → 0 ≤ Tm.sym a := fun m hm => by unfold Tm.room at hm; split at hm <;> (try split at hm) <;> omega
  cases h with
  | eq _ _ m hm _ => exact key m hm
  | sub _ _ m hm _ => exact key m hm
  | rk _ _ h0 _ _ _ _ => exact h0
  | lex _ _ _ h0 _ _ _ _ _ => exact h0

theorem Tm.Gt.trans_n {r : Int → Int} : ∀ (n : Nat) (a b c : List Int), a.length + b.length + c.length < n → Tm.Gt r a b → Tm.Gt r b c → Tm.Gt r a c := by
  intro n
  induction n with
  | zero => intro a b c hn; omega
  | succ n ih =>
    intro a b c hn hab hbc
    have main : (∀ m, m < Tm.room (Tm.sym b) → Tm.Gt r a (Tm.kid b m)) → 0 ≤ Tm.sym a → ((Tm.sym a ≠ Tm.sym b ∧ r (Tm.sym b) < r (Tm.sym a)) ∨ (Tm.sym a = Tm.sym b ∧ ∃ m, m < Tm.room (Tm.sym a) ∧ (∀ l, l < m → Tm.kid a l = Tm.kid b l) ∧ Tm.Gt r (Tm.kid a m) (Tm.kid b m))) → Tm.Gt r a c := by
      intro hall ha0 how
      cases hbc with
      | eq _ _ m hm e => rw [← e]; exact hall m hm
      | sub _ _ m hm h => exact ih a (Tm.kid b m) c (by have := Tm.kid_short hm; omega) (hall m hm) h
      | rk _ _ hb0 hc0 hcs hne hr =>
        have hall2 : ∀ m, m < Tm.room (Tm.sym c) → Tm.Gt r a (Tm.kid c m) := fun m hm => ih a b (Tm.kid c m) (by have := Tm.kid_short hm; omega) hab (hcs m hm)
        rcases how with ⟨h1, h2⟩ | ⟨h1, _⟩
        · refine .rk a c ha0 hc0 hall2 (fun e => ?_) (by omega)
          rw [e] at h2; omega
        · exact .rk a c ha0 hc0 hall2 (by rw [h1]; exact hne) (by rw [h1]; exact hr)
      | lex _ _ m hb0 hs hcs hm hl hk =>
        have hall2 : ∀ m, m < Tm.room (Tm.sym c) → Tm.Gt r a (Tm.kid c m) := fun m hm => ih a b (Tm.kid c m) (by have := Tm.kid_short hm; omega) hab (hcs m hm)
        rcases how with ⟨h1, h2⟩ | ⟨h1, m', hm', hl', hk'⟩
        · exact .rk a c ha0 (by omega) hall2 (by rw [← hs]; exact h1) (by rw [← hs]; exact h2)
        · rcases Nat.lt_trichotomy m m' with hlt | heq | hgt
          · exact .lex a c m ha0 (h1.trans hs) hall2 (by omega) (fun l hlm => (hl' l (by omega)).trans (hl l hlm)) (by rw [hl' m hlt]; exact hk)
          · subst heq
            refine .lex a c m ha0 (h1.trans hs) hall2 hm' (fun l hlm => (hl' l hlm).trans (hl l hlm)) (ih _ _ _ ?_ hk' hk)
            have e1 := Tm.kid_short (x := a) hm'
            have e2 := Tm.kid_short (x := b) hm
            have e3 := Tm.kid_short (x := c) (m := m) (by rw [← hs]; exact hm)
            omega
          · exact .lex a c m' ha0 (h1.trans hs) hall2 hm' (fun l hlm => (hl' l hlm).trans (hl l (by omega))) (by rw [← hl m' hgt]; exact hk')
    cases hab with
    | eq _ _ m hm e => exact .sub a c m hm (by rw [e]; exact hbc)
    | sub _ _ m hm h => exact .sub a c m hm (ih _ b c (by have := Tm.kid_short hm; omega) h hbc)
    | rk _ _ ha0 hb0 hall hne hr => exact main hall ha0 (.inl ⟨hne, hr⟩)
    | lex _ _ m ha0 hs hall hm hl hk => exact main hall ha0 (.inr ⟨hs, m, hm, hl, hk⟩)
theorem Tm.Gt.trans {r : Int → Int} {a b c : List Int} (h : Tm.Gt r a b) (h' : Tm.Gt r b c) : Tm.Gt r a c := Tm.Gt.trans_n _ a b c (Nat.lt_succ_self _) h h'

end Go.Proofs.Ytgpnkfjajfpdjaa

namespace Go.Proofs.Ytgpnkfjajfpdjaa
open Go.Proofs Go.RowKit Go.Shelf Go.Maps

/-- What fit answers. -/
def RefFit (w' : World) (e : Ending) (Bs lo hi : Nat) : Option Asg → Prop
  | none => e = .returned (.bool false)
  | some m => e = .returned (.bool true) ∧ FitS w' Bs lo hi m

theorem Keep.cell {n m : Nat} {a b : World} (h : Keep n m a b) {p : Addr} (h1 : p.block < n) (h2 : p.block ≠ m) : b.cell? p = a.cell? p := World.cell?_of_block (h.block p.block h1 h2)
theorem keep_drewN {n m : Nat} {a b : World} (h : Keep n m a b) (d : Nat) : Keep n m a (b.drewN d) := ⟨h.os, h.tape, h.output, h.size, h.block⟩

theorem TreeIn.open {lo hi : Nat} {W : World} {X : Nat} {zs : List Int} (h : TreeIn lo hi W X zs) : ∃ (s : Int) (a : Option Addr) (c : Nat) (Xs : List Nat) (zss : List (List Int)), zs = s :: zss.flatten ∧ lo ≤ X ∧ X < hi ∧ Node W X s (.slice a Xs.length c) ∧ Xs.length = Tm.room s ∧ zss.length = Xs.length ∧
    (∀ j, j < Xs.length → ∃ b off, a = some ⟨b, off, none⟩ ∧ lo ≤ b ∧ b < hi ∧ W.cell? ⟨b, off + j, none⟩ = some (ptr (Xs[j]?.getD 0))) ∧ ∀ j, j < Xs.length → TreeIn lo hi W (Xs[j]?.getD 0) (zss[j]?.getD []) := by
  cases h with
  | mk X s v Xs zss h1 h2 h3 h4 h5 h6 h7 =>
    obtain ⟨a, c, rfl, h8⟩ := h4
    exact ⟨s, a, c, Xs, zss, rfl, h1, h2, h3, h5, h6, h8, h7⟩

end Go.Proofs.Ytgpnkfjajfpdjaa

namespace Go.Proofs.Ytgpnkfjajfpdjaa
open Go.Proofs Go.RowKit Go.Shelf Go.Maps

set_option maxRecDepth 100000 in
set_option maxHeartbeats 400000 in
theorem twoErrors_any (p t : List Int) (ap at' : Option Addr) (cp ct : Nat) (w : World) (hP : Ints w.heap.size w ap p) (hT : Ints w.heap.size w at' t) :
    Calls Try.prog 44 #[.slice ap p.length cp, .slice at' t.length ct] w fun e w' => e = .returned (.int .i64 (Tm.fitErr p t)) ∧ w' = w := by
  have h1 := termError_any p ap cp w hP
  have h2 := termError_any t at' ct w hT
  by_cases he : Tm.err p = 0
  · have hf : Tm.fitErr p t = Tm.err t := by
      simp only [Tm.fitErr, Tm.firstErr, he, if_true]
      by_cases h : Tm.err t = 0 <;> simp [h]
    rw [hf]
    rw [he] at h1
    clear hf he hP hT
    generalize Tm.err t = q at *
    go_enter Try.func44, Try.ntmps44
    go_wp2_with (first
      | (go_at_call_of 21 (Value.slice ap p.length cp); refine h1.mono ?_; rintro e w ⟨rfl, rfl⟩)
      | (go_at_call_of 21 (Value.slice at' t.length ct); refine h2.mono ?_; rintro e w ⟨rfl, rfl⟩))
    go_ret
    exact ⟨rfl, rfl⟩
  · have hf : Tm.fitErr p t = Tm.err p := by simp [Tm.fitErr, Tm.firstErr, he]
    rw [hf]
    have hne : (Tm.err p != 0) = true := by simp [he]
    clear hf he hP hT h2
    generalize Tm.err p = q at *
    go_enter Try.func44, Try.ntmps44
    go_wp2_with (first
      | (go_at_call 21; refine h1.mono ?_; clear h1; rintro e w ⟨rfl, rfl⟩))
    go_ret
    exact ⟨rfl, rfl⟩

abbrev noTrees : Obj := .cells #[.pointer none, .pointer none, .pointer none, .pointer none, .pointer none, .pointer none, .pointer none, .pointer none] 152
theorem FitS.start (w : World) (lo hi : Nat) : FitS (w.alloc noTrees) w.heap.size lo hi (fun _ => none) := fun v hv => by
  have hnew := World.alloc_heap_new w noTrees
  refine ⟨by simp only [World.frozen?]; rw [hnew]; simp, .inl ⟨rfl, (cell_at hnew v).trans ?_⟩⟩
  match v, hv with
  | 0, _ => rfl
  | 1, _ => rfl
  | 2, _ => rfl
  | 3, _ => rfl
  | 4, _ => rfl
  | 5, _ => rfl
  | 6, _ => rfl
  | 7, _ => rfl

end Go.Proofs.Ytgpnkfjajfpdjaa

namespace Go.Proofs.Ytgpnkfjajfpdjaa
open Go.Proofs Go.RowKit Go.Shelf Go.Maps

attribute [local go_sem] Oper.semAt_some

/-- A place of zs. -/
abbrev PlaceOf (zs : List Int) : Type := { k : Nat // k < zs.length }
def encPlace (zs : List Int) (x : PlaceOf zs) : Array Value := #[.int .i64 (x.1 : Int), .int .i64 (Tm.endAt zs x.1 : Int)]
/-- The first m places. -/
def placesTo (zs : List Int) : Nat → List (PlaceOf zs)
  | 0 => []
  | m + 1 => if h : m < zs.length then placesTo zs m ++ [⟨m, h⟩] else placesTo zs m
end Go.Proofs.Ytgpnkfjajfpdjaa
