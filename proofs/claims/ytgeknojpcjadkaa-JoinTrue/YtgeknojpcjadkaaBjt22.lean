/-
  PLAIN MATHEMATICS: what meeting answers; what makes two terms the same, as a list. · unify.Meet, unify.All. · hasplaw.unifyBegun. · Lists of pairs in new memory: what keeps them; one more behind them, within a round. · Which places are passed over; what stands while pairs come. · pairs.laps.
-/
import Derived.Test.YtgeknojpcjadkaaBjt21
import Derived.Test.YtgeknojpcjadkaaBjt5
import Derived.Test.YtgeknojpcjadkaaBjt13
import Derived.OwnWalkIn
import Derived.RangeFuncBox
import Derived.Test.YtgeknojpcjadkaaBjt10
import Derived.Deep.DrawnRows
import Derived.Test.YtgeknojpcjadkaaBjt11
namespace Go.Proofs.Ytgeknojpcjadkaa
open Go.Proofs Go.RowKit Go.Shelf Go.Maps

theorem Tm.known_of {s : Int} (h1 : -8 ≤ s) (h2 : s < 6) : Tm.known s = true := by
  simp [Tm.known]
  omega
theorem Tm.firstErr_of {ss : List (List Int)} (h : ∀ k, k < ss.length → Tm.err (ss[k]?.getD []) = 0) : Tm.firstErr ss = 0 := by
  induction ss with
  | nil => rfl
  | cons t l ih =>
    rw [Tm.firstErr, if_pos (by simpa using h 0 (by simp))]
    exact ih fun k hk => by simpa using h (k + 1) (by simpa using hk)
/-- What the eight variables become. -/
def Tm.sbL (σ : Wb.Sb) : List (List Int) := (List.range 8).map fun i : Nat => σ (-1 - (i : Int))
theorem Tm.sbL_length (σ : Wb.Sb) : (Tm.sbL σ).length = 8 := by simp [Tm.sbL]
theorem Tm.sbL_at (σ : Wb.Sb) {i : Nat} (h : i < 8) : (Tm.sbL σ)[i]?.getD [] = σ (-1 - (i : Int)) := by
  unfold Tm.sbL
  rw [List.getElem?_map, List.getElem?_range h]
  rfl
theorem Tm.sbL_congr {σ τ : Wb.Sb} (h : ∀ v, -8 ≤ v → v < 0 → σ v = τ v) : Tm.sbL σ = Tm.sbL τ := by
  unfold Tm.sbL
  refine List.map_congr_left fun i hi => ?_
  have := List.mem_range.1 hi
  exact h _ (by omega) (by omega)
theorem Tm.piece_sbL (σ : Wb.Sb) {s : Int} (h8 : -8 ≤ s) : Tm.piece (Tm.sbL σ) s = if s < 0 then σ s else [s] := by
  unfold Tm.piece
  by_cases hs : s < 0
  · rw [if_pos hs, if_pos hs, Tm.sbL_at σ (by omega), show -1 - (((-1 - s).toNat : Nat) : Int) = s from by omega]
  · rw [if_neg hs, if_neg hs]
theorem Tm.applied_sbL (σ : Wb.Sb) : ∀ (t : List Int), t.all Tm.known = true → Tm.applied (Tm.sbL σ) t = Wb.App σ t := by
  intro t
  induction t with
  | nil => intro _; rfl
  | cons s l ih =>
    intro h
    rw [List.all_cons, Bool.and_eq_true] at h
    rw [Tm.applied_cons, Wb.App_cons, ih h.2, Tm.piece_sbL σ (Tm.known_ge h.1)]
/-- A list as what variables become. -/
def Tm.ofL (us : List (List Int)) (s : Int) : List Int := if -8 ≤ s then us[(-1 - s).toNat]?.getD [] else [s]
theorem Tm.ofL_at (us : List (List Int)) {i : Nat} (h : i < 8) : Tm.ofL us (-1 - (i : Int)) = us[i]?.getD [] := by
  unfold Tm.ofL
  rw [if_pos (by omega), show (-1 - (-1 - (i : Int))).toNat = i from by omega]
theorem Tm.sbL_ofL {us : List (List Int)} (h : us.length = 8) : Tm.sbL (Tm.ofL us) = us := by
  refine List.ext_getElem (by rw [Tm.sbL_length, h]) fun i h1 h2 => ?_
  rw [Tm.sbL_length] at h1
  have e := Tm.sbL_at (Tm.ofL us) h1
  rw [Tm.ofL_at us h1] at e
  rw [List.getElem?_eq_getElem (by rw [Tm.sbL_length]; exact h1), List.getElem?_eq_getElem h2] at e
  exact e
theorem Tm.ofL_term {us : List (List Int)} (h : Tm.subErr us = 0) : Wb.TermSb (Tm.ofL us) := fun s hs => by
  unfold Tm.ofL
  obtain ⟨h1, h2⟩ := Tm.subErr_ok h
  by_cases h8 : -8 ≤ s
  · rw [if_pos h8]
    exact Tm.err_run (Tm.firstErr_all h2 _ (by omega))
  · rw [if_neg h8]
    have : Tm.room s = 0 := Wb.room_var hs
    rw [show (1 : Nat) = 0 + 1 from rfl, Tm.run_cons, this, Tm.run_zero]
    rfl

/-- WHAT MEETING ANSWERS: the error, whether something comes, and what. -/
def Tm.MeetSays (ps : PairL) (er : Int) (is : Bool) (val : List (List Int)) : Prop :=
  (Tm.firstPair ps ≠ 0 ∧ er = Tm.firstPair ps ∧ is = false ∧ val = []) ∨
  (Tm.firstPair ps = 0 ∧ (∀ θ, Wb.TermSb θ → ¬ Wb.Same ps ps.length θ) ∧ er = 0 ∧ is = false ∧ val = []) ∨
  (Tm.firstPair ps = 0 ∧ ∃ σ, Wb.Mgu ps σ ∧ (∀ i : Nat, i < 8 → (σ (-1 - (i : Int))).length ≤ 30) ∧ er = 0 ∧ is = true ∧ val = Tm.sbL σ) ∨
  (Tm.firstPair ps = 0 ∧ ∃ σ, Wb.Mgu ps σ ∧ (∃ i : Nat, i < 8 ∧ 30 < (σ (-1 - (i : Int))).length) ∧ er = 2 ∧ is = false ∧ val = [])
theorem Tm.MeetSays.one {ps : PairL} {er er' : Int} {is is' : Bool} {val val' : List (List Int)} (A : Tm.MeetSays ps er is val) (B : Tm.MeetSays ps er' is' val') : er = er' ∧ is = is' ∧ val = val' := by
  rcases A with ⟨a1, rfl, rfl, rfl⟩ | ⟨a1, a2, rfl, rfl, rfl⟩ | ⟨a1, σ, a2, a3, rfl, rfl, rfl⟩ | ⟨a1, σ, a2, ⟨i, hi, a3⟩, rfl, rfl, rfl⟩ <;>
  rcases B with ⟨b1, rfl, rfl, rfl⟩ | ⟨b1, b2, rfl, rfl, rfl⟩ | ⟨b1, τ, b2, b3, rfl, rfl, rfl⟩ | ⟨b1, τ, b2, ⟨j, hj, b3⟩, rfl, rfl, rfl⟩
  · exact ⟨rfl, rfl, rfl⟩
  · exact absurd b1 a1
  · exact absurd b1 a1
  · exact absurd b1 a1
  · exact absurd a1 b1
  · exact ⟨rfl, rfl, rfl⟩
  · exact absurd b2.same (a2 τ b2.term)
  · exact absurd b2.same (a2 τ b2.term)
  · exact absurd a1 b1
  · exact absurd a2.same (b2 σ a2.term)
  · exact ⟨rfl, rfl, Tm.sbL_congr (a2.one b2)⟩
  · have := a2.one b2 (-1 - (j : Int)) (by omega) (by omega)
    have h := a3 j hj
    rw [this] at h
    omega
  · exact absurd a1 b1
  · exact absurd a2.same (b2 σ a2.term)
  · have := a2.one b2 (-1 - (i : Int)) (by omega) (by omega)
    have h := b3 i hi
    rw [← this] at h
    omega
  · exact ⟨rfl, rfl, rfl⟩
theorem Wb.Mgu.errs {ps : PairL} {σ : Wb.Sb} (M : Wb.Mgu ps σ) (h : ∀ i : Nat, i < 8 → (σ (-1 - (i : Int))).length ≤ 30) : Tm.subErr (Tm.sbL σ) = 0 := by
  have h1 : Tm.firstErr (Tm.sbL σ) = 0 := by
    refine Tm.firstErr_of fun i hi => ?_
    rw [Tm.sbL_length] at hi
    rw [Tm.sbL_at σ hi]
    refine Tm.err_ok (h i hi) ?_ (M.term _ (by omega))
    rw [List.all_eq_true]
    intro s hs
    obtain ⟨h1, h2⟩ := M.vars _ (by omega) (by omega) s hs
    exact Tm.known_of h1 h2
  unfold Tm.subErr
  rw [if_pos (Tm.sbL_length σ), h1]

theorem Tm.firstPair_one (a b : List Int) : Tm.firstPair [(a, b)] = Tm.pairErr a b := by
  rw [Tm.firstPair]
  by_cases h : Tm.pairErr a b = 0
  · rw [if_pos h, h]; rfl
  · rw [if_neg h]
theorem Tm.pairErr_zero {a b : List Int} : Tm.pairErr a b = 0 ↔ Tm.err a = 0 ∧ Tm.err b = 0 := by
  unfold Tm.pairErr
  by_cases h : Tm.err a = 0
  · rw [if_pos h]; exact ⟨fun e => ⟨h, e⟩, fun e => e.2⟩
  · rw [if_neg h]; exact ⟨fun e => absurd e h, fun e => absurd e.1 h⟩
/-- D2: what comes makes both the same; done twice it is done once. -/
theorem Tm.meet_true {a b : List Int} {val : List (List Int)} (A : Tm.MeetSays [(a, b)] 0 true val) : Tm.subErr val = 0 ∧ Tm.err a = 0 ∧ Tm.err b = 0 ∧ Tm.applied val a = Tm.applied val b ∧ Tm.afterErr val val = 0 ∧ Tm.afterVal val val = val := by
  rcases A with ⟨_, _, h, _⟩ | ⟨_, _, _, h, _⟩ | ⟨a1, σ, M, h30, _, _, rfl⟩ | ⟨_, σ, _, _, _, h, _⟩
  · cases h
  · cases h
  · rw [Tm.firstPair_one, Tm.pairErr_zero] at a1
    have hs := M.errs h30
    have hss : Tm.afterL (Tm.sbL σ) (Tm.sbL σ) = Tm.sbL σ := by
      unfold Tm.afterL
      rw [Tm.sbL, List.map_map]
      refine List.map_congr_left fun i hi => ?_
      have := List.mem_range.1 hi
      show Tm.applied (Tm.sbL σ) (σ _) = σ _
      rw [Tm.applied_sbL σ _ (by
        rw [List.all_eq_true]
        intro s hs
        obtain ⟨h1, h2⟩ := M.vars _ (by omega) (by omega) s hs
        exact Tm.known_of h1 h2)]
      exact (M.most σ M.term M.same _ (by omega) (by omega)).symm
    have he : Tm.afterErr (Tm.sbL σ) (Tm.sbL σ) = 0 := by
      unfold Tm.afterErr
      rw [if_pos hs, if_pos hs, if_pos]
      rw [List.all_eq_true]
      intro t ht
      have hm : Tm.applied (Tm.sbL σ) t ∈ Tm.afterL (Tm.sbL σ) (Tm.sbL σ) := List.mem_map_of_mem ht
      rw [hss] at hm
      unfold Tm.fits
      rw [decide_eq_true_eq]
      obtain ⟨i, hi, e⟩ := List.mem_map.1 hm
      rw [← e]
      exact h30 i (List.mem_range.1 hi)
    refine ⟨hs, a1.1, a1.2, ?_, he, by unfold Tm.afterVal; rw [if_pos he, hss]⟩
    rw [Tm.applied_sbL σ a (Tm.err_all a1.1), Tm.applied_sbL σ b (Tm.err_all a1.2)]
    exact M.same 0 (by simp)
  · cases h
/-- unify.meet's answer in one form. -/
theorem MeetAns.says {ps : PairL} {W : World} {e : Ending} (h : MeetAns ps W e) : ∃ er is val a, Tm.MeetSays ps er is val ∧ e = .returned (.tuple #[.slice a val.length val.length, .bool is, .int .i64 er]) ∧ Subs W.heap.size W a val := by
  rcases h with ⟨h1, rfl⟩ | ⟨h1, ⟨h2, rfl⟩ | ⟨σ, M, ⟨h30, a, rfl, hS⟩ | ⟨h30, rfl⟩⟩⟩
  · exact ⟨_, _, [], none, .inl ⟨h1, rfl, rfl, rfl⟩, rfl, Subs.nil _ _ _⟩
  · exact ⟨_, _, [], none, .inr (.inl ⟨h1, h2, rfl, rfl, rfl⟩), rfl, Subs.nil _ _ _⟩
  · exact ⟨_, _, Tm.sbL σ, a, .inr (.inr (.inl ⟨h1, σ, M, h30, rfl, rfl, rfl⟩)), by rw [Tm.sbL_length], hS⟩
  · exact ⟨_, _, [], none, .inr (.inr (.inr ⟨h1, σ, M, h30, rfl, rfl, rfl⟩)), rfl, Subs.nil _ _ _⟩

end Go.Proofs.Ytgeknojpcjadkaa

namespace Go.Proofs.Ytgeknojpcjadkaa
open Go.Proofs Go.RowKit Go.Shelf Go.Maps

set_option maxRecDepth 100000 in
set_option maxHeartbeats 1000000 in
theorem Meet_any (a b : List Int) (aa ab : Option Addr) (ca cb : Nat) (w : World) (hA : Ints w.heap.size w aa a) (hB : Ints w.heap.size w ab b) (ha1 : a.length ≤ ca) (ha2 : ca ≤ maxLen) (hb1 : b.length ≤ cb) (hb2 : cb ≤ maxLen) :
    Calls Try.prog 82 #[.slice aa a.length ca, .slice ab b.length cb] w fun e w' => Below w.heap.size w w' ∧ ∃ er is val x, Tm.MeetSays [(a, b)] er is val ∧ e = .returned (.tuple #[.slice x val.length val.length, .bool is, .int .i64 er]) ∧ Subs w'.heap.size w' x val := by
  have hBl : Below w.heap.size w (w.alloc (.cells #[.slice aa a.length ca, .slice ab b.length cb] 42)) := (Below.refl _ w).alloc (Nat.le_refl _) _
  have blk : (w.alloc (.cells #[.slice aa a.length ca, .slice ab b.length cb] 42)).heap[w.heap.size]? = some (.cells #[.slice aa a.length ca, .slice ab b.length cb] 42) := World.alloc_heap_new w _
  have hR : RulesAt (w.alloc (.cells #[.slice aa a.length ca, .slice ab b.length cb] 42)).heap.size (w.alloc (.cells #[.slice aa a.length ca, .slice ab b.length cb] 42)) (some ⟨w.heap.size, 0, none⟩) [(a, b)] := by
    intro k hk
    obtain rfl : k = 0 := by simp at hk; omega
    exact ⟨w.heap.size, 0, rfl, by simp, aa, ca, ab, cb, (cell_at blk 0).trans rfl, (cell_at blk 1).trans rfl, (hA.below hBl).mono hBl.size, (hB.below hBl).mono hBl.size, ha1, ha2, hb1, hb2⟩
  have hM := hid (meet_any [(a, b)] (by simp) (some ⟨w.heap.size, 0, none⟩) 1 _ hR)
  have HB := hid hBl
  clear hR blk hA hB hBl
  go_enter Try.func82, Try.ntmps82
  go_wp2_with fail
  refine hM.out.mono ?_
  rintro e w2 ⟨hB2, hAns⟩
  obtain ⟨er, is, val, x, hs, rfl, hS⟩ := hAns.says
  have Hs := hid hs
  have HS := hid hS
  clear hM hAns hs hS
  go_wp2
  go_ret3
  exact ⟨HB.out.trans (hB2.mono HB.out.size), er, is, val, x, Hs.out, rfl, HS.out⟩

end Go.Proofs.Ytgeknojpcjadkaa

namespace Go.Proofs.Ytgeknojpcjadkaa
open Go.Proofs Go.RowKit Go.Shelf Go.Maps

/-- Terms that open the same list are the same. -/
theorem Wb.split {x y r s : List Int} (hx : Tm.run x 1 = x.length) (hy : Tm.run y 1 = y.length) (h : x ++ r = y ++ s) : x = y ∧ r = s := by
  have h1 := Tm.run_app x r 1 (by omega)
  have h2 := Tm.run_app y s 1 (by omega)
  rw [h, h2, hx, hy] at h1
  exact List.append_inj h h1.symm
theorem Wb.App1 (θ : Wb.Sb) {v : Int} (h : v < 0) : Wb.App θ [v] = θ v := by rw [Wb.App_cons, if_pos h, Wb.App_nil, List.append_nil]

def Tm.mv1 : List (List Int) := [[2, -2], [-2], [2, -2], [-4], [-5], [-6], [-7], [-8]]
def Tm.mv3 : List (List Int) := [[-1], [-2], [-2], [-4], [-2], [-6], [-7], [-8]]
theorem Try.info42 : (Try.prog.info? 42).map (fun i => (i.zero, i.size, i.bytes)) = some (some (.agg #[.slice none 0 0, .slice none 0 0]), 2, 48) := by kernel_rfl
end Go.Proofs.Ytgeknojpcjadkaa

namespace Go.Proofs.Ytgeknojpcjadkaa
open Go.Proofs Go.RowKit Go.Shelf Go.Maps

/-- v IS A SLICE IN NEW MEMORY THAT HOLDS THESE PAIRS, each term in new memory too. -/
def NewP (base : Nat) (W : World) (v : Value) (ps : PairL) : Prop :=
  ∃ us : List Value, W.ownsRow base 42 2 v ps.length us ∧ ∀ j, j < ps.length → ∃ u u', us[j * 2]? = some u ∧ us[j * 2 + 1]? = some u' ∧ New base W u (ps[j]?.getD ([], [])).1 ∧ New base W u' (ps[j]?.getD ([], [])).2
theorem NewP.nil (base : Nat) (W : World) : NewP base W (.slice none 0 0) [] := ⟨[], World.ownsRow_nil _ _ _ _, fun j hj => by simp at hj⟩
theorem New.apartP {base : Nat} {W : World} {u v : Value} {t : List Int} {n : Nat} {us : List Value} (hu : New base W u t) (hv : W.ownsRow base 42 2 v n us) : u.ownBlock = none ∨ u.ownBlock ≠ v.ownBlock := by
  rcases hu.2 with ⟨rfl, _⟩ | ⟨g, cap, cur, rfl, hb, hg, r⟩
  · exact .inl rfl
  · right
    rcases hv.2 with ⟨rfl, _⟩ | ⟨g', cap', cur', rfl, hb', hg', r'⟩
    · intro e; cases e
    · intro e
      simp only [Value.ownBlock, Option.some.injEq] at e
      subst e
      rw [hg] at hg'
      simp at hg'
theorem NewP.below {base : Nat} {W W' : World} {v : Value} {ps : PairL} (h : NewP base W v ps) (hB : Below W.heap.size W W') : NewP base W' v ps := by
  obtain ⟨us, h1, h2⟩ := h
  refine ⟨us, World.ownsRow.kept h1 (grown_of_below hB) (by cases h : v.ownBlock with | none => exact .inl rfl | some k => exact .inr (by simp)), fun j hj => ?_⟩
  obtain ⟨u, u', a, b, c, d⟩ := h2 j hj
  exact ⟨u, u', a, b, New.below c hB, New.below d hB⟩
theorem NewP.grown {base : Nat} {W W' : World} {v : Value} {ps : PairL} {row : Option Nat} (h : NewP base W v ps) (hg : W.grownBy W' row) (hr : ∀ k, row = some k → ∀ cs p, W.heap[k]? ≠ some (.cells cs 42 p) ∧ W.heap[k]? ≠ some (.cells cs 3 p)) : NewP base W' v ps := by
  obtain ⟨us, h1, h2⟩ := h
  refine ⟨us, h1.kept hg (row_apart h1 fun k e cs p => (hr k e cs p).1), fun j hj => ?_⟩
  obtain ⟨u, u', a, b, c, d⟩ := h2 j hj
  exact ⟨u, u', a, b, World.ownsRow.kept c hg (row_apart c fun k e cs p => (hr k e cs p).2), World.ownsRow.kept d hg (row_apart d fun k e cs p => (hr k e cs p).2)⟩
theorem NewP.set {base : Nat} {W : World} {v : Value} {ps : PairL} (h : NewP base W v ps) {B : Nat} {t : TypeId} {x : Value} (hb : Boxed W B t x) (h1 : t ≠ 42) (h2 : t ≠ 3) (y : Value) : NewP base (W.setCell ⟨B, 0, none⟩ y) v ps :=
  h.grown (grownBy_setCell' W B y) fun k e cs p => by
    cases e
    exact ⟨boxed_ne hb h1 cs p, boxed_ne hb h2 cs p⟩
theorem NewP.other {base : Nat} {W W' : World} {v : Value} {ps : PairL} {row : Option Nat} (h : NewP base W v ps) (hg : W.grownBy W' row) (hr : ∀ r, row = some r → ∃ o : Obj, W.heap[r]? = some o ∧ o.isCells = false) : NewP base W' v ps :=
  h.grown hg fun k e cs p => by
    obtain ⟨o, ho, hc⟩ := hr k e
    rw [ho]
    refine ⟨?_, ?_⟩ <;> (intro h'; simp only [Option.some.injEq] at h'; subst h'; simp [Obj.isCells] at hc)
theorem NewP.mono {base base' : Nat} {W : World} {v : Value} {ps : PairL} (h : NewP base W v ps) (hb : base' ≤ base) : NewP base' W v ps := by
  obtain ⟨us, h1, h2⟩ := h
  refine ⟨us, ⟨h1.1, h1.2.elim .inl (fun ⟨g, cap, cur, e1, e2, e3⟩ => .inr ⟨g, cap, cur, e1, Nat.le_trans hb e2, e3⟩)⟩, fun j hj => ?_⟩
  obtain ⟨u, u', a, b, c, d⟩ := h2 j hj
  exact ⟨u, u', a, b, c.mono hb, d.mono hb⟩
/-- The list's own block. -/
theorem NewP.block {base : Nat} {W : World} {v : Value} {ps : PairL} (h : NewP base W v ps) {k : Nat} (hk : v.ownBlock = some k) : base ≤ k ∧ ∃ cs p, W.heap[k]? = some (.cells cs 42 p) := by
  obtain ⟨us, h1, _⟩ := h
  rcases h1.2 with ⟨rfl, _⟩ | ⟨g, cap, cur, rfl, hb, hgb, _⟩
  · cases hk
  · obtain rfl : g = k := by simpa [Value.ownBlock] using hk
    exact ⟨hb, _, _, hgb⟩
theorem NewP.slice {base : Nat} {W : World} {v : Value} {ps : PairL} (h : NewP base W v ps) : ∃ a cap, v = .slice a ps.length cap := by
  obtain ⟨us, h1, _⟩ := h
  rcases h1.2 with ⟨rfl, h0⟩ | ⟨g, cap, cur, rfl, _⟩
  · exact ⟨none, 0, by rw [h0]⟩
  · exact ⟨_, _, rfl⟩
/-- Such a list can be read. -/
theorem NewP.at {base : Nat} {W : World} {v : Value} {ps : PairL} (h : NewP base W v ps) : ∃ a cap, v = .slice a ps.length cap ∧ RulesAt W.heap.size W a ps ∧ ps.length ≤ cap ∧ cap ≤ maxLen := by
  obtain ⟨us, h1, h2⟩ := h
  have hl : us.length = ps.length * 2 := h1.1
  rcases h1.2 with ⟨rfl, hn⟩ | ⟨g, cap, cur, rfl, hb, hgb, q1, q2, _⟩
  · refine ⟨none, 0, by rw [hn], fun k hk => by omega, by omega, by omega⟩
  · refine ⟨_, cap, rfl, fun j hj => ?_, q1, q2⟩
    obtain ⟨u, u', p1, p2, n1, n2⟩ := h2 j hj
    obtain ⟨a1, c1, rfl, i1, m1, m1'⟩ := New.ints n1
    obtain ⟨a2, c2, rfl, i2, m2, m2'⟩ := New.ints n2
    have cc := fun k hk => World.ownsRow.cellAt h1 k hk
    exact ⟨g, 0, rfl, (Array.getElem?_eq_some_iff.1 hgb).1, a1, c1, a2, c2, by rw [Nat.zero_add, cc _ (by omega), p1], by rw [Nat.zero_add, cc _ (by omega), p2], i1, i2, m1, m1', m2, m2'⟩
theorem Try.infoPairs : Try.prog.underlying 30 = some (.slice 42) := by kernel_rfl

/-- 'append(out, p)', within a round. -/
theorem wpi_append_pair {F : Fence} {n : Nat} {ops : Array Oper} {rest : List Oper} {o : Oper} {a : Act} {Q : Exit → Act → World → Prop} (w : World) (hgd : o.guard = none) (s x : Operand)
    (ho : o.op = .call { callee := .builtin .append, args := #[s, x], argTypes := #[30, 30] }) (base : Nat) (v : Value) (ps : PairL) (hs : a.eval s = v) (hN : NewP base w v ps)
    (u u2 : Value) (t t2 : List Int) (B : Nat) (hx : a.eval x = .slice (some ⟨B, 0, none⟩) 1 1) (hB0 : w.cell? ⟨B, 0, none⟩ = some u) (hB1 : w.cell? ⟨B, 1, none⟩ = some u2) (hu : New base w u t) (hu2 : New base w u2 t2) (hlen : ps.length ≤ 1000000) (hbase : base ≤ w.heap.size)
    (h : ∀ v' w', NewP base w' v' (ps ++ [(t, t2)]) → w.grownBy w' v.ownBlock → (∃ g cap, v' = .slice (some ⟨g, 0, none⟩) (ps.length + 1) cap) → wpListIn F n Try.prog ops Q rest (a.put o.dst v') w') : wpListIn F n Try.prog ops Q (o :: rest) a w := by
  obtain ⟨i0, hi, hz0, hz1, hz2⟩ := info_parts Try.info42
  obtain ⟨us, h1, h2⟩ := hN
  have hul : us.length = ps.length * 2 := h1.1
  refine wpListIn_append_own w hgd s x 30 ho base 42 i0 (.agg #[.slice none 0 0, .slice none 0 0]) 2 48 Try.infoPairs hi hz0 hz1 hz2 rfl (by decide) v ps.length us hs h1 ⟨B, 0, none⟩ 1 1 [u, u2] hx (by simp)
    (by intro j z hj
        match j, hj with
        | 0, hj => simp at hj; subst hj; rw [Go.WideShapes.add_plain]; simpa using hB0
        | 1, hj => simp at hj; subst hj; rw [Go.WideShapes.add_plain]; simpa using hB1)
    (by intro z hz; simp at hz; obtain ⟨_, _, rfl, _⟩ := New.ints hu; obtain ⟨_, _, rfl, _⟩ := New.ints hu2; rcases hz with rfl | rfl <;> rfl) (by unfold maxLen; omega) (by omega) hbase ?_
  intro v' w' hown hg _
  have hkeep : ∀ (u' : Value) (t' : List Int), New base w u' t' → New base w' u' t' := fun u' t' hN' => World.ownsRow.kept hN' hg (New.apartP hN' h1)
  refine h v' w' ⟨us ++ [u, u2], by simpa using hown, fun j hj => ?_⟩ hg (ownsRow_succ hown)
  by_cases hjl : j < ps.length
  · obtain ⟨y, y', q1, q2, n1, n2⟩ := h2 j hjl
    rw [List.getElem?_append_left hjl, List.getElem?_append_left (by omega), List.getElem?_append_left (by omega)]
    exact ⟨y, y', q1, q2, hkeep y _ n1, hkeep y' _ n2⟩
  · have hje : j = ps.length := by simp at hj; omega
    subst hje
    rw [List.getElem?_append_right (Nat.le_refl _), List.getElem?_append_right (by omega), List.getElem?_append_right (by omega), hul]
    refine ⟨u, u2, by simp, by simp, ?_, ?_⟩
    · simpa using hkeep u t hu
    · simpa using hkeep u2 t2 hu2

end Go.Proofs.Ytgeknojpcjadkaa

namespace Go.Proofs.Ytgeknojpcjadkaa
open Go.Proofs Go.RowKit Go.Shelf Go.Maps

def Tm.passB (L : List Int) (i j : Int) (m : Nat) : Bool := decide (L[m]?.getD 0 < 0) || (decide (m = 0) && decide (i = j))

set_option maxRecDepth 100000 in
set_option maxHeartbeats 1000000 in
theorem pass_any (L : List Int) (aL : Option Addr) (cL : Nat) (i j : Int) (m : Nat) (B9 B4 B5 : Nat) (w : World) (hm : m < L.length) (hI : Ints w.heap.size w aL L) (h9 : w.cell? ⟨B9, 0, none⟩ = some (.slice aL L.length cL)) (h4 : w.cell? ⟨B4, 0, none⟩ = some (.int .i64 i)) (h5 : w.cell? ⟨B5, 0, none⟩ = some (.int .i64 j)) :
    Calls Try.prog 38 #[.int .i64 (m : Int), .pointer (some ⟨B9, 0, none⟩), .pointer (some ⟨B4, 0, none⟩), .pointer (some ⟨B5, 0, none⟩)] w fun e w' => e = .returned (.bool (Tm.passB L i j m)) ∧ w' = w := by
  obtain ⟨b, off, rfl, hb, hc⟩ := hI.at (by omega)
  have hck := hc m hm
  have hm' : (m : Int) < (L.length : Int) := by omega
  have hq : Hid (Tm.passB L i j m = (decide (L[m]?.getD 0 < 0) || (decide (m = 0) && decide (i = j)))) := rfl
  clear hc hI
  generalize L[m]?.getD 0 = s at *
  by_cases hs : s < 0
  · go_enter Try.func38, Try.ntmps38
    go_wp2
    go_ret
    exact ⟨by rw [hq.out]; simp [hs], rfl⟩
  · have hs' : decide (s < 0) = false := by simpa using hs
    by_cases h0 : m = 0
    · subst h0
      rw [Nat.add_zero] at hck
      have hm0 : (0 : Int) < (L.length : Int) := by omega
      by_cases hij : i = j
      · subst hij
        go_enter Try.func38, Try.ntmps38
        go_wp2
        go_ret
        exact ⟨by rw [hq.out]; simp [hs'], rfl⟩
      · have hij' : (i == j) = false := by simpa using hij
        go_enter Try.func38, Try.ntmps38
        go_wp2
        go_ret
        exact ⟨by rw [hq.out]; simp [hs', hij], rfl⟩
    · have h0' : ((m : Int) == 0) = false := by simpa using h0
      go_enter Try.func38, Try.ntmps38
      go_wp2
      go_ret
      exact ⟨by rw [hq.out]; simp [hs', h0], rfl⟩

theorem results_boxP {fn : Func} {tmps : Array Value} {w : World} {a b B C : Nat} {ad : Option Addr} {n c : Nat} {x : Int} (h : fn.results = #[.cell a 30, .cell b 31]) (ha : tmps.getD a undef = .pointer (some ⟨B, 0, none⟩)) (hb : tmps.getD b undef = .pointer (some ⟨C, 0, none⟩))
    (hc : w.cell? ⟨B, 0, none⟩ = some (.slice ad n c)) (hd : w.cell? ⟨C, 0, none⟩ = some (.int .i64 x)) : (results fn tmps).run Try.prog w = .ok (.tuple #[.slice ad n c, .int .i64 x]) w := by
  have ha' : tmps[a]?.getD undef = .pointer (some ⟨B, 0, none⟩) := by rw [← ha]; simp
  have hb' : tmps[b]?.getD undef = .pointer (some ⟨C, 0, none⟩) := by rw [← hb]; simp
  simp only [results, h]
  simp [go_sem, ha', hb', hc, hd]

/-- What stands while pairs come. -/
structure PInv (w2 : World) (B : Nat) (tv : Value) (l : PairL) (W : World) : Prop where
  out : ∃ v, Boxed W B 30 v ∧ NewP B W v l
  bP : Boxed W (B + 1) 37 tv
  kp : Below B w2 W
theorem PInv.own {w2 X Y : World} {B D : Nat} {tv : Value} {l : PairL} {row : Option Nat} (hB : B ≤ w2.heap.size) (hD : B ≤ D) (h : PInv w2 B tv l X) (hg : X.grownBy Y row) (hr : ∀ r, row = some r → D ≤ r ∧ ∃ o : Obj, X.heap[r]? = some o ∧ o.isCells = false) : PInv w2 B tv l Y := by
  obtain ⟨⟨v, hv, hN⟩, bP, kp⟩ := h
  exact ⟨⟨v, cells_own hv hg hr, hN.other hg (fun r e => (hr r e).2)⟩, cells_own bP hg hr, ⟨hg.os.trans kp.os, hg.tape.trans kp.tape, hg.output.trans kp.output, Nat.le_trans kp.size hg.size, fun k hk => (hg.block k (by have := kp.size; omega) (fun e => by have := (hr k e.symm).1; omega)).trans (kp.block k hk)⟩⟩
theorem PInv.below {w2 W W' : World} {B : Nat} {tv : Value} {l : PairL} (hB : B ≤ w2.heap.size) (h : PInv w2 B tv l W) (hb : Below W.heap.size W W') : PInv w2 B tv l W' := by
  obtain ⟨⟨v, hv, hN⟩, bP, kp⟩ := h
  exact ⟨⟨v, (hb.block _ hv.lt).trans hv, hN.below hb⟩, (hb.block _ bP.lt).trans bP, kp.trans (hb.mono (Nat.le_trans hB kp.size))⟩
/-- One pair more. -/
theorem p_append {w2 W w' : World} {B C : Nat} {tv v v' : Value} {l : PairL} {x : List Int × List Int} {tmp : Obj} (hB : B ≤ w2.heap.size) (hv : Boxed W B 30 v) (hN : NewP B W v l) (bP : Boxed W (B + 1) 37 tv) (kp : Below B w2 W) (hN' : NewP B w' v' (l ++ [x])) (hg : (W.alloc tmp).grownBy w' v.ownBlock) :
    Boxed w' B 30 v ∧ PInv w2 B tv (l ++ [x]) (w'.setCell ⟨B, 0, none⟩ v') ∧ KeepsFrom C W (w'.setCell ⟨B, 0, none⟩ v') := by
  have hBW : B ≤ W.heap.size := Nat.le_trans hB kp.size
  have hne : ∀ {D : Nat} {e : TypeId} {y : Value}, Boxed W D e y → e ≠ 42 → some D ≠ v.ownBlock := fun hb he e' => by
    obtain ⟨_, cs, p, h⟩ := hN.block e'.symm
    exact boxed_ne hb he cs p h
  have hv1 : Boxed w' B 30 v := (hv.alloc tmp).kept hg (hne hv (by decide))
  have bP1 : Boxed w' (B + 1) 37 tv := (bP.alloc tmp).kept hg (hne bP (by decide))
  refine ⟨hv1, ⟨⟨v', hv1.set v', hN'.set hv1 (by decide) (by decide) v'⟩, (Below.heap_setCell w' ⟨B, 0, none⟩ v' (B + 1) (by show B + 1 ≠ B; omega)).trans bP1, kp.trans ?_⟩, ?_⟩
  · refine (((Below.refl B W).alloc hBW tmp).grown hg (by simp; omega) fun j ej => (hN.block ej).1).setCell (p := ⟨B, 0, none⟩) (Nat.le_refl _) v'
  · refine KeepsOthers.from (((KeepsOthers.alloc W tmp).trans (KeepsOthers.of_grownBy hg fun j o ej hj => ?_)).trans (KeepsOthers.setCell _ _ _)) C
    obtain ⟨_, cs, p, h⟩ := hN.block ej
    have h2 : (W.alloc tmp).heap[j]? = some (.cells cs 42 p) := (Below.heap_alloc W tmp j (Array.getElem?_eq_some_iff.1 h).1).trans h
    rw [h2] at hj
    cases hj
    rfl

/-- What laps has found ahead of place m. -/
inductive Tm.Laps (L1 R1 L2 R2 : List Int) (pass : Nat → Bool) : Nat → PairL → Prop
  | zero : Tm.Laps L1 R1 L2 R2 pass 0 []
  | pass {m : Nat} {l : PairL} : Tm.Laps L1 R1 L2 R2 pass m l → pass m = true → Tm.Laps L1 R1 L2 R2 pass (m + 1) l
  | no {m : Nat} {l : PairL} {val : List (List Int)} : Tm.Laps L1 R1 L2 R2 pass m l → pass m = false → Tm.MeetSays [(Tm.part L1 m, L2)] 0 false val → Tm.Laps L1 R1 L2 R2 pass (m + 1) l
  | yes {m : Nat} {l : PairL} {val : List (List Int)} : Tm.Laps L1 R1 L2 R2 pass m l → pass m = false → Tm.MeetSays [(Tm.part L1 m, L2)] 0 true val → Tm.prtErr val L1 R1 (m : Int) R2 = 0 → Tm.Laps L1 R1 L2 R2 pass (m + 1) (l ++ [Tm.prtVal val L1 R1 (m : Int) R2])
theorem Tm.Laps.len {L1 R1 L2 R2 : List Int} {pass : Nat → Bool} {m : Nat} {l : PairL} (h : Tm.Laps L1 R1 L2 R2 pass m l) : l.length ≤ m := by
  induction h with
  | zero => exact Nat.le_refl _
  | pass _ _ ih => omega
  | no _ _ _ ih => omega
  | yes _ _ _ _ ih => rw [List.length_append]; simp; omega
/-- The error that laps tells. -/
def Tm.LapsErr (L1 R1 L2 R2 : List Int) (pass : Nat → Bool) (e : Int) : Prop := e ≠ 0 ∧ ∃ m l, m < L1.length ∧ Tm.Laps L1 R1 L2 R2 pass m l ∧ pass m = false ∧ ((∃ is val, Tm.MeetSays [(Tm.part L1 m, L2)] e is val) ∨ (∃ val, Tm.MeetSays [(Tm.part L1 m, L2)] 0 true val ∧ Tm.prtErr val L1 R1 (m : Int) R2 = e))
/-- What laps answers. -/
def Tm.LapsSays (L1 R1 L2 R2 : List Int) (pass : Nat → Bool) (e : Int) (ps : PairL) : Prop := (e = 0 ∧ Tm.Laps L1 R1 L2 R2 pass L1.length ps) ∨ (Tm.LapsErr L1 R1 L2 R2 pass e ∧ ps = [])

end Go.Proofs.Ytgeknojpcjadkaa

namespace Go.Proofs.Ytgeknojpcjadkaa
open Go.Proofs Go.RowKit Go.Shelf Go.Maps

attribute [local go_sem] Oper.semAt_some
attribute [local go_sem ↓] Go.wp_at_zero Go.wp_at_succ

/-- What holds ahead of place m. -/
structure LpAt (L1 R1 L2 R2 : List Int) (pass : Nat → Bool) (w2 : World) (B : Nat) (tv : Value) (m : Nat) (W : World) : Prop where
  inv : ∃ l, Tm.Laps L1 R1 L2 R2 pass m l ∧ PInv w2 B tv l W
/-- What holds where it is left. -/
structure LpOut (L1 R1 L2 R2 : List Int) (pass : Nat → Bool) (w : World) (n : Nat) (c : Code) (W : World) : Prop where
  ret : c = .ret
  kp : Below n w W
  bad : ∃ er, Tm.LapsErr L1 R1 L2 R2 pass er ∧ Boxed W (n + 1 + 1 + 1) 30 (.slice none 0 0) ∧ Boxed W (n + 1 + 1 + 1 + 1) 31 (.int .i64 er)

theorem laps_boxes (w W5 : World) (x0 x1 y0 y1 f : Value) (hW5 : ((((w.alloc (.cells #[x0, x1] 39)).alloc (.cells #[y0, y1] 39)).alloc (.cells #[f] 82)).alloc (.cells #[.slice none 0 0] 30)).alloc (.cells #[.int .i64 0] 31) = W5) :
    Below w.heap.size w W5 ∧ Box2 W5 w.heap.size 39 x0 x1 ∧ Box2 W5 (w.heap.size + 1) 39 y0 y1 ∧ Boxed W5 (w.heap.size + 1 + 1) 82 f ∧ Boxed W5 (w.heap.size + 1 + 1 + 1) 30 (.slice none 0 0) ∧ Boxed W5 (w.heap.size + 1 + 1 + 1 + 1) 31 (.int .i64 0) ∧ W5.heap.size = w.heap.size + 1 + 1 + 1 + 1 + 1 := by
  subst hW5
  refine ⟨(((((Below.refl _ w).alloc (Nat.le_refl _) _).alloc (by simp) _).alloc (by simp; omega) _).alloc (by simp; omega) _).alloc (by simp; omega) _, ((((Box2.new w _ _ _).alloc _).alloc _).alloc _).alloc _, ?_, ?_, ?_, ?_, by simp⟩
  · have h := Box2.new (w.alloc (.cells #[x0, x1] 39)) 39 y0 y1
    rw [World.size_alloc] at h
    exact ((h.alloc _).alloc _).alloc _
  · have h := Boxed.new ((w.alloc (.cells #[x0, x1] 39)).alloc (.cells #[y0, y1] 39)) 82 f
    simp only [World.size_alloc] at h
    exact (h.alloc _).alloc _
  · have h := Boxed.new (((w.alloc (.cells #[x0, x1] 39)).alloc (.cells #[y0, y1] 39)).alloc (.cells #[f] 82)) 30 (.slice none 0 0)
    simp only [World.size_alloc] at h
    exact h.alloc _
  · have h := Boxed.new ((((w.alloc (.cells #[x0, x1] 39)).alloc (.cells #[y0, y1] 39)).alloc (.cells #[f] 82)).alloc (.cells #[.slice none 0 0] 30)) 31 (.int .i64 0)
    simpa only [World.size_alloc] using h

set_option maxRecDepth 100000 in
set_option maxHeartbeats 4000000 in
theorem laps_any (L1 R1 L2 R2 : List Int) (a1 b1 a2 b2 : Option Addr) (c1 d1 c2 d2 : Nat) (i j : Int) (B9 B4 B5 : Nat) (w : World) (hL : Tm.err L1 = 0) (hL1 : Ints w.heap.size w a1 L1) (hR1 : Ints w.heap.size w b1 R1) (hL2 : Ints w.heap.size w a2 L2) (hR2 : Ints w.heap.size w b2 R2) (k1 : L1.length ≤ c1) (k2 : c1 ≤ maxLen) (k3 : L2.length ≤ c2) (k4 : c2 ≤ maxLen)
    (h9 : w.cell? ⟨B9, 0, none⟩ = some (.slice a1 L1.length c1)) (h4 : w.cell? ⟨B4, 0, none⟩ = some (.int .i64 i)) (h5 : w.cell? ⟨B5, 0, none⟩ = some (.int .i64 j)) :
    Calls Try.prog 39 #[.agg #[.slice a1 L1.length c1, .slice b1 R1.length d1], .agg #[.slice a2 L2.length c2, .slice b2 R2.length d2], .func (.func 38) #[] #[.pointer (some ⟨B9, 0, none⟩), .pointer (some ⟨B4, 0, none⟩), .pointer (some ⟨B5, 0, none⟩)]] w fun e w' => ∃ er ps v, Tm.LapsSays L1 R1 L2 R2 (Tm.passB L1 i j) er ps ∧ e = .returned (.tuple #[v, .int .i64 er]) ∧ NewP w.heap.size w' v ps ∧ Below w.heap.size w w' := by
  obtain ⟨F, hF⟩ : ∃ F, F = Fence.wide := ⟨_, rfl⟩
  refine (callsIn_wide (n := 3)).1 ?_
  rw [← hF]
  obtain ⟨hro, hfn, hdd, hcin⟩ := wide_facts hF
  have HPl : Hid (Pl F) := by rw [hF]; exact wide_pl
  have HF := hid hF
  clear hF
  have hf1 := hfn 39
  have hf4 := hfn 54
  have hf5 := hfn 90
  have hf6 := hfn 82
  have hf7 := hfn 83
  have hf8 := hfn 38
  clear hfn
  have l30 := Tm.err_len hL
  have lpos := Tm.err_pos hL
  have l9 := lt_of_cell h9
  have l4 := lt_of_cell h4
  have l5 := lt_of_cell h5
  obtain ⟨W5, hW5⟩ : ∃ W5, ((((w.alloc (.cells #[.slice a1 L1.length c1, .slice b1 R1.length d1] 39)).alloc (.cells #[.slice a2 L2.length c2, .slice b2 R2.length d2] 39)).alloc (.cells #[.func (.func 38) #[] #[.pointer (some ⟨B9, 0, none⟩), .pointer (some ⟨B4, 0, none⟩), .pointer (some ⟨B5, 0, none⟩)]] 82)).alloc (.cells #[.slice none 0 0] 30)).alloc (.cells #[.int .i64 0] 31) = W5 := ⟨_, rfl⟩
  obtain ⟨hB5, bO1, bO2, bF, b0, b1', hs5⟩ := laps_boxes w W5 _ _ _ _ _ hW5
  have HW5 := hid hW5
  clear hW5
  have z0 : (W5.alloc (.cells #[.slice none 0 0] 30)).cell? ⟨w.heap.size, 0, none⟩ = some (.slice a1 L1.length c1) := (bO1.alloc _).cell0
  refine callsIn_of_wp_marks Try.func39 rfl hf1 ?_ hro
  simp only [Try.ntmps39, List.size_toArray, List.length_cons, List.length_nil, Nat.reduceAdd, Nat.reduceSub, Array.replicate_succ, Array.replicate_zero, List.push_toArray, List.append_toArray, List.nil_append, List.cons_append]
  gi_wp2_with fail
  rw [HW5.out]
  gi_wp2_with (first
    | ((try refine ⟨hdd _, ?_⟩); gi_at_call 54; refine (placesx_in F HPl.out _ _ _ _ _).mono ?_; rintro e w' ⟨rfl, rfl⟩))
  have hBx : Below W5.heap.size W5 ((W5.alloc (.cells #[.slice none 0 0] 30)).alloc (.cells #[.slice a1 L1.length c1] 37)) := ((Below.refl _ W5).alloc (Nat.le_refl _) _).alloc (by simp) _
  have bO := (Boxed.new W5 30 (.slice none 0 0)).alloc (.cells #[.slice a1 L1.length c1] 37)
  have bP := Boxed.new (W5.alloc (.cells #[.slice none 0 0] 30)) 37 (.slice a1 L1.length c1)
  rw [World.size_alloc] at bP
  rw [hs5] at bO bP hBx
  have I0 : LpAt L1 R1 L2 R2 (Tm.passB L1 i j) W5 (w.heap.size + 1 + 1 + 1 + 1 + 1) (.slice a1 L1.length c1) 0 ((W5.alloc (.cells #[.slice none 0 0] 30)).alloc (.cells #[.slice a1 L1.length c1] 37)) := ⟨⟨[], .zero, ⟨⟨_, bO, NewP.nil _ _⟩, bP, hBx⟩⟩⟩
  have hs7 : ((W5.alloc (.cells #[.slice none 0 0] 30)).alloc (.cells #[.slice a1 L1.length c1] 37)).heap.size = w.heap.size + 1 + 1 + 1 + 1 + 1 + 1 + 1 := by simp [hs5]
  obtain ⟨W7, hW7⟩ : ∃ W7, (W5.alloc (.cells #[.slice none 0 0] 30)).alloc (.cells #[.slice a1 L1.length c1] 37) = W7 := ⟨_, rfl⟩
  rw [hW7] at I0 hs7 ⊢
  have HL1 := hid hL1
  have HR1 := hid hR1
  have HL2 := hid hL2
  have HR2 := hid hR2
  have hl30' : (L1.length : Int) ≤ 30 := by omega
  have Hs5 := hid hs5
  have H9 := hid h9
  have H4 := hid h4
  have H5 := hid h5
  have HB5 := hid hB5
  have hnn : w.heap.size + 1 + 1 + 1 + 1 + 1 ≤ W5.heap.size := by omega
  clear hW7 bO bP hBx z0 hL1 hR1 hL2 hR2 h9 h4 h5 hs5 HW5
  refine wpIn_rangeSteps hro (by omega) (gf := 90) (lb := #[.pointer (some ⟨w.heap.size + 1 + 1 + 1 + 1 + 1 + 1, 0, none⟩)]) rfl hf5 (enters_of Try.func90 (by kernel_rfl) rfl)
    (places_steps F HPl.out _ (w.heap.size + 1 + 1 + 1 + 1 + 1 + 1) c1 a1 L1 (by omega)) (fun _ => rfl)
    (LpAt L1 R1 L2 R2 (Tm.passB L1 i j) W5 (w.heap.size + 1 + 1 + 1 + 1 + 1) (.slice a1 L1.length c1)) (LpOut L1 R1 L2 R2 (Tm.passB L1 i j) w w.heap.size) (fun _ _ => False) (.inl fun _ _ h => h)
    (by
      rintro m X Y row ⟨l, hl, inv⟩ hg hr
      exact ⟨l, hl, inv.own hnn (by omega) hg hr⟩)
    (by
      rintro c X Y row ⟨q1, kp, er, q2, q3, q4⟩ hg hr
      exact ⟨q1, ⟨hg.os.trans kp.os, hg.tape.trans kp.tape, hg.output.trans kp.output, Nat.le_trans kp.size hg.size, fun k hk => (hg.block k (by have := kp.size; omega) (fun e => by have := (hr k e.symm).1; omega)).trans (kp.block k hk)⟩, er, q2, cells_own q3 hg hr, cells_own q4 hg hr⟩)
    (fun m W hI => by
      obtain ⟨l, _, inv⟩ := hI
      have hb := HB5.out.trans (inv.kp.mono (by omega))
      exact ⟨inv.bP.cell, (HL1.out.below hb).mono hb.size⟩)
    I0
    (fun m => { tmps := #[.agg #[.slice a1 L1.length c1, .slice b1 R1.length d1], .agg #[.slice a2 L2.length c2, .slice b2 R2.length d2], .func (.func 38) #[] #[.pointer (some ⟨B9, 0, none⟩), .pointer (some ⟨B4, 0, none⟩), .pointer (some ⟨B5, 0, none⟩)], .pointer (some ⟨w.heap.size, 0, none⟩), .pointer (some ⟨w.heap.size + 1, 0, none⟩), .pointer (some ⟨w.heap.size + 1 + 1, 0, none⟩), .pointer (some ⟨w.heap.size + 1 + 1 + 1, 0, none⟩), .pointer (some ⟨w.heap.size + 1 + 1 + 1 + 1, 0, none⟩), .pointer (some ⟨w.heap.size + 1 + 1 + 1 + 1 + 1, 0, none⟩), .int .i64 (m : Int), .int .i64 (Tm.endAt L1 m : Int), undef, undef, undef, undef, .pointer (some ⟨w.heap.size, 0, none⟩), .slice a1 L1.length c1, .func (.func 90) #[] #[.pointer (some ⟨w.heap.size + 1 + 1 + 1 + 1 + 1 + 1, 0, none⟩)], .int .i64 (m : Int), .int .i64 (Tm.endAt L1 m : Int), undef, undef, undef, undef, undef, undef, undef, undef, undef, undef, undef, undef, undef, undef, undef, undef, undef, undef, undef, undef, undef, undef, undef, undef, undef, undef, undef, undef, undef, undef, undef, undef, undef, undef, undef, undef], defers := [] }) ?assign ?body ?done ?stop ?panic
  case assign =>
    intro l m W K hK
    simp only [encPl]
    gi_wp2
    exact hK
  case body =>
    rintro l m W ⟨lp, hlp, inv⟩ hm
    have hbW : Below w.heap.size w W := HB5.out.trans (inv.kp.mono (by omega))
    have hsW : W5.heap.size ≤ W.heap.size := inv.kp.size
    have cF : W.cell? ⟨w.heap.size + 1 + 1, 0, none⟩ = some (.func (.func 38) #[] #[.pointer (some ⟨B9, 0, none⟩), .pointer (some ⟨B4, 0, none⟩), .pointer (some ⟨B5, 0, none⟩)]) := (inv.kp.cell (p := ⟨w.heap.size + 1 + 1, 0, none⟩) (by show w.heap.size + 1 + 1 < w.heap.size + 1 + 1 + 1 + 1 + 1; omega)).trans bF.cell
    have c0 : W.cell? ⟨w.heap.size, 0, none⟩ = some (.slice a1 L1.length c1) := (inv.kp.cell (p := ⟨w.heap.size, 0, none⟩) (by show w.heap.size < w.heap.size + 1 + 1 + 1 + 1 + 1; omega)).trans bO1.cell0
    have c01 : W.cell? ⟨w.heap.size, 1, none⟩ = some (.slice b1 R1.length d1) := (inv.kp.cell (p := ⟨w.heap.size, 1, none⟩) (by show w.heap.size < w.heap.size + 1 + 1 + 1 + 1 + 1; omega)).trans bO1.cell1
    have c1' : W.cell? ⟨w.heap.size + 1, 0, none⟩ = some (.slice a2 L2.length c2) := (inv.kp.cell (p := ⟨w.heap.size + 1, 0, none⟩) (by show w.heap.size + 1 < w.heap.size + 1 + 1 + 1 + 1 + 1; omega)).trans bO2.cell0
    have c11 : W.cell? ⟨w.heap.size + 1, 1, none⟩ = some (.slice b2 R2.length d2) := (inv.kp.cell (p := ⟨w.heap.size + 1, 1, none⟩) (by show w.heap.size + 1 < w.heap.size + 1 + 1 + 1 + 1 + 1; omega)).trans bO2.cell1
    have Hp := hid (CallsIn.inRound l (hcin (n := 0) (pass_any L1 a1 c1 i j m B9 B4 B5 W hm ((HL1.out.below hbW).mono hbW.size) ((hbW.cell (p := ⟨B9, 0, none⟩) l9).trans H9.out) ((hbW.cell (p := ⟨B4, 0, none⟩) l4).trans H4.out) ((hbW.cell (p := ⟨B5, 0, none⟩) l5).trans H5.out))))
    have Hlp := hid hlp
    have Hinv := hid inv
    have hyes := hid (fun (h : Tm.passB L1 i j m = true) => Tm.Laps.pass hlp h)
    have hno := hid (fun (h : Tm.passB L1 i j m = false) val hs => Tm.Laps.no (val := val) hlp h hs)
    have hye := hid (fun (h : Tm.passB L1 i j m = false) val hs he => Tm.Laps.yes (val := val) hlp h hs he)
    have hbad := hid (fun (h : Tm.passB L1 i j m = false) e (h0 : e ≠ 0) hs => (⟨h0, m, lp, hm, hlp, h, hs⟩ : Tm.LapsErr L1 R1 L2 R2 (Tm.passB L1 i j) e))
    have hlen := hlp.len
    clear hlp inv
    by_cases hpass : Tm.passB L1 i j m = true
    · rw [hpass] at Hp
      have hY := hid (hyes.out hpass)
      clear hpass hyes hno hye hbad
      gi_wp2_with (first
        | ((try refine ⟨hdd _, ?_⟩); gi_at_call 38; refine Hp.out.mono ?_; clear Hp; rintro e W ⟨rfl, rfl⟩))
      exact ⟨KeepsFrom.refl _ _, ⟨lp, hY.out, Hinv.out⟩⟩
    · have hpf : Tm.passB L1 i j m = false := by simpa using hpass
      rw [hpf] at Hp
      have Hno := hid (hno.out hpf)
      have Hye := hid (hye.out hpf)
      have Hbad := hid (hbad.out hpf)
      clear hpass hpf hyes hno hye hbad
      obtain ⟨ba, oa, rfl, hba, _⟩ := HL1.out.at lpos
      have pgt := Tm.endAt_gt L1 m
      have ple := Tm.end_in hL hm
      have hpl := Tm.part_length hL hm
      have hBd : Below W.heap.size W W.drew := below_drewN (Below.refl _ W) 1
      have hbWd := hbW.trans (hBd.mono hbW.size)
      have HmC := Meet_any (Tm.part L1 m) L2 (some ⟨ba, oa + m, none⟩) a2 (c1 - m) c2 W.drew (((HL1.out.sub m _).below hbWd).mono hbWd.size) ((HL2.out.below hbWd).mono hbWd.size) (by rw [hpl]; omega) (by omega) k3 k4
      rw [hpl] at HmC
      have Hm := hid (CallsIn.inRound l (hcin (n := 0) HmC))
      have q1 : (m : Int) ≤ (Tm.endAt L1 m : Int) := by omega
      have q2 : (Tm.endAt L1 m : Int) ≤ (c1 : Int) := by omega
      have q3 : ¬ c1 - m = 0 := by omega
      have q4 : (0 : Int) ≤ (m : Int) := by omega
      have q5 : ¬ c1 = m := by omega
      have mixed : Try.prog.follows .mixedOrders = true := by kernel_rfl
      clear HmC hpl
      gi_wp2_with (first
        | ((try refine ⟨hdd _, ?_⟩); gi_at_call 38; refine Hp.out.mono ?_; clear Hp; rintro e W ⟨rfl, rfl⟩))
      have hbox : Hid (∀ X : World, PInv W5 (w.heap.size + 1 + 1 + 1 + 1 + 1) (.slice (some ⟨ba, oa, none⟩) L1.length c1) lp X → Boxed X (w.heap.size + 1 + 1 + 1) 30 (.slice none 0 0) ∧ Boxed X (w.heap.size + 1 + 1 + 1 + 1) 31 (.int .i64 0)) := fun X h => ⟨(h.kp.block _ (by omega)).trans b0, (h.kp.block _ (by omega)).trans b1'⟩
      refine wpIn_mono (Q := fun e a' W' => e = .normal ∧ ∃ er is val x, a' = { tmps := #[.agg #[.slice (some ⟨ba, oa, none⟩) L1.length c1, .slice b1 R1.length d1], .agg #[.slice a2 L2.length c2, .slice b2 R2.length d2], .func (.func 38) #[] #[.pointer (some ⟨B9, 0, none⟩), .pointer (some ⟨B4, 0, none⟩), .pointer (some ⟨B5, 0, none⟩)], .pointer (some ⟨w.heap.size, 0, none⟩), .pointer (some ⟨w.heap.size + 1, 0, none⟩), .pointer (some ⟨w.heap.size + 1 + 1, 0, none⟩), .pointer (some ⟨w.heap.size + 1 + 1 + 1, 0, none⟩), .pointer (some ⟨w.heap.size + 1 + 1 + 1 + 1, 0, none⟩), .pointer (some ⟨w.heap.size + 1 + 1 + 1 + 1 + 1, 0, none⟩), .int .i64 (m : Int), .int .i64 (Tm.endAt L1 m : Int), .slice x val.length val.length, .bool is, .int .i64 er, undef, .pointer (some ⟨w.heap.size, 0, none⟩), .slice (some ⟨ba, oa, none⟩) L1.length c1, .func (.func 90) #[] #[.pointer (some ⟨w.heap.size + 1 + 1 + 1 + 1 + 1 + 1, 0, none⟩)], .int .i64 (m : Int), .int .i64 (Tm.endAt L1 m : Int), .func (.func 38) #[] #[.pointer (some ⟨B9, 0, none⟩), .pointer (some ⟨B4, 0, none⟩), .pointer (some ⟨B5, 0, none⟩)], .int .i64 (m : Int), .bool false, .tuple #[.slice x val.length val.length, .bool is, .int .i64 er], .pointer (some ⟨w.heap.size, 0, none⟩), .slice (some ⟨ba, oa, none⟩) L1.length c1, .int .i64 (m : Int), .int .i64 (Tm.endAt L1 m : Int), .slice (some ⟨ba, oa + m, none⟩) (Tm.endAt L1 m - m) (c1 - m), .pointer (some ⟨w.heap.size + 1, 0, none⟩), .slice a2 L2.length c2, .tuple #[.slice x val.length val.length, .bool is, .int .i64 er], .slice x val.length val.length, .bool is, .int .i64 er, undef, undef, undef, undef, undef, undef, undef, undef, undef, undef, undef, undef, undef, undef, undef, undef, undef, undef, undef, undef, undef], defers := [] } ∧ Tm.MeetSays [(Tm.part L1 m, L2)] er is val ∧ Subs W'.heap.size W' x val ∧ Below W.drew.heap.size W.drew W') ?reg ?cont
      case reg =>
          refine wpIn_region_round hro (by kernel_rfl) mixed ?_
          show wpAnyIn F _ _ _ _ _ 15 (Array.replicate 15 false) _ _
          refine wpAnyIn_take (i := 0) (v := .pointer (some ⟨w.heap.size, 0, none⟩)) hro rfl (by kernel_rfl) (by kernel_rfl) (by kernel_rfl) (fun _ _ _ h => absurd h.1 (by simp)) ⟨Or.inl ⟨by rfl, fun w => by go_simp⟩, fun _ => rfl⟩ ?_
          refine wpAnyIn_take (i := 2) (v := .int .i64 (m : Int)) hro rfl (by kernel_rfl) (by kernel_rfl) (by kernel_rfl) (fun _ _ _ h => absurd h.1 (by simp)) ⟨Or.inl ⟨by rfl, fun w => by go_simp⟩, fun _ => rfl⟩ ?_
          refine wpAnyIn_take (i := 3) (v := .int .i64 (Tm.endAt L1 m : Int)) hro rfl (by kernel_rfl) (by kernel_rfl) (by kernel_rfl) (fun _ _ _ h => absurd h.1 (by simp)) ⟨Or.inl ⟨by rfl, fun w => by go_simp⟩, fun _ => rfl⟩ ?_
          refine wpAnyIn_take (i := 5) (v := .pointer (some ⟨w.heap.size + 1, 0, none⟩)) hro rfl (by kernel_rfl) (by kernel_rfl) (by kernel_rfl) (fun _ _ _ h => absurd h.1 (by simp)) ⟨Or.inl ⟨by rfl, fun w => by go_simp⟩, fun _ => rfl⟩ ?_
          refine wpAnyIn_ready (rs := [1, 6]) (by kernel_rfl) (by simp) ?_
          refine AllReadyIn.cons rfl (fun K hK => ?_) (AllReadyIn.cons rfl (fun K hK => ?_) AllReadyIn.nil)
          · go_simp
            refine hK _ _ ?_
            clear hK K
            refine wpAnyIn_take (i := 4) (v := .slice (some ⟨ba, oa + m, none⟩) (Tm.endAt L1 m - m) (c1 - m)) hro rfl (by kernel_rfl) (by kernel_rfl) (by kernel_rfl) (fun _ _ _ h => absurd h.1 (by simp)) ⟨Or.inl ⟨by rfl, fun w => by go_simp⟩, fun _ => rfl⟩ ?_
            refine wpAnyIn_ready (rs := [6]) (by kernel_rfl) (by simp) ?_
            refine AllReadyIn.cons rfl (fun K hK => ?_) AllReadyIn.nil
            go_simp
            refine hK _ _ ?_
            clear hK K
            refine wpAnyIn_ready (rs := [7]) (by kernel_rfl) (by simp) ?_
            refine AllReadyIn.cons rfl (fun K hK => ?_) AllReadyIn.nil
            go_simp
            gi_wp2_with (first | ((try refine ⟨hdd _, ?_⟩); gi_at_call 82; refine Hm.out.mono ?_; rintro e W1 ⟨hB1', er, is, val, x, hsay, rfl, hS1⟩))
            refine wpAnyIn_take (i := 8) (v := .tuple #[.slice x val.length val.length, .bool is, .int .i64 er]) hro rfl (by kernel_rfl) (by kernel_rfl) (by kernel_rfl) (fun _ _ _ h => absurd h.1 (by simp)) ⟨Or.inl ⟨by rfl, fun w => by go_simp⟩, fun _ => rfl⟩ ?_
            refine wpAnyIn_take (i := 9) (v := .slice x val.length val.length) hro rfl (by kernel_rfl) (by kernel_rfl) (by kernel_rfl) (fun _ _ _ h => absurd h.1 (by simp)) ⟨Or.inl ⟨by rfl, fun w => by go_simp⟩, fun _ => rfl⟩ ?_
            refine wpAnyIn_take (i := 10) (v := .bool is) hro rfl (by kernel_rfl) (by kernel_rfl) (by kernel_rfl) (fun _ _ _ h => absurd h.1 (by simp)) ⟨Or.inl ⟨by rfl, fun w => by go_simp⟩, fun _ => rfl⟩ ?_
            refine wpAnyIn_take (i := 11) (v := .int .i64 er) hro rfl (by kernel_rfl) (by kernel_rfl) (by kernel_rfl) (fun _ _ _ h => absurd h.1 (by simp)) ⟨Or.inl ⟨by rfl, fun w => by go_simp⟩, fun _ => rfl⟩ ?_
            refine wpAnyIn_take (i := 12) (v := .slice x val.length val.length) hro rfl (by kernel_rfl) (by kernel_rfl) (by kernel_rfl) (fun _ _ _ h => absurd h.1 (by simp)) ⟨Or.inl ⟨by rfl, fun w => by go_simp⟩, fun _ => rfl⟩ ?_
            refine wpAnyIn_take (i := 13) (v := .bool is) hro rfl (by kernel_rfl) (by kernel_rfl) (by kernel_rfl) (fun _ _ _ h => absurd h.1 (by simp)) ⟨Or.inl ⟨by rfl, fun w => by go_simp⟩, fun _ => rfl⟩ ?_
            refine wpAnyIn_ready (rs := [14]) (by kernel_rfl) (by simp) ?_
            refine AllReadyIn.cons rfl (fun K hK => ?_) AllReadyIn.nil
            go_simp
            refine hK _ _ ?_
            clear hK K
            refine wpAnyIn_done (by kernel_rfl) ?_ _
            exact ⟨rfl, er, is, val, x, rfl, hsay, hS1, hB1'⟩
          · go_simp
            refine hK _ _ ?_
            clear hK K
            refine wpAnyIn_ready (rs := [1]) (by kernel_rfl) (by simp) ?_
            refine AllReadyIn.cons rfl (fun K hK => ?_) AllReadyIn.nil
            go_simp
            refine hK _ _ ?_
            clear hK K
            refine wpAnyIn_take (i := 4) (v := .slice (some ⟨ba, oa + m, none⟩) (Tm.endAt L1 m - m) (c1 - m)) hro rfl (by kernel_rfl) (by kernel_rfl) (by kernel_rfl) (fun _ _ _ h => absurd h.1 (by simp)) ⟨Or.inl ⟨by rfl, fun w => by go_simp⟩, fun _ => rfl⟩ ?_
            refine wpAnyIn_ready (rs := [7]) (by kernel_rfl) (by simp) ?_
            refine AllReadyIn.cons rfl (fun K hK => ?_) AllReadyIn.nil
            go_simp
            gi_wp2_with (first | ((try refine ⟨hdd _, ?_⟩); gi_at_call 82; refine Hm.out.mono ?_; rintro e W1 ⟨hB1', er, is, val, x, hsay, rfl, hS1⟩))
            refine wpAnyIn_take (i := 8) (v := .tuple #[.slice x val.length val.length, .bool is, .int .i64 er]) hro rfl (by kernel_rfl) (by kernel_rfl) (by kernel_rfl) (fun _ _ _ h => absurd h.1 (by simp)) ⟨Or.inl ⟨by rfl, fun w => by go_simp⟩, fun _ => rfl⟩ ?_
            refine wpAnyIn_take (i := 9) (v := .slice x val.length val.length) hro rfl (by kernel_rfl) (by kernel_rfl) (by kernel_rfl) (fun _ _ _ h => absurd h.1 (by simp)) ⟨Or.inl ⟨by rfl, fun w => by go_simp⟩, fun _ => rfl⟩ ?_
            refine wpAnyIn_take (i := 10) (v := .bool is) hro rfl (by kernel_rfl) (by kernel_rfl) (by kernel_rfl) (fun _ _ _ h => absurd h.1 (by simp)) ⟨Or.inl ⟨by rfl, fun w => by go_simp⟩, fun _ => rfl⟩ ?_
            refine wpAnyIn_take (i := 11) (v := .int .i64 er) hro rfl (by kernel_rfl) (by kernel_rfl) (by kernel_rfl) (fun _ _ _ h => absurd h.1 (by simp)) ⟨Or.inl ⟨by rfl, fun w => by go_simp⟩, fun _ => rfl⟩ ?_
            refine wpAnyIn_take (i := 12) (v := .slice x val.length val.length) hro rfl (by kernel_rfl) (by kernel_rfl) (by kernel_rfl) (fun _ _ _ h => absurd h.1 (by simp)) ⟨Or.inl ⟨by rfl, fun w => by go_simp⟩, fun _ => rfl⟩ ?_
            refine wpAnyIn_take (i := 13) (v := .bool is) hro rfl (by kernel_rfl) (by kernel_rfl) (by kernel_rfl) (fun _ _ _ h => absurd h.1 (by simp)) ⟨Or.inl ⟨by rfl, fun w => by go_simp⟩, fun _ => rfl⟩ ?_
            refine wpAnyIn_ready (rs := [14]) (by kernel_rfl) (by simp) ?_
            refine AllReadyIn.cons rfl (fun K hK => ?_) AllReadyIn.nil
            go_simp
            refine hK _ _ ?_
            clear hK K
            refine wpAnyIn_done (by kernel_rfl) ?_ _
            exact ⟨rfl, er, is, val, x, rfl, hsay, hS1, hB1'⟩
      case cont =>
        rintro e a' W1 ⟨rfl, er, is, val, x, rfl, hsay, hS1, hB1⟩
        have hBW1 : Below W.heap.size W W1 := hBd.trans (hB1.mono (Nat.le_refl _))
        have inv1 := Hinv.out.below hnn hBW1
        have kf1 : KeepsFrom W7.heap.size W W1 := keepsFrom_below hBW1
        have hb1 := hbW.trans (hBW1.mono hbW.size)
        have hsW1 := hBW1.size
        have Hsay := hid hsay
        have HS1 := hid hS1
        clear hsay hS1 hB1 Hm
        by_cases he : er = 0
        · subst he
          cases is with
          | false =>
            gi_wp2
            exact ⟨kf1, ⟨lp, Hno.out val Hsay.out, inv1⟩⟩
          | true =>
            have e00 : W1.cell? ⟨w.heap.size, 0, none⟩ = some (.slice (some ⟨ba, oa, none⟩) L1.length c1) := (hBW1.cell (p := ⟨w.heap.size, 0, none⟩) (by show w.heap.size < _; omega)).trans c0
            have e01 : W1.cell? ⟨w.heap.size, 1, none⟩ = some (.slice b1 R1.length d1) := (hBW1.cell (p := ⟨w.heap.size, 1, none⟩) (by show w.heap.size < _; omega)).trans c01
            have e10 : W1.cell? ⟨w.heap.size + 1, 0, none⟩ = some (.slice a2 L2.length c2) := (hBW1.cell (p := ⟨w.heap.size + 1, 0, none⟩) (by show w.heap.size + 1 < _; omega)).trans c1'
            have e11 : W1.cell? ⟨w.heap.size + 1, 1, none⟩ = some (.slice b2 R2.length d2) := (hBW1.cell (p := ⟨w.heap.size + 1, 1, none⟩) (by show w.heap.size + 1 < _; omega)).trans c11
            have Hpt := hid (CallsIn.inRound l (hcin (n := 0) (parted_any val L1 R1 R2 (m : Int) (some ⟨ba, oa, none⟩) b1 a2 b2 x c1 d1 L2.length c2 d2 val.length W1 ((HL1.out.below hb1).mono hb1.size) ((HR1.out.below hb1).mono hb1.size) ((HR2.out.below hb1).mono hb1.size) HS1.out k1 k2)))
            have Hy := hid (Hye.out val Hsay.out)
            have Hbd := hid (fun e h0 h => Hbad.out e h0 (.inr ⟨val, Hsay.out, h⟩))
            clear Hno Hye Hbad
            by_cases hpe : Tm.prtErr val L1 R1 (m : Int) R2 = 0
            · rw [hpe] at Hpt
              have HY := hid (Hy.out hpe)
              clear hpe Hbd Hy
              generalize Tm.prtVal val L1 R1 (m : Int) R2 = pv at *
              obtain ⟨pX, pY⟩ := pv
              have hle := hid (show lp.length ≤ 1000000 by omega)
              gi_wp2_with (first
                | ((try refine ⟨hdd _, ?_⟩); gi_at_call 83; refine Hpt.out.mono ?_; clear Hpt; rintro e W2 ⟨v2, u2, rfl, n2, u2n, hB2⟩; obtain ⟨x8, c8, rfl, _⟩ := New.ints n2; obtain ⟨x9, c9, rfl, _⟩ := New.ints u2n; have hs2 := hB2.size; have P0 := Box2.new W2 42 (.slice x8 pX.length c8) (.slice x9 pY.length c9); have y0 := P0.cell0; have y1 := P0.cell1; have hBp : Below W2.heap.size W2 (W2.alloc (.cells #[.slice x8 pX.length c8, .slice x9 pY.length c9] 42)) := (Below.refl _ W2).alloc (Nat.le_refl _) _; have inv4 := (inv1.below hnn hB2).below hnn hBp; obtain ⟨vo, hvo, hNo⟩ := inv4.out; obtain ⟨va, vc, rfl⟩ := hNo.slice; have cO := hvo.cell; have hBx : Below (W2.alloc (.cells #[.slice x8 pX.length c8, .slice x9 pY.length c9] 42)).heap.size (W2.alloc (.cells #[.slice x8 pX.length c8, .slice x9 pY.length c9] 42)) ((W2.alloc (.cells #[.slice x8 pX.length c8, .slice x9 pY.length c9] 42)).alloc (.cells #[.slice x8 pX.length c8, .slice x9 pY.length c9] 42)) := (Below.refl _ _).alloc (Nat.le_refl _) _; have P1 := Box2.new (W2.alloc (.cells #[.slice x8 pX.length c8, .slice x9 pY.length c9] 42)) 42 (.slice x8 pX.length c8) (.slice x9 pY.length c9); rw [World.size_alloc] at P1; have e0 := P1.cell0; have e1 := P1.cell1)
                | (gi_at_builtin; (refine wpi_append_pair _ rfl _ _ rfl (w.heap.size + 1 + 1 + 1 + 1 + 1) _ lp rfl (hNo.below hBx) (.slice x8 pX.length c8) (.slice x9 pY.length c9) pX pY (W2.heap.size + 1) rfl e0 e1 (New.below (New.below (n2.mono (by omega)) hBp) hBx) (New.below (New.below (u2n.mono (by omega)) hBp) hBx) hle.out (by have := inv4.kp.size; simp; omega) ?_); intro v' w9 hN9 hg9 hs9; obtain ⟨g9, c9', rfl⟩ := hs9; have R9 := p_append (C := W7.heap.size) hnn hvo hNo inv4.bP inv4.kp hN9 hg9; have cO9 := R9.1.cell; have fO9 := R9.1.frozen))
              exact ⟨((kf1.trans (keepsFrom_below hB2)).trans (keepsFrom_below hBp)).trans R9.2.2, ⟨_, HY.out, R9.2.1⟩⟩
            · have Hbd' := hid (Hbd.out _ hpe rfl)
              have hne : (Tm.prtErr val L1 R1 (m : Int) R2 != 0) = true := by simpa using hpe
              clear hpe Hbd Hy
              generalize Tm.prtErr val L1 R1 (m : Int) R2 = q at *
              generalize Tm.prtVal val L1 R1 (m : Int) R2 = pv at *
              obtain ⟨pX, pY⟩ := pv
              gi_wp2_with (first
                | ((try refine ⟨hdd _, ?_⟩); gi_at_call 83; refine Hpt.out.mono ?_; clear Hpt; rintro e W2 ⟨v2, u2, rfl, n2, u2n, hB2⟩; obtain ⟨x8, c8, rfl, _⟩ := New.ints n2; obtain ⟨x9, c9, rfl, _⟩ := New.ints u2n; have hs2 := hB2.size; have hBp : Below W2.heap.size W2 (W2.alloc (.cells #[.slice x8 pX.length c8, .slice x9 pY.length c9] 42)) := (Below.refl _ W2).alloc (Nat.le_refl _) _; have inv4 := (inv1.below hnn hB2).below hnn hBp; have b04 : Boxed (W2.alloc (.cells #[.slice x8 pX.length c8, .slice x9 pY.length c9] 42)) (w.heap.size + 1 + 1 + 1) 30 (.slice none 0 0) := (hbox.out (W2.alloc (.cells #[.slice x8 pX.length c8, .slice x9 pY.length c9] 42)) inv4).1; have b14 : Boxed (W2.alloc (.cells #[.slice x8 pX.length c8, .slice x9 pY.length c9] 42)) (w.heap.size + 1 + 1 + 1 + 1) 31 (.int .i64 0) := (hbox.out (W2.alloc (.cells #[.slice x8 pX.length c8, .slice x9 pY.length c9] 42)) inv4).2; have k0 := b04.cell; have k1 := b14.cell; have f0 := b04.frozen; have f1 := b14.frozen; have b14' : Boxed ((W2.alloc (.cells #[.slice x8 pX.length c8, .slice x9 pY.length c9] 42)).setCell ⟨w.heap.size + 1 + 1 + 1, 0, none⟩ (.slice none 0 0)) (w.heap.size + 1 + 1 + 1 + 1) 31 (.int .i64 0) := (Below.heap_setCell (W2.alloc (.cells #[.slice x8 pX.length c8, .slice x9 pY.length c9] 42)) ⟨w.heap.size + 1 + 1 + 1, 0, none⟩ _ (w.heap.size + 1 + 1 + 1 + 1) (by show w.heap.size + 1 + 1 + 1 + 1 ≠ w.heap.size + 1 + 1 + 1; omega)).trans b14; have k1' := b14'.cell; have f1' := b14'.frozen))
              refine ⟨(((kf1.trans (keepsFrom_below hB2)).trans (keepsFrom_below hBp)).trans ((KeepsOthers.setCell _ _ _).from _)).trans ((KeepsOthers.setCell _ _ _).from _), rfl, ?_, _, Hbd'.out, ?_, ?_⟩
              · exact (((hb1.trans (hB2.mono hb1.size)).trans (hBp.mono (by have := hb1.size; omega))).setCell (p := ⟨w.heap.size + 1 + 1 + 1, 0, none⟩) (by show w.heap.size ≤ w.heap.size + 1 + 1 + 1; omega) _).setCell (p := ⟨w.heap.size + 1 + 1 + 1 + 1, 0, none⟩) (by show w.heap.size ≤ w.heap.size + 1 + 1 + 1 + 1; omega) _
              · exact (Below.heap_setCell _ ⟨w.heap.size + 1 + 1 + 1 + 1, 0, none⟩ _ (w.heap.size + 1 + 1 + 1) (by show w.heap.size + 1 + 1 + 1 ≠ w.heap.size + 1 + 1 + 1 + 1; omega)).trans (b04.set _)
              · exact b14'.set _
        · have Hb := hid (Hbad.out er he (.inl ⟨is, val, Hsay.out⟩))
          have hne : (er != 0) = true := by simpa using he
          clear he Hno Hye Hbad
          have b01 : Boxed W1 (w.heap.size + 1 + 1 + 1) 30 (.slice none 0 0) := (hbox.out W1 inv1).1
          have b11 : Boxed W1 (w.heap.size + 1 + 1 + 1 + 1) 31 (.int .i64 0) := (hbox.out W1 inv1).2
          have k0 := b01.cell
          have k1 := b11.cell
          have f0 := b01.frozen
          have f1 := b11.frozen
          have b11' : Boxed (W1.setCell ⟨w.heap.size + 1 + 1 + 1, 0, none⟩ (.slice none 0 0)) (w.heap.size + 1 + 1 + 1 + 1) 31 (.int .i64 0) := (Below.heap_setCell W1 ⟨w.heap.size + 1 + 1 + 1, 0, none⟩ _ (w.heap.size + 1 + 1 + 1 + 1) (by show w.heap.size + 1 + 1 + 1 + 1 ≠ w.heap.size + 1 + 1 + 1; omega)).trans b11
          have k1' := b11'.cell
          have f1' := b11'.frozen
          gi_wp2
          refine ⟨(kf1.trans ((KeepsOthers.setCell _ _ _).from _)).trans ((KeepsOthers.setCell _ _ _).from _), rfl, ?_, _, Hb.out, ?_, ?_⟩
          · exact ((hb1).setCell (p := ⟨w.heap.size + 1 + 1 + 1, 0, none⟩) (by show w.heap.size ≤ w.heap.size + 1 + 1 + 1; omega) _).setCell (p := ⟨w.heap.size + 1 + 1 + 1 + 1, 0, none⟩) (by show w.heap.size ≤ w.heap.size + 1 + 1 + 1 + 1; omega) _
          · exact (Below.heap_setCell _ ⟨w.heap.size + 1 + 1 + 1 + 1, 0, none⟩ _ (w.heap.size + 1 + 1 + 1) (by show w.heap.size + 1 + 1 + 1 ≠ w.heap.size + 1 + 1 + 1 + 1; omega)).trans (b01.set _)
          · exact b11'.set _
  case done =>
    rintro D W hD ⟨lp, hlp, inv⟩ hDd
    obtain ⟨v, hv, hN⟩ := inv.out
    obtain ⟨va, vc, rfl⟩ := hN.slice
    have cO := hv.cell
    have b0W : Boxed W (w.heap.size + 1 + 1 + 1) 30 (.slice none 0 0) := (inv.kp.block _ (by omega)).trans b0
    have b1W : Boxed W (w.heap.size + 1 + 1 + 1 + 1) 31 (.int .i64 0) := (inv.kp.block _ (by omega)).trans b1'
    have k0 := b0W.cell
    have k1w := b1W.cell
    have f0 := b0W.frozen
    have f1 := b1W.frozen
    have b0X := b0W.set (.slice va lp.length vc)
    have b1X : Boxed (W.setCell ⟨w.heap.size + 1 + 1 + 1, 0, none⟩ (.slice va lp.length vc)) (w.heap.size + 1 + 1 + 1 + 1) 31 (.int .i64 0) := (Below.heap_setCell W ⟨w.heap.size + 1 + 1 + 1, 0, none⟩ _ (w.heap.size + 1 + 1 + 1 + 1) (by show w.heap.size + 1 + 1 + 1 + 1 ≠ w.heap.size + 1 + 1 + 1; omega)).trans b1W
    have k1X := b1X.cell
    have f1X := b1X.frozen
    rw [hs7] at hD
    have HN := hid hN
    have Hkp := hid inv.kp
    have Hlp := hid hlp
    clear hN inv hlp
    generalize hln : lp.length = ln at *
    clear hln
    gi_wp2
    have hDd2 : ((W.setCell ⟨w.heap.size + 1 + 1 + 1, 0, none⟩ (.slice va ln vc)).setCell ⟨w.heap.size + 1 + 1 + 1 + 1, 0, none⟩ (.int .i64 0)).heap[D]? = some (.deferred (some [])) :=
      (Below.heap_setCell _ ⟨w.heap.size + 1 + 1 + 1 + 1, 0, none⟩ _ D (show D ≠ w.heap.size + 1 + 1 + 1 + 1 by omega)).trans ((Below.heap_setCell W ⟨w.heap.size + 1 + 1 + 1, 0, none⟩ _ D (show D ≠ w.heap.size + 1 + 1 + 1 by omega)).trans hDd)
    have b0Y : Boxed ((W.setCell ⟨w.heap.size + 1 + 1 + 1, 0, none⟩ (.slice va ln vc)).setCell ⟨w.heap.size + 1 + 1 + 1 + 1, 0, none⟩ (.int .i64 0)) (w.heap.size + 1 + 1 + 1) 30 (.slice va ln vc) :=
      (Below.heap_setCell _ ⟨w.heap.size + 1 + 1 + 1 + 1, 0, none⟩ _ (w.heap.size + 1 + 1 + 1) (by show w.heap.size + 1 + 1 + 1 ≠ w.heap.size + 1 + 1 + 1 + 1; omega)).trans b0X
    have b1Y := b1X.set (.int .i64 0)
    refine ⟨by simp, .inl ⟨_, _, rfl, run_takeDeferred hDd2, ?_⟩⟩
    refine ⟨_, results_boxP rfl rfl rfl ((World.cell?_of_block (a := ⟨w.heap.size + 1 + 1 + 1, 0, none⟩) (World.putObj_heap_other (show w.heap.size + 1 + 1 + 1 ≠ D by omega))).trans b0Y.cell) ((World.cell?_of_block (a := ⟨w.heap.size + 1 + 1 + 1 + 1, 0, none⟩) (World.putObj_heap_other (show w.heap.size + 1 + 1 + 1 + 1 ≠ D by omega))).trans b1Y.cell), ?_⟩
    refine ⟨0, lp, _, .inl ⟨rfl, Hlp.out⟩, rfl, ?_, ?_⟩
    · have h1 := ((HN.out.set b0W (by decide) (by decide) (.slice va ln vc)).set b1X (by decide) (by decide) (.int .i64 0)).other (grownBy_putObj' _ D (.deferred none)) (fun r e => by cases e; exact ⟨_, hDd2, rfl⟩)
      exact h1.mono (by omega)
    · have h0 := HB5.out.trans (Hkp.out.mono (by omega))
      have h1 := (h0.setCell (p := ⟨w.heap.size + 1 + 1 + 1, 0, none⟩) (by show w.heap.size ≤ w.heap.size + 1 + 1 + 1; omega) (.slice va ln vc)).setCell (p := ⟨w.heap.size + 1 + 1 + 1 + 1, 0, none⟩) (by show w.heap.size ≤ w.heap.size + 1 + 1 + 1 + 1; omega) (.int .i64 0)
      exact ⟨h1.os, h1.tape, h1.output, by have := h1.size; simpa using this, fun k hk => (World.putObj_heap_other (by omega)).trans (h1.block k hk)⟩
  case stop =>
    rintro D c W hD ⟨rfl, kp, er, hbad, c0, c1'⟩ hDd
    rw [hs7] at hD
    have k0 := c0.cell
    have k1w := c1'.cell
    gi_wp2
    refine ⟨by simp, .inl ⟨_, _, rfl, run_takeDeferred hDd, ?_⟩⟩
    refine ⟨_, results_boxP rfl rfl rfl ((World.cell?_of_block (a := ⟨w.heap.size + 1 + 1 + 1, 0, none⟩) (World.putObj_heap_other (show w.heap.size + 1 + 1 + 1 ≠ D by omega))).trans k0) ((World.cell?_of_block (a := ⟨w.heap.size + 1 + 1 + 1 + 1, 0, none⟩) (World.putObj_heap_other (show w.heap.size + 1 + 1 + 1 + 1 ≠ D by omega))).trans k1w), ?_⟩
    exact ⟨er, [], _, .inr ⟨hbad, rfl⟩, rfl, NewP.nil _ _, ⟨kp.os, kp.tape, kp.output, by have := kp.size; simpa using this, fun k hk => (World.putObj_heap_other (by omega)).trans (kp.block k hk)⟩⟩
  case panic => exact fun _ _ _ _ h => h.elim

end Go.Proofs.Ytgeknojpcjadkaa
