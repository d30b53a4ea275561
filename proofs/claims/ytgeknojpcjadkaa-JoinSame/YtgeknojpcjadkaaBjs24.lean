/-
  PLAIN MATHEMATICS: what meeting answers; what makes two terms the same, as a list. · unify.Meet, unify.All. · hasplaw.unifyBegun. · Lists of pairs in new memory: what keeps them; one more behind them, within a round. · Which places are passed over; what stands while pairs come.
-/
import Derived.Test.YtgeknojpcjadkaaBjs23
import Derived.Test.YtgeknojpcjadkaaBjs7
import Derived.Test.YtgeknojpcjadkaaBjs15
import Derived.OwnWalkIn
import Derived.RangeFuncBox
import Derived.Test.YtgeknojpcjadkaaBjs13
namespace Go.Proofs.Ytgeknojpcjadkaa
open Go.Proofs Go.RowKit Go.Shelf Go.Maps

theorem Tm.known_of {s : Int} (h1 : -8 ≤ s) (h2 : s < 6) : Tm.known s = true := by
  simp [Tm.known]
  omega
theorem Tm.firstErr_of {ss : List (List Int)} (h : ∀ k, k < ss.length → Tm.err (ss[k]?.getD []) = 0) : Tm.firstErr ss = 0 := by
  induction ss with
  | nil => rfl
  | cons t l ih =>
    rw [Tm.firstErr, if_pos (by simpa using h 0 (by simp))]
    exact ih fun k hk => by simpa using h (k + 1) (by simpa using hk)
/-- What the eight variables become. -/
def Tm.sbL (σ : Wb.Sb) : List (List Int) := (List.range 8).map fun i : Nat => σ (-1 - (i : Int))
theorem Tm.sbL_length (σ : Wb.Sb) : (Tm.sbL σ).length = 8 := by simp [Tm.sbL]
theorem Tm.sbL_at (σ : Wb.Sb) {i : Nat} (h : i < 8) : (Tm.sbL σ)[i]?.getD [] = σ (-1 - (i : Int)) := by
  unfold Tm.sbL
  rw [List.getElem?_map, List.getElem?_range h]
  rfl
theorem Tm.sbL_congr {σ τ : Wb.Sb} (h : ∀ v, -8 ≤ v → v < 0 → σ v = τ v) : Tm.sbL σ = Tm.sbL τ := by
  unfold Tm.sbL
  refine List.map_congr_left fun i hi => ?_
  have := List.mem_range.1 hi
  exact h _ (by omega) (by omega)
theorem Tm.piece_sbL (σ : Wb.Sb) {s : Int} (h8 : -8 ≤ s) : Tm.piece (Tm.sbL σ) s = if s < 0 then σ s else [s] := by
  unfold Tm.piece
  by_cases hs : s < 0
  · rw [if_pos hs, if_pos hs, Tm.sbL_at σ (by omega), show -1 - (((-1 - s).toNat : Nat) : Int) = s from by omega]
  · rw [if_neg hs, if_neg hs]
theorem Tm.applied_sbL (σ : Wb.Sb) : ∀ (t : List Int), t.all Tm.known = true → Tm.applied (Tm.sbL σ) t = Wb.App σ t := by
  intro t
  induction t with
  | nil => intro _; rfl
  | cons s l ih =>
    intro h
    rw [List.all_cons, Bool.and_eq_true] at h
    rw [Tm.applied_cons, Wb.App_cons, ih h.2, Tm.piece_sbL σ (Tm.known_ge h.1)]
/-- A list as what variables become. -/
def Tm.ofL (us : List (List Int)) (s : Int) : List Int := if -8 ≤ s then us[(-1 - s).toNat]?.getD [] else [s]
theorem Tm.ofL_at (us : List (List Int)) {i : Nat} (h : i < 8) : Tm.ofL us (-1 - (i : Int)) = us[i]?.getD [] := by
  unfold Tm.ofL
  rw [if_pos (by omega), show (-1 - (-1 - (i : Int))).toNat = i from by omega]
theorem Tm.sbL_ofL {us : List (List Int)} (h : us.length = 8) : Tm.sbL (Tm.ofL us) = us := by
  refine List.ext_getElem (by rw [Tm.sbL_length, h]) fun i h1 h2 => ?_
  rw [Tm.sbL_length] at h1
  have e := Tm.sbL_at (Tm.ofL us) h1
  rw [Tm.ofL_at us h1] at e
  rw [List.getElem?_eq_getElem (by rw [Tm.sbL_length]; exact h1), List.getElem?_eq_getElem h2] at e
  exact e
theorem Tm.applied_ofL {us : List (List Int)} (h : us.length = 8) {t : List Int} (ht : t.all Tm.known = true) : Tm.applied us t = Wb.App (Tm.ofL us) t := by
  have := Tm.applied_sbL (Tm.ofL us) t ht
  rwa [Tm.sbL_ofL h] at this
theorem Tm.ofL_term {us : List (List Int)} (h : Tm.subErr us = 0) : Wb.TermSb (Tm.ofL us) := fun s hs => by
  unfold Tm.ofL
  obtain ⟨h1, h2⟩ := Tm.subErr_ok h
  by_cases h8 : -8 ≤ s
  · rw [if_pos h8]
    exact Tm.err_run (Tm.firstErr_all h2 _ (by omega))
  · rw [if_neg h8]
    have : Tm.room s = 0 := Wb.room_var hs
    rw [show (1 : Nat) = 0 + 1 from rfl, Tm.run_cons, this, Tm.run_zero]
    rfl

/-- WHAT MEETING ANSWERS: the error, whether something comes, and what. -/
def Tm.MeetSays (ps : PairL) (er : Int) (is : Bool) (val : List (List Int)) : Prop :=
  (Tm.firstPair ps ≠ 0 ∧ er = Tm.firstPair ps ∧ is = false ∧ val = []) ∨
  (Tm.firstPair ps = 0 ∧ (∀ θ, Wb.TermSb θ → ¬ Wb.Same ps ps.length θ) ∧ er = 0 ∧ is = false ∧ val = []) ∨
  (Tm.firstPair ps = 0 ∧ ∃ σ, Wb.Mgu ps σ ∧ (∀ i : Nat, i < 8 → (σ (-1 - (i : Int))).length ≤ 30) ∧ er = 0 ∧ is = true ∧ val = Tm.sbL σ) ∨
  (Tm.firstPair ps = 0 ∧ ∃ σ, Wb.Mgu ps σ ∧ (∃ i : Nat, i < 8 ∧ 30 < (σ (-1 - (i : Int))).length) ∧ er = 2 ∧ is = false ∧ val = [])
theorem Tm.MeetSays.one {ps : PairL} {er er' : Int} {is is' : Bool} {val val' : List (List Int)} (A : Tm.MeetSays ps er is val) (B : Tm.MeetSays ps er' is' val') : er = er' ∧ is = is' ∧ val = val' := by
  rcases A with ⟨a1, rfl, rfl, rfl⟩ | ⟨a1, a2, rfl, rfl, rfl⟩ | ⟨a1, σ, a2, a3, rfl, rfl, rfl⟩ | ⟨a1, σ, a2, ⟨i, hi, a3⟩, rfl, rfl, rfl⟩ <;>
  rcases B with ⟨b1, rfl, rfl, rfl⟩ | ⟨b1, b2, rfl, rfl, rfl⟩ | ⟨b1, τ, b2, b3, rfl, rfl, rfl⟩ | ⟨b1, τ, b2, ⟨j, hj, b3⟩, rfl, rfl, rfl⟩
  · exact ⟨rfl, rfl, rfl⟩
  · exact absurd b1 a1
  · exact absurd b1 a1
  · exact absurd b1 a1
  · exact absurd a1 b1
  · exact ⟨rfl, rfl, rfl⟩
  · exact absurd b2.same (a2 τ b2.term)
  · exact absurd b2.same (a2 τ b2.term)
  · exact absurd a1 b1
  · exact absurd a2.same (b2 σ a2.term)
  · exact ⟨rfl, rfl, Tm.sbL_congr (a2.one b2)⟩
  · have := a2.one b2 (-1 - (j : Int)) (by omega) (by omega)
    have h := a3 j hj
    rw [this] at h
    omega
  · exact absurd a1 b1
  · exact absurd a2.same (b2 σ a2.term)
  · have := a2.one b2 (-1 - (i : Int)) (by omega) (by omega)
    have h := b3 i hi
    rw [← this] at h
    omega
  · exact ⟨rfl, rfl, rfl⟩
theorem Wb.Mgu.errs {ps : PairL} {σ : Wb.Sb} (M : Wb.Mgu ps σ) (h : ∀ i : Nat, i < 8 → (σ (-1 - (i : Int))).length ≤ 30) : Tm.subErr (Tm.sbL σ) = 0 := by
  have h1 : Tm.firstErr (Tm.sbL σ) = 0 := by
    refine Tm.firstErr_of fun i hi => ?_
    rw [Tm.sbL_length] at hi
    rw [Tm.sbL_at σ hi]
    refine Tm.err_ok (h i hi) ?_ (M.term _ (by omega))
    rw [List.all_eq_true]
    intro s hs
    obtain ⟨h1, h2⟩ := M.vars _ (by omega) (by omega) s hs
    exact Tm.known_of h1 h2
  unfold Tm.subErr
  rw [if_pos (Tm.sbL_length σ), h1]

/-- The other way round. -/
theorem Wb.Same.swap {a b : List Int} {θ : Wb.Sb} (h : Wb.Same [(a, b)] 1 θ) : Wb.Same [(b, a)] 1 θ := fun j hj => by
  obtain rfl : j = 0 := by omega
  exact (h 0 (by omega)).symm
theorem Wb.Mgu.swap {a b : List Int} {σ : Wb.Sb} (M : Wb.Mgu [(a, b)] σ) : Wb.Mgu [(b, a)] σ :=
  ⟨M.term, M.vars, M.same.swap, fun θ h1 h2 => M.most θ h1 h2.swap, M.least⟩
theorem Tm.firstPair_one (a b : List Int) : Tm.firstPair [(a, b)] = Tm.pairErr a b := by
  rw [Tm.firstPair]
  by_cases h : Tm.pairErr a b = 0
  · rw [if_pos h, h]; rfl
  · rw [if_neg h]
theorem Tm.pairErr_zero {a b : List Int} : Tm.pairErr a b = 0 ↔ Tm.err a = 0 ∧ Tm.err b = 0 := by
  unfold Tm.pairErr
  by_cases h : Tm.err a = 0
  · rw [if_pos h]; exact ⟨fun e => ⟨h, e⟩, fun e => e.2⟩
  · rw [if_neg h]; exact ⟨fun e => absurd e h, fun e => absurd e.1 h⟩
theorem Tm.MeetSays.swap {a b : List Int} {is : Bool} {val : List (List Int)} (A : Tm.MeetSays [(a, b)] 0 is val) : Tm.MeetSays [(b, a)] 0 is val := by
  have hsw : ∀ {x y : List Int}, Tm.firstPair [(x, y)] = 0 → Tm.firstPair [(y, x)] = 0 := fun {x y} h => by
    rw [Tm.firstPair_one, Tm.pairErr_zero] at h ⊢
    exact ⟨h.2, h.1⟩
  rcases A with ⟨a1, a2, rfl, rfl⟩ | ⟨a1, a2, _, rfl, rfl⟩ | ⟨a1, σ, a2, a3, _, rfl, rfl⟩ | ⟨a1, σ, a2, ⟨i, hi, a3⟩, e, rfl, rfl⟩
  · exact absurd a2.symm a1
  · exact .inr (.inl ⟨hsw a1, fun θ h1 h2 => a2 θ h1 h2.swap, rfl, rfl, rfl⟩)
  · exact .inr (.inr (.inl ⟨hsw a1, σ, a2.swap, a3, rfl, rfl, rfl⟩))
  · omega

/-- D2: what comes makes both the same; done twice it is done once. -/
theorem Tm.meet_true {a b : List Int} {val : List (List Int)} (A : Tm.MeetSays [(a, b)] 0 true val) : Tm.subErr val = 0 ∧ Tm.err a = 0 ∧ Tm.err b = 0 ∧ Tm.applied val a = Tm.applied val b ∧ Tm.afterErr val val = 0 ∧ Tm.afterVal val val = val := by
  rcases A with ⟨_, _, h, _⟩ | ⟨_, _, _, h, _⟩ | ⟨a1, σ, M, h30, _, _, rfl⟩ | ⟨_, σ, _, _, _, h, _⟩
  · cases h
  · cases h
  · rw [Tm.firstPair_one, Tm.pairErr_zero] at a1
    have hs := M.errs h30
    have hss : Tm.afterL (Tm.sbL σ) (Tm.sbL σ) = Tm.sbL σ := by
      unfold Tm.afterL
      rw [Tm.sbL, List.map_map]
      refine List.map_congr_left fun i hi => ?_
      have := List.mem_range.1 hi
      show Tm.applied (Tm.sbL σ) (σ _) = σ _
      rw [Tm.applied_sbL σ _ (by
        rw [List.all_eq_true]
        intro s hs
        obtain ⟨h1, h2⟩ := M.vars _ (by omega) (by omega) s hs
        exact Tm.known_of h1 h2)]
      exact (M.most σ M.term M.same _ (by omega) (by omega)).symm
    have he : Tm.afterErr (Tm.sbL σ) (Tm.sbL σ) = 0 := by
      unfold Tm.afterErr
      rw [if_pos hs, if_pos hs, if_pos]
      rw [List.all_eq_true]
      intro t ht
      have hm : Tm.applied (Tm.sbL σ) t ∈ Tm.afterL (Tm.sbL σ) (Tm.sbL σ) := List.mem_map_of_mem ht
      rw [hss] at hm
      unfold Tm.fits
      rw [decide_eq_true_eq]
      obtain ⟨i, hi, e⟩ := List.mem_map.1 hm
      rw [← e]
      exact h30 i (List.mem_range.1 hi)
    refine ⟨hs, a1.1, a1.2, ?_, he, by unfold Tm.afterVal; rw [if_pos he, hss]⟩
    rw [Tm.applied_sbL σ a (Tm.err_all a1.1), Tm.applied_sbL σ b (Tm.err_all a1.2)]
    exact M.same 0 (by simp)
  · cases h
/-- D2: whatever else makes both the same is made of what comes. -/
theorem Tm.meet_most {a b : List Int} {us : List (List Int)} {er : Int} {is : Bool} {val : List (List Int)} (hu : Tm.subErr us = 0) (ha : Tm.err a = 0) (hb : Tm.err b = 0) (e : Tm.applied us a = Tm.applied us b) (A : Tm.MeetSays [(a, b)] er is val) :
    (er = 2 ∧ is = false ∧ val = []) ∨ (er = 0 ∧ is = true ∧ val.length = 8 ∧ ((Tm.afterErr val us = 2 ∧ Tm.afterVal val us = []) ∨ (Tm.afterErr val us = 0 ∧ Tm.afterVal val us = us))) := by
  have hu8 := (Tm.subErr_ok hu).1
  have hS : Wb.Same [(a, b)] 1 (Tm.ofL us) := fun j hj => by
    obtain rfl : j = 0 := by omega
    show Wb.App (Tm.ofL us) a = Wb.App (Tm.ofL us) b
    rw [← Tm.applied_ofL hu8 (Tm.err_all ha), ← Tm.applied_ofL hu8 (Tm.err_all hb), e]
  rcases A with ⟨a1, _⟩ | ⟨_, a2, _⟩ | ⟨_, σ, M, h30, rfl, rfl, rfl⟩ | ⟨_, σ, M, _, rfl, rfl, rfl⟩
  · rw [Tm.firstPair_one] at a1
    exact absurd (Tm.pairErr_zero.2 ⟨ha, hb⟩) a1
  · exact absurd hS (a2 _ (Tm.ofL_term hu))
  · refine .inr ⟨rfl, rfl, Tm.sbL_length σ, ?_⟩
    have hs := M.errs h30
    have hL : Tm.afterL (Tm.sbL σ) us = us := by
      have h2 : Tm.afterL (Tm.sbL σ) us = Tm.sbL (Tm.ofL us) := by
        unfold Tm.afterL
        rw [show Tm.sbL σ = (List.range 8).map (fun i : Nat => σ (-1 - (i : Int))) from rfl, List.map_map]
        refine List.map_congr_left fun i hi => ?_
        have := List.mem_range.1 hi
        show Tm.applied us (σ _) = Tm.ofL us _
        rw [Tm.applied_ofL hu8 (by
          rw [List.all_eq_true]
          intro s hs
          obtain ⟨h1, h2⟩ := M.vars _ (by omega) (by omega) s hs
          exact Tm.known_of h1 h2)]
        exact (M.most _ (Tm.ofL_term hu) hS _ (by omega) (by omega)).symm
      rw [h2, Tm.sbL_ofL hu8]
    by_cases hf : (Tm.sbL σ).all (Tm.fits us) = true
    · have he : Tm.afterErr (Tm.sbL σ) us = 0 := by unfold Tm.afterErr; rw [if_pos hs, if_pos hu, if_pos hf]
      exact .inr ⟨he, by unfold Tm.afterVal; rw [if_pos he, hL]⟩
    · have he : Tm.afterErr (Tm.sbL σ) us = 2 := by unfold Tm.afterErr; rw [if_pos hs, if_pos hu, if_neg hf]
      exact .inl ⟨he, by unfold Tm.afterVal; rw [he, if_neg (by omega)]⟩
  · exact .inl ⟨rfl, rfl, rfl⟩

/-- unify.meet's answer in one form. -/
theorem MeetAns.says {ps : PairL} {W : World} {e : Ending} (h : MeetAns ps W e) : ∃ er is val a, Tm.MeetSays ps er is val ∧ e = .returned (.tuple #[.slice a val.length val.length, .bool is, .int .i64 er]) ∧ Subs W.heap.size W a val := by
  rcases h with ⟨h1, rfl⟩ | ⟨h1, ⟨h2, rfl⟩ | ⟨σ, M, ⟨h30, a, rfl, hS⟩ | ⟨h30, rfl⟩⟩⟩
  · exact ⟨_, _, [], none, .inl ⟨h1, rfl, rfl, rfl⟩, rfl, Subs.nil _ _ _⟩
  · exact ⟨_, _, [], none, .inr (.inl ⟨h1, h2, rfl, rfl, rfl⟩), rfl, Subs.nil _ _ _⟩
  · exact ⟨_, _, Tm.sbL σ, a, .inr (.inr (.inl ⟨h1, σ, M, h30, rfl, rfl, rfl⟩)), by rw [Tm.sbL_length], hS⟩
  · exact ⟨_, _, [], none, .inr (.inr (.inr ⟨h1, σ, M, h30, rfl, rfl, rfl⟩)), rfl, Subs.nil _ _ _⟩

end Go.Proofs.Ytgeknojpcjadkaa

namespace Go.Proofs.Ytgeknojpcjadkaa
open Go.Proofs Go.RowKit Go.Shelf Go.Maps

set_option maxRecDepth 100000 in
set_option maxHeartbeats 1000000 in
theorem Meet_any (a b : List Int) (aa ab : Option Addr) (ca cb : Nat) (w : World) (hA : Ints w.heap.size w aa a) (hB : Ints w.heap.size w ab b) (ha1 : a.length ≤ ca) (ha2 : ca ≤ maxLen) (hb1 : b.length ≤ cb) (hb2 : cb ≤ maxLen) :
    Calls Try.prog 82 #[.slice aa a.length ca, .slice ab b.length cb] w fun e w' => Below w.heap.size w w' ∧ ∃ er is val x, Tm.MeetSays [(a, b)] er is val ∧ e = .returned (.tuple #[.slice x val.length val.length, .bool is, .int .i64 er]) ∧ Subs w'.heap.size w' x val := by
  have hBl : Below w.heap.size w (w.alloc (.cells #[.slice aa a.length ca, .slice ab b.length cb] 42)) := (Below.refl _ w).alloc (Nat.le_refl _) _
  have blk : (w.alloc (.cells #[.slice aa a.length ca, .slice ab b.length cb] 42)).heap[w.heap.size]? = some (.cells #[.slice aa a.length ca, .slice ab b.length cb] 42) := World.alloc_heap_new w _
  have hR : RulesAt (w.alloc (.cells #[.slice aa a.length ca, .slice ab b.length cb] 42)).heap.size (w.alloc (.cells #[.slice aa a.length ca, .slice ab b.length cb] 42)) (some ⟨w.heap.size, 0, none⟩) [(a, b)] := by
    intro k hk
    obtain rfl : k = 0 := by simp at hk; omega
    exact ⟨w.heap.size, 0, rfl, by simp, aa, ca, ab, cb, (cell_at blk 0).trans rfl, (cell_at blk 1).trans rfl, (hA.below hBl).mono hBl.size, (hB.below hBl).mono hBl.size, ha1, ha2, hb1, hb2⟩
  have hM := hid (meet_any [(a, b)] (by simp) (some ⟨w.heap.size, 0, none⟩) 1 _ hR)
  have HB := hid hBl
  clear hR blk hA hB hBl
  go_enter Try.func82, Try.ntmps82
  go_wp2_with fail
  refine hM.out.mono ?_
  rintro e w2 ⟨hB2, hAns⟩
  obtain ⟨er, is, val, x, hs, rfl, hS⟩ := hAns.says
  have Hs := hid hs
  have HS := hid hS
  clear hM hAns hs hS
  go_wp2
  go_ret3
  exact ⟨HB.out.trans (hB2.mono HB.out.size), er, is, val, x, Hs.out, rfl, HS.out⟩

end Go.Proofs.Ytgeknojpcjadkaa

namespace Go.Proofs.Ytgeknojpcjadkaa
open Go.Proofs Go.RowKit Go.Shelf Go.Maps

/-- Terms that open the same list are the same. -/
theorem Wb.split {x y r s : List Int} (hx : Tm.run x 1 = x.length) (hy : Tm.run y 1 = y.length) (h : x ++ r = y ++ s) : x = y ∧ r = s := by
  have h1 := Tm.run_app x r 1 (by omega)
  have h2 := Tm.run_app y s 1 (by omega)
  rw [h, h2, hx, hy] at h1
  exact List.append_inj h h1.symm
theorem Wb.var8 {v : Int} (h1 : -8 ≤ v) (h2 : v < 0) : v = -1 ∨ v = -2 ∨ v = -3 ∨ v = -4 ∨ v = -5 ∨ v = -6 ∨ v = -7 ∨ v = -8 := by omega
theorem Wb.App1 (θ : Wb.Sb) {v : Int} (h : v < 0) : Wb.App θ [v] = θ v := by rw [Wb.App_cons, if_pos h, Wb.App_nil, List.append_nil]

def Tm.mv1 : List (List Int) := [[2, -2], [-2], [2, -2], [-4], [-5], [-6], [-7], [-8]]
def Tm.mv3 : List (List Int) := [[-1], [-2], [-2], [-4], [-2], [-6], [-7], [-8]]
theorem Tm.mgu1 : Wb.Mgu [([4, -1, 2, -2], [4, -3, -1])] (Tm.ofL Tm.mv1) := by
  refine ⟨Tm.ofL_term (by decide +kernel), fun v h1 h2 => ?_, fun j hj => ?_, fun θ hθ H v h1 h2 => ?_, fun v u h1 h2 e hu => ?_⟩
  · rcases Wb.var8 h1 h2 with rfl | rfl | rfl | rfl | rfl | rfl | rfl | rfl <;> decide +kernel
  · obtain rfl : j = 0 := by simp at hj; omega
    decide +kernel
  · have h := H 0 (by simp)
    simp only [List.getElem?_cons_zero, Option.getD_some, Wb.App_cons, Wb.App_nil, List.append_nil] at h
    simp only [show ¬ ((4 : Int) < 0) from by omega, show ¬ ((2 : Int) < 0) from by omega, show ((-1 : Int) < 0) from by omega, show ((-2 : Int) < 0) from by omega, show ((-3 : Int) < 0) from by omega, if_true, if_false, List.singleton_append, List.cons.injEq, true_and] at h
    obtain ⟨e1, e2⟩ := Wb.split (hθ (-1) (by omega)) (hθ (-3) (by omega)) h
    have e3 : Wb.App θ [2, -2] = 2 :: θ (-2) := by rw [Wb.App_cons, if_neg (by omega), Wb.App1 θ (by omega)]; rfl
    rcases Wb.var8 h1 h2 with rfl | rfl | rfl | rfl | rfl | rfl | rfl | rfl
    · show _ = Wb.App θ [2, -2]
      rw [e3, e2]
    · exact (Wb.App1 θ (by omega)).symm
    · show _ = Wb.App θ [2, -2]
      rw [e3, e2, e1]
    all_goals exact (Wb.App1 θ (by omega)).symm
  · rcases Wb.var8 h1 h2 with rfl | rfl | rfl | rfl | rfl | rfl | rfl | rfl
    all_goals (simp [Tm.ofL, Tm.mv1] at e)
    all_goals omega
theorem Tm.mgu3 : Wb.Mgu [([-3], [-2]), ([-5], [-3])] (Tm.ofL Tm.mv3) := by
  refine ⟨Tm.ofL_term (by decide +kernel), fun v h1 h2 => ?_, fun j hj => ?_, fun θ hθ H v h1 h2 => ?_, fun v u h1 h2 e hu => ?_⟩
  · rcases Wb.var8 h1 h2 with rfl | rfl | rfl | rfl | rfl | rfl | rfl | rfl <;> decide +kernel
  · have : j = 0 ∨ j = 1 := by simp at hj; omega
    rcases this with rfl | rfl <;> decide +kernel
  · have h := H 0 (by simp)
    have h' := H 1 (by simp)
    simp only [List.getElem?_cons_zero, List.getElem?_cons_succ, Option.getD_some] at h h'
    rw [Wb.App1 θ (by omega), Wb.App1 θ (by omega)] at h h'
    rcases Wb.var8 h1 h2 with rfl | rfl | rfl | rfl | rfl | rfl | rfl | rfl
    · exact (Wb.App1 θ (by omega)).symm
    · exact (Wb.App1 θ (by omega)).symm
    · exact h.trans (Wb.App1 θ (by omega)).symm
    · exact (Wb.App1 θ (by omega)).symm
    · exact (h'.trans h).trans (Wb.App1 θ (by omega)).symm
    all_goals exact (Wb.App1 θ (by omega)).symm
  · rcases Wb.var8 h1 h2 with rfl | rfl | rfl | rfl | rfl | rfl | rfl | rfl
    all_goals (simp [Tm.ofL, Tm.mv3] at e)
    all_goals omega
theorem Tm.um1 : Tm.MeetSays [([4, -1, 2, -2], [4, -3, -1])] 0 true Tm.mv1 := by
  refine .inr (.inr (.inl ⟨by decide +kernel, _, Tm.mgu1, fun i hi => ?_, rfl, rfl, (Tm.sbL_ofL rfl).symm⟩))
  rw [Tm.ofL_at _ hi]
  have : ∀ i, i < 8 → ((Tm.mv1)[i]?.getD []).length ≤ 30 := by decide +kernel
  exact this i hi
theorem Tm.um2 : Tm.MeetSays [([-1], [2, -1])] 0 false [] := by
  refine .inr (.inl ⟨by decide +kernel, fun θ hθ H => ?_, rfl, rfl, rfl⟩)
  have h := H 0 (by simp)
  simp only [List.getElem?_cons_zero, Option.getD_some] at h
  rw [Wb.App1 θ (by omega), Wb.App_cons, if_neg (by omega), Wb.App1 θ (by omega)] at h
  have := congrArg List.length h
  simp at this
theorem Tm.um3 : Tm.MeetSays [([-3], [-2]), ([-5], [-3])] 0 true Tm.mv3 := by
  refine .inr (.inr (.inl ⟨by decide +kernel, _, Tm.mgu3, fun i hi => ?_, rfl, rfl, (Tm.sbL_ofL rfl).symm⟩))
  rw [Tm.ofL_at _ hi]
  have : ∀ i, i < 8 → ((Tm.mv3)[i]?.getD []).length ≤ 30 := by decide +kernel
  exact this i hi
theorem Tm.um4 : Tm.MeetSays [([9], [0])] 3 false [] := .inl ⟨by decide +kernel, by decide +kernel, rfl, rfl⟩

/-- Two literals meet. -/
theorem u_meet (p t : List Int) (np nt nv : Nat) (er : Int) (is : Bool) (val : List (List Int)) (w : World) (hp : np = p.length) (ht : nt = t.length) (hv : nv = val.length) (kp : p.length ≤ 1000) (kt : t.length ≤ 1000) (hS : Tm.MeetSays [(p, t)] er is val) :
    Calls Try.prog 82 #[.slice (some ⟨w.heap.size, 0, none⟩) np np, .slice (some ⟨w.heap.size + 1, 0, none⟩) nt nt] ((w.alloc (.cells (p.map (Value.int .i64)).toArray 3)).alloc (.cells (t.map (Value.int .i64)).toArray 3)) fun e w' => ∃ x, e = .returned (.tuple #[.slice x nv nv, .bool is, .int .i64 er]) ∧ Subs w'.heap.size w' x val ∧ Below w.heap.size w w' := by
  subst hp ht hv
  have hb := allocs_below [p, t] w
  have hi := allocs_ints [p, t] w
  have hs := allocs_size [p, t] w
  have i1 := hi 0 (by simp)
  have i2 := hi 1 (by simp)
  rw [show w.heap.size + [p, t].length = (allocs w [p, t]).heap.size from hs.symm] at i1 i2
  refine (Meet_any p t _ _ p.length t.length (allocs w [p, t]) i1 i2 (Nat.le_refl _) (by unfold maxLen; omega) (Nat.le_refl _) (by unfold maxLen; omega)).mono ?_
  rintro e w' ⟨hB, er', is', val', x, hS', rfl, hx⟩
  obtain ⟨rfl, rfl, rfl⟩ := hS.one hS'
  exact ⟨x, rfl, hx, hb.trans (hB.mono hb.size)⟩

theorem Try.info42 : (Try.prog.info? 42).map (fun i => (i.zero, i.size, i.bytes)) = some (some (.agg #[.slice none 0 0, .slice none 0 0]), 2, 48) := by kernel_rfl
theorem make41 : ∃ M : Array Value, ∀ W : World, (Instr.makeSlice 30 (.int .i64 41) (.int .i64 41)).run Try.prog W = .ok (.slice (some ⟨W.heap.size, 0, none⟩) 41 41) (W.alloc (.cells M 42)) := by
  obtain ⟨i0, hi, hz0, hz1, hz2⟩ := info_parts Try.info42
  refine ⟨madeCells (Value.agg #[.slice none 0 0, .slice none 0 0]).cells (Int.toNat 41 * 2), fun W => ?_⟩
  have h := run_makeSlice (P := Try.prog) W 30 42 i0 (.agg #[.slice none 0 0, .slice none 0 0]) Try.underlying30 hi hz0 .i64 .i64 41 41 (by omega) (by omega) (by rw [hz1]; decide) (by rw [hz2]; decide) (by decide)
  rw [hz1] at h
  exact h

theorem u_at {w : World} {x : Option Addr} {vs : List (List Int)} (h : Subs w.heap.size w x vs) (h0 : 0 < vs.length) : ∃ b off, x = some ⟨b, off, none⟩ ∧ ∀ j, j < vs.length → ∃ a c, w.cell? ⟨b, off + j, none⟩ = some (.slice a (vs[j]?.getD []).length c) ∧ Ints w.heap.size w a (vs[j]?.getD []) := by
  obtain ⟨b, off, aj, cj, e, _⟩ := h 0 h0
  refine ⟨b, off, e, fun j hj => ?_⟩
  obtain ⟨b', off', a, c, e', _, h1, h2, _⟩ := h j hj
  rw [e] at e'
  cases e'
  exact ⟨a, c, h1, h2⟩

end Go.Proofs.Ytgeknojpcjadkaa

namespace Go.Proofs.Ytgeknojpcjadkaa
open Go.Proofs Go.RowKit Go.Shelf Go.Maps

/-- v IS A SLICE IN NEW MEMORY THAT HOLDS THESE PAIRS, each term in new memory too. -/
def NewP (base : Nat) (W : World) (v : Value) (ps : PairL) : Prop :=
  ∃ us : List Value, W.ownsRow base 42 2 v ps.length us ∧ ∀ j, j < ps.length → ∃ u u', us[j * 2]? = some u ∧ us[j * 2 + 1]? = some u' ∧ New base W u (ps[j]?.getD ([], [])).1 ∧ New base W u' (ps[j]?.getD ([], [])).2
theorem NewP.nil (base : Nat) (W : World) : NewP base W (.slice none 0 0) [] := ⟨[], World.ownsRow_nil _ _ _ _, fun j hj => by simp at hj⟩
theorem New.apartP {base : Nat} {W : World} {u v : Value} {t : List Int} {n : Nat} {us : List Value} (hu : New base W u t) (hv : W.ownsRow base 42 2 v n us) : u.ownBlock = none ∨ u.ownBlock ≠ v.ownBlock := by
  rcases hu.2 with ⟨rfl, _⟩ | ⟨g, cap, cur, rfl, hb, hg, r⟩
  · exact .inl rfl
  · right
    rcases hv.2 with ⟨rfl, _⟩ | ⟨g', cap', cur', rfl, hb', hg', r'⟩
    · intro e; cases e
    · intro e
      simp only [Value.ownBlock, Option.some.injEq] at e
      subst e
      rw [hg] at hg'
      simp at hg'
theorem NewP.below {base : Nat} {W W' : World} {v : Value} {ps : PairL} (h : NewP base W v ps) (hB : Below W.heap.size W W') : NewP base W' v ps := by
  obtain ⟨us, h1, h2⟩ := h
  refine ⟨us, World.ownsRow.kept h1 (grown_of_below hB) (by cases h : v.ownBlock with | none => exact .inl rfl | some k => exact .inr (by simp)), fun j hj => ?_⟩
  obtain ⟨u, u', a, b, c, d⟩ := h2 j hj
  exact ⟨u, u', a, b, New.below c hB, New.below d hB⟩
theorem NewP.grown {base : Nat} {W W' : World} {v : Value} {ps : PairL} {row : Option Nat} (h : NewP base W v ps) (hg : W.grownBy W' row) (hr : ∀ k, row = some k → ∀ cs p, W.heap[k]? ≠ some (.cells cs 42 p) ∧ W.heap[k]? ≠ some (.cells cs 3 p)) : NewP base W' v ps := by
  obtain ⟨us, h1, h2⟩ := h
  refine ⟨us, h1.kept hg (row_apart h1 fun k e cs p => (hr k e cs p).1), fun j hj => ?_⟩
  obtain ⟨u, u', a, b, c, d⟩ := h2 j hj
  exact ⟨u, u', a, b, World.ownsRow.kept c hg (row_apart c fun k e cs p => (hr k e cs p).2), World.ownsRow.kept d hg (row_apart d fun k e cs p => (hr k e cs p).2)⟩
theorem NewP.set {base : Nat} {W : World} {v : Value} {ps : PairL} (h : NewP base W v ps) {B : Nat} {t : TypeId} {x : Value} (hb : Boxed W B t x) (h1 : t ≠ 42) (h2 : t ≠ 3) (y : Value) : NewP base (W.setCell ⟨B, 0, none⟩ y) v ps :=
  h.grown (grownBy_setCell' W B y) fun k e cs p => by
    cases e
    exact ⟨boxed_ne hb h1 cs p, boxed_ne hb h2 cs p⟩
theorem NewP.other {base : Nat} {W W' : World} {v : Value} {ps : PairL} {row : Option Nat} (h : NewP base W v ps) (hg : W.grownBy W' row) (hr : ∀ r, row = some r → ∃ o : Obj, W.heap[r]? = some o ∧ o.isCells = false) : NewP base W' v ps :=
  h.grown hg fun k e cs p => by
    obtain ⟨o, ho, hc⟩ := hr k e
    rw [ho]
    refine ⟨?_, ?_⟩ <;> (intro h'; simp only [Option.some.injEq] at h'; subst h'; simp [Obj.isCells] at hc)
theorem NewP.mono {base base' : Nat} {W : World} {v : Value} {ps : PairL} (h : NewP base W v ps) (hb : base' ≤ base) : NewP base' W v ps := by
  obtain ⟨us, h1, h2⟩ := h
  refine ⟨us, ⟨h1.1, h1.2.elim .inl (fun ⟨g, cap, cur, e1, e2, e3⟩ => .inr ⟨g, cap, cur, e1, Nat.le_trans hb e2, e3⟩)⟩, fun j hj => ?_⟩
  obtain ⟨u, u', a, b, c, d⟩ := h2 j hj
  exact ⟨u, u', a, b, c.mono hb, d.mono hb⟩
/-- The list's own block. -/
theorem NewP.block {base : Nat} {W : World} {v : Value} {ps : PairL} (h : NewP base W v ps) {k : Nat} (hk : v.ownBlock = some k) : base ≤ k ∧ ∃ cs p, W.heap[k]? = some (.cells cs 42 p) := by
  obtain ⟨us, h1, _⟩ := h
  rcases h1.2 with ⟨rfl, _⟩ | ⟨g, cap, cur, rfl, hb, hgb, _⟩
  · cases hk
  · obtain rfl : g = k := by simpa [Value.ownBlock] using hk
    exact ⟨hb, _, _, hgb⟩
theorem NewP.slice {base : Nat} {W : World} {v : Value} {ps : PairL} (h : NewP base W v ps) : ∃ a cap, v = .slice a ps.length cap := by
  obtain ⟨us, h1, _⟩ := h
  rcases h1.2 with ⟨rfl, h0⟩ | ⟨g, cap, cur, rfl, _⟩
  · exact ⟨none, 0, by rw [h0]⟩
  · exact ⟨_, _, rfl⟩
/-- Such a list can be read. -/
theorem NewP.at {base : Nat} {W : World} {v : Value} {ps : PairL} (h : NewP base W v ps) : ∃ a cap, v = .slice a ps.length cap ∧ RulesAt W.heap.size W a ps ∧ ps.length ≤ cap ∧ cap ≤ maxLen := by
  obtain ⟨us, h1, h2⟩ := h
  have hl : us.length = ps.length * 2 := h1.1
  rcases h1.2 with ⟨rfl, hn⟩ | ⟨g, cap, cur, rfl, hb, hgb, q1, q2, _⟩
  · refine ⟨none, 0, by rw [hn], fun k hk => by omega, by omega, by omega⟩
  · refine ⟨_, cap, rfl, fun j hj => ?_, q1, q2⟩
    obtain ⟨u, u', p1, p2, n1, n2⟩ := h2 j hj
    obtain ⟨a1, c1, rfl, i1, m1, m1'⟩ := New.ints n1
    obtain ⟨a2, c2, rfl, i2, m2, m2'⟩ := New.ints n2
    have cc := fun k hk => World.ownsRow.cellAt h1 k hk
    exact ⟨g, 0, rfl, (Array.getElem?_eq_some_iff.1 hgb).1, a1, c1, a2, c2, by rw [Nat.zero_add, cc _ (by omega), p1], by rw [Nat.zero_add, cc _ (by omega), p2], i1, i2, m1, m1', m2, m2'⟩
theorem Try.infoPairs : Try.prog.underlying 30 = some (.slice 42) := by kernel_rfl

/-- 'append(out, p)', within a round. -/
theorem wpi_append_pair {F : Fence} {n : Nat} {ops : Array Oper} {rest : List Oper} {o : Oper} {a : Act} {Q : Exit → Act → World → Prop} (w : World) (hgd : o.guard = none) (s x : Operand)
    (ho : o.op = .call { callee := .builtin .append, args := #[s, x], argTypes := #[30, 30] }) (base : Nat) (v : Value) (ps : PairL) (hs : a.eval s = v) (hN : NewP base w v ps)
    (u u2 : Value) (t t2 : List Int) (B : Nat) (hx : a.eval x = .slice (some ⟨B, 0, none⟩) 1 1) (hB0 : w.cell? ⟨B, 0, none⟩ = some u) (hB1 : w.cell? ⟨B, 1, none⟩ = some u2) (hu : New base w u t) (hu2 : New base w u2 t2) (hlen : ps.length ≤ 1000000) (hbase : base ≤ w.heap.size)
    (h : ∀ v' w', NewP base w' v' (ps ++ [(t, t2)]) → w.grownBy w' v.ownBlock → (∃ g cap, v' = .slice (some ⟨g, 0, none⟩) (ps.length + 1) cap) → wpListIn F n Try.prog ops Q rest (a.put o.dst v') w') : wpListIn F n Try.prog ops Q (o :: rest) a w := by
  obtain ⟨i0, hi, hz0, hz1, hz2⟩ := info_parts Try.info42
  obtain ⟨us, h1, h2⟩ := hN
  have hul : us.length = ps.length * 2 := h1.1
  refine wpListIn_append_own w hgd s x 30 ho base 42 i0 (.agg #[.slice none 0 0, .slice none 0 0]) 2 48 Try.infoPairs hi hz0 hz1 hz2 rfl (by decide) v ps.length us hs h1 ⟨B, 0, none⟩ 1 1 [u, u2] hx (by simp)
    (by intro j z hj
        match j, hj with
        | 0, hj => simp at hj; subst hj; rw [Go.WideShapes.add_plain]; simpa using hB0
        | 1, hj => simp at hj; subst hj; rw [Go.WideShapes.add_plain]; simpa using hB1)
    (by intro z hz; simp at hz; obtain ⟨_, _, rfl, _⟩ := New.ints hu; obtain ⟨_, _, rfl, _⟩ := New.ints hu2; rcases hz with rfl | rfl <;> rfl) (by unfold maxLen; omega) (by omega) hbase ?_
  intro v' w' hown hg _
  have hkeep : ∀ (u' : Value) (t' : List Int), New base w u' t' → New base w' u' t' := fun u' t' hN' => World.ownsRow.kept hN' hg (New.apartP hN' h1)
  refine h v' w' ⟨us ++ [u, u2], by simpa using hown, fun j hj => ?_⟩ hg (ownsRow_succ hown)
  by_cases hjl : j < ps.length
  · obtain ⟨y, y', q1, q2, n1, n2⟩ := h2 j hjl
    rw [List.getElem?_append_left hjl, List.getElem?_append_left (by omega), List.getElem?_append_left (by omega)]
    exact ⟨y, y', q1, q2, hkeep y _ n1, hkeep y' _ n2⟩
  · have hje : j = ps.length := by simp at hj; omega
    subst hje
    rw [List.getElem?_append_right (Nat.le_refl _), List.getElem?_append_right (by omega), List.getElem?_append_right (by omega), hul]
    refine ⟨u, u2, by simp, by simp, ?_, ?_⟩
    · simpa using hkeep u t hu
    · simpa using hkeep u2 t2 hu2

end Go.Proofs.Ytgeknojpcjadkaa

namespace Go.Proofs.Ytgeknojpcjadkaa
open Go.Proofs Go.RowKit Go.Shelf Go.Maps

def Tm.passB (L : List Int) (i j : Int) (m : Nat) : Bool := decide (L[m]?.getD 0 < 0) || (decide (m = 0) && decide (i = j))

set_option maxRecDepth 100000 in
set_option maxHeartbeats 1000000 in
theorem pass_any (L : List Int) (aL : Option Addr) (cL : Nat) (i j : Int) (m : Nat) (B9 B4 B5 : Nat) (w : World) (hm : m < L.length) (hI : Ints w.heap.size w aL L) (h9 : w.cell? ⟨B9, 0, none⟩ = some (.slice aL L.length cL)) (h4 : w.cell? ⟨B4, 0, none⟩ = some (.int .i64 i)) (h5 : w.cell? ⟨B5, 0, none⟩ = some (.int .i64 j)) :
    Calls Try.prog 38 #[.int .i64 (m : Int), .pointer (some ⟨B9, 0, none⟩), .pointer (some ⟨B4, 0, none⟩), .pointer (some ⟨B5, 0, none⟩)] w fun e w' => e = .returned (.bool (Tm.passB L i j m)) ∧ w' = w := by
  obtain ⟨b, off, rfl, hb, hc⟩ := hI.at (by omega)
  have hck := hc m hm
  have hm' : (m : Int) < (L.length : Int) := by omega
  have hq : Hid (Tm.passB L i j m = (decide (L[m]?.getD 0 < 0) || (decide (m = 0) && decide (i = j)))) := rfl
  clear hc hI
  generalize L[m]?.getD 0 = s at *
  by_cases hs : s < 0
  · go_enter Try.func38, Try.ntmps38
    go_wp2
    go_ret
    exact ⟨by rw [hq.out]; simp [hs], rfl⟩
  · have hs' : decide (s < 0) = false := by simpa using hs
    by_cases h0 : m = 0
    · subst h0
      rw [Nat.add_zero] at hck
      have hm0 : (0 : Int) < (L.length : Int) := by omega
      by_cases hij : i = j
      · subst hij
        go_enter Try.func38, Try.ntmps38
        go_wp2
        go_ret
        exact ⟨by rw [hq.out]; simp [hs'], rfl⟩
      · have hij' : (i == j) = false := by simpa using hij
        go_enter Try.func38, Try.ntmps38
        go_wp2
        go_ret
        exact ⟨by rw [hq.out]; simp [hs', hij], rfl⟩
    · have h0' : ((m : Int) == 0) = false := by simpa using h0
      go_enter Try.func38, Try.ntmps38
      go_wp2
      go_ret
      exact ⟨by rw [hq.out]; simp [hs', h0], rfl⟩

theorem results_boxP {fn : Func} {tmps : Array Value} {w : World} {a b B C : Nat} {ad : Option Addr} {n c : Nat} {x : Int} (h : fn.results = #[.cell a 30, .cell b 31]) (ha : tmps.getD a undef = .pointer (some ⟨B, 0, none⟩)) (hb : tmps.getD b undef = .pointer (some ⟨C, 0, none⟩))
    (hc : w.cell? ⟨B, 0, none⟩ = some (.slice ad n c)) (hd : w.cell? ⟨C, 0, none⟩ = some (.int .i64 x)) : (results fn tmps).run Try.prog w = .ok (.tuple #[.slice ad n c, .int .i64 x]) w := by
  have ha' : tmps[a]?.getD undef = .pointer (some ⟨B, 0, none⟩) := by rw [← ha]; simp
  have hb' : tmps[b]?.getD undef = .pointer (some ⟨C, 0, none⟩) := by rw [← hb]; simp
  simp only [results, h]
  simp [go_sem, ha', hb', hc, hd]

/-- What stands while pairs come. -/
structure PInv (w2 : World) (B : Nat) (tv : Value) (l : PairL) (W : World) : Prop where
  out : ∃ v, Boxed W B 30 v ∧ NewP B W v l
  bP : Boxed W (B + 1) 37 tv
  kp : Below B w2 W
theorem PInv.own {w2 X Y : World} {B D : Nat} {tv : Value} {l : PairL} {row : Option Nat} (hB : B ≤ w2.heap.size) (hD : B ≤ D) (h : PInv w2 B tv l X) (hg : X.grownBy Y row) (hr : ∀ r, row = some r → D ≤ r ∧ ∃ o : Obj, X.heap[r]? = some o ∧ o.isCells = false) : PInv w2 B tv l Y := by
  obtain ⟨⟨v, hv, hN⟩, bP, kp⟩ := h
  exact ⟨⟨v, cells_own hv hg hr, hN.other hg (fun r e => (hr r e).2)⟩, cells_own bP hg hr, ⟨hg.os.trans kp.os, hg.tape.trans kp.tape, hg.output.trans kp.output, Nat.le_trans kp.size hg.size, fun k hk => (hg.block k (by have := kp.size; omega) (fun e => by have := (hr k e.symm).1; omega)).trans (kp.block k hk)⟩⟩
theorem PInv.below {w2 W W' : World} {B : Nat} {tv : Value} {l : PairL} (hB : B ≤ w2.heap.size) (h : PInv w2 B tv l W) (hb : Below W.heap.size W W') : PInv w2 B tv l W' := by
  obtain ⟨⟨v, hv, hN⟩, bP, kp⟩ := h
  exact ⟨⟨v, (hb.block _ hv.lt).trans hv, hN.below hb⟩, (hb.block _ bP.lt).trans bP, kp.trans (hb.mono (Nat.le_trans hB kp.size))⟩
/-- One pair more. -/
theorem p_append {w2 W w' : World} {B C : Nat} {tv v v' : Value} {l : PairL} {x : List Int × List Int} {tmp : Obj} (hB : B ≤ w2.heap.size) (hv : Boxed W B 30 v) (hN : NewP B W v l) (bP : Boxed W (B + 1) 37 tv) (kp : Below B w2 W) (hN' : NewP B w' v' (l ++ [x])) (hg : (W.alloc tmp).grownBy w' v.ownBlock) :
    Boxed w' B 30 v ∧ PInv w2 B tv (l ++ [x]) (w'.setCell ⟨B, 0, none⟩ v') ∧ KeepsFrom C W (w'.setCell ⟨B, 0, none⟩ v') := by
  have hBW : B ≤ W.heap.size := Nat.le_trans hB kp.size
  have hne : ∀ {D : Nat} {e : TypeId} {y : Value}, Boxed W D e y → e ≠ 42 → some D ≠ v.ownBlock := fun hb he e' => by
    obtain ⟨_, cs, p, h⟩ := hN.block e'.symm
    exact boxed_ne hb he cs p h
  have hv1 : Boxed w' B 30 v := (hv.alloc tmp).kept hg (hne hv (by decide))
  have bP1 : Boxed w' (B + 1) 37 tv := (bP.alloc tmp).kept hg (hne bP (by decide))
  refine ⟨hv1, ⟨⟨v', hv1.set v', hN'.set hv1 (by decide) (by decide) v'⟩, (Below.heap_setCell w' ⟨B, 0, none⟩ v' (B + 1) (by show B + 1 ≠ B; omega)).trans bP1, kp.trans ?_⟩, ?_⟩
  · refine (((Below.refl B W).alloc hBW tmp).grown hg (by simp; omega) fun j ej => (hN.block ej).1).setCell (p := ⟨B, 0, none⟩) (Nat.le_refl _) v'
  · refine KeepsOthers.from (((KeepsOthers.alloc W tmp).trans (KeepsOthers.of_grownBy hg fun j o ej hj => ?_)).trans (KeepsOthers.setCell _ _ _)) C
    obtain ⟨_, cs, p, h⟩ := hN.block ej
    have h2 : (W.alloc tmp).heap[j]? = some (.cells cs 42 p) := (Below.heap_alloc W tmp j (Array.getElem?_eq_some_iff.1 h).1).trans h
    rw [h2] at hj
    cases hj
    rfl

/-- What laps has found ahead of place m. -/
inductive Tm.Laps (L1 R1 L2 R2 : List Int) (pass : Nat → Bool) : Nat → PairL → Prop
  | zero : Tm.Laps L1 R1 L2 R2 pass 0 []
  | pass {m : Nat} {l : PairL} : Tm.Laps L1 R1 L2 R2 pass m l → pass m = true → Tm.Laps L1 R1 L2 R2 pass (m + 1) l
  | no {m : Nat} {l : PairL} {val : List (List Int)} : Tm.Laps L1 R1 L2 R2 pass m l → pass m = false → Tm.MeetSays [(Tm.part L1 m, L2)] 0 false val → Tm.Laps L1 R1 L2 R2 pass (m + 1) l
  | yes {m : Nat} {l : PairL} {val : List (List Int)} : Tm.Laps L1 R1 L2 R2 pass m l → pass m = false → Tm.MeetSays [(Tm.part L1 m, L2)] 0 true val → Tm.prtErr val L1 R1 (m : Int) R2 = 0 → Tm.Laps L1 R1 L2 R2 pass (m + 1) (l ++ [Tm.prtVal val L1 R1 (m : Int) R2])
theorem Tm.Laps.len {L1 R1 L2 R2 : List Int} {pass : Nat → Bool} {m : Nat} {l : PairL} (h : Tm.Laps L1 R1 L2 R2 pass m l) : l.length ≤ m := by
  induction h with
  | zero => exact Nat.le_refl _
  | pass _ _ ih => omega
  | no _ _ _ ih => omega
  | yes _ _ _ _ ih => rw [List.length_append]; simp; omega
/-- The error that laps tells. -/
def Tm.LapsErr (L1 R1 L2 R2 : List Int) (pass : Nat → Bool) (e : Int) : Prop := e ≠ 0 ∧ ∃ m l, m < L1.length ∧ Tm.Laps L1 R1 L2 R2 pass m l ∧ pass m = false ∧ ((∃ is val, Tm.MeetSays [(Tm.part L1 m, L2)] e is val) ∨ (∃ val, Tm.MeetSays [(Tm.part L1 m, L2)] 0 true val ∧ Tm.prtErr val L1 R1 (m : Int) R2 = e))
/-- What laps answers. -/
def Tm.LapsSays (L1 R1 L2 R2 : List Int) (pass : Nat → Bool) (e : Int) (ps : PairL) : Prop := (e = 0 ∧ Tm.Laps L1 R1 L2 R2 pass L1.length ps) ∨ (Tm.LapsErr L1 R1 L2 R2 pass e ∧ ps = [])

end Go.Proofs.Ytgeknojpcjadkaa
