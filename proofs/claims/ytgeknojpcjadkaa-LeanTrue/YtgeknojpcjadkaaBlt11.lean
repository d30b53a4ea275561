/-
  Parts of the proof: Web23, Web24, Uni1, Lea1, Web25, Lit, Mnw.
-/
import Derived.Test.YtgeknojpcjadkaaBlt10
import Derived.Test.YtgeknojpcjadkaaBlt7
import Derived.Test.YtgeknojpcjadkaaBlt5
import Derived.Test.YtgeknojpcjadkaaBlt1
namespace Go.Proofs.Ytgeknojpcjadkaa
open Go.Proofs Go.RowKit Go.Shelf Go.Maps
abbrev PairL := List (List Int × List Int)
namespace Wb
theorem cont_laid {pre t post : List Int} (ht : Tm.err t = 0) : cont (pre ++ (t ++ post)) pre.length = t := by
  have h := Tm.part_mid (pre := pre) (t := t) (post := post) (k := 0) (by omega) (by rw [Tm.endAt_zero, Tm.err_run ht]; exact Nat.le_refl _)
  rw [Nat.add_zero] at h
  unfold cont
  rw [h]
  unfold Tm.part
  rw [Tm.endAt_zero, Tm.err_run ht]
  simp
def Same (ps : PairL) (k : Nat) (θ : Sb) : Prop := ∀ j, j < k → App θ (ps[j]?.getD ([], [])).1 = App θ (ps[j]?.getD ([], [])).2
structure MInv (ps : PairL) (k : Nat) (zs : List Int) (h : Nat → Nat) : Prop where
  good : Good zs
  st : ∃ T, St zs T h
  closed : Closed zs h []
  len : zs.length ≤ 8 + 60 * k
  sound : ∀ θ, TermSb θ → Same ps k θ → Resp zs h θ
  tied : ∀ j, j < k → ∃ p q, p < zs.length ∧ q < zs.length ∧ cont zs p = (ps[j]?.getD ([], [])).1 ∧ cont zs q = (ps[j]?.getD ([], [])).2 ∧ hd zs h p = hd zs h q
theorem MInv.start (ps : PairL) : MInv ps 0 (eight 8) (fun p => p) := by
  refine ⟨good8, ⟨_, St.start _⟩, fun p q hp _ sp _ _ => ?_, by rw [eight_length 8 (by omega)]; omega, fun θ _ _ p _ _ => rfl, fun j hj => by omega⟩
  rw [eight_length 8 (by omega)] at hp
  have := good8.vars p hp
  omega
theorem Closed.more {zs : List Int} {h : Nat → Nat} {P : List (Nat × Nat)} (C : Closed zs h []) : Closed zs h P := fun p q hp hq sp sq e => by
  obtain ⟨e1, e2⟩ := C p q hp hq sp sq e
  exact ⟨e1, fun i hi => (e2 i hi).move (fun _ _ _ _ h => h) (fun p q hm => by simp at hm)⟩
theorem Same.succ {ps : PairL} {k : Nat} {θ : Sb} (H : Same ps (k + 1) θ) : Same ps k θ ∧ App θ (ps[k]?.getD ([], [])).1 = App θ (ps[k]?.getD ([], [])).2 := ⟨fun j hj => H j (by omega), H k (by omega)⟩
theorem MInv.good2 {ps : PairL} {k : Nat} {zs : List Int} {h : Nat → Nat} (M : MInv ps k zs h) {L R : List Int} (hL : Tm.err L = 0) (hR : Tm.err R = 0) (lL : L.length ≤ 30) (lR : R.length ≤ 30) (hk : k < 40) : Good (zs ++ L ++ R) := by
  have := M.len
  exact (M.good.ext hL (by omega)).ext hR (by rw [List.length_append]; omega)
theorem MInv.at1 {zs L R : List Int} (hL : Tm.err L = 0) : cont (zs ++ L ++ R) zs.length = L := by rw [List.append_assoc]; exact cont_laid hL
theorem MInv.at2 {zs L R : List Int} (hR : Tm.err R = 0) : cont (zs ++ L ++ R) (zs ++ L).length = R := by
  have := cont_laid (pre := zs ++ L) (post := []) hR
  rwa [List.append_nil] at this
theorem MInv.step {ps : PairL} {k : Nat} {zs : List Int} {h : Nat → Nat} (M : MInv ps k zs h) {L R : List Int} (hL : Tm.err L = 0) (hR : Tm.err R = 0) (lL : L.length ≤ 30) (lR : R.length ≤ 30) (hk : k < 40) (eL : (ps[k]?.getD ([], [])).1 = L) (eR : (ps[k]?.getD ([], [])).2 = R) (h0 : 0 < L.length) (h1 : 0 < R.length) {h' : Nat → Nat} (hL' : TieL (zs ++ L ++ R) h h' [(zs.length, (zs ++ L).length)]) (S' : ∃ T, St (zs ++ L ++ R) T h') : MInv ps (k + 1) (zs ++ L ++ R) h' := by
  obtain ⟨T, S⟩ := M.st
  have G1 := M.good.ext hL (by have := M.len; omega)
  have G2 := M.good2 hL hR lL lR hk
  have S1 : St (zs ++ L) T h := S.ext
  have hlen : (zs ++ L ++ R).length = zs.length + L.length + R.length := by rw [List.length_append, List.length_append]
  have c1 := MInv.at1 (zs := zs) (R := R) hL
  have c2 := MInv.at2 (zs := zs) (L := L) hR
  refine ⟨G2, S', hL'.close [] ((Closed.ext G1 S1 G2 (Closed.ext M.good S G1 M.closed)).more), by have := M.len; omega, fun θ hθ H => ?_, fun j hj => ?_⟩
  · obtain ⟨H1, H2⟩ := H.succ
    refine hL'.sound θ hθ ((M.sound θ hθ H1).ext M.good S |>.ext G1 S1) fun p q hm => ?_
    simp only [List.mem_cons, List.not_mem_nil, or_false, Prod.mk.injEq] at hm
    obtain ⟨rfl, rfl⟩ := hm
    rw [c1, c2, ← eL, ← eR]
    exact H2
  · by_cases e : j = k
    · subst e
      exact ⟨zs.length, (zs ++ L).length, by omega, by rw [hlen, List.length_append]; omega, by rw [c1, eL], by rw [c2, eR], hL'.tied _ _ (by simp)⟩
    · obtain ⟨p, q, hp, hq, e1, e2, e3⟩ := M.tied j (by omega)
      have hp1 : p < (zs ++ L).length := by rw [List.length_append]; omega
      have hq1 : q < (zs ++ L).length := by rw [List.length_append]; omega
      refine ⟨p, q, by omega, by omega, by rw [cont_ext G1 hp1, cont_ext M.good hp, e1], by rw [cont_ext G1 hq1, cont_ext M.good hq, e2], hL'.coarse p q (by omega) (by omega) ?_⟩
      rw [hd_ext hp1, hd_ext hp, hd_ext hq1, hd_ext hq, e3]
theorem MInv.no {ps : PairL} {k : Nat} {zs : List Int} {h : Nat → Nat} (M : MInv ps k zs h) {L R : List Int} (hL : Tm.err L = 0) (hR : Tm.err R = 0) (lL : L.length ≤ 30) (hk : k < 40) (eL : (ps[k]?.getD ([], [])).1 = L) (eR : (ps[k]?.getD ([], [])).2 = R) (hN : No (zs ++ L ++ R) h [(zs.length, (zs ++ L).length)]) : ∀ θ, TermSb θ → ¬ Same ps (k + 1) θ := fun θ hθ H => by
  obtain ⟨T, S⟩ := M.st
  have G1 := M.good.ext hL (by have := M.len; omega)
  have S1 : St (zs ++ L) T h := S.ext
  obtain ⟨H1, H2⟩ := H.succ
  refine hN θ hθ ((M.sound θ hθ H1).ext M.good S |>.ext G1 S1) fun p q hm => ?_
  simp only [List.mem_cons, List.not_mem_nil, or_false, Prod.mk.injEq] at hm
  obtain ⟨rfl, rfl⟩ := hm
  rw [MInv.at1 (zs := zs) (R := R) hL, MInv.at2 (zs := zs) (L := L) hR, ← eL, ← eR]
  exact H2
structure Mgu (ps : PairL) (σ : Sb) : Prop where
  term : TermSb σ
  vars : ∀ v, -8 ≤ v → v < 0 → ∀ s ∈ σ v, -8 ≤ s ∧ s < 6
  same : Same ps ps.length σ
  most : ∀ θ, TermSb θ → Same ps ps.length θ → ∀ v, -8 ≤ v → v < 0 → θ v = App θ (σ v)
  least : ∀ v u, -8 ≤ v → v < 0 → σ v = [u] → u < 0 → v ≤ u
theorem MInv.mgu {ps : PairL} {zs : List Int} {h : Nat → Nat} (M : MInv ps ps.length zs h) (F : ∀ i, i < 8 → Fin zs h i) : ∃ σ, Mgu ps σ ∧ ∀ i, i < 8 → Exp zs h i (σ (-1 - (i : Int))) := by
  obtain ⟨T, S⟩ := M.st
  obtain ⟨σ, Sg⟩ := Sigma.of M.good S M.closed F
  have hv : ∀ v, -8 ≤ v → v < 0 → ∀ s ∈ σ v, -8 ≤ s ∧ s < 6 := fun v h1 h2 => by
    have hE := Sg.exp (-1 - v).toNat (by omega)
    rw [show -1 - (((-1 - v).toNat : Nat) : Int) = v from by omega] at hE
    exact hE.vars M.good S (by have := M.good.eight; omega)
  refine ⟨σ, ⟨Sg.term, hv, fun j hj => ?_, fun θ hθ H => Sg.most θ (M.sound θ hθ H), Sg.least⟩, Sg.exp⟩
  obtain ⟨p, q, hp, hq, e1, e2, e3⟩ := M.tied j hj
  have a := Exp.of_sigma M.good S M.closed Sg.exp _ p (Nat.le_refl _) hp
  have b := Exp.of_sigma M.good S M.closed Sg.exp _ q (Nat.le_refl _) hq
  have := (a.move e3).one _ b
  rw [e1, e2] at this
  exact this
theorem Mgu.one {ps : PairL} {σ τ : Sb} (A : Mgu ps σ) (B : Mgu ps τ) : ∀ v, -8 ≤ v → v < 0 → σ v = τ v :=
  canon_one A.term B.term (fun v h1 h2 s hs _ => (A.vars v h1 h2 s hs).1) (fun v h1 h2 s hs _ => (B.vars v h1 h2 s hs).1) (B.most σ A.term A.same) (A.most τ B.term B.same) A.least B.least
end Wb
def Tm.pairErr (L R : List Int) : Int := if Tm.err L = 0 then Tm.err R else Tm.err L
def Tm.firstPair : PairL → Int
  | [] => 0
  | r :: l => if Tm.pairErr r.1 r.2 = 0 then Tm.firstPair l else Tm.pairErr r.1 r.2
theorem Tm.firstPair_step {rs : PairL} {k : Nat} (hk : k < rs.length) (he : Tm.pairErr (rs[k]?.getD ([], [])).1 (rs[k]?.getD ([], [])).2 = 0) : Tm.firstPair (rs.drop k) = Tm.firstPair (rs.drop (k + 1)) := by
  rw [List.drop_eq_getElem_cons hk, Tm.firstPair]
  simp only [hk, List.getElem?_eq_getElem, Option.getD_some] at he
  rw [if_pos he]
theorem Tm.firstPair_at {rs : PairL} {k : Nat} (hk : k < rs.length) (he : Tm.pairErr (rs[k]?.getD ([], [])).1 (rs[k]?.getD ([], [])).2 ≠ 0) : Tm.firstPair (rs.drop k) = Tm.pairErr (rs[k]?.getD ([], [])).1 (rs[k]?.getD ([], [])).2 := by
  rw [List.drop_eq_getElem_cons hk, Tm.firstPair]
  simp only [hk, List.getElem?_eq_getElem, Option.getD_some] at he ⊢
  rw [if_neg he]
theorem Tm.firstPair_right {rs : PairL} (h : Tm.firstPair rs = 0) : ∀ k, k < rs.length → Tm.err (rs[k]?.getD ([], [])).1 = 0 ∧ Tm.err (rs[k]?.getD ([], [])).2 = 0 := by
  induction rs with
  | nil => intro k hk; simp at hk
  | cons r l ih =>
    rw [Tm.firstPair] at h
    by_cases he : Tm.pairErr r.1 r.2 = 0
    · rw [if_pos he] at h
      intro k hk
      cases k with
      | zero =>
        simp only [List.getElem?_cons_zero, Option.getD_some]
        unfold Tm.pairErr at he
        by_cases hl : Tm.err r.1 = 0
        · rw [if_pos hl] at he; exact ⟨hl, he⟩
        · rw [if_neg hl] at he; exact absurd he hl
      | succ k =>
        simp only [List.getElem?_cons_succ]
        exact ih h k (by simpa using hk)
    · rw [if_neg he] at h
      exact absurd h he
def MeetOk (ps : PairL) (W : World) (e : Ending) : Prop :=
  ((∀ θ, Wb.TermSb θ → ¬ Wb.Same ps ps.length θ) ∧ e = .returned (.tuple #[.slice none 0 0, .bool false, .int .i64 0])) ∨
  ∃ σ, Wb.Mgu ps σ ∧ (((∀ i : Nat, i < 8 → (σ (-1 - (i : Int))).length ≤ 30) ∧ ∃ a, e = .returned (.tuple #[.slice a 8 8, .bool true, .int .i64 0]) ∧ Subs W.heap.size W a ((List.range 8).map fun i : Nat => σ (-1 - (i : Int)))) ∨
    ((∃ i : Nat, i < 8 ∧ 30 < (σ (-1 - (i : Int))).length) ∧ e = .returned (.tuple #[.slice none 0 0, .bool false, .int .i64 2])))
def MeetAns (ps : PairL) (W : World) (e : Ending) : Prop :=
  (Tm.firstPair ps ≠ 0 ∧ e = .returned (.tuple #[.slice none 0 0, .bool false, .int .i64 (Tm.firstPair ps)])) ∨ (Tm.firstPair ps = 0 ∧ MeetOk ps W e)
theorem Tm.known_of {s : Int} (h1 : -8 ≤ s) (h2 : s < 6) : Tm.known s = true := by
  simp [Tm.known]
  omega
theorem Tm.firstErr_of {ss : List (List Int)} (h : ∀ k, k < ss.length → Tm.err (ss[k]?.getD []) = 0) : Tm.firstErr ss = 0 := by
  induction ss with
  | nil => rfl
  | cons t l ih =>
    rw [Tm.firstErr, if_pos (by simpa using h 0 (by simp))]
    exact ih fun k hk => by simpa using h (k + 1) (by simpa using hk)
def Tm.sbL (σ : Wb.Sb) : List (List Int) := (List.range 8).map fun i : Nat => σ (-1 - (i : Int))
theorem Tm.sbL_length (σ : Wb.Sb) : (Tm.sbL σ).length = 8 := by simp [Tm.sbL]
theorem Tm.sbL_at (σ : Wb.Sb) {i : Nat} (h : i < 8) : (Tm.sbL σ)[i]?.getD [] = σ (-1 - (i : Int)) := by
  unfold Tm.sbL
  rw [List.getElem?_map, List.getElem?_range h]
  rfl
theorem Tm.sbL_congr {σ τ : Wb.Sb} (h : ∀ v, -8 ≤ v → v < 0 → σ v = τ v) : Tm.sbL σ = Tm.sbL τ := by
  unfold Tm.sbL
  refine List.map_congr_left fun i hi => ?_
  have := List.mem_range.1 hi
  exact h _ (by omega) (by omega)
theorem Tm.piece_sbL (σ : Wb.Sb) {s : Int} (h8 : -8 ≤ s) : Tm.piece (Tm.sbL σ) s = if s < 0 then σ s else [s] := by
  unfold Tm.piece
  by_cases hs : s < 0
  · rw [if_pos hs, if_pos hs, Tm.sbL_at σ (by omega), show -1 - (((-1 - s).toNat : Nat) : Int) = s from by omega]
  · rw [if_neg hs, if_neg hs]
theorem Tm.applied_sbL (σ : Wb.Sb) : ∀ (t : List Int), t.all Tm.known = true → Tm.applied (Tm.sbL σ) t = Wb.App σ t := by
  intro t
  induction t with
  | nil => intro _; rfl
  | cons s l ih =>
    intro h
    rw [List.all_cons, Bool.and_eq_true] at h
    rw [Tm.applied_cons, Wb.App_cons, ih h.2, Tm.piece_sbL σ (Tm.known_ge h.1)]
def Tm.ofL (us : List (List Int)) (s : Int) : List Int := if -8 ≤ s then us[(-1 - s).toNat]?.getD [] else [s]
theorem Tm.ofL_at (us : List (List Int)) {i : Nat} (h : i < 8) : Tm.ofL us (-1 - (i : Int)) = us[i]?.getD [] := by
  unfold Tm.ofL
  rw [if_pos (by omega), show (-1 - (-1 - (i : Int))).toNat = i from by omega]
theorem Tm.sbL_ofL {us : List (List Int)} (h : us.length = 8) : Tm.sbL (Tm.ofL us) = us := by
  refine List.ext_getElem (by rw [Tm.sbL_length, h]) fun i h1 h2 => ?_
  rw [Tm.sbL_length] at h1
  have e := Tm.sbL_at (Tm.ofL us) h1
  rw [Tm.ofL_at us h1] at e
  rw [List.getElem?_eq_getElem (by rw [Tm.sbL_length]; exact h1), List.getElem?_eq_getElem h2] at e
  exact e
theorem Tm.ofL_term {us : List (List Int)} (h : Tm.subErr us = 0) : Wb.TermSb (Tm.ofL us) := fun s hs => by
  unfold Tm.ofL
  obtain ⟨h1, h2⟩ := Tm.subErr_ok h
  by_cases h8 : -8 ≤ s
  · rw [if_pos h8]
    exact Tm.err_run (Tm.firstErr_all h2 _ (by omega))
  · rw [if_neg h8]
    have : Tm.room s = 0 := Wb.room_var hs
    rw [show (1 : Nat) = 0 + 1 from rfl, Tm.run_cons, this, Tm.run_zero]
    rfl
def Tm.MeetSays (ps : PairL) (er : Int) (is : Bool) (val : List (List Int)) : Prop :=
  (Tm.firstPair ps ≠ 0 ∧ er = Tm.firstPair ps ∧ is = false ∧ val = []) ∨
  (Tm.firstPair ps = 0 ∧ (∀ θ, Wb.TermSb θ → ¬ Wb.Same ps ps.length θ) ∧ er = 0 ∧ is = false ∧ val = []) ∨
  (Tm.firstPair ps = 0 ∧ ∃ σ, Wb.Mgu ps σ ∧ (∀ i : Nat, i < 8 → (σ (-1 - (i : Int))).length ≤ 30) ∧ er = 0 ∧ is = true ∧ val = Tm.sbL σ) ∨
  (Tm.firstPair ps = 0 ∧ ∃ σ, Wb.Mgu ps σ ∧ (∃ i : Nat, i < 8 ∧ 30 < (σ (-1 - (i : Int))).length) ∧ er = 2 ∧ is = false ∧ val = [])
theorem Tm.MeetSays.one {ps : PairL} {er er' : Int} {is is' : Bool} {val val' : List (List Int)} (A : Tm.MeetSays ps er is val) (B : Tm.MeetSays ps er' is' val') : er = er' ∧ is = is' ∧ val = val' := by
  rcases A with ⟨a1, rfl, rfl, rfl⟩ | ⟨a1, a2, rfl, rfl, rfl⟩ | ⟨a1, σ, a2, a3, rfl, rfl, rfl⟩ | ⟨a1, σ, a2, ⟨i, hi, a3⟩, rfl, rfl, rfl⟩ <;>
  rcases B with ⟨b1, rfl, rfl, rfl⟩ | ⟨b1, b2, rfl, rfl, rfl⟩ | ⟨b1, τ, b2, b3, rfl, rfl, rfl⟩ | ⟨b1, τ, b2, ⟨j, hj, b3⟩, rfl, rfl, rfl⟩
  · exact ⟨rfl, rfl, rfl⟩
  · exact absurd b1 a1
  · exact absurd b1 a1
  · exact absurd b1 a1
  · exact absurd a1 b1
  · exact ⟨rfl, rfl, rfl⟩
  · exact absurd b2.same (a2 τ b2.term)
  · exact absurd b2.same (a2 τ b2.term)
  · exact absurd a1 b1
  · exact absurd a2.same (b2 σ a2.term)
  · exact ⟨rfl, rfl, Tm.sbL_congr (a2.one b2)⟩
  · have := a2.one b2 (-1 - (j : Int)) (by omega) (by omega)
    have h := a3 j hj
    rw [this] at h
    omega
  · exact absurd a1 b1
  · exact absurd a2.same (b2 σ a2.term)
  · have := a2.one b2 (-1 - (i : Int)) (by omega) (by omega)
    have h := b3 i hi
    rw [← this] at h
    omega
  · exact ⟨rfl, rfl, rfl⟩
theorem Wb.Mgu.errs {ps : PairL} {σ : Wb.Sb} (M : Wb.Mgu ps σ) (h : ∀ i : Nat, i < 8 → (σ (-1 - (i : Int))).length ≤ 30) : Tm.subErr (Tm.sbL σ) = 0 := by
  have h1 : Tm.firstErr (Tm.sbL σ) = 0 := by
    refine Tm.firstErr_of fun i hi => ?_
    rw [Tm.sbL_length] at hi
    rw [Tm.sbL_at σ hi]
    refine Tm.err_ok (h i hi) ?_ (M.term _ (by omega))
    rw [List.all_eq_true]
    intro s hs
    obtain ⟨h1, h2⟩ := M.vars _ (by omega) (by omega) s hs
    exact Tm.known_of h1 h2
  unfold Tm.subErr
  rw [if_pos (Tm.sbL_length σ), h1]
theorem Tm.firstPair_one (a b : List Int) : Tm.firstPair [(a, b)] = Tm.pairErr a b := by
  rw [Tm.firstPair]
  by_cases h : Tm.pairErr a b = 0
  · rw [if_pos h, h]; rfl
  · rw [if_neg h]
theorem Tm.pairErr_zero {a b : List Int} : Tm.pairErr a b = 0 ↔ Tm.err a = 0 ∧ Tm.err b = 0 := by
  unfold Tm.pairErr
  by_cases h : Tm.err a = 0
  · rw [if_pos h]; exact ⟨fun e => ⟨h, e⟩, fun e => e.2⟩
  · rw [if_neg h]; exact ⟨fun e => absurd e h, fun e => absurd e.1 h⟩
theorem Tm.meet_true {a b : List Int} {val : List (List Int)} (A : Tm.MeetSays [(a, b)] 0 true val) : Tm.subErr val = 0 ∧ Tm.err a = 0 ∧ Tm.err b = 0 ∧ Tm.applied val a = Tm.applied val b ∧ Tm.afterErr val val = 0 ∧ Tm.afterVal val val = val := by
  rcases A with ⟨_, _, h, _⟩ | ⟨_, _, _, h, _⟩ | ⟨a1, σ, M, h30, _, _, rfl⟩ | ⟨_, σ, _, _, _, h, _⟩
  · cases h
  · cases h
  · rw [Tm.firstPair_one, Tm.pairErr_zero] at a1
    have hs := M.errs h30
    have hss : Tm.afterL (Tm.sbL σ) (Tm.sbL σ) = Tm.sbL σ := by
      unfold Tm.afterL
      rw [Tm.sbL, List.map_map]
      refine List.map_congr_left fun i hi => ?_
      have := List.mem_range.1 hi
      show Tm.applied (Tm.sbL σ) (σ _) = σ _
      rw [Tm.applied_sbL σ _ (by
        rw [List.all_eq_true]
        intro s hs
        obtain ⟨h1, h2⟩ := M.vars _ (by omega) (by omega) s hs
        exact Tm.known_of h1 h2)]
      exact (M.most σ M.term M.same _ (by omega) (by omega)).symm
    have he : Tm.afterErr (Tm.sbL σ) (Tm.sbL σ) = 0 := by
      unfold Tm.afterErr
      rw [if_pos hs, if_pos hs, if_pos]
      rw [List.all_eq_true]
      intro t ht
      have hm : Tm.applied (Tm.sbL σ) t ∈ Tm.afterL (Tm.sbL σ) (Tm.sbL σ) := List.mem_map_of_mem ht
      rw [hss] at hm
      unfold Tm.fits
      rw [decide_eq_true_eq]
      obtain ⟨i, hi, e⟩ := List.mem_map.1 hm
      rw [← e]
      exact h30 i (List.mem_range.1 hi)
    refine ⟨hs, a1.1, a1.2, ?_, he, by unfold Tm.afterVal; rw [if_pos he, hss]⟩
    rw [Tm.applied_sbL σ a (Tm.err_all a1.1), Tm.applied_sbL σ b (Tm.err_all a1.2)]
    exact M.same 0 (by simp)
  · cases h
theorem MeetAns.says {ps : PairL} {W : World} {e : Ending} (h : MeetAns ps W e) : ∃ er is val a, Tm.MeetSays ps er is val ∧ e = .returned (.tuple #[.slice a val.length val.length, .bool is, .int .i64 er]) ∧ Subs W.heap.size W a val := by
  rcases h with ⟨h1, rfl⟩ | ⟨h1, ⟨h2, rfl⟩ | ⟨σ, M, ⟨h30, a, rfl, hS⟩ | ⟨h30, rfl⟩⟩⟩
  · exact ⟨_, _, [], none, .inl ⟨h1, rfl, rfl, rfl⟩, rfl, Subs.nil _ _ _⟩
  · exact ⟨_, _, [], none, .inr (.inl ⟨h1, h2, rfl, rfl, rfl⟩), rfl, Subs.nil _ _ _⟩
  · exact ⟨_, _, Tm.sbL σ, a, .inr (.inr (.inl ⟨h1, σ, M, h30, rfl, rfl, rfl⟩)), by rw [Tm.sbL_length], hS⟩
  · exact ⟨_, _, [], none, .inr (.inr (.inr ⟨h1, σ, M, h30, rfl, rfl, rfl⟩)), rfl, Subs.nil _ _ _⟩
end Go.Proofs.Ytgeknojpcjadkaa
namespace Go.Proofs.Ytgeknojpcjadkaa
open Go.Proofs Go.RowKit Go.Shelf
abbrev LeanL := List (Nat × Nat × List (List Int) × List Int)
def Tm.lnErr (ss : List (List Int)) (t : List Int) (k : Int) (R : List Int) : Int := if Tm.putErr t k R = 0 then Tm.applyErr ss (Tm.putVal t k R) else Tm.putErr t k R
def Tm.lnVal (ss : List (List Int)) (t : List Int) (k : Int) (R : List Int) : List Int := if Tm.lnErr ss t k R = 0 then Tm.applyVal ss (Tm.putVal t k R) else []
theorem Tm.ln_ref {val : List (List Int)} {t R : List Int} {m : Nat} (hs : Tm.subErr val = 0) (e1 : Tm.err t = 0) (e2 : Tm.err R = 0) (hm : m < t.length) :
    ((Tm.applied val (Tm.put t m R)).length ≤ 30 ∧ Tm.lnErr val t (m : Int) R = 0 ∧ Tm.lnVal val t (m : Int) R = Tm.applied val (Tm.put t m R)) ∨ (30 < (Tm.applied val (Tm.put t m R)).length ∧ Tm.lnErr val t (m : Int) R = 2) := by
  have hin : insideB (m : Int) 0 ((t.length : Int) - 1) = true := by rw [insideB_iff]; omega
  have hge := Tm.applied_more hs (Tm.put t m R) fun s h => by
    rcases Tm.put_signs h with h | h
    · exact (Tm.known_mem e1 h).1
    · exact (Tm.known_mem e2 h).1
  have hpe : Tm.putErr t (m : Int) R = if 30 < (Tm.put t m R).length then 2 else 0 := by
    unfold Tm.putErr
    rw [if_pos e1, if_pos e2, if_pos hin]
    rfl
  by_cases h1 : 30 < (Tm.put t m R).length
  · rw [if_pos h1] at hpe
    refine .inr ⟨by omega, ?_⟩
    unfold Tm.lnErr
    rw [if_neg (by rw [hpe]; decide), hpe]
  · rw [if_neg h1] at hpe
    have hpv : Tm.putVal t (m : Int) R = Tm.put t m R := by unfold Tm.putVal; rw [if_pos hpe]; rfl
    have ep := Tm.put_err e1 e2 hm (by omega)
    have hae : Tm.applyErr val (Tm.put t m R) = if 30 < (Tm.applied val (Tm.put t m R)).length then 2 else 0 := by unfold Tm.applyErr; rw [if_pos hs, if_pos ep]
    by_cases h2 : 30 < (Tm.applied val (Tm.put t m R)).length
    · rw [if_pos h2] at hae
      refine .inr ⟨h2, ?_⟩
      unfold Tm.lnErr
      rw [if_pos hpe, hpv, hae]
    · rw [if_neg h2] at hae
      have hz : Tm.lnErr val t (m : Int) R = 0 := by
        unfold Tm.lnErr
        rw [if_pos hpe, hpv, hae]
      refine .inl ⟨by omega, hz, ?_⟩
      unfold Tm.lnVal
      rw [if_pos hz, hpv]
      unfold Tm.applyVal
      rw [if_pos hae]
def Tm.LnAt (t : List Int) (k : Nat) (L R : List Int) (m : Nat) (o : LeanL) : Prop :=
  (t[m]?.getD 0 < 0 ∧ o = []) ∨ (¬ t[m]?.getD 0 < 0 ∧ (∃ val, Tm.MeetSays [(Tm.part t m, L)] 0 false val) ∧ o = []) ∨
  (¬ t[m]?.getD 0 < 0 ∧ ∃ val, Tm.MeetSays [(Tm.part t m, L)] 0 true val ∧ Tm.lnErr val t (m : Int) R = 0 ∧ o = [(k, m, val, Tm.lnVal val t (m : Int) R)])
def Tm.LnBad (t L R : List Int) (m : Nat) (e : Int) : Prop :=
  e ≠ 0 ∧ ¬ t[m]?.getD 0 < 0 ∧ ((∃ is val, Tm.MeetSays [(Tm.part t m, L)] e is val) ∨ ∃ val, Tm.MeetSays [(Tm.part t m, L)] 0 true val ∧ Tm.lnErr val t (m : Int) R = e)
theorem Tm.LnAt.one {t : List Int} {k : Nat} {L R : List Int} {m : Nat} {o o' : LeanL} (h : Tm.LnAt t k L R m o) (h' : Tm.LnAt t k L R m o') : o = o' := by
  rcases h with ⟨a1, rfl⟩ | ⟨a1, ⟨val, a2⟩, rfl⟩ | ⟨a1, val, a2, a3, rfl⟩ <;> rcases h' with ⟨b1, rfl⟩ | ⟨b1, ⟨val', b2⟩, rfl⟩ | ⟨b1, val', b2, b3, rfl⟩
  · rfl
  · rfl
  · exact absurd a1 b1
  · rfl
  · rfl
  · have := (a2.one b2).2.1
    cases this
  · exact absurd b1 a1
  · have := (a2.one b2).2.1
    cases this
  · obtain rfl := (a2.one b2).2.2
    rfl
theorem Tm.LnAt.not {t : List Int} {k : Nat} {L R : List Int} {m : Nat} {o : LeanL} {e : Int} (h : Tm.LnAt t k L R m o) (h' : Tm.LnBad t L R m e) : False := by
  obtain ⟨b0, b1, ⟨is, v, b2⟩ | ⟨v, b2, b3⟩⟩ := h'
  · rcases h with ⟨a1, _⟩ | ⟨_, ⟨val, a2⟩, _⟩ | ⟨_, val, a2, _, _⟩
    · exact b1 a1
    · exact b0 (b2.one a2).1
    · exact b0 (b2.one a2).1
  · rcases h with ⟨a1, _⟩ | ⟨_, ⟨val, a2⟩, _⟩ | ⟨_, val, a2, a3, _⟩
    · exact b1 a1
    · have := (b2.one a2).2.1
      cases this
    · obtain rfl := (b2.one a2).2.2
      exact b0 (b3.symm.trans a3)
theorem Tm.LnAt.len {t : List Int} {k : Nat} {L R : List Int} {m : Nat} {o : LeanL} (h : Tm.LnAt t k L R m o) : o.length ≤ 1 := by
  rcases h with ⟨_, rfl⟩ | ⟨_, _, rfl⟩ | ⟨_, _, _, _, rfl⟩ <;> simp
theorem Tm.LnAt.mem {t : List Int} {k : Nat} {L R : List Int} {m : Nat} {o : LeanL} (h : Tm.LnAt t k L R m o) : ∀ x ∈ o, x.1 = k ∧ x.2.1 = m ∧ ¬ t[m]?.getD 0 < 0 ∧ Tm.MeetSays [(Tm.part t m, L)] 0 true x.2.2.1 ∧ Tm.lnErr x.2.2.1 t (m : Int) R = 0 ∧ x.2.2.2 = Tm.lnVal x.2.2.1 t (m : Int) R := by
  rcases h with ⟨_, rfl⟩ | ⟨_, _, rfl⟩ | ⟨h1, val, h2, h3, rfl⟩
  · intro x hx; cases hx
  · intro x hx; cases hx
  · intro x hx
    simp only [List.mem_cons, List.not_mem_nil, or_false] at hx
    subst hx
    exact ⟨rfl, rfl, h1, h2, h3, rfl⟩
def Tm.LnTo (t : List Int) (k : Nat) (L R : List Int) : Nat → LeanL → Prop
  | 0, l => l = []
  | m + 1, l => ∃ l0 o, Tm.LnTo t k L R m l0 ∧ Tm.LnAt t k L R m o ∧ l = l0 ++ o
theorem Tm.LnTo.len {t : List Int} {k : Nat} {L R : List Int} : ∀ {m : Nat} {l : LeanL}, Tm.LnTo t k L R m l → l.length ≤ m
  | 0, _, h => by rw [show _ = _ from h]; exact Nat.le_refl _
  | m + 1, _, ⟨l0, o, h1, h2, h3⟩ => by
    have := Tm.LnTo.len h1
    have := h2.len
    rw [h3, List.length_append]
    omega
def Tm.LnSays (t : List Int) (k : Nat) (L R : List Int) (e : Int) (l : LeanL) : Prop := (e = 0 ∧ Tm.LnTo t k L R t.length l) ∨ ((∃ m, m < t.length ∧ Tm.LnBad t L R m e) ∧ l = [])
theorem Tm.LnTo.nil {t : List Int} {k : Nat} {L R : List Int} : Tm.LnTo t k L R 0 [] := rfl
theorem Tm.LnTo.pass {t : List Int} {k : Nat} {L R : List Int} {m : Nat} {l : LeanL} (h : Tm.LnTo t k L R m l) (hp : t[m]?.getD 0 < 0) : Tm.LnTo t k L R (m + 1) l := ⟨l, [], h, .inl ⟨hp, rfl⟩, (List.append_nil _).symm⟩
theorem Tm.LnTo.no {t : List Int} {k : Nat} {L R : List Int} {m : Nat} {l : LeanL} {val : List (List Int)} (h : Tm.LnTo t k L R m l) (hp : ¬ t[m]?.getD 0 < 0) (hs : Tm.MeetSays [(Tm.part t m, L)] 0 false val) : Tm.LnTo t k L R (m + 1) l := ⟨l, [], h, .inr (.inl ⟨hp, ⟨val, hs⟩, rfl⟩), (List.append_nil _).symm⟩
theorem Tm.LnTo.yes {t : List Int} {k : Nat} {L R : List Int} {m : Nat} {l : LeanL} {val : List (List Int)} (h : Tm.LnTo t k L R m l) (hp : ¬ t[m]?.getD 0 < 0) (hs : Tm.MeetSays [(Tm.part t m, L)] 0 true val) (he : Tm.lnErr val t (m : Int) R = 0) : Tm.LnTo t k L R (m + 1) (l ++ [(k, m, val, Tm.lnVal val t (m : Int) R)]) := ⟨l, _, h, .inr (.inr ⟨hp, val, hs, he, rfl⟩), rfl⟩
end Go.Proofs.Ytgeknojpcjadkaa
namespace Go.Proofs.Ytgeknojpcjadkaa
open Go.Proofs Go.RowKit Go.Shelf Go.Maps
def MeetR (F : Bool → Act) (n : Nat) (wr : World) (B1 B0 : Nat) (zs : List Int) (h : Nat → Nat) (p q : Nat) (e : Exit) (a' : Act) (w4 : World) : Prop :=
  e = .normal ∧ ∃ (qb : Bool) (v3 : Value), a' = F qb ∧ Below n wr w4 ∧ ((qb = true ∧ ∃ h', Wb.TieL zs h h' [(p, q)] ∧ FW w4 B1 B0 v3 zs h') ∨ (qb = false ∧ Wb.No zs h [(p, q)]))
theorem MeetR.panic {F : Bool → Act} {n : Nat} {wr : World} {B1 B0 : Nat} {zs : List Int} {h : Nat → Nat} {p q : Nat} {c : _} {a' : Act} {w4 : World} {G : Prop} (H : MeetR F n wr B1 B0 zs h p q (.panic c) a' w4) : G := by
  cases H.1
theorem rulesAt_of {n B : Nat} {W : World} {rs : RuleL} {cs : Array Value} {t : TypeId} {p : Nat × Nat} (hblk : W.heap[B]? = some (.cells cs t p)) (hB : B < n)
    (h : ∀ k, k < rs.length → ∃ aL aR, cs[k * 2]? = some (.slice aL (rs[k]?.getD ([], [])).1.length (rs[k]?.getD ([], [])).1.length) ∧ cs[k * 2 + 1]? = some (.slice aR (rs[k]?.getD ([], [])).2.length (rs[k]?.getD ([], [])).2.length) ∧
      Ints n W aL (rs[k]?.getD ([], [])).1 ∧ Ints n W aR (rs[k]?.getD ([], [])).2 ∧ (rs[k]?.getD ([], [])).1.length ≤ 1000 ∧ (rs[k]?.getD ([], [])).2.length ≤ 1000) : RulesAt n W (some ⟨B, 0, none⟩) rs := fun k hk => by
  obtain ⟨aL, aR, h1, h2, h3, h4, h5, h6⟩ := h k hk
  refine ⟨B, 0, rfl, hB, aL, _, aR, _, by rw [cell_at hblk, Nat.zero_add]; exact h1, by rw [cell_at hblk, Nat.zero_add]; exact h2, h3, h4, Nat.le_refl _, by unfold maxLen; omega, Nat.le_refl _, by unfold maxLen; omega⟩
def allocs : World → List (List Int) → World
  | w, [] => w
  | w, z :: l => allocs (w.alloc (.cells (z.map (Value.int .i64)).toArray 3)) l
theorem allocs_size : ∀ (l : List (List Int)) (w : World), (allocs w l).heap.size = w.heap.size + l.length := by
  intro l
  induction l with
  | nil => intro w; rfl
  | cons z l ih => intro w; rw [allocs, ih, World.size_alloc, List.length_cons]; omega
theorem allocs_below : ∀ (l : List (List Int)) (w : World), Below w.heap.size w (allocs w l) := by
  intro l
  induction l with
  | nil => intro w; exact Below.refl _ _
  | cons z l ih =>
    intro w
    rw [allocs]
    exact ((Below.refl _ w).alloc (Nat.le_refl _) _).trans ((ih _).mono (by simp))
theorem allocs_ints : ∀ (l : List (List Int)) (w : World) (i : Nat), i < l.length → Ints (w.heap.size + l.length) (allocs w l) (some ⟨w.heap.size + i, 0, none⟩) (l[i]?.getD []) := by
  intro l
  induction l with
  | nil => intro w i hi; simp at hi
  | cons z l ih =>
    intro w i hi
    rw [allocs]
    cases i with
    | zero =>
      have h1 := ints_lit w z (w.heap.size + 1) rfl
      have h2 := h1.below (by rw [← World.size_alloc w (.cells (z.map (Value.int .i64)).toArray 3)]; exact allocs_below l _)
      exact h2.mono (by rw [List.length_cons]; omega)
    | succ i =>
      have h := ih (w.alloc (.cells (z.map (Value.int .i64)).toArray 3)) i (by simpa using hi)
      rw [World.size_alloc] at h
      rw [show w.heap.size + (i + 1) = w.heap.size + 1 + i from by omega, show w.heap.size + (z :: l).length = w.heap.size + 1 + l.length from by rw [List.length_cons]; omega]
      exact h
theorem g_same (xs ys : List Int) (n m c : Nat) (a : Option Addr) (w : World) (hn : n = xs.length) (hm : m = ys.length) (hl : xs.length ≤ 1000) (hI : Ints w.heap.size w a xs) (h : sameB xs ys = true) :
    Calls Try.prog 24 #[.slice a n c, .slice (some ⟨w.heap.size, 0, none⟩) m m] (w.alloc (.cells (ys.map (Value.int .i64)).toArray 3)) fun e w' => e = .returned (.bool true) ∧ Below w.heap.size w w' := by
  subst hn hm
  have hB : Below w.heap.size w (w.alloc (.cells (ys.map (Value.int .i64)).toArray 3)) := (Below.refl _ _).alloc (Nat.le_refl _) _
  refine (same_any xs ys a _ c ys.length _ ((hI.below hB).mono hB.size) (ints_lit w ys _ (by simp)) (by unfold maxLen; omega)).mono ?_
  rintro e w' ⟨rfl, hB'⟩
  exact ⟨by rw [h], hB.trans (hB'.mono hB.size)⟩
def IntT (W : World) (a : Option Addr) (zs : List Int) : Prop := ∀ j, j < zs.length → ∃ b off, a = some ⟨b, off, none⟩ ∧ (∃ cs p, W.heap[b]? = some (.cells cs 3 p)) ∧ W.cell? ⟨b, off + j, none⟩ = some (.int .i64 (zs[j]?.getD 0))
theorem IntT.ints {W : World} {a : Option Addr} {zs : List Int} (h : IntT W a zs) : Ints W.heap.size W a zs := fun j hj => by
  obtain ⟨b, off, e, ⟨cs, p, hb⟩, hc⟩ := h j hj
  exact ⟨b, off, e, (Array.getElem?_eq_some_iff.1 hb).1, hc⟩
theorem IntT.of {base : Nat} {W : World} {v : Value} {zs : List Int} (h : New base W v zs) : ∃ a c, v = .slice a zs.length c ∧ IntT W a zs ∧ zs.length ≤ c ∧ c ≤ maxLen ∧ (a = none → c = 0) := by
  rcases h.2 with ⟨rfl, hn⟩ | ⟨g, cap, cur, rfl, hb, hg, h1, h2, h3, h4⟩
  · exact ⟨none, 0, by rw [hn], fun j hj => by omega, by omega, by unfold maxLen; omega, fun _ => rfl⟩
  · refine ⟨_, cap, rfl, fun j hj => ⟨g, 0, rfl, ⟨cur, _, hg⟩, ?_⟩, h1, h2, fun e => by cases e⟩
    have := World.ownsRow.cellAt (xs := zs.map (Value.int .i64)) h j (by omega)
    rw [Nat.zero_add, this]
    simp [hj]
theorem IntT.keep {W W' : World} {a : Option Addr} {zs : List Int} (h : IntT W a zs) (hk : ∀ (b : Nat) (cs : Array Value) (p : Nat × Nat), W.heap[b]? = some (.cells cs 3 p) → W'.heap[b]? = W.heap[b]?) : IntT W' a zs := fun j hj => by
  obtain ⟨b, off, e, ⟨cs, p, hb⟩, hc⟩ := h j hj
  have h0 := hk b cs p hb
  exact ⟨b, off, e, ⟨cs, p, h0.trans hb⟩, (World.cell?_of_block (a := ⟨b, off + j, none⟩) h0).trans hc⟩
def termT (t : TypeId) : Prop := t = 204 ∨ t = 37
def SubT (W : World) (a : Option Addr) (ss : List (List Int)) : Prop :=
  ∀ j, j < ss.length → ∃ b off aj cj, a = some ⟨b, off, none⟩ ∧ (∃ cs t p, W.heap[b]? = some (.cells cs t p) ∧ termT t) ∧ W.cell? ⟨b, off + j, none⟩ = some (.slice aj (ss[j]?.getD []).length cj) ∧ IntT W aj (ss[j]?.getD []) ∧ (ss[j]?.getD []).length ≤ cj ∧ cj ≤ maxLen ∧ (aj = none → cj = 0)
theorem SubT.nil (W : World) (a : Option Addr) : SubT W a [] := fun j hj => by simp at hj
theorem SubT.subs {W : World} {a : Option Addr} {ss : List (List Int)} (h : SubT W a ss) : Subs W.heap.size W a ss := fun j hj => by
  obtain ⟨b, off, aj, cj, e, ⟨cs, t, p, hb, _⟩, hc, hI, r⟩ := h j hj
  exact ⟨b, off, aj, cj, e, (Array.getElem?_eq_some_iff.1 hb).1, hc, hI.ints, r⟩
theorem SubT.keep {W W' : World} {a : Option Addr} {ss : List (List Int)} (h : SubT W a ss) (hk : ∀ (b : Nat) (cs : Array Value) (t : TypeId) (p : Nat × Nat), W.heap[b]? = some (.cells cs t p) → t = 3 ∨ termT t → W'.heap[b]? = W.heap[b]?) : SubT W' a ss := fun j hj => by
  obtain ⟨b, off, aj, cj, e, ⟨cs, t, p, hb, ht⟩, hc, hI, r⟩ := h j hj
  have h0 := hk b cs t p hb (.inr ht)
  exact ⟨b, off, aj, cj, e, ⟨cs, t, p, h0.trans hb, ht⟩, (World.cell?_of_block (a := ⟨b, off + j, none⟩) h0).trans hc, hI.keep fun b cs p hb => hk b cs _ p hb (.inl rfl), r⟩
theorem SubT.below {W W' : World} {a : Option Addr} {ss : List (List Int)} (h : SubT W a ss) (hB : Below W.heap.size W W') : SubT W' a ss := h.keep fun b _ _ _ hb _ => hB.block b (Array.getElem?_eq_some_iff.1 hb).1
theorem SubT.of {base : Nat} {W : World} {v : Value} {ss : List (List Int)} (h : NewS base W v ss) : ∃ a c, v = .slice a ss.length c ∧ SubT W a ss ∧ ss.length ≤ c ∧ c ≤ maxLen := by
  obtain ⟨us, h1, h2⟩ := h
  have hh := h1
  rcases h1.2 with ⟨rfl, hn⟩ | ⟨g, cap, cur, rfl, hb, hg, q1, q2, _⟩
  · exact ⟨none, 0, by rw [hn], fun j hj => by omega, by omega, by unfold maxLen; omega⟩
  · refine ⟨_, cap, rfl, fun j hj => ?_, q1, q2⟩
    obtain ⟨u, hu, hN⟩ := h2 j hj
    obtain ⟨a, c, rfl, hI, c1, c2, c3⟩ := IntT.of hN
    have := World.ownsRow.cellAt hh j (by omega)
    rw [hu] at this
    exact ⟨g, 0, a, c, rfl, ⟨cur, _, _, hg, .inr rfl⟩, by rw [Nat.zero_add]; exact this, hI, c1, c2, c3⟩
theorem GrowInv.subt {w : World} {Bw Bm b off cap N : Nat} {zs : List Int} {T : Nat → Option Nat} {f : Nat → List Int} {W W' : World} (H : GrowInv w Bw Bm b off cap N zs T f 8 W) (hk : ∀ q, w.heap.size + 1 + 1 + 1 ≤ q → W'.heap[q]? = W.heap[q]?) : SubT W' (some ⟨w.heap.size + 1 + 1 + 1, 0, none⟩) ((List.range 8).map f) := by
  obtain ⟨⟨cs, hblk, h8, hc⟩, b0, b1, b2, hweb, hbl⟩ := H
  intro j hj
  have hj8 : j < 8 := by simpa using hj
  have ej : ((List.range 8).map f)[j]?.getD [] = f j := by simp [hj8]
  obtain ⟨u, hu, hN⟩ := hc j hj8
  have hblk' := (hk _ (Nat.le_refl _)).trans hblk
  have hN' : New (w.heap.size + 1 + 1 + 1 + 1) W' u (f j) := by
    refine ⟨hN.1, hN.2.elim .inl fun ⟨g, c, cur, h1, h2, h3, h4⟩ => .inr ⟨g, c, cur, h1, h2, (hk g (by omega)).trans h3, h4⟩⟩
  obtain ⟨a, c, rfl, hI, h1, h2, h3⟩ := IntT.of hN'
  rw [ej]
  exact ⟨w.heap.size + 1 + 1 + 1, 0, a, c, rfl, ⟨cs, _, _, hblk', .inl rfl⟩, by rw [Nat.zero_add, cell_at hblk', hu], hI, h1, h2, h3⟩
set_option maxRecDepth 100000 in
set_option maxHeartbeats 2000000 in
theorem grow_new (zs : List Int) (G : Wb.Good zs) (T : Nat → Option Nat) (h : Nat → Nat) (S : Wb.St zs T h) (Bw Bm b off cap N : Nat) (f : Nat → List Int) (hf : ∀ i, i < 8 → Wb.Exp zs h i (f i)) (w : World) (hW : WebAt w Bw Bm (some ⟨b, off, none⟩) cap zs N T) :
    Calls Try.prog 143 #[.pointer (some ⟨Bw, 0, none⟩)] w fun e w' => Below w.heap.size w w' ∧ (((∀ i, i < 8 → (f i).length ≤ 30) ∧ ∃ a, e = .returned (.tuple #[.slice a 8 8, .bool true, .int .i64 0]) ∧ SubT w' a ((List.range 8).map f)) ∨
      ((∃ i, i < 8 ∧ 30 < (f i).length) ∧ e = .returned (.tuple #[.slice none 0 0, .bool false, .int .i64 2]))) := by
  have hmf : ∀ (fn : Fn) (first cap : Array Value) (w : World), (Instr.makeFunc fn first cap).run Try.prog w = .ok (.func fn first cap) w := fun _ _ _ _ => rfl
  have h8 := G.eight
  obtain ⟨wl, ml⟩ := hW.lt
  have hbl : b < w.heap.size := by
    obtain ⟨b', off', e, hb, _⟩ := hW.ints.at (by omega)
    cases e
    exact hb
  have hI0 : Hid (GrowInv w Bw Bm b off cap N zs T f 0 ((((w.alloc (.cells #[.slice none 0 0] 58)).alloc (.cells #[.bool false] 4)).alloc (.cells #[.int .i64 0] 31)).alloc (.cells #[.slice none 0 0, .slice none 0 0, .slice none 0 0, .slice none 0 0, .slice none 0 0, .slice none 0 0, .slice none 0 0, .slice none 0 0] 204))) := by
    have hB : Below w.heap.size w ((((w.alloc (.cells #[.slice none 0 0] 58)).alloc (.cells #[.bool false] 4)).alloc (.cells #[.int .i64 0] 31)).alloc (.cells #[.slice none 0 0, .slice none 0 0, .slice none 0 0, .slice none 0 0, .slice none 0 0, .slice none 0 0, .slice none 0 0, .slice none 0 0] 204)) :=
      ((((Below.refl _ w).alloc (Nat.le_refl _) _).alloc (by simp) _).alloc (by simp; omega) _).alloc (by simp; omega) _
    have a0 := (((Boxed.new w 58 (.slice none 0 0)).alloc (.cells #[.bool false] 4)).alloc (.cells #[.int .i64 0] 31)).alloc (.cells #[.slice none 0 0, .slice none 0 0, .slice none 0 0, .slice none 0 0, .slice none 0 0, .slice none 0 0, .slice none 0 0, .slice none 0 0] 204)
    have a1 := ((Boxed.new (w.alloc (.cells #[.slice none 0 0] 58)) 4 (.bool false)).alloc (.cells #[.int .i64 0] 31)).alloc (.cells #[.slice none 0 0, .slice none 0 0, .slice none 0 0, .slice none 0 0, .slice none 0 0, .slice none 0 0, .slice none 0 0, .slice none 0 0] 204)
    have a2 := (Boxed.new ((w.alloc (.cells #[.slice none 0 0] 58)).alloc (.cells #[.bool false] 4)) 31 (.int .i64 0)).alloc (.cells #[.slice none 0 0, .slice none 0 0, .slice none 0 0, .slice none 0 0, .slice none 0 0, .slice none 0 0, .slice none 0 0, .slice none 0 0] 204)
    have a3 := World.alloc_heap_new (((w.alloc (.cells #[.slice none 0 0] 58)).alloc (.cells #[.bool false] 4)).alloc (.cells #[.int .i64 0] 31)) (.cells #[.slice none 0 0, .slice none 0 0, .slice none 0 0, .slice none 0 0, .slice none 0 0, .slice none 0 0, .slice none 0 0, .slice none 0 0] 204)
    simp only [World.size_alloc] at a1 a2 a3
    exact ⟨⟨_, a3, rfl, fun j hj => by omega⟩, a0, a1, a2, hW.below hB, hB⟩
  have HG := hid G
  have HS := hid S
  have Hf := hid hf
  clear G S hf hW
  go_enter_defers Try.func143, Try.ntmps143
  go_wp2_with fail
  go_loopw [8] (fun i wr => ∃ k : Nat, k ≤ 8 ∧ i = .int .i64 (k : Int) ∧ Hid (∀ j, j < k → (f j).length ≤ 30) ∧ Hid (GrowInv w Bw Bm b off cap N zs T f k wr)) (fun i _ => 8 - (intOf i).toNat)
  case atStart => exact ⟨0, by omega, rfl, fun j hj => by omega, hI0⟩
  case round =>
    obtain ⟨k, hk, rfl, hle, hI⟩ := hrel
    by_cases hlt : k < 8
    · have hlt' : (k : Int) < 8 := by omega
      have hC := grown_nil zs HG.out T h HS.out Bw Bm b off cap N (Hf.out k hlt) (by omega) wr hI.out.web
      by_cases h30 : (f k).length ≤ 30
      · have hC' := hid (hC.mono (R' := fun e w' => Below wr.heap.size wr w' ∧ ∃ v, e = .returned v ∧ New wr.heap.size w' v (f k)) (fun e w' hA => ⟨hA.1, hA.2.elim (fun h => h.2) (fun h => absurd h.1 (by omega))⟩))
        have hle' := hid (show ∀ j, j < k + 1 → (f j).length ≤ 30 from fun j hj => if e : j = k then e ▸ h30 else hle.out j (by omega))
        have hsz : w.heap.size + 1 + 1 + 1 + 1 ≤ wr.heap.size := by
          obtain ⟨cs, hblk, _⟩ := hI.out.arr
          have := (Array.getElem?_eq_some_iff.1 hblk).1
          omega
        clear hC h30 hle
        go_wp2_with (first
          | (go_at_call 159; refine hC'.out.mono ?_; clear hC'; rintro e w1 ⟨hB1, v, rfl, hN1⟩; obtain ⟨av, nv, cv, rfl⟩ := hN1.slice3; have hI1 := hid (hI.out.below hB1); obtain ⟨x1, cA, fA⟩ := hI1.out.cellA hlt))
        go_roundw
        case rel => exact ⟨k + 1, by omega, by go_num, hle', hid (hI1.out.set hlt ⟨wl, ml⟩ hbl hN1 hsz)⟩
        case measure => simp [intOf]; omega
      · have hC' := hid (hC.mono (R' := fun e w' => Below wr.heap.size wr w' ∧ e = .panicked manyChain) (fun e w' hA => ⟨hA.1, hA.2.elim (fun h => absurd h.1 h30) (fun h => h.2)⟩))
        clear hC
        go_wp2_with (first
          | (go_at_call 159; refine hC'.out.mono ?_; clear hC'; rintro e w1 ⟨hB1, rfl⟩))
        have hI1 := hI.out.below hB1
        refine leaves_cons (f := 158) (args := #[.pointer (some ⟨w.heap.size, 0, none⟩), .pointer (some ⟨w.heap.size + 1, 0, none⟩), .pointer (some ⟨w.heap.size + 1 + 1, 0, none⟩)]) (by simp) (by simp [go_sem]) ?_
        refine (grow_caught w.heap.size w1 hI1.b0 hI1.b1 hI1.b2).mono ?_
        rintro e u' w2 ⟨rfl, rfl, hB2, d0, d1, d2⟩
        exact ⟨_, results_box3 rfl rfl rfl rfl d0.cell d1.cell d2.cell, hI1.bl.trans hB2, .inr ⟨⟨k, hlt, by omega⟩, rfl⟩⟩
    · obtain rfl : k = 8 := by omega
      have e0 := hI.out.b0.cell
      have e1 := hI.out.b1.cell
      have e2 := hI.out.b2.cell
      have f0 := hI.out.b0.frozen
      have f1 := hI.out.b1.frozen
      have f2 := hI.out.b2.frozen
      go_wp2
      refine leaves_cons (f := 158) (args := #[.pointer (some ⟨w.heap.size, 0, none⟩), .pointer (some ⟨w.heap.size + 1, 0, none⟩), .pointer (some ⟨w.heap.size + 1 + 1, 0, none⟩)]) (by simp) (by simp [go_sem]) ?_
      refine (grow_idle ⟨w.heap.size, 0, none⟩ ⟨w.heap.size + 1, 0, none⟩ ⟨w.heap.size + 1 + 1, 0, none⟩ _).mono ?_
      rintro e u' w2 ⟨rfl, rfl, rfl⟩
      have hI1 := hI.out
      have d0 := ((hI1.b0.set (.slice (some ⟨w.heap.size + 1 + 1 + 1, 0, none⟩) 8 8)).other (B' := w.heap.size + 1) (by omega) (.bool true)).other (B' := w.heap.size + 1 + 1) (by omega) (.int .i64 0)
      have d1 := ((hI1.b1.other (B' := w.heap.size) (by omega) (.slice (some ⟨w.heap.size + 1 + 1 + 1, 0, none⟩) 8 8)).set (.bool true)).other (B' := w.heap.size + 1 + 1) (by omega) (.int .i64 0)
      have d2 := ((hI1.b2.other (B' := w.heap.size) (by omega) (.slice (some ⟨w.heap.size + 1 + 1 + 1, 0, none⟩) 8 8)).other (B' := w.heap.size + 1) (by omega) (.bool true)).set (.int .i64 0)
      refine ⟨_, results_box3 rfl rfl rfl rfl d0.cell d1.cell d2.cell, ?_, .inl ⟨hle.out, _, rfl, ?_⟩⟩
      · exact ((hI1.bl.setCell (p := ⟨w.heap.size, 0, none⟩) (Nat.le_refl _) _).setCell (p := ⟨w.heap.size + 1, 0, none⟩) (by show w.heap.size ≤ w.heap.size + 1; omega) _).setCell (p := ⟨w.heap.size + 1 + 1, 0, none⟩) (by show w.heap.size ≤ w.heap.size + 1 + 1; omega) _
      · refine hI1.subt (fun q hq => ?_)
        exact ((Below.heap_setCell _ ⟨w.heap.size + 1 + 1, 0, none⟩ _ q (show q ≠ w.heap.size + 1 + 1 by omega)).trans (Below.heap_setCell _ ⟨w.heap.size + 1, 0, none⟩ _ q (show q ≠ w.heap.size + 1 by omega))).trans (Below.heap_setCell _ ⟨w.heap.size, 0, none⟩ _ q (show q ≠ w.heap.size by omega))
def MeetOkT (ps : PairL) (W : World) (e : Ending) : Prop :=
  ((∀ θ, Wb.TermSb θ → ¬ Wb.Same ps ps.length θ) ∧ e = .returned (.tuple #[.slice none 0 0, .bool false, .int .i64 0])) ∨
  ∃ σ, Wb.Mgu ps σ ∧ (((∀ i : Nat, i < 8 → (σ (-1 - (i : Int))).length ≤ 30) ∧ ∃ a, e = .returned (.tuple #[.slice a 8 8, .bool true, .int .i64 0]) ∧ SubT W a ((List.range 8).map fun i : Nat => σ (-1 - (i : Int)))) ∨
    ((∃ i : Nat, i < 8 ∧ 30 < (σ (-1 - (i : Int))).length) ∧ e = .returned (.tuple #[.slice none 0 0, .bool false, .int .i64 2])))
def MeetAnsT (ps : PairL) (W : World) (e : Ending) : Prop :=
  (Tm.firstPair ps ≠ 0 ∧ e = .returned (.tuple #[.slice none 0 0, .bool false, .int .i64 (Tm.firstPair ps)])) ∨ (Tm.firstPair ps = 0 ∧ MeetOkT ps W e)
theorem MeetAnsT.says {ps : PairL} {W : World} {e : Ending} (h : MeetAnsT ps W e) : ∃ er is val a, Tm.MeetSays ps er is val ∧ e = .returned (.tuple #[.slice a val.length val.length, .bool is, .int .i64 er]) ∧ SubT W a val := by
  rcases h with ⟨h1, rfl⟩ | ⟨h1, ⟨h2, rfl⟩ | ⟨σ, M, ⟨h30, a, rfl, hS⟩ | ⟨h30, rfl⟩⟩⟩
  · exact ⟨_, _, [], none, .inl ⟨h1, rfl, rfl, rfl⟩, rfl, SubT.nil _ _⟩
  · exact ⟨_, _, [], none, .inr (.inl ⟨h1, h2, rfl, rfl, rfl⟩), rfl, SubT.nil _ _⟩
  · exact ⟨_, _, Tm.sbL σ, a, .inr (.inr (.inl ⟨h1, σ, M, h30, rfl, rfl, rfl⟩)), by rw [Tm.sbL_length], hS⟩
  · exact ⟨_, _, [], none, .inr (.inr (.inr ⟨h1, σ, M, h30, rfl, rfl, rfl⟩)), rfl, SubT.nil _ _⟩
set_option maxRecDepth 100000 in
set_option maxHeartbeats 30000000 in
theorem meet_new (ps : PairL) (h40 : ps.length ≤ 40) (a : Option Addr) (cap : Nat) (w : World) (hP : RulesAt w.heap.size w a ps) :
    Calls Try.prog 116 #[.slice a ps.length cap] w fun e w' => Below w.heap.size w w' ∧ MeetAnsT ps w' e := by
  have h40' : (ps.length : Int) ≤ 40 := by omega
  have HP := hid hP
  clear hP
  go_enter Try.func116, Try.ntmps116
  go_wp2_with fail
  go_loopw [14] (fun v wr => ∃ k : Nat, k ≤ ps.length ∧ v = .int .i64 (k : Int) ∧ Hid (Tm.firstPair ps = Tm.firstPair (ps.drop k)) ∧ Below w.heap.size w wr) (fun v _ => ps.length - (intOf v).toNat)
  case atStart => exact ⟨0, Nat.zero_le _, rfl, hid rfl, Below.refl _ _⟩
  case round =>
    obtain ⟨k, hk, rfl, hst, hB⟩ := hrel
    by_cases hlt : k < ps.length
    · have hlt' : (k : Int) < (ps.length : Int) := by omega
      obtain ⟨b, off, rfl, hb, aL, cL, aR, cR, h1, h2, h3, h4, _⟩ := (HP.out.below hB) k hlt
      have hs1 := hid (Tm.firstPair_step hlt)
      have hs2 := hid (Tm.firstPair_at hlt)
      obtain ⟨L, hL⟩ : ∃ L, (ps[k]?.getD ([], [])).1 = L := ⟨_, rfl⟩
      obtain ⟨R, hR⟩ : ∃ R, (ps[k]?.getD ([], [])).2 = R := ⟨_, rfl⟩
      rw [hL] at h1 h3 hs1 hs2
      rw [hR] at h2 h4 hs1 hs2
      have hBa : Below wr.heap.size wr (wr.alloc (.cells #[.slice aL L.length cL, .slice aR R.length cR] 42)) := (Below.refl _ wr).alloc (Nat.le_refl _) _
      have hC1 := hid (check_any L aL cL (wr.alloc (.cells #[.slice aL L.length cL, .slice aR R.length cR] 42)) (((h3.mono hB.size).below hBa).mono hBa.size))
      have hC2 := hid (fun w2 (hB2 : Below (wr.alloc (.cells #[.slice aL L.length cL, .slice aR R.length cR] 42)).heap.size (wr.alloc (.cells #[.slice aL L.length cL, .slice aR R.length cR] 42)) w2) => check_any R aR cR w2 (((((h4.mono hB.size).below hBa).mono hBa.size).below hB2).mono hB2.size))
      have hBw := hB.trans (hBa.mono hB.size)
      have hq : Hid (Tm.pairErr L R = if Tm.err L = 0 then Tm.err R else Tm.err L) := rfl
      have hsa : (wr.alloc (.cells #[.slice aL L.length cL, .slice aR R.length cR] 42)).heap.size = wr.heap.size + 1 := by simp
      have hcp : (wr.alloc (.cells #[.slice aL L.length cL, .slice aR R.length cR] 42)).cell? ⟨wr.heap.size, 1, none⟩ = some (.slice aR R.length cR) := (cell_at (World.alloc_heap_new wr _) 1).trans rfl
      clear hL hR h3 h4
      by_cases heL : Tm.err L = 0
      · rw [heL] at hC1
        by_cases heR : Tm.err R = 0
        · rw [heR] at hC2
          have Hs := hid (hs1.out (by rw [hq.out, if_pos heL, heR]))
          clear heL heR hs1 hs2 hq
          go_wp2_with (first
            | (go_at_call_of 53 (Value.slice aL L.length cL); refine hC1.out.mono ?_; clear hC1; rintro e w2 ⟨rfl, b2⟩; have hc2 := (b2.cell (p := ⟨wr.heap.size, 1, none⟩) (by rw [hsa]; exact Nat.lt_succ_self _)).trans hcp)
            | (go_at_call_of 53 (Value.slice aR R.length cR); refine (hC2.out w2 b2).mono ?_; clear hC2; rintro e w5 ⟨rfl, b5⟩))
          go_roundw
          case rel => exact ⟨k + 1, by omega, by go_num, hid (hst.out.trans Hs.out), (hBw.trans (b2.mono hBw.size)).trans (b5.mono (hBw.trans (b2.mono hBw.size)).size)⟩
          case measure => simp [intOf]; omega
        · have hn : (Tm.err R != 0) = true := by simpa using heR
          have Hs := hid (hs2.out (by rw [hq.out, if_pos heL]; exact heR))
          have Hv := hid (show Tm.pairErr L R = Tm.err R by rw [hq.out, if_pos heL])
          have hne := hid heR
          clear heL heR hs1 hs2 hq
          generalize Tm.err R = q at *
          go_wp2_with (first
            | (go_at_call_of 53 (Value.slice aL L.length cL); refine hC1.out.mono ?_; clear hC1; rintro e w2 ⟨rfl, b2⟩; have hc2 := (b2.cell (p := ⟨wr.heap.size, 1, none⟩) (by rw [hsa]; exact Nat.lt_succ_self _)).trans hcp)
            | (go_at_call_of 53 (Value.slice aR R.length cR); refine (hC2.out w2 b2).mono ?_; clear hC2; rintro e w5 ⟨rfl, b5⟩))
          go_ret3
          have he := hst.out.trans (Hs.out.trans Hv.out)
          exact ⟨(hBw.trans (b2.mono hBw.size)).trans (b5.mono (hBw.trans (b2.mono hBw.size)).size), .inl ⟨by rw [he]; exact hne.out, by rw [he]; rfl⟩⟩
      · have hn : (Tm.err L != 0) = true := by simpa using heL
        have Hs := hid (hs2.out (by rw [hq.out, if_neg heL]; exact heL))
        have Hv := hid (show Tm.pairErr L R = Tm.err L by rw [hq.out, if_neg heL])
        have hne := hid heL
        clear heL hs1 hs2 hq
        generalize Tm.err L = q at *
        go_wp2_with (first
          | (go_at_call_of 53 (Value.slice aL L.length cL); refine hC1.out.mono ?_; clear hC1; rintro e w2 ⟨rfl, b2⟩))
        go_ret3
        have he := hst.out.trans (Hs.out.trans Hv.out)
        exact ⟨hBw.trans (b2.mono hBw.size), .inl ⟨by rw [he]; exact hne.out, by rw [he]; rfl⟩⟩
    · obtain rfl : k = ps.length := by omega
      have hok : Hid (Tm.firstPair ps = 0) := by
        show _ = _
        rw [hst.out, List.drop_length]
        rfl
      go_wp2_with (first
        | (go_at_call 139; refine (newWeb_any wr).mono ?_; rintro e w5 ⟨v5, rfl, hF5, hB5⟩))
      have hsw := hB.size
      have hB5w := hB.trans (hB5.mono hB.size)
      have HF5 := hid hF5
      obtain ⟨W0, hW0⟩ : ∃ n, n = wr.heap.size := ⟨_, rfl⟩
      rw [← hW0] at HF5 hsw
      clear hF5 hst
      go_wp2_with fail
      rw [← hW0]
      clear hW0 hB5 hB
      go_loopw [34] (fun x wq => ∃ (k : Nat) (zs : List Int) (h : Nat → Nat) (v : Value), k ≤ ps.length ∧ x = .int .i64 (k : Int) ∧ Hid (Wb.MInv ps k zs h) ∧ Hid (FW wq (W0 + 1) W0 v zs h) ∧ Hid (Below w.heap.size w wq)) (fun x _ => ps.length - (intOf x).toNat)
      case atStart => exact ⟨0, _, _, v5, by omega, rfl, Wb.MInv.start ps, HF5, hB5w⟩
      case round =>
        obtain ⟨k, zs, h, v, hk2, rfl, hM, hF, hBq⟩ := hrel
        by_cases hlt : k < ps.length
        · have hlt' : (k : Int) < (ps.length : Int) := by omega
          obtain ⟨b, off, rfl, hb, aL, cL, aR, cR, h1, h2, h3, h4, _⟩ := (HP.out.below hBq.out) k hlt
          obtain ⟨eL0, eR0⟩ := Tm.firstPair_right hok.out k hlt
          obtain ⟨L, hL⟩ : ∃ L, (ps[k]?.getD ([], [])).1 = L := ⟨_, rfl⟩
          obtain ⟨R, hR⟩ : ∃ R, (ps[k]?.getD ([], [])).2 = R := ⟨_, rfl⟩
          rw [hL] at h1 h3 eL0
          rw [hR] at h2 h4 eR0
          have lL := Tm.err_len eL0
          have lR := Tm.err_len eR0
          have pL := Tm.err_pos eL0
          have pR := Tm.err_pos eR0
          have hzl := hM.out.len
          have G2 := hid (hM.out.good2 eL0 eR0 lL lR (by omega))
          have hsz := hBq.out.size
          have hlw := hF.out.lt
          obtain ⟨p, hp⟩ : ∃ p, p = zs.length := ⟨_, rfl⟩
          obtain ⟨q, hq⟩ : ∃ q, q = (zs ++ L).length := ⟨_, rfl⟩
          have hpq : q = p + L.length := by rw [hp, hq, List.length_append]
          have hBa : Below wr.heap.size wr ((wr.alloc (.cells #[.slice aL L.length cL, .slice aR R.length cR] 42)).drewN 1) := below_drewN ((Below.refl _ wr).alloc (Nat.le_refl _) _) 1
          have hsa : ((wr.alloc (.cells #[.slice aL L.length cL, .slice aR R.length cR] 42)).drewN 1).heap.size = wr.heap.size + 1 := by show (wr.alloc _).heap.size = _; simp
          have hblk : ((wr.alloc (.cells #[.slice aL L.length cL, .slice aR R.length cR] 42)).drewN 1).heap[wr.heap.size]? = some (.cells #[.slice aL L.length cL, .slice aR R.length cR] 42) := World.alloc_heap_new wr _
          have hnone : ∀ {x : Option Addr} {t : List Int} {W : World} {n c : Nat}, Ints n W x t → 0 < t.length → x = none → t.length = 0 ∧ c = 0 := fun {x t W n c} hI h0 e => by
            obtain ⟨b', off', e', _⟩ := hI.at h0
            rw [e] at e'
            cases e'
          have hC1 := hid (fw_lay zs L h (W0 + 1) W0 v aL cL _ (hF.out.keep hBa) (((h3.mono hsz).below hBa).mono hBa.size) (hnone h3 pL) (by omega))
          have hC2 := hid (fun w2 v2 (hF2 : FW w2 (W0 + 1) W0 v2 (zs ++ L) h) (hB2 : Below w.heap.size wr w2) => fw_lay (zs ++ L) R h (W0 + 1) W0 v2 aR cR w2 hF2 ((h4.below hB2).mono (by have := hB2.size; omega)) (hnone h4 pR) (by rw [List.length_append]; omega))
          rw [← hp] at hC1
          rw [← hq] at hC2
          have hlen3 : (zs ++ L ++ R).length = p + L.length + R.length := by rw [hp, List.length_append, List.length_append]
          have hT := hid (fun w3 v3 (hF3 : FW w3 (W0 + 1) W0 v3 (zs ++ L ++ R) h) => fw_tie (zs ++ L ++ R) G2.out h (W0 + 1) W0 v3 p q w3 (by omega) (by omega) hF3)
          have hstep := hid (fun h' hTL S' => hM.out.step eL0 eR0 lL lR (by omega) hL hR pL pR (h' := h') hTL S')
          have hno := hid (fun hN => hM.out.no eL0 eR0 lL (by omega) hL hR hN)
          rw [← hp, ← hq] at hstep hno
          have hwk : Hid (∀ (w1 w2 : World) (u : Value) (zz : List Int) (hh : Nat → Nat), FW w1 (W0 + 1) W0 u zz hh → WKeep w1 w2 (W0 + 1) W0 u → Below w.heap.size w1 w2) := fun w1 w2 u zz hh hf hk => ⟨hk.1, hk.2.1, hk.2.2.1, hk.2.2.2.1, fun x hx => hk.2.2.2.2 x (by have := hf.lt; omega) (by omega) (by omega) (fun e => by have := (World.ownsRow.lt hf.own.2 x e.symm).1; omega)⟩
          have hFa := hid (hF.out.keep hBa)
          have hvo := hid (fun x (e : v.ownBlock = some x) => (World.ownsRow.lt hF.out.own.2 x e).2)
          clear hL hR h3 h4 hp hq hnone hM hF eL0 eR0 hpq hlen3
          have hcc : Hid (∀ W : World, W.heap[wr.heap.size]? = some (.cells #[.slice aL L.length cL, .slice aR R.length cR] 42) → W.cell? ⟨wr.heap.size, 0, none⟩ = some (.slice aL L.length cL) ∧ W.cell? ⟨wr.heap.size, 1, none⟩ = some (.slice aR R.length cR)) := fun W hW => ⟨(cell_at hW 0).trans rfl, (cell_at hW 1).trans rfl⟩
          have hb2 : Hid (∀ (w2 : World), WKeep ((wr.alloc (.cells #[.slice aL L.length cL, .slice aR R.length cR] 42)).drewN 1) w2 (W0 + 1) W0 v → w2.heap[wr.heap.size]? = some (.cells #[.slice aL L.length cL, .slice aR R.length cR] 42)) := fun w2 hk => (hk.2.2.2.2 wr.heap.size (by rw [hsa]; omega) (by omega) (by omega) (fun e => by have := hvo.out _ e.symm; omega)).trans hblk
          have hS0 := hcc.out _ hblk
          have hS0' : (wr.alloc (.cells #[.slice aL L.length cL, .slice aR R.length cR] 42)).cell? ⟨wr.heap.size, 0, none⟩ = some (.slice aL L.length cL) ∧ (wr.alloc (.cells #[.slice aL L.length cL, .slice aR R.length cR] 42)).cell? ⟨wr.heap.size, 1, none⟩ = some (.slice aR R.length cR) := hS0
          go_wp2_with fail
          have mixed : Try.prog.follows .mixedOrders = true := by kernel_rfl
          refine wp_mono (Q := MeetR (fun qb => { tmps := #[.slice (some ⟨b, off, none⟩) ps.length cap, undef, u2, u3, u4, undef, u6, u7, u8, .pointer (some ⟨W0 + 1, 0, none⟩), undef, .pointer (some ⟨wr.heap.size, 0, none⟩), .slice (some ⟨b, off, none⟩) ps.length cap, .int .i64 (ps.length : Int), .int .i64 (ps.length : Int), .bool false, u16, u17, u18, u19, u20, u21, u22, u23, u24, u25, u26, u27, u28, u29, u30, .pointer (some ⟨W0 + 1, 0, none⟩), .slice (some ⟨b, off, none⟩) ps.length cap, .int .i64 (ps.length : Int), .int .i64 (k : Int), .bool true, .pointer (some ⟨b, off + k * 2, none⟩), .agg #[.slice aL L.length cL, .slice aR R.length cR], .pointer (some ⟨W0 + 1, 0, none⟩), .pointer (some ⟨W0 + 1, 0, none⟩), .pointer (some ⟨wr.heap.size, 0, none⟩), .slice aL L.length cL, .int .i64 (p : Int), .pointer (some ⟨W0 + 1, 0, none⟩), .pointer (some ⟨wr.heap.size, 1, none⟩), .slice aR R.length cR, .int .i64 (q : Int), .bool qb, .bool !qb, u49, undef, undef, undef, undef, undef, undef, undef], defers := [] }) w.heap.size wr (W0 + 1) W0 (zs ++ L ++ R) h p q) ?reg ?aft
          case reg =>
           refine wp_region_any mixed ?_
           change wpAny _ _ _ _ _ _ _ (World.drew _)
           show wpAny _ _ _ _ 11 (Array.replicate 11 false) _ _
           refine wpAny_take (i := 0) (v := .pointer (some ⟨W0 + 1, 0, none⟩)) rfl (by kernel_rfl) (by kernel_rfl) (by kernel_rfl) (fun _ _ _ h => h.panic) (Or.inl ⟨by rfl, fun w => by go_simp⟩) ?_
           refine wpAny_take (i := 1) (v := .pointer (some ⟨W0 + 1, 0, none⟩)) rfl (by kernel_rfl) (by kernel_rfl) (by kernel_rfl) (fun _ _ _ h => h.panic) (Or.inl ⟨by rfl, fun w => by go_simp⟩) ?_
           refine wpAny_take (i := 2) (v := .pointer (some ⟨wr.heap.size, 0, none⟩)) rfl (by kernel_rfl) (by kernel_rfl) (by kernel_rfl) (fun _ _ _ h => h.panic) (Or.inl ⟨by rfl, fun w => by go_simp⟩) ?_
           refine wpAny_take (i := 5) (v := .pointer (some ⟨W0 + 1, 0, none⟩)) rfl (by kernel_rfl) (by kernel_rfl) (by kernel_rfl) (fun _ _ _ h => h.panic) (Or.inl ⟨by rfl, fun w => by go_simp⟩) ?_
           refine wpAny_take (i := 6) (v := .pointer (some ⟨wr.heap.size, 1, none⟩)) rfl (by kernel_rfl) (by kernel_rfl) (by kernel_rfl) (fun _ _ _ h => h.panic) (Or.inl ⟨by rfl, fun w => by go_simp⟩) ?_
           refine wpAny_ready (rs := [3, 7]) (by kernel_rfl) (by simp) ?_
           refine AllReady.cons rfl (fun K hK => ?_) (AllReady.cons rfl (fun K hK => ?_) AllReady.nil)
           · go_simp
             refine hK _ _ ?_
             clear hK K
             refine wpAny_ready (rs := [4, 7]) (by kernel_rfl) (by simp) ?_
             refine AllReady.cons rfl (fun K hK => ?_) (AllReady.cons rfl (fun K hK => ?_) AllReady.nil)
             · go_simp
               refine hC1.out.mono ?_
               rintro e w2 ⟨rfl, v2, hF2, hK2, ho2⟩
               have hb22 := hb2.out w2 hK2
               have hS2 : w2.cell? ⟨wr.heap.size, 0, none⟩ = some (.slice aL L.length cL) ∧ w2.cell? ⟨wr.heap.size, 1, none⟩ = some (.slice aR R.length cR) := hcc.out w2 hb22
               have c21 := hS2.2
               have hB2 : Below w.heap.size wr w2 := (hBa.mono hsz).trans (hwk.out _ w2 v _ _ hFa.out hK2)
               refine hK _ _ ?_
               clear hK K
               refine wpAny_ready (rs := [7]) (by kernel_rfl) (by simp) ?_
               refine AllReady.cons rfl (fun K hK => ?_) AllReady.nil
               go_simp
               refine hK _ _ ?_
               clear hK K
               refine wpAny_ready (rs := [8]) (by kernel_rfl) (by simp) ?_
               refine AllReady.cons rfl (fun K hK => ?_) AllReady.nil
               go_simp
               refine (hC2.out w2 v2 hF2 hB2).mono ?_
               rintro e w3 ⟨rfl, v3, hF3, hK3, ho3⟩
               have hb33 : w3.heap[wr.heap.size]? = some (.cells #[.slice aL L.length cL, .slice aR R.length cR] 42) := (hK3.2.2.2.2 wr.heap.size (Array.getElem?_eq_some_iff.1 hb22).1 (by omega) (by omega) (fun e => by rcases ho2 _ e.symm with h | h; exact absurd (hvo.out _ h) (Nat.lt_irrefl _); rw [hsa] at h; omega)).trans hb22
               have hS3 : w3.cell? ⟨wr.heap.size, 0, none⟩ = some (.slice aL L.length cL) ∧ w3.cell? ⟨wr.heap.size, 1, none⟩ = some (.slice aR R.length cR) := hcc.out w3 hb33
               have hB3 : Below w.heap.size wr w3 := hB2.trans (hwk.out _ w3 v2 _ _ hF2 hK3)
               refine hK _ _ ?_
               clear hK K
               refine wpAny_ready (rs := [9]) (by kernel_rfl) (by simp) ?_
               refine AllReady.cons rfl (fun K hK => ?_) AllReady.nil
               go_simp
               refine (hT.out w3 v3 hF3).mono ?_
               rintro e w4 ⟨qb, rfl, hK4, hq4⟩
               have hb44 : w4.heap[wr.heap.size]? = some (.cells #[.slice aL L.length cL, .slice aR R.length cR] 42) := (hK4.block _ (Array.getElem?_eq_some_iff.1 hb33).1 (by omega)).trans hb33
               have hS4 : w4.cell? ⟨wr.heap.size, 0, none⟩ = some (.slice aL L.length cL) ∧ w4.cell? ⟨wr.heap.size, 1, none⟩ = some (.slice aR R.length cR) := hcc.out w4 hb44
               have hB4 : Below w.heap.size wr w4 := hB3.trans ⟨hK4.os, hK4.tape, hK4.output, hK4.size, fun x hx => hK4.block x (by have := hB3.size; omega) (by omega)⟩
               refine hK _ _ ?_
               clear hK K
               refine wpAny_ready (rs := [10]) (by kernel_rfl) (by simp) ?_
               refine AllReady.cons rfl (fun K hK => ?_) AllReady.nil
               go_simp
               refine hK _ _ ?_
               clear hK K
               refine wpAny_done (by kernel_rfl) ?_ _
               exact ⟨rfl, qb, v3, rfl, hB4, hq4⟩
             · go_simp
               refine hK _ _ ?_
               clear hK K
               refine wpAny_ready (rs := [4]) (by kernel_rfl) (by simp) ?_
               refine AllReady.cons rfl (fun K hK => ?_) AllReady.nil
               go_simp
               refine hC1.out.mono ?_
               rintro e w2 ⟨rfl, v2, hF2, hK2, ho2⟩
               have hb22 := hb2.out w2 hK2
               have hS2 : w2.cell? ⟨wr.heap.size, 0, none⟩ = some (.slice aL L.length cL) ∧ w2.cell? ⟨wr.heap.size, 1, none⟩ = some (.slice aR R.length cR) := hcc.out w2 hb22
               have c21 := hS2.2
               have hB2 : Below w.heap.size wr w2 := (hBa.mono hsz).trans (hwk.out _ w2 v _ _ hFa.out hK2)
               refine hK _ _ ?_
               clear hK K
               refine wpAny_ready (rs := [8]) (by kernel_rfl) (by simp) ?_
               refine AllReady.cons rfl (fun K hK => ?_) AllReady.nil
               go_simp
               refine (hC2.out w2 v2 hF2 hB2).mono ?_
               rintro e w3 ⟨rfl, v3, hF3, hK3, ho3⟩
               have hb33 : w3.heap[wr.heap.size]? = some (.cells #[.slice aL L.length cL, .slice aR R.length cR] 42) := (hK3.2.2.2.2 wr.heap.size (Array.getElem?_eq_some_iff.1 hb22).1 (by omega) (by omega) (fun e => by rcases ho2 _ e.symm with h | h; exact absurd (hvo.out _ h) (Nat.lt_irrefl _); rw [hsa] at h; omega)).trans hb22
               have hS3 : w3.cell? ⟨wr.heap.size, 0, none⟩ = some (.slice aL L.length cL) ∧ w3.cell? ⟨wr.heap.size, 1, none⟩ = some (.slice aR R.length cR) := hcc.out w3 hb33
               have hB3 : Below w.heap.size wr w3 := hB2.trans (hwk.out _ w3 v2 _ _ hF2 hK3)
               refine hK _ _ ?_
               clear hK K
               refine wpAny_ready (rs := [9]) (by kernel_rfl) (by simp) ?_
               refine AllReady.cons rfl (fun K hK => ?_) AllReady.nil
               go_simp
               refine (hT.out w3 v3 hF3).mono ?_
               rintro e w4 ⟨qb, rfl, hK4, hq4⟩
               have hb44 : w4.heap[wr.heap.size]? = some (.cells #[.slice aL L.length cL, .slice aR R.length cR] 42) := (hK4.block _ (Array.getElem?_eq_some_iff.1 hb33).1 (by omega)).trans hb33
               have hS4 : w4.cell? ⟨wr.heap.size, 0, none⟩ = some (.slice aL L.length cL) ∧ w4.cell? ⟨wr.heap.size, 1, none⟩ = some (.slice aR R.length cR) := hcc.out w4 hb44
               have hB4 : Below w.heap.size wr w4 := hB3.trans ⟨hK4.os, hK4.tape, hK4.output, hK4.size, fun x hx => hK4.block x (by have := hB3.size; omega) (by omega)⟩
               refine hK _ _ ?_
               clear hK K
               refine wpAny_ready (rs := [10]) (by kernel_rfl) (by simp) ?_
               refine AllReady.cons rfl (fun K hK => ?_) AllReady.nil
               go_simp
               refine hK _ _ ?_
               clear hK K
               refine wpAny_done (by kernel_rfl) ?_ _
               exact ⟨rfl, qb, v3, rfl, hB4, hq4⟩
           · go_simp
             refine hK _ _ ?_
             clear hK K
             refine wpAny_ready (rs := [3]) (by kernel_rfl) (by simp) ?_
             refine AllReady.cons rfl (fun K hK => ?_) AllReady.nil
             go_simp
             refine hK _ _ ?_
             clear hK K
             refine wpAny_ready (rs := [4]) (by kernel_rfl) (by simp) ?_
             refine AllReady.cons rfl (fun K hK => ?_) AllReady.nil
             go_simp
             refine hC1.out.mono ?_
             rintro e w2 ⟨rfl, v2, hF2, hK2, ho2⟩
             have hb22 := hb2.out w2 hK2
             have hS2 : w2.cell? ⟨wr.heap.size, 0, none⟩ = some (.slice aL L.length cL) ∧ w2.cell? ⟨wr.heap.size, 1, none⟩ = some (.slice aR R.length cR) := hcc.out w2 hb22
             have c21 := hS2.2
             have hB2 : Below w.heap.size wr w2 := (hBa.mono hsz).trans (hwk.out _ w2 v _ _ hFa.out hK2)
             refine hK _ _ ?_
             clear hK K
             refine wpAny_ready (rs := [8]) (by kernel_rfl) (by simp) ?_
             refine AllReady.cons rfl (fun K hK => ?_) AllReady.nil
             go_simp
             refine (hC2.out w2 v2 hF2 hB2).mono ?_
             rintro e w3 ⟨rfl, v3, hF3, hK3, ho3⟩
             have hb33 : w3.heap[wr.heap.size]? = some (.cells #[.slice aL L.length cL, .slice aR R.length cR] 42) := (hK3.2.2.2.2 wr.heap.size (Array.getElem?_eq_some_iff.1 hb22).1 (by omega) (by omega) (fun e => by rcases ho2 _ e.symm with h | h; exact absurd (hvo.out _ h) (Nat.lt_irrefl _); rw [hsa] at h; omega)).trans hb22
             have hS3 : w3.cell? ⟨wr.heap.size, 0, none⟩ = some (.slice aL L.length cL) ∧ w3.cell? ⟨wr.heap.size, 1, none⟩ = some (.slice aR R.length cR) := hcc.out w3 hb33
             have hB3 : Below w.heap.size wr w3 := hB2.trans (hwk.out _ w3 v2 _ _ hF2 hK3)
             refine hK _ _ ?_
             clear hK K
             refine wpAny_ready (rs := [9]) (by kernel_rfl) (by simp) ?_
             refine AllReady.cons rfl (fun K hK => ?_) AllReady.nil
             go_simp
             refine (hT.out w3 v3 hF3).mono ?_
             rintro e w4 ⟨qb, rfl, hK4, hq4⟩
             have hb44 : w4.heap[wr.heap.size]? = some (.cells #[.slice aL L.length cL, .slice aR R.length cR] 42) := (hK4.block _ (Array.getElem?_eq_some_iff.1 hb33).1 (by omega)).trans hb33
             have hS4 : w4.cell? ⟨wr.heap.size, 0, none⟩ = some (.slice aL L.length cL) ∧ w4.cell? ⟨wr.heap.size, 1, none⟩ = some (.slice aR R.length cR) := hcc.out w4 hb44
             have hB4 : Below w.heap.size wr w4 := hB3.trans ⟨hK4.os, hK4.tape, hK4.output, hK4.size, fun x hx => hK4.block x (by have := hB3.size; omega) (by omega)⟩
             refine hK _ _ ?_
             clear hK K
             refine wpAny_ready (rs := [10]) (by kernel_rfl) (by simp) ?_
             refine AllReady.cons rfl (fun K hK => ?_) AllReady.nil
             go_simp
             refine hK _ _ ?_
             clear hK K
             refine wpAny_done (by kernel_rfl) ?_ _
             exact ⟨rfl, qb, v3, rfl, hB4, hq4⟩
          case aft =>
            rintro e a' w4 ⟨rfl, qb, v3, rfl, hB4, hq4⟩
            clear hC1 hC2 hT hb2 hcc hS0 hS0' hwk hFa hvo hblk hBa
            rcases hq4 with ⟨rfl, h', hTL, hF4⟩ | ⟨rfl, hNo⟩
            · go_wp2
              go_roundw
              case rel =>
                have hB4w := hBq.out.trans hB4
                have HF4 := hid hF4
                obtain ⟨_, T4, _, _, S4, _⟩ := hF4
                exact ⟨k + 1, zs ++ L ++ R, h', v3, by omega, by go_num, hid (hstep.out h' hTL ⟨T4, S4⟩), HF4, hid hB4w⟩
              case measure => simp [intOf]; omega
            · go_wp2
              go_ret3
              have hB4w := hBq.out.trans hB4
              exact ⟨hB4w, .inr ⟨hok.out, .inl ⟨fun θ hθ H => hno.out hNo θ hθ (fun j hj => H j (by omega)), rfl⟩⟩⟩
        · obtain rfl : k = ps.length := by omega
          obtain ⟨T, hS⟩ := hM.out.st
          obtain ⟨b, c, rfl, T', N, S', hWb, _⟩ := hF.out.st (by have := hM.out.good.eight; omega)
          have hTB := hid (turnsBack_any zs hM.out.good T' h S' (W0 + 1) W0 b 0 c N wr hWb)
          have hGr := hid (fun w7 (hB7 : Below wr.heap.size wr w7) f (hf : ∀ i, i < 8 → Wb.Exp zs h i (f i)) => grow_new zs hM.out.good T' h S' (W0 + 1) W0 b 0 c N f hf w7 (hWb.below hB7))
          clear hWb hS
          go_wp2_with (first
            | (go_at_call 142; refine hTB.out.mono ?_; clear hTB; rintro e w7 ⟨hB7, (⟨rfl, hNo⟩ | ⟨rfl, hFin⟩)⟩)
            | (go_at_call 143; obtain ⟨σ, hσ, hE⟩ := hM.out.mgu hFin; refine (hGr.out w7 hB7 (fun i : Nat => σ (-1 - (i : Int))) hE).mono ?_; clear hGr; rintro e w8 ⟨hB8, (⟨h30, a8, rfl, hS8⟩ | ⟨h30, rfl⟩)⟩))
          · go_ret3
            exact ⟨hBq.out.trans (hB7.mono hBq.out.size), .inr ⟨hok.out, .inl ⟨fun θ hθ H => hNo θ hθ (hM.out.sound θ hθ H), rfl⟩⟩⟩
          · go_ret3
            have hB78 := hBq.out.trans (hB7.mono hBq.out.size)
            exact ⟨hB78.trans (hB8.mono hB78.size), .inr ⟨hok.out, .inr ⟨σ, hσ, .inl ⟨h30, a8, rfl, hS8⟩⟩⟩⟩
          · go_ret3
            have hB78 := hBq.out.trans (hB7.mono hBq.out.size)
            exact ⟨hB78.trans (hB8.mono hB78.size), .inr ⟨hok.out, .inr ⟨σ, hσ, .inr ⟨h30, rfl⟩⟩⟩⟩
set_option maxRecDepth 100000 in
set_option maxHeartbeats 1000000 in
theorem Meet_new (a b : List Int) (aa ab : Option Addr) (ca cb : Nat) (w : World) (hA : Ints w.heap.size w aa a) (hB : Ints w.heap.size w ab b) (ha1 : a.length ≤ ca) (ha2 : ca ≤ maxLen) (hb1 : b.length ≤ cb) (hb2 : cb ≤ maxLen) :
    Calls Try.prog 82 #[.slice aa a.length ca, .slice ab b.length cb] w fun e w' => Below w.heap.size w w' ∧ ∃ er is val x, Tm.MeetSays [(a, b)] er is val ∧ e = .returned (.tuple #[.slice x val.length val.length, .bool is, .int .i64 er]) ∧ SubT w' x val := by
  have hBl : Below w.heap.size w (w.alloc (.cells #[.slice aa a.length ca, .slice ab b.length cb] 42)) := (Below.refl _ w).alloc (Nat.le_refl _) _
  have blk : (w.alloc (.cells #[.slice aa a.length ca, .slice ab b.length cb] 42)).heap[w.heap.size]? = some (.cells #[.slice aa a.length ca, .slice ab b.length cb] 42) := World.alloc_heap_new w _
  have hR : RulesAt (w.alloc (.cells #[.slice aa a.length ca, .slice ab b.length cb] 42)).heap.size (w.alloc (.cells #[.slice aa a.length ca, .slice ab b.length cb] 42)) (some ⟨w.heap.size, 0, none⟩) [(a, b)] := by
    intro k hk
    obtain rfl : k = 0 := by simp at hk; omega
    exact ⟨w.heap.size, 0, rfl, by simp, aa, ca, ab, cb, (cell_at blk 0).trans rfl, (cell_at blk 1).trans rfl, (hA.below hBl).mono hBl.size, (hB.below hBl).mono hBl.size, ha1, ha2, hb1, hb2⟩
  have hM := hid (meet_new [(a, b)] (by simp) (some ⟨w.heap.size, 0, none⟩) 1 _ hR)
  have HB := hid hBl
  clear hR blk hA hB hBl
  go_enter Try.func82, Try.ntmps82
  go_wp2_with fail
  refine hM.out.mono ?_
  rintro e w2 ⟨hB2, hAns⟩
  obtain ⟨er, is, val, x, hs, rfl, hS⟩ := hAns.says
  have Hs := hid hs
  have HS := hid hS
  clear hM hAns hs hS
  go_wp2
  go_ret3
  exact ⟨HB.out.trans (hB2.mono HB.out.size), er, is, val, x, Hs.out, rfl, HS.out⟩
end Go.Proofs.Ytgeknojpcjadkaa
