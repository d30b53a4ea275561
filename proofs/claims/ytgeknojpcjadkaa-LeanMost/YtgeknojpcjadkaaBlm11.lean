/-
  Parts of the proof: Web23, Web24, Uni1, Lea1, Web25, Lit.
-/
import Derived.Test.YtgeknojpcjadkaaBlm10
import Derived.Test.YtgeknojpcjadkaaBlm7
import Derived.Test.YtgeknojpcjadkaaBlm5
import Derived.Test.YtgeknojpcjadkaaBlm2
import Derived.Test.YtgeknojpcjadkaaBlm1
namespace Go.Proofs.Ytgeknojpcjadkaa
open Go.Proofs Go.RowKit Go.Shelf Go.Maps
abbrev PairL := List (List Int × List Int)
namespace Wb
theorem cont_laid {pre t post : List Int} (ht : Tm.err t = 0) : cont (pre ++ (t ++ post)) pre.length = t := by
  have h := Tm.part_mid (pre := pre) (t := t) (post := post) (k := 0) (by omega) (by rw [Tm.endAt_zero, Tm.err_run ht]; exact Nat.le_refl _)
  rw [Nat.add_zero] at h
  unfold cont
  rw [h]
  unfold Tm.part
  rw [Tm.endAt_zero, Tm.err_run ht]
  simp
def Same (ps : PairL) (k : Nat) (θ : Sb) : Prop := ∀ j, j < k → App θ (ps[j]?.getD ([], [])).1 = App θ (ps[j]?.getD ([], [])).2
structure MInv (ps : PairL) (k : Nat) (zs : List Int) (h : Nat → Nat) : Prop where
  good : Good zs
  st : ∃ T, St zs T h
  closed : Closed zs h []
  len : zs.length ≤ 8 + 60 * k
  sound : ∀ θ, TermSb θ → Same ps k θ → Resp zs h θ
  tied : ∀ j, j < k → ∃ p q, p < zs.length ∧ q < zs.length ∧ cont zs p = (ps[j]?.getD ([], [])).1 ∧ cont zs q = (ps[j]?.getD ([], [])).2 ∧ hd zs h p = hd zs h q
theorem MInv.start (ps : PairL) : MInv ps 0 (eight 8) (fun p => p) := by
  refine ⟨good8, ⟨_, St.start _⟩, fun p q hp _ sp _ _ => ?_, by rw [eight_length 8 (by omega)]; omega, fun θ _ _ p _ _ => rfl, fun j hj => by omega⟩
  rw [eight_length 8 (by omega)] at hp
  have := good8.vars p hp
  omega
theorem Closed.more {zs : List Int} {h : Nat → Nat} {P : List (Nat × Nat)} (C : Closed zs h []) : Closed zs h P := fun p q hp hq sp sq e => by
  obtain ⟨e1, e2⟩ := C p q hp hq sp sq e
  exact ⟨e1, fun i hi => (e2 i hi).move (fun _ _ _ _ h => h) (fun p q hm => by simp at hm)⟩
theorem Same.succ {ps : PairL} {k : Nat} {θ : Sb} (H : Same ps (k + 1) θ) : Same ps k θ ∧ App θ (ps[k]?.getD ([], [])).1 = App θ (ps[k]?.getD ([], [])).2 := ⟨fun j hj => H j (by omega), H k (by omega)⟩
theorem MInv.good2 {ps : PairL} {k : Nat} {zs : List Int} {h : Nat → Nat} (M : MInv ps k zs h) {L R : List Int} (hL : Tm.err L = 0) (hR : Tm.err R = 0) (lL : L.length ≤ 30) (lR : R.length ≤ 30) (hk : k < 40) : Good (zs ++ L ++ R) := by
  have := M.len
  exact (M.good.ext hL (by omega)).ext hR (by rw [List.length_append]; omega)
theorem MInv.at1 {zs L R : List Int} (hL : Tm.err L = 0) : cont (zs ++ L ++ R) zs.length = L := by rw [List.append_assoc]; exact cont_laid hL
theorem MInv.at2 {zs L R : List Int} (hR : Tm.err R = 0) : cont (zs ++ L ++ R) (zs ++ L).length = R := by
  have := cont_laid (pre := zs ++ L) (post := []) hR
  rwa [List.append_nil] at this
theorem MInv.step {ps : PairL} {k : Nat} {zs : List Int} {h : Nat → Nat} (M : MInv ps k zs h) {L R : List Int} (hL : Tm.err L = 0) (hR : Tm.err R = 0) (lL : L.length ≤ 30) (lR : R.length ≤ 30) (hk : k < 40) (eL : (ps[k]?.getD ([], [])).1 = L) (eR : (ps[k]?.getD ([], [])).2 = R) (h0 : 0 < L.length) (h1 : 0 < R.length) {h' : Nat → Nat} (hL' : TieL (zs ++ L ++ R) h h' [(zs.length, (zs ++ L).length)]) (S' : ∃ T, St (zs ++ L ++ R) T h') : MInv ps (k + 1) (zs ++ L ++ R) h' := by
  obtain ⟨T, S⟩ := M.st
  have G1 := M.good.ext hL (by have := M.len; omega)
  have G2 := M.good2 hL hR lL lR hk
  have S1 : St (zs ++ L) T h := S.ext
  have hlen : (zs ++ L ++ R).length = zs.length + L.length + R.length := by rw [List.length_append, List.length_append]
  have c1 := MInv.at1 (zs := zs) (R := R) hL
  have c2 := MInv.at2 (zs := zs) (L := L) hR
  refine ⟨G2, S', hL'.close [] ((Closed.ext G1 S1 G2 (Closed.ext M.good S G1 M.closed)).more), by have := M.len; omega, fun θ hθ H => ?_, fun j hj => ?_⟩
  · obtain ⟨H1, H2⟩ := H.succ
    refine hL'.sound θ hθ ((M.sound θ hθ H1).ext M.good S |>.ext G1 S1) fun p q hm => ?_
    simp only [List.mem_cons, List.not_mem_nil, or_false, Prod.mk.injEq] at hm
    obtain ⟨rfl, rfl⟩ := hm
    rw [c1, c2, ← eL, ← eR]
    exact H2
  · by_cases e : j = k
    · subst e
      exact ⟨zs.length, (zs ++ L).length, by omega, by rw [hlen, List.length_append]; omega, by rw [c1, eL], by rw [c2, eR], hL'.tied _ _ (by simp)⟩
    · obtain ⟨p, q, hp, hq, e1, e2, e3⟩ := M.tied j (by omega)
      have hp1 : p < (zs ++ L).length := by rw [List.length_append]; omega
      have hq1 : q < (zs ++ L).length := by rw [List.length_append]; omega
      refine ⟨p, q, by omega, by omega, by rw [cont_ext G1 hp1, cont_ext M.good hp, e1], by rw [cont_ext G1 hq1, cont_ext M.good hq, e2], hL'.coarse p q (by omega) (by omega) ?_⟩
      rw [hd_ext hp1, hd_ext hp, hd_ext hq1, hd_ext hq, e3]
theorem MInv.no {ps : PairL} {k : Nat} {zs : List Int} {h : Nat → Nat} (M : MInv ps k zs h) {L R : List Int} (hL : Tm.err L = 0) (hR : Tm.err R = 0) (lL : L.length ≤ 30) (hk : k < 40) (eL : (ps[k]?.getD ([], [])).1 = L) (eR : (ps[k]?.getD ([], [])).2 = R) (hN : No (zs ++ L ++ R) h [(zs.length, (zs ++ L).length)]) : ∀ θ, TermSb θ → ¬ Same ps (k + 1) θ := fun θ hθ H => by
  obtain ⟨T, S⟩ := M.st
  have G1 := M.good.ext hL (by have := M.len; omega)
  have S1 : St (zs ++ L) T h := S.ext
  obtain ⟨H1, H2⟩ := H.succ
  refine hN θ hθ ((M.sound θ hθ H1).ext M.good S |>.ext G1 S1) fun p q hm => ?_
  simp only [List.mem_cons, List.not_mem_nil, or_false, Prod.mk.injEq] at hm
  obtain ⟨rfl, rfl⟩ := hm
  rw [MInv.at1 (zs := zs) (R := R) hL, MInv.at2 (zs := zs) (L := L) hR, ← eL, ← eR]
  exact H2
structure Mgu (ps : PairL) (σ : Sb) : Prop where
  term : TermSb σ
  vars : ∀ v, -8 ≤ v → v < 0 → ∀ s ∈ σ v, -8 ≤ s ∧ s < 6
  same : Same ps ps.length σ
  most : ∀ θ, TermSb θ → Same ps ps.length θ → ∀ v, -8 ≤ v → v < 0 → θ v = App θ (σ v)
  least : ∀ v u, -8 ≤ v → v < 0 → σ v = [u] → u < 0 → v ≤ u
theorem MInv.mgu {ps : PairL} {zs : List Int} {h : Nat → Nat} (M : MInv ps ps.length zs h) (F : ∀ i, i < 8 → Fin zs h i) : ∃ σ, Mgu ps σ ∧ ∀ i, i < 8 → Exp zs h i (σ (-1 - (i : Int))) := by
  obtain ⟨T, S⟩ := M.st
  obtain ⟨σ, Sg⟩ := Sigma.of M.good S M.closed F
  have hv : ∀ v, -8 ≤ v → v < 0 → ∀ s ∈ σ v, -8 ≤ s ∧ s < 6 := fun v h1 h2 => by
    have hE := Sg.exp (-1 - v).toNat (by omega)
    rw [show -1 - (((-1 - v).toNat : Nat) : Int) = v from by omega] at hE
    exact hE.vars M.good S (by have := M.good.eight; omega)
  refine ⟨σ, ⟨Sg.term, hv, fun j hj => ?_, fun θ hθ H => Sg.most θ (M.sound θ hθ H), Sg.least⟩, Sg.exp⟩
  obtain ⟨p, q, hp, hq, e1, e2, e3⟩ := M.tied j hj
  have a := Exp.of_sigma M.good S M.closed Sg.exp _ p (Nat.le_refl _) hp
  have b := Exp.of_sigma M.good S M.closed Sg.exp _ q (Nat.le_refl _) hq
  have := (a.move e3).one _ b
  rw [e1, e2] at this
  exact this
theorem Mgu.one {ps : PairL} {σ τ : Sb} (A : Mgu ps σ) (B : Mgu ps τ) : ∀ v, -8 ≤ v → v < 0 → σ v = τ v :=
  canon_one A.term B.term (fun v h1 h2 s hs _ => (A.vars v h1 h2 s hs).1) (fun v h1 h2 s hs _ => (B.vars v h1 h2 s hs).1) (B.most σ A.term A.same) (A.most τ B.term B.same) A.least B.least
end Wb
def Tm.pairErr (L R : List Int) : Int := if Tm.err L = 0 then Tm.err R else Tm.err L
def Tm.firstPair : PairL → Int
  | [] => 0
  | r :: l => if Tm.pairErr r.1 r.2 = 0 then Tm.firstPair l else Tm.pairErr r.1 r.2
theorem Tm.firstPair_step {rs : PairL} {k : Nat} (hk : k < rs.length) (he : Tm.pairErr (rs[k]?.getD ([], [])).1 (rs[k]?.getD ([], [])).2 = 0) : Tm.firstPair (rs.drop k) = Tm.firstPair (rs.drop (k + 1)) := by
  rw [List.drop_eq_getElem_cons hk, Tm.firstPair]
  simp only [hk, List.getElem?_eq_getElem, Option.getD_some] at he
  rw [if_pos he]
theorem Tm.firstPair_at {rs : PairL} {k : Nat} (hk : k < rs.length) (he : Tm.pairErr (rs[k]?.getD ([], [])).1 (rs[k]?.getD ([], [])).2 ≠ 0) : Tm.firstPair (rs.drop k) = Tm.pairErr (rs[k]?.getD ([], [])).1 (rs[k]?.getD ([], [])).2 := by
  rw [List.drop_eq_getElem_cons hk, Tm.firstPair]
  simp only [hk, List.getElem?_eq_getElem, Option.getD_some] at he ⊢
  rw [if_neg he]
theorem Tm.firstPair_right {rs : PairL} (h : Tm.firstPair rs = 0) : ∀ k, k < rs.length → Tm.err (rs[k]?.getD ([], [])).1 = 0 ∧ Tm.err (rs[k]?.getD ([], [])).2 = 0 := by
  induction rs with
  | nil => intro k hk; simp at hk
  | cons r l ih =>
    rw [Tm.firstPair] at h
    by_cases he : Tm.pairErr r.1 r.2 = 0
    · rw [if_pos he] at h
      intro k hk
      cases k with
      | zero =>
        simp only [List.getElem?_cons_zero, Option.getD_some]
        unfold Tm.pairErr at he
        by_cases hl : Tm.err r.1 = 0
        · rw [if_pos hl] at he; exact ⟨hl, he⟩
        · rw [if_neg hl] at he; exact absurd he hl
      | succ k =>
        simp only [List.getElem?_cons_succ]
        exact ih h k (by simpa using hk)
    · rw [if_neg he] at h
      exact absurd h he
def MeetOk (ps : PairL) (W : World) (e : Ending) : Prop :=
  ((∀ θ, Wb.TermSb θ → ¬ Wb.Same ps ps.length θ) ∧ e = .returned (.tuple #[.slice none 0 0, .bool false, .int .i64 0])) ∨
  ∃ σ, Wb.Mgu ps σ ∧ (((∀ i : Nat, i < 8 → (σ (-1 - (i : Int))).length ≤ 30) ∧ ∃ a, e = .returned (.tuple #[.slice a 8 8, .bool true, .int .i64 0]) ∧ Subs W.heap.size W a ((List.range 8).map fun i : Nat => σ (-1 - (i : Int)))) ∨
    ((∃ i : Nat, i < 8 ∧ 30 < (σ (-1 - (i : Int))).length) ∧ e = .returned (.tuple #[.slice none 0 0, .bool false, .int .i64 2])))
def MeetAns (ps : PairL) (W : World) (e : Ending) : Prop :=
  (Tm.firstPair ps ≠ 0 ∧ e = .returned (.tuple #[.slice none 0 0, .bool false, .int .i64 (Tm.firstPair ps)])) ∨ (Tm.firstPair ps = 0 ∧ MeetOk ps W e)
theorem Tm.known_of {s : Int} (h1 : -8 ≤ s) (h2 : s < 6) : Tm.known s = true := by
  simp [Tm.known]
  omega
theorem Tm.firstErr_of {ss : List (List Int)} (h : ∀ k, k < ss.length → Tm.err (ss[k]?.getD []) = 0) : Tm.firstErr ss = 0 := by
  induction ss with
  | nil => rfl
  | cons t l ih =>
    rw [Tm.firstErr, if_pos (by simpa using h 0 (by simp))]
    exact ih fun k hk => by simpa using h (k + 1) (by simpa using hk)
def Tm.sbL (σ : Wb.Sb) : List (List Int) := (List.range 8).map fun i : Nat => σ (-1 - (i : Int))
theorem Tm.sbL_length (σ : Wb.Sb) : (Tm.sbL σ).length = 8 := by simp [Tm.sbL]
theorem Tm.sbL_at (σ : Wb.Sb) {i : Nat} (h : i < 8) : (Tm.sbL σ)[i]?.getD [] = σ (-1 - (i : Int)) := by
  unfold Tm.sbL
  rw [List.getElem?_map, List.getElem?_range h]
  rfl
theorem Tm.sbL_congr {σ τ : Wb.Sb} (h : ∀ v, -8 ≤ v → v < 0 → σ v = τ v) : Tm.sbL σ = Tm.sbL τ := by
  unfold Tm.sbL
  refine List.map_congr_left fun i hi => ?_
  have := List.mem_range.1 hi
  exact h _ (by omega) (by omega)
theorem Tm.piece_sbL (σ : Wb.Sb) {s : Int} (h8 : -8 ≤ s) : Tm.piece (Tm.sbL σ) s = if s < 0 then σ s else [s] := by
  unfold Tm.piece
  by_cases hs : s < 0
  · rw [if_pos hs, if_pos hs, Tm.sbL_at σ (by omega), show -1 - (((-1 - s).toNat : Nat) : Int) = s from by omega]
  · rw [if_neg hs, if_neg hs]
theorem Tm.applied_sbL (σ : Wb.Sb) : ∀ (t : List Int), t.all Tm.known = true → Tm.applied (Tm.sbL σ) t = Wb.App σ t := by
  intro t
  induction t with
  | nil => intro _; rfl
  | cons s l ih =>
    intro h
    rw [List.all_cons, Bool.and_eq_true] at h
    rw [Tm.applied_cons, Wb.App_cons, ih h.2, Tm.piece_sbL σ (Tm.known_ge h.1)]
def Tm.ofL (us : List (List Int)) (s : Int) : List Int := if -8 ≤ s then us[(-1 - s).toNat]?.getD [] else [s]
theorem Tm.ofL_at (us : List (List Int)) {i : Nat} (h : i < 8) : Tm.ofL us (-1 - (i : Int)) = us[i]?.getD [] := by
  unfold Tm.ofL
  rw [if_pos (by omega), show (-1 - (-1 - (i : Int))).toNat = i from by omega]
theorem Tm.sbL_ofL {us : List (List Int)} (h : us.length = 8) : Tm.sbL (Tm.ofL us) = us := by
  refine List.ext_getElem (by rw [Tm.sbL_length, h]) fun i h1 h2 => ?_
  rw [Tm.sbL_length] at h1
  have e := Tm.sbL_at (Tm.ofL us) h1
  rw [Tm.ofL_at us h1] at e
  rw [List.getElem?_eq_getElem (by rw [Tm.sbL_length]; exact h1), List.getElem?_eq_getElem h2] at e
  exact e
theorem Tm.applied_ofL {us : List (List Int)} (h : us.length = 8) {t : List Int} (ht : t.all Tm.known = true) : Tm.applied us t = Wb.App (Tm.ofL us) t := by
  have := Tm.applied_sbL (Tm.ofL us) t ht
  rwa [Tm.sbL_ofL h] at this
theorem Tm.ofL_term {us : List (List Int)} (h : Tm.subErr us = 0) : Wb.TermSb (Tm.ofL us) := fun s hs => by
  unfold Tm.ofL
  obtain ⟨h1, h2⟩ := Tm.subErr_ok h
  by_cases h8 : -8 ≤ s
  · rw [if_pos h8]
    exact Tm.err_run (Tm.firstErr_all h2 _ (by omega))
  · rw [if_neg h8]
    have : Tm.room s = 0 := Wb.room_var hs
    rw [show (1 : Nat) = 0 + 1 from rfl, Tm.run_cons, this, Tm.run_zero]
    rfl
def Tm.MeetSays (ps : PairL) (er : Int) (is : Bool) (val : List (List Int)) : Prop :=
  (Tm.firstPair ps ≠ 0 ∧ er = Tm.firstPair ps ∧ is = false ∧ val = []) ∨
  (Tm.firstPair ps = 0 ∧ (∀ θ, Wb.TermSb θ → ¬ Wb.Same ps ps.length θ) ∧ er = 0 ∧ is = false ∧ val = []) ∨
  (Tm.firstPair ps = 0 ∧ ∃ σ, Wb.Mgu ps σ ∧ (∀ i : Nat, i < 8 → (σ (-1 - (i : Int))).length ≤ 30) ∧ er = 0 ∧ is = true ∧ val = Tm.sbL σ) ∨
  (Tm.firstPair ps = 0 ∧ ∃ σ, Wb.Mgu ps σ ∧ (∃ i : Nat, i < 8 ∧ 30 < (σ (-1 - (i : Int))).length) ∧ er = 2 ∧ is = false ∧ val = [])
theorem Tm.MeetSays.one {ps : PairL} {er er' : Int} {is is' : Bool} {val val' : List (List Int)} (A : Tm.MeetSays ps er is val) (B : Tm.MeetSays ps er' is' val') : er = er' ∧ is = is' ∧ val = val' := by
  rcases A with ⟨a1, rfl, rfl, rfl⟩ | ⟨a1, a2, rfl, rfl, rfl⟩ | ⟨a1, σ, a2, a3, rfl, rfl, rfl⟩ | ⟨a1, σ, a2, ⟨i, hi, a3⟩, rfl, rfl, rfl⟩ <;>
  rcases B with ⟨b1, rfl, rfl, rfl⟩ | ⟨b1, b2, rfl, rfl, rfl⟩ | ⟨b1, τ, b2, b3, rfl, rfl, rfl⟩ | ⟨b1, τ, b2, ⟨j, hj, b3⟩, rfl, rfl, rfl⟩
  · exact ⟨rfl, rfl, rfl⟩
  · exact absurd b1 a1
  · exact absurd b1 a1
  · exact absurd b1 a1
  · exact absurd a1 b1
  · exact ⟨rfl, rfl, rfl⟩
  · exact absurd b2.same (a2 τ b2.term)
  · exact absurd b2.same (a2 τ b2.term)
  · exact absurd a1 b1
  · exact absurd a2.same (b2 σ a2.term)
  · exact ⟨rfl, rfl, Tm.sbL_congr (a2.one b2)⟩
  · have := a2.one b2 (-1 - (j : Int)) (by omega) (by omega)
    have h := a3 j hj
    rw [this] at h
    omega
  · exact absurd a1 b1
  · exact absurd a2.same (b2 σ a2.term)
  · have := a2.one b2 (-1 - (i : Int)) (by omega) (by omega)
    have h := b3 i hi
    rw [← this] at h
    omega
  · exact ⟨rfl, rfl, rfl⟩
theorem Wb.Mgu.errs {ps : PairL} {σ : Wb.Sb} (M : Wb.Mgu ps σ) (h : ∀ i : Nat, i < 8 → (σ (-1 - (i : Int))).length ≤ 30) : Tm.subErr (Tm.sbL σ) = 0 := by
  have h1 : Tm.firstErr (Tm.sbL σ) = 0 := by
    refine Tm.firstErr_of fun i hi => ?_
    rw [Tm.sbL_length] at hi
    rw [Tm.sbL_at σ hi]
    refine Tm.err_ok (h i hi) ?_ (M.term _ (by omega))
    rw [List.all_eq_true]
    intro s hs
    obtain ⟨h1, h2⟩ := M.vars _ (by omega) (by omega) s hs
    exact Tm.known_of h1 h2
  unfold Tm.subErr
  rw [if_pos (Tm.sbL_length σ), h1]
theorem Tm.firstPair_one (a b : List Int) : Tm.firstPair [(a, b)] = Tm.pairErr a b := by
  rw [Tm.firstPair]
  by_cases h : Tm.pairErr a b = 0
  · rw [if_pos h, h]; rfl
  · rw [if_neg h]
theorem Tm.pairErr_zero {a b : List Int} : Tm.pairErr a b = 0 ↔ Tm.err a = 0 ∧ Tm.err b = 0 := by
  unfold Tm.pairErr
  by_cases h : Tm.err a = 0
  · rw [if_pos h]; exact ⟨fun e => ⟨h, e⟩, fun e => e.2⟩
  · rw [if_neg h]; exact ⟨fun e => absurd e h, fun e => absurd e.1 h⟩
theorem Tm.meet_true {a b : List Int} {val : List (List Int)} (A : Tm.MeetSays [(a, b)] 0 true val) : Tm.subErr val = 0 ∧ Tm.err a = 0 ∧ Tm.err b = 0 ∧ Tm.applied val a = Tm.applied val b ∧ Tm.afterErr val val = 0 ∧ Tm.afterVal val val = val := by
  rcases A with ⟨_, _, h, _⟩ | ⟨_, _, _, h, _⟩ | ⟨a1, σ, M, h30, _, _, rfl⟩ | ⟨_, σ, _, _, _, h, _⟩
  · cases h
  · cases h
  · rw [Tm.firstPair_one, Tm.pairErr_zero] at a1
    have hs := M.errs h30
    have hss : Tm.afterL (Tm.sbL σ) (Tm.sbL σ) = Tm.sbL σ := by
      unfold Tm.afterL
      rw [Tm.sbL, List.map_map]
      refine List.map_congr_left fun i hi => ?_
      have := List.mem_range.1 hi
      show Tm.applied (Tm.sbL σ) (σ _) = σ _
      rw [Tm.applied_sbL σ _ (by
        rw [List.all_eq_true]
        intro s hs
        obtain ⟨h1, h2⟩ := M.vars _ (by omega) (by omega) s hs
        exact Tm.known_of h1 h2)]
      exact (M.most σ M.term M.same _ (by omega) (by omega)).symm
    have he : Tm.afterErr (Tm.sbL σ) (Tm.sbL σ) = 0 := by
      unfold Tm.afterErr
      rw [if_pos hs, if_pos hs, if_pos]
      rw [List.all_eq_true]
      intro t ht
      have hm : Tm.applied (Tm.sbL σ) t ∈ Tm.afterL (Tm.sbL σ) (Tm.sbL σ) := List.mem_map_of_mem ht
      rw [hss] at hm
      unfold Tm.fits
      rw [decide_eq_true_eq]
      obtain ⟨i, hi, e⟩ := List.mem_map.1 hm
      rw [← e]
      exact h30 i (List.mem_range.1 hi)
    refine ⟨hs, a1.1, a1.2, ?_, he, by unfold Tm.afterVal; rw [if_pos he, hss]⟩
    rw [Tm.applied_sbL σ a (Tm.err_all a1.1), Tm.applied_sbL σ b (Tm.err_all a1.2)]
    exact M.same 0 (by simp)
  · cases h
theorem Tm.meet_most {a b : List Int} {us : List (List Int)} {er : Int} {is : Bool} {val : List (List Int)} (hu : Tm.subErr us = 0) (ha : Tm.err a = 0) (hb : Tm.err b = 0) (e : Tm.applied us a = Tm.applied us b) (A : Tm.MeetSays [(a, b)] er is val) :
    (er = 2 ∧ is = false ∧ val = []) ∨ (er = 0 ∧ is = true ∧ val.length = 8 ∧ ((Tm.afterErr val us = 2 ∧ Tm.afterVal val us = []) ∨ (Tm.afterErr val us = 0 ∧ Tm.afterVal val us = us))) := by
  have hu8 := (Tm.subErr_ok hu).1
  have hS : Wb.Same [(a, b)] 1 (Tm.ofL us) := fun j hj => by
    obtain rfl : j = 0 := by omega
    show Wb.App (Tm.ofL us) a = Wb.App (Tm.ofL us) b
    rw [← Tm.applied_ofL hu8 (Tm.err_all ha), ← Tm.applied_ofL hu8 (Tm.err_all hb), e]
  rcases A with ⟨a1, _⟩ | ⟨_, a2, _⟩ | ⟨_, σ, M, h30, rfl, rfl, rfl⟩ | ⟨_, σ, M, _, rfl, rfl, rfl⟩
  · rw [Tm.firstPair_one] at a1
    exact absurd (Tm.pairErr_zero.2 ⟨ha, hb⟩) a1
  · exact absurd hS (a2 _ (Tm.ofL_term hu))
  · refine .inr ⟨rfl, rfl, Tm.sbL_length σ, ?_⟩
    have hs := M.errs h30
    have hL : Tm.afterL (Tm.sbL σ) us = us := by
      have h2 : Tm.afterL (Tm.sbL σ) us = Tm.sbL (Tm.ofL us) := by
        unfold Tm.afterL
        rw [show Tm.sbL σ = (List.range 8).map (fun i : Nat => σ (-1 - (i : Int))) from rfl, List.map_map]
        refine List.map_congr_left fun i hi => ?_
        have := List.mem_range.1 hi
        show Tm.applied us (σ _) = Tm.ofL us _
        rw [Tm.applied_ofL hu8 (by
          rw [List.all_eq_true]
          intro s hs
          obtain ⟨h1, h2⟩ := M.vars _ (by omega) (by omega) s hs
          exact Tm.known_of h1 h2)]
        exact (M.most _ (Tm.ofL_term hu) hS _ (by omega) (by omega)).symm
      rw [h2, Tm.sbL_ofL hu8]
    by_cases hf : (Tm.sbL σ).all (Tm.fits us) = true
    · have he : Tm.afterErr (Tm.sbL σ) us = 0 := by unfold Tm.afterErr; rw [if_pos hs, if_pos hu, if_pos hf]
      exact .inr ⟨he, by unfold Tm.afterVal; rw [if_pos he, hL]⟩
    · have he : Tm.afterErr (Tm.sbL σ) us = 2 := by unfold Tm.afterErr; rw [if_pos hs, if_pos hu, if_neg hf]
      exact .inl ⟨he, by unfold Tm.afterVal; rw [he, if_neg (by omega)]⟩
  · exact .inl ⟨rfl, rfl, rfl⟩
theorem MeetAns.says {ps : PairL} {W : World} {e : Ending} (h : MeetAns ps W e) : ∃ er is val a, Tm.MeetSays ps er is val ∧ e = .returned (.tuple #[.slice a val.length val.length, .bool is, .int .i64 er]) ∧ Subs W.heap.size W a val := by
  rcases h with ⟨h1, rfl⟩ | ⟨h1, ⟨h2, rfl⟩ | ⟨σ, M, ⟨h30, a, rfl, hS⟩ | ⟨h30, rfl⟩⟩⟩
  · exact ⟨_, _, [], none, .inl ⟨h1, rfl, rfl, rfl⟩, rfl, Subs.nil _ _ _⟩
  · exact ⟨_, _, [], none, .inr (.inl ⟨h1, h2, rfl, rfl, rfl⟩), rfl, Subs.nil _ _ _⟩
  · exact ⟨_, _, Tm.sbL σ, a, .inr (.inr (.inl ⟨h1, σ, M, h30, rfl, rfl, rfl⟩)), by rw [Tm.sbL_length], hS⟩
  · exact ⟨_, _, [], none, .inr (.inr (.inr ⟨h1, σ, M, h30, rfl, rfl, rfl⟩)), rfl, Subs.nil _ _ _⟩
end Go.Proofs.Ytgeknojpcjadkaa
namespace Go.Proofs.Ytgeknojpcjadkaa
open Go.Proofs Go.RowKit Go.Shelf
abbrev LeanL := List (Nat × Nat × List (List Int) × List Int)
def Tm.lnErr (ss : List (List Int)) (t : List Int) (k : Int) (R : List Int) : Int := if Tm.putErr t k R = 0 then Tm.applyErr ss (Tm.putVal t k R) else Tm.putErr t k R
def Tm.lnVal (ss : List (List Int)) (t : List Int) (k : Int) (R : List Int) : List Int := if Tm.lnErr ss t k R = 0 then Tm.applyVal ss (Tm.putVal t k R) else []
theorem Tm.ln_ref {val : List (List Int)} {t R : List Int} {m : Nat} (hs : Tm.subErr val = 0) (e1 : Tm.err t = 0) (e2 : Tm.err R = 0) (hm : m < t.length) :
    ((Tm.applied val (Tm.put t m R)).length ≤ 30 ∧ Tm.lnErr val t (m : Int) R = 0 ∧ Tm.lnVal val t (m : Int) R = Tm.applied val (Tm.put t m R)) ∨ (30 < (Tm.applied val (Tm.put t m R)).length ∧ Tm.lnErr val t (m : Int) R = 2) := by
  have hin : insideB (m : Int) 0 ((t.length : Int) - 1) = true := by rw [insideB_iff]; omega
  have hge := Tm.applied_more hs (Tm.put t m R) fun s h => by
    rcases Tm.put_signs h with h | h
    · exact (Tm.known_mem e1 h).1
    · exact (Tm.known_mem e2 h).1
  have hpe : Tm.putErr t (m : Int) R = if 30 < (Tm.put t m R).length then 2 else 0 := by
    unfold Tm.putErr
    rw [if_pos e1, if_pos e2, if_pos hin]
    rfl
  by_cases h1 : 30 < (Tm.put t m R).length
  · rw [if_pos h1] at hpe
    refine .inr ⟨by omega, ?_⟩
    unfold Tm.lnErr
    rw [if_neg (by rw [hpe]; decide), hpe]
  · rw [if_neg h1] at hpe
    have hpv : Tm.putVal t (m : Int) R = Tm.put t m R := by unfold Tm.putVal; rw [if_pos hpe]; rfl
    have ep := Tm.put_err e1 e2 hm (by omega)
    have hae : Tm.applyErr val (Tm.put t m R) = if 30 < (Tm.applied val (Tm.put t m R)).length then 2 else 0 := by unfold Tm.applyErr; rw [if_pos hs, if_pos ep]
    by_cases h2 : 30 < (Tm.applied val (Tm.put t m R)).length
    · rw [if_pos h2] at hae
      refine .inr ⟨h2, ?_⟩
      unfold Tm.lnErr
      rw [if_pos hpe, hpv, hae]
    · rw [if_neg h2] at hae
      have hz : Tm.lnErr val t (m : Int) R = 0 := by
        unfold Tm.lnErr
        rw [if_pos hpe, hpv, hae]
      refine .inl ⟨by omega, hz, ?_⟩
      unfold Tm.lnVal
      rw [if_pos hz, hpv]
      unfold Tm.applyVal
      rw [if_pos hae]
def Tm.LnAt (t : List Int) (k : Nat) (L R : List Int) (m : Nat) (o : LeanL) : Prop :=
  (t[m]?.getD 0 < 0 ∧ o = []) ∨ (¬ t[m]?.getD 0 < 0 ∧ (∃ val, Tm.MeetSays [(Tm.part t m, L)] 0 false val) ∧ o = []) ∨
  (¬ t[m]?.getD 0 < 0 ∧ ∃ val, Tm.MeetSays [(Tm.part t m, L)] 0 true val ∧ Tm.lnErr val t (m : Int) R = 0 ∧ o = [(k, m, val, Tm.lnVal val t (m : Int) R)])
def Tm.LnBad (t L R : List Int) (m : Nat) (e : Int) : Prop :=
  e ≠ 0 ∧ ¬ t[m]?.getD 0 < 0 ∧ ((∃ is val, Tm.MeetSays [(Tm.part t m, L)] e is val) ∨ ∃ val, Tm.MeetSays [(Tm.part t m, L)] 0 true val ∧ Tm.lnErr val t (m : Int) R = e)
theorem Tm.LnAt.one {t : List Int} {k : Nat} {L R : List Int} {m : Nat} {o o' : LeanL} (h : Tm.LnAt t k L R m o) (h' : Tm.LnAt t k L R m o') : o = o' := by
  rcases h with ⟨a1, rfl⟩ | ⟨a1, ⟨val, a2⟩, rfl⟩ | ⟨a1, val, a2, a3, rfl⟩ <;> rcases h' with ⟨b1, rfl⟩ | ⟨b1, ⟨val', b2⟩, rfl⟩ | ⟨b1, val', b2, b3, rfl⟩
  · rfl
  · rfl
  · exact absurd a1 b1
  · rfl
  · rfl
  · have := (a2.one b2).2.1
    cases this
  · exact absurd b1 a1
  · have := (a2.one b2).2.1
    cases this
  · obtain rfl := (a2.one b2).2.2
    rfl
theorem Tm.LnAt.not {t : List Int} {k : Nat} {L R : List Int} {m : Nat} {o : LeanL} {e : Int} (h : Tm.LnAt t k L R m o) (h' : Tm.LnBad t L R m e) : False := by
  obtain ⟨b0, b1, ⟨is, v, b2⟩ | ⟨v, b2, b3⟩⟩ := h'
  · rcases h with ⟨a1, _⟩ | ⟨_, ⟨val, a2⟩, _⟩ | ⟨_, val, a2, _, _⟩
    · exact b1 a1
    · exact b0 (b2.one a2).1
    · exact b0 (b2.one a2).1
  · rcases h with ⟨a1, _⟩ | ⟨_, ⟨val, a2⟩, _⟩ | ⟨_, val, a2, a3, _⟩
    · exact b1 a1
    · have := (b2.one a2).2.1
      cases this
    · obtain rfl := (b2.one a2).2.2
      exact b0 (b3.symm.trans a3)
theorem Tm.LnAt.len {t : List Int} {k : Nat} {L R : List Int} {m : Nat} {o : LeanL} (h : Tm.LnAt t k L R m o) : o.length ≤ 1 := by
  rcases h with ⟨_, rfl⟩ | ⟨_, _, rfl⟩ | ⟨_, _, _, _, rfl⟩ <;> simp
theorem Tm.LnAt.mem {t : List Int} {k : Nat} {L R : List Int} {m : Nat} {o : LeanL} (h : Tm.LnAt t k L R m o) : ∀ x ∈ o, x.1 = k ∧ x.2.1 = m ∧ ¬ t[m]?.getD 0 < 0 ∧ Tm.MeetSays [(Tm.part t m, L)] 0 true x.2.2.1 ∧ Tm.lnErr x.2.2.1 t (m : Int) R = 0 ∧ x.2.2.2 = Tm.lnVal x.2.2.1 t (m : Int) R := by
  rcases h with ⟨_, rfl⟩ | ⟨_, _, rfl⟩ | ⟨h1, val, h2, h3, rfl⟩
  · intro x hx; cases hx
  · intro x hx; cases hx
  · intro x hx
    simp only [List.mem_cons, List.not_mem_nil, or_false] at hx
    subst hx
    exact ⟨rfl, rfl, h1, h2, h3, rfl⟩
def Tm.LnTo (t : List Int) (k : Nat) (L R : List Int) : Nat → LeanL → Prop
  | 0, l => l = []
  | m + 1, l => ∃ l0 o, Tm.LnTo t k L R m l0 ∧ Tm.LnAt t k L R m o ∧ l = l0 ++ o
theorem Tm.LnTo.len {t : List Int} {k : Nat} {L R : List Int} : ∀ {m : Nat} {l : LeanL}, Tm.LnTo t k L R m l → l.length ≤ m
  | 0, _, h => by rw [show _ = _ from h]; exact Nat.le_refl _
  | m + 1, _, ⟨l0, o, h1, h2, h3⟩ => by
    have := Tm.LnTo.len h1
    have := h2.len
    rw [h3, List.length_append]
    omega
def Tm.LnSays (t : List Int) (k : Nat) (L R : List Int) (e : Int) (l : LeanL) : Prop := (e = 0 ∧ Tm.LnTo t k L R t.length l) ∨ ((∃ m, m < t.length ∧ Tm.LnBad t L R m e) ∧ l = [])
theorem Tm.LnTo.nil {t : List Int} {k : Nat} {L R : List Int} : Tm.LnTo t k L R 0 [] := rfl
theorem Tm.LnTo.pass {t : List Int} {k : Nat} {L R : List Int} {m : Nat} {l : LeanL} (h : Tm.LnTo t k L R m l) (hp : t[m]?.getD 0 < 0) : Tm.LnTo t k L R (m + 1) l := ⟨l, [], h, .inl ⟨hp, rfl⟩, (List.append_nil _).symm⟩
theorem Tm.LnTo.no {t : List Int} {k : Nat} {L R : List Int} {m : Nat} {l : LeanL} {val : List (List Int)} (h : Tm.LnTo t k L R m l) (hp : ¬ t[m]?.getD 0 < 0) (hs : Tm.MeetSays [(Tm.part t m, L)] 0 false val) : Tm.LnTo t k L R (m + 1) l := ⟨l, [], h, .inr (.inl ⟨hp, ⟨val, hs⟩, rfl⟩), (List.append_nil _).symm⟩
theorem Tm.LnTo.yes {t : List Int} {k : Nat} {L R : List Int} {m : Nat} {l : LeanL} {val : List (List Int)} (h : Tm.LnTo t k L R m l) (hp : ¬ t[m]?.getD 0 < 0) (hs : Tm.MeetSays [(Tm.part t m, L)] 0 true val) (he : Tm.lnErr val t (m : Int) R = 0) : Tm.LnTo t k L R (m + 1) (l ++ [(k, m, val, Tm.lnVal val t (m : Int) R)]) := ⟨l, _, h, .inr (.inr ⟨hp, val, hs, he, rfl⟩), rfl⟩
end Go.Proofs.Ytgeknojpcjadkaa
namespace Go.Proofs.Ytgeknojpcjadkaa
open Go.Proofs Go.RowKit Go.Shelf Go.Maps
def MeetR (F : Bool → Act) (n : Nat) (wr : World) (B1 B0 : Nat) (zs : List Int) (h : Nat → Nat) (p q : Nat) (e : Exit) (a' : Act) (w4 : World) : Prop :=
  e = .normal ∧ ∃ (qb : Bool) (v3 : Value), a' = F qb ∧ Below n wr w4 ∧ ((qb = true ∧ ∃ h', Wb.TieL zs h h' [(p, q)] ∧ FW w4 B1 B0 v3 zs h') ∨ (qb = false ∧ Wb.No zs h [(p, q)]))
theorem MeetR.panic {F : Bool → Act} {n : Nat} {wr : World} {B1 B0 : Nat} {zs : List Int} {h : Nat → Nat} {p q : Nat} {c : _} {a' : Act} {w4 : World} {G : Prop} (H : MeetR F n wr B1 B0 zs h p q (.panic c) a' w4) : G := by
  cases H.1
theorem rulesAt_of {n B : Nat} {W : World} {rs : RuleL} {cs : Array Value} {t : TypeId} {p : Nat × Nat} (hblk : W.heap[B]? = some (.cells cs t p)) (hB : B < n)
    (h : ∀ k, k < rs.length → ∃ aL aR, cs[k * 2]? = some (.slice aL (rs[k]?.getD ([], [])).1.length (rs[k]?.getD ([], [])).1.length) ∧ cs[k * 2 + 1]? = some (.slice aR (rs[k]?.getD ([], [])).2.length (rs[k]?.getD ([], [])).2.length) ∧
      Ints n W aL (rs[k]?.getD ([], [])).1 ∧ Ints n W aR (rs[k]?.getD ([], [])).2 ∧ (rs[k]?.getD ([], [])).1.length ≤ 1000 ∧ (rs[k]?.getD ([], [])).2.length ≤ 1000) : RulesAt n W (some ⟨B, 0, none⟩) rs := fun k hk => by
  obtain ⟨aL, aR, h1, h2, h3, h4, h5, h6⟩ := h k hk
  refine ⟨B, 0, rfl, hB, aL, _, aR, _, by rw [cell_at hblk, Nat.zero_add]; exact h1, by rw [cell_at hblk, Nat.zero_add]; exact h2, h3, h4, Nat.le_refl _, by unfold maxLen; omega, Nat.le_refl _, by unfold maxLen; omega⟩
def allocs : World → List (List Int) → World
  | w, [] => w
  | w, z :: l => allocs (w.alloc (.cells (z.map (Value.int .i64)).toArray 3)) l
theorem allocs_size : ∀ (l : List (List Int)) (w : World), (allocs w l).heap.size = w.heap.size + l.length := by
  intro l
  induction l with
  | nil => intro w; rfl
  | cons z l ih => intro w; rw [allocs, ih, World.size_alloc, List.length_cons]; omega
theorem allocs_below : ∀ (l : List (List Int)) (w : World), Below w.heap.size w (allocs w l) := by
  intro l
  induction l with
  | nil => intro w; exact Below.refl _ _
  | cons z l ih =>
    intro w
    rw [allocs]
    exact ((Below.refl _ w).alloc (Nat.le_refl _) _).trans ((ih _).mono (by simp))
theorem allocs_ints : ∀ (l : List (List Int)) (w : World) (i : Nat), i < l.length → Ints (w.heap.size + l.length) (allocs w l) (some ⟨w.heap.size + i, 0, none⟩) (l[i]?.getD []) := by
  intro l
  induction l with
  | nil => intro w i hi; simp at hi
  | cons z l ih =>
    intro w i hi
    rw [allocs]
    cases i with
    | zero =>
      have h1 := ints_lit w z (w.heap.size + 1) rfl
      have h2 := h1.below (by rw [← World.size_alloc w (.cells (z.map (Value.int .i64)).toArray 3)]; exact allocs_below l _)
      exact h2.mono (by rw [List.length_cons]; omega)
    | succ i =>
      have h := ih (w.alloc (.cells (z.map (Value.int .i64)).toArray 3)) i (by simpa using hi)
      rw [World.size_alloc] at h
      rw [show w.heap.size + (i + 1) = w.heap.size + 1 + i from by omega, show w.heap.size + (z :: l).length = w.heap.size + 1 + l.length from by rw [List.length_cons]; omega]
      exact h
theorem g_same (xs ys : List Int) (n m c : Nat) (a : Option Addr) (w : World) (hn : n = xs.length) (hm : m = ys.length) (hl : xs.length ≤ 1000) (hI : Ints w.heap.size w a xs) (h : sameB xs ys = true) :
    Calls Try.prog 24 #[.slice a n c, .slice (some ⟨w.heap.size, 0, none⟩) m m] (w.alloc (.cells (ys.map (Value.int .i64)).toArray 3)) fun e w' => e = .returned (.bool true) ∧ Below w.heap.size w w' := by
  subst hn hm
  have hB : Below w.heap.size w (w.alloc (.cells (ys.map (Value.int .i64)).toArray 3)) := (Below.refl _ _).alloc (Nat.le_refl _) _
  refine (same_any xs ys a _ c ys.length _ ((hI.below hB).mono hB.size) (ints_lit w ys _ (by simp)) (by unfold maxLen; omega)).mono ?_
  rintro e w' ⟨rfl, hB'⟩
  exact ⟨by rw [h], hB.trans (hB'.mono hB.size)⟩
end Go.Proofs.Ytgeknojpcjadkaa
