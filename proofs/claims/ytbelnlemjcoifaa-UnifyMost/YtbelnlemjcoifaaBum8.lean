/-
  unify.newWeb. · PLAIN MATHEMATICS: what holds while pairs are tied, one behind the other; what is so found. · Rules in memory. · unify.meet. · unify.meet. · PLAIN MATHEMATICS: what meeting answers; what makes two terms the same, as a list. · Literals. · unify.Meet, unify.All.
-/
import Derived.Test.YtbelnlemjcoifaaBum7
import Derived.Test.YtbelnlemjcoifaaBum1
import Derived.Test.YtbelnlemjcoifaaBum4
namespace Go.Proofs.Ytbelnlemjcoifaa
open Go.Proofs Go.RowKit Go.Shelf Go.Maps

namespace Wb
/-- Each variable by itself. -/
def eight (k : Nat) : List Int := ((Tm.noneL 8).take k).flatten
theorem eight_succ {k : Nat} (hk : k < 8) : eight (k + 1) = eight k ++ ((Tm.noneL 8)[k]?.getD []) := flat_take_succ _ k (by rw [Tm.noneL_length]; exact hk)
theorem eight_length : ∀ k, k ≤ 8 → (eight k).length = k := by decide +kernel
theorem none_length : ∀ k, k < 8 → ((Tm.noneL 8)[k]?.getD []).length = 1 := by decide +kernel
theorem good8 : Good (Wb.eight 8) := by
  refine ⟨by decide +kernel, by decide +kernel, ?_, ?_, ?_⟩
  · have : ∀ p, p < 8 → -8 ≤ sg (Wb.eight 8) p ∧ sg (Wb.eight 8) p < 6 := by decide +kernel
    intro p hp
    exact this p (by rw [eight_length 8 (by omega)] at hp; exact hp)
  · decide +kernel
  · have : ∀ p, p < 8 → Tm.endAt (Wb.eight 8) p ≤ 8 := by decide +kernel
    intro p hp
    rw [eight_length 8 (by omega)] at hp ⊢
    exact this p hp
end Wb

theorem FW.keep {W W' : World} {Bw Bm : Nat} {v : Value} {zs : List Int} {h : Nat → Nat} (H : FW W Bw Bm v zs h) (hB : Below W.heap.size W W') : FW W' Bw Bm v zs h := by
  obtain ⟨⟨hw, hN⟩, T, N, M, S, hM, hT, hn⟩ := H
  exact ⟨⟨(hB.block _ (Array.getElem?_eq_some_iff.1 hw).1).trans hw, hN.below hB⟩, T, N, M, S, hM.keep (hB.block _ hM.lt), hT, hn⟩

theorem New.keepFrom {base : Nat} {W W' : World} {v : Value} {xs : List Int} (h : New base W v xs) (hk : ∀ q, base ≤ q → q < W.heap.size → W'.heap[q]? = W.heap[q]?) : New base W' v xs :=
  ⟨h.1, h.2.elim .inl fun ⟨g, c, cur, e, hb, hg, r⟩ => .inr ⟨g, c, cur, e, hb, (hk g hb (Array.getElem?_eq_some_iff.1 hg).1).trans hg, r⟩⟩
theorem NewS.keepFrom {base : Nat} {W W' : World} {v : Value} {ss : List (List Int)} (h : NewS base W v ss) (hk : ∀ q, base ≤ q → q < W.heap.size → W'.heap[q]? = W.heap[q]?) (_hs : W.heap.size ≤ W'.heap.size) : NewS base W' v ss := by
  obtain ⟨us, h1, h2⟩ := h
  refine ⟨us, ⟨h1.1, h1.2.elim .inl fun ⟨g, c, cur, e, hb, hg, r⟩ => .inr ⟨g, c, cur, e, hb, (hk g hb (Array.getElem?_eq_some_iff.1 hg).1).trans hg, r⟩⟩, fun j hj => ?_⟩
  obtain ⟨u, hu, hN⟩ := h2 j hj
  exact ⟨u, hu, hN.keepFrom hk⟩

set_option maxRecDepth 100000 in
set_option maxHeartbeats 1000000 in
theorem newWeb_any (w : World) : Calls Try.prog 79 #[] w fun e w' => ∃ v, e = .returned (.pointer (some ⟨w.heap.size + 1, 0, none⟩)) ∧ FW w' (w.heap.size + 1) w.heap.size v (Wb.eight 8) (fun p => p) ∧ Below w.heap.size w w' := by
  have hmm := @run_makeMap Try.prog
  have hF0 : Hid (FW ((w.alloc (.map #[] 0)).alloc (.cells #[.slice none 0 0, .map (some w.heap.size)] 101)) (w.heap.size + 1) w.heap.size (.slice none 0 0) [] (fun p => p)) := by
    have h1 := World.alloc_heap_new (w.alloc (.map #[] 0)) (.cells #[.slice none 0 0, .map (some w.heap.size)] 101)
    rw [World.size_alloc] at h1
    refine ⟨⟨h1, New.nil _ _⟩, fun _ => none, 0, fun _ => none, Wb.St.start [], (IntMap.made w).keep (Below.heap_alloc _ _ _ (by simp)), fun _ => rfl, by simp [Wb.rt]⟩
  have hB0 : Below w.heap.size w ((w.alloc (.map #[] 0)).alloc (.cells #[.slice none 0 0, .map (some w.heap.size)] 101)) := ((Below.refl _ w).alloc (Nat.le_refl _) _).alloc (by simp) _
  have hs0 : ((w.alloc (.map #[] 0)).alloc (.cells #[.slice none 0 0, .map (some w.heap.size)] 101)).heap.size = w.heap.size + 1 + 1 := by simp
  go_enter Try.func79, Try.ntmps79
  go_wp2_with (first
    | (go_at_call 35; refine (none_any _).mono ?_; rintro e w3 ⟨u, rfl, hN, hB3⟩; obtain ⟨a, c, rfl, hS, _⟩ := hN.subs; have hlen : (Tm.noneL 8).length = 8 := Tm.noneL_length 8; rw [hlen]))
  have hs3 := hB3.size
  rw [hs0] at hs3 hN
  have hNk : Hid (∀ W : World, (∀ q, w.heap.size + 1 + 1 ≤ q → q < w3.heap.size → W.heap[q]? = w3.heap[q]?) → w3.heap.size ≤ W.heap.size → Subs W.heap.size W a (Tm.noneL 8)) := fun W h1 h2 => by
    obtain ⟨a', c', e, hS', _⟩ := (hN.keepFrom h1 h2).subs
    cases e
    exact hS'
  have hF3 := hid (hF0.out.keep hB3)
  have hBw := hid (hB0.trans (hB3.mono (by rw [hs0]; omega)))
  clear hN hS hF0 hB0 hB3
  go_loopw [9] (fun i wr => ∃ (k : Nat) (v : Value), k ≤ 8 ∧ i = .int .i64 (k : Int) ∧ Hid (FW wr (w.heap.size + 1) w.heap.size v (Wb.eight k) (fun p => p)) ∧ Hid (∀ q, v.ownBlock = some q → w3.heap.size ≤ q) ∧ Hid (wr.os = w.os ∧ wr.tape = w.tape ∧ wr.output = w.output ∧ w3.heap.size ≤ wr.heap.size ∧ ∀ q, q < w3.heap.size → q ≠ w.heap.size + 1 → q ≠ w.heap.size → wr.heap[q]? = w3.heap[q]?)) (fun i _ => 8 - (intOf i).toNat)
  case atStart => exact ⟨0, .slice none 0 0, by omega, rfl, hF3, fun q e => by simp [Value.ownBlock] at e, hBw.out.os, hBw.out.tape, hBw.out.output, Nat.le_refl _, fun _ _ _ _ => rfl⟩
  case round =>
    obtain ⟨k, v, hk, rfl, hF, ho, hK⟩ := hrel
    by_cases hlt : k < 8
    · have hlt' : (k : Int) < 8 := by omega
      have hS := hNk.out wr (fun q h1 h2 => hK.out.2.2.2.2 q h2 (by omega) (by omega)) hK.out.2.2.2.1
      obtain ⟨b, off, rfl, hb, hc⟩ := hS.at (by rw [hlen]; omega)
      obtain ⟨aj, cj, hcj, hIj, _⟩ := hc k (by rw [hlen]; exact hlt)
      have hl1 := Wb.none_length k hlt
      have hl8 := Wb.eight_length k hk
      have hC := hid (fw_lay (Wb.eight k) ((Tm.noneL 8)[k]?.getD []) (fun p => p) (w.heap.size + 1) w.heap.size v aj cj wr hF.out hIj (fun e => by
        obtain ⟨b', off', e', _⟩ := hIj.at (by omega)
        rw [e] at e'
        cases e') (by omega))
      have hst := hid (Wb.eight_succ hlt)
      rw [hl1] at hC hcj
      rw [hl8] at hC
      clear hS hc hIj hl1 hl8 hF
      go_wp2_with (first
        | (go_at_call 81; refine hC.out.mono ?_; clear hC; rintro e w4 ⟨rfl, v4, hF4, hK4, ho4⟩))
      go_roundw
      case rel =>
        obtain ⟨g1, g2, g3, g4, g5⟩ := hK.out
        obtain ⟨k1, k2, k3, k4, k5⟩ := hK4
        refine ⟨k + 1, v4, by omega, by go_num, by rw [hst.out]; exact hF4, fun q e => ?_, k1.trans g1, k2.trans g2, k3.trans g3, by omega, fun q hq n1 n2 => (k5 q (by omega) n1 n2 (fun e => by have := ho.out q e.symm; omega)).trans (g5 q hq n1 n2)⟩
        rcases ho4 q e with h1 | h1
        · exact ho.out q h1
        · omega
      case measure => simp [intOf]; omega
    · obtain rfl : k = 8 := by omega
      go_wp2
      go_ret
      obtain ⟨g1, g2, g3, g4, g5⟩ := hK.out
      exact ⟨v, rfl, hF.out, g1, g2, g3, by omega, fun q hq => (g5 q (by omega) (by omega) (by omega)).trans (hBw.out.block q hq)⟩

end Go.Proofs.Ytbelnlemjcoifaa

namespace Go.Proofs.Ytbelnlemjcoifaa
open Go.Proofs Go.RowKit Go.Shelf Go.Maps

abbrev PairL := List (List Int × List Int)
namespace Wb
theorem cont_laid {pre t post : List Int} (ht : Tm.err t = 0) : cont (pre ++ (t ++ post)) pre.length = t := by
  have h := Tm.part_mid (pre := pre) (t := t) (post := post) (k := 0) (by omega) (by rw [Tm.endAt_zero, Tm.err_run ht]; exact Nat.le_refl _)
  rw [Nat.add_zero] at h
  unfold cont
  rw [h]
  unfold Tm.part
  rw [Tm.endAt_zero, Tm.err_run ht]
  simp
/-- Do all of the first k pairs become the same? -/
def Same (ps : PairL) (k : Nat) (θ : Sb) : Prop := ∀ j, j < k → App θ (ps[j]?.getD ([], [])).1 = App θ (ps[j]?.getD ([], [])).2
/-- What holds when k pairs are tied. -/
structure MInv (ps : PairL) (k : Nat) (zs : List Int) (h : Nat → Nat) : Prop where
  good : Good zs
  st : ∃ T, St zs T h
  closed : Closed zs h []
  len : zs.length ≤ 8 + 60 * k
  sound : ∀ θ, TermSb θ → Same ps k θ → Resp zs h θ
  tied : ∀ j, j < k → ∃ p q, p < zs.length ∧ q < zs.length ∧ cont zs p = (ps[j]?.getD ([], [])).1 ∧ cont zs q = (ps[j]?.getD ([], [])).2 ∧ hd zs h p = hd zs h q
theorem MInv.start (ps : PairL) : MInv ps 0 (eight 8) (fun p => p) := by
  refine ⟨good8, ⟨_, St.start _⟩, fun p q hp _ sp _ _ => ?_, by rw [eight_length 8 (by omega)]; omega, fun θ _ _ p _ _ => rfl, fun j hj => by omega⟩
  rw [eight_length 8 (by omega)] at hp
  have := good8.vars p hp
  omega
theorem Closed.more {zs : List Int} {h : Nat → Nat} {P : List (Nat × Nat)} (C : Closed zs h []) : Closed zs h P := fun p q hp hq sp sq e => by
  obtain ⟨e1, e2⟩ := C p q hp hq sp sq e
  exact ⟨e1, fun i hi => (e2 i hi).move (fun _ _ _ _ h => h) (fun p q hm => by simp at hm)⟩
theorem Same.succ {ps : PairL} {k : Nat} {θ : Sb} (H : Same ps (k + 1) θ) : Same ps k θ ∧ App θ (ps[k]?.getD ([], [])).1 = App θ (ps[k]?.getD ([], [])).2 := ⟨fun j hj => H j (by omega), H k (by omega)⟩
theorem MInv.good2 {ps : PairL} {k : Nat} {zs : List Int} {h : Nat → Nat} (M : MInv ps k zs h) {L R : List Int} (hL : Tm.err L = 0) (hR : Tm.err R = 0) (lL : L.length ≤ 30) (lR : R.length ≤ 30) (hk : k < 40) : Good (zs ++ L ++ R) := by
  have := M.len
  exact (M.good.ext hL (by omega)).ext hR (by rw [List.length_append]; omega)
theorem MInv.at1 {zs L R : List Int} (hL : Tm.err L = 0) : cont (zs ++ L ++ R) zs.length = L := by rw [List.append_assoc]; exact cont_laid hL
theorem MInv.at2 {zs L R : List Int} (hR : Tm.err R = 0) : cont (zs ++ L ++ R) (zs ++ L).length = R := by
  have := cont_laid (pre := zs ++ L) (post := []) hR
  rwa [List.append_nil] at this
theorem MInv.step {ps : PairL} {k : Nat} {zs : List Int} {h : Nat → Nat} (M : MInv ps k zs h) {L R : List Int} (hL : Tm.err L = 0) (hR : Tm.err R = 0) (lL : L.length ≤ 30) (lR : R.length ≤ 30) (hk : k < 40) (eL : (ps[k]?.getD ([], [])).1 = L) (eR : (ps[k]?.getD ([], [])).2 = R) (h0 : 0 < L.length) (h1 : 0 < R.length) {h' : Nat → Nat} (hL' : TieL (zs ++ L ++ R) h h' [(zs.length, (zs ++ L).length)]) (S' : ∃ T, St (zs ++ L ++ R) T h') : MInv ps (k + 1) (zs ++ L ++ R) h' := by
  obtain ⟨T, S⟩ := M.st
  have G1 := M.good.ext hL (by have := M.len; omega)
  have G2 := M.good2 hL hR lL lR hk
  have S1 : St (zs ++ L) T h := S.ext
  have hlen : (zs ++ L ++ R).length = zs.length + L.length + R.length := by rw [List.length_append, List.length_append]
  have c1 := MInv.at1 (zs := zs) (R := R) hL
  have c2 := MInv.at2 (zs := zs) (L := L) hR
  refine ⟨G2, S', hL'.close [] ((Closed.ext G1 S1 G2 (Closed.ext M.good S G1 M.closed)).more), by have := M.len; omega, fun θ hθ H => ?_, fun j hj => ?_⟩
  · obtain ⟨H1, H2⟩ := H.succ
    refine hL'.sound θ hθ ((M.sound θ hθ H1).ext M.good S |>.ext G1 S1) fun p q hm => ?_
    simp only [List.mem_cons, List.not_mem_nil, or_false, Prod.mk.injEq] at hm
    obtain ⟨rfl, rfl⟩ := hm
    rw [c1, c2, ← eL, ← eR]
    exact H2
  · by_cases e : j = k
    · subst e
      exact ⟨zs.length, (zs ++ L).length, by omega, by rw [hlen, List.length_append]; omega, by rw [c1, eL], by rw [c2, eR], hL'.tied _ _ (by simp)⟩
    · obtain ⟨p, q, hp, hq, e1, e2, e3⟩ := M.tied j (by omega)
      have hp1 : p < (zs ++ L).length := by rw [List.length_append]; omega
      have hq1 : q < (zs ++ L).length := by rw [List.length_append]; omega
      refine ⟨p, q, by omega, by omega, by rw [cont_ext G1 hp1, cont_ext M.good hp, e1], by rw [cont_ext G1 hq1, cont_ext M.good hq, e2], hL'.coarse p q (by omega) (by omega) ?_⟩
      rw [hd_ext hp1, hd_ext hp, hd_ext hq1, hd_ext hq, e3]
theorem MInv.no {ps : PairL} {k : Nat} {zs : List Int} {h : Nat → Nat} (M : MInv ps k zs h) {L R : List Int} (hL : Tm.err L = 0) (hR : Tm.err R = 0) (lL : L.length ≤ 30) (hk : k < 40) (eL : (ps[k]?.getD ([], [])).1 = L) (eR : (ps[k]?.getD ([], [])).2 = R) (hN : No (zs ++ L ++ R) h [(zs.length, (zs ++ L).length)]) : ∀ θ, TermSb θ → ¬ Same ps (k + 1) θ := fun θ hθ H => by
  obtain ⟨T, S⟩ := M.st
  have G1 := M.good.ext hL (by have := M.len; omega)
  have S1 : St (zs ++ L) T h := S.ext
  obtain ⟨H1, H2⟩ := H.succ
  refine hN θ hθ ((M.sound θ hθ H1).ext M.good S |>.ext G1 S1) fun p q hm => ?_
  simp only [List.mem_cons, List.not_mem_nil, or_false, Prod.mk.injEq] at hm
  obtain ⟨rfl, rfl⟩ := hm
  rw [MInv.at1 (zs := zs) (R := R) hL, MInv.at2 (zs := zs) (L := L) hR, ← eL, ← eR]
  exact H2
/-- What is found: σ makes all pairs the same, whatever else does is made of it, and it takes the least variables. -/
structure Mgu (ps : PairL) (σ : Sb) : Prop where
  term : TermSb σ
  vars : ∀ v, -8 ≤ v → v < 0 → ∀ s ∈ σ v, -8 ≤ s ∧ s < 6
  same : Same ps ps.length σ
  most : ∀ θ, TermSb θ → Same ps ps.length θ → ∀ v, -8 ≤ v → v < 0 → θ v = App θ (σ v)
  least : ∀ v u, -8 ≤ v → v < 0 → σ v = [u] → u < 0 → v ≤ u
theorem MInv.mgu {ps : PairL} {zs : List Int} {h : Nat → Nat} (M : MInv ps ps.length zs h) (F : ∀ i, i < 8 → Fin zs h i) : ∃ σ, Mgu ps σ ∧ ∀ i, i < 8 → Exp zs h i (σ (-1 - (i : Int))) := by
  obtain ⟨T, S⟩ := M.st
  obtain ⟨σ, Sg⟩ := Sigma.of M.good S M.closed F
  have hv : ∀ v, -8 ≤ v → v < 0 → ∀ s ∈ σ v, -8 ≤ s ∧ s < 6 := fun v h1 h2 => by
    have hE := Sg.exp (-1 - v).toNat (by omega)
    rw [show -1 - (((-1 - v).toNat : Nat) : Int) = v from by omega] at hE
    exact hE.vars M.good S (by have := M.good.eight; omega)
  refine ⟨σ, ⟨Sg.term, hv, fun j hj => ?_, fun θ hθ H => Sg.most θ (M.sound θ hθ H), Sg.least⟩, Sg.exp⟩
  obtain ⟨p, q, hp, hq, e1, e2, e3⟩ := M.tied j hj
  have a := Exp.of_sigma M.good S M.closed Sg.exp _ p (Nat.le_refl _) hp
  have b := Exp.of_sigma M.good S M.closed Sg.exp _ q (Nat.le_refl _) hq
  have := (a.move e3).one _ b
  rw [e1, e2] at this
  exact this
/-- There is but one. -/
theorem Mgu.one {ps : PairL} {σ τ : Sb} (A : Mgu ps σ) (B : Mgu ps τ) : ∀ v, -8 ≤ v → v < 0 → σ v = τ v :=
  canon_one A.term B.term (fun v h1 h2 s hs _ => (A.vars v h1 h2 s hs).1) (fun v h1 h2 s hs _ => (B.vars v h1 h2 s hs).1) (B.most σ A.term A.same) (A.most τ B.term B.same) A.least B.least
end Wb

end Go.Proofs.Ytbelnlemjcoifaa

namespace Go.Proofs.Ytbelnlemjcoifaa
open Go.Proofs Go.RowKit Go.Shelf Go.Maps

abbrev RuleL := List (List Int × List Int)
/-- A SLICE OF RULES THAT CAN BE READ. -/
def RulesAt (n : Nat) (W : World) (a : Option Addr) (rs : RuleL) : Prop :=
  ∀ k, k < rs.length → ∃ b off, a = some ⟨b, off, none⟩ ∧ b < n ∧ ∃ aL cL aR cR, W.cell? ⟨b, off + k * 2, none⟩ = some (.slice aL (rs[k]?.getD ([], [])).1.length cL) ∧ W.cell? ⟨b, off + k * 2 + 1, none⟩ = some (.slice aR (rs[k]?.getD ([], [])).2.length cR) ∧
    Ints n W aL (rs[k]?.getD ([], [])).1 ∧ Ints n W aR (rs[k]?.getD ([], [])).2 ∧ (rs[k]?.getD ([], [])).1.length ≤ cL ∧ cL ≤ maxLen ∧ (rs[k]?.getD ([], [])).2.length ≤ cR ∧ cR ≤ maxLen
theorem RulesAt.below {n : Nat} {A B : World} (h : Below n A B) {a : Option Addr} {rs : RuleL} (hi : RulesAt n A a rs) : RulesAt n B a rs := fun k hk => by
  obtain ⟨b, off, e, hb, aL, cL, aR, cR, h1, h2, h3, h4, r⟩ := hi k hk
  exact ⟨b, off, e, hb, aL, cL, aR, cR, (h.cell (p := ⟨b, off + k * 2, none⟩) hb).trans h1, (h.cell (p := ⟨b, off + k * 2 + 1, none⟩) hb).trans h2, h3.below h, h4.below h, r⟩
theorem RulesAt.mono {n m : Nat} (h : n ≤ m) {W : World} {a : Option Addr} {rs : RuleL} (hi : RulesAt n W a rs) : RulesAt m W a rs := fun k hk => by
  obtain ⟨b, off, e, hb, aL, cL, aR, cR, h1, h2, h3, h4, r⟩ := hi k hk
  exact ⟨b, off, e, by omega, aL, cL, aR, cR, h1, h2, h3.mono h, h4.mono h, r⟩

end Go.Proofs.Ytbelnlemjcoifaa

namespace Go.Proofs.Ytbelnlemjcoifaa
open Go.Proofs Go.RowKit Go.Shelf Go.Maps

def Tm.pairErr (L R : List Int) : Int := if Tm.err L = 0 then Tm.err R else Tm.err L
/-- The first error of pairs. -/
def Tm.firstPair : PairL → Int
  | [] => 0
  | r :: l => if Tm.pairErr r.1 r.2 = 0 then Tm.firstPair l else Tm.pairErr r.1 r.2
theorem Tm.firstPair_step {rs : PairL} {k : Nat} (hk : k < rs.length) (he : Tm.pairErr (rs[k]?.getD ([], [])).1 (rs[k]?.getD ([], [])).2 = 0) : Tm.firstPair (rs.drop k) = Tm.firstPair (rs.drop (k + 1)) := by
  rw [List.drop_eq_getElem_cons hk, Tm.firstPair]
  simp only [hk, List.getElem?_eq_getElem, Option.getD_some] at he
  rw [if_pos he]
theorem Tm.firstPair_at {rs : PairL} {k : Nat} (hk : k < rs.length) (he : Tm.pairErr (rs[k]?.getD ([], [])).1 (rs[k]?.getD ([], [])).2 ≠ 0) : Tm.firstPair (rs.drop k) = Tm.pairErr (rs[k]?.getD ([], [])).1 (rs[k]?.getD ([], [])).2 := by
  rw [List.drop_eq_getElem_cons hk, Tm.firstPair]
  simp only [hk, List.getElem?_eq_getElem, Option.getD_some] at he ⊢
  rw [if_neg he]
theorem Tm.firstPair_right {rs : PairL} (h : Tm.firstPair rs = 0) : ∀ k, k < rs.length → Tm.err (rs[k]?.getD ([], [])).1 = 0 ∧ Tm.err (rs[k]?.getD ([], [])).2 = 0 := by
  induction rs with
  | nil => intro k hk; simp at hk
  | cons r l ih =>
    rw [Tm.firstPair] at h
    by_cases he : Tm.pairErr r.1 r.2 = 0
    · rw [if_pos he] at h
      intro k hk
      cases k with
      | zero =>
        simp only [List.getElem?_cons_zero, Option.getD_some]
        unfold Tm.pairErr at he
        by_cases hl : Tm.err r.1 = 0
        · rw [if_pos hl] at he; exact ⟨hl, he⟩
        · rw [if_neg hl] at he; exact absurd he hl
      | succ k =>
        simp only [List.getElem?_cons_succ]
        exact ih h k (by simpa using hk)
    · rw [if_neg he] at h
      exact absurd h he

/-- What meet answers to right pairs. -/
def MeetOk (ps : PairL) (W : World) (e : Ending) : Prop :=
  ((∀ θ, Wb.TermSb θ → ¬ Wb.Same ps ps.length θ) ∧ e = .returned (.tuple #[.slice none 0 0, .bool false, .int .i64 0])) ∨
  ∃ σ, Wb.Mgu ps σ ∧ (((∀ i : Nat, i < 8 → (σ (-1 - (i : Int))).length ≤ 30) ∧ ∃ a, e = .returned (.tuple #[.slice a 8 8, .bool true, .int .i64 0]) ∧ Subs W.heap.size W a ((List.range 8).map fun i : Nat => σ (-1 - (i : Int)))) ∨
    ((∃ i : Nat, i < 8 ∧ 30 < (σ (-1 - (i : Int))).length) ∧ e = .returned (.tuple #[.slice none 0 0, .bool false, .int .i64 2])))
def MeetAns (ps : PairL) (W : World) (e : Ending) : Prop :=
  (Tm.firstPair ps ≠ 0 ∧ e = .returned (.tuple #[.slice none 0 0, .bool false, .int .i64 (Tm.firstPair ps)])) ∨ (Tm.firstPair ps = 0 ∧ MeetOk ps W e)

end Go.Proofs.Ytbelnlemjcoifaa

namespace Go.Proofs.Ytbelnlemjcoifaa
open Go.Proofs Go.RowKit Go.Shelf Go.Maps

/-- What stands behind the laying and tying of one pair. -/
def MeetR (F : Bool → Act) (n : Nat) (wr : World) (B1 B0 : Nat) (zs : List Int) (h : Nat → Nat) (p q : Nat) (e : Exit) (a' : Act) (w4 : World) : Prop :=
  e = .normal ∧ ∃ (qb : Bool) (v3 : Value), a' = F qb ∧ Below n wr w4 ∧ ((qb = true ∧ ∃ h', Wb.TieL zs h h' [(p, q)] ∧ FW w4 B1 B0 v3 zs h') ∨ (qb = false ∧ Wb.No zs h [(p, q)]))
theorem MeetR.panic {F : Bool → Act} {n : Nat} {wr : World} {B1 B0 : Nat} {zs : List Int} {h : Nat → Nat} {p q : Nat} {c : _} {a' : Act} {w4 : World} {G : Prop} (H : MeetR F n wr B1 B0 zs h p q (.panic c) a' w4) : G := by
  cases H.1

set_option maxRecDepth 100000 in
set_option maxHeartbeats 30000000 in
theorem meet_any (ps : PairL) (h40 : ps.length ≤ 40) (a : Option Addr) (cap : Nat) (w : World) (hP : RulesAt w.heap.size w a ps) :
    Calls Try.prog 66 #[.slice a ps.length cap] w fun e w' => Below w.heap.size w w' ∧ MeetAns ps w' e := by
  have h40' : (ps.length : Int) ≤ 40 := by omega
  have HP := hid hP
  clear hP
  go_enter Try.func66, Try.ntmps66
  go_wp2_with fail
  go_loopw [14] (fun v wr => ∃ k : Nat, k ≤ ps.length ∧ v = .int .i64 (k : Int) ∧ Hid (Tm.firstPair ps = Tm.firstPair (ps.drop k)) ∧ Below w.heap.size w wr) (fun v _ => ps.length - (intOf v).toNat)
  case atStart => exact ⟨0, Nat.zero_le _, rfl, hid rfl, Below.refl _ _⟩
  case round =>
    obtain ⟨k, hk, rfl, hst, hB⟩ := hrel
    by_cases hlt : k < ps.length
    · have hlt' : (k : Int) < (ps.length : Int) := by omega
      obtain ⟨b, off, rfl, hb, aL, cL, aR, cR, h1, h2, h3, h4, _⟩ := (HP.out.below hB) k hlt
      have hs1 := hid (Tm.firstPair_step hlt)
      have hs2 := hid (Tm.firstPair_at hlt)
      obtain ⟨L, hL⟩ : ∃ L, (ps[k]?.getD ([], [])).1 = L := ⟨_, rfl⟩
      obtain ⟨R, hR⟩ : ∃ R, (ps[k]?.getD ([], [])).2 = R := ⟨_, rfl⟩
      rw [hL] at h1 h3 hs1 hs2
      rw [hR] at h2 h4 hs1 hs2
      have hBa : Below wr.heap.size wr (wr.alloc (.cells #[.slice aL L.length cL, .slice aR R.length cR] 76)) := (Below.refl _ wr).alloc (Nat.le_refl _) _
      have hC1 := hid (check_any L aL cL (wr.alloc (.cells #[.slice aL L.length cL, .slice aR R.length cR] 76)) (((h3.mono hB.size).below hBa).mono hBa.size))
      have hC2 := hid (fun w2 (hB2 : Below (wr.alloc (.cells #[.slice aL L.length cL, .slice aR R.length cR] 76)).heap.size (wr.alloc (.cells #[.slice aL L.length cL, .slice aR R.length cR] 76)) w2) => check_any R aR cR w2 (((((h4.mono hB.size).below hBa).mono hBa.size).below hB2).mono hB2.size))
      have hBw := hB.trans (hBa.mono hB.size)
      have hq : Hid (Tm.pairErr L R = if Tm.err L = 0 then Tm.err R else Tm.err L) := rfl
      have hsa : (wr.alloc (.cells #[.slice aL L.length cL, .slice aR R.length cR] 76)).heap.size = wr.heap.size + 1 := by simp
      have hcp : (wr.alloc (.cells #[.slice aL L.length cL, .slice aR R.length cR] 76)).cell? ⟨wr.heap.size, 1, none⟩ = some (.slice aR R.length cR) := (cell_at (World.alloc_heap_new wr _) 1).trans rfl
      clear hL hR h3 h4
      by_cases heL : Tm.err L = 0
      · rw [heL] at hC1
        by_cases heR : Tm.err R = 0
        · rw [heR] at hC2
          have Hs := hid (hs1.out (by rw [hq.out, if_pos heL, heR]))
          clear heL heR hs1 hs2 hq
          go_wp2_with (first
            | (go_at_call_of 19 (Value.slice aL L.length cL); refine hC1.out.mono ?_; clear hC1; rintro e w2 ⟨rfl, b2⟩; have hc2 := (b2.cell (p := ⟨wr.heap.size, 1, none⟩) (by rw [hsa]; exact Nat.lt_succ_self _)).trans hcp)
            | (go_at_call_of 19 (Value.slice aR R.length cR); refine (hC2.out w2 b2).mono ?_; clear hC2; rintro e w5 ⟨rfl, b5⟩))
          go_roundw
          case rel => exact ⟨k + 1, by omega, by go_num, hid (hst.out.trans Hs.out), (hBw.trans (b2.mono hBw.size)).trans (b5.mono (hBw.trans (b2.mono hBw.size)).size)⟩
          case measure => simp [intOf]; omega
        · have hn : (Tm.err R != 0) = true := by simpa using heR
          have Hs := hid (hs2.out (by rw [hq.out, if_pos heL]; exact heR))
          have Hv := hid (show Tm.pairErr L R = Tm.err R by rw [hq.out, if_pos heL])
          have hne := hid heR
          clear heL heR hs1 hs2 hq
          generalize Tm.err R = q at *
          go_wp2_with (first
            | (go_at_call_of 19 (Value.slice aL L.length cL); refine hC1.out.mono ?_; clear hC1; rintro e w2 ⟨rfl, b2⟩; have hc2 := (b2.cell (p := ⟨wr.heap.size, 1, none⟩) (by rw [hsa]; exact Nat.lt_succ_self _)).trans hcp)
            | (go_at_call_of 19 (Value.slice aR R.length cR); refine (hC2.out w2 b2).mono ?_; clear hC2; rintro e w5 ⟨rfl, b5⟩))
          go_ret3
          have he := hst.out.trans (Hs.out.trans Hv.out)
          exact ⟨(hBw.trans (b2.mono hBw.size)).trans (b5.mono (hBw.trans (b2.mono hBw.size)).size), .inl ⟨by rw [he]; exact hne.out, by rw [he]; rfl⟩⟩
      · have hn : (Tm.err L != 0) = true := by simpa using heL
        have Hs := hid (hs2.out (by rw [hq.out, if_neg heL]; exact heL))
        have Hv := hid (show Tm.pairErr L R = Tm.err L by rw [hq.out, if_neg heL])
        have hne := hid heL
        clear heL hs1 hs2 hq
        generalize Tm.err L = q at *
        go_wp2_with (first
          | (go_at_call_of 19 (Value.slice aL L.length cL); refine hC1.out.mono ?_; clear hC1; rintro e w2 ⟨rfl, b2⟩))
        go_ret3
        have he := hst.out.trans (Hs.out.trans Hv.out)
        exact ⟨hBw.trans (b2.mono hBw.size), .inl ⟨by rw [he]; exact hne.out, by rw [he]; rfl⟩⟩
    · obtain rfl : k = ps.length := by omega
      have hok : Hid (Tm.firstPair ps = 0) := by
        show _ = _
        rw [hst.out, List.drop_length]
        rfl
      go_wp2_with (first
        | (go_at_call 79; refine (newWeb_any wr).mono ?_; rintro e w5 ⟨v5, rfl, hF5, hB5⟩))
      have hsw := hB.size
      have hB5w := hB.trans (hB5.mono hB.size)
      have HF5 := hid hF5
      obtain ⟨W0, hW0⟩ : ∃ n, n = wr.heap.size := ⟨_, rfl⟩
      rw [← hW0] at HF5 hsw
      clear hF5 hst
      go_wp2_with fail
      rw [← hW0]
      clear hW0 hB5 hB
      go_loopw [34] (fun x wq => ∃ (k : Nat) (zs : List Int) (h : Nat → Nat) (v : Value), k ≤ ps.length ∧ x = .int .i64 (k : Int) ∧ Hid (Wb.MInv ps k zs h) ∧ Hid (FW wq (W0 + 1) W0 v zs h) ∧ Hid (Below w.heap.size w wq)) (fun x _ => ps.length - (intOf x).toNat)
      case atStart => exact ⟨0, _, _, v5, by omega, rfl, Wb.MInv.start ps, HF5, hB5w⟩
      case round =>
        obtain ⟨k, zs, h, v, hk2, rfl, hM, hF, hBq⟩ := hrel
        by_cases hlt : k < ps.length
        · have hlt' : (k : Int) < (ps.length : Int) := by omega
          obtain ⟨b, off, rfl, hb, aL, cL, aR, cR, h1, h2, h3, h4, _⟩ := (HP.out.below hBq.out) k hlt
          obtain ⟨eL0, eR0⟩ := Tm.firstPair_right hok.out k hlt
          obtain ⟨L, hL⟩ : ∃ L, (ps[k]?.getD ([], [])).1 = L := ⟨_, rfl⟩
          obtain ⟨R, hR⟩ : ∃ R, (ps[k]?.getD ([], [])).2 = R := ⟨_, rfl⟩
          rw [hL] at h1 h3 eL0
          rw [hR] at h2 h4 eR0
          have lL := Tm.err_len eL0
          have lR := Tm.err_len eR0
          have pL := Tm.err_pos eL0
          have pR := Tm.err_pos eR0
          have hzl := hM.out.len
          have G2 := hid (hM.out.good2 eL0 eR0 lL lR (by omega))
          have hsz := hBq.out.size
          have hlw := hF.out.lt
          obtain ⟨p, hp⟩ : ∃ p, p = zs.length := ⟨_, rfl⟩
          obtain ⟨q, hq⟩ : ∃ q, q = (zs ++ L).length := ⟨_, rfl⟩
          have hpq : q = p + L.length := by rw [hp, hq, List.length_append]
          have hBa : Below wr.heap.size wr ((wr.alloc (.cells #[.slice aL L.length cL, .slice aR R.length cR] 76)).drewN 1) := below_drewN ((Below.refl _ wr).alloc (Nat.le_refl _) _) 1
          have hsa : ((wr.alloc (.cells #[.slice aL L.length cL, .slice aR R.length cR] 76)).drewN 1).heap.size = wr.heap.size + 1 := by show (wr.alloc _).heap.size = _; simp
          have hblk : ((wr.alloc (.cells #[.slice aL L.length cL, .slice aR R.length cR] 76)).drewN 1).heap[wr.heap.size]? = some (.cells #[.slice aL L.length cL, .slice aR R.length cR] 76) := World.alloc_heap_new wr _
          have hnone : ∀ {x : Option Addr} {t : List Int} {W : World} {n c : Nat}, Ints n W x t → 0 < t.length → x = none → t.length = 0 ∧ c = 0 := fun {x t W n c} hI h0 e => by
            obtain ⟨b', off', e', _⟩ := hI.at h0
            rw [e] at e'
            cases e'
          have hC1 := hid (fw_lay zs L h (W0 + 1) W0 v aL cL _ (hF.out.keep hBa) (((h3.mono hsz).below hBa).mono hBa.size) (hnone h3 pL) (by omega))
          have hC2 := hid (fun w2 v2 (hF2 : FW w2 (W0 + 1) W0 v2 (zs ++ L) h) (hB2 : Below w.heap.size wr w2) => fw_lay (zs ++ L) R h (W0 + 1) W0 v2 aR cR w2 hF2 ((h4.below hB2).mono (by have := hB2.size; omega)) (hnone h4 pR) (by rw [List.length_append]; omega))
          rw [← hp] at hC1
          rw [← hq] at hC2
          have hlen3 : (zs ++ L ++ R).length = p + L.length + R.length := by rw [hp, List.length_append, List.length_append]
          have hT := hid (fun w3 v3 (hF3 : FW w3 (W0 + 1) W0 v3 (zs ++ L ++ R) h) => fw_tie (zs ++ L ++ R) G2.out h (W0 + 1) W0 v3 p q w3 (by omega) (by omega) hF3)
          have hstep := hid (fun h' hTL S' => hM.out.step eL0 eR0 lL lR (by omega) hL hR pL pR (h' := h') hTL S')
          have hno := hid (fun hN => hM.out.no eL0 eR0 lL (by omega) hL hR hN)
          rw [← hp, ← hq] at hstep hno
          have hwk : Hid (∀ (w1 w2 : World) (u : Value) (zz : List Int) (hh : Nat → Nat), FW w1 (W0 + 1) W0 u zz hh → WKeep w1 w2 (W0 + 1) W0 u → Below w.heap.size w1 w2) := fun w1 w2 u zz hh hf hk => ⟨hk.1, hk.2.1, hk.2.2.1, hk.2.2.2.1, fun x hx => hk.2.2.2.2 x (by have := hf.lt; omega) (by omega) (by omega) (fun e => by have := (World.ownsRow.lt hf.own.2 x e.symm).1; omega)⟩
          have hFa := hid (hF.out.keep hBa)
          have hvo := hid (fun x (e : v.ownBlock = some x) => (World.ownsRow.lt hF.out.own.2 x e).2)
          clear hL hR h3 h4 hp hq hnone hM hF eL0 eR0 hpq hlen3
          have hcc : Hid (∀ W : World, W.heap[wr.heap.size]? = some (.cells #[.slice aL L.length cL, .slice aR R.length cR] 76) → W.cell? ⟨wr.heap.size, 0, none⟩ = some (.slice aL L.length cL) ∧ W.cell? ⟨wr.heap.size, 1, none⟩ = some (.slice aR R.length cR)) := fun W hW => ⟨(cell_at hW 0).trans rfl, (cell_at hW 1).trans rfl⟩
          have hb2 : Hid (∀ (w2 : World), WKeep ((wr.alloc (.cells #[.slice aL L.length cL, .slice aR R.length cR] 76)).drewN 1) w2 (W0 + 1) W0 v → w2.heap[wr.heap.size]? = some (.cells #[.slice aL L.length cL, .slice aR R.length cR] 76)) := fun w2 hk => (hk.2.2.2.2 wr.heap.size (by rw [hsa]; omega) (by omega) (by omega) (fun e => by have := hvo.out _ e.symm; omega)).trans hblk
          have hS0 := hcc.out _ hblk
          have hS0' : (wr.alloc (.cells #[.slice aL L.length cL, .slice aR R.length cR] 76)).cell? ⟨wr.heap.size, 0, none⟩ = some (.slice aL L.length cL) ∧ (wr.alloc (.cells #[.slice aL L.length cL, .slice aR R.length cR] 76)).cell? ⟨wr.heap.size, 1, none⟩ = some (.slice aR R.length cR) := hS0
          go_wp2_with fail
          have mixed : Try.prog.follows .mixedOrders = true := by kernel_rfl
          refine wp_mono (Q := MeetR (fun qb => { tmps := #[.slice (some ⟨b, off, none⟩) ps.length cap, undef, u2, u3, u4, undef, u6, u7, u8, .pointer (some ⟨W0 + 1, 0, none⟩), undef, .pointer (some ⟨wr.heap.size, 0, none⟩), .slice (some ⟨b, off, none⟩) ps.length cap, .int .i64 (ps.length : Int), .int .i64 (ps.length : Int), .bool false, u16, u17, u18, u19, u20, u21, u22, u23, u24, u25, u26, u27, u28, u29, u30, .pointer (some ⟨W0 + 1, 0, none⟩), .slice (some ⟨b, off, none⟩) ps.length cap, .int .i64 (ps.length : Int), .int .i64 (k : Int), .bool true, .pointer (some ⟨b, off + k * 2, none⟩), .agg #[.slice aL L.length cL, .slice aR R.length cR], .pointer (some ⟨W0 + 1, 0, none⟩), .pointer (some ⟨W0 + 1, 0, none⟩), .pointer (some ⟨wr.heap.size, 0, none⟩), .slice aL L.length cL, .int .i64 (p : Int), .pointer (some ⟨W0 + 1, 0, none⟩), .pointer (some ⟨wr.heap.size, 1, none⟩), .slice aR R.length cR, .int .i64 (q : Int), .bool qb, .bool !qb, u49, undef, undef, undef, undef, undef, undef, undef], defers := [] }) w.heap.size wr (W0 + 1) W0 (zs ++ L ++ R) h p q) ?reg ?aft
          case reg =>
           refine wp_region_any mixed ?_
           change wpAny _ _ _ _ _ _ _ (World.drew _)
           show wpAny _ _ _ _ 11 (Array.replicate 11 false) _ _
           refine wpAny_take (i := 0) (v := .pointer (some ⟨W0 + 1, 0, none⟩)) rfl (by kernel_rfl) (by kernel_rfl) (by kernel_rfl) (fun _ _ _ h => h.panic) (Or.inl ⟨by rfl, fun w => by go_simp⟩) ?_
           refine wpAny_take (i := 1) (v := .pointer (some ⟨W0 + 1, 0, none⟩)) rfl (by kernel_rfl) (by kernel_rfl) (by kernel_rfl) (fun _ _ _ h => h.panic) (Or.inl ⟨by rfl, fun w => by go_simp⟩) ?_
           refine wpAny_take (i := 2) (v := .pointer (some ⟨wr.heap.size, 0, none⟩)) rfl (by kernel_rfl) (by kernel_rfl) (by kernel_rfl) (fun _ _ _ h => h.panic) (Or.inl ⟨by rfl, fun w => by go_simp⟩) ?_
           refine wpAny_take (i := 5) (v := .pointer (some ⟨W0 + 1, 0, none⟩)) rfl (by kernel_rfl) (by kernel_rfl) (by kernel_rfl) (fun _ _ _ h => h.panic) (Or.inl ⟨by rfl, fun w => by go_simp⟩) ?_
           refine wpAny_take (i := 6) (v := .pointer (some ⟨wr.heap.size, 1, none⟩)) rfl (by kernel_rfl) (by kernel_rfl) (by kernel_rfl) (fun _ _ _ h => h.panic) (Or.inl ⟨by rfl, fun w => by go_simp⟩) ?_
           refine wpAny_ready (rs := [3, 7]) (by kernel_rfl) (by simp) ?_
           refine AllReady.cons rfl (fun K hK => ?_) (AllReady.cons rfl (fun K hK => ?_) AllReady.nil)
           · go_simp
             refine hK _ _ ?_
             clear hK K
             refine wpAny_ready (rs := [4, 7]) (by kernel_rfl) (by simp) ?_
             refine AllReady.cons rfl (fun K hK => ?_) (AllReady.cons rfl (fun K hK => ?_) AllReady.nil)
             · go_simp
               refine hC1.out.mono ?_
               rintro e w2 ⟨rfl, v2, hF2, hK2, ho2⟩
               have hb22 := hb2.out w2 hK2
               have hS2 : w2.cell? ⟨wr.heap.size, 0, none⟩ = some (.slice aL L.length cL) ∧ w2.cell? ⟨wr.heap.size, 1, none⟩ = some (.slice aR R.length cR) := hcc.out w2 hb22
               have c21 := hS2.2
               have hB2 : Below w.heap.size wr w2 := (hBa.mono hsz).trans (hwk.out _ w2 v _ _ hFa.out hK2)
               refine hK _ _ ?_
               clear hK K
               refine wpAny_ready (rs := [7]) (by kernel_rfl) (by simp) ?_
               refine AllReady.cons rfl (fun K hK => ?_) AllReady.nil
               go_simp
               refine hK _ _ ?_
               clear hK K
               refine wpAny_ready (rs := [8]) (by kernel_rfl) (by simp) ?_
               refine AllReady.cons rfl (fun K hK => ?_) AllReady.nil
               go_simp
               refine (hC2.out w2 v2 hF2 hB2).mono ?_
               rintro e w3 ⟨rfl, v3, hF3, hK3, ho3⟩
               have hb33 : w3.heap[wr.heap.size]? = some (.cells #[.slice aL L.length cL, .slice aR R.length cR] 76) := (hK3.2.2.2.2 wr.heap.size (Array.getElem?_eq_some_iff.1 hb22).1 (by omega) (by omega) (fun e => by rcases ho2 _ e.symm with h | h; exact absurd (hvo.out _ h) (Nat.lt_irrefl _); rw [hsa] at h; omega)).trans hb22
               have hS3 : w3.cell? ⟨wr.heap.size, 0, none⟩ = some (.slice aL L.length cL) ∧ w3.cell? ⟨wr.heap.size, 1, none⟩ = some (.slice aR R.length cR) := hcc.out w3 hb33
               have hB3 : Below w.heap.size wr w3 := hB2.trans (hwk.out _ w3 v2 _ _ hF2 hK3)
               refine hK _ _ ?_
               clear hK K
               refine wpAny_ready (rs := [9]) (by kernel_rfl) (by simp) ?_
               refine AllReady.cons rfl (fun K hK => ?_) AllReady.nil
               go_simp
               refine (hT.out w3 v3 hF3).mono ?_
               rintro e w4 ⟨qb, rfl, hK4, hq4⟩
               have hb44 : w4.heap[wr.heap.size]? = some (.cells #[.slice aL L.length cL, .slice aR R.length cR] 76) := (hK4.block _ (Array.getElem?_eq_some_iff.1 hb33).1 (by omega)).trans hb33
               have hS4 : w4.cell? ⟨wr.heap.size, 0, none⟩ = some (.slice aL L.length cL) ∧ w4.cell? ⟨wr.heap.size, 1, none⟩ = some (.slice aR R.length cR) := hcc.out w4 hb44
               have hB4 : Below w.heap.size wr w4 := hB3.trans ⟨hK4.os, hK4.tape, hK4.output, hK4.size, fun x hx => hK4.block x (by have := hB3.size; omega) (by omega)⟩
               refine hK _ _ ?_
               clear hK K
               refine wpAny_ready (rs := [10]) (by kernel_rfl) (by simp) ?_
               refine AllReady.cons rfl (fun K hK => ?_) AllReady.nil
               go_simp
               refine hK _ _ ?_
               clear hK K
               refine wpAny_done (by kernel_rfl) ?_ _
               exact ⟨rfl, qb, v3, rfl, hB4, hq4⟩
             · go_simp
               refine hK _ _ ?_
               clear hK K
               refine wpAny_ready (rs := [4]) (by kernel_rfl) (by simp) ?_
               refine AllReady.cons rfl (fun K hK => ?_) AllReady.nil
               go_simp
               refine hC1.out.mono ?_
               rintro e w2 ⟨rfl, v2, hF2, hK2, ho2⟩
               have hb22 := hb2.out w2 hK2
               have hS2 : w2.cell? ⟨wr.heap.size, 0, none⟩ = some (.slice aL L.length cL) ∧ w2.cell? ⟨wr.heap.size, 1, none⟩ = some (.slice aR R.length cR) := hcc.out w2 hb22
               have c21 := hS2.2
               have hB2 : Below w.heap.size wr w2 := (hBa.mono hsz).trans (hwk.out _ w2 v _ _ hFa.out hK2)
               refine hK _ _ ?_
               clear hK K
               refine wpAny_ready (rs := [8]) (by kernel_rfl) (by simp) ?_
               refine AllReady.cons rfl (fun K hK => ?_) AllReady.nil
               go_simp
               refine (hC2.out w2 v2 hF2 hB2).mono ?_
               rintro e w3 ⟨rfl, v3, hF3, hK3, ho3⟩
               have hb33 : w3.heap[wr.heap.size]? = some (.cells #[.slice aL L.length cL, .slice aR R.length cR] 76) := (hK3.2.2.2.2 wr.heap.size (Array.getElem?_eq_some_iff.1 hb22).1 (by omega) (by omega) (fun e => by rcases ho2 _ e.symm with h | h; exact absurd (hvo.out _ h) (Nat.lt_irrefl _); rw [hsa] at h; omega)).trans hb22
               have hS3 : w3.cell? ⟨wr.heap.size, 0, none⟩ = some (.slice aL L.length cL) ∧ w3.cell? ⟨wr.heap.size, 1, none⟩ = some (.slice aR R.length cR) := hcc.out w3 hb33
               have hB3 : Below w.heap.size wr w3 := hB2.trans (hwk.out _ w3 v2 _ _ hF2 hK3)
               refine hK _ _ ?_
               clear hK K
               refine wpAny_ready (rs := [9]) (by kernel_rfl) (by simp) ?_
               refine AllReady.cons rfl (fun K hK => ?_) AllReady.nil
               go_simp
               refine (hT.out w3 v3 hF3).mono ?_
               rintro e w4 ⟨qb, rfl, hK4, hq4⟩
               have hb44 : w4.heap[wr.heap.size]? = some (.cells #[.slice aL L.length cL, .slice aR R.length cR] 76) := (hK4.block _ (Array.getElem?_eq_some_iff.1 hb33).1 (by omega)).trans hb33
               have hS4 : w4.cell? ⟨wr.heap.size, 0, none⟩ = some (.slice aL L.length cL) ∧ w4.cell? ⟨wr.heap.size, 1, none⟩ = some (.slice aR R.length cR) := hcc.out w4 hb44
               have hB4 : Below w.heap.size wr w4 := hB3.trans ⟨hK4.os, hK4.tape, hK4.output, hK4.size, fun x hx => hK4.block x (by have := hB3.size; omega) (by omega)⟩
               refine hK _ _ ?_
               clear hK K
               refine wpAny_ready (rs := [10]) (by kernel_rfl) (by simp) ?_
               refine AllReady.cons rfl (fun K hK => ?_) AllReady.nil
               go_simp
               refine hK _ _ ?_
               clear hK K
               refine wpAny_done (by kernel_rfl) ?_ _
               exact ⟨rfl, qb, v3, rfl, hB4, hq4⟩
           · go_simp
             refine hK _ _ ?_
             clear hK K
             refine wpAny_ready (rs := [3]) (by kernel_rfl) (by simp) ?_
             refine AllReady.cons rfl (fun K hK => ?_) AllReady.nil
             go_simp
             refine hK _ _ ?_
             clear hK K
             refine wpAny_ready (rs := [4]) (by kernel_rfl) (by simp) ?_
             refine AllReady.cons rfl (fun K hK => ?_) AllReady.nil
             go_simp
             refine hC1.out.mono ?_
             rintro e w2 ⟨rfl, v2, hF2, hK2, ho2⟩
             have hb22 := hb2.out w2 hK2
             have hS2 : w2.cell? ⟨wr.heap.size, 0, none⟩ = some (.slice aL L.length cL) ∧ w2.cell? ⟨wr.heap.size, 1, none⟩ = some (.slice aR R.length cR) := hcc.out w2 hb22
             have c21 := hS2.2
             have hB2 : Below w.heap.size wr w2 := (hBa.mono hsz).trans (hwk.out _ w2 v _ _ hFa.out hK2)
             refine hK _ _ ?_
             clear hK K
             refine wpAny_ready (rs := [8]) (by kernel_rfl) (by simp) ?_
             refine AllReady.cons rfl (fun K hK => ?_) AllReady.nil
             go_simp
             refine (hC2.out w2 v2 hF2 hB2).mono ?_
             rintro e w3 ⟨rfl, v3, hF3, hK3, ho3⟩
             have hb33 : w3.heap[wr.heap.size]? = some (.cells #[.slice aL L.length cL, .slice aR R.length cR] 76) := (hK3.2.2.2.2 wr.heap.size (Array.getElem?_eq_some_iff.1 hb22).1 (by omega) (by omega) (fun e => by rcases ho2 _ e.symm with h | h; exact absurd (hvo.out _ h) (Nat.lt_irrefl _); rw [hsa] at h; omega)).trans hb22
             have hS3 : w3.cell? ⟨wr.heap.size, 0, none⟩ = some (.slice aL L.length cL) ∧ w3.cell? ⟨wr.heap.size, 1, none⟩ = some (.slice aR R.length cR) := hcc.out w3 hb33
             have hB3 : Below w.heap.size wr w3 := hB2.trans (hwk.out _ w3 v2 _ _ hF2 hK3)
             refine hK _ _ ?_
             clear hK K
             refine wpAny_ready (rs := [9]) (by kernel_rfl) (by simp) ?_
             refine AllReady.cons rfl (fun K hK => ?_) AllReady.nil
             go_simp
             refine (hT.out w3 v3 hF3).mono ?_
             rintro e w4 ⟨qb, rfl, hK4, hq4⟩
             have hb44 : w4.heap[wr.heap.size]? = some (.cells #[.slice aL L.length cL, .slice aR R.length cR] 76) := (hK4.block _ (Array.getElem?_eq_some_iff.1 hb33).1 (by omega)).trans hb33
             have hS4 : w4.cell? ⟨wr.heap.size, 0, none⟩ = some (.slice aL L.length cL) ∧ w4.cell? ⟨wr.heap.size, 1, none⟩ = some (.slice aR R.length cR) := hcc.out w4 hb44
             have hB4 : Below w.heap.size wr w4 := hB3.trans ⟨hK4.os, hK4.tape, hK4.output, hK4.size, fun x hx => hK4.block x (by have := hB3.size; omega) (by omega)⟩
             refine hK _ _ ?_
             clear hK K
             refine wpAny_ready (rs := [10]) (by kernel_rfl) (by simp) ?_
             refine AllReady.cons rfl (fun K hK => ?_) AllReady.nil
             go_simp
             refine hK _ _ ?_
             clear hK K
             refine wpAny_done (by kernel_rfl) ?_ _
             exact ⟨rfl, qb, v3, rfl, hB4, hq4⟩
          case aft =>
            rintro e a' w4 ⟨rfl, qb, v3, rfl, hB4, hq4⟩
            clear hC1 hC2 hT hb2 hcc hS0 hS0' hwk hFa hvo hblk hBa
            rcases hq4 with ⟨rfl, h', hTL, hF4⟩ | ⟨rfl, hNo⟩
            · go_wp2
              go_roundw
              case rel =>
                have hB4w := hBq.out.trans hB4
                have HF4 := hid hF4
                obtain ⟨_, T4, _, _, S4, _⟩ := hF4
                exact ⟨k + 1, zs ++ L ++ R, h', v3, by omega, by go_num, hid (hstep.out h' hTL ⟨T4, S4⟩), HF4, hid hB4w⟩
              case measure => simp [intOf]; omega
            · go_wp2
              go_ret3
              have hB4w := hBq.out.trans hB4
              exact ⟨hB4w, .inr ⟨hok.out, .inl ⟨fun θ hθ H => hno.out hNo θ hθ (fun j hj => H j (by omega)), rfl⟩⟩⟩
        · obtain rfl : k = ps.length := by omega
          obtain ⟨T, hS⟩ := hM.out.st
          obtain ⟨b, c, rfl, T', N, S', hWb, _⟩ := hF.out.st (by have := hM.out.good.eight; omega)
          have hTB := hid (turnsBack_any zs hM.out.good T' h S' (W0 + 1) W0 b 0 c N wr hWb)
          have hGr := hid (fun w7 (hB7 : Below wr.heap.size wr w7) f (hf : ∀ i, i < 8 → Wb.Exp zs h i (f i)) => grow_any zs hM.out.good T' h S' (W0 + 1) W0 b 0 c N f hf w7 (hWb.below hB7))
          clear hWb hS
          go_wp2_with (first
            | (go_at_call 82; refine hTB.out.mono ?_; clear hTB; rintro e w7 ⟨hB7, (⟨rfl, hNo⟩ | ⟨rfl, hFin⟩)⟩)
            | (go_at_call 83; obtain ⟨σ, hσ, hE⟩ := hM.out.mgu hFin; refine (hGr.out w7 hB7 (fun i : Nat => σ (-1 - (i : Int))) hE).mono ?_; clear hGr; rintro e w8 ⟨hB8, (⟨h30, a8, rfl, hS8⟩ | ⟨h30, rfl⟩)⟩))
          · go_ret3
            exact ⟨hBq.out.trans (hB7.mono hBq.out.size), .inr ⟨hok.out, .inl ⟨fun θ hθ H => hNo θ hθ (hM.out.sound θ hθ H), rfl⟩⟩⟩
          · go_ret3
            have hB78 := hBq.out.trans (hB7.mono hBq.out.size)
            exact ⟨hB78.trans (hB8.mono hB78.size), .inr ⟨hok.out, .inr ⟨σ, hσ, .inl ⟨h30, a8, rfl, hS8⟩⟩⟩⟩
          · go_ret3
            have hB78 := hBq.out.trans (hB7.mono hBq.out.size)
            exact ⟨hB78.trans (hB8.mono hB78.size), .inr ⟨hok.out, .inr ⟨σ, hσ, .inr ⟨h30, rfl⟩⟩⟩⟩

end Go.Proofs.Ytbelnlemjcoifaa

namespace Go.Proofs.Ytbelnlemjcoifaa
open Go.Proofs Go.RowKit Go.Shelf Go.Maps

theorem Tm.known_of {s : Int} (h1 : -8 ≤ s) (h2 : s < 6) : Tm.known s = true := by
  simp [Tm.known]
  omega
theorem Tm.firstErr_of {ss : List (List Int)} (h : ∀ k, k < ss.length → Tm.err (ss[k]?.getD []) = 0) : Tm.firstErr ss = 0 := by
  induction ss with
  | nil => rfl
  | cons t l ih =>
    rw [Tm.firstErr, if_pos (by simpa using h 0 (by simp))]
    exact ih fun k hk => by simpa using h (k + 1) (by simpa using hk)
/-- What the eight variables become. -/
def Tm.sbL (σ : Wb.Sb) : List (List Int) := (List.range 8).map fun i : Nat => σ (-1 - (i : Int))
theorem Tm.sbL_length (σ : Wb.Sb) : (Tm.sbL σ).length = 8 := by simp [Tm.sbL]
theorem Tm.sbL_at (σ : Wb.Sb) {i : Nat} (h : i < 8) : (Tm.sbL σ)[i]?.getD [] = σ (-1 - (i : Int)) := by
  unfold Tm.sbL
  rw [List.getElem?_map, List.getElem?_range h]
  rfl
theorem Tm.sbL_congr {σ τ : Wb.Sb} (h : ∀ v, -8 ≤ v → v < 0 → σ v = τ v) : Tm.sbL σ = Tm.sbL τ := by
  unfold Tm.sbL
  refine List.map_congr_left fun i hi => ?_
  have := List.mem_range.1 hi
  exact h _ (by omega) (by omega)
theorem Tm.piece_sbL (σ : Wb.Sb) {s : Int} (h8 : -8 ≤ s) : Tm.piece (Tm.sbL σ) s = if s < 0 then σ s else [s] := by
  unfold Tm.piece
  by_cases hs : s < 0
  · rw [if_pos hs, if_pos hs, Tm.sbL_at σ (by omega), show -1 - (((-1 - s).toNat : Nat) : Int) = s from by omega]
  · rw [if_neg hs, if_neg hs]
theorem Tm.applied_sbL (σ : Wb.Sb) : ∀ (t : List Int), t.all Tm.known = true → Tm.applied (Tm.sbL σ) t = Wb.App σ t := by
  intro t
  induction t with
  | nil => intro _; rfl
  | cons s l ih =>
    intro h
    rw [List.all_cons, Bool.and_eq_true] at h
    rw [Tm.applied_cons, Wb.App_cons, ih h.2, Tm.piece_sbL σ (Tm.known_ge h.1)]
/-- A list as what variables become. -/
def Tm.ofL (us : List (List Int)) (s : Int) : List Int := if -8 ≤ s then us[(-1 - s).toNat]?.getD [] else [s]
theorem Tm.ofL_at (us : List (List Int)) {i : Nat} (h : i < 8) : Tm.ofL us (-1 - (i : Int)) = us[i]?.getD [] := by
  unfold Tm.ofL
  rw [if_pos (by omega), show (-1 - (-1 - (i : Int))).toNat = i from by omega]
theorem Tm.sbL_ofL {us : List (List Int)} (h : us.length = 8) : Tm.sbL (Tm.ofL us) = us := by
  refine List.ext_getElem (by rw [Tm.sbL_length, h]) fun i h1 h2 => ?_
  rw [Tm.sbL_length] at h1
  have e := Tm.sbL_at (Tm.ofL us) h1
  rw [Tm.ofL_at us h1] at e
  rw [List.getElem?_eq_getElem (by rw [Tm.sbL_length]; exact h1), List.getElem?_eq_getElem h2] at e
  exact e
theorem Tm.applied_ofL {us : List (List Int)} (h : us.length = 8) {t : List Int} (ht : t.all Tm.known = true) : Tm.applied us t = Wb.App (Tm.ofL us) t := by
  have := Tm.applied_sbL (Tm.ofL us) t ht
  rwa [Tm.sbL_ofL h] at this
theorem Tm.ofL_term {us : List (List Int)} (h : Tm.subErr us = 0) : Wb.TermSb (Tm.ofL us) := fun s hs => by
  unfold Tm.ofL
  obtain ⟨h1, h2⟩ := Tm.subErr_ok h
  by_cases h8 : -8 ≤ s
  · rw [if_pos h8]
    exact Tm.err_run (Tm.firstErr_all h2 _ (by omega))
  · rw [if_neg h8]
    have : Tm.room s = 0 := Wb.room_var hs
    rw [show (1 : Nat) = 0 + 1 from rfl, Tm.run_cons, this, Tm.run_zero]
    rfl

/-- WHAT MEETING ANSWERS: the error, whether something comes, and what. -/
def Tm.MeetSays (ps : PairL) (er : Int) (is : Bool) (val : List (List Int)) : Prop :=
  (Tm.firstPair ps ≠ 0 ∧ er = Tm.firstPair ps ∧ is = false ∧ val = []) ∨
  (Tm.firstPair ps = 0 ∧ (∀ θ, Wb.TermSb θ → ¬ Wb.Same ps ps.length θ) ∧ er = 0 ∧ is = false ∧ val = []) ∨
  (Tm.firstPair ps = 0 ∧ ∃ σ, Wb.Mgu ps σ ∧ (∀ i : Nat, i < 8 → (σ (-1 - (i : Int))).length ≤ 30) ∧ er = 0 ∧ is = true ∧ val = Tm.sbL σ) ∨
  (Tm.firstPair ps = 0 ∧ ∃ σ, Wb.Mgu ps σ ∧ (∃ i : Nat, i < 8 ∧ 30 < (σ (-1 - (i : Int))).length) ∧ er = 2 ∧ is = false ∧ val = [])
theorem Tm.MeetSays.one {ps : PairL} {er er' : Int} {is is' : Bool} {val val' : List (List Int)} (A : Tm.MeetSays ps er is val) (B : Tm.MeetSays ps er' is' val') : er = er' ∧ is = is' ∧ val = val' := by
  rcases A with ⟨a1, rfl, rfl, rfl⟩ | ⟨a1, a2, rfl, rfl, rfl⟩ | ⟨a1, σ, a2, a3, rfl, rfl, rfl⟩ | ⟨a1, σ, a2, ⟨i, hi, a3⟩, rfl, rfl, rfl⟩ <;>
  rcases B with ⟨b1, rfl, rfl, rfl⟩ | ⟨b1, b2, rfl, rfl, rfl⟩ | ⟨b1, τ, b2, b3, rfl, rfl, rfl⟩ | ⟨b1, τ, b2, ⟨j, hj, b3⟩, rfl, rfl, rfl⟩
  · exact ⟨rfl, rfl, rfl⟩
  · exact absurd b1 a1
  · exact absurd b1 a1
  · exact absurd b1 a1
  · exact absurd a1 b1
  · exact ⟨rfl, rfl, rfl⟩
  · exact absurd b2.same (a2 τ b2.term)
  · exact absurd b2.same (a2 τ b2.term)
  · exact absurd a1 b1
  · exact absurd a2.same (b2 σ a2.term)
  · exact ⟨rfl, rfl, Tm.sbL_congr (a2.one b2)⟩
  · have := a2.one b2 (-1 - (j : Int)) (by omega) (by omega)
    have h := a3 j hj
    rw [this] at h
    omega
  · exact absurd a1 b1
  · exact absurd a2.same (b2 σ a2.term)
  · have := a2.one b2 (-1 - (i : Int)) (by omega) (by omega)
    have h := b3 i hi
    rw [← this] at h
    omega
  · exact ⟨rfl, rfl, rfl⟩
theorem Wb.Mgu.errs {ps : PairL} {σ : Wb.Sb} (M : Wb.Mgu ps σ) (h : ∀ i : Nat, i < 8 → (σ (-1 - (i : Int))).length ≤ 30) : Tm.subErr (Tm.sbL σ) = 0 := by
  have h1 : Tm.firstErr (Tm.sbL σ) = 0 := by
    refine Tm.firstErr_of fun i hi => ?_
    rw [Tm.sbL_length] at hi
    rw [Tm.sbL_at σ hi]
    refine Tm.err_ok (h i hi) ?_ (M.term _ (by omega))
    rw [List.all_eq_true]
    intro s hs
    obtain ⟨h1, h2⟩ := M.vars _ (by omega) (by omega) s hs
    exact Tm.known_of h1 h2
  unfold Tm.subErr
  rw [if_pos (Tm.sbL_length σ), h1]

theorem Tm.firstPair_one (a b : List Int) : Tm.firstPair [(a, b)] = Tm.pairErr a b := by
  rw [Tm.firstPair]
  by_cases h : Tm.pairErr a b = 0
  · rw [if_pos h, h]; rfl
  · rw [if_neg h]
theorem Tm.pairErr_zero {a b : List Int} : Tm.pairErr a b = 0 ↔ Tm.err a = 0 ∧ Tm.err b = 0 := by
  unfold Tm.pairErr
  by_cases h : Tm.err a = 0
  · rw [if_pos h]; exact ⟨fun e => ⟨h, e⟩, fun e => e.2⟩
  · rw [if_neg h]; exact ⟨fun e => absurd e h, fun e => absurd e.1 h⟩
/-- D2: whatever else makes both the same is made of what comes. -/
theorem Tm.meet_most {a b : List Int} {us : List (List Int)} {er : Int} {is : Bool} {val : List (List Int)} (hu : Tm.subErr us = 0) (ha : Tm.err a = 0) (hb : Tm.err b = 0) (e : Tm.applied us a = Tm.applied us b) (A : Tm.MeetSays [(a, b)] er is val) :
    (er = 2 ∧ is = false ∧ val = []) ∨ (er = 0 ∧ is = true ∧ val.length = 8 ∧ ((Tm.afterErr val us = 2 ∧ Tm.afterVal val us = []) ∨ (Tm.afterErr val us = 0 ∧ Tm.afterVal val us = us))) := by
  have hu8 := (Tm.subErr_ok hu).1
  have hS : Wb.Same [(a, b)] 1 (Tm.ofL us) := fun j hj => by
    obtain rfl : j = 0 := by omega
    show Wb.App (Tm.ofL us) a = Wb.App (Tm.ofL us) b
    rw [← Tm.applied_ofL hu8 (Tm.err_all ha), ← Tm.applied_ofL hu8 (Tm.err_all hb), e]
  rcases A with ⟨a1, _⟩ | ⟨_, a2, _⟩ | ⟨_, σ, M, h30, rfl, rfl, rfl⟩ | ⟨_, σ, M, _, rfl, rfl, rfl⟩
  · rw [Tm.firstPair_one] at a1
    exact absurd (Tm.pairErr_zero.2 ⟨ha, hb⟩) a1
  · exact absurd hS (a2 _ (Tm.ofL_term hu))
  · refine .inr ⟨rfl, rfl, Tm.sbL_length σ, ?_⟩
    have hs := M.errs h30
    have hL : Tm.afterL (Tm.sbL σ) us = us := by
      have h2 : Tm.afterL (Tm.sbL σ) us = Tm.sbL (Tm.ofL us) := by
        unfold Tm.afterL
        rw [show Tm.sbL σ = (List.range 8).map (fun i : Nat => σ (-1 - (i : Int))) from rfl, List.map_map]
        refine List.map_congr_left fun i hi => ?_
        have := List.mem_range.1 hi
        show Tm.applied us (σ _) = Tm.ofL us _
        rw [Tm.applied_ofL hu8 (by
          rw [List.all_eq_true]
          intro s hs
          obtain ⟨h1, h2⟩ := M.vars _ (by omega) (by omega) s hs
          exact Tm.known_of h1 h2)]
        exact (M.most _ (Tm.ofL_term hu) hS _ (by omega) (by omega)).symm
      rw [h2, Tm.sbL_ofL hu8]
    by_cases hf : (Tm.sbL σ).all (Tm.fits us) = true
    · have he : Tm.afterErr (Tm.sbL σ) us = 0 := by unfold Tm.afterErr; rw [if_pos hs, if_pos hu, if_pos hf]
      exact .inr ⟨he, by unfold Tm.afterVal; rw [if_pos he, hL]⟩
    · have he : Tm.afterErr (Tm.sbL σ) us = 2 := by unfold Tm.afterErr; rw [if_pos hs, if_pos hu, if_neg hf]
      exact .inl ⟨he, by unfold Tm.afterVal; rw [he, if_neg (by omega)]⟩
  · exact .inl ⟨rfl, rfl, rfl⟩

/-- unify.meet's answer in one form. -/
theorem MeetAns.says {ps : PairL} {W : World} {e : Ending} (h : MeetAns ps W e) : ∃ er is val a, Tm.MeetSays ps er is val ∧ e = .returned (.tuple #[.slice a val.length val.length, .bool is, .int .i64 er]) ∧ Subs W.heap.size W a val := by
  rcases h with ⟨h1, rfl⟩ | ⟨h1, ⟨h2, rfl⟩ | ⟨σ, M, ⟨h30, a, rfl, hS⟩ | ⟨h30, rfl⟩⟩⟩
  · exact ⟨_, _, [], none, .inl ⟨h1, rfl, rfl, rfl⟩, rfl, Subs.nil _ _ _⟩
  · exact ⟨_, _, [], none, .inr (.inl ⟨h1, h2, rfl, rfl, rfl⟩), rfl, Subs.nil _ _ _⟩
  · exact ⟨_, _, Tm.sbL σ, a, .inr (.inr (.inl ⟨h1, σ, M, h30, rfl, rfl, rfl⟩)), by rw [Tm.sbL_length], hS⟩
  · exact ⟨_, _, [], none, .inr (.inr (.inr ⟨h1, σ, M, h30, rfl, rfl, rfl⟩)), rfl, Subs.nil _ _ _⟩

end Go.Proofs.Ytbelnlemjcoifaa

namespace Go.Proofs.Ytbelnlemjcoifaa
open Go.Proofs Go.RowKit Go.Shelf Go.Maps

theorem rulesAt_of {n B : Nat} {W : World} {rs : RuleL} {cs : Array Value} {t : TypeId} {p : Nat × Nat} (hblk : W.heap[B]? = some (.cells cs t p)) (hB : B < n)
    (h : ∀ k, k < rs.length → ∃ aL aR, cs[k * 2]? = some (.slice aL (rs[k]?.getD ([], [])).1.length (rs[k]?.getD ([], [])).1.length) ∧ cs[k * 2 + 1]? = some (.slice aR (rs[k]?.getD ([], [])).2.length (rs[k]?.getD ([], [])).2.length) ∧
      Ints n W aL (rs[k]?.getD ([], [])).1 ∧ Ints n W aR (rs[k]?.getD ([], [])).2 ∧ (rs[k]?.getD ([], [])).1.length ≤ 1000 ∧ (rs[k]?.getD ([], [])).2.length ≤ 1000) : RulesAt n W (some ⟨B, 0, none⟩) rs := fun k hk => by
  obtain ⟨aL, aR, h1, h2, h3, h4, h5, h6⟩ := h k hk
  refine ⟨B, 0, rfl, hB, aL, _, aR, _, by rw [cell_at hblk, Nat.zero_add]; exact h1, by rw [cell_at hblk, Nat.zero_add]; exact h2, h3, h4, Nat.le_refl _, by unfold maxLen; omega, Nat.le_refl _, by unfold maxLen; omega⟩

/-- Lists laid one behind the other. -/
def allocs : World → List (List Int) → World
  | w, [] => w
  | w, z :: l => allocs (w.alloc (.cells (z.map (Value.int .i64)).toArray 3)) l
theorem allocs_size : ∀ (l : List (List Int)) (w : World), (allocs w l).heap.size = w.heap.size + l.length := by
  intro l
  induction l with
  | nil => intro w; rfl
  | cons z l ih => intro w; rw [allocs, ih, World.size_alloc, List.length_cons]; omega
theorem allocs_below : ∀ (l : List (List Int)) (w : World), Below w.heap.size w (allocs w l) := by
  intro l
  induction l with
  | nil => intro w; exact Below.refl _ _
  | cons z l ih =>
    intro w
    rw [allocs]
    exact ((Below.refl _ w).alloc (Nat.le_refl _) _).trans ((ih _).mono (by simp))
theorem allocs_ints : ∀ (l : List (List Int)) (w : World) (i : Nat), i < l.length → Ints (w.heap.size + l.length) (allocs w l) (some ⟨w.heap.size + i, 0, none⟩) (l[i]?.getD []) := by
  intro l
  induction l with
  | nil => intro w i hi; simp at hi
  | cons z l ih =>
    intro w i hi
    rw [allocs]
    cases i with
    | zero =>
      have h1 := ints_lit w z (w.heap.size + 1) rfl
      have h2 := h1.below (by rw [← World.size_alloc w (.cells (z.map (Value.int .i64)).toArray 3)]; exact allocs_below l _)
      exact h2.mono (by rw [List.length_cons]; omega)
    | succ i =>
      have h := ih (w.alloc (.cells (z.map (Value.int .i64)).toArray 3)) i (by simpa using hi)
      rw [World.size_alloc] at h
      rw [show w.heap.size + (i + 1) = w.heap.size + 1 + i from by omega, show w.heap.size + (z :: l).length = w.heap.size + 1 + l.length from by rw [List.length_cons]; omega]
      exact h

/-- A term against a literal. -/
theorem g_same (xs ys : List Int) (n m c : Nat) (a : Option Addr) (w : World) (hn : n = xs.length) (hm : m = ys.length) (hl : xs.length ≤ 1000) (hI : Ints w.heap.size w a xs) (h : sameB xs ys = true) :
    Calls Try.prog 21 #[.slice a n c, .slice (some ⟨w.heap.size, 0, none⟩) m m] (w.alloc (.cells (ys.map (Value.int .i64)).toArray 3)) fun e w' => e = .returned (.bool true) ∧ Below w.heap.size w w' := by
  subst hn hm
  have hB : Below w.heap.size w (w.alloc (.cells (ys.map (Value.int .i64)).toArray 3)) := (Below.refl _ _).alloc (Nat.le_refl _) _
  refine (same_any xs ys a _ c ys.length _ ((hI.below hB).mono hB.size) (ints_lit w ys _ (by simp)) (by unfold maxLen; omega)).mono ?_
  rintro e w' ⟨rfl, hB'⟩
  exact ⟨by rw [h], hB.trans (hB'.mono hB.size)⟩

end Go.Proofs.Ytbelnlemjcoifaa

namespace Go.Proofs.Ytbelnlemjcoifaa
open Go.Proofs Go.RowKit Go.Shelf Go.Maps

set_option maxRecDepth 100000 in
set_option maxHeartbeats 1000000 in
theorem Meet_any (a b : List Int) (aa ab : Option Addr) (ca cb : Nat) (w : World) (hA : Ints w.heap.size w aa a) (hB : Ints w.heap.size w ab b) (ha1 : a.length ≤ ca) (ha2 : ca ≤ maxLen) (hb1 : b.length ≤ cb) (hb2 : cb ≤ maxLen) :
    Calls Try.prog 41 #[.slice aa a.length ca, .slice ab b.length cb] w fun e w' => Below w.heap.size w w' ∧ ∃ er is val x, Tm.MeetSays [(a, b)] er is val ∧ e = .returned (.tuple #[.slice x val.length val.length, .bool is, .int .i64 er]) ∧ Subs w'.heap.size w' x val := by
  have hBl : Below w.heap.size w (w.alloc (.cells #[.slice aa a.length ca, .slice ab b.length cb] 76)) := (Below.refl _ w).alloc (Nat.le_refl _) _
  have blk : (w.alloc (.cells #[.slice aa a.length ca, .slice ab b.length cb] 76)).heap[w.heap.size]? = some (.cells #[.slice aa a.length ca, .slice ab b.length cb] 76) := World.alloc_heap_new w _
  have hR : RulesAt (w.alloc (.cells #[.slice aa a.length ca, .slice ab b.length cb] 76)).heap.size (w.alloc (.cells #[.slice aa a.length ca, .slice ab b.length cb] 76)) (some ⟨w.heap.size, 0, none⟩) [(a, b)] := by
    intro k hk
    obtain rfl : k = 0 := by simp at hk; omega
    exact ⟨w.heap.size, 0, rfl, by simp, aa, ca, ab, cb, (cell_at blk 0).trans rfl, (cell_at blk 1).trans rfl, (hA.below hBl).mono hBl.size, (hB.below hBl).mono hBl.size, ha1, ha2, hb1, hb2⟩
  have hM := hid (meet_any [(a, b)] (by simp) (some ⟨w.heap.size, 0, none⟩) 1 _ hR)
  have HB := hid hBl
  clear hR blk hA hB hBl
  go_enter Try.func41, Try.ntmps41
  go_wp2_with fail
  refine hM.out.mono ?_
  rintro e w2 ⟨hB2, hAns⟩
  obtain ⟨er, is, val, x, hs, rfl, hS⟩ := hAns.says
  have Hs := hid hs
  have HS := hid hS
  clear hM hAns hs hS
  go_wp2
  go_ret3
  exact ⟨HB.out.trans (hB2.mono HB.out.size), er, is, val, x, Hs.out, rfl, HS.out⟩

/-- What unify.All answers. -/
def Tm.AllSays (ps : PairL) (er : Int) (is : Bool) (val : List (List Int)) : Prop := (40 < ps.length ∧ er = 2 ∧ is = false ∧ val = []) ∨ (ps.length ≤ 40 ∧ Tm.MeetSays ps er is val)
set_option maxRecDepth 100000 in
set_option maxHeartbeats 1000000 in
theorem All_many (n : Nat) (h : 40 < n) (a : Option Addr) (cap : Nat) (w : World) :
    Calls Try.prog 67 #[.slice a n cap] w fun e w' => e = .returned (.tuple #[.slice none 0 0, .bool false, .int .i64 2]) ∧ Below w.heap.size w w' := by
  have h' : (40 : Int) < (n : Int) := by omega
  go_enter Try.func67, Try.ntmps67
  go_wp2
  go_ret3
  exact ⟨rfl, Below.refl _ _⟩

set_option maxRecDepth 100000 in
set_option maxHeartbeats 1000000 in
theorem All_any (ps : PairL) (a : Option Addr) (cap : Nat) (w : World) (hP : RulesAt w.heap.size w a ps) :
    Calls Try.prog 67 #[.slice a ps.length cap] w fun e w' => Below w.heap.size w w' ∧ ∃ er is val x, Tm.AllSays ps er is val ∧ e = .returned (.tuple #[.slice x val.length val.length, .bool is, .int .i64 er]) ∧ Subs w'.heap.size w' x val := by
  by_cases h : 40 < ps.length
  · refine (All_many ps.length h a cap w).mono ?_
    rintro e w' ⟨rfl, hB⟩
    exact ⟨hB, _, _, [], none, .inl ⟨h, rfl, rfl, rfl⟩, rfl, Subs.nil _ _ _⟩
  · have hn : decide ((40 : Int) < (ps.length : Int)) = false := by simp; omega
    have hM := hid (meet_any ps (by omega) a cap w hP)
    have hle := hid (Nat.le_of_not_lt h)
    clear hP h
    go_enter Try.func67, Try.ntmps67
    go_wp2_with fail
    refine hM.out.mono ?_
    rintro e w2 ⟨hB2, hAns⟩
    obtain ⟨er, is, val, x, hs, rfl, hS⟩ := hAns.says
    have Hs := hid hs
    have HS := hid hS
    clear hM hAns hs hS
    go_wp2
    go_ret3
    exact ⟨hB2, er, is, val, x, .inr ⟨hle.out, Hs.out⟩, rfl, HS.out⟩

end Go.Proofs.Ytbelnlemjcoifaa
