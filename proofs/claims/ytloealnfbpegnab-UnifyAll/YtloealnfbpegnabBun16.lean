/-
  haspref's (*ties).node. · haspref.met: from nodes that are laid to ties; what holds while pairs are tied. · haspref.met: nodes of both terms of a pair; a tie of two nodes; what is filled in. · haspref.met. · haspref.met, MeetOf, MeetAll.
-/
import Derived.Deep.RegionLaw
import Derived.Test.YtloealnfbpegnabBun15
import Derived.Test.YtloealnfbpegnabBun9
import Derived.Test.YtloealnfbpegnabBun13
namespace Go.Proofs.Ytloealnfbpegnab
open Go.Proofs Go.RowKit Go.Shelf Go.Maps

/-- A tree that is there. -/
theorem node_hit {W : World} {x : Nat} {vN vC : Value} {L : List Nd} {C : Nat → Nat} (H : TB W x vN vC L L.length C) (hn : L.length ≤ 5000) (p : Nat) (z : List Int) (i : Nat) (F : FndL L p z i) {vp : Value} (hp : Node W p (hd0 z) vp) (hC : extC L.length C = C) :
    Calls Try.prog 54 #[ptr x, ptr p] W fun e w' => NodeAns W w' e x vN vC L C p z := by
  obtain ⟨aN, cN, rfl, hnd⟩ := H.form
  obtain ⟨h1, h2, h3, h4⟩ := F
  have hs : (ndAt L i).s = hd0 z := by rw [← h2]; rfl
  have hc0 : W.cell? ⟨x, 0, none⟩ = some (.slice aN L.length cN) := (cell_at H.cell 0).trans rfl
  refine (node_fd (x := x) (N := fun k => (ndAt L k).X) (S := fun k => (ndAt L k).s) W p i hc0 hnd (fun k hk => (H.nds _ (ndAt_mem hk)).node) hn (vp := vp) (by rw [hs]; exact hp) ⟨h1, fun h k hk => by show (ndAt L k).s ≠ (ndAt L i).s; rw [hs]; exact h3 (by rw [← hs]; exact h) k hk, fun h => h4 (by rw [← hs]; exact h)⟩).mono ?_
  rintro e w' ⟨rfl, m, rfl⟩
  have hF : FndL L p z i := ⟨h1, h2, h3, h4⟩
  refine ⟨i, _, vC, [], rfl, by rw [List.append_nil]; exact hF, fun d hd => by simp at hd, ?_, (WK.refl W x _ vC).drewN m, by simp⟩
  rw [List.append_nil, hC]
  exact H.drewN m
theorem Nd.var {W : World} {x : Nat} {vN vC : Value} {d : Nd} (h : NdAt W x vN vC d) (hs : d.s < 0) : d.z = [d.s] := by
  obtain ⟨lo, hi, v, h1, h2, h3, h4, h5, h6, h7, h8, h9, h10, h11⟩ := h
  rw [Wb.room_var hs] at h8
  have : d.zss = [] := List.eq_nil_of_length_eq_zero (by omega)
  unfold Nd.z
  rw [this]
  rfl
theorem extC_of {n : Nat} {C : Nat → Nat} (h : ∀ k, n ≤ k → C k = k) : extC n C = C := by
  funext k
  unfold extC
  by_cases e : k < n
  · rw [if_pos e]
  · rw [if_neg e, h k (by omega)]

/-- One int more, in a region that draws its order. -/
theorem step_append_cls {ops : Array Oper} {o : Oper} {a : Act} {K : Act → World → Prop} {Q : Exit → Act → World → Prop} {E : Prop} (w : World) (hgd : o.guard = none) (s x : Operand)
    (ho : o.op = .call { callee := .builtin .append, args := #[s, x], argTypes := #[22, 22] }) (base n : Nat) (v : Value) (xs : List Int) (hs : a.eval s = v) (hN : w.ownsRow base 3 1 v n (xs.map (Value.int .i64)))
    (B : Nat) (y : Int) (hx : a.eval x = .slice (some ⟨B, 0, none⟩) 1 1) (hB : w.cell? ⟨B, 0, none⟩ = some (.int .i64 y)) (hlen : n ≤ 1000000) (hbase : base ≤ w.heap.size)
    (h : ∀ g c' w', w'.ownsRow base 3 1 (.slice (some ⟨g, 0, none⟩) (n + 1) c') (n + 1) (xs.map (Value.int .i64) ++ [.int .i64 y]) → w.grownBy w' v.ownBlock → (v.ownBlock = some g ∨ g = w.heap.size) → K (a.put o.dst (.slice (some ⟨g, 0, none⟩) (n + 1) c')) w') :
    if Region.wanted o (yielded ops a.tmps) = true then Oper.wp Try.prog o a w K Q else E := by
  obtain ⟨i0, hi, hz0, hz1, hz2⟩ := info_parts Try.info3
  refine step_append_lies w hgd s x 22 ho base 3 i0 (.int .i64 0) 1 8 Try.infoInts hi hz0 hz1 hz2 rfl (by decide) v n (xs.map (Value.int .i64)) hs hN ⟨B, 0, none⟩ 1 1 [.int .i64 y] hx (by simp)
    (by intro j z hj
        match j, hj with
        | 0, hj => simp at hj; subst hj; rw [Go.WideShapes.add_plain]; simpa using hB)
    (by intro u hu; simp at hu; subst hu; rfl) (by decide) (by unfold maxLen; omega) (by omega) hbase w.heap.size rfl ?_
  intro g c' w' hown hg hat _
  exact h g c' w' hown hg hat

end Go.Proofs.Ytloealnfbpegnab

namespace Go.Proofs.Ytloealnfbpegnab
open Go.Proofs Go.RowKit Go.Shelf Go.Maps

def ndN (L : List Nd) (k : Nat) : Nat := (ndAt L k).X
def ndS (L : List Nd) (k : Nat) : Int := (ndAt L k).s
def ndZ (L : List Nd) (k : Nat) : List Int := (ndAt L k).z
def ndP (L : List Nd) (k i : Nat) : Nat := (ndAt L k).Xs[i]?.getD 0
theorem listOf {R : Nat → Nat → Prop} : ∀ m, (∀ j, j < m → ∃ i, R j i) → ∃ l : List Nat, l.length = m ∧ ∀ j, j < m → R j (l[j]?.getD 0) := by
  intro m
  induction m with
  | zero => intro _; exact ⟨[], rfl, fun j hj => by omega⟩
  | succ m ih =>
    intro h
    obtain ⟨l, h1, h2⟩ := ih fun j hj => h j (by omega)
    obtain ⟨i, hi⟩ := h m (by omega)
    refine ⟨l ++ [i], by simp [h1], fun j hj => ?_⟩
    by_cases e : j = m
    · subst e; rw [← h1]; simpa [h1] using hi
    · rw [List.getElem?_append_left (by omega)]; exact h2 j (by omega)
/-- Which nodes are a node's parts. -/
def KidsL (L : List Nd) (K : Nat → List Nat) : Prop := ∀ k, k < L.length → (K k).length = (ndAt L k).Xs.length ∧ ∀ j, j < (ndAt L k).Xs.length → FndL L (ndP L k j) ((ndAt L k).zss[j]?.getD []) ((K k)[j]?.getD 0)
theorem kidsL {L : List Nd} (h : ∀ d ∈ L, FullL L d) : ∃ K, KidsL L K := by
  have h1 : ∀ k : Nat, ∃ l : List Nat, k < L.length → l.length = (ndAt L k).Xs.length ∧ ∀ j, j < (ndAt L k).Xs.length → FndL L (ndP L k j) ((ndAt L k).zss[j]?.getD []) (l[j]?.getD 0) := fun k => by
    by_cases hk : k < L.length
    · obtain ⟨l, h2, h3⟩ := listOf _ (h _ (ndAt_mem hk))
      exact ⟨l, fun _ => ⟨h2, h3⟩⟩
    · exact ⟨[], fun h => absurd h hk⟩
  obtain ⟨K, hK⟩ := Classical.skolem.1 h1
  exact ⟨K, hK⟩
theorem kidsL_gph {W : World} {x : Nat} {vN vC : Value} {L : List Nd} {m : Nat} {C : Nat → Nat} (H : TB W x vN vC L m C) {K : Nat → List Nat} (hK : KidsL L K) : Mt.Gph L.length (ndS L) K (ndZ L) := by
  refine ⟨fun k hk => ?_, fun k hk => ?_, fun k hk i hi => ?_, fun k hk => ?_, fun i j hi hj hs e => H.one i j hi hj hs e⟩
  · obtain ⟨_, _, _, _, _, _, _, _, _, _, _, _, h10, _⟩ := H.nds _ (ndAt_mem hk)
    exact h10 _ (by unfold Nd.z; simp [ndS])
  · obtain ⟨_, _, _, _, _, _, _, _, _, _, h8, _⟩ := H.nds _ (ndAt_mem hk)
    rw [(hK k hk).1, h8]; rfl
  · obtain ⟨j, hj, e⟩ := List.getElem_of_mem hi
    have h := ((hK k hk).2 j (by rw [← (hK k hk).1]; exact hj)).1
    rw [List.getElem?_eq_getElem hj, e] at h
    exact h
  · obtain ⟨_, _, _, _, _, _, _, _, _, _, h8, h9, _⟩ := H.nds _ (ndAt_mem hk)
    show (ndAt L k).s :: (ndAt L k).zss.flatten = _
    have e : (K k).map (ndZ L) = (ndAt L k).zss := by
      refine List.ext_getElem (by rw [List.length_map, (hK k hk).1, h9]) fun j j1 j2 => ?_
      rw [List.length_map] at j1
      rw [List.getElem_map]
      have h := ((hK k hk).2 j (by rw [← (hK k hk).1]; exact j1)).2.1
      rw [List.getElem?_eq_getElem j1, List.getElem?_eq_getElem j2] at h
      exact h
    rw [e]
    rfl
theorem tree_head {lo hi : Nat} {W : World} {X : Nat} {zs : List Int} (h : TreeIn lo hi W X zs) : lo ≤ X ∧ X < hi ∧ ∃ v, Node W X (hd0 zs) v := by
  cases h with
  | mk _ s v Xs zss h1 h2 hN => exact ⟨h1, h2, v, hN⟩
/-- TIES, out of nodes that are laid. -/
theorem TB.ties {W : World} {x : Nat} {vN vC : Value} {L : List Nd} {C : Nat → Nat} (H : TB W x vN vC L L.length C) {K : Nat → List Nat} (hK : KidsL L K) (h5 : L.length ≤ 5000) (h0 : 0 < L.length) : ∃ aN cN g cC, vN = .slice aN L.length cN ∧ vC = .slice (some ⟨g, 0, none⟩) L.length cC ∧ TiesO W x L.length aN cN g cC (ndN L) C (ndS L) K (ndP L) := by
  obtain ⟨gC, cC, rfl, _⟩ := New.at0 H.rowC (by rw [Mt.clL_length]; exact h0)
  rw [Mt.clL_length] at H
  obtain ⟨gN, cN, rfl, hgN, _⟩ := World.ownsRow.form H.rowN h0
  refine ⟨some ⟨gN, 0, none⟩, cN, gC, cC, rfl, by rw [Mt.clL_length], (World.ownsRow.lt H.rowC gC rfl).2, fun W' hk C' hC' => ?_, ?_⟩
  · have hgC := (World.ownsRow.lt H.rowC gC rfl).1
    have hx : W'.heap[x]? = W.heap[x]? := hk.block x H.lt (by omega)
    have hN' : W'.heap[gN]? = W.heap[gN]? := hk.block gN (World.ownsRow.lt H.rowN gN rfl).2 fun e => H.apart (q := gC) (by rw [e]; rfl) rfl
    refine ⟨(World.cell?_of_block (a := ⟨x, 0, none⟩) hx).trans ((cell_at H.cell 0).trans rfl), (World.cell?_of_block (a := ⟨x, 1, none⟩) hx).trans ((cell_at H.cell 1).trans rfl), fun k hk' => ?_, fun k hk' => ⟨gC, 0, rfl, by rw [Nat.zero_add]; exact hC' k hk'⟩, fun k hk' => ?_, fun k i hk' hi => ?_, fun k i hk' hi => ?_, h5⟩
    · obtain ⟨aN, cN', e, hf⟩ := H.form
      simp only [Value.slice.injEq, true_and] at e
      obtain ⟨rfl, rfl⟩ := e
      obtain ⟨b, off, e, hc⟩ := hf k hk'
      simp only [Option.some.injEq, Addr.mk.injEq] at e
      obtain ⟨rfl, rfl, _⟩ := e
      exact ⟨gN, 0, rfl, (World.cell?_of_block (a := ⟨gN, 0 + k, none⟩) hN').trans hc⟩
    · obtain ⟨lo, hi, v, h1, h2, h3, h4, h5', h6, ⟨a, c, rfl, h7⟩, h8, h9, h10, h11⟩ := H.nds _ (ndAt_mem hk')
      have hfar : ∀ q, lo ≤ q → q < hi → W'.heap[q]? = W.heap[q]? := fun q q1 q2 => hk.block q (by omega) fun e => by have := h3 gC (.inr rfl); omega
      rw [h8] at h6 h7
      refine ⟨a, c, (hfar _ h4 h5').trans h6, fun i hi => ?_⟩
      obtain ⟨b, off, e, b1, b2, hc⟩ := h7 i hi
      exact ⟨b, off, e, (World.cell?_of_block (a := ⟨b, off + i, none⟩) (hfar b b1 b2)).trans hc⟩
    · obtain ⟨lo, hi', v, h1, h2, h3, h4, h5', h6, h7, h8, h9, h10, h11⟩ := H.nds _ (ndAt_mem hk')
      have hfar : ∀ q, lo ≤ q → q < hi' → W'.heap[q]? = W.heap[q]? := fun q q1 q2 => hk.block q (by omega) fun e => by have := h3 gC (.inr rfl); omega
      have hi2 : i < (ndAt L k).Xs.length := by rw [h8]; exact hi
      obtain ⟨t1, t2, v', t3⟩ := tree_head (h11 i hi2)
      have hF := (hK k hk').2 i hi2
      have es : ndS L ((K k)[i]?.getD 0) = hd0 ((ndAt L k).zss[i]?.getD []) := by rw [← hF.2.1]; rfl
      rw [es]
      exact ⟨v', (hfar _ t1 t2).trans t3⟩
    · obtain ⟨lo, hi', v, h1, h2, h3, h4, h5', h6, h7, h8, h9, h10, h11⟩ := H.nds _ (ndAt_mem hk')
      obtain ⟨f1, f2, f3, f4⟩ := (hK k hk').2 i (by rw [h8]; exact hi)
      have es : ndS L ((K k)[i]?.getD 0) = hd0 ((ndAt L k).zss[i]?.getD []) := by rw [← f2]; rfl
      exact ⟨f1, fun h q hq => by rw [es]; exact f3 (by rw [← es]; exact h) q hq, fun h => f4 (by rw [← es]; exact h)⟩
  · exact H.rowC.mono (Nat.zero_le _)
theorem New.rebase {base base' : Nat} {W : World} {g n c : Nat} {zs : List Int} (h : New base W (.slice (some ⟨g, 0, none⟩) n c) zs) (hb : base' ≤ g) : New base' W (.slice (some ⟨g, 0, none⟩) n c) zs := by
  refine ⟨h.1, ?_⟩
  rcases h.2 with ⟨e, _⟩ | ⟨g', c', cur, e, _, h3⟩
  · cases e
  · cases e
    exact .inr ⟨_, _, cur, rfl, hb, h3⟩
/-- Behind a tie. -/
theorem TB.tied {W W' : World} {x : Nat} {vN : Value} {L : List Nd} {m g cC : Nat} {C C' : Nat → Nat} (H : TB W x vN (.slice (some ⟨g, 0, none⟩) m cC) L m C) (hk : Keep W.heap.size g W W') (hN : New 0 W' (.slice (some ⟨g, 0, none⟩) m cC) (Mt.clL m C')) : TB W' x vN (.slice (some ⟨g, 0, none⟩) m cC) L m C' ∧ WK W W' x vN (.slice (some ⟨g, 0, none⟩) m cC) vN (.slice (some ⟨g, 0, none⟩) m cC) := by
  have hgC := (World.ownsRow.lt H.rowC g rfl).1
  have hwk : WK W W' x vN (.slice (some ⟨g, 0, none⟩) m cC) vN (.slice (some ⟨g, 0, none⟩) m cC) := ⟨hk.os, hk.tape, hk.output, hk.size, fun k h1 _ _ h4 => hk.block k h1 fun e => h4 (by rw [e]; rfl), fun _ h => .inl h, fun _ h => .inl h⟩
  refine ⟨⟨(hk.block x H.lt (by omega)).trans H.cell, ownsRow_keep H.rowN fun q hq => hk.block q (World.ownsRow.lt H.rowN q hq).2 fun e => H.apart hq (by rw [e]; rfl), hN.rebase hgC, fun d hd => (H.nds d hd).keep hwk, H.one⟩, hwk⟩
theorem WK.below {W W' : World} {x : Nat} {vN vC vN' vC' : Value} {L : List Nd} {m : Nat} {C : Nat → Nat} (h : WK W W' x vN vC vN' vC') (H : TB W x vN vC L m C) : Below x W W' :=
  ⟨h.os, h.tape, h.output, h.size, fun k hk => h.block k (by have := H.lt; omega) (by omega) (fun e => by have := (World.ownsRow.lt H.rowN k e.symm).1; omega) (fun e => by have := (World.ownsRow.lt H.rowC k e.symm).1; omega)⟩

/-- What holds when k pairs are tied. -/
structure MI (ps : PairL) (k : Nat) (L : List Nd) (C : Nat → Nat) : Prop where
  lt : ∀ q, q < L.length → C q < L.length
  out : ∀ q, L.length ≤ q → C q = q
  sound : ∀ θ, Wb.TermSb θ → Wb.Same ps k θ → Mt.Resp L.length (ndZ L) C θ
  tied : ∀ j, j < k → ∃ a b, a < L.length ∧ b < L.length ∧ ndZ L a = (ps[j]?.getD ([], [])).1 ∧ ndZ L b = (ps[j]?.getD ([], [])).2 ∧ C a = C b
  full : ∀ d ∈ L, FullL L d
theorem MI.start (ps : PairL) : MI ps 0 [] (fun q => q) := ⟨fun q h => by simp at h, fun _ _ => rfl, fun _ _ _ i _ h => by simp at h, fun j hj => by omega, fun d h => by simp at h⟩
theorem MI.extC {ps : PairL} {k : Nat} {L : List Nd} {C : Nat → Nat} (H : MI ps k L C) : extC L.length C = C := extC_of H.out
theorem ndZ_app {L : List Nd} (M : List Nd) {k : Nat} (h : k < L.length) : ndZ (L ++ M) k = ndZ L k := by unfold ndZ; rw [ndAt_app M h]
theorem MI.ext {ps : PairL} {k : Nat} {L : List Nd} {C : Nat → Nat} (H : MI ps k L C) {M : List Nd} (hM : ∀ d ∈ M, FullL (L ++ M) d) : MI ps k (L ++ M) C := by
  refine ⟨fun q hq => ?_, fun q hq => H.out q (by rw [List.length_append] at hq; omega), fun θ hθ hs i j hi hj e => ?_, fun j hj => ?_, fun d hd => ?_⟩
  · rw [List.length_append] at hq ⊢
    by_cases h : q < L.length
    · have := H.lt q h; omega
    · rw [H.out q (by omega)]; exact hq
  · by_cases h1 : i < L.length
    · by_cases h2 : j < L.length
      · rw [ndZ_app M h1, ndZ_app M h2]; exact H.sound θ hθ hs i j h1 h2 e
      · rw [H.out j (by omega)] at e; have := H.lt i h1; omega
    · rw [H.out i (by omega)] at e
      by_cases h2 : j < L.length
      · have := H.lt j h2; omega
      · rw [H.out j (by omega)] at e; rw [e]
  · obtain ⟨a, b, ha, hb, e1, e2, e3⟩ := H.tied j hj
    exact ⟨a, b, by rw [List.length_append]; omega, by rw [List.length_append]; omega, by rw [ndZ_app M ha]; exact e1, by rw [ndZ_app M hb]; exact e2, e3⟩
  · rcases List.mem_append.1 hd with h | h
    · exact (H.full d h).app M
    · exact hM d h
theorem MI.tie {ps : PairL} {k : Nat} {L : List Nd} {C : Nat → Nat} (H : MI ps k L C) {a b : Nat} (ha : a < L.length) (hb : b < L.length) (e1 : ndZ L a = (ps[k]?.getD ([], [])).1) (e2 : ndZ L b = (ps[k]?.getD ([], [])).2) : MI ps (k + 1) L (Mt.tied C a b) := by
  refine ⟨Mt.tied_lt H.lt hb, fun q hq => ?_, fun θ hθ hs => ?_, fun j hj => ?_, H.full⟩
  · unfold Mt.tied
    have := H.lt a ha
    rw [H.out q hq, if_neg (by omega)]
  · obtain ⟨h1, h2⟩ := hs.succ
    refine (H.sound θ hθ h1).tie ha hb ?_
    rw [e1, e2]
    exact h2
  · by_cases e : j = k
    · subst e
      exact ⟨a, b, ha, hb, e1, e2, Mt.tied_same C a b⟩
    · obtain ⟨a', b', ha', hb', f1, f2, f3⟩ := H.tied j (by omega)
      exact ⟨a', b', ha', hb', f1, f2, Mt.tied_mono a b f3⟩

end Go.Proofs.Ytloealnfbpegnab

namespace Go.Proofs.Ytloealnfbpegnab
open Go.Proofs Go.RowKit Go.Shelf Go.Maps

namespace Mt
/-- What variables become, by the first k nodes. -/
def sigT (n : Nat) (S : Nat → Int) (K : Nat → List Nat) (C : Nat → Nat) (k : Nat) : Wb.Sb := fun v => match (List.range k).find? fun q => decide (S q = v) with
  | some q => bec n S K C (n + 1) (C q)
  | none => [v]
theorem sigT_all (n : Nat) (S : Nat → Int) (K : Nat → List Nat) (C : Nat → Nat) : sigT n S K C n = sig n S K C := rfl
theorem sigT_zero (n : Nat) (S : Nat → Int) (K : Nat → List Nat) (C : Nat → Nat) : sigT n S K C 0 = fun v => [v] := rfl
theorem sigT_else {n : Nat} {S : Nat → Int} {K : Nat → List Nat} {C : Nat → Nat} {k : Nat} {v : Int} (h : S k ≠ v) : sigT n S K C (k + 1) v = sigT n S K C k v := by
  unfold sigT
  rw [List.range_succ, List.find?_append]
  cases hf : (List.range k).find? fun q => decide (S q = v) with
  | some q => rfl
  | none => simp [h]
theorem sigT_here {n : Nat} {S : Nat → Int} {K : Nat → List Nat} {C : Nat → Nat} {k : Nat} (h : ∀ q, q < k → S q ≠ S k) : sigT n S K C (k + 1) (S k) = bec n S K C (n + 1) (C k) := by
  unfold sigT
  rw [List.range_succ, List.find?_append, List.find?_eq_none.2 fun q hq => by simpa using h q (List.mem_range.1 hq)]
  simp
theorem sbL_step {σ τ : Wb.Sb} {j : Nat} {t : List Int} (h1 : τ (-1 - (j : Int)) = t) (h2 : ∀ v, v ≠ -1 - (j : Int) → τ v = σ v) : Tm.sbL τ = (Tm.sbL σ).set j t := by
  refine List.ext_getElem (by rw [List.length_set, Tm.sbL_length, Tm.sbL_length]) fun i i1 i2 => ?_
  rw [Tm.sbL_length] at i1
  rw [List.getElem_set]
  have a1 := Tm.sbL_at τ i1
  have a2 := Tm.sbL_at σ i1
  rw [List.getElem?_eq_getElem (by rw [Tm.sbL_length]; exact i1)] at a1 a2
  simp only [Option.getD_some] at a1 a2
  by_cases e : j = i
  · subst e
    rw [if_pos rfl, a1, h1]
  · rw [if_neg e, a1, a2]
    exact h2 _ (by omega)
theorem sbL_none : Tm.sbL (fun v => [v]) = Tm.noneL 8 := rfl
end Mt

set_option maxRecDepth 100000 in
set_option maxHeartbeats 400000 in
/-- (*ties).close of no nodes. -/
theorem tclose_nil {x cN : Nat} (w : World) (hc0 : w.cell? ⟨x, 0, none⟩ = some (.slice none 0 cN)) :
    Calls Try.prog 56 #[ptr x] w fun e w' => e = .returned (.bool true) ∧ w' = w := by
  go_enter Try.func56, Try.ntmps56
  go_wp2
  refine wp_loop_rounds 2 ?_
  rw [rounds_succ]
  go_wp2
  refine wp_loop_rounds 1 ?_
  rw [rounds_succ]
  go_wp2
  rw [rounds_succ]
  go_wp2
  go_ret
  exact ⟨rfl, rfl⟩

end Go.Proofs.Ytloealnfbpegnab

namespace Go.Proofs.Ytloealnfbpegnab
open Go.Proofs Go.RowKit Go.Shelf Go.Maps

/-- What met answers. -/
def MetAns (ps : PairL) (w w' : World) (e : Ending) : Prop := Below w.heap.size w w' ∧ ∃ er is val v, Tm.MeetSays ps er is val ∧ e = .returned (.tuple #[v, .bool is, .int .i64 er]) ∧ NewS w.heap.size w' v val
theorem firstPair_of {ps : PairL} (h : ∀ k, k < ps.length → Tm.err (ps[k]?.getD ([], [])).1 = 0 ∧ Tm.err (ps[k]?.getD ([], [])).2 = 0) : Tm.firstPair ps = 0 := by
  induction ps with
  | nil => rfl
  | cons r l ih =>
    rw [Tm.firstPair, if_pos (Tm.pairErr_zero.2 (by simpa using h 0 (by simp)))]
    exact ih fun k hk => by simpa using h (k + 1) (by simpa using hk)

theorem met_step {wr w1 w2 : World} {x : Nat} {vN vC vN1 vC1 : Value} {L M : List Nd} {C : Nat → Nat} {ps : PairL} {k : Nat} (hT : TB wr x vN vC L L.length C) (hM : MI ps k L C) (hB1 : Below wr.heap.size wr w1) (hA : ∀ d ∈ M, FullL (L ++ M) d) (hT2 : TB w2 x vN1 vC1 (L ++ M) (L ++ M).length (extC L.length C)) (hW2 : WK w1 w2 x vN vC vN1 vC1) :
    TB w2 x vN1 vC1 (L ++ M) (L ++ M).length C ∧ MI ps k (L ++ M) C ∧ Below x wr w2 := by
  rw [hM.extC] at hT2
  exact ⟨hT2, hM.ext hA, (hB1.mono (Nat.le_of_lt hT.lt)).trans (hW2.below (hT.below hB1).1)⟩

end Go.Proofs.Ytloealnfbpegnab

namespace Go.Proofs.Ytloealnfbpegnab
open Go.Proofs Go.RowKit Go.Shelf Go.Maps

theorem Tm.fit_pair (a b : List Int) : Tm.fitErr a b = Tm.pairErr a b := by
  unfold Tm.pairErr
  by_cases h : Tm.err a = 0
  · rw [if_pos h]
    simp only [Tm.fitErr, Tm.firstErr, h, if_true]
    by_cases h2 : Tm.err b = 0 <;> simp [h2]
  · rw [if_neg h]
    simp [Tm.fitErr, Tm.firstErr, h]
theorem mgu_nil : Wb.Mgu [] (fun v => [v]) := by
  refine ⟨fun s hs => ?_, fun v h1 h2 s hs => ?_, fun j hj => by simp at hj, fun θ _ _ v _ h2 => ?_, fun v u _ _ e _ => ?_⟩
  · show Tm.run [s] 1 = 1
    rw [show (1 : Nat) = 0 + 1 from rfl, Tm.run_cons, Wb.room_var hs, Tm.run_zero]
  · simp only [List.mem_cons, List.not_mem_nil, or_false] at hs
    omega
  · show θ v = Wb.App θ [v]
    rw [Wb.App_cons, if_pos h2, Wb.App_nil, List.append_nil]
  · simp only [List.cons.injEq, and_true] at e
    omega

set_option maxRecDepth 100000 in
set_option maxHeartbeats 1000000 in
theorem met_nil (a : Option Addr) (cap : Nat) (w : World) : Calls Try.prog 36 #[.slice a 0 cap] w fun e w' => MetAns [] w w' e := by
  have hB0 := hid ((Below.refl w.heap.size w).alloc (Nat.le_refl _) (.cells #[.slice none 0 0, .slice none 0 0] 79))
  have hcl := hid (fun W (hW : W = w.alloc (.cells #[.slice none 0 0, .slice none 0 0] 79)) => tclose_nil (x := w.heap.size) (cN := 0) W (by rw [hW]; exact (cell_at (World.alloc_heap_new w _) 0).trans rfl))
  have hc0 : (w.alloc (.cells #[.slice none 0 0, .slice none 0 0] 79)).cell? ⟨w.heap.size, 0, none⟩ = some (.slice none 0 0) := (cell_at (World.alloc_heap_new w _) 0).trans rfl
  go_enter Try.func36, Try.ntmps36
  go_wp2
  refine wp_loop_rounds 1 ?_
  rw [rounds_succ]
  go_wp2_with fail
  refine (hcl.out _ rfl).mono ?_
  rintro e w1 ⟨rfl, rfl⟩
  clear hcl
  go_wp2
  refine wp_loop_rounds 1 ?_
  rw [rounds_succ]
  go_wp2_with (go_at_call 42; refine (noneOf_any _).mono ?_; rintro e w4 ⟨v, rfl, hN4, hB4⟩; have hlen : (Tm.noneL 8).length = 8 := Tm.noneL_length 8; obtain ⟨g4, c4, rfl⟩ : ∃ g4 c4, v = .slice (some ⟨g4, 0, none⟩) 8 c4 := (by obtain ⟨us, h1, _⟩ := hN4; rw [hlen] at h1; exact ownsRow_succ h1))
  have hc4 : w4.cell? ⟨w.heap.size, 0, none⟩ = some (.slice none 0 0) := (hB4.cell (p := ⟨w.heap.size, 0, none⟩) (by simp)).trans hc0
  refine wp_loop_rounds 1 ?_
  rw [rounds_succ]
  go_wp2
  go_ret3
  exact ⟨hB0.out.trans (hB4.mono hB0.out.size), 0, true, Tm.noneL 8, _, .inr (.inr (.inl ⟨rfl, _, mgu_nil, fun i hi => by simp, rfl, rfl, rfl⟩)), rfl, hN4.mono hB0.out.size⟩

end Go.Proofs.Ytloealnfbpegnab
