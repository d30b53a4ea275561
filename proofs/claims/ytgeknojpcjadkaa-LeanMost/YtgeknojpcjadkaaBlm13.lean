/-
  Parts of the proof: Lea2, Rng7, Lea3, Lea4, Sort.
-/
import Derived.OwnWalk
import Derived.OwnWalkIn
import Derived.RangeFuncBox
import Derived.Test.YtgeknojpcjadkaaBlm11
import Derived.Test.YtgeknojpcjadkaaBlm12
import Derived.OrdersIn
import Derived.Shelf.RegionOpen
import Derived.RangeFuncCalls
import Derived.Test.YtgeknojpcjadkaaBlm5
import Derived.Deep.DrawnRows
import Derived.Shelf.SlSortCmp.WholeK
import Derived.Test.YtgeknojpcjadkaaProg
namespace Go.Proofs.Ytgeknojpcjadkaa
open Go.Proofs Go.RowKit Go.Shelf Go.Maps
abbrev LnD := (Nat × Nat × List (List Int) × List Int) × (Option Addr × Nat) × (Option Addr × Nat)
def encL (d : LnD) : List Value := [.int .i64 (d.1.1 : Int), .int .i64 (d.1.2.1 : Int), .slice d.2.1.1 d.1.2.2.1.length d.2.1.2, .slice d.2.2.1 d.1.2.2.2.length d.2.2.2]
def LnCell (W : World) (d : LnD) : Prop := SubT W d.2.1.1 d.1.2.2.1 ∧ IntT W d.2.2.1 d.1.2.2.2 ∧ d.1.2.2.2.length ≤ d.2.2.2 ∧ d.2.2.2 ≤ maxLen
theorem LnCell.keep {W W' : World} {d : LnD} (h : LnCell W d) (hk : ∀ (b : Nat) (cs : Array Value) (t : TypeId) (p : Nat × Nat), W.heap[b]? = some (.cells cs t p) → t = 3 ∨ termT t → W'.heap[b]? = W.heap[b]?) : LnCell W' d := by
  obtain ⟨h3, h4, r⟩ := h
  exact ⟨h3.keep hk, h4.keep fun b cs p hb => hk b cs _ p hb (.inl rfl), r⟩
theorem encL_one (d : LnD) : ∀ v ∈ encL d, v.oneCell' = true := by
  intro v hv
  simp only [encL, List.mem_cons, List.not_mem_nil, or_false] at hv
  rcases hv with rfl | rfl | rfl | rfl <;> rfl
theorem encL_len (ds : List LnD) : (ds.flatMap encL).length = ds.length * 4 := by
  induction ds with
  | nil => rfl
  | cons d l ih => rw [List.flatMap_cons, List.length_append, ih, List.length_cons]; simp [encL]; omega
theorem encL_get : ∀ (ds : List LnD) (j : Nat) (hj : j < ds.length) (i : Nat), i < 4 → (ds.flatMap encL)[j * 4 + i]? = (encL ds[j])[i]?
  | d :: l, 0, _, i, hi => by rw [List.flatMap_cons, Nat.zero_mul, Nat.zero_add, List.getElem?_append_left (by simp [encL]; omega)]; rfl
  | d :: l, j + 1, hj, i, hi => by
    rw [List.flatMap_cons, List.getElem?_append_right (by simp [encL]; omega)]
    have := encL_get l j (by simpa using hj) i hi
    rw [show (j + 1) * 4 + i - (encL d).length = j * 4 + i by simp [encL]; omega, this]
    rfl
def NewL (base : Nat) (W : World) (v : Value) (l : LeanL) : Prop := ∃ ds : List LnD, ds.map Prod.fst = l ∧ W.ownsRow base 77 4 v ds.length (ds.flatMap encL) ∧ ∀ d ∈ ds, LnCell W d
theorem NewL.nil (base : Nat) (W : World) : NewL base W (.slice none 0 0) [] := ⟨[], rfl, World.ownsRow_nil _ _ _ _, fun d hd => by cases hd⟩
theorem NewL.slice {base : Nat} {W : World} {v : Value} {l : LeanL} (h : NewL base W v l) : ∃ a cap, v = .slice a l.length cap := by
  obtain ⟨ds, rfl, h1, _⟩ := h
  rw [List.length_map]
  rcases h1.2 with ⟨rfl, h0⟩ | ⟨g, cap, cur, rfl, _⟩
  · exact ⟨none, 0, by rw [h0]⟩
  · exact ⟨_, _, rfl⟩
theorem NewL.block {base : Nat} {W : World} {v : Value} {l : LeanL} (h : NewL base W v l) {k : Nat} (hk : v.ownBlock = some k) : base ≤ k ∧ k < W.heap.size ∧ ∃ cs, W.heap[k]? = some (.cells cs 77 (0, 0)) := by
  obtain ⟨ds, _, h1, _⟩ := h
  refine ⟨(World.ownsRow.lt h1 k hk).1, (World.ownsRow.lt h1 k hk).2, ?_⟩
  rcases h1.2 with ⟨rfl, _⟩ | ⟨g, cap, cur, rfl, h2, h3, h4⟩
  · cases hk
  · cases hk; exact ⟨cur, h3⟩
theorem NewL.keep {base : Nat} {W W' : World} {v : Value} {l : LeanL} (h : NewL base W v l) (h0 : ∀ q, v.ownBlock = some q → W'.heap[q]? = W.heap[q]?) (hk : ∀ (b : Nat) (cs : Array Value) (t : TypeId) (p : Nat × Nat), W.heap[b]? = some (.cells cs t p) → t = 3 ∨ termT t → W'.heap[b]? = W.heap[b]?) : NewL base W' v l := by
  obtain ⟨ds, h1, h2, h3⟩ := h
  refine ⟨ds, h1, ⟨h2.1, ?_⟩, fun d hd => (h3 d hd).keep hk⟩
  rcases h2.2 with h | ⟨g, cap, cur, rfl, a1, a2, a3⟩
  · exact .inl h
  · exact .inr ⟨g, cap, cur, rfl, a1, (h0 g rfl).trans a2, a3⟩
theorem NewL.below {base : Nat} {W W' : World} {v : Value} {l : LeanL} (h : NewL base W v l) (hB : Below W.heap.size W W') : NewL base W' v l :=
  h.keep (fun q hq => hB.block q (h.block hq).2.1) fun b _ _ _ hb _ => hB.block b (Array.getElem?_eq_some_iff.1 hb).1
theorem NewL.grown {base : Nat} {W W' : World} {v : Value} {l : LeanL} {row : Option Nat} (h : NewL base W v l) (hg : W.grownBy W' row) (hr : ∀ k, row = some k → ∀ (cs : Array Value) (t : TypeId) (p : Nat × Nat), W.heap[k]? = some (.cells cs t p) → t ≠ 77 ∧ t ≠ 3 ∧ ¬ termT t) : NewL base W' v l :=
  h.keep (fun q hq => hg.block q (h.block hq).2.1 fun e => by
    obtain ⟨_, _, cs, hc⟩ := h.block hq
    exact (hr q e.symm _ _ _ hc).1 rfl) fun b cs t p hb ht => hg.block b (Array.getElem?_eq_some_iff.1 hb).1 fun e => by
    have h1 := hr b e.symm cs t p hb
    exact ht.elim h1.2.1 h1.2.2
theorem NewL.set {base : Nat} {W : World} {v : Value} {l : LeanL} (h : NewL base W v l) {B : Nat} {t : TypeId} {x : Value} (hb : Boxed W B t x) (ht : t ≠ 77 ∧ t ≠ 3 ∧ ¬ termT t) (y : Value) : NewL base (W.setCell ⟨B, 0, none⟩ y) v l :=
  h.grown (grownBy_setCell' W B y) fun k e cs t' p hc => by
    cases e
    unfold Boxed at hb
    rw [hb] at hc
    simp only [Option.some.injEq, Obj.cells.injEq] at hc
    rw [← hc.2.1]
    exact ht
theorem NewL.other {base : Nat} {W W' : World} {v : Value} {l : LeanL} {row : Option Nat} (h : NewL base W v l) (hg : W.grownBy W' row) (hr : ∀ r, row = some r → ∃ o : Obj, W.heap[r]? = some o ∧ o.isCells = false) : NewL base W' v l :=
  h.grown hg fun k e cs t p hc => by
    obtain ⟨o, ho, hn⟩ := hr k e
    rw [ho] at hc
    simp only [Option.some.injEq] at hc
    subst hc
    simp [Obj.isCells] at hn
theorem NewL.mono {base base' : Nat} {W : World} {v : Value} {l : LeanL} (h : NewL base W v l) (hb : base' ≤ base) : NewL base' W v l := by
  obtain ⟨ds, h0, h1, h2⟩ := h
  exact ⟨ds, h0, ⟨h1.1, h1.2.elim .inl (fun ⟨g, cap, cur, e1, e2, e3⟩ => .inr ⟨g, cap, cur, e1, Nat.le_trans hb e2, e3⟩)⟩, h2⟩
theorem lean_row {base : Nat} {w w' : World} {v v' : Value} {ds es : List LnD} {l : LeanL} (h0 : ds.map Prod.fst = l) (h1 : w.ownsRow base 77 4 v ds.length (ds.flatMap encL)) (h2 : ∀ d ∈ ds, LnCell w d) (h3 : ∀ d ∈ es, LnCell w d) (hown : w'.ownsRow base 77 4 v' (ds.length + es.length) (ds.flatMap encL ++ es.flatMap encL)) (hg : w.grownBy w' v.ownBlock) : NewL base w' v' (l ++ es.map Prod.fst) := by
  have hN : NewL base w v l := ⟨ds, h0, h1, h2⟩
  have hk : ∀ (b : Nat) (cs : Array Value) (t : TypeId) (p : Nat × Nat), w.heap[b]? = some (.cells cs t p) → t = 3 ∨ termT t → w'.heap[b]? = w.heap[b]? := fun b cs t p hb ht => hg.block b (Array.getElem?_eq_some_iff.1 hb).1 fun e => by
    obtain ⟨_, _, cs', hc⟩ := hN.block e.symm
    rw [hb] at hc
    simp only [Option.some.injEq, Obj.cells.injEq] at hc
    rcases ht with ht | ht
    · exact absurd (ht.symm.trans hc.2.1) (by decide)
    · exact absurd (hc.2.1 ▸ ht) (by unfold termT; decide)
  refine ⟨ds ++ es, by rw [List.map_append, h0], by rw [List.length_append, List.flatMap_append]; exact hown, fun d hd => ?_⟩
  rcases List.mem_append.1 hd with h | h
  · exact (h2 d h).keep hk
  · exact (h3 d h).keep hk
theorem Try.infoLeans : Try.prog.underlying 71 = some (.slice 77) := by kernel_rfl
theorem Try.info77 : (Try.prog.info? 77).map (fun i => (i.zero, i.size, i.bytes)) = some (some (.agg #[.int .i64 0, .int .i64 0, .slice none 0 0, .slice none 0 0]), 4, 64) := by kernel_rfl
theorem wpi_append_lean {F : Fence} {n : Nat} {ops : Array Oper} {rest : List Oper} {o : Oper} {a : Act} {Q : Exit → Act → World → Prop} (w : World) (hgd : o.guard = none) (s x : Operand)
    (ho : o.op = .call { callee := .builtin .append, args := #[s, x], argTypes := #[71, 71] }) (base : Nat) (v : Value) (l : LeanL) (hs : a.eval s = v) (hN : NewL base w v l)
    (d : LnD) (B : Nat) (hx : a.eval x = .slice (some ⟨B, 0, none⟩) 1 1) (hB : ∀ j u, (encL d)[j]? = some u → w.cell? ⟨B, j, none⟩ = some u) (hd : LnCell w d) (hlen : l.length ≤ 1000000) (hbase : base ≤ w.heap.size)
    (h : ∀ v' w', NewL base w' v' (l ++ [d.1]) → w.grownBy w' v.ownBlock → (∃ g cap, v' = .slice (some ⟨g, 0, none⟩) (l.length + 1) cap) → wpListIn F n Try.prog ops Q rest (a.put o.dst v') w') : wpListIn F n Try.prog ops Q (o :: rest) a w := by
  obtain ⟨i0, hi, hz0, hz1, hz2⟩ := info_parts Try.info77
  obtain ⟨ds, h0, h1, h2⟩ := hN
  have hl : ds.length = l.length := by rw [← h0, List.length_map]
  refine wpListIn_append_own w hgd s x 71 ho base 77 i0 (.agg #[.int .i64 0, .int .i64 0, .slice none 0 0, .slice none 0 0]) 4 64 Try.infoLeans hi hz0 hz1 hz2 rfl (by decide) v ds.length _ hs h1 ⟨B, 0, none⟩ 1 1 (encL d) hx (by simp [encL])
    (by intro j z hj; rw [Go.WideShapes.add_plain, Nat.zero_add]; exact hB j z hj) (encL_one d) (by unfold maxLen; omega) (by omega) hbase ?_
  intro v' w' hown hg _
  refine h v' w' (lean_row (es := [d]) h0 h1 h2 (fun d' hd' => by simp at hd'; subst hd'; exact hd) (by simpa using hown) hg) hg ?_
  rw [← hl]
  exact ownsRow_succ hown
theorem wp_apps_l {ops : Array Oper} {rest : List Oper} {o : Oper} {a : Act} {Q : Exit → Act → World → Prop} (w : World) (hgd : o.guard = none) (s x : Operand)
    (ho : o.op = .call { callee := .builtin .append, args := #[s, x], argTypes := #[71, 71] }) (base : Nat) (v : Value) (l : LeanL) (hs : a.eval s = v) (hN : NewL base w v l)
    (v2 : Value) (l2 : LeanL) (hx : a.eval x = v2) (base2 : Nat) (hM : NewL base2 w v2 l2) (hlen : l.length + l2.length ≤ 100000) (hbase : base ≤ w.heap.size)
    (h : ∀ v' w', NewL base w' v' (l ++ l2) → Below base w w' → wpList Try.prog ops Q rest (a.put o.dst v') w') : wpList Try.prog ops Q (o :: rest) a w := by
  obtain ⟨i0, hi, hz0, hz1, hz2⟩ := info_parts Try.info77
  obtain ⟨ds, h0, h1, h2⟩ := hN
  obtain ⟨es, m0, m1, m2⟩ := hM
  have hl : ds.length = l.length := by rw [← h0, List.length_map]
  have hl2 : es.length = l2.length := by rw [← m0, List.length_map]
  have mm := m1
  rcases m1.2 with ⟨rfl, hn⟩ | ⟨g, cap, cur, rfl, hb, hgb, r1, r2, r3⟩
  · obtain rfl : es = [] := List.eq_nil_of_length_eq_zero hn
    obtain rfl : l2 = [] := m0.symm
    exact wpList_append_own_none hgd s x 71 ho base 77 i0 4 Try.infoLeans hi v ds.length _ hs h1 hx (h v w (by rw [List.append_nil]; exact ⟨ds, h0, h1, h2⟩) (Below.refl _ _))
  · refine wpList_append_own w hgd s x 71 ho base 77 i0 (.agg #[.int .i64 0, .int .i64 0, .slice none 0 0, .slice none 0 0]) 4 64 Try.infoLeans hi hz0 hz1 hz2 rfl (by decide) v ds.length _ hs h1 ⟨g, 0, none⟩ es.length cap (es.flatMap encL) hx (by rw [encL_len])
      (by intro j z hj
          have hjl : j < es.length * 4 := by
            have := (List.getElem?_eq_some_iff.1 hj).1
            rw [encL_len] at this
            exact this
          rw [Go.WideShapes.add_plain, Nat.zero_add]
          have := World.ownsRow.cellAt mm j hjl
          rw [hj] at this
          exact this)
      (by intro u hu; obtain ⟨d, hd, hu⟩ := List.mem_flatMap.1 hu; exact encL_one d u hu) (by unfold maxLen; omega) (by omega) hbase ?_
    intro v' w' hown hg _
    refine h v' w' ?_ ((Below.refl base w).grown hg hbase (fun k e => (World.ownsRow.lt h1 k e).1))
    rw [← m0]
    exact lean_row h0 h1 h2 m2 hown hg
theorem NewL.elem {base : Nat} {W : World} {v : Value} {l : LeanL} (h : NewL base W v l) {k : Nat} (hk : k < l.length) : ∃ g cap aS cS aT cT, v = .slice (some ⟨g, 0, none⟩) l.length cap ∧ g < W.heap.size ∧ W.cell? ⟨g, k * 4, none⟩ = some (.int .i64 (l[k].1 : Int)) ∧ W.cell? ⟨g, k * 4 + 1, none⟩ = some (.int .i64 (l[k].2.1 : Int)) ∧ W.cell? ⟨g, k * 4 + 2, none⟩ = some (.slice aS l[k].2.2.1.length cS) ∧ W.cell? ⟨g, k * 4 + 3, none⟩ = some (.slice aT l[k].2.2.2.length cT) ∧ SubT W aS l[k].2.2.1 ∧ IntT W aT l[k].2.2.2 ∧ l[k].2.2.2.length ≤ cT ∧ cT ≤ maxLen := by
  obtain ⟨ds, rfl, h1, h2⟩ := h
  have hk' : k < ds.length := by simpa using hk
  have hh := h1
  have r := h2 ds[k] (List.getElem_mem hk')
  rcases h1.2 with ⟨rfl, hn⟩ | ⟨g, cap, cur, rfl, hb, hgb, q1, q2, _⟩
  · omega
  · have cc := fun i (hi : i < 4) => (World.ownsRow.cellAt hh (k * 4 + i) (by omega)).trans (encL_get ds k hk' i hi)
    simp only [List.getElem_map, List.length_map]
    have c0 := cc 0 (by omega)
    have c1 := cc 1 (by omega)
    have c2 := cc 2 (by omega)
    have c3 := cc 3 (by omega)
    simp only [encL, List.getElem?_cons_zero, List.getElem?_cons_succ] at c0 c1 c2 c3
    exact ⟨g, cap, _, _, _, _, rfl, (Array.getElem?_eq_some_iff.1 hgb).1, c0, c1, c2, c3, r⟩
theorem NewL.at0 {base : Nat} {W : World} {v : Value} {l : LeanL} (h : NewL base W v l) (h0 : 0 < l.length) : ∃ g cap, v = .slice (some ⟨g, 0, none⟩) l.length cap ∧ l.length ≤ cap ∧ cap ≤ maxLen := by
  obtain ⟨ds, rfl, h1, h2⟩ := h
  rw [List.length_map] at *
  rcases h1.2 with ⟨rfl, hn⟩ | ⟨g, cap, cur, rfl, hb, hgb, q1, q2, _⟩
  · omega
  · exact ⟨g, cap, rfl, q1, q2⟩
end Go.Proofs.Ytgeknojpcjadkaa
namespace Go.Proofs.Ytgeknojpcjadkaa
open Go.Proofs Go.RowKit Go.Shelf
theorem upon_round {F : Fence} {n l : Nat} {P : Program} {o : Oper} {a : Act} {next next' : Act → World → Prop} {Q : Exit → Act → World → Prop} (hm : ∀ a w, next a w → next' a w) (r : Result Next) (h : o.uponIn F n P a next Q r) : o.uponIn (F.inRound l) n P a next' Q r := by
  cases r with
  | ok x w' =>
    cases x with
    | value v => exact hm _ _ h
    | skip => exact hm _ _ h
    | defer d => exact hm _ _ h
    | enter f args =>
      refine ⟨h.1, (CallsIn.inRound l h.2).mono fun e w'' he => ?_⟩
      cases e with
      | returned v => exact hm _ _ he
      | panicked c => exact he
      | outgrown => exact he
    | row row args => exact ⟨h.1, RowsIn.mono (show RowsIn (F.inRound l) (n - 1) P row args w' _ from h.2) fun v w'' he => hm _ _ he⟩
    | round l' f tmps assign body =>
      refine ⟨h.1, RoundIn.mono (show RoundIn (F.inRound l) (n - 1) P l' f tmps assign body w' _ from h.2) fun e w'' he => ?_⟩
      cases e with
      | returned v => exact hm _ _ he
      | panicked c => exact he
      | outgrown => exact he
    | _ => exact h
  | halt x w' => cases x <;> exact h
theorem ops_round {F : Fence} {n l : Nat} {P : Program} {ops : Array Oper} {Q : Exit → Act → World → Prop} (hro : F.round = none) (hnd : ∀ (j : Nat) (o : Oper) (c : Call), ops[j]? = some o → o.op ≠ .defer c) :
    ∀ (order : List Nat) (a : Act) (w : World), wpOpsIn F n P ops Q order a w → wpOpsIn (F.inRound l) n P ops Q order a w := by
  intro order
  induction order with
  | nil => exact fun _ _ h => h
  | cons i rest ih =>
    intro a w h
    unfold wpOpsIn at h ⊢
    cases ho : ops[i]? with
    | none => rw [ho] at h; exact ih a w h
    | some o =>
      rw [ho] at h
      by_cases hw : Region.wanted o (yielded ops a.tmps) = true
      · simp only [hw, if_true] at h ⊢
        refine ⟨h.1, ?_⟩
        have h2 := h.2
        rw [hro, Oper.semAt_none] at h2
        rw [show (F.inRound l).round = some l from rfl, Oper.semAt_some l _ _ (fun c => hnd i o c ho)]
        exact upon_round ih _ h2
      · simp only [hw] at h ⊢
        exact ⟨h.1, ih _ _ h.2⟩
def noDefer (ops : Array Oper) : Bool := ops.all fun o => match o.op with | .defer _ => false | _ => true
theorem noDefer_spec {ops : Array Oper} (h : noDefer ops = true) : ∀ (j : Nat) (o : Oper) (c : Call), ops[j]? = some o → o.op ≠ .defer c := by
  intro j o c hj e
  unfold noDefer at h
  rw [Array.all_eq_true] at h
  obtain ⟨hlt, hx⟩ := Array.getElem?_eq_some_iff.1 hj
  have := h j hlt
  rw [hx, e] at this
  simp at this
theorem wpIn_region_round {F : Fence} {n l id : Nat} {P : Program} {ops : Array Oper} {Q : Exit → Act → World → Prop} {a : Act} {w : World} (hro : F.round = none) (hnd : noDefer ops = true) (hm : P.follows .mixedOrders = true)
    (h : wpAnyIn F n P .any ops Q ops.size (Array.replicate ops.size false) a w.drew) : (Code.region id ops true).wpIn (F.inRound l) n P Q a w :=
  wpIn_region_draw fun t => by
    simp only [Region.schedule, hm, Bool.true_or, if_true]
    exact ops_round hro (noDefer_spec hnd) _ _ _ (wpAnyIn_sound ops.size t _ a _ h)
end Go.Proofs.Ytgeknojpcjadkaa
namespace Go.Proofs.Ytgeknojpcjadkaa
open Go.Proofs Go.RowKit Go.Shelf Go.Maps
set_option maxRecDepth 100000 in
set_option maxHeartbeats 2000000 in
theorem leant_any (ss : List (List Int)) (t R : List Int) (k : Int) (a1 b2 aS : Option Addr) (c1 d2 cs : Nat) (w : World) (hT : Ints w.heap.size w a1 t) (hR : Ints w.heap.size w b2 R) (hS : Subs w.heap.size w aS ss) (h1 : t.length ≤ c1) (h2 : c1 ≤ maxLen) :
    Calls Try.prog 100 #[.slice a1 t.length c1, .int .i64 k, .slice aS ss.length cs, .slice b2 R.length d2] w fun e w' => ∃ v, e = .returned (.tuple #[v, .int .i64 (Tm.lnErr ss t k R)]) ∧ New w.heap.size w' v (Tm.lnVal ss t k R) ∧ Below w.heap.size w w' := by
  have C1 := hid (termPut_any t R a1 b2 c1 d2 k w hT hR h1 h2)
  have C2 := hid (fun W (hW : Below w.heap.size w W) x c (hI : Ints W.heap.size W x (Tm.putVal t k R)) => apply_any ss (Tm.putVal t k R) aS x cs c W ((hS.below hW).mono hW.size) hI)
  clear hT hR hS h1 h2
  by_cases he1 : Tm.putErr t k R = 0
  · rw [he1] at C1
    have PE : Hid (Tm.lnErr ss t k R = Tm.applyErr ss (Tm.putVal t k R)) := by show _ = _; unfold Tm.lnErr; rw [if_pos he1]
    have PV : Hid (Tm.lnVal ss t k R = Tm.applyVal ss (Tm.putVal t k R)) := by
      show _ = _
      unfold Tm.lnVal
      by_cases h : Tm.lnErr ss t k R = 0
      · rw [if_pos h]
      · rw [if_neg h]
        rw [PE.out] at h
        unfold Tm.applyVal
        rw [if_neg h]
    rw [PE.out, PV.out]
    clear he1 PE PV
    generalize Tm.putVal t k R = P at *
    generalize Tm.applyErr ss P = q at *
    generalize Tm.applyVal ss P = X at *
    go_enter Try.func100, Try.ntmps100
    go_wp2_with fail
    refine C1.out.mono ?_
    rintro e w1 ⟨v1, rfl, hN1, b1⟩
    obtain ⟨x1, e1, rfl, hI1, _⟩ := New.ints hN1
    clear C1 hN1
    go_wp2_with fail
    refine (C2.out w1 b1 x1 e1 hI1).mono ?_
    rintro e w2 ⟨v2, rfl, hN2, b2⟩
    obtain ⟨x2, e2, rfl, _⟩ := New.ints hN2
    have HN2 := hid hN2
    clear C2 hN2
    go_wp2
    go_ret2
    exact ⟨_, rfl, HN2.out.mono b1.size, b1.trans (b2.mono b1.size)⟩
  · have hne : (Tm.putErr t k R != 0) = true := by simpa using he1
    have PE : Hid (Tm.lnErr ss t k R = Tm.putErr t k R) := by show _ = _; unfold Tm.lnErr; rw [if_neg he1]
    have PV : Hid (Tm.lnVal ss t k R = []) := by show _ = _; unfold Tm.lnVal; rw [if_neg (by rw [PE.out]; exact he1)]
    rw [PE.out, PV.out]
    clear he1 PE PV C2
    generalize Tm.putErr t k R = q at *
    go_enter Try.func100, Try.ntmps100
    go_wp2_with fail
    refine C1.out.mono ?_
    rintro e w1 ⟨v1, rfl, hN1, b1⟩
    obtain ⟨x1, e1, rfl, hI1, _⟩ := New.ints hN1
    clear C1 hN1
    go_wp2
    go_ret2
    exact ⟨_, rfl, New.nil _ _, b1⟩
theorem results_boxL {fn : Func} {tmps : Array Value} {w : World} {a b B C : Nat} {ad : Option Addr} {n c : Nat} {x : Int} (h : fn.results = #[.cell a 71, .cell b 31]) (ha : tmps.getD a undef = .pointer (some ⟨B, 0, none⟩)) (hb : tmps.getD b undef = .pointer (some ⟨C, 0, none⟩))
    (hc : w.cell? ⟨B, 0, none⟩ = some (.slice ad n c)) (hd : w.cell? ⟨C, 0, none⟩ = some (.int .i64 x)) : (results fn tmps).run Try.prog w = .ok (.tuple #[.slice ad n c, .int .i64 x]) w := by
  have ha' : tmps[a]?.getD undef = .pointer (some ⟨B, 0, none⟩) := by rw [← ha]; simp
  have hb' : tmps[b]?.getD undef = .pointer (some ⟨C, 0, none⟩) := by rw [← hb]; simp
  simp only [results, h]
  simp [go_sem, ha', hb', hc, hd]
structure LInv (w2 : World) (B : Nat) (tv : Value) (l : LeanL) (W : World) : Prop where
  out : ∃ v, Boxed W B 71 v ∧ NewL B W v l
  bP : Boxed W (B + 1) 37 tv
  kp : Below B w2 W
theorem LInv.own {w2 X Y : World} {B D : Nat} {tv : Value} {l : LeanL} {row : Option Nat} (hB : B ≤ w2.heap.size) (hD : B ≤ D) (h : LInv w2 B tv l X) (hg : X.grownBy Y row) (hr : ∀ r, row = some r → D ≤ r ∧ ∃ o : Obj, X.heap[r]? = some o ∧ o.isCells = false) : LInv w2 B tv l Y := by
  obtain ⟨⟨v, hv, hN⟩, bP, kp⟩ := h
  exact ⟨⟨v, cells_own hv hg hr, hN.other hg (fun r e => (hr r e).2)⟩, cells_own bP hg hr, ⟨hg.os.trans kp.os, hg.tape.trans kp.tape, hg.output.trans kp.output, Nat.le_trans kp.size hg.size, fun k hk => (hg.block k (by have := kp.size; omega) (fun e => by have := (hr k e.symm).1; omega)).trans (kp.block k hk)⟩⟩
theorem LInv.below {w2 W W' : World} {B : Nat} {tv : Value} {l : LeanL} (hB : B ≤ w2.heap.size) (h : LInv w2 B tv l W) (hb : Below W.heap.size W W') : LInv w2 B tv l W' := by
  obtain ⟨⟨v, hv, hN⟩, bP, kp⟩ := h
  exact ⟨⟨v, (hb.block _ hv.lt).trans hv, hN.below hb⟩, (hb.block _ bP.lt).trans bP, kp.trans (hb.mono (Nat.le_trans hB kp.size))⟩
theorem l_append {w2 W w' : World} {B C : Nat} {tv v v' : Value} {l : LeanL} {x : Nat × Nat × List (List Int) × List Int} {tmp : Obj} (hB : B ≤ w2.heap.size) (hv : Boxed W B 71 v) (hN : NewL B W v l) (bP : Boxed W (B + 1) 37 tv) (kp : Below B w2 W) (hN' : NewL B w' v' (l ++ [x])) (hg : (W.alloc tmp).grownBy w' v.ownBlock) :
    Boxed w' B 71 v ∧ LInv w2 B tv (l ++ [x]) (w'.setCell ⟨B, 0, none⟩ v') ∧ KeepsFrom C W (w'.setCell ⟨B, 0, none⟩ v') := by
  have hBW : B ≤ W.heap.size := Nat.le_trans hB kp.size
  have hne : ∀ {D : Nat} {e : TypeId} {y : Value}, Boxed W D e y → e ≠ 77 → some D ≠ v.ownBlock := fun hb he e' => by
    obtain ⟨_, _, cs, h⟩ := hN.block e'.symm
    exact boxed_ne hb he cs _ h
  have hv1 : Boxed w' B 71 v := (hv.alloc tmp).kept hg (hne hv (by decide))
  have bP1 : Boxed w' (B + 1) 37 tv := (bP.alloc tmp).kept hg (hne bP (by decide))
  refine ⟨hv1, ⟨⟨v', hv1.set v', hN'.set hv1 (by unfold termT; decide) v'⟩, (Below.heap_setCell w' ⟨B, 0, none⟩ v' (B + 1) (by show B + 1 ≠ B; omega)).trans bP1, kp.trans ?_⟩, ?_⟩
  · refine (((Below.refl B W).alloc hBW tmp).grown hg (by simp; omega) fun j ej => (hN.block ej).1).setCell (p := ⟨B, 0, none⟩) (Nat.le_refl _) v'
  · refine KeepsOthers.from (((KeepsOthers.alloc W tmp).trans (KeepsOthers.of_grownBy hg fun j o ej hj => ?_)).trans (KeepsOthers.setCell _ _ _)) C
    obtain ⟨_, _, cs, h⟩ := hN.block ej
    have h2 : (W.alloc tmp).heap[j]? = some (.cells cs 77 (0, 0)) := (Below.heap_alloc W tmp j (Array.getElem?_eq_some_iff.1 h).1).trans h
    rw [h2] at hj
    cases hj
    rfl
attribute [local go_sem] Oper.semAt_some
attribute [local go_sem ↓] Go.wp_at_zero Go.wp_at_succ
structure LnI (t : List Int) (k : Nat) (L2 R2 : List Int) (w2 : World) (B : Nat) (tv : Value) (m : Nat) (W : World) : Prop where
  inv : ∃ l, Tm.LnTo t k L2 R2 m l ∧ LInv w2 B tv l W
structure LnOut (t L2 R2 : List Int) (w : World) (n : Nat) (c : Code) (W : World) : Prop where
  ret : c = .ret
  kp : Below n w W
  bad : ∃ er, (∃ m, m < t.length ∧ Tm.LnBad t L2 R2 m er) ∧ Boxed W (n + 1 + 1 + 1) 71 (.slice none 0 0) ∧ Boxed W (n + 1 + 1 + 1 + 1) 31 (.int .i64 er)
theorem leans_boxes (w W5 : World) (f y0 y1 x0 : Value) (hW5 : ((((w.alloc (.cells #[f] 3)).alloc (.cells #[y0, y1] 39)).alloc (.cells #[x0] 37)).alloc (.cells #[.slice none 0 0] 71)).alloc (.cells #[.int .i64 0] 31) = W5) :
    Below w.heap.size w W5 ∧ Boxed W5 w.heap.size 3 f ∧ Box2 W5 (w.heap.size + 1) 39 y0 y1 ∧ Boxed W5 (w.heap.size + 1 + 1) 37 x0 ∧ Boxed W5 (w.heap.size + 1 + 1 + 1) 71 (.slice none 0 0) ∧ Boxed W5 (w.heap.size + 1 + 1 + 1 + 1) 31 (.int .i64 0) ∧ W5.heap.size = w.heap.size + 1 + 1 + 1 + 1 + 1 := by
  subst hW5
  refine ⟨(((((Below.refl _ w).alloc (Nat.le_refl _) _).alloc (by simp) _).alloc (by simp; omega) _).alloc (by simp; omega) _).alloc (by simp; omega) _, ((((Boxed.new w _ _).alloc _).alloc _).alloc _).alloc _, ?_, ?_, ?_, ?_, by simp⟩
  · have h := Box2.new (w.alloc (.cells #[f] 3)) 39 y0 y1
    rw [World.size_alloc] at h
    exact ((h.alloc _).alloc _).alloc _
  · have h := Boxed.new ((w.alloc (.cells #[f] 3)).alloc (.cells #[y0, y1] 39)) 37 x0
    simp only [World.size_alloc] at h
    exact (h.alloc _).alloc _
  · have h := Boxed.new (((w.alloc (.cells #[f] 3)).alloc (.cells #[y0, y1] 39)).alloc (.cells #[x0] 37)) 71 (.slice none 0 0)
    simp only [World.size_alloc] at h
    exact h.alloc _
  · have h := Boxed.new ((((w.alloc (.cells #[f] 3)).alloc (.cells #[y0, y1] 39)).alloc (.cells #[x0] 37)).alloc (.cells #[.slice none 0 0] 71)) 31 (.int .i64 0)
    simpa only [World.size_alloc] using h
set_option maxRecDepth 100000 in
set_option maxHeartbeats 4000000 in
theorem leans_any (k : Nat) (t L2 R2 : List Int) (a1 a2 b2 : Option Addr) (c1 c2 d2 : Nat) (w : World) (hT : Tm.err t = 0) (hT1 : Ints w.heap.size w a1 t) (hL2 : Ints w.heap.size w a2 L2) (hR2 : Ints w.heap.size w b2 R2) (k1 : t.length ≤ c1) (k2 : c1 ≤ maxLen) (k3 : L2.length ≤ c2) (k4 : c2 ≤ maxLen) :
    Calls Try.prog 70 #[.int .i64 (k : Int), .agg #[.slice a2 L2.length c2, .slice b2 R2.length d2], .slice a1 t.length c1] w fun e w' => ∃ er l v, Tm.LnSays t k L2 R2 er l ∧ e = .returned (.tuple #[v, .int .i64 er]) ∧ NewL w.heap.size w' v l ∧ Below w.heap.size w w' := by
  obtain ⟨F, hF⟩ : ∃ F, F = Fence.wide := ⟨_, rfl⟩
  refine (callsIn_wide (n := 3)).1 ?_
  rw [← hF]
  obtain ⟨hro, hfn, hdd, hcin⟩ := wide_facts hF
  have HPl : Hid (Pl F) := by rw [hF]; exact wide_pl
  have HF := hid hF
  clear hF
  have hf1 := hfn 70
  have hf4 := hfn 54
  have hf5 := hfn 90
  have hf6 := hfn 82
  have hf7 := hfn 100
  clear hfn
  have l30 := Tm.err_len hT
  have lpos := Tm.err_pos hT
  obtain ⟨W5, hW5⟩ : ∃ W5, ((((w.alloc (.cells #[.int .i64 (k : Int)] 3)).alloc (.cells #[.slice a2 L2.length c2, .slice b2 R2.length d2] 39)).alloc (.cells #[.slice a1 t.length c1] 37)).alloc (.cells #[.slice none 0 0] 71)).alloc (.cells #[.int .i64 0] 31) = W5 := ⟨_, rfl⟩
  obtain ⟨hB5, bK, bO2, bT, b0, b1', hs5⟩ := leans_boxes w W5 _ _ _ _ hW5
  have HW5 := hid hW5
  clear hW5
  have z0 : (W5.alloc (.cells #[.slice none 0 0] 71)).cell? ⟨w.heap.size + 1 + 1, 0, none⟩ = some (.slice a1 t.length c1) := (bT.alloc _).cell
  refine callsIn_of_wp_marks Try.func70 rfl hf1 ?_ hro
  simp only [Try.ntmps70, List.size_toArray, List.length_cons, List.length_nil, Nat.reduceAdd, Nat.reduceSub, Array.replicate_succ, Array.replicate_zero, List.push_toArray, List.append_toArray, List.nil_append, List.cons_append]
  gi_wp2_with fail
  rw [HW5.out]
  gi_wp2_with (first
    | ((try refine ⟨hdd _, ?_⟩); gi_at_call 54; refine (placesx_in F HPl.out _ _ _ _ _).mono ?_; rintro e w' ⟨rfl, rfl⟩))
  have hBx : Below W5.heap.size W5 ((W5.alloc (.cells #[.slice none 0 0] 71)).alloc (.cells #[.slice a1 t.length c1] 37)) := ((Below.refl _ W5).alloc (Nat.le_refl _) _).alloc (by simp) _
  have bO := (Boxed.new W5 71 (.slice none 0 0)).alloc (.cells #[.slice a1 t.length c1] 37)
  have bP := Boxed.new (W5.alloc (.cells #[.slice none 0 0] 71)) 37 (.slice a1 t.length c1)
  rw [World.size_alloc] at bP
  rw [hs5] at bO bP hBx
  have I0 : LnI t k L2 R2 W5 (w.heap.size + 1 + 1 + 1 + 1 + 1) (.slice a1 t.length c1) 0 ((W5.alloc (.cells #[.slice none 0 0] 71)).alloc (.cells #[.slice a1 t.length c1] 37)) := ⟨⟨[], Tm.LnTo.nil, ⟨⟨_, bO, NewL.nil _ _⟩, bP, hBx⟩⟩⟩
  have hs7 : ((W5.alloc (.cells #[.slice none 0 0] 71)).alloc (.cells #[.slice a1 t.length c1] 37)).heap.size = w.heap.size + 1 + 1 + 1 + 1 + 1 + 1 + 1 := by simp [hs5]
  obtain ⟨W7, hW7⟩ : ∃ W7, (W5.alloc (.cells #[.slice none 0 0] 71)).alloc (.cells #[.slice a1 t.length c1] 37) = W7 := ⟨_, rfl⟩
  rw [hW7] at I0 hs7 ⊢
  have HT1 := hid hT1
  have HL2 := hid hL2
  have HR2 := hid hR2
  have hl30' : (t.length : Int) ≤ 30 := by omega
  have Hs5 := hid hs5
  have HB5 := hid hB5
  have hnn : w.heap.size + 1 + 1 + 1 + 1 + 1 ≤ W5.heap.size := by omega
  clear hW7 bO bP hBx z0 hT1 hL2 hR2 hs5 HW5
  refine wpIn_rangeSteps hro (by omega) (gf := 90) (lb := #[.pointer (some ⟨w.heap.size + 1 + 1 + 1 + 1 + 1 + 1, 0, none⟩)]) rfl hf5 (enters_of Try.func90 (by kernel_rfl) rfl)
    (places_steps F HPl.out _ (w.heap.size + 1 + 1 + 1 + 1 + 1 + 1) c1 a1 t (by omega)) (fun _ => rfl)
    (LnI t k L2 R2 W5 (w.heap.size + 1 + 1 + 1 + 1 + 1) (.slice a1 t.length c1)) (LnOut t L2 R2 w w.heap.size) (fun _ _ => False) (.inl fun _ _ h => h)
    (by
      rintro m X Y row ⟨l, hl, inv⟩ hg hr
      exact ⟨l, hl, inv.own hnn (by omega) hg hr⟩)
    (by
      rintro c X Y row ⟨q1, kp, er, q2, q3, q4⟩ hg hr
      exact ⟨q1, ⟨hg.os.trans kp.os, hg.tape.trans kp.tape, hg.output.trans kp.output, Nat.le_trans kp.size hg.size, fun k hk => (hg.block k (by have := kp.size; omega) (fun e => by have := (hr k e.symm).1; omega)).trans (kp.block k hk)⟩, er, q2, cells_own q3 hg hr, cells_own q4 hg hr⟩)
    (fun m W hI => by
      obtain ⟨l, _, inv⟩ := hI
      have hb := HB5.out.trans (inv.kp.mono (by omega))
      exact ⟨inv.bP.cell, (HT1.out.below hb).mono hb.size⟩)
    I0
    (fun m => { tmps := #[.int .i64 (k : Int), .agg #[.slice a2 L2.length c2, .slice b2 R2.length d2], .slice a1 t.length c1, .pointer (some ⟨w.heap.size, 0, none⟩), .pointer (some ⟨w.heap.size + 1, 0, none⟩), .pointer (some ⟨w.heap.size + 1 + 1, 0, none⟩), .pointer (some ⟨w.heap.size + 1 + 1 + 1, 0, none⟩), .pointer (some ⟨w.heap.size + 1 + 1 + 1 + 1, 0, none⟩), .pointer (some ⟨w.heap.size + 1 + 1 + 1 + 1 + 1, 0, none⟩), .int .i64 (m : Int), .int .i64 (Tm.endAt t m : Int), undef, undef, undef, undef, .slice a1 t.length c1, .func (.func 90) #[] #[.pointer (some ⟨w.heap.size + 1 + 1 + 1 + 1 + 1 + 1, 0, none⟩)], .int .i64 (m : Int), .int .i64 (Tm.endAt t m : Int), undef, undef, undef, undef, undef, undef, undef, undef, undef, undef, undef, undef, undef, undef, undef, undef, undef, undef, undef, undef, undef, undef, undef, undef, undef, undef, undef, undef, undef, undef, undef, undef, undef, undef, undef, undef, undef, undef, undef, undef, undef, undef], defers := [] }) ?assign ?body ?done ?stop ?panic
  case assign =>
    intro l m W K hK
    simp only [encPl]
    gi_wp2
    exact hK
  case body =>
    rintro l m W ⟨lp, hlp, inv⟩ hm
    have hbW : Below w.heap.size w W := HB5.out.trans (inv.kp.mono (by omega))
    have hsW : W5.heap.size ≤ W.heap.size := inv.kp.size
    have cK : W.cell? ⟨w.heap.size, 0, none⟩ = some (.int .i64 (k : Int)) := (inv.kp.cell (p := ⟨w.heap.size, 0, none⟩) (by show w.heap.size < w.heap.size + 1 + 1 + 1 + 1 + 1; omega)).trans bK.cell
    have cT : W.cell? ⟨w.heap.size + 1 + 1, 0, none⟩ = some (.slice a1 t.length c1) := (inv.kp.cell (p := ⟨w.heap.size + 1 + 1, 0, none⟩) (by show w.heap.size + 1 + 1 < w.heap.size + 1 + 1 + 1 + 1 + 1; omega)).trans bT.cell
    have c1' : W.cell? ⟨w.heap.size + 1, 0, none⟩ = some (.slice a2 L2.length c2) := (inv.kp.cell (p := ⟨w.heap.size + 1, 0, none⟩) (by show w.heap.size + 1 < w.heap.size + 1 + 1 + 1 + 1 + 1; omega)).trans bO2.cell0
    have c11 : W.cell? ⟨w.heap.size + 1, 1, none⟩ = some (.slice b2 R2.length d2) := (inv.kp.cell (p := ⟨w.heap.size + 1, 1, none⟩) (by show w.heap.size + 1 < w.heap.size + 1 + 1 + 1 + 1 + 1; omega)).trans bO2.cell1
    have Hlp := hid hlp
    have Hinv := hid inv
    have hyes := hid (fun (h : t[m]?.getD 0 < 0) => hlp.pass h)
    have hno := hid (fun (h : ¬ t[m]?.getD 0 < 0) val hs => hlp.no (val := val) h hs)
    have hye := hid (fun (h : ¬ t[m]?.getD 0 < 0) val hs he => hlp.yes (val := val) h hs he)
    have hbad := hid (fun (h : ¬ t[m]?.getD 0 < 0) e (h0 : e ≠ 0) hs => (⟨m, hm, h0, h, hs⟩ : ∃ m, m < t.length ∧ Tm.LnBad t L2 R2 m e))
    have hlen := hlp.len
    obtain ⟨ba, oa, rfl, hba, _⟩ := HT1.out.at lpos
    obtain ⟨_, _, e, _, hcs⟩ := ((HT1.out.below hbW).mono hbW.size).at lpos
    cases e
    have hcm := hcs m hm
    have hm' : (m : Int) < (t.length : Int) := by omega
    clear hlp inv hcs
    by_cases hpass : t[m]?.getD 0 < 0
    · have hY := hid (hyes.out hpass)
      clear hyes hno hye hbad
      generalize t[m]?.getD 0 = s at *
      gi_wp2
      exact ⟨KeepsFrom.refl _ _, ⟨lp, hY.out, Hinv.out⟩⟩
    · have Hno := hid (hno.out hpass)
      have Hye := hid (hye.out hpass)
      have Hbad := hid (hbad.out hpass)
      have hpf : decide (t[m]?.getD 0 < 0) = false := by simpa using hpass
      clear hpass hyes hno hye hbad
      have pgt := Tm.endAt_gt t m
      have ple := Tm.end_in hT hm
      have hpl := Tm.part_length hT hm
      have hBd : Below W.heap.size W W.drew := below_drewN (Below.refl _ W) 1
      have hbWd := hbW.trans (hBd.mono hbW.size)
      have HmC := Meet_new (Tm.part t m) L2 (some ⟨ba, oa + m, none⟩) a2 (c1 - m) c2 W.drew (((HT1.out.sub m _).below hbWd).mono hbWd.size) ((HL2.out.below hbWd).mono hbWd.size) (by rw [hpl]; omega) (by omega) k3 k4
      rw [hpl] at HmC
      have Hm := hid (CallsIn.inRound l (hcin (n := 0) HmC))
      have q1 : (m : Int) ≤ (Tm.endAt t m : Int) := by omega
      have q2 : (Tm.endAt t m : Int) ≤ (c1 : Int) := by omega
      have q3 : ¬ c1 - m = 0 := by omega
      have q4 : (0 : Int) ≤ (m : Int) := by omega
      have q5 : ¬ c1 = m := by omega
      have mixed : Try.prog.follows .mixedOrders = true := by kernel_rfl
      clear HmC hpl
      generalize t[m]?.getD 0 = s at *
      gi_wp2_with fail
      have hbox : Hid (∀ X : World, LInv W5 (w.heap.size + 1 + 1 + 1 + 1 + 1) (.slice (some ⟨ba, oa, none⟩) t.length c1) lp X → Boxed X (w.heap.size + 1 + 1 + 1) 71 (.slice none 0 0) ∧ Boxed X (w.heap.size + 1 + 1 + 1 + 1) 31 (.int .i64 0)) := fun X h => ⟨(h.kp.block _ (by omega)).trans b0, (h.kp.block _ (by omega)).trans b1'⟩
      refine wpIn_mono (Q := fun e a' W' => e = .normal ∧ ∃ er is val x, a' = { tmps := #[.int .i64 (k : Int), .agg #[.slice a2 L2.length c2, .slice b2 R2.length d2], .slice (some ⟨ba, oa, none⟩) t.length c1, .pointer (some ⟨w.heap.size, 0, none⟩), .pointer (some ⟨w.heap.size + 1, 0, none⟩), .pointer (some ⟨w.heap.size + 1 + 1, 0, none⟩), .pointer (some ⟨w.heap.size + 1 + 1 + 1, 0, none⟩), .pointer (some ⟨w.heap.size + 1 + 1 + 1 + 1, 0, none⟩), .pointer (some ⟨w.heap.size + 1 + 1 + 1 + 1 + 1, 0, none⟩), .int .i64 (m : Int), .int .i64 (Tm.endAt t m : Int), .slice x val.length val.length, .bool is, .int .i64 er, undef, .slice (some ⟨ba, oa, none⟩) t.length c1, .func (.func 90) #[] #[.pointer (some ⟨w.heap.size + 1 + 1 + 1 + 1 + 1 + 1, 0, none⟩)], .int .i64 (m : Int), .int .i64 (Tm.endAt t m : Int), .slice (some ⟨ba, oa, none⟩) t.length c1, .int .i64 (m : Int), .pointer (some ⟨ba, oa + m, none⟩), .int .i64 s, .bool false, .tuple #[.slice x val.length val.length, .bool is, .int .i64 er], .slice (some ⟨ba, oa, none⟩) t.length c1, .int .i64 (m : Int), .int .i64 (Tm.endAt t m : Int), .slice (some ⟨ba, oa + m, none⟩) (Tm.endAt t m - m) (c1 - m), .pointer (some ⟨w.heap.size + 1, 0, none⟩), .slice a2 L2.length c2, .tuple #[.slice x val.length val.length, .bool is, .int .i64 er], .slice x val.length val.length, .bool is, .int .i64 er, undef, undef, undef, undef, undef, undef, undef, undef, undef, undef, undef, undef, undef, undef, undef, undef, undef, undef, undef, undef, undef, undef, undef, undef, undef, undef], defers := [] } ∧ Tm.MeetSays [(Tm.part t m, L2)] er is val ∧ SubT W' x val ∧ Below W.drew.heap.size W.drew W') ?reg ?cont
      case reg =>
        refine wpIn_region_round hro (by kernel_rfl) mixed ?_
        show wpAnyIn F _ _ _ _ _ 14 (Array.replicate 14 false) _ _
        refine wpAnyIn_take (i := 1) (v := .int .i64 (m : Int)) hro rfl (by kernel_rfl) (by kernel_rfl) (by kernel_rfl) (fun _ _ _ h => absurd h.1 (by simp)) ⟨Or.inl ⟨by rfl, fun w => by go_simp⟩, fun _ => rfl⟩ ?_
        refine wpAnyIn_take (i := 2) (v := .int .i64 (Tm.endAt t m : Int)) hro rfl (by kernel_rfl) (by kernel_rfl) (by kernel_rfl) (fun _ _ _ h => absurd h.1 (by simp)) ⟨Or.inl ⟨by rfl, fun w => by go_simp⟩, fun _ => rfl⟩ ?_
        refine wpAnyIn_take (i := 4) (v := .pointer (some ⟨w.heap.size + 1, 0, none⟩)) hro rfl (by kernel_rfl) (by kernel_rfl) (by kernel_rfl) (fun _ _ _ h => absurd h.1 (by simp)) ⟨Or.inl ⟨by rfl, fun w => by go_simp⟩, fun _ => rfl⟩ ?_
        refine wpAnyIn_ready (rs := [0, 5]) (by kernel_rfl) (by simp) ?_
        refine AllReadyIn.cons rfl (fun K hK => ?_) (AllReadyIn.cons rfl (fun K hK => ?_) AllReadyIn.nil)
        · go_simp
          refine hK _ _ ?_
          clear hK K
          refine wpAnyIn_take (i := 3) (v := .slice (some ⟨ba, oa + m, none⟩) (Tm.endAt t m - m) (c1 - m)) hro rfl (by kernel_rfl) (by kernel_rfl) (by kernel_rfl) (fun _ _ _ h => absurd h.1 (by simp)) ⟨Or.inl ⟨by rfl, fun w => by go_simp⟩, fun _ => rfl⟩ ?_
          refine wpAnyIn_ready (rs := [5]) (by kernel_rfl) (by simp) ?_
          refine AllReadyIn.cons rfl (fun K hK => ?_) AllReadyIn.nil
          go_simp
          refine hK _ _ ?_
          clear hK K
          refine wpAnyIn_ready (rs := [6]) (by kernel_rfl) (by simp) ?_
          refine AllReadyIn.cons rfl (fun K hK => ?_) AllReadyIn.nil
          go_simp
          gi_wp2_with (first | ((try refine ⟨hdd _, ?_⟩); gi_at_call 82; refine Hm.out.mono ?_; rintro e W1 ⟨hB1', er, is, val, x, hsay, rfl, hS1⟩))
          refine wpAnyIn_take (i := 7) (v := .tuple #[.slice x val.length val.length, .bool is, .int .i64 er]) hro rfl (by kernel_rfl) (by kernel_rfl) (by kernel_rfl) (fun _ _ _ h => absurd h.1 (by simp)) ⟨Or.inl ⟨by rfl, fun w => by go_simp⟩, fun _ => rfl⟩ ?_
          refine wpAnyIn_take (i := 8) (v := .slice x val.length val.length) hro rfl (by kernel_rfl) (by kernel_rfl) (by kernel_rfl) (fun _ _ _ h => absurd h.1 (by simp)) ⟨Or.inl ⟨by rfl, fun w => by go_simp⟩, fun _ => rfl⟩ ?_
          refine wpAnyIn_take (i := 9) (v := .bool is) hro rfl (by kernel_rfl) (by kernel_rfl) (by kernel_rfl) (fun _ _ _ h => absurd h.1 (by simp)) ⟨Or.inl ⟨by rfl, fun w => by go_simp⟩, fun _ => rfl⟩ ?_
          refine wpAnyIn_take (i := 10) (v := .int .i64 er) hro rfl (by kernel_rfl) (by kernel_rfl) (by kernel_rfl) (fun _ _ _ h => absurd h.1 (by simp)) ⟨Or.inl ⟨by rfl, fun w => by go_simp⟩, fun _ => rfl⟩ ?_
          refine wpAnyIn_take (i := 11) (v := .slice x val.length val.length) hro rfl (by kernel_rfl) (by kernel_rfl) (by kernel_rfl) (fun _ _ _ h => absurd h.1 (by simp)) ⟨Or.inl ⟨by rfl, fun w => by go_simp⟩, fun _ => rfl⟩ ?_
          refine wpAnyIn_take (i := 12) (v := .bool is) hro rfl (by kernel_rfl) (by kernel_rfl) (by kernel_rfl) (fun _ _ _ h => absurd h.1 (by simp)) ⟨Or.inl ⟨by rfl, fun w => by go_simp⟩, fun _ => rfl⟩ ?_
          refine wpAnyIn_ready (rs := [13]) (by kernel_rfl) (by simp) ?_
          refine AllReadyIn.cons rfl (fun K hK => ?_) AllReadyIn.nil
          go_simp
          refine hK _ _ ?_
          clear hK K
          refine wpAnyIn_done (by kernel_rfl) ?_ _
          exact ⟨rfl, er, is, val, x, rfl, hsay, hS1, hB1'⟩
        · go_simp
          refine hK _ _ ?_
          clear hK K
          refine wpAnyIn_ready (rs := [0]) (by kernel_rfl) (by simp) ?_
          refine AllReadyIn.cons rfl (fun K hK => ?_) AllReadyIn.nil
          go_simp
          refine hK _ _ ?_
          clear hK K
          refine wpAnyIn_take (i := 3) (v := .slice (some ⟨ba, oa + m, none⟩) (Tm.endAt t m - m) (c1 - m)) hro rfl (by kernel_rfl) (by kernel_rfl) (by kernel_rfl) (fun _ _ _ h => absurd h.1 (by simp)) ⟨Or.inl ⟨by rfl, fun w => by go_simp⟩, fun _ => rfl⟩ ?_
          refine wpAnyIn_ready (rs := [6]) (by kernel_rfl) (by simp) ?_
          refine AllReadyIn.cons rfl (fun K hK => ?_) AllReadyIn.nil
          go_simp
          gi_wp2_with (first | ((try refine ⟨hdd _, ?_⟩); gi_at_call 82; refine Hm.out.mono ?_; rintro e W1 ⟨hB1', er, is, val, x, hsay, rfl, hS1⟩))
          refine wpAnyIn_take (i := 7) (v := .tuple #[.slice x val.length val.length, .bool is, .int .i64 er]) hro rfl (by kernel_rfl) (by kernel_rfl) (by kernel_rfl) (fun _ _ _ h => absurd h.1 (by simp)) ⟨Or.inl ⟨by rfl, fun w => by go_simp⟩, fun _ => rfl⟩ ?_
          refine wpAnyIn_take (i := 8) (v := .slice x val.length val.length) hro rfl (by kernel_rfl) (by kernel_rfl) (by kernel_rfl) (fun _ _ _ h => absurd h.1 (by simp)) ⟨Or.inl ⟨by rfl, fun w => by go_simp⟩, fun _ => rfl⟩ ?_
          refine wpAnyIn_take (i := 9) (v := .bool is) hro rfl (by kernel_rfl) (by kernel_rfl) (by kernel_rfl) (fun _ _ _ h => absurd h.1 (by simp)) ⟨Or.inl ⟨by rfl, fun w => by go_simp⟩, fun _ => rfl⟩ ?_
          refine wpAnyIn_take (i := 10) (v := .int .i64 er) hro rfl (by kernel_rfl) (by kernel_rfl) (by kernel_rfl) (fun _ _ _ h => absurd h.1 (by simp)) ⟨Or.inl ⟨by rfl, fun w => by go_simp⟩, fun _ => rfl⟩ ?_
          refine wpAnyIn_take (i := 11) (v := .slice x val.length val.length) hro rfl (by kernel_rfl) (by kernel_rfl) (by kernel_rfl) (fun _ _ _ h => absurd h.1 (by simp)) ⟨Or.inl ⟨by rfl, fun w => by go_simp⟩, fun _ => rfl⟩ ?_
          refine wpAnyIn_take (i := 12) (v := .bool is) hro rfl (by kernel_rfl) (by kernel_rfl) (by kernel_rfl) (fun _ _ _ h => absurd h.1 (by simp)) ⟨Or.inl ⟨by rfl, fun w => by go_simp⟩, fun _ => rfl⟩ ?_
          refine wpAnyIn_ready (rs := [13]) (by kernel_rfl) (by simp) ?_
          refine AllReadyIn.cons rfl (fun K hK => ?_) AllReadyIn.nil
          go_simp
          refine hK _ _ ?_
          clear hK K
          refine wpAnyIn_done (by kernel_rfl) ?_ _
          exact ⟨rfl, er, is, val, x, rfl, hsay, hS1, hB1'⟩
      case cont =>
        rintro e a' W1 ⟨rfl, er, is, val, x, rfl, hsay, hS1, hB1⟩
        have hBW1 : Below W.heap.size W W1 := hBd.trans (hB1.mono (Nat.le_refl _))
        have inv1 := Hinv.out.below hnn hBW1
        have kf1 : KeepsFrom W7.heap.size W W1 := keepsFrom_below hBW1
        have hb1 := hbW.trans (hBW1.mono hbW.size)
        have hsW1 := hBW1.size
        have Hsay := hid hsay
        have HS1 := hid hS1
        clear hsay hS1 hB1 Hm hcm
        by_cases he : er = 0
        · subst he
          cases is with
          | false =>
            gi_wp2
            exact ⟨kf1, ⟨lp, Hno.out val Hsay.out, inv1⟩⟩
          | true =>
            have eK : W1.cell? ⟨w.heap.size, 0, none⟩ = some (.int .i64 (k : Int)) := (hBW1.cell (p := ⟨w.heap.size, 0, none⟩) (by show w.heap.size < _; omega)).trans cK
            have eT : W1.cell? ⟨w.heap.size + 1 + 1, 0, none⟩ = some (.slice (some ⟨ba, oa, none⟩) t.length c1) := (hBW1.cell (p := ⟨w.heap.size + 1 + 1, 0, none⟩) (by show w.heap.size + 1 + 1 < _; omega)).trans cT
            have e11 : W1.cell? ⟨w.heap.size + 1, 1, none⟩ = some (.slice b2 R2.length d2) := (hBW1.cell (p := ⟨w.heap.size + 1, 1, none⟩) (by show w.heap.size + 1 < _; omega)).trans c11
            have Hpt := hid (CallsIn.inRound l (hcin (n := 0) (leant_any val t R2 (m : Int) (some ⟨ba, oa, none⟩) b2 x c1 d2 val.length W1 ((HT1.out.below hb1).mono hb1.size) ((HR2.out.below hb1).mono hb1.size) HS1.out.subs k1 k2)))
            have Hy := hid (Hye.out val Hsay.out)
            have Hbd := hid (fun e h0 h => Hbad.out e h0 (.inr ⟨val, Hsay.out, h⟩))
            clear Hno Hye Hbad
            by_cases hpe : Tm.lnErr val t (m : Int) R2 = 0
            · rw [hpe] at Hpt
              have HY := hid (Hy.out hpe)
              clear hpe Hbd Hy
              generalize Tm.lnVal val t (m : Int) R2 = Z at *
              have hle := hid (show lp.length ≤ 1000000 by omega)
              gi_wp2_with (first
                | ((try refine ⟨hdd _, ?_⟩); gi_at_call 100; refine Hpt.out.mono ?_; clear Hpt; rintro e W2 ⟨v2, rfl, n2, hB2⟩; obtain ⟨x8, c8, rfl, i8, j8, j8', _⟩ := IntT.of n2; have hs2 := hB2.size; have inv2 := inv1.below hnn hB2; obtain ⟨vo, hvo, hNo⟩ := inv2.out; obtain ⟨va, vc, rfl⟩ := hNo.slice; have cO := hvo.cell; have eK2 : W2.cell? ⟨w.heap.size, 0, none⟩ = some (.int .i64 (k : Int)) := (hB2.cell (p := ⟨w.heap.size, 0, none⟩) (by show w.heap.size < _; omega)).trans eK; have hBx : Below W2.heap.size W2 (W2.alloc (.cells #[.int .i64 (k : Int), .int .i64 (m : Int), .slice x val.length val.length, .slice x8 Z.length c8] 77)) := (Below.refl _ _).alloc (Nat.le_refl _) _; have P1 := World.alloc_heap_new W2 (.cells #[.int .i64 (k : Int), .int .i64 (m : Int), .slice x val.length val.length, .slice x8 Z.length c8] 77))
                | (gi_at_builtin; (refine wpi_append_lean _ rfl _ _ rfl (w.heap.size + 1 + 1 + 1 + 1 + 1) _ lp rfl (hNo.below hBx) ((k, m, val, Z), (x, val.length), (x8, c8)) W2.heap.size rfl (fun j u hj => by rw [cell_at P1]; simpa [encL] using hj) ⟨(HS1.out.below hB2).below hBx, i8.keep fun b _ _ hb => hBx.block b (Array.getElem?_eq_some_iff.1 hb).1, j8, j8'⟩ hle.out (by have := inv2.kp.size; simp; omega) ?_); intro v' w9 hN9 hg9 hs9; obtain ⟨g9, c9', rfl⟩ := hs9; have R9 := l_append (C := W7.heap.size) hnn hvo hNo inv2.bP inv2.kp hN9 hg9; have cO9 := R9.1.cell; have fO9 := R9.1.frozen))
              refine ⟨?_, ⟨_, HY.out, R9.2.1⟩⟩
              have hkf := (kf1.trans (keepsFrom_below hB2)).trans R9.2.2
              rw [hs7] at hkf
              exact hkf
            · have Hbd' := hid (Hbd.out _ hpe rfl)
              have hne : (Tm.lnErr val t (m : Int) R2 != 0) = true := by simpa using hpe
              clear hpe Hbd Hy
              generalize Tm.lnErr val t (m : Int) R2 = q at *
              generalize Tm.lnVal val t (m : Int) R2 = Z at *
              gi_wp2_with (first
                | ((try refine ⟨hdd _, ?_⟩); gi_at_call 100; refine Hpt.out.mono ?_; clear Hpt; rintro e W2 ⟨v2, rfl, n2, hB2⟩; obtain ⟨x8, c8, rfl, _⟩ := IntT.of n2; have hs2 := hB2.size; have inv2 := inv1.below hnn hB2; have b02 : Boxed W2 (w.heap.size + 1 + 1 + 1) 71 (.slice none 0 0) := (hbox.out W2 inv2).1; have b12 : Boxed W2 (w.heap.size + 1 + 1 + 1 + 1) 31 (.int .i64 0) := (hbox.out W2 inv2).2; have k0 := b02.cell; have k1 := b12.cell; have f0 := b02.frozen; have f1 := b12.frozen; have b12' : Boxed (W2.setCell ⟨w.heap.size + 1 + 1 + 1, 0, none⟩ (.slice none 0 0)) (w.heap.size + 1 + 1 + 1 + 1) 31 (.int .i64 0) := (Below.heap_setCell W2 ⟨w.heap.size + 1 + 1 + 1, 0, none⟩ _ (w.heap.size + 1 + 1 + 1 + 1) (by show w.heap.size + 1 + 1 + 1 + 1 ≠ w.heap.size + 1 + 1 + 1; omega)).trans b12; have k1' := b12'.cell; have f1' := b12'.frozen))
              refine ⟨((kf1.trans (keepsFrom_below hB2)).trans ((KeepsOthers.setCell _ _ _).from _)).trans ((KeepsOthers.setCell _ _ _).from _), rfl, ?_, _, Hbd'.out, ?_, ?_⟩
              · exact ((hb1.trans (hB2.mono hb1.size)).setCell (p := ⟨w.heap.size + 1 + 1 + 1, 0, none⟩) (by show w.heap.size ≤ w.heap.size + 1 + 1 + 1; omega) _).setCell (p := ⟨w.heap.size + 1 + 1 + 1 + 1, 0, none⟩) (by show w.heap.size ≤ w.heap.size + 1 + 1 + 1 + 1; omega) _
              · exact (Below.heap_setCell _ ⟨w.heap.size + 1 + 1 + 1 + 1, 0, none⟩ _ (w.heap.size + 1 + 1 + 1) (by show w.heap.size + 1 + 1 + 1 ≠ w.heap.size + 1 + 1 + 1 + 1; omega)).trans (b02.set _)
              · exact b12'.set _
        · have Hb := hid (Hbad.out er he (.inl ⟨is, val, Hsay.out⟩))
          have hne : (er != 0) = true := by simpa using he
          clear he Hno Hye Hbad
          have b01 : Boxed W1 (w.heap.size + 1 + 1 + 1) 71 (.slice none 0 0) := (hbox.out W1 inv1).1
          have b11 : Boxed W1 (w.heap.size + 1 + 1 + 1 + 1) 31 (.int .i64 0) := (hbox.out W1 inv1).2
          have k0 := b01.cell
          have k1 := b11.cell
          have f0 := b01.frozen
          have f1 := b11.frozen
          have b11' : Boxed (W1.setCell ⟨w.heap.size + 1 + 1 + 1, 0, none⟩ (.slice none 0 0)) (w.heap.size + 1 + 1 + 1 + 1) 31 (.int .i64 0) := (Below.heap_setCell W1 ⟨w.heap.size + 1 + 1 + 1, 0, none⟩ _ (w.heap.size + 1 + 1 + 1 + 1) (by show w.heap.size + 1 + 1 + 1 + 1 ≠ w.heap.size + 1 + 1 + 1; omega)).trans b11
          have k1' := b11'.cell
          have f1' := b11'.frozen
          gi_wp2
          refine ⟨(kf1.trans ((KeepsOthers.setCell _ _ _).from _)).trans ((KeepsOthers.setCell _ _ _).from _), rfl, ?_, _, Hb.out, ?_, ?_⟩
          · exact ((hb1).setCell (p := ⟨w.heap.size + 1 + 1 + 1, 0, none⟩) (by show w.heap.size ≤ w.heap.size + 1 + 1 + 1; omega) _).setCell (p := ⟨w.heap.size + 1 + 1 + 1 + 1, 0, none⟩) (by show w.heap.size ≤ w.heap.size + 1 + 1 + 1 + 1; omega) _
          · exact (Below.heap_setCell _ ⟨w.heap.size + 1 + 1 + 1 + 1, 0, none⟩ _ (w.heap.size + 1 + 1 + 1) (by show w.heap.size + 1 + 1 + 1 ≠ w.heap.size + 1 + 1 + 1 + 1; omega)).trans (b01.set _)
          · exact b11'.set _
  case done =>
    rintro D W hD ⟨lp, hlp, inv⟩ hDd
    obtain ⟨v, hv, hN⟩ := inv.out
    obtain ⟨va, vc, rfl⟩ := hN.slice
    have cO := hv.cell
    have b0W : Boxed W (w.heap.size + 1 + 1 + 1) 71 (.slice none 0 0) := (inv.kp.block _ (by omega)).trans b0
    have b1W : Boxed W (w.heap.size + 1 + 1 + 1 + 1) 31 (.int .i64 0) := (inv.kp.block _ (by omega)).trans b1'
    have k0 := b0W.cell
    have k1w := b1W.cell
    have f0 := b0W.frozen
    have f1 := b1W.frozen
    have b0X := b0W.set (.slice va lp.length vc)
    have b1X : Boxed (W.setCell ⟨w.heap.size + 1 + 1 + 1, 0, none⟩ (.slice va lp.length vc)) (w.heap.size + 1 + 1 + 1 + 1) 31 (.int .i64 0) := (Below.heap_setCell W ⟨w.heap.size + 1 + 1 + 1, 0, none⟩ _ (w.heap.size + 1 + 1 + 1 + 1) (by show w.heap.size + 1 + 1 + 1 + 1 ≠ w.heap.size + 1 + 1 + 1; omega)).trans b1W
    have k1X := b1X.cell
    have f1X := b1X.frozen
    rw [hs7] at hD
    have HN := hid hN
    have Hkp := hid inv.kp
    have Hlp := hid hlp
    clear hN inv hlp
    generalize hln : lp.length = ln at *
    clear hln
    gi_wp2
    have hDd2 : ((W.setCell ⟨w.heap.size + 1 + 1 + 1, 0, none⟩ (.slice va ln vc)).setCell ⟨w.heap.size + 1 + 1 + 1 + 1, 0, none⟩ (.int .i64 0)).heap[D]? = some (.deferred (some [])) :=
      (Below.heap_setCell _ ⟨w.heap.size + 1 + 1 + 1 + 1, 0, none⟩ _ D (show D ≠ w.heap.size + 1 + 1 + 1 + 1 by omega)).trans ((Below.heap_setCell W ⟨w.heap.size + 1 + 1 + 1, 0, none⟩ _ D (show D ≠ w.heap.size + 1 + 1 + 1 by omega)).trans hDd)
    have b0Y : Boxed ((W.setCell ⟨w.heap.size + 1 + 1 + 1, 0, none⟩ (.slice va ln vc)).setCell ⟨w.heap.size + 1 + 1 + 1 + 1, 0, none⟩ (.int .i64 0)) (w.heap.size + 1 + 1 + 1) 71 (.slice va ln vc) :=
      (Below.heap_setCell _ ⟨w.heap.size + 1 + 1 + 1 + 1, 0, none⟩ _ (w.heap.size + 1 + 1 + 1) (by show w.heap.size + 1 + 1 + 1 ≠ w.heap.size + 1 + 1 + 1 + 1; omega)).trans b0X
    have b1Y := b1X.set (.int .i64 0)
    refine ⟨by simp, .inl ⟨_, _, rfl, run_takeDeferred hDd2, ?_⟩⟩
    refine ⟨_, results_boxL rfl rfl rfl ((World.cell?_of_block (a := ⟨w.heap.size + 1 + 1 + 1, 0, none⟩) (World.putObj_heap_other (show w.heap.size + 1 + 1 + 1 ≠ D by omega))).trans b0Y.cell) ((World.cell?_of_block (a := ⟨w.heap.size + 1 + 1 + 1 + 1, 0, none⟩) (World.putObj_heap_other (show w.heap.size + 1 + 1 + 1 + 1 ≠ D by omega))).trans b1Y.cell), ?_⟩
    refine ⟨0, lp, _, .inl ⟨rfl, Hlp.out⟩, rfl, ?_, ?_⟩
    · have h1 := ((HN.out.set b0W (by unfold termT; decide) (.slice va ln vc)).set b1X (by unfold termT; decide) (.int .i64 0)).other (grownBy_putObj' _ D (.deferred none)) (fun r e => by cases e; exact ⟨_, hDd2, rfl⟩)
      exact h1.mono (by omega)
    · have h0 := HB5.out.trans (Hkp.out.mono (by omega))
      have h1 := (h0.setCell (p := ⟨w.heap.size + 1 + 1 + 1, 0, none⟩) (by show w.heap.size ≤ w.heap.size + 1 + 1 + 1; omega) (.slice va ln vc)).setCell (p := ⟨w.heap.size + 1 + 1 + 1 + 1, 0, none⟩) (by show w.heap.size ≤ w.heap.size + 1 + 1 + 1 + 1; omega) (.int .i64 0)
      exact ⟨h1.os, h1.tape, h1.output, by have := h1.size; simpa using this, fun k hk => (World.putObj_heap_other (by omega)).trans (h1.block k hk)⟩
  case stop =>
    rintro D c W hD ⟨rfl, kp, er, hbad, c0, c1'⟩ hDd
    rw [hs7] at hD
    have k0 := c0.cell
    have k1w := c1'.cell
    gi_wp2
    refine ⟨by simp, .inl ⟨_, _, rfl, run_takeDeferred hDd, ?_⟩⟩
    refine ⟨_, results_boxL rfl rfl rfl ((World.cell?_of_block (a := ⟨w.heap.size + 1 + 1 + 1, 0, none⟩) (World.putObj_heap_other (show w.heap.size + 1 + 1 + 1 ≠ D by omega))).trans k0) ((World.cell?_of_block (a := ⟨w.heap.size + 1 + 1 + 1 + 1, 0, none⟩) (World.putObj_heap_other (show w.heap.size + 1 + 1 + 1 + 1 ≠ D by omega))).trans k1w), ?_⟩
    exact ⟨er, [], _, .inr ⟨hbad, rfl⟩, rfl, NewL.nil _ _, ⟨kp.os, kp.tape, kp.output, by have := kp.size; simpa using this, fun k hk => (World.putObj_heap_other (by omega)).trans (kp.block k hk)⟩⟩
  case panic => exact fun _ _ _ _ h => h.elim
end Go.Proofs.Ytgeknojpcjadkaa
namespace Go.Proofs.Ytgeknojpcjadkaa
open Go.Proofs Go.RowKit Go.Shelf
def LnLt (x y : Nat × Nat × List (List Int) × List Int) : Prop := x.2.1 < y.2.1 ∨ (x.2.1 = y.2.1 ∧ x.1 < y.1)
def LnNe (x y : Nat × Nat × List (List Int) × List Int) : Prop := x.1 ≠ y.1 ∨ x.2.1 ≠ y.2.1
theorem Tm.LnTo.mem {t : List Int} {k : Nat} {L R : List Int} : ∀ {m : Nat} {l : LeanL}, Tm.LnTo t k L R m l → ∀ x, x ∈ l ↔ ∃ i o, i < m ∧ Tm.LnAt t k L R i o ∧ x ∈ o
  | 0, _, h, x => by
    rw [show _ = _ from h]
    exact ⟨fun hx => by simp at hx, fun ⟨i, o, hi, _⟩ => by omega⟩
  | m + 1, _, ⟨l0, o, h1, h2, h3⟩, x => by
    rw [h3, List.mem_append, Tm.LnTo.mem h1 x]
    constructor
    · rintro (⟨i, o', hi, ho, hx⟩ | hx)
      · exact ⟨i, o', by omega, ho, hx⟩
      · exact ⟨m, o, by omega, h2, hx⟩
    · rintro ⟨i, o', hi, ho, hx⟩
      by_cases e : i = m
      · subst e
        rw [ho.one h2] at hx
        exact .inr hx
      · exact .inl ⟨i, o', by omega, ho, hx⟩
theorem Tm.LnTo.all {t : List Int} {k : Nat} {L R : List Int} : ∀ {m : Nat} {l : LeanL}, Tm.LnTo t k L R m l → ∀ i, i < m → ∃ o, Tm.LnAt t k L R i o
  | 0, _, _, i, hi => by omega
  | m + 1, _, ⟨l0, o, h1, h2, h3⟩, i, hi => by
    by_cases e : i = m
    · subst e; exact ⟨o, h2⟩
    · exact Tm.LnTo.all h1 i (by omega)
theorem Tm.LnTo.rule {t : List Int} {k : Nat} {L R : List Int} {m : Nat} {l : LeanL} (h : Tm.LnTo t k L R m l) : ∀ x ∈ l, x.1 = k ∧ x.2.1 < m := fun x hx => by
  obtain ⟨i, o, hi, ho, hx⟩ := (h.mem x).1 hx
  obtain ⟨h1, h2, _⟩ := ho.mem x hx
  exact ⟨h1, by omega⟩
theorem Tm.LnTo.apart {t : List Int} {k : Nat} {L R : List Int} : ∀ {m : Nat} {l : LeanL}, Tm.LnTo t k L R m l → l.Pairwise LnNe
  | 0, _, h => by rw [show _ = _ from h]; exact List.Pairwise.nil
  | m + 1, _, ⟨l0, o, h1, h2, h3⟩ => by
    rw [h3, List.pairwise_append]
    refine ⟨Tm.LnTo.apart h1, ?_, fun x hx y hy => ?_⟩
    · have hl := h2.len
      match o, hl with
      | [], _ => exact List.Pairwise.nil
      | [a], _ => exact List.pairwise_singleton _ _
    · have h4 := (Tm.LnTo.rule h1 x hx).2
      have h5 := (h2.mem y hy).2.1
      exact .inr (by omega)
def Tm.LnAll (rs : RuleL) (t : List Int) (n : Nat) (l : LeanL) : Prop := ∃ f : Nat → LeanL, (∀ k, k < n → Tm.LnTo t k (Tm.others (rs[k]?.getD ([], [])).1) (Tm.others (rs[k]?.getD ([], [])).2) t.length (f k)) ∧ l = ((List.range n).map f).flatten
theorem Tm.LnAll.zero (rs : RuleL) (t : List Int) : Tm.LnAll rs t 0 [] := ⟨fun _ => [], fun k hk => by omega, rfl⟩
theorem Tm.LnAll.next {rs : RuleL} {t : List Int} {n : Nat} {l l' : LeanL} (h : Tm.LnAll rs t n l) (hs : Tm.LnTo t n (Tm.others (rs[n]?.getD ([], [])).1) (Tm.others (rs[n]?.getD ([], [])).2) t.length l') : Tm.LnAll rs t (n + 1) (l ++ l') := by
  obtain ⟨f, h1, rfl⟩ := h
  refine ⟨fun j => if j = n then l' else f j, fun j hj => ?_, ?_⟩
  · dsimp only
    by_cases e : j = n
    · subst e; rw [if_pos rfl]; exact hs
    · rw [if_neg e]; exact h1 j (by omega)
  · rw [List.range_succ, List.map_append, List.flatten_append]
    simp only [List.map_cons, List.map_nil, if_pos, List.flatten_cons, List.flatten_nil, List.append_nil]
    congr 2
    refine List.map_congr_left fun j hj => ?_
    rw [List.mem_range] at hj
    rw [if_neg (by omega)]
theorem Tm.LnAll.len {rs : RuleL} {t : List Int} {n : Nat} {l : LeanL} (h : Tm.LnAll rs t n l) : l.length ≤ n * t.length := by
  obtain ⟨f, h1, rfl⟩ := h
  induction n with
  | zero => simp
  | succ n ih =>
    rw [List.range_succ, List.map_append, List.flatten_append, List.length_append]
    have := ih fun j hj => h1 j (by omega)
    have := (h1 n (by omega)).len
    simp only [List.map_cons, List.map_nil, List.flatten_cons, List.flatten_nil, List.append_nil]
    rw [Nat.add_mul, Nat.one_mul]
    omega
theorem Tm.LnAll.mem {rs : RuleL} {t : List Int} {n : Nat} {l : LeanL} (h : Tm.LnAll rs t n l) (x : Nat × Nat × List (List Int) × List Int) : x ∈ l ↔ ∃ k i o, k < n ∧ i < t.length ∧ Tm.LnAt t k (Tm.others (rs[k]?.getD ([], [])).1) (Tm.others (rs[k]?.getD ([], [])).2) i o ∧ x ∈ o := by
  obtain ⟨f, h1, rfl⟩ := h
  rw [List.mem_flatten]
  constructor
  · rintro ⟨l, hl, hx⟩
    obtain ⟨k, hk, rfl⟩ := List.mem_map.1 hl
    rw [List.mem_range] at hk
    obtain ⟨i, o, hi, ho, hx⟩ := ((h1 k hk).mem x).1 hx
    exact ⟨k, i, o, hk, hi, ho, hx⟩
  · rintro ⟨k, i, o, hk, hi, ho, hx⟩
    exact ⟨f k, List.mem_map.2 ⟨k, List.mem_range.2 hk, rfl⟩, ((h1 k hk).mem x).2 ⟨i, o, hi, ho, hx⟩⟩
theorem Tm.LnAll.apart {rs : RuleL} {t : List Int} {n : Nat} {l : LeanL} (h : Tm.LnAll rs t n l) : l.Pairwise LnNe := by
  obtain ⟨f, h1, rfl⟩ := h
  induction n with
  | zero => exact List.Pairwise.nil
  | succ n ih =>
    rw [List.range_succ, List.map_append, List.flatten_append, List.pairwise_append]
    refine ⟨ih fun j hj => h1 j (by omega), ?_, fun x hx y hy => ?_⟩
    · simpa using (h1 n (by omega)).apart
    · have hy' : y ∈ f n := by simpa using hy
      have h2 := ((h1 n (by omega)).rule y hy').1
      obtain ⟨l, hl, hx⟩ := List.mem_flatten.1 hx
      obtain ⟨k, hk, rfl⟩ := List.mem_map.1 hl
      rw [List.mem_range] at hk
      have h3 := ((h1 k (by omega)).rule x hx).1
      exact .inl (by omega)
def Tm.LeanOk (rs : RuleL) (t : List Int) (l : LeanL) : Prop :=
  (∀ k, k < rs.length → ∀ i, i < t.length → ∃ o, Tm.LnAt t k (Tm.others (rs[k]?.getD ([], [])).1) (Tm.others (rs[k]?.getD ([], [])).2) i o) ∧ l.Pairwise LnLt ∧
  ∀ x, x ∈ l ↔ ∃ k i o, k < rs.length ∧ i < t.length ∧ Tm.LnAt t k (Tm.others (rs[k]?.getD ([], [])).1) (Tm.others (rs[k]?.getD ([], [])).2) i o ∧ x ∈ o
def Tm.LeanBad (rs : RuleL) (t : List Int) (e : Int) : Prop := ∃ k i, k < rs.length ∧ i < t.length ∧ Tm.LnBad t (Tm.others (rs[k]?.getD ([], [])).1) (Tm.others (rs[k]?.getD ([], [])).2) i e
def Tm.leanErr (rs : RuleL) (t : List Int) : Int := if Tm.rulesErr rs = 0 then (if Tm.err t = 0 then (if t.any foreignB = true then 3 else 0) else Tm.err t) else Tm.rulesErr rs
def Tm.LeanSays (rs : RuleL) (t : List Int) (er : Int) (l : LeanL) : Prop :=
  (Tm.leanErr rs t ≠ 0 ∧ er = Tm.leanErr rs t ∧ l = []) ∨ (Tm.leanErr rs t = 0 ∧ ((er = 0 ∧ Tm.LeanOk rs t l) ∨ (Tm.LeanBad rs t er ∧ l = [])))
theorem Tm.leanErr_zero {rs : RuleL} {t : List Int} (h : Tm.leanErr rs t = 0) : Tm.rulesErr rs = 0 ∧ Tm.err t = 0 ∧ t.any foreignB = false := by
  unfold Tm.leanErr at h
  by_cases h1 : Tm.rulesErr rs = 0
  · rw [if_pos h1] at h
    by_cases h2 : Tm.err t = 0
    · rw [if_pos h2] at h
      by_cases h3 : t.any foreignB = true
      · rw [if_pos h3] at h; cases h
      · exact ⟨h1, h2, by simpa using h3⟩
    · rw [if_neg h2] at h; exact absurd h h2
  · rw [if_neg h1] at h; exact absurd h h1
theorem lnLt_sorted {l l' : LeanL} (h : l.Pairwise LnLt) (h' : l'.Pairwise LnLt) (hm : ∀ x, x ∈ l ↔ x ∈ l') : l = l' := by
  induction l generalizing l' with
  | nil =>
    cases l' with
    | nil => rfl
    | cons y l' => exact absurd ((hm y).2 (by simp)) (by simp)
  | cons x l ih =>
    cases l' with
    | nil => exact absurd ((hm x).1 (by simp)) (by simp)
    | cons y l' =>
      rw [List.pairwise_cons] at h h'
      have key : ∀ {a b : Nat × Nat × List (List Int) × List Int}, LnLt a b → LnLt b a → False := fun h1 h2 => by
        unfold LnLt at h1 h2
        omega
      have hxy : x = y := by
        rcases List.mem_cons.1 ((hm x).1 (by simp)) with e | hx
        · exact e
        · rcases List.mem_cons.1 ((hm y).2 (by simp)) with e | hy
          · exact e.symm
          · exact (key (h.1 y hy) (h'.1 x hx)).elim
      subst hxy
      have irr : ¬ LnLt x x := fun h => key h h
      rw [ih h.2 h'.2 fun z => ?_]
      constructor
      · intro hz
        rcases List.mem_cons.1 ((hm z).1 (by simp [hz])) with e | hz'
        · subst e; exact (irr (h.1 _ hz)).elim
        · exact hz'
      · intro hz
        rcases List.mem_cons.1 ((hm z).2 (by simp [hz])) with e | hz'
        · subst e; exact (irr (h'.1 _ hz)).elim
        · exact hz'
end Go.Proofs.Ytgeknojpcjadkaa
namespace Go.Proofs
open Go.Shelf
def Try.sortLean_ren : Go.Shelf.Ren := ⟨fun | 6 => 71 | 15 => 102 | 14 => 101 | 28 => 133 | 29 => 134 | 20 => 125 | 21 => 126 | 22 => 127 | 23 => 128 | 24 => 129 | 25 => 130 | 26 => 131 | 27 => 132 | 46 => 150 | 47 => 151 | 48 => 152 | 49 => 153 | 50 => 154 | 57 => 160 | n => n, fun | 22 => 71 | 24 => 77 | 25 => 120 | 3 => 3 | 39 => 155 | 0 => 0 | 53 => 185 | 55 => 187 | 4 => 4 | 46 => 178 | 45 => 177 | 50 => 182 | 5 => 5 | 9 => 9 | 66 => 195 | 70 => 199 | 76 => 205 | 77 => 94 | n => n, fun | n => n⟩
theorem Try.sortLean : Go.Proofs.SlLaysF0.n6 Try.prog Try.sortLean_ren := {
  mixed := by kernel_rfl
  f6 := ⟨Try.f71.name, by decide, Try.func71.trans (congrArg some (by kernel_rfl))⟩
  f14 := ⟨Try.f101.name, by decide, Try.func101.trans (congrArg some (by kernel_rfl))⟩
  f15 := Try.func102.trans (congrArg some (by kernel_rfl))
  f20 := ⟨Try.f125.name, by decide, Try.func125.trans (congrArg some (by kernel_rfl))⟩
  f21 := ⟨Try.f126.name, by decide, Try.func126.trans (congrArg some (by kernel_rfl))⟩
  f22 := ⟨Try.f127.name, by decide, Try.func127.trans (congrArg some (by kernel_rfl))⟩
  f23 := ⟨Try.f128.name, by decide, Try.func128.trans (congrArg some (by kernel_rfl))⟩
  f24 := ⟨Try.f129.name, by decide, Try.func129.trans (congrArg some (by kernel_rfl))⟩
  f25 := ⟨Try.f130.name, by decide, Try.func130.trans (congrArg some (by kernel_rfl))⟩
  f26 := ⟨Try.f131.name, by decide, Try.func131.trans (congrArg some (by kernel_rfl))⟩
  f27 := ⟨Try.f132.name, by decide, Try.func132.trans (congrArg some (by kernel_rfl))⟩
  f28 := Try.func133.trans (congrArg some (by kernel_rfl))
  f29 := Try.func134.trans (congrArg some (by kernel_rfl))
  f46 := ⟨Try.f150.name, by decide, Try.func150.trans (congrArg some (by kernel_rfl))⟩
  f47 := Try.func151.trans (congrArg some (by kernel_rfl))
  f48 := Try.func152.trans (congrArg some (by kernel_rfl))
  f49 := ⟨Try.f153.name, by decide, Try.func153.trans (congrArg some (by kernel_rfl))⟩
  f50 := ⟨Try.f154.name, by decide, Try.func154.trans (congrArg some (by kernel_rfl))⟩
  f57 := ⟨Try.f160.name, by decide, Try.func160.trans (congrArg some (by kernel_rfl))⟩
  t0 := Try.underlying0
  a0 := Try.isAgg0
  z0 := Try.sizeOf0
  v0 := Try.zeroValue0
  t3 := Try.underlying3
  a3 := Try.isAgg3
  z3 := Try.sizeOf3
  v3 := Try.zeroValue3
  t4 := Try.underlying4
  a4 := Try.isAgg4
  z4 := Try.sizeOf4
  v4 := Try.zeroValue4
  t5 := Try.underlying5
  a5 := Try.isAgg5
  z5 := Try.sizeOf5
  v5 := Try.zeroValue5
  t9 := Try.underlying9
  a9 := Try.isAgg9
  z9 := Try.sizeOf9
  v9 := Try.zeroValue9
  t22 := Try.underlying71
  a22 := Try.isAgg71
  z22 := Try.sizeOf71
  v22 := Try.zeroValue71
  t25 := Try.underlying120
  a25 := Try.isAgg120
  z25 := Try.sizeOf120
  v25 := Try.zeroValue120
  t39 := Try.underlying155
  a39 := Try.isAgg155
  z39 := Try.sizeOf155
  v39 := Try.zeroValue155
  t45 := Try.underlying177
  a45 := Try.isAgg177
  z45 := Try.sizeOf177
  v45 := Try.zeroValue177
  t46 := Try.underlying178
  a46 := Try.isAgg178
  z46 := Try.sizeOf178
  v46 := Try.zeroValue178
  t50 := Try.underlying182
  a50 := Try.isAgg182
  z50 := Try.sizeOf182
  v50 := Try.zeroValue182
  t53 := Try.underlying185
  a53 := Try.isAgg185
  z53 := Try.sizeOf185
  v53 := Try.zeroValue185
  t55 := Try.underlying187
  a55 := Try.isAgg187
  z55 := Try.sizeOf187
  v55 := Try.zeroValue187
  t66 := Try.underlying195
  a66 := Try.isAgg195
  z66 := Try.sizeOf195
  v66 := Try.zeroValue195
  t70 := Try.underlying199
  a70 := Try.isAgg199
  z70 := Try.sizeOf199
  v70 := Try.zeroValue199
  t76 := Try.underlying205
  a76 := Try.isAgg205
  z76 := Try.sizeOf205
  v76 := Try.zeroValue205
  t77 := Try.underlying94
  a77 := Try.isAgg94
  z77 := Try.sizeOf94
  v77 := Try.zeroValue94 }
end Go.Proofs
