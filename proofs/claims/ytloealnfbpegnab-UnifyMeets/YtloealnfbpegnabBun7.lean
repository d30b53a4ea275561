/-
  (*web).lay: a term behind all others. · PLAIN MATHEMATICS: a term is laid behind all others: what stood there stands as it stood. · 'append(s, y)' of one sign within a fence: which block it lies in then; lists of parts laid one behind the other. · (*web).grown. · (*web).grown: the step. · (*web).grown, at every place that ends. · What unify.grow defers: it recovers 'too large'.
-/
import Derived.Test.YtloealnfbpegnabBun6
import Derived.OwnWalkIn
import Derived.WalkLawsBesides
import Derived.Shelf.RegionOpen
import Derived.Defers
import Derived.Recover
namespace Go.Proofs.Ytloealnfbpegnab
open Go.Proofs Go.RowKit Go.Shelf Go.Maps

/-- 'append(s, x...)' of ints, onto what the call itself made; nothing else has turned. -/
theorem wp_append_own2 {ops : Array Oper} {rest : List Oper} {o : Oper} {a : Act} {Q : Exit → Act → World → Prop} (w : World) (hgd : o.guard = none) (s x : Operand)
    (ho : o.op = .call { callee := .builtin .append, args := #[s, x], argTypes := #[23, 23] }) (base : Nat) (v : Value) (xs : List Int) (hs : a.eval s = v) (hN : New base w v xs)
    (ao : Option Addr) (ys : List Int) (c : Nat) (hx : a.eval x = .slice ao ys.length c) (hn : ao = none → ys.length = 0 ∧ c = 0) (hI : Ints w.heap.size w ao ys) (hlen : xs.length + ys.length ≤ 1000000) (hbase : base ≤ w.heap.size)
    (h : ∀ v' w', New base w' v' (xs ++ ys) → w.grownBy w' v.ownBlock → wpList Try.prog ops Q rest (a.put o.dst v') w') : wpList Try.prog ops Q (o :: rest) a w := by
  obtain ⟨i0, hi, hz0, hz1, hz2⟩ := info_parts Try.info3
  cases ao with
  | none =>
    obtain ⟨h0, rfl⟩ := hn rfl
    obtain rfl : ys = [] := List.eq_nil_of_length_eq_zero h0
    refine wpList_append_own_none hgd s x 23 ho base 3 i0 1 Try.underlying23 hi v xs.length (xs.map (Value.int .i64)) hs hN hx (h v w (by simpa using hN) ⟨rfl, rfl, rfl, Nat.le_refl _, fun _ _ _ => rfl⟩)
  | some ad =>
    refine wpList_append_own w hgd s x 23 ho base 3 i0 (.int .i64 0) 1 8 Try.underlying23 hi hz0 hz1 hz2 rfl (by decide) v xs.length (xs.map (Value.int .i64)) hs hN ad ys.length c (ys.map (Value.int .i64)) hx (by simp) hI.news
      (by intro u hu; simp at hu; obtain ⟨z, _, rfl⟩ := hu; rfl) (by unfold maxLen; omega) (by omega) hbase ?_
    intro v' w' hown hg _
    exact h v' w' (by simpa [New] using hown) hg

/-- BLOCK Bw IS A WEB whose signs are its own. -/
def OwnWeb (W : World) (Bw Bm : Nat) (v : Value) (zs : List Int) : Prop := W.heap[Bw]? = some (.cells #[v, .map (some Bm)] 91 (0, 0)) ∧ New (Bw + 1) W v zs

set_option maxRecDepth 100000 in
set_option maxHeartbeats 1000000 in
theorem lay_any (zs t : List Int) (Bw Bm : Nat) (v : Value) (at' : Option Addr) (ct : Nat) (w : World) (hO : OwnWeb w Bw Bm v zs) (hT : Ints w.heap.size w at' t) (hct : at' = none → t.length = 0 ∧ ct = 0) (hl : zs.length + t.length ≤ 5000) :
    Calls Try.prog 51 #[.pointer (some ⟨Bw, 0, none⟩), .slice at' t.length ct] w fun e w' => e = .returned (.int .i64 (zs.length : Int)) ∧ ∃ v', OwnWeb w' Bw Bm v' (zs ++ t) ∧ w'.os = w.os ∧ w'.tape = w.tape ∧ w'.output = w.output ∧ w.heap.size ≤ w'.heap.size ∧
      ∀ k, k < w.heap.size → k ≠ Bw → some k ≠ v.ownBlock → w'.heap[k]? = w.heap[k]? := by
  obtain ⟨hw, hN⟩ := hO
  have hlt : Bw < w.heap.size := (Array.getElem?_eq_some_iff.1 hw).1
  have hc0 : w.cell? ⟨Bw, 0, none⟩ = some v := (cell_at hw 0).trans rfl
  have hf0 : w.frozen? ⟨Bw, 0, none⟩ = false := by simp only [World.frozen?]; rw [hw]; simp
  obtain ⟨a0, c0, rfl, _⟩ := New.ints hN
  have hown : ∀ k, (Value.slice a0 zs.length c0).ownBlock = some k → Bw + 1 ≤ k := fun k e => (World.ownsRow.lt hN k e).1
  have hz : (zs.length : Int) ≤ 5000 := by omega
  go_enter Try.func51, Try.ntmps51
  go_wp2_with (first
    | (at_builtin; go_loud (refine wp_append_own2 _ rfl _ _ rfl (Bw + 1) _ zs rfl hN at' t ct rfl hct hT (by omega) (by omega) ?_); intro v' w2 hN2 hg2; have hw2 : w2.heap[Bw]? = some (.cells #[.slice a0 zs.length c0, .map (some Bm)] 91 (0, 0)) := (hg2.block Bw hlt (fun e => by have := hown Bw e.symm; omega)).trans hw; have hc2 : w2.cell? ⟨Bw, 0, none⟩ = some (.slice a0 zs.length c0) := (cell_at hw2 0).trans rfl; have hf2 : w2.frozen? ⟨Bw, 0, none⟩ = false := (by simp only [World.frozen?]; rw [hw2]; simp); obtain ⟨a2, c2, rfl, _⟩ := New.ints hN2))
  go_ret
  have hown2 : ∀ k, (Value.slice a2 (zs ++ t).length c2).ownBlock = some k → Bw + 1 ≤ k := fun k e => (World.ownsRow.lt hN2 k e).1
  refine ⟨rfl, .slice a2 (zs ++ t).length c2, ⟨?_, ?_⟩, hg2.os, hg2.tape, hg2.output, Nat.le_trans hg2.size (KeepsWalks.setCell w2 _ _).size, fun k hk hn ho => (Below.heap_setCell w2 ⟨Bw, 0, none⟩ _ k hn).trans (hg2.block k hk ho)⟩
  · obtain ⟨hlt', hk⟩ := Array.getElem?_eq_some_iff.1 hw2
    rw [List.length_append]
    show (w2.heap.modify Bw _)[Bw]? = _
    rw [Array.getElem?_eq_getElem (by rw [Array.size_modify]; exact hlt'), Array.getElem_modify_self, hk]
    rfl
  · refine World.ownsRow.kept hN2 (grownBy_setCell1 w2 Bw 0 _) ?_
    cases e : (Value.slice a2 (zs ++ t).length c2).ownBlock with
    | none => exact .inl rfl
    | some k => exact .inr (by have := hown2 k e; simp; omega)

end Go.Proofs.Ytloealnfbpegnab

namespace Go.Proofs.Ytloealnfbpegnab
open Go.Proofs Go.RowKit Go.Shelf

namespace Wb
theorem sg_ext {zs t : List Int} {p : Nat} (hp : p < zs.length) : sg (zs ++ t) p = sg zs p := by unfold sg; rw [List.getElem?_append_left hp]
theorem can_ext {zs t : List Int} {p : Nat} (hp : p < zs.length) : can (zs ++ t) p = can zs p := by unfold can; rw [sg_ext hp]
theorem end_ext {zs t : List Int} (G : Good zs) {p : Nat} (hp : p < zs.length) : Tm.endAt (zs ++ t) p = Tm.endAt zs p := by
  have h := Tm.endAt_mid (pre := []) (t := zs) (post := t) (k := p) (by omega) (G.ends p hp)
  simpa using h
theorem cont_ext {zs t : List Int} (G : Good zs) {p : Nat} (hp : p < zs.length) : cont (zs ++ t) p = cont zs p := by
  have h := Tm.part_mid (pre := []) (t := zs) (post := t) (k := p) (by omega) (G.ends p hp)
  simpa [cont] using h
theorem pos_ext {zs t : List Int} (G : Good zs) {p : Nat} (hp : p < zs.length) : ∀ i, i ≤ Tm.room (sg zs p) → Tm.pos (zs ++ t) p i = Tm.pos zs p i := by
  intro i
  induction i with
  | zero => intro _; rw [Tm.pos_zero, Tm.pos_zero]
  | succ i ih =>
    intro hi
    rw [Tm.pos_succ, Tm.pos_succ, ih (by omega)]
    exact end_ext G (kid_lt G hp (by omega))
theorem Good.ext {zs t : List Int} (G : Good zs) (ht : Tm.err t = 0) (hl : zs.length + t.length ≤ 5000) : Good (zs ++ t) := by
  refine ⟨by rw [List.length_append]; exact hl, by rw [List.length_append]; have := G.eight; omega, fun p hp => ?_, fun i hi => ?_, fun p hp => ?_⟩
  · by_cases h : p < zs.length
    · rw [sg_ext h]; exact G.known p h
    · rw [List.length_append] at hp
      have hk := Tm.all_at (Tm.err_all ht) (k := p - zs.length) (by omega)
      have e : sg (zs ++ t) p = t[p - zs.length]?.getD 0 := by unfold sg; rw [List.getElem?_append_right (by omega)]
      rw [e]
      exact ⟨Tm.known_ge hk, Tm.known_lt hk⟩
  · rw [sg_ext (by have := G.eight; omega)]; exact G.vars i hi
  · rw [List.length_append] at hp ⊢
    by_cases h : p < zs.length
    · rw [end_ext G h]; have := G.ends p h; omega
    · have he := Tm.end_in ht (k := p - zs.length) (by omega)
      have h2 := Tm.endAt_mid (pre := zs) (t := t) (post := []) (k := p - zs.length) (by omega) he
      rw [List.append_nil, show zs.length + (p - zs.length) = p from by omega] at h2
      omega
theorem St.ext {zs t : List Int} {T : Nat → Option Nat} {h : Nat → Nat} (S : St zs T h) : St (zs ++ t) T h := by
  have hc : ∀ p, p < zs.length → can (zs ++ t) p = can zs p := fun p hp => can_ext hp
  have hle : zs.length ≤ (zs ++ t).length := by rw [List.length_append]; omega
  refine ⟨fun p h1 h2 => ?_, fun p h1 h2 => ?_, fun p q h1 h2 h3 => ?_, ?_, fun p h1 h2 => ?_, fun p hp => S.out p (by omega)⟩
  · by_cases hp : p < zs.length
    · obtain ⟨a, b, c⟩ := S.root p hp (by rw [← hc p hp]; exact h2)
      exact ⟨by omega, by rw [hc _ a]; exact b, c⟩
    · obtain ⟨a, _⟩ := S.out p (by omega)
      rw [a]; exact ⟨h1, h2, a⟩
  · by_cases hp : p < zs.length
    · exact S.free p hp (by rw [← hc p hp]; exact h2)
    · obtain ⟨a, b⟩ := S.out p (by omega)
      simp [a, b]
  · by_cases hp : p < zs.length
    · obtain ⟨a, b, c⟩ := S.next p q hp (by rw [← hc p hp]; exact h2) h3
      exact ⟨by omega, by rw [hc _ a]; exact b, c⟩
    · obtain ⟨_, b⟩ := S.out p (by omega)
      rw [b] at h3; cases h3
  · obtain ⟨st, hst⟩ := S.down
    refine ⟨st, fun p q h1 h2 h3 => ?_⟩
    by_cases hp : p < zs.length
    · exact hst p q hp (by rw [← hc p hp]; exact h2) h3
    · obtain ⟨_, b⟩ := S.out p (by omega)
      rw [b] at h3; cases h3
  · by_cases hp : p < zs.length
    · have h2' : can zs p = p := by rw [← hc p hp]; exact h2
      obtain ⟨a, _, _⟩ := S.root p hp h2'
      rw [sg_ext hp, sg_ext a]
      exact S.up p hp h2'
    · rw [(S.out p (by omega)).1]; exact Int.le_refl _
theorem hd_ext {zs t : List Int} {h : Nat → Nat} {p : Nat} (hp : p < zs.length) : hd (zs ++ t) h p = hd zs h p := by unfold hd; rw [can_ext hp]
theorem Resp.ext {zs t : List Int} (G : Good zs) {T : Nat → Option Nat} {h : Nat → Nat} (S : St zs T h) {θ : Sb} (R : Resp zs h θ) : Resp (zs ++ t) h θ := fun p hp cp => by
  by_cases h1 : p < zs.length
  · have cp' : can zs p = p := by rw [← can_ext (t := t) h1]; exact cp
    obtain ⟨a, _, _⟩ := S.root p h1 cp'
    rw [cont_ext G h1, cont_ext G a]
    exact R p h1 cp'
  · rw [(S.out p (by omega)).1]
theorem Closed.ext {zs t : List Int} (G : Good zs) {T : Nat → Option Nat} {h : Nat → Nat} (S : St zs T h) (G' : Good (zs ++ t)) (C : Closed zs h []) : Closed (zs ++ t) h [] := fun p q hp hq sp sq e => by
  by_cases h1 : p < zs.length
  · by_cases h2 : q < zs.length
    · rw [sg_ext h1] at sp
      rw [sg_ext h2] at sq
      obtain ⟨e1, e2⟩ := C p q h1 h2 sp sq e
      rw [sg_ext h1, sg_ext h2]
      refine ⟨e1, fun i hi => ?_⟩
      rw [pos_ext G h1 i (by omega), pos_ext G h2 i (by rw [← e1]; omega)]
      have a := kid_lt G h1 hi
      have b := kid_lt G h2 (i := i) (by rw [← e1]; exact hi)
      exact .base _ _ (by rw [List.length_append]; omega) (by rw [List.length_append]; omega) (by rw [hd_ext a, hd_ext b]; exact eqv_nil (e2 i hi))
    · rw [sg_ext h1] at sp
      have := (S.root p h1 (can_pos sp)).1
      rw [e, (S.out q (by omega)).1] at this
      exact absurd this h2
  · by_cases h2 : q < zs.length
    · rw [sg_ext h2] at sq
      have := (S.root q h2 (can_pos sq)).1
      rw [← e, (S.out p (by omega)).1] at this
      exact absurd this h1
    · rw [(S.out p (by omega)).1, (S.out q (by omega)).1] at e
      subst e
      exact ⟨rfl, fun i hi => .base _ _ (kid_lt G' hp hi) (kid_lt G' hp hi) rfl⟩
end Wb

end Go.Proofs.Ytloealnfbpegnab

namespace Go.Proofs.Ytloealnfbpegnab
open Go.Proofs Go.RowKit Go.Shelf Go.Maps

theorem run_append1 (w : World) (ty : TypeId) (base : Nat) (v : Value) (xs : List Int) (hN : New base w v xs) (B : Nat) (y : Int) (hB : w.cell? ⟨B, 0, none⟩ = some (.int .i64 y)) (hlen : xs.length ≤ 1000000) (hbase : base ≤ w.heap.size) :
    ∃ v' w', (Builtin.append_ #[23, 23] ty #[v, .slice (some ⟨B, 0, none⟩) 1 1]).run Try.prog w = .ok v' w' ∧ New base w' v' (xs ++ [y]) ∧ w.grownBy w' v.ownBlock ∧ (v'.ownBlock = v.ownBlock ∨ v'.ownBlock = some w.heap.size) := by
  obtain ⟨i0, hi, hz0, hz1, hz2⟩ := info_parts Try.info3
  have hc : ∀ j u, [Value.int .i64 y][j]? = some u → w.cell? ((⟨B, 0, none⟩ : Addr).add j) = some u := by
    intro j z hj
    match j, hj with
    | 0, hj => simp at hj; subst hj; rw [Go.WideShapes.add_plain]; simpa using hB
  have h1 : ∀ u ∈ [Value.int .i64 y], u.oneCell' = true := by intro z hz; simp at hz; subst hz; rfl
  obtain ⟨v', w', hr, r1, r2, _⟩ := run_append_own (P := Try.prog) w base 23 ty 3 i0 (.int .i64 0) 1 8 Try.underlying23 hi hz0 hz1 hz2 rfl (by decide) v xs.length (xs.map (Value.int .i64)) hN ⟨B, 0, none⟩ 1 1 [.int .i64 y] (by simp) hc h1 (by unfold maxLen; omega) (by omega) hbase
  refine ⟨v', w', hr, by simpa [New] using r1, r2, ?_⟩
  have hsz : i0.size = 1 := hz1
  have hby : i0.bytes = 8 := hz2
  rcases hN.2 with ⟨rfl, h0⟩ | ⟨g, cap, cur, rfl, hbg, hg, hnc, hcm, hcs, htake⟩
  · have hr2 := run_append_nil (P := Try.prog) w 23 ty 3 i0 (.int .i64 0) Try.underlying23 hi hz0 ⟨B, 0, none⟩ 1 1 [.int .i64 y] (by simp [hsz]) hc (by omega) (by omega) (by omega)
    rw [hr] at hr2
    cases hr2
    exact .inr rfl
  · by_cases hroom : xs.length + 1 ≤ cap
    · have hfit : xs.length * i0.size + [Value.int .i64 y].length ≤ cur.size := by rw [hcs, hsz]; simp; omega
      have hr2 := run_append_room (P := Try.prog) w 23 ty 3 i0 Try.underlying23 hi g xs.length cap cur hg ⟨B, 0, none⟩ 1 1 [.int .i64 y] (by simp [hsz]) hc h1 hroom hfit
      rw [hr] at hr2
      cases hr2
      exact .inl rfl
    · have hr2 := run_append_grow (P := Try.prog) w 23 ty 3 i0 (.int .i64 0) Try.underlying23 hi hz0 ⟨g, 0, none⟩ xs.length cap (xs.map (Value.int .i64)) (by simp [hsz]) (World.ownsRow.cells hN (g := g) rfl) ⟨B, 0, none⟩ 1 1 [.int .i64 y] (by simp [hsz]) hc (by omega) (by omega) (growslice_fits (by omega) (by rw [hby]; omega))
      rw [hr] at hr2
      cases hr2
      exact .inr rfl

theorem opi_append1 {F : Fence} {n : Nat} {o : Oper} {a : Act} {K : Act → World → Prop} {Q : Exit → Act → World → Prop} (w : World) (s x : Operand)
    (ho : o.op = .call { callee := .builtin .append, args := #[s, x], argTypes := #[23, 23] }) (base : Nat) (v : Value) (xs : List Int) (hs : a.eval s = v) (hN : New base w v xs)
    (B : Nat) (y : Int) (hx : a.eval x = .slice (some ⟨B, 0, none⟩) 1 1) (hB : w.cell? ⟨B, 0, none⟩ = some (.int .i64 y)) (hlen : xs.length ≤ 1000000) (hbase : base ≤ w.heap.size)
    (h : ∀ v' w', New base w' v' (xs ++ [y]) → w.grownBy w' v.ownBlock → (v'.ownBlock = v.ownBlock ∨ v'.ownBlock = some w.heap.size) → K (a.put o.dst v') w') : Oper.wpIn F n Try.prog o a w K Q := by
  obtain ⟨v', w', hrun, r1, r2, r3⟩ := run_append1 w o.type base v xs hN B y hB hlen hbase
  unfold Oper.wpIn
  refine ⟨?_, ?_⟩
  · simp [Oper.about, ho, resolve, Target.leads, Sem.run_pure]
  · rw [Oper.semAt_plain F _ _ (by rw [ho]; intro c hc'; cases hc')]
    simp [execOp, ho, resolve, invoke, builtin, hs, hx, hrun, Result.andThen]
    exact h v' w' r1 r2 r3

namespace Wb
theorem flat_take_succ (ls : List (List Int)) (i : Nat) (hi : i < ls.length) : (ls.take (i + 1)).flatten = (ls.take i).flatten ++ ls[i]?.getD [] := by
  rw [List.take_add_one, List.getElem?_eq_getElem hi, List.flatten_append]
  simp
theorem flat_take_le (ls : List (List Int)) (i : Nat) : (ls.take i).flatten.length ≤ ls.flatten.length := by
  conv => rhs; rw [← List.take_append_drop i ls, List.flatten_append, List.length_append]
  omega
end Wb

/-- What is told by a panic: too large. -/
def manyChain : List PanicEntry := [{ v := .iface 25 (.int .i64 2), recovered := false }]
/-- What grown leaves: xs with l behind it, or the panic that l is too large; it writes nothing but the list's own block. -/
def GrAns (w w' : World) (base : Nat) (e : Ending) (v : Value) (xs l : List Int) : Prop :=
  w.grownBy w' v.ownBlock ∧ ((xs.length + l.length ≤ 30 ∧ ∃ v', e = .returned v' ∧ New base w' v' (xs ++ l) ∧ ∀ k, v'.ownBlock = some k → v.ownBlock = some k ∨ w.heap.size ≤ k) ∨ (30 < xs.length + l.length ∧ e = .panicked manyChain))

end Go.Proofs.Ytloealnfbpegnab

namespace Go.Proofs.Ytloealnfbpegnab
open Go.Proofs Go.RowKit Go.Shelf Go.Maps

attribute [local go_sem] Oper.semAt_some

/-- What holds ahead of round i of grown. -/
structure GInv (w : World) (Bt Bw Bm b off cap N base : Nat) (zs : List Int) (T : Nat → Option Nat) (v : Value) (ys : List Int) (ls : List (List Int)) (r i : Nat) (W : World) : Prop where
  out : ∃ v1, Boxed W (w.heap.size + 1) 23 v1 ∧ New base W v1 (ys ++ (ls.take i).flatten) ∧ ys.length + (ls.take i).flatten.length ≤ 30 ∧ ∀ k, v1.ownBlock = some k → (v.ownBlock = some k ∨ w.heap.size ≤ k) ∧ k ≠ w.heap.size ∧ k ≠ w.heap.size + 1 ∧ k ≠ Bt ∧ k ≠ Bt + 1
  web : WebAt W Bw Bm (some ⟨b, off, none⟩) cap zs N T
  bW : Boxed W w.heap.size 72 (.pointer (some ⟨Bw, 0, none⟩))
  bK : Boxed W (Bt + 1) 3 (.int .i64 (r : Int))
  bT : Boxed W Bt 23 (.slice (some ⟨b, off, none⟩) zs.length cap)
  gr : w.grownBy W v.ownBlock
theorem own_cells {base : Nat} {X : World} {v : Value} {xs : List Int} {k : Nat} (hN : New base X v xs) (hk : v.ownBlock = some k) : ∃ o : Obj, X.heap[k]? = some o ∧ o.isCells = true := by
  rcases hN.2 with ⟨rfl, _⟩ | ⟨g, cap, cur, rfl, _, hg, _⟩
  · simp [Value.ownBlock] at hk
  · simp [Value.ownBlock] at hk
    subst hk
    exact ⟨_, hg, rfl⟩
theorem New.slice3 {base : Nat} {X : World} {v : Value} {xs : List Int} (hN : New base X v xs) : ∃ a n c, v = .slice a n c := by
  obtain ⟨a, c, e, _⟩ := New.ints hN
  exact ⟨a, _, c, e⟩
theorem keeps_new {base B : Nat} {X Y : World} {v : Value} {xs : List Int} (hN : New base X v xs) (hg : X.grownBy Y v.ownBlock) : KeepsFrom B X Y :=
  ⟨hg.size, fun k o _ ho hc => (hg.block k (Array.getElem?_eq_some_iff.1 ho).1 (fun e => by
    obtain ⟨o', ho', hf'⟩ := own_cells hN e.symm
    rw [ho] at ho'
    cases ho'
    rw [hc] at hf'
    cases hf')).trans ho⟩
theorem New.own {base : Nat} {X Y : World} {v : Value} {xs : List Int} {row : Option Nat} (hN : New base X v xs) (hg : X.grownBy Y row) (hr : ∀ r, row = some r → ∃ o : Obj, X.heap[r]? = some o ∧ o.isCells = false) : New base Y v xs := by
  refine World.ownsRow.kept hN hg ?_
  cases hv : v.ownBlock with
  | none => exact .inl rfl
  | some k =>
    refine .inr fun e => ?_
    obtain ⟨o, ho, hf⟩ := hr k e.symm
    obtain ⟨o', ho', hf'⟩ := own_cells hN hv
    rw [ho] at ho'
    cases ho'
    rw [hf] at hf'
    cases hf'
theorem grown_trans {w X Y : World} {row row' : Option Nat} (h : w.grownBy X row) (h' : X.grownBy Y row') (hr : ∀ k, row' = some k → row = some k ∨ w.heap.size ≤ k) : w.grownBy Y row :=
  ⟨h'.os.trans h.os, h'.tape.trans h.tape, h'.output.trans h.output, Nat.le_trans h.size h'.size, fun k hk hn => (h'.block k (by have := h.size; omega) (fun e => by
    rcases hr k e.symm with h1 | h1
    · exact hn h1.symm
    · omega)).trans (h.block k hk hn)⟩
theorem GInv.own {w : World} {Bt Bw Bm b off cap N base : Nat} {zs : List Int} {T : Nat → Option Nat} {v : Value} {ys : List Int} {ls : List (List Int)} {r B : Nat} (h1 : Bw < w.heap.size) (h2 : Bm < w.heap.size) (h3 : b < w.heap.size) (hB : w.heap.size ≤ B) : OwnFrom B (GInv w Bt Bw Bm b off cap N base zs T v ys ls r) := by
  rintro i X Y row ⟨⟨v1, bO, hN, hl, ho⟩, hweb, bW, bK, bT, hG⟩ hg hrow
  have hbx : ∀ {C : Nat} {t : TypeId} {v : Value}, Boxed X C t v → Boxed Y C t v := fun {C t v} hb => (boxed_own C t (fun _ : Unit => v)).from B () X Y row hb hg hrow
  have hkk : ∀ k, k < w.heap.size → Y.heap[k]? = X.heap[k]? := fun k hk => hg.block k (by have := hG.size; omega) (fun e => by have := (hrow k e.symm).1; omega)
  exact ⟨⟨v1, hbx bO, hN.own hg (fun q e => (hrow q e).2), hl, ho⟩, hweb.of (hkk Bw h1) (hkk Bm h2) (hkk b h3) (by have := hG.size; have := hg.size; omega), hbx bW, hbx bK, hbx bT, grown_trans hG hg fun k e => .inr (by have := (hrow k e).1; omega)⟩

set_option maxRecDepth 100000 in
set_option maxHeartbeats 1000000 in
theorem grown_full (n : Nat) (base Bw p : Nat) (v : Value) (xs l : List Int) (w : World) (hN : New base w v xs) (h30 : xs.length = 30) (hl : 1 ≤ l.length) :
    CallsIn Fx n Try.prog 67 #[.pointer (some ⟨Bw, 0, none⟩), v, .int .i64 (p : Int)] w fun e w' => GrAns w w' base e v xs l := by
  obtain ⟨hro, hfn, hdd⟩ := fx_facts fx_pl
  have hf := hfn _ _ Try.func67
  clear hfn
  have hA : Hid (∀ w', w.grownBy w' v.ownBlock → GrAns w w' base (.panicked manyChain) v xs l) := fun w' hg => ⟨hg, .inr ⟨by omega, rfl⟩⟩
  obtain ⟨a, c, rfl, _⟩ := New.ints hN
  rw [h30] at hA ⊢
  clear hN h30 hl
  refine callsIn_of_wp_marks Try.func67 rfl hf ?_ hro
  simp only [Try.ntmps67, List.size_toArray, List.length_cons, List.length_nil, Nat.reduceAdd, Nat.reduceSub, Array.replicate_succ, Array.replicate_zero, List.push_toArray, List.append_toArray, List.nil_append, List.cons_append]
  gi_wp2
  exact hA.out _ (grown_trans (World.grownBy_alloc w _ _) (World.grownBy_alloc _ _ none) (fun k e => by cases e))

end Go.Proofs.Ytloealnfbpegnab

namespace Go.Proofs.Ytloealnfbpegnab
open Go.Proofs Go.RowKit Go.Shelf Go.Maps

attribute [local go_sem] Oper.semAt_some

set_option maxRecDepth 100000 in
set_option maxHeartbeats 2000000 in
theorem webGrown_step (zs : List Int) (G : Wb.Good zs) (T : Nat → Option Nat) (h : Nat → Nat) (S : Wb.St zs T h) (Bw Bm b off cap N base p : Nat) (ls : List (List Int)) (v : Value) (xs : List Int) (w : World)
    (hW : WebAt w Bw Bm (some ⟨b, off, none⟩) cap zs N T) (hp : p < zs.length) (hN : New base w v xs) (hv : ∀ k, v.ownBlock = some k → k ≠ Bw ∧ k ≠ Bm ∧ k ≠ b) (hbase : base ≤ w.heap.size) (h29 : xs.length ≤ 29) (hls : ls.length = Tm.room (Wb.sg zs (Wb.hd zs h p)))
    (ih : ∀ i, i < Tm.room (Wb.sg zs (Wb.hd zs h p)) → ∀ (v1 : Value) (ys : List Int) (W : World), WebAt W Bw Bm (some ⟨b, off, none⟩) cap zs N T → New base W v1 ys → (∀ k, v1.ownBlock = some k → k ≠ Bw ∧ k ≠ Bm ∧ k ≠ b) → base ≤ W.heap.size → ys.length ≤ 30 →
      CallsIn Fx 3 Try.prog 67 #[.pointer (some ⟨Bw, 0, none⟩), v1, .int .i64 (Tm.pos zs (Wb.hd zs h p) i : Int)] W fun e W' => GrAns W W' base e v1 ys (ls[i]?.getD [])) :
    CallsIn Fx 3 Try.prog 67 #[.pointer (some ⟨Bw, 0, none⟩), v, .int .i64 (p : Int)] w fun e w' => GrAns w w' base e v xs (Wb.sg zs (Wb.hd zs h p) :: ls.flatten) := by
  obtain ⟨F, hF⟩ : ∃ F, F = Fx := ⟨_, rfl⟩
  have HPl : Hid (Pl F) := by rw [hF]; exact fx_pl
  have hall : Hid (∀ fn, F.fn fn → ∃ f, Try.prog.funcs[fn]? = some f) := by rw [hF]; exact fx_all
  rw [← hF]
  rw [← hF] at ih
  clear hF
  obtain ⟨hro, hfn, hdd⟩ := fx_facts HPl.out
  have hf1 := hfn _ _ Try.func67
  have hf2 := hfn _ _ Try.func63
  have hf3 := hfn _ _ Try.func59
  have hf4 := hfn _ _ Try.func69
  clear hfn
  have hl5 := G.len
  have hl5' : (zs.length : Int) ≤ 5000 := by omega
  obtain ⟨wl, ml⟩ := hW.lt
  obtain ⟨hr1, _, _⟩ := Wb.hd_lt G S hp
  have hr1' : (Wb.hd zs h p : Int) < (zs.length : Int) := by omega
  have hbl : b < w.heap.size := by
    obtain ⟨b', off', e, hb, _⟩ := hW.ints.at (by omega)
    cases e
    exact hb
  have hxl : ((xs.length : Int) == 30) = false := by simp; omega
  have hown := fun k (e : v.ownBlock = some k) => (World.ownsRow.lt hN k e).2
  have hB0 : Below w.heap.size w ((w.alloc (.cells #[.pointer (some ⟨Bw, 0, none⟩)] 72)).alloc (.cells #[v] 23)) := ((Below.refl _ w).alloc (Nat.le_refl _) _).alloc (by simp) _
  have bW := (Boxed.new w 72 (.pointer (some ⟨Bw, 0, none⟩))).alloc (.cells #[v] 23)
  have bO := Boxed.new (w.alloc (.cells #[.pointer (some ⟨Bw, 0, none⟩)] 72)) 23 v
  rw [World.size_alloc] at bO
  have hs3 : ((w.alloc (.cells #[.pointer (some ⟨Bw, 0, none⟩)] 72)).alloc (.cells #[v] 23)).heap.size = w.heap.size + 1 + 1 := by simp
  have hH := hid (head_in F HPl.out (3 - 1) zs T h G S Bw Bm _ cap N p hp _ (hW.below hB0))
  have hW0 := hW.below hB0
  have hN0 := hN.below hB0
  obtain ⟨a0, c0, rfl, _⟩ := New.ints hN
  obtain ⟨W3, hW3⟩ : ∃ W3, (w.alloc (.cells #[.pointer (some ⟨Bw, 0, none⟩)] 72)).alloc (.cells #[.slice a0 xs.length c0] 23) = W3 := ⟨_, rfl⟩
  have HW3 := hid hW3
  rw [hW3] at hB0 bW bO hH hW0 hs3 hN0
  have hcW := bW.cell
  have hcO := bO.cell
  have hfO := bO.frozen
  have hc0 := hW0.cell0
  have hcs := WebAt.sgn hW0 hr1
  have hkl := hid (fun i hi => Wb.kid_lt G hr1 (i := i) hi)
  have HN := hid hN
  have HN0 := hid hN0
  have HW := hid hW
  have HW0 := hid hW0
  have Hih := hid ih
  have Hls := hid hls
  have Hv := hid hv
  have Hown := hid hown
  clear hW3 G S hW hN ih hN0 hW0 hls hv hown
  generalize Wb.hd zs h p = r at *
  refine callsIn_of_wp_marks Try.func67 rfl hf1 ?_ hro
  simp only [Try.ntmps67, List.size_toArray, List.length_cons, List.length_nil, Nat.reduceAdd, Nat.reduceSub, Array.replicate_succ, Array.replicate_zero, List.push_toArray, List.append_toArray, List.nil_append, List.cons_append]
  gi_wp2_with (first
    | ((try refine ⟨hdd _, ?_⟩); gi_at_call 63; rw [HW3.out]; refine hH.out.mono ?_; clear hH; rintro e W3 ⟨rfl, rfl⟩))
  have mixed : Try.prog.follows .mixedOrders = true := by kernel_rfl
  have bO' := (show Boxed (W3.alloc (.cells #[.int .i64 (Wb.sg zs r)] 3)).drew (w.heap.size + 1) 23 (.slice a0 xs.length c0) from bO.alloc (.cells #[.int .i64 (Wb.sg zs r)] 3))
  have hs4 : (W3.alloc (.cells #[.int .i64 (Wb.sg zs r)] 3)).drew.heap.size = w.heap.size + 1 + 1 + 1 := by show (W3.alloc (.cells #[.int .i64 (Wb.sg zs r)] 3)).heap.size = _; simp [hs3]
  have hNx := hid (show New base (W3.alloc (.cells #[.int .i64 (Wb.sg zs r)] 3)).drew (.slice a0 xs.length c0) xs from New.alloc HN0.out (.cells #[.int .i64 (Wb.sg zs r)] 3))
  have hcx := hid (show (W3.alloc (.cells #[.int .i64 (Wb.sg zs r)] 3)).drew.cell? ⟨w.heap.size + 1 + 1, 0, none⟩ = some (.int .i64 (Wb.sg zs r)) from by rw [← hs3]; exact (Boxed.new W3 3 (.int .i64 (Wb.sg zs r))).cell)
  have hgr := hid (show ∀ (v1 : Value) (W4 : World), (W3.alloc (.cells #[.int .i64 (Wb.sg zs r)] 3)).drew.grownBy W4 (Value.slice a0 xs.length c0).ownBlock → (v1.ownBlock = (Value.slice a0 xs.length c0).ownBlock ∨ v1.ownBlock = some (W3.alloc (.cells #[.int .i64 (Wb.sg zs r)] 3)).drew.heap.size) →
      W3.grownBy W4 (Value.slice a0 xs.length c0).ownBlock ∧ ∀ k, v1.ownBlock = some k → (Value.slice a0 xs.length c0).ownBlock = some k ∨ w.heap.size + 1 + 1 ≤ k from fun v1 W4 hg1 ho1 => by
    refine ⟨⟨hg1.os, hg1.tape, hg1.output, by have := hg1.size; rw [hs4] at this; omega, fun k hk hn => (hg1.block k (by rw [hs4]; omega) hn).trans (Below.heap_alloc W3 _ k hk)⟩, fun k e => ?_⟩
    rcases ho1 with ho | ho
    · exact .inl (ho ▸ e)
    · rw [ho] at e
      cases e
      exact .inr (by rw [hs4]; omega))
  refine wpIn_mono (Q := fun e a W => e = .normal ∧ ∃ v1 W4 x21 x23, a = { tmps := #[.pointer (some ⟨Bw, 0, none⟩), .slice a0 xs.length c0, .int .i64 (r : Int), .pointer (some ⟨w.heap.size, 0, none⟩), .pointer (some ⟨w.heap.size + 1, 0, none⟩), undef, .slice none 0 0, undef, .slice a0 xs.length c0, .int .i64 (xs.length : Int), .bool false, undef, .pointer (some ⟨Bw, 0, none⟩), .int .i64 (p : Int), .int .i64 (r : Int),
      .slice a0 xs.length c0, .pointer (some ⟨Bw, 0, none⟩), .pointer (some ⟨Bw, 0, none⟩), .pointer (some ⟨Bw, 0, none⟩), .slice (some ⟨b, off, none⟩) zs.length cap, .int .i64 (r : Int), x21, .int .i64 (Wb.sg zs r), x23, v1, undef, undef, undef, undef, undef, undef, undef, undef, undef, undef, undef, undef, undef], defers := [] } ∧ W = W4.setCell ⟨w.heap.size + 1, 0, none⟩ v1 ∧ New base W4 v1 (xs ++ [Wb.sg zs r]) ∧
      W3.grownBy W4 (Value.slice a0 xs.length c0).ownBlock ∧ (∀ k, v1.ownBlock = some k → (Value.slice a0 xs.length c0).ownBlock = some k ∨ w.heap.size + 1 + 1 ≤ k) ∧ Boxed W4 (w.heap.size + 1) 23 (.slice a0 xs.length c0)) ?region ?rest
  case region =>
    refine wpIn_region_any mixed ?_
    change wpAnyIn _ _ _ _ _ _ _ _ _ (World.drew _)
    show wpAnyIn F _ _ _ _ _ 11 (Array.replicate 11 false) _ _
    refine wpAnyIn_take (i := 5) (v := .int .i64 (r : Int)) hro rfl (by kernel_rfl) (by kernel_rfl) (by kernel_rfl) (fun _ _ _ h => absurd h.1 (by simp)) ⟨Or.inl ⟨by rfl, fun w => by go_simp⟩, fun _ => rfl⟩ ?_
    refine wpAnyIn_ready (rs := [0, 1]) (by kernel_rfl) (by simp) ?_
    refine AllReadyIn.cons rfl (fun K hK => ?_) (AllReadyIn.cons rfl (fun K hK => ?_) AllReadyIn.nil)
    · go_simp
      refine hK _ _ ?_
      clear hK K
      refine wpAnyIn_ready (rs := [1]) (by kernel_rfl) (by simp) ?_
      refine AllReadyIn.cons rfl (fun K hK => ?_) AllReadyIn.nil
      go_simp
      refine hK _ _ ?_
      clear hK K
      refine wpAnyIn_ready (rs := [2]) (by kernel_rfl) (by simp) ?_
      refine AllReadyIn.cons rfl (fun K hK => ?_) AllReadyIn.nil
      go_simp
      refine hK _ _ ?_
      clear hK K
      refine wpAnyIn_ready (rs := [3]) (by kernel_rfl) (by simp) ?_
      refine AllReadyIn.cons rfl (fun K hK => ?_) AllReadyIn.nil
      go_simp
      refine hK _ _ ?_
      clear hK K
      refine wpAnyIn_ready (rs := [4]) (by kernel_rfl) (by simp) ?_
      refine AllReadyIn.cons rfl (fun K hK => ?_) AllReadyIn.nil
      go_simp
      refine hK _ _ ?_
      clear hK K
      refine wpAnyIn_ready (rs := [6]) (by kernel_rfl) (by simp) ?_
      refine AllReadyIn.cons rfl (fun K hK => ?_) AllReadyIn.nil
      go_simp
      refine hK _ _ ?_
      clear hK K
      refine wpAnyIn_ready (rs := [7]) (by kernel_rfl) (by simp) ?_
      refine AllReadyIn.cons rfl (fun K hK => ?_) AllReadyIn.nil
      go_simp
      refine hK _ _ ?_
      clear hK K
      refine wpAnyIn_ready (rs := [8]) (by kernel_rfl) (by simp) ?_
      refine AllReadyIn.cons rfl (fun K hK => ?_) AllReadyIn.nil
      go_simp
      refine hK _ _ ?_
      clear hK K
      refine wpAnyIn_ready (rs := [9]) (by kernel_rfl) (by simp) ?_
      refine AllReadyIn.cons rfl (fun K hK => ?_) AllReadyIn.nil
      rw [if_pos (by rfl)]
      refine opi_append1 _ _ _ rfl base _ xs rfl hNx.out (w.heap.size + 1 + 1) (Wb.sg zs r) rfl hcx.out (by omega) (by rw [hs4]; omega) ?_
      intro v1 W4 hN1 hg1 ho1
      refine hK _ _ ?_
      clear hK K
      have bO4 : Boxed W4 (w.heap.size + 1) 23 (.slice a0 xs.length c0) := (hg1.block _ (by rw [hs4]; omega) (fun e => by have := Hown.out _ e.symm; omega)).trans bO'
      have cO4 := bO4.cell
      have fO4 := bO4.frozen
      obtain ⟨a1, n1, c1, rfl⟩ := hN1.slice3
      refine wpAnyIn_ready (rs := [10]) (by kernel_rfl) (by simp) ?_
      refine AllReadyIn.cons rfl (fun K hK => ?_) AllReadyIn.nil
      go_simp
      refine hK _ _ ?_
      clear hK K
      refine wpAnyIn_done (by kernel_rfl) ?_ _
      exact ⟨rfl, .slice a1 n1 c1, W4, _, _, rfl, rfl, hN1, (hgr.out _ W4 hg1 ho1).1, (hgr.out _ W4 hg1 ho1).2, bO4⟩
    · go_simp
      refine hK _ _ ?_
      clear hK K
      refine wpAnyIn_ready (rs := [0, 2]) (by kernel_rfl) (by simp) ?_
      refine AllReadyIn.cons rfl (fun K hK => ?_) (AllReadyIn.cons rfl (fun K hK => ?_) AllReadyIn.nil)
      · go_simp
        refine hK _ _ ?_
        clear hK K
        refine wpAnyIn_ready (rs := [2]) (by kernel_rfl) (by simp) ?_
        refine AllReadyIn.cons rfl (fun K hK => ?_) AllReadyIn.nil
        go_simp
        refine hK _ _ ?_
        clear hK K
        refine wpAnyIn_ready (rs := [3]) (by kernel_rfl) (by simp) ?_
        refine AllReadyIn.cons rfl (fun K hK => ?_) AllReadyIn.nil
        go_simp
        refine hK _ _ ?_
        clear hK K
        refine wpAnyIn_ready (rs := [4]) (by kernel_rfl) (by simp) ?_
        refine AllReadyIn.cons rfl (fun K hK => ?_) AllReadyIn.nil
        go_simp
        refine hK _ _ ?_
        clear hK K
        refine wpAnyIn_ready (rs := [6]) (by kernel_rfl) (by simp) ?_
        refine AllReadyIn.cons rfl (fun K hK => ?_) AllReadyIn.nil
        go_simp
        refine hK _ _ ?_
        clear hK K
        refine wpAnyIn_ready (rs := [7]) (by kernel_rfl) (by simp) ?_
        refine AllReadyIn.cons rfl (fun K hK => ?_) AllReadyIn.nil
        go_simp
        refine hK _ _ ?_
        clear hK K
        refine wpAnyIn_ready (rs := [8]) (by kernel_rfl) (by simp) ?_
        refine AllReadyIn.cons rfl (fun K hK => ?_) AllReadyIn.nil
        go_simp
        refine hK _ _ ?_
        clear hK K
        refine wpAnyIn_ready (rs := [9]) (by kernel_rfl) (by simp) ?_
        refine AllReadyIn.cons rfl (fun K hK => ?_) AllReadyIn.nil
        rw [if_pos (by rfl)]
        refine opi_append1 _ _ _ rfl base _ xs rfl hNx.out (w.heap.size + 1 + 1) (Wb.sg zs r) rfl hcx.out (by omega) (by rw [hs4]; omega) ?_
        intro v1 W4 hN1 hg1 ho1
        refine hK _ _ ?_
        clear hK K
        have bO4 : Boxed W4 (w.heap.size + 1) 23 (.slice a0 xs.length c0) := (hg1.block _ (by rw [hs4]; omega) (fun e => by have := Hown.out _ e.symm; omega)).trans bO'
        have cO4 := bO4.cell
        have fO4 := bO4.frozen
        obtain ⟨a1, n1, c1, rfl⟩ := hN1.slice3
        refine wpAnyIn_ready (rs := [10]) (by kernel_rfl) (by simp) ?_
        refine AllReadyIn.cons rfl (fun K hK => ?_) AllReadyIn.nil
        go_simp
        refine hK _ _ ?_
        clear hK K
        refine wpAnyIn_done (by kernel_rfl) ?_ _
        exact ⟨rfl, .slice a1 n1 c1, W4, _, _, rfl, rfl, hN1, (hgr.out _ W4 hg1 ho1).1, (hgr.out _ W4 hg1 ho1).2, bO4⟩
      · go_simp
        refine hK _ _ ?_
        clear hK K
        refine wpAnyIn_ready (rs := [0, 3]) (by kernel_rfl) (by simp) ?_
        refine AllReadyIn.cons rfl (fun K hK => ?_) (AllReadyIn.cons rfl (fun K hK => ?_) AllReadyIn.nil)
        · go_simp
          refine hK _ _ ?_
          clear hK K
          refine wpAnyIn_ready (rs := [3]) (by kernel_rfl) (by simp) ?_
          refine AllReadyIn.cons rfl (fun K hK => ?_) AllReadyIn.nil
          go_simp
          refine hK _ _ ?_
          clear hK K
          refine wpAnyIn_ready (rs := [4]) (by kernel_rfl) (by simp) ?_
          refine AllReadyIn.cons rfl (fun K hK => ?_) AllReadyIn.nil
          go_simp
          refine hK _ _ ?_
          clear hK K
          refine wpAnyIn_ready (rs := [6]) (by kernel_rfl) (by simp) ?_
          refine AllReadyIn.cons rfl (fun K hK => ?_) AllReadyIn.nil
          go_simp
          refine hK _ _ ?_
          clear hK K
          refine wpAnyIn_ready (rs := [7]) (by kernel_rfl) (by simp) ?_
          refine AllReadyIn.cons rfl (fun K hK => ?_) AllReadyIn.nil
          go_simp
          refine hK _ _ ?_
          clear hK K
          refine wpAnyIn_ready (rs := [8]) (by kernel_rfl) (by simp) ?_
          refine AllReadyIn.cons rfl (fun K hK => ?_) AllReadyIn.nil
          go_simp
          refine hK _ _ ?_
          clear hK K
          refine wpAnyIn_ready (rs := [9]) (by kernel_rfl) (by simp) ?_
          refine AllReadyIn.cons rfl (fun K hK => ?_) AllReadyIn.nil
          rw [if_pos (by rfl)]
          refine opi_append1 _ _ _ rfl base _ xs rfl hNx.out (w.heap.size + 1 + 1) (Wb.sg zs r) rfl hcx.out (by omega) (by rw [hs4]; omega) ?_
          intro v1 W4 hN1 hg1 ho1
          refine hK _ _ ?_
          clear hK K
          have bO4 : Boxed W4 (w.heap.size + 1) 23 (.slice a0 xs.length c0) := (hg1.block _ (by rw [hs4]; omega) (fun e => by have := Hown.out _ e.symm; omega)).trans bO'
          have cO4 := bO4.cell
          have fO4 := bO4.frozen
          obtain ⟨a1, n1, c1, rfl⟩ := hN1.slice3
          refine wpAnyIn_ready (rs := [10]) (by kernel_rfl) (by simp) ?_
          refine AllReadyIn.cons rfl (fun K hK => ?_) AllReadyIn.nil
          go_simp
          refine hK _ _ ?_
          clear hK K
          refine wpAnyIn_done (by kernel_rfl) ?_ _
          exact ⟨rfl, .slice a1 n1 c1, W4, _, _, rfl, rfl, hN1, (hgr.out _ W4 hg1 ho1).1, (hgr.out _ W4 hg1 ho1).2, bO4⟩
        · go_simp
          refine hK _ _ ?_
          clear hK K
          refine wpAnyIn_ready (rs := [0, 4]) (by kernel_rfl) (by simp) ?_
          refine AllReadyIn.cons rfl (fun K hK => ?_) (AllReadyIn.cons rfl (fun K hK => ?_) AllReadyIn.nil)
          · go_simp
            refine hK _ _ ?_
            clear hK K
            refine wpAnyIn_ready (rs := [4]) (by kernel_rfl) (by simp) ?_
            refine AllReadyIn.cons rfl (fun K hK => ?_) AllReadyIn.nil
            go_simp
            refine hK _ _ ?_
            clear hK K
            refine wpAnyIn_ready (rs := [6]) (by kernel_rfl) (by simp) ?_
            refine AllReadyIn.cons rfl (fun K hK => ?_) AllReadyIn.nil
            go_simp
            refine hK _ _ ?_
            clear hK K
            refine wpAnyIn_ready (rs := [7]) (by kernel_rfl) (by simp) ?_
            refine AllReadyIn.cons rfl (fun K hK => ?_) AllReadyIn.nil
            go_simp
            refine hK _ _ ?_
            clear hK K
            refine wpAnyIn_ready (rs := [8]) (by kernel_rfl) (by simp) ?_
            refine AllReadyIn.cons rfl (fun K hK => ?_) AllReadyIn.nil
            go_simp
            refine hK _ _ ?_
            clear hK K
            refine wpAnyIn_ready (rs := [9]) (by kernel_rfl) (by simp) ?_
            refine AllReadyIn.cons rfl (fun K hK => ?_) AllReadyIn.nil
            rw [if_pos (by rfl)]
            refine opi_append1 _ _ _ rfl base _ xs rfl hNx.out (w.heap.size + 1 + 1) (Wb.sg zs r) rfl hcx.out (by omega) (by rw [hs4]; omega) ?_
            intro v1 W4 hN1 hg1 ho1
            refine hK _ _ ?_
            clear hK K
            have bO4 : Boxed W4 (w.heap.size + 1) 23 (.slice a0 xs.length c0) := (hg1.block _ (by rw [hs4]; omega) (fun e => by have := Hown.out _ e.symm; omega)).trans bO'
            have cO4 := bO4.cell
            have fO4 := bO4.frozen
            obtain ⟨a1, n1, c1, rfl⟩ := hN1.slice3
            refine wpAnyIn_ready (rs := [10]) (by kernel_rfl) (by simp) ?_
            refine AllReadyIn.cons rfl (fun K hK => ?_) AllReadyIn.nil
            go_simp
            refine hK _ _ ?_
            clear hK K
            refine wpAnyIn_done (by kernel_rfl) ?_ _
            exact ⟨rfl, .slice a1 n1 c1, W4, _, _, rfl, rfl, hN1, (hgr.out _ W4 hg1 ho1).1, (hgr.out _ W4 hg1 ho1).2, bO4⟩
          · go_simp
            refine hK _ _ ?_
            clear hK K
            refine wpAnyIn_ready (rs := [0, 6]) (by kernel_rfl) (by simp) ?_
            refine AllReadyIn.cons rfl (fun K hK => ?_) (AllReadyIn.cons rfl (fun K hK => ?_) AllReadyIn.nil)
            · go_simp
              refine hK _ _ ?_
              clear hK K
              refine wpAnyIn_ready (rs := [6]) (by kernel_rfl) (by simp) ?_
              refine AllReadyIn.cons rfl (fun K hK => ?_) AllReadyIn.nil
              go_simp
              refine hK _ _ ?_
              clear hK K
              refine wpAnyIn_ready (rs := [7]) (by kernel_rfl) (by simp) ?_
              refine AllReadyIn.cons rfl (fun K hK => ?_) AllReadyIn.nil
              go_simp
              refine hK _ _ ?_
              clear hK K
              refine wpAnyIn_ready (rs := [8]) (by kernel_rfl) (by simp) ?_
              refine AllReadyIn.cons rfl (fun K hK => ?_) AllReadyIn.nil
              go_simp
              refine hK _ _ ?_
              clear hK K
              refine wpAnyIn_ready (rs := [9]) (by kernel_rfl) (by simp) ?_
              refine AllReadyIn.cons rfl (fun K hK => ?_) AllReadyIn.nil
              rw [if_pos (by rfl)]
              refine opi_append1 _ _ _ rfl base _ xs rfl hNx.out (w.heap.size + 1 + 1) (Wb.sg zs r) rfl hcx.out (by omega) (by rw [hs4]; omega) ?_
              intro v1 W4 hN1 hg1 ho1
              refine hK _ _ ?_
              clear hK K
              have bO4 : Boxed W4 (w.heap.size + 1) 23 (.slice a0 xs.length c0) := (hg1.block _ (by rw [hs4]; omega) (fun e => by have := Hown.out _ e.symm; omega)).trans bO'
              have cO4 := bO4.cell
              have fO4 := bO4.frozen
              obtain ⟨a1, n1, c1, rfl⟩ := hN1.slice3
              refine wpAnyIn_ready (rs := [10]) (by kernel_rfl) (by simp) ?_
              refine AllReadyIn.cons rfl (fun K hK => ?_) AllReadyIn.nil
              go_simp
              refine hK _ _ ?_
              clear hK K
              refine wpAnyIn_done (by kernel_rfl) ?_ _
              exact ⟨rfl, .slice a1 n1 c1, W4, _, _, rfl, rfl, hN1, (hgr.out _ W4 hg1 ho1).1, (hgr.out _ W4 hg1 ho1).2, bO4⟩
            · go_simp
              refine hK _ _ ?_
              clear hK K
              refine wpAnyIn_ready (rs := [0, 7]) (by kernel_rfl) (by simp) ?_
              refine AllReadyIn.cons rfl (fun K hK => ?_) (AllReadyIn.cons rfl (fun K hK => ?_) AllReadyIn.nil)
              · go_simp
                refine hK _ _ ?_
                clear hK K
                refine wpAnyIn_ready (rs := [7]) (by kernel_rfl) (by simp) ?_
                refine AllReadyIn.cons rfl (fun K hK => ?_) AllReadyIn.nil
                go_simp
                refine hK _ _ ?_
                clear hK K
                refine wpAnyIn_ready (rs := [8]) (by kernel_rfl) (by simp) ?_
                refine AllReadyIn.cons rfl (fun K hK => ?_) AllReadyIn.nil
                go_simp
                refine hK _ _ ?_
                clear hK K
                refine wpAnyIn_ready (rs := [9]) (by kernel_rfl) (by simp) ?_
                refine AllReadyIn.cons rfl (fun K hK => ?_) AllReadyIn.nil
                rw [if_pos (by rfl)]
                refine opi_append1 _ _ _ rfl base _ xs rfl hNx.out (w.heap.size + 1 + 1) (Wb.sg zs r) rfl hcx.out (by omega) (by rw [hs4]; omega) ?_
                intro v1 W4 hN1 hg1 ho1
                refine hK _ _ ?_
                clear hK K
                have bO4 : Boxed W4 (w.heap.size + 1) 23 (.slice a0 xs.length c0) := (hg1.block _ (by rw [hs4]; omega) (fun e => by have := Hown.out _ e.symm; omega)).trans bO'
                have cO4 := bO4.cell
                have fO4 := bO4.frozen
                obtain ⟨a1, n1, c1, rfl⟩ := hN1.slice3
                refine wpAnyIn_ready (rs := [10]) (by kernel_rfl) (by simp) ?_
                refine AllReadyIn.cons rfl (fun K hK => ?_) AllReadyIn.nil
                go_simp
                refine hK _ _ ?_
                clear hK K
                refine wpAnyIn_done (by kernel_rfl) ?_ _
                exact ⟨rfl, .slice a1 n1 c1, W4, _, _, rfl, rfl, hN1, (hgr.out _ W4 hg1 ho1).1, (hgr.out _ W4 hg1 ho1).2, bO4⟩
              · go_simp
                refine hK _ _ ?_
                clear hK K
                refine wpAnyIn_ready (rs := [0, 8]) (by kernel_rfl) (by simp) ?_
                refine AllReadyIn.cons rfl (fun K hK => ?_) (AllReadyIn.cons rfl (fun K hK => ?_) AllReadyIn.nil)
                · go_simp
                  refine hK _ _ ?_
                  clear hK K
                  refine wpAnyIn_ready (rs := [8]) (by kernel_rfl) (by simp) ?_
                  refine AllReadyIn.cons rfl (fun K hK => ?_) AllReadyIn.nil
                  go_simp
                  refine hK _ _ ?_
                  clear hK K
                  refine wpAnyIn_ready (rs := [9]) (by kernel_rfl) (by simp) ?_
                  refine AllReadyIn.cons rfl (fun K hK => ?_) AllReadyIn.nil
                  rw [if_pos (by rfl)]
                  refine opi_append1 _ _ _ rfl base _ xs rfl hNx.out (w.heap.size + 1 + 1) (Wb.sg zs r) rfl hcx.out (by omega) (by rw [hs4]; omega) ?_
                  intro v1 W4 hN1 hg1 ho1
                  refine hK _ _ ?_
                  clear hK K
                  have bO4 : Boxed W4 (w.heap.size + 1) 23 (.slice a0 xs.length c0) := (hg1.block _ (by rw [hs4]; omega) (fun e => by have := Hown.out _ e.symm; omega)).trans bO'
                  have cO4 := bO4.cell
                  have fO4 := bO4.frozen
                  obtain ⟨a1, n1, c1, rfl⟩ := hN1.slice3
                  refine wpAnyIn_ready (rs := [10]) (by kernel_rfl) (by simp) ?_
                  refine AllReadyIn.cons rfl (fun K hK => ?_) AllReadyIn.nil
                  go_simp
                  refine hK _ _ ?_
                  clear hK K
                  refine wpAnyIn_done (by kernel_rfl) ?_ _
                  exact ⟨rfl, .slice a1 n1 c1, W4, _, _, rfl, rfl, hN1, (hgr.out _ W4 hg1 ho1).1, (hgr.out _ W4 hg1 ho1).2, bO4⟩
                · go_simp
                  refine hK _ _ ?_
                  clear hK K
                  refine wpAnyIn_ready (rs := [0]) (by kernel_rfl) (by simp) ?_
                  refine AllReadyIn.cons rfl (fun K hK => ?_) AllReadyIn.nil
                  go_simp
                  refine hK _ _ ?_
                  clear hK K
                  refine wpAnyIn_ready (rs := [9]) (by kernel_rfl) (by simp) ?_
                  refine AllReadyIn.cons rfl (fun K hK => ?_) AllReadyIn.nil
                  rw [if_pos (by rfl)]
                  refine opi_append1 _ _ _ rfl base _ xs rfl hNx.out (w.heap.size + 1 + 1) (Wb.sg zs r) rfl hcx.out (by omega) (by rw [hs4]; omega) ?_
                  intro v1 W4 hN1 hg1 ho1
                  refine hK _ _ ?_
                  clear hK K
                  have bO4 : Boxed W4 (w.heap.size + 1) 23 (.slice a0 xs.length c0) := (hg1.block _ (by rw [hs4]; omega) (fun e => by have := Hown.out _ e.symm; omega)).trans bO'
                  have cO4 := bO4.cell
                  have fO4 := bO4.frozen
                  obtain ⟨a1, n1, c1, rfl⟩ := hN1.slice3
                  refine wpAnyIn_ready (rs := [10]) (by kernel_rfl) (by simp) ?_
                  refine AllReadyIn.cons rfl (fun K hK => ?_) AllReadyIn.nil
                  go_simp
                  refine hK _ _ ?_
                  clear hK K
                  refine wpAnyIn_done (by kernel_rfl) ?_ _
                  exact ⟨rfl, .slice a1 n1 c1, W4, _, _, rfl, rfl, hN1, (hgr.out _ W4 hg1 ho1).1, (hgr.out _ W4 hg1 ho1).2, bO4⟩
  case rest =>
    rintro e a W ⟨rfl, v1, W4, x21, x23, rfl, rfl, hN1, hg1, ho1, bO4⟩
    obtain ⟨W5, hW5⟩ : ∃ W5, W4.setCell ⟨w.heap.size + 1, 0, none⟩ v1 = W5 := ⟨_, rfl⟩
    have bO5 : Boxed W5 (w.heap.size + 1) 23 v1 := hW5 ▸ bO4.set v1
    have g5 : W4.grownBy W5 (some (w.heap.size + 1)) := hW5 ▸ grownBy_setCell1 W4 _ 0 _
    have hz4 := hg1.size
    have hz5 := g5.size
    have hown1 : ∀ k, v1.ownBlock = some k → ((Value.slice a0 xs.length c0).ownBlock = some k ∨ w.heap.size ≤ k) ∧ k ≠ w.heap.size ∧ k ≠ w.heap.size + 1 ∧ k < W4.heap.size := fun k e => by
      have h1 := (World.ownsRow.lt hN1 k e).2
      rcases ho1 k e with h2 | h2
      · have h3 := Hown.out k h2
        exact ⟨.inl h2, by omega, by omega, h1⟩
      · exact ⟨.inr (by omega), by omega, by omega, h1⟩
    have hN5 : New base W5 v1 (xs ++ [Wb.sg zs r]) := World.ownsRow.kept hN1 g5 (by
      cases hv : v1.ownBlock with
      | none => exact .inl rfl
      | some k => exact .inr (by have := hown1 k hv; simp; omega))
    have hkk : ∀ k, k < w.heap.size → some k ≠ (Value.slice a0 xs.length c0).ownBlock → W5.heap[k]? = W3.heap[k]? := fun k hk hn => (g5.block k (by omega) (by simp; omega)).trans (hg1.block k (by omega) hn)
    have bW5 : Boxed W5 w.heap.size 72 (.pointer (some ⟨Bw, 0, none⟩)) := (g5.block _ (by omega) (by simp)).trans ((hg1.block _ (by omega) (fun e => by have := Hown.out _ e.symm; omega)).trans bW)
    have hWb5 : WebAt W5 Bw Bm (some ⟨b, off, none⟩) cap zs N T := HW0.out.of (hkk Bw wl (fun e => (Hv.out _ e.symm).1 rfl)) (hkk Bm ml (fun e => (Hv.out _ e.symm).2.1 rfl)) (hkk b hbl (fun e => (Hv.out _ e.symm).2.2 rfl)) (by omega)
    have gr5 : w.grownBy W5 (Value.slice a0 xs.length c0).ownBlock := ⟨(g5.os.trans hg1.os).trans hB0.os, (g5.tape.trans hg1.tape).trans hB0.tape, (g5.output.trans hg1.output).trans hB0.output, by omega, fun k hk hn => (hkk k hk hn).trans (hB0.block k hk)⟩
    have d1 := bW5.cell
    have d2 := hWb5.cell0
    rw [hW5]
    clear hW5 g5 hg1 hkk bO4 hN1 ho1 bO bW hB0 hcW hcO hfO hc0 hcs HW3 HN0 HW0 bO' hs4 hNx hcx hgr
    gi_wp2_with (first
      | ((try refine ⟨hdd _, ?_⟩); gi_at_call 59; refine (partsx_in F HPl.out _ _ _ _ _ _).mono ?_; rintro e w' ⟨rfl, rfl⟩))
    have hs6 : ((W5.alloc (.cells #[.slice (some ⟨b, off, none⟩) zs.length cap] 23)).alloc (.cells #[.int .i64 (r : Int)] 3)).heap.size = W5.heap.size + 1 + 1 := by simp
    have bT6 := (Boxed.new W5 23 (.slice (some ⟨b, off, none⟩) zs.length cap)).alloc (.cells #[.int .i64 (r : Int)] 3)
    have bK6 := Boxed.new (W5.alloc (.cells #[.slice (some ⟨b, off, none⟩) zs.length cap] 23)) 3 (.int .i64 (r : Int))
    rw [World.size_alloc] at bK6
    have bW6 := (bW5.alloc (.cells #[.slice (some ⟨b, off, none⟩) zs.length cap] 23)).alloc (.cells #[.int .i64 (r : Int)] 3)
    have bO6 := (bO5.alloc (.cells #[.slice (some ⟨b, off, none⟩) zs.length cap] 23)).alloc (.cells #[.int .i64 (r : Int)] 3)
    have hB56 : Below W5.heap.size W5 ((W5.alloc (.cells #[.slice (some ⟨b, off, none⟩) zs.length cap] 23)).alloc (.cells #[.int .i64 (r : Int)] 3)) := ((Below.refl _ W5).alloc (Nat.le_refl _) _).alloc (by simp) _
    refine wpIn_rangeSteps hro (by omega) (gf := 69) (lb := #[.pointer (some ⟨W5.heap.size + 1, 0, none⟩), .pointer (some ⟨W5.heap.size, 0, none⟩)]) rfl hf4 (enters_of Try.func69 (by kernel_rfl) rfl)
      (parts_steps F HPl.out _ (W5.heap.size + 1) W5.heap.size r cap (some ⟨b, off, none⟩) zs hl5 hr1 (ends_beyond F HPl.out zs hl5 _ cap r)) (fun _ => rfl)
      (GInv w W5.heap.size Bw Bm b off cap N base zs T (.slice a0 xs.length c0) (xs ++ [Wb.sg zs r]) ls r)
      (fun _ _ => False) (fun ch W => ch = manyChain ∧ 30 < xs.length + (Wb.sg zs r :: ls.flatten).length ∧ w.grownBy W (Value.slice a0 xs.length c0).ownBlock) (.inr hall.out)
      (GInv.own wl ml hbl (by rw [hs6]; omega))
      (fun _ _ _ _ h _ _ => h)
      (fun i W hI => ⟨hI.bK.cell, hI.bT.cell, hI.web.ints⟩)
      ⟨⟨v1, bO6, by simpa using hN5.below hB56, by simp; omega, fun k e => by have := hown1 k e; exact ⟨this.1, this.2.1, this.2.2.1, by omega, by omega⟩⟩, hWb5.below hB56, bW6, bK6, bT6, grown_trans gr5 ⟨hB56.os, hB56.tape, hB56.output, hB56.size, fun k hk _ => hB56.block k hk⟩ (row' := none) (fun k e => by cases e)⟩
      (fun i => { tmps := #[.pointer (some ⟨Bw, 0, none⟩), .slice a0 xs.length c0, .int .i64 (r : Int), .pointer (some ⟨w.heap.size, 0, none⟩), .pointer (some ⟨w.heap.size + 1, 0, none⟩), undef, .slice none 0 0, .int .i64 (Tm.pos zs r i : Int), .slice a0 xs.length c0, .int .i64 (xs.length : Int), .bool false, undef, .pointer (some ⟨Bw, 0, none⟩), .int .i64 (p : Int), .int .i64 (r : Int),
        .slice a0 xs.length c0, .pointer (some ⟨Bw, 0, none⟩), .pointer (some ⟨Bw, 0, none⟩), .pointer (some ⟨Bw, 0, none⟩), .slice (some ⟨b, off, none⟩) zs.length cap, .int .i64 (r : Int), x21, .int .i64 (Wb.sg zs r), x23, v1, .pointer (some ⟨Bw, 0, none⟩), .pointer (some ⟨Bw, 0, none⟩), .pointer (some ⟨Bw, 0, none⟩), .slice (some ⟨b, off, none⟩) zs.length cap, .int .i64 (r : Int),
        .func (.func 69) #[] #[.pointer (some ⟨W5.heap.size + 1, 0, none⟩), .pointer (some ⟨W5.heap.size, 0, none⟩)], .int .i64 (Tm.pos zs r i : Int), .int .i64 (Tm.pos zs r (i + 1) : Int), undef, undef, undef, undef, undef], defers := [] }) ?assign ?body ?done ?stop ?panic
    case assign =>
      intro l i W K hK
      simp only [encPart]
      gi_wp2
      exact hK
    case body =>
      rintro l i W ⟨⟨v2, bO, hN2, hl2, ho2⟩, hweb, bW, bK, bT, hG⟩ hi
      have hi' : i < Tm.room (Wb.sg zs r) := hi
      have hzw := hG.size
      have hnew := World.ownsRow.lt hN2
      have hC := fx_any HPl.out (m := 0) (Hih.out i hi' v2 _ W hweb hN2 (fun k e => by
        rcases (ho2 k e).1 with h1 | h1
        · exact Hv.out k h1
        · exact ⟨by omega, by omega, by omega⟩) (by omega) (by rw [List.length_append]; exact hl2))
      have hCt := hid (CallsIn.inRound l hC)
      have hlt : i < ls.length := by rw [Hls.out]; exact hi'
      have hfl := Wb.flat_take_succ ls i hlt
      have hfe := Wb.flat_take_le ls (i + 1)
      have hfn := congrArg List.length hfl
      rw [List.length_append] at hfn
      have Hfl := hid hfl
      have Hfn := hid hfn
      have Hfe := hid hfe
      have e1 := bW.cell
      have e2 := bO.cell
      have hbx : ∀ {C : Nat} {t : TypeId} {x : Value}, Boxed W C t x → C = w.heap.size ∨ C = w.heap.size + 1 ∨ C = W5.heap.size ∨ C = W5.heap.size + 1 → ∀ W1 : World, W.grownBy W1 v2.ownBlock → Boxed W1 C t x := fun {C t x} hb hc W1 hg => (hg.block C hb.lt (fun e => by have := ho2 C e.symm; omega)).trans hb
      clear hC hfl hfn hfe
      gi_wp2_with (first
        | ((try refine ⟨hdd _, ?_⟩); gi_at_call 67; refine hCt.out.mono ?_; clear hCt; rintro e W1 ⟨hg, (⟨hle, v3, rfl, hN3, ho3⟩ | ⟨hgt, rfl⟩)⟩; (have bO1 := hbx bO (by omega) W1 hg; have cO1 := bO1.cell; have fO1 := bO1.frozen; obtain ⟨a3, n3, c3, rfl⟩ := hN3.slice3)))
      · have hkf : KeepsFrom (W5.heap.size + 1 + 1) W W1 := keeps_new hN2 hg
        have hno : ∀ k, k < w.heap.size → k = Bw ∨ k = Bm ∨ k = b → W1.heap[k]? = W.heap[k]? := fun k hk hc => hg.block k (by omega) (fun e => by
          rcases (ho2 k e.symm).1 with h1 | h1
          · have := Hv.out k h1; omega
          · omega)
        have hset : ∀ k, k ≠ w.heap.size + 1 → (W1.setCell ⟨w.heap.size + 1, 0, none⟩ (.slice a3 n3 c3)).heap[k]? = W1.heap[k]? := fun k hk => Below.heap_setCell W1 ⟨w.heap.size + 1, 0, none⟩ _ k hk
        have hsz := hg.size
        have hsc := (KeepsWalks.setCell W1 ⟨w.heap.size + 1, 0, none⟩ (.slice a3 n3 c3)).size
        have hol := bO.lt
        have hkl2 := bK.lt
        have ho3' : ∀ k, (Value.slice a3 n3 c3).ownBlock = some k → ((Value.slice a0 xs.length c0).ownBlock = some k ∨ w.heap.size ≤ k) ∧ k ≠ w.heap.size ∧ k ≠ w.heap.size + 1 ∧ k ≠ W5.heap.size ∧ k ≠ W5.heap.size + 1 := fun k e => by
          rcases ho3 k e with h1 | h1
          · exact ho2 k h1
          · exact ⟨.inr (by omega), by omega, by omega, by omega, by omega⟩
        rw [hs6]
        refine ⟨hkf.trans ((KeepsOthers.setCell _ _ _).from _), ⟨_, bO1.set _, ?_, ?_, ho3'⟩, hweb.of ((hset Bw (by omega)).trans (hno Bw wl (by omega))) ((hset Bm (by omega)).trans (hno Bm ml (by omega))) ((hset b (by omega)).trans (hno b hbl (by omega))) (by omega), (hbx bW (by omega) W1 hg).other (by omega) _, (hbx bK (by omega) W1 hg).other (by omega) _, (hbx bT (by omega) W1 hg).other (by omega) _, ?_⟩
        · rw [Hfl.out, ← List.append_assoc]
          refine World.ownsRow.kept hN3 (grownBy_setCell1 W1 (w.heap.size + 1) 0 _) ?_
          cases hv : (Value.slice a3 n3 c3).ownBlock with
          | none => exact .inl rfl
          | some k => exact .inr (by have := ho3' k hv; simp; omega)
        · rw [Hfn.out]
          rw [List.length_append] at hle
          omega
        · exact grown_trans (grown_trans hG hg (fun k e => (ho2 k e).1)) (grownBy_setCell1 W1 (w.heap.size + 1) 0 _) (fun k e => by cases e; exact .inr (by omega))
      · refine ⟨rfl, keeps_new hN2 hg, rfl, ?_, grown_trans hG hg (fun k e => (ho2 k e).1)⟩
        have h1 := Hfn.out
        have h2 := Hfe.out
        simp only [List.length_append, List.length_cons, List.length_nil] at hgt ⊢
        omega
    case done =>
      rintro D W hD ⟨⟨v2, bO, hN2, hl2, ho2⟩, hweb, bW, bK, bT, hG⟩ hDd
      have e2 := bO.cell
      rw [hs6] at hD
      have hroom : Hid (ls.take (Tm.room (zs[r]?.getD 0)) = ls) := List.take_of_length_le (by rw [Hls.out]; exact Nat.le_refl _)
      have hgD : W.grownBy (W.putObj D (.deferred none)) (some D) := ⟨rfl, rfl, rfl, by simp, fun k _ hn => World.putObj_heap_other (by simpa using hn)⟩
      gi_wp2
      refine ⟨by simp, .inl ⟨_, _, rfl, run_takeDeferred hDd, ?_⟩⟩
      rw [hroom.out] at hN2 hl2
      refine ⟨_, results_tmp rfl _ _ _, grown_trans hG hgD (fun k e => by cases e; exact .inr (by omega)), .inl ⟨?_, v2, rfl, ?_, fun k e => (ho2 k e).1⟩⟩
      · simp only [List.length_append, List.length_cons, List.length_nil] at hl2 ⊢
        omega
      · have := hN2.own hgD (fun q e => by cases e; exact ⟨_, hDd, rfl⟩)
        rw [List.append_assoc] at this
        exact this
    case stop => exact fun _ _ _ _ h => h.elim
    case panic =>
      rintro D ch W hD ⟨rfl, hgt, hG⟩ hDd
      rw [hs6] at hD
      have hgD : W.grownBy (W.putObj D (.deferred none)) (some D) := ⟨rfl, rfl, rfl, by simp, fun k _ hn => World.putObj_heap_other (by simpa using hn)⟩
      refine ⟨by simp, .inl ⟨_, _, rfl, run_takeDeferred hDd, ?_⟩⟩
      exact ⟨grown_trans hG hgD (fun k e => by cases e; exact .inr (by omega)), .inr ⟨hgt, rfl⟩⟩

end Go.Proofs.Ytloealnfbpegnab

namespace Go.Proofs.Ytloealnfbpegnab
open Go.Proofs Go.RowKit Go.Shelf Go.Maps

theorem grown_all (zs : List Int) (G : Wb.Good zs) (T : Nat → Option Nat) (h : Nat → Nat) (S : Wb.St zs T h) (Bw Bm b off cap N base : Nat) {p : Nat} {l : List Int} (H : Wb.Exp zs h p l) : p < zs.length → ∀ (v : Value) (xs : List Int) (w : World), WebAt w Bw Bm (some ⟨b, off, none⟩) cap zs N T → New base w v xs →
    (∀ k, v.ownBlock = some k → k ≠ Bw ∧ k ≠ Bm ∧ k ≠ b) → base ≤ w.heap.size → xs.length ≤ 30 →
    CallsIn Fx 3 Try.prog 67 #[.pointer (some ⟨Bw, 0, none⟩), v, .int .i64 (p : Int)] w fun e w' => GrAns w w' base e v xs l := by
  induction H with
  | mk p ls hl _ ih =>
    intro hp v xs w hW hN hv hb hx
    by_cases h30 : xs.length = 30
    · exact grown_full 3 base Bw p v xs _ w hN h30 (by simp)
    · obtain ⟨hr1, _, _⟩ := Wb.hd_lt G S hp
      exact webGrown_step zs G T h S Bw Bm b off cap N base p ls v xs w hW hp hN hv hb (by omega) hl (fun i hi v1 ys W h1 h2 h3 h4 h5 => ih i hi (Wb.kid_lt G hr1 hi) v1 ys W h1 h2 h3 h4 h5)

/-- Of nothing, in a world of its own: what the place becomes, in new memory, or too large. -/
theorem grown_nil (zs : List Int) (G : Wb.Good zs) (T : Nat → Option Nat) (h : Nat → Nat) (S : Wb.St zs T h) (Bw Bm b off cap N : Nat) {p : Nat} {l : List Int} (H : Wb.Exp zs h p l) (hp : p < zs.length) (w : World) (hW : WebAt w Bw Bm (some ⟨b, off, none⟩) cap zs N T) :
    Calls Try.prog 67 #[.pointer (some ⟨Bw, 0, none⟩), .slice none 0 0, .int .i64 (p : Int)] w fun e w' => Below w.heap.size w w' ∧ ((l.length ≤ 30 ∧ ∃ v, e = .returned v ∧ New w.heap.size w' v l) ∨ (30 < l.length ∧ e = .panicked manyChain)) := by
  refine fx_calls (CallsIn.mono (grown_all zs G T h S Bw Bm b off cap N w.heap.size H hp (.slice none 0 0) [] w hW (New.nil _ _) (fun k e => by cases e) (Nat.le_refl _) (by simp)) ?_)
  rintro e w' ⟨hg, hA⟩
  refine ⟨⟨hg.os, hg.tape, hg.output, hg.size, fun k hk => hg.block k hk (by simp [Value.ownBlock])⟩, ?_⟩
  rcases hA with ⟨h1, v, h2, h3, _⟩ | ⟨h1, h2⟩
  · exact .inl ⟨by simpa using h1, v, h2, by simpa using h3⟩
  · exact .inr ⟨by simpa using h1, h2⟩

end Go.Proofs.Ytloealnfbpegnab

namespace Go.Proofs.Ytloealnfbpegnab
open Go.Proofs Go.RowKit Go.Shelf Go.Maps

theorem grow_idle (p q r : Addr) (w : World) : CallsD Try.prog 66 #[.pointer (some p), .pointer (some q), .pointer (some r)] .returning w fun e u' w' => e = .returned (.tuple #[]) ∧ u' = .returning ∧ w' = w := by
  refine callsD_of_wpS Try.func66 rfl fun c₀ cs hu => ?_
  apply wpS_seq
  apply wpS_region
  simp [wpOpsS, go_sem, recoverD, hu, Try.ntmps66, Exit.thenS]
  simp only [Array.replicate_succ, Array.replicate_zero, List.push_toArray, List.nil_append, List.cons_append, List.setIfInBounds_toArray, List.set_cons_succ, List.set_cons_zero, List.append_toArray]
  refine wpS_of_wp ?_
  go_wp2
  cases c₀
  simp_all [bodyPostS, results, Try.results66]

/-- What it leaves in the three results. -/
theorem grow_caught (B : Nat) (w : World) (h0 : Boxed w B 24 (.slice none 0 0)) (h1 : Boxed w (B + 1) 4 (.bool false)) (h2 : Boxed w (B + 1 + 1) 25 (.int .i64 0)) :
    CallsD Try.prog 66 #[.pointer (some ⟨B, 0, none⟩), .pointer (some ⟨B + 1, 0, none⟩), .pointer (some ⟨B + 1 + 1, 0, none⟩)] (.panicking manyChain) w fun e u' w' => e = .returned (.tuple #[]) ∧ u' = .panicking [{ v := .iface 25 (.int .i64 2), recovered := true }] ∧
      Below B w w' ∧ Boxed w' B 24 (.slice none 0 0) ∧ Boxed w' (B + 1) 4 (.bool false) ∧ Boxed w' (B + 1 + 1) 25 (.int .i64 2) := by
  refine callsD_of_wpS Try.func66 rfl fun c₀ cs hu => ?_
  have c0 := h0.cell
  have c1 := h1.cell
  have c2 := h2.cell
  have f0 := h0.frozen
  have f1 := h1.frozen
  have f2 := h2.frozen
  unfold manyChain at hu
  have hta : ∀ (xT : TypeId) (w : World), (Instr.typeAssert (.iface 25 (.int .i64 2)) xT 25 false).run Try.prog w = .ok (.int .i64 2) w := fun _ _ => by kernel_rfl
  apply wpS_seq
  apply wpS_region
  simp [wpOpsS, go_sem, recoverD, hu, Try.ntmps66, Exit.thenS]
  simp only [Array.replicate_succ, Array.replicate_zero, List.push_toArray, List.nil_append, List.cons_append, List.setIfInBounds_toArray, List.set_cons_succ, List.set_cons_zero, List.append_toArray]
  refine wpS_of_wp ?_
  go_wp2
  go_region
  all_goals (
    refine ⟨rfl, _, rfl, _, results_none rfl _ _ _, rfl, rfl, ?_⟩
    refine ⟨below_drewN (((Below.refl B w).setCell (p := ⟨B, 0, none⟩) (Nat.le_refl _) _).setCell (p := ⟨B + 1, 0, none⟩) (by show B ≤ B + 1; omega) _ |>.setCell (p := ⟨B + 1 + 1, 0, none⟩) (by show B ≤ B + 1 + 1; omega) _) 1, ?_, ?_, ?_⟩
    · exact ((h0.set _).other (by omega) _).other (by omega) _
    · exact ((h1.other (by omega) _).set _).other (by omega) _
    · exact ((h2.other (by omega) _).other (by omega) _).set _)

end Go.Proofs.Ytloealnfbpegnab
