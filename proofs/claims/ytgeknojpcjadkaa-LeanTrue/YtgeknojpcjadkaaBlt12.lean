/-
  Parts of the proof: Rul4, Rul5, Rul6, Rul7, Rng6, Rul8, Lea2, Rng7.
-/
import Derived.Test.YtgeknojpcjadkaaBlt7
import Derived.OwnWalkIn
import Derived.RangeFuncBox
import Derived.Test.YtgeknojpcjadkaaBlt5
import Derived.OwnWalk
import Derived.Test.YtgeknojpcjadkaaBlt11
import Derived.OrdersIn
import Derived.Shelf.RegionOpen
import Derived.RangeFuncCalls
namespace Go.Proofs.Ytgeknojpcjadkaa
open Go.Proofs Go.RowKit Go.Shelf Go.Maps
def Tm.fallsB (rk : List Int) (rs : RuleL) : Bool := rs.all fun r => Tm.aboveVal rk r.1 r.2
def Tm.fallsErr (rk : List Int) (rs : RuleL) : Int := if Tm.rankErr rk = 0 then Tm.rulesErr rs else Tm.rankErr rk
def Tm.fallsVal (rk : List Int) (rs : RuleL) : Bool := if Tm.fallsErr rk rs = 0 then Tm.fallsB rk rs else false
theorem Tm.firstRule_zero {rs : RuleL} (h : Tm.firstRule rs = 0) : ∀ k, k < rs.length → Tm.ruleErr (rs[k]?.getD ([], [])).1 (rs[k]?.getD ([], [])).2 = 0 := by
  induction rs with
  | nil => intro k hk; simp at hk
  | cons r l ih =>
    rw [Tm.firstRule] at h
    by_cases h1 : Tm.ruleErr r.1 r.2 = 0
    · rw [if_pos h1] at h
      intro k hk
      cases k with
      | zero => simpa using h1
      | succ k => simpa using ih h k (by simpa using hk)
    · rw [if_neg h1] at h; exact absurd h h1
theorem Tm.rulesErr_ok {rs : RuleL} (h : Tm.rulesErr rs = 0) : rs.length ≤ 8 ∧ ∀ k, k < rs.length → Tm.ruleErr (rs[k]?.getD ([], [])).1 (rs[k]?.getD ([], [])).2 = 0 := by
  unfold Tm.rulesErr at h
  by_cases h8 : 8 < rs.length
  · rw [if_pos h8] at h; omega
  · rw [if_neg h8] at h; exact ⟨by omega, Tm.firstRule_zero h⟩
theorem Tm.ruleErr_ok {L R : List Int} (h : Tm.ruleErr L R = 0) : Tm.err L = 0 ∧ Tm.err R = 0 ∧ L.any foreignB = false ∧ R.any foreignB = false ∧ (0 : Int) ≤ L[0]?.getD 0 ∧ R.any (freeIn L) = false := by
  unfold Tm.ruleErr at h
  by_cases h1 : Tm.err L = 0
  · rw [if_pos h1] at h
    by_cases h2 : Tm.err R = 0
    · rw [if_pos h2] at h
      cases h3 : L.any foreignB with
      | true => rw [h3, if_pos rfl] at h; omega
      | false =>
        rw [h3, if_neg (by decide)] at h
        cases h4 : R.any foreignB with
        | true => rw [h4, if_pos rfl] at h; omega
        | false =>
          rw [h4, if_neg (by decide)] at h
          by_cases h5 : L[0]?.getD 0 < 0
          · rw [if_pos h5] at h; omega
          · rw [if_neg h5] at h
            cases h6 : R.any (freeIn L) with
            | true => rw [h6, if_pos rfl] at h; omega
            | false => exact ⟨h1, h2, rfl, rfl, by omega, rfl⟩
    · rw [if_neg h2] at h; exact absurd h h2
  · rw [if_neg h1] at h; exact absurd h h1
def Tm.replErr (ss : List (List Int)) (t : List Int) (k : Int) (r : List Int) : Int := if Tm.applyErr ss r = 0 then Tm.putErr t k (Tm.applyVal ss r) else Tm.applyErr ss r
def Tm.replVal (ss : List (List Int)) (t : List Int) (k : Int) (r : List Int) : List Int := if Tm.applyErr ss r = 0 then Tm.putVal t k (Tm.applyVal ss r) else []
set_option maxRecDepth 100000 in
set_option maxHeartbeats 1000000 in
theorem replaced_any (ss : List (List Int)) (t r : List Int) (k : Int) (aS at' ar : Option Addr) (cs ct cr : Nat) (w : World) (hS : Subs w.heap.size w aS ss) (hT : Ints w.heap.size w at' t) (hR : Ints w.heap.size w ar r) (h1 : t.length ≤ ct) (h2 : ct ≤ maxLen) :
    Calls Try.prog 56 #[.slice at' t.length ct, .int .i64 k, .slice aS ss.length cs, .slice ar r.length cr] w fun e w' => ∃ v, e = .returned (.tuple #[v, .int .i64 (Tm.replErr ss t k r)]) ∧ New w.heap.size w' v (Tm.replVal ss t k r) ∧ Below w.heap.size w w' := by
  have C1 := apply_any ss r aS ar cs cr w hS hR
  by_cases he : Tm.applyErr ss r = 0
  · have e1 : Tm.replErr ss t k r = Tm.putErr t k (Tm.applyVal ss r) := by unfold Tm.replErr; rw [if_pos he]
    have e2 : Tm.replVal ss t k r = Tm.putVal t k (Tm.applyVal ss r) := by unfold Tm.replVal; rw [if_pos he]
    rw [e1, e2]
    rw [he] at C1
    clear e1 e2 he hS hR
    generalize Tm.applyVal ss r = u at *
    go_enter Try.func56, Try.ntmps56
    go_wp2_with fail
    refine C1.mono ?_
    rintro e w1 ⟨v1, rfl, hN1, b1⟩
    obtain ⟨x1, c1, rfl, hI1, _⟩ := New.ints hN1
    have C2 := termPut_any t u at' x1 ct c1 k w1 ((hT.below b1).mono b1.size) hI1 h1 h2
    clear C1 hN1 hI1
    go_wp2_with fail
    refine C2.mono ?_
    rintro e w2 ⟨v2, rfl, hN2, b2⟩
    clear C2
    go_wp2
    go_ret2
    exact ⟨_, rfl, hN2.mono b1.size, b1.trans (b2.mono b1.size)⟩
  · have e1 : Tm.replErr ss t k r = Tm.applyErr ss r := by unfold Tm.replErr; rw [if_neg he]
    have e2 : Tm.replVal ss t k r = [] := by unfold Tm.replVal; rw [if_neg he]
    have hn : (Tm.applyErr ss r != 0) = true := by simpa using he
    rw [e1, e2]
    clear e1 e2 he hS hR hT h1 h2
    generalize Tm.applyErr ss r = q at *
    go_enter Try.func56, Try.ntmps56
    go_wp2_with fail
    refine C1.mono ?_
    rintro e w1 ⟨v1, rfl, hN1, b1⟩
    obtain ⟨x1, c1, rfl, hI1, _⟩ := New.ints hN1
    clear C1 hN1 hI1
    go_wp2
    go_ret2
    exact ⟨_, rfl, New.nil _ _, b1⟩
abbrev StepL := List (Nat × Nat × List Int)
def NewT (base : Nat) (W : World) (v : Value) (sts : StepL) : Prop :=
  ∃ us : List Value, W.ownsRow base 54 3 v sts.length us ∧ ∀ j, j < sts.length → ∃ u, us[j * 3]? = some (.int .i64 ((sts[j]?.getD (0, 0, [])).1 : Int)) ∧ us[j * 3 + 1]? = some (.int .i64 ((sts[j]?.getD (0, 0, [])).2.1 : Int)) ∧ us[j * 3 + 2]? = some u ∧ New base W u (sts[j]?.getD (0, 0, [])).2.2
theorem NewT.nil (base : Nat) (W : World) : NewT base W (.slice none 0 0) [] := ⟨[], World.ownsRow_nil _ _ _ _, fun j hj => by simp at hj⟩
theorem New.apartT {base : Nat} {W : World} {u v : Value} {t : List Int} {n : Nat} {us : List Value} (hu : New base W u t) (hv : W.ownsRow base 54 3 v n us) : u.ownBlock = none ∨ u.ownBlock ≠ v.ownBlock := by
  rcases hu.2 with ⟨rfl, _⟩ | ⟨g, cap, cur, rfl, hb, hg, r⟩
  · exact .inl rfl
  · right
    rcases hv.2 with ⟨rfl, _⟩ | ⟨g', cap', cur', rfl, hb', hg', r'⟩
    · intro e; cases e
    · intro e
      simp only [Value.ownBlock, Option.some.injEq] at e
      subst e
      rw [hg] at hg'
      simp at hg'
theorem NewT.below {base : Nat} {W W' : World} {v : Value} {sts : StepL} (h : NewT base W v sts) (hB : Below W.heap.size W W') : NewT base W' v sts := by
  obtain ⟨us, h1, h2⟩ := h
  refine ⟨us, World.ownsRow.kept h1 (grown_of_below hB) (by cases h : v.ownBlock with | none => exact .inl rfl | some k => exact .inr (by simp)), fun j hj => ?_⟩
  obtain ⟨u, a, b, c, d⟩ := h2 j hj
  exact ⟨u, a, b, c, New.below d hB⟩
theorem Try.info54 : (Try.prog.info? 54).map (fun i => (i.zero, i.size, i.bytes)) = some (some (.agg #[.int .i64 0, .int .i64 0, .slice none 0 0]), 3, 40) := by kernel_rfl
def Tm.hitB (rs : RuleL) (t : List Int) (a k : Nat) : Bool := Tm.fitIs (rs[k]?.getD ([], [])).1 (Tm.part t a)
def Tm.hitErr (rs : RuleL) (t : List Int) (a k : Nat) : Int := Tm.replErr (Tm.fitVal (rs[k]?.getD ([], [])).1 (Tm.part t a)) t (a : Int) (rs[k]?.getD ([], [])).2
def Tm.hitVal (rs : RuleL) (t : List Int) (a k : Nat) : List Int := Tm.replVal (Tm.fitVal (rs[k]?.getD ([], [])).1 (Tm.part t a)) t (a : Int) (rs[k]?.getD ([], [])).2
def Tm.rowE (rs : RuleL) (t : List Int) (a : Nat) : Nat → Int
  | 0 => 0
  | n + 1 => if Tm.rowE rs t a n = 0 then (if Tm.hitB rs t a n = true then Tm.hitErr rs t a n else 0) else Tm.rowE rs t a n
def Tm.rowL (rs : RuleL) (t : List Int) (a : Nat) : Nat → StepL
  | 0 => []
  | n + 1 => Tm.rowL rs t a n ++ (if Tm.hitB rs t a n = true then [(n, a, Tm.hitVal rs t a n)] else [])
def Tm.allE (rs : RuleL) (t : List Int) : Nat → Int
  | 0 => 0
  | m + 1 => if Tm.allE rs t m = 0 then Tm.rowE rs t m rs.length else Tm.allE rs t m
def Tm.allL (rs : RuleL) (t : List Int) : Nat → StepL
  | 0 => []
  | m + 1 => Tm.allL rs t m ++ Tm.rowL rs t m rs.length
def Tm.stepErr (rs : RuleL) (t : List Int) : Int := if Tm.rulesErr rs = 0 then (if Tm.err t = 0 then Tm.allE rs t t.length else Tm.err t) else Tm.rulesErr rs
def Tm.stepVal (rs : RuleL) (t : List Int) : StepL := if Tm.stepErr rs t = 0 then Tm.allL rs t t.length else []
theorem Tm.rowE_stays {rs : RuleL} {t : List Int} {a n : Nat} (h : Tm.rowE rs t a n ≠ 0) : ∀ m, n ≤ m → Tm.rowE rs t a m = Tm.rowE rs t a n := by
  intro m hm
  induction m with
  | zero => obtain rfl : n = 0 := by omega
            rfl
  | succ m ih =>
    by_cases e : n = m + 1
    · rw [e]
    · rw [Tm.rowE, if_neg (by rw [ih (by omega)]; exact h), ih (by omega)]
theorem Tm.allE_stays {rs : RuleL} {t : List Int} {n : Nat} (h : Tm.allE rs t n ≠ 0) : ∀ m, n ≤ m → Tm.allE rs t m = Tm.allE rs t n := by
  intro m hm
  induction m with
  | zero => obtain rfl : n = 0 := by omega
            rfl
  | succ m ih =>
    by_cases e : n = m + 1
    · rw [e]
    · rw [Tm.allE, if_neg (by rw [ih (by omega)]; exact h), ih (by omega)]
theorem Tm.allE_stop {rs : RuleL} {t : List Int} {a n : Nat} (h0 : Tm.allE rs t a = 0) (hr : Tm.rowE rs t a n = 0) (ha : a < t.length) (hn : n < rs.length) (hb : Tm.hitB rs t a n = true) (he : Tm.hitErr rs t a n ≠ 0) :
    Tm.allE rs t t.length = Tm.hitErr rs t a n := by
  have e1 : Tm.rowE rs t a (n + 1) = Tm.hitErr rs t a n := by rw [Tm.rowE, if_pos hr, if_pos hb]
  have e2 : Tm.rowE rs t a rs.length = Tm.hitErr rs t a n := by rw [Tm.rowE_stays (by rw [e1]; exact he) rs.length (by omega), e1]
  have e3 : Tm.allE rs t (a + 1) = Tm.hitErr rs t a n := by rw [Tm.allE, if_pos h0, e2]
  rw [Tm.allE_stays (by rw [e3]; exact he) t.length (by omega), e3]
theorem Tm.allE_next {rs : RuleL} {t : List Int} {a : Nat} (h0 : Tm.allE rs t a = 0) (hr : Tm.rowE rs t a rs.length = 0) : Tm.allE rs t (a + 1) = 0 := by rw [Tm.allE, if_pos h0, hr]
theorem Tm.rowE_no {rs : RuleL} {t : List Int} {a n : Nat} (hr : Tm.rowE rs t a n = 0) (hb : Tm.hitB rs t a n = false) : Tm.rowE rs t a (n + 1) = 0 := by rw [Tm.rowE, if_pos hr, hb, if_neg (by decide)]
theorem Tm.rowE_yes {rs : RuleL} {t : List Int} {a n : Nat} (hr : Tm.rowE rs t a n = 0) (hb : Tm.hitB rs t a n = true) (he : Tm.hitErr rs t a n = 0) : Tm.rowE rs t a (n + 1) = 0 := by rw [Tm.rowE, if_pos hr, if_pos hb, he]
theorem Tm.rowL_no {rs : RuleL} {t : List Int} {a n : Nat} (hb : Tm.hitB rs t a n = false) : Tm.rowL rs t a (n + 1) = Tm.rowL rs t a n := by rw [Tm.rowL, hb, if_neg (by decide), List.append_nil]
theorem Tm.rowL_yes {rs : RuleL} {t : List Int} {a n : Nat} (hb : Tm.hitB rs t a n = true) : Tm.rowL rs t a (n + 1) = Tm.rowL rs t a n ++ [(n, a, Tm.hitVal rs t a n)] := by rw [Tm.rowL, if_pos hb]
theorem Tm.rowL_le (rs : RuleL) (t : List Int) (a : Nat) : ∀ n, (Tm.rowL rs t a n).length ≤ n := by
  intro n
  induction n with
  | zero => simp [Tm.rowL]
  | succ n ih =>
    rw [Tm.rowL, List.length_append]
    split
    · simp only [List.length_cons, List.length_nil]; omega
    · simp only [List.length_nil]; omega
theorem Tm.allL_le (rs : RuleL) (t : List Int) : ∀ m, (Tm.allL rs t m).length ≤ m * rs.length := by
  intro m
  induction m with
  | zero => simp [Tm.allL]
  | succ m ih =>
    rw [Tm.allL, List.length_append, Nat.succ_mul]
    have := Tm.rowL_le rs t m rs.length
    omega
theorem Tm.applied_put_le {t u : List Int} {a : Nat} : u.length ≤ (Tm.put t a u).length := by unfold Tm.put; simp only [List.length_append]; omega
theorem insideB_place {t : List Int} {a : Nat} (ha : a < t.length) : insideB (a : Int) 0 ((t.length : Int) - 1) = true := by rw [insideB_iff]; omega
theorem Tm.repl_fit {L R t : List Int} {a : Nat} {m : Asg} (hL : Tm.err L = 0) (hR : Tm.err R = 0) (ht : Tm.err t = 0) (ha : a < t.length) (hf : Tm.fit L (Tm.part t a) = some m) :
    Tm.replErr (Tm.fitL m 8) t (a : Int) R = (if 30 < (Tm.put t a (Tm.applied (Tm.fitL m 8) R)).length then 2 else 0) ∧
      Tm.replVal (Tm.fitL m 8) t (a : Int) R = (if 30 < (Tm.put t a (Tm.applied (Tm.fitL m 8) R)).length then [] else Tm.put t a (Tm.applied (Tm.fitL m 8) R)) := by
  have hs := Tm.subErr_fitL hL (Tm.part_err ht ha) hf
  obtain ⟨e1, e2⟩ := Tm.apply_ok hs hR
  have hle := Tm.applied_put_le (t := t) (u := Tm.applied (Tm.fitL m 8) R) (a := a)
  by_cases h30 : 30 < (Tm.applied (Tm.fitL m 8) R).length
  · rw [if_pos h30] at e1
    have h2 : ¬ (2 : Int) = 0 := by decide
    refine ⟨?_, ?_⟩
    · unfold Tm.replErr; rw [e1, if_neg h2, if_pos (by omega)]
    · unfold Tm.replVal; rw [e1, if_neg h2, if_pos (by omega)]
  · rw [if_neg h30] at e1 e2
    have hu := Tm.err_applied (Terms.of hs) hR (by omega)
    unfold Tm.replErr Tm.replVal
    rw [e1, if_pos rfl, if_pos rfl, e2, Tm.putErr_in ht hu (insideB_place ha), Tm.putVal_in ht hu (insideB_place ha)]
    exact ⟨rfl, rfl⟩
theorem Tm.hitB_fit {rs : RuleL} {t : List Int} {a k : Nat} (hL : Tm.err (rs[k]?.getD ([], [])).1 = 0) (ht : Tm.err t = 0) (ha : a < t.length) : Tm.hitB rs t a k = (Tm.fit (rs[k]?.getD ([], [])).1 (Tm.part t a)).isSome := by
  unfold Tm.hitB Tm.fitIs
  rw [if_pos (Tm.fitErr_of hL (Tm.part_err ht ha))]
theorem Tm.hit_fit {rs : RuleL} {t : List Int} {a k : Nat} {m : Asg} (hL : Tm.err (rs[k]?.getD ([], [])).1 = 0) (hR : Tm.err (rs[k]?.getD ([], [])).2 = 0) (ht : Tm.err t = 0) (ha : a < t.length) (hf : Tm.fit (rs[k]?.getD ([], [])).1 (Tm.part t a) = some m) :
    Tm.hitErr rs t a k = (if 30 < (Tm.put t a (Tm.applied (Tm.fitL m 8) (rs[k]?.getD ([], [])).2)).length then 2 else 0) ∧
      Tm.hitVal rs t a k = (if 30 < (Tm.put t a (Tm.applied (Tm.fitL m 8) (rs[k]?.getD ([], [])).2)).length then [] else Tm.put t a (Tm.applied (Tm.fitL m 8) (rs[k]?.getD ([], [])).2)) := by
  unfold Tm.hitErr Tm.hitVal
  rw [(Tm.fit_yes (Tm.fitErr_of hL (Tm.part_err ht ha)) hf).2]
  exact Tm.repl_fit hL hR ht ha hf
theorem row_apart {W : World} {base : Nat} {e : TypeId} {size : Nat} {v : Value} {n : Nat} {us : List Value} (h : W.ownsRow base e size v n us) {row : Option Nat} (hr : ∀ k, row = some k → ∀ cs p, W.heap[k]? ≠ some (.cells cs e p)) : v.ownBlock = none ∨ v.ownBlock ≠ row := by
  rcases h.2 with ⟨rfl, _⟩ | ⟨g, cap, cur, rfl, _, hgb, _⟩
  · exact .inl rfl
  · refine .inr fun e' => ?_
    exact hr g (by rw [← e']; rfl) _ _ hgb
theorem NewT.grown {base : Nat} {W W' : World} {v : Value} {sts : StepL} {row : Option Nat} (h : NewT base W v sts) (hg : W.grownBy W' row) (hr : ∀ k, row = some k → ∀ cs p, W.heap[k]? ≠ some (.cells cs 54 p) ∧ W.heap[k]? ≠ some (.cells cs 3 p)) : NewT base W' v sts := by
  obtain ⟨us, h1, h2⟩ := h
  refine ⟨us, h1.kept hg (row_apart h1 fun k e cs p => (hr k e cs p).1), fun j hj => ?_⟩
  obtain ⟨u, a, b, c, d⟩ := h2 j hj
  exact ⟨u, a, b, c, World.ownsRow.kept d hg (row_apart d fun k e cs p => (hr k e cs p).2)⟩
theorem boxed_ne {W : World} {B : Nat} {t e : TypeId} {x : Value} (h : Boxed W B t x) (hte : t ≠ e) (cs : Array Value) (p : Nat × Nat) : W.heap[B]? ≠ some (.cells cs e p) := by
  rw [show W.heap[B]? = _ from h]
  intro h'
  simp only [Option.some.injEq, Obj.cells.injEq] at h'
  exact hte h'.2.1
theorem NewT.set {base : Nat} {W : World} {v : Value} {sts : StepL} (h : NewT base W v sts) {B : Nat} {t : TypeId} {x : Value} (hb : Boxed W B t x) (h1 : t ≠ 54) (h2 : t ≠ 3) (y : Value) : NewT base (W.setCell ⟨B, 0, none⟩ y) v sts :=
  h.grown (grownBy_setCell' W B y) fun k e cs p => by
    cases e
    exact ⟨boxed_ne hb h1 cs p, boxed_ne hb h2 cs p⟩
theorem NewT.other {base : Nat} {W W' : World} {v : Value} {sts : StepL} {row : Option Nat} (h : NewT base W v sts) (hg : W.grownBy W' row) (hr : ∀ r, row = some r → ∃ o : Obj, W.heap[r]? = some o ∧ o.isCells = false) : NewT base W' v sts :=
  h.grown hg fun k e cs p => by
    obtain ⟨o, ho, hc⟩ := hr k e
    rw [ho]
    refine ⟨?_, ?_⟩ <;> (intro h'; simp only [Option.some.injEq] at h'; subst h'; simp [Obj.isCells] at hc)
theorem NewT.mono {base base' : Nat} {W : World} {v : Value} {sts : StepL} (h : NewT base W v sts) (hb : base' ≤ base) : NewT base' W v sts := by
  obtain ⟨us, h1, h2⟩ := h
  refine ⟨us, ⟨h1.1, h1.2.elim .inl (fun ⟨g, cap, cur, e1, e2, e3⟩ => .inr ⟨g, cap, cur, e1, Nat.le_trans hb e2, e3⟩)⟩, fun j hj => ?_⟩
  obtain ⟨u, a, b, c, d⟩ := h2 j hj
  exact ⟨u, a, b, c, d.mono hb⟩
theorem NewT.block {base : Nat} {W : World} {v : Value} {sts : StepL} (h : NewT base W v sts) {k : Nat} (hk : v.ownBlock = some k) : base ≤ k ∧ ∃ cs p, W.heap[k]? = some (.cells cs 54 p) := by
  obtain ⟨us, h1, _⟩ := h
  rcases h1.2 with ⟨rfl, _⟩ | ⟨g, cap, cur, rfl, hb, hgb, _⟩
  · cases hk
  · obtain rfl : g = k := by simpa [Value.ownBlock] using hk
    exact ⟨hb, _, _, hgb⟩
theorem NewT.slice {base : Nat} {W : World} {v : Value} {sts : StepL} (h : NewT base W v sts) : ∃ a cap, v = .slice a sts.length cap := by
  obtain ⟨us, h1, _⟩ := h
  rcases h1.2 with ⟨rfl, h0⟩ | ⟨g, cap, cur, rfl, _⟩
  · exact ⟨none, 0, by rw [h0]⟩
  · exact ⟨_, _, rfl⟩
theorem Try.infoSteps : Try.prog.underlying 50 = some (.slice 54) := by kernel_rfl
theorem wpi_append_step {F : Fence} {n : Nat} {ops : Array Oper} {rest : List Oper} {o : Oper} {a : Act} {Q : Exit → Act → World → Prop} (w : World) (hgd : o.guard = none) (s x : Operand)
    (ho : o.op = .call { callee := .builtin .append, args := #[s, x], argTypes := #[50, 50] }) (base : Nat) (v : Value) (sts : StepL) (hs : a.eval s = v) (hN : NewT base w v sts)
    (u : Value) (r p : Nat) (t : List Int) (B : Nat) (hx : a.eval x = .slice (some ⟨B, 0, none⟩) 1 1) (hB0 : w.cell? ⟨B, 0, none⟩ = some (.int .i64 (r : Int))) (hB1 : w.cell? ⟨B, 1, none⟩ = some (.int .i64 (p : Int))) (hB2 : w.cell? ⟨B, 2, none⟩ = some u) (hu : New base w u t) (hlen : sts.length ≤ 1000000) (hbase : base ≤ w.heap.size)
    (h : ∀ v' w', NewT base w' v' (sts ++ [(r, p, t)]) → w.grownBy w' v.ownBlock → (∃ g cap, v' = .slice (some ⟨g, 0, none⟩) (sts.length + 1) cap) → wpListIn F n Try.prog ops Q rest (a.put o.dst v') w') : wpListIn F n Try.prog ops Q (o :: rest) a w := by
  obtain ⟨i0, hi, hz0, hz1, hz2⟩ := info_parts Try.info54
  obtain ⟨us, h1, h2⟩ := hN
  have hul : us.length = sts.length * 3 := h1.1
  refine wpListIn_append_own w hgd s x 50 ho base 54 i0 (.agg #[.int .i64 0, .int .i64 0, .slice none 0 0]) 3 40 Try.infoSteps hi hz0 hz1 hz2 rfl (by decide) v sts.length us hs h1 ⟨B, 0, none⟩ 1 1 [.int .i64 (r : Int), .int .i64 (p : Int), u] hx (by simp)
    (by intro j z hj
        match j, hj with
        | 0, hj => simp at hj; subst hj; rw [Go.WideShapes.add_plain]; simpa using hB0
        | 1, hj => simp at hj; subst hj; rw [Go.WideShapes.add_plain]; simpa using hB1
        | 2, hj => simp at hj; subst hj; rw [Go.WideShapes.add_plain]; simpa using hB2)
    (by intro z hz; simp at hz; obtain ⟨_, _, rfl, _⟩ := New.ints hu; rcases hz with rfl | rfl | rfl <;> rfl) (by unfold maxLen; omega) (by omega) hbase ?_
  intro v' w' hown hg _
  have hkeep : ∀ (u' : Value) (t' : List Int), New base w u' t' → New base w' u' t' := fun u' t' hN' => World.ownsRow.kept hN' hg (New.apartT hN' h1)
  refine h v' w' ⟨us ++ [.int .i64 (r : Int), .int .i64 (p : Int), u], by simpa using hown, fun j hj => ?_⟩ hg (ownsRow_succ hown)
  by_cases hjl : j < sts.length
  · obtain ⟨u', q1, q2, q3, hN'⟩ := h2 j hjl
    rw [List.getElem?_append_left hjl, List.getElem?_append_left (by omega), List.getElem?_append_left (by omega), List.getElem?_append_left (by omega)]
    exact ⟨u', q1, q2, q3, hkeep u' _ hN'⟩
  · have hje : j = sts.length := by simp at hj; omega
    subst hje
    rw [List.getElem?_append_right (Nat.le_refl _), List.getElem?_append_right (by omega), List.getElem?_append_right (by omega), List.getElem?_append_right (by omega), hul]
    refine ⟨u, by simp, by simp, by simp, ?_⟩
    simpa using hkeep u t hu
end Go.Proofs.Ytgeknojpcjadkaa
namespace Go.Proofs.Ytgeknojpcjadkaa
open Go.Proofs Go.RowKit Go.Shelf
attribute [local go_sem] Oper.semAt_some
set_option maxHeartbeats 400000 in
theorem placesx_in (F : Fence) (hF : Pl F) (n : Nat) (a : Option Addr) (len cap : Nat) (w : World) :
    CallsIn F n Try.prog 54 #[.slice a len cap] w fun e w' => e = .returned (.func (.func 90) #[] #[.pointer (some ⟨w.heap.size, 0, none⟩)]) ∧
      w' = w.alloc (.cells #[.slice a len cap] 37) := by
  obtain ⟨hro, hfn, hdd⟩ := fx_facts hF
  have hf := hfn _ _ Try.func54
  clear hF hfn
  refine callsIn_of_wp Try.func54 rfl hf ?_ hro
  simp only [Try.ntmps54, List.size_toArray, List.length_cons, List.length_nil, Nat.reduceAdd, Nat.reduceSub, Array.replicate_succ, Array.replicate_zero, List.push_toArray, List.append_toArray, List.nil_append, List.cons_append]
  gi_wp2
  go_ret
  exact ⟨rfl, rfl⟩
def encPl (zs : List Int) (i : Nat) : Array Value := #[.int .i64 (i : Int), .int .i64 (Tm.endAt zs i : Int)]
def PlacesRd (Bt cap : Nat) (a : Option Addr) (zs : List Int) (W : World) : Prop := W.cell? ⟨Bt, 0, none⟩ = some (.slice a zs.length cap) ∧ Ints W.heap.size W a zs
set_option maxRecDepth 100000 in
set_option maxHeartbeats 1000000 in
theorem places_steps (F : Fence) (hF : Pl F) (n Bt cap : Nat) (a : Option Addr) (zs : List Int) (hlen : zs.length ≤ 5000) :
    SeqSteps F n Try.prog 90 #[.pointer (some ⟨Bt, 0, none⟩)] (encPl zs) zs.length (PlacesRd Bt cap a zs) := by
  intro l J Jx Jp W hJ hR hY h0
  obtain ⟨hro, hfn, hdd⟩ := fx_facts hF
  have HE := hid (fun n p W h2 h3 => endx_all F hF zs hlen a cap _ p n (Nat.le_refl _) h2 W h3)
  clear hF
  have hf55 := hfn _ _ Try.func90
  have hf32 := hfn _ _ Try.func89
  obtain ⟨hbt, _⟩ := hR 0 W h0
  have hl5 : (zs.length : Int) ≤ 5000 := by omega
  have HY := hid hY
  have HR := hid hR
  clear hY hR
  refine callsIn_of_wp Try.func90 rfl hf55 ?_ hro
  simp only [Try.ntmps90, List.size_toArray, List.length_cons, List.length_nil, Nat.reduceAdd, Nat.reduceSub, Array.replicate_succ, Array.replicate_zero, List.push_toArray, List.append_toArray, List.nil_append, List.cons_append]
  gi_wp2
  gi_loopw [6] (fun i wr => ∃ m : Nat, m ≤ zs.length ∧ i = .int .i64 (m : Int) ∧ J m wr) (fun i _ => zs.length - (intOf i).toNat)
  case atStart => exact ⟨0, Nat.zero_le _, rfl, h0⟩
  case round =>
    obtain ⟨m, hm, rfl, hJs⟩ := hrel
    obtain ⟨hbt', hI'⟩ := HR.out m wr hJs
    by_cases hlt : m < zs.length
    · have hlt' : (m : Int) < (zs.length : Int) := by omega
      have h1' := (HE.out (n - 1) m wr (by omega) hI').mono (R' := fun e W1 => e = .returned (.int .i64 (Tm.endAt zs m : Int)) ∧ YieldAt F (n - 1) Try.prog l #[.int .i64 (m : Int), .int .i64 (Tm.endAt zs m : Int)] W1 fun e W' =>
          (e = .returned (.bool true) ∧ J (m + 1) W') ∨ (e = .returned (.bool false) ∧ Jx W') ∨ ∃ ch, e = .panicked ch ∧ Jp ch W')
        (fun e W1 ⟨he, hB⟩ => ⟨he, by
          have hJ1 := hJ _ _ _ none hJs (grown_of_below hB) (fun r e => by cases e)
          refine YieldAt.mono (HY.out m W1 hJ1 hlt) fun e W2 h => ?_
          exact h⟩)
      gi_wp2_with (first
        | ((try refine ⟨hdd _, ?_⟩); gi_at_call 89; refine h1'.mono ?_; clear h1'; rintro e W1 ⟨rfl, fn, tmps, assign, body, hy, hR⟩)
        | ((try refine ⟨hdd _, ?_⟩); refine hR.mono ?_; clear hR; rintro e W2 (⟨rfl, hJ2⟩ | ⟨rfl, hx2⟩ | ⟨ch, rfl, hp2⟩)))
      · exact ⟨⟨m + 1, by omega, by go_num, hJ2⟩, by simp [intOf]; omega⟩
      · refine bodyPost_ret (results_none rfl _ _ _) rfl ?_
        exact .inl ⟨⟨_, rfl⟩, .inr hx2⟩
      · exact ⟨rfl, .inr ⟨ch, rfl, hp2⟩⟩
    · obtain rfl : m = zs.length := by omega
      have hlt' : ¬ (zs.length : Int) < (zs.length : Int) := by omega
      gi_wp2
      go_end0
      exact .inl ⟨⟨_, rfl⟩, .inl hJs⟩
end Go.Proofs.Ytgeknojpcjadkaa
namespace Go.Proofs.Ytgeknojpcjadkaa
open Go.Proofs Go.RowKit Go.Shelf Go.Maps
theorem results_box2 {fn : Func} {tmps : Array Value} {w : World} {a b B C : Nat} {ad : Option Addr} {n c : Nat} {x : Int} (h : fn.results = #[.cell a 50, .cell b 31]) (ha : tmps.getD a undef = .pointer (some ⟨B, 0, none⟩)) (hb : tmps.getD b undef = .pointer (some ⟨C, 0, none⟩))
    (hc : w.cell? ⟨B, 0, none⟩ = some (.slice ad n c)) (hd : w.cell? ⟨C, 0, none⟩ = some (.int .i64 x)) : (results fn tmps).run Try.prog w = .ok (.tuple #[.slice ad n c, .int .i64 x]) w := by
  have ha' : tmps[a]?.getD undef = .pointer (some ⟨B, 0, none⟩) := by rw [← ha]; simp
  have hb' : tmps[b]?.getD undef = .pointer (some ⟨C, 0, none⟩) := by rw [← hb]; simp
  simp only [results, h]
  simp [go_sem, ha', hb', hc, hd]
structure StInv (w2 : World) (B : Nat) (tv : Value) (l : StepL) (W : World) : Prop where
  out : ∃ v, Boxed W B 50 v ∧ NewT B W v l
  bP : Boxed W (B + 1) 37 tv
  kp : Below B w2 W
theorem StInv.own {w2 X Y : World} {B D : Nat} {tv : Value} {l : StepL} {row : Option Nat} (hB : B ≤ w2.heap.size) (hD : B ≤ D) (h : StInv w2 B tv l X) (hg : X.grownBy Y row) (hr : ∀ r, row = some r → D ≤ r ∧ ∃ o : Obj, X.heap[r]? = some o ∧ o.isCells = false) : StInv w2 B tv l Y := by
  obtain ⟨⟨v, hv, hN⟩, bP, kp⟩ := h
  exact ⟨⟨v, cells_own hv hg hr, hN.other hg (fun r e => (hr r e).2)⟩, cells_own bP hg hr, ⟨hg.os.trans kp.os, hg.tape.trans kp.tape, hg.output.trans kp.output, Nat.le_trans kp.size hg.size, fun k hk => (hg.block k (by have := kp.size; omega) (fun e => by have := (hr k e.symm).1; omega)).trans (kp.block k hk)⟩⟩
theorem StInv.below {w2 W W' : World} {B : Nat} {tv : Value} {l : StepL} (hB : B ≤ w2.heap.size) (h : StInv w2 B tv l W) (hb : Below W.heap.size W W') : StInv w2 B tv l W' := by
  obtain ⟨⟨v, hv, hN⟩, bP, kp⟩ := h
  exact ⟨⟨v, (hb.block _ hv.lt).trans hv, hN.below hb⟩, (hb.block _ bP.lt).trans bP, kp.trans (hb.mono (Nat.le_trans hB kp.size))⟩
theorem keepsFrom_below {C : Nat} {W W' : World} (hb : Below W.heap.size W W') : KeepsFrom C W W' := ⟨hb.size, fun k _ _ ho _ => (hb.block k (Array.getElem?_eq_some_iff.1 ho).1).trans ho⟩
theorem st_append {w2 W w' : World} {B C : Nat} {tv v v' : Value} {l : StepL} {x : Nat × Nat × List Int} {tmp : Obj} (hB : B ≤ w2.heap.size) (hv : Boxed W B 50 v) (hN : NewT B W v l) (bP : Boxed W (B + 1) 37 tv) (kp : Below B w2 W) (hN' : NewT B w' v' (l ++ [x])) (hg : (W.alloc tmp).grownBy w' v.ownBlock) :
    Boxed w' B 50 v ∧ StInv w2 B tv (l ++ [x]) (w'.setCell ⟨B, 0, none⟩ v') ∧ KeepsFrom C W (w'.setCell ⟨B, 0, none⟩ v') := by
  have hBW : B ≤ W.heap.size := Nat.le_trans hB kp.size
  have hne : ∀ {D : Nat} {e : TypeId} {y : Value}, Boxed W D e y → e ≠ 54 → some D ≠ v.ownBlock := fun hb he e' => by
    obtain ⟨_, cs, p, h⟩ := hN.block e'.symm
    exact boxed_ne hb he cs p h
  have hv1 : Boxed w' B 50 v := (hv.alloc tmp).kept hg (hne hv (by decide))
  have bP1 : Boxed w' (B + 1) 37 tv := (bP.alloc tmp).kept hg (hne bP (by decide))
  refine ⟨hv1, ⟨⟨v', hv1.set v', hN'.set hv1 (by decide) (by decide) v'⟩, (Below.heap_setCell w' ⟨B, 0, none⟩ v' (B + 1) (by show B + 1 ≠ B; omega)).trans bP1, kp.trans ?_⟩, ?_⟩
  · refine (((Below.refl B W).alloc hBW tmp).grown hg (by simp; omega) fun j ej => (hN.block ej).1).setCell (p := ⟨B, 0, none⟩) (Nat.le_refl _) v'
  · refine KeepsOthers.from (((KeepsOthers.alloc W tmp).trans (KeepsOthers.of_grownBy hg fun j o ej hj => ?_)).trans (KeepsOthers.setCell _ _ _)) C
    obtain ⟨_, cs, p, h⟩ := hN.block ej
    have h2 : (W.alloc tmp).heap[j]? = some (.cells cs 54 p) := (Below.heap_alloc W tmp j (Array.getElem?_eq_some_iff.1 h).1).trans h
    rw [h2] at hj
    cases hj
    rfl
abbrev LnD := (Nat × Nat × List (List Int) × List Int) × (Option Addr × Nat) × (Option Addr × Nat)
def encL (d : LnD) : List Value := [.int .i64 (d.1.1 : Int), .int .i64 (d.1.2.1 : Int), .slice d.2.1.1 d.1.2.2.1.length d.2.1.2, .slice d.2.2.1 d.1.2.2.2.length d.2.2.2]
def LnCell (W : World) (d : LnD) : Prop := SubT W d.2.1.1 d.1.2.2.1 ∧ IntT W d.2.2.1 d.1.2.2.2 ∧ d.1.2.2.2.length ≤ d.2.2.2 ∧ d.2.2.2 ≤ maxLen
theorem LnCell.keep {W W' : World} {d : LnD} (h : LnCell W d) (hk : ∀ (b : Nat) (cs : Array Value) (t : TypeId) (p : Nat × Nat), W.heap[b]? = some (.cells cs t p) → t = 3 ∨ termT t → W'.heap[b]? = W.heap[b]?) : LnCell W' d := by
  obtain ⟨h3, h4, r⟩ := h
  exact ⟨h3.keep hk, h4.keep fun b cs p hb => hk b cs _ p hb (.inl rfl), r⟩
theorem encL_one (d : LnD) : ∀ v ∈ encL d, v.oneCell' = true := by
  intro v hv
  simp only [encL, List.mem_cons, List.not_mem_nil, or_false] at hv
  rcases hv with rfl | rfl | rfl | rfl <;> rfl
theorem encL_len (ds : List LnD) : (ds.flatMap encL).length = ds.length * 4 := by
  induction ds with
  | nil => rfl
  | cons d l ih => rw [List.flatMap_cons, List.length_append, ih, List.length_cons]; simp [encL]; omega
theorem encL_get : ∀ (ds : List LnD) (j : Nat) (hj : j < ds.length) (i : Nat), i < 4 → (ds.flatMap encL)[j * 4 + i]? = (encL ds[j])[i]?
  | d :: l, 0, _, i, hi => by rw [List.flatMap_cons, Nat.zero_mul, Nat.zero_add, List.getElem?_append_left (by simp [encL]; omega)]; rfl
  | d :: l, j + 1, hj, i, hi => by
    rw [List.flatMap_cons, List.getElem?_append_right (by simp [encL]; omega)]
    have := encL_get l j (by simpa using hj) i hi
    rw [show (j + 1) * 4 + i - (encL d).length = j * 4 + i by simp [encL]; omega, this]
    rfl
def NewL (base : Nat) (W : World) (v : Value) (l : LeanL) : Prop := ∃ ds : List LnD, ds.map Prod.fst = l ∧ W.ownsRow base 77 4 v ds.length (ds.flatMap encL) ∧ ∀ d ∈ ds, LnCell W d
theorem NewL.nil (base : Nat) (W : World) : NewL base W (.slice none 0 0) [] := ⟨[], rfl, World.ownsRow_nil _ _ _ _, fun d hd => by cases hd⟩
theorem NewL.slice {base : Nat} {W : World} {v : Value} {l : LeanL} (h : NewL base W v l) : ∃ a cap, v = .slice a l.length cap := by
  obtain ⟨ds, rfl, h1, _⟩ := h
  rw [List.length_map]
  rcases h1.2 with ⟨rfl, h0⟩ | ⟨g, cap, cur, rfl, _⟩
  · exact ⟨none, 0, by rw [h0]⟩
  · exact ⟨_, _, rfl⟩
theorem NewL.block {base : Nat} {W : World} {v : Value} {l : LeanL} (h : NewL base W v l) {k : Nat} (hk : v.ownBlock = some k) : base ≤ k ∧ k < W.heap.size ∧ ∃ cs, W.heap[k]? = some (.cells cs 77 (0, 0)) := by
  obtain ⟨ds, _, h1, _⟩ := h
  refine ⟨(World.ownsRow.lt h1 k hk).1, (World.ownsRow.lt h1 k hk).2, ?_⟩
  rcases h1.2 with ⟨rfl, _⟩ | ⟨g, cap, cur, rfl, h2, h3, h4⟩
  · cases hk
  · cases hk; exact ⟨cur, h3⟩
theorem NewL.keep {base : Nat} {W W' : World} {v : Value} {l : LeanL} (h : NewL base W v l) (h0 : ∀ q, v.ownBlock = some q → W'.heap[q]? = W.heap[q]?) (hk : ∀ (b : Nat) (cs : Array Value) (t : TypeId) (p : Nat × Nat), W.heap[b]? = some (.cells cs t p) → t = 3 ∨ termT t → W'.heap[b]? = W.heap[b]?) : NewL base W' v l := by
  obtain ⟨ds, h1, h2, h3⟩ := h
  refine ⟨ds, h1, ⟨h2.1, ?_⟩, fun d hd => (h3 d hd).keep hk⟩
  rcases h2.2 with h | ⟨g, cap, cur, rfl, a1, a2, a3⟩
  · exact .inl h
  · exact .inr ⟨g, cap, cur, rfl, a1, (h0 g rfl).trans a2, a3⟩
theorem NewL.below {base : Nat} {W W' : World} {v : Value} {l : LeanL} (h : NewL base W v l) (hB : Below W.heap.size W W') : NewL base W' v l :=
  h.keep (fun q hq => hB.block q (h.block hq).2.1) fun b _ _ _ hb _ => hB.block b (Array.getElem?_eq_some_iff.1 hb).1
theorem NewL.grown {base : Nat} {W W' : World} {v : Value} {l : LeanL} {row : Option Nat} (h : NewL base W v l) (hg : W.grownBy W' row) (hr : ∀ k, row = some k → ∀ (cs : Array Value) (t : TypeId) (p : Nat × Nat), W.heap[k]? = some (.cells cs t p) → t ≠ 77 ∧ t ≠ 3 ∧ ¬ termT t) : NewL base W' v l :=
  h.keep (fun q hq => hg.block q (h.block hq).2.1 fun e => by
    obtain ⟨_, _, cs, hc⟩ := h.block hq
    exact (hr q e.symm _ _ _ hc).1 rfl) fun b cs t p hb ht => hg.block b (Array.getElem?_eq_some_iff.1 hb).1 fun e => by
    have h1 := hr b e.symm cs t p hb
    exact ht.elim h1.2.1 h1.2.2
theorem NewL.set {base : Nat} {W : World} {v : Value} {l : LeanL} (h : NewL base W v l) {B : Nat} {t : TypeId} {x : Value} (hb : Boxed W B t x) (ht : t ≠ 77 ∧ t ≠ 3 ∧ ¬ termT t) (y : Value) : NewL base (W.setCell ⟨B, 0, none⟩ y) v l :=
  h.grown (grownBy_setCell' W B y) fun k e cs t' p hc => by
    cases e
    unfold Boxed at hb
    rw [hb] at hc
    simp only [Option.some.injEq, Obj.cells.injEq] at hc
    rw [← hc.2.1]
    exact ht
theorem NewL.other {base : Nat} {W W' : World} {v : Value} {l : LeanL} {row : Option Nat} (h : NewL base W v l) (hg : W.grownBy W' row) (hr : ∀ r, row = some r → ∃ o : Obj, W.heap[r]? = some o ∧ o.isCells = false) : NewL base W' v l :=
  h.grown hg fun k e cs t p hc => by
    obtain ⟨o, ho, hn⟩ := hr k e
    rw [ho] at hc
    simp only [Option.some.injEq] at hc
    subst hc
    simp [Obj.isCells] at hn
theorem NewL.mono {base base' : Nat} {W : World} {v : Value} {l : LeanL} (h : NewL base W v l) (hb : base' ≤ base) : NewL base' W v l := by
  obtain ⟨ds, h0, h1, h2⟩ := h
  exact ⟨ds, h0, ⟨h1.1, h1.2.elim .inl (fun ⟨g, cap, cur, e1, e2, e3⟩ => .inr ⟨g, cap, cur, e1, Nat.le_trans hb e2, e3⟩)⟩, h2⟩
theorem lean_row {base : Nat} {w w' : World} {v v' : Value} {ds es : List LnD} {l : LeanL} (h0 : ds.map Prod.fst = l) (h1 : w.ownsRow base 77 4 v ds.length (ds.flatMap encL)) (h2 : ∀ d ∈ ds, LnCell w d) (h3 : ∀ d ∈ es, LnCell w d) (hown : w'.ownsRow base 77 4 v' (ds.length + es.length) (ds.flatMap encL ++ es.flatMap encL)) (hg : w.grownBy w' v.ownBlock) : NewL base w' v' (l ++ es.map Prod.fst) := by
  have hN : NewL base w v l := ⟨ds, h0, h1, h2⟩
  have hk : ∀ (b : Nat) (cs : Array Value) (t : TypeId) (p : Nat × Nat), w.heap[b]? = some (.cells cs t p) → t = 3 ∨ termT t → w'.heap[b]? = w.heap[b]? := fun b cs t p hb ht => hg.block b (Array.getElem?_eq_some_iff.1 hb).1 fun e => by
    obtain ⟨_, _, cs', hc⟩ := hN.block e.symm
    rw [hb] at hc
    simp only [Option.some.injEq, Obj.cells.injEq] at hc
    rcases ht with ht | ht
    · exact absurd (ht.symm.trans hc.2.1) (by decide)
    · exact absurd (hc.2.1 ▸ ht) (by unfold termT; decide)
  refine ⟨ds ++ es, by rw [List.map_append, h0], by rw [List.length_append, List.flatMap_append]; exact hown, fun d hd => ?_⟩
  rcases List.mem_append.1 hd with h | h
  · exact (h2 d h).keep hk
  · exact (h3 d h).keep hk
theorem Try.infoLeans : Try.prog.underlying 71 = some (.slice 77) := by kernel_rfl
theorem Try.info77 : (Try.prog.info? 77).map (fun i => (i.zero, i.size, i.bytes)) = some (some (.agg #[.int .i64 0, .int .i64 0, .slice none 0 0, .slice none 0 0]), 4, 64) := by kernel_rfl
theorem wpi_append_lean {F : Fence} {n : Nat} {ops : Array Oper} {rest : List Oper} {o : Oper} {a : Act} {Q : Exit → Act → World → Prop} (w : World) (hgd : o.guard = none) (s x : Operand)
    (ho : o.op = .call { callee := .builtin .append, args := #[s, x], argTypes := #[71, 71] }) (base : Nat) (v : Value) (l : LeanL) (hs : a.eval s = v) (hN : NewL base w v l)
    (d : LnD) (B : Nat) (hx : a.eval x = .slice (some ⟨B, 0, none⟩) 1 1) (hB : ∀ j u, (encL d)[j]? = some u → w.cell? ⟨B, j, none⟩ = some u) (hd : LnCell w d) (hlen : l.length ≤ 1000000) (hbase : base ≤ w.heap.size)
    (h : ∀ v' w', NewL base w' v' (l ++ [d.1]) → w.grownBy w' v.ownBlock → (∃ g cap, v' = .slice (some ⟨g, 0, none⟩) (l.length + 1) cap) → wpListIn F n Try.prog ops Q rest (a.put o.dst v') w') : wpListIn F n Try.prog ops Q (o :: rest) a w := by
  obtain ⟨i0, hi, hz0, hz1, hz2⟩ := info_parts Try.info77
  obtain ⟨ds, h0, h1, h2⟩ := hN
  have hl : ds.length = l.length := by rw [← h0, List.length_map]
  refine wpListIn_append_own w hgd s x 71 ho base 77 i0 (.agg #[.int .i64 0, .int .i64 0, .slice none 0 0, .slice none 0 0]) 4 64 Try.infoLeans hi hz0 hz1 hz2 rfl (by decide) v ds.length _ hs h1 ⟨B, 0, none⟩ 1 1 (encL d) hx (by simp [encL])
    (by intro j z hj; rw [Go.WideShapes.add_plain, Nat.zero_add]; exact hB j z hj) (encL_one d) (by unfold maxLen; omega) (by omega) hbase ?_
  intro v' w' hown hg _
  refine h v' w' (lean_row (es := [d]) h0 h1 h2 (fun d' hd' => by simp at hd'; subst hd'; exact hd) (by simpa using hown) hg) hg ?_
  rw [← hl]
  exact ownsRow_succ hown
theorem wp_apps_l {ops : Array Oper} {rest : List Oper} {o : Oper} {a : Act} {Q : Exit → Act → World → Prop} (w : World) (hgd : o.guard = none) (s x : Operand)
    (ho : o.op = .call { callee := .builtin .append, args := #[s, x], argTypes := #[71, 71] }) (base : Nat) (v : Value) (l : LeanL) (hs : a.eval s = v) (hN : NewL base w v l)
    (v2 : Value) (l2 : LeanL) (hx : a.eval x = v2) (base2 : Nat) (hM : NewL base2 w v2 l2) (hlen : l.length + l2.length ≤ 100000) (hbase : base ≤ w.heap.size)
    (h : ∀ v' w', NewL base w' v' (l ++ l2) → Below base w w' → wpList Try.prog ops Q rest (a.put o.dst v') w') : wpList Try.prog ops Q (o :: rest) a w := by
  obtain ⟨i0, hi, hz0, hz1, hz2⟩ := info_parts Try.info77
  obtain ⟨ds, h0, h1, h2⟩ := hN
  obtain ⟨es, m0, m1, m2⟩ := hM
  have hl : ds.length = l.length := by rw [← h0, List.length_map]
  have hl2 : es.length = l2.length := by rw [← m0, List.length_map]
  have mm := m1
  rcases m1.2 with ⟨rfl, hn⟩ | ⟨g, cap, cur, rfl, hb, hgb, r1, r2, r3⟩
  · obtain rfl : es = [] := List.eq_nil_of_length_eq_zero hn
    obtain rfl : l2 = [] := m0.symm
    exact wpList_append_own_none hgd s x 71 ho base 77 i0 4 Try.infoLeans hi v ds.length _ hs h1 hx (h v w (by rw [List.append_nil]; exact ⟨ds, h0, h1, h2⟩) (Below.refl _ _))
  · refine wpList_append_own w hgd s x 71 ho base 77 i0 (.agg #[.int .i64 0, .int .i64 0, .slice none 0 0, .slice none 0 0]) 4 64 Try.infoLeans hi hz0 hz1 hz2 rfl (by decide) v ds.length _ hs h1 ⟨g, 0, none⟩ es.length cap (es.flatMap encL) hx (by rw [encL_len])
      (by intro j z hj
          have hjl : j < es.length * 4 := by
            have := (List.getElem?_eq_some_iff.1 hj).1
            rw [encL_len] at this
            exact this
          rw [Go.WideShapes.add_plain, Nat.zero_add]
          have := World.ownsRow.cellAt mm j hjl
          rw [hj] at this
          exact this)
      (by intro u hu; obtain ⟨d, hd, hu⟩ := List.mem_flatMap.1 hu; exact encL_one d u hu) (by unfold maxLen; omega) (by omega) hbase ?_
    intro v' w' hown hg _
    refine h v' w' ?_ ((Below.refl base w).grown hg hbase (fun k e => (World.ownsRow.lt h1 k e).1))
    rw [← m0]
    exact lean_row h0 h1 h2 m2 hown hg
theorem NewL.elem {base : Nat} {W : World} {v : Value} {l : LeanL} (h : NewL base W v l) {k : Nat} (hk : k < l.length) : ∃ g cap aS cS aT cT, v = .slice (some ⟨g, 0, none⟩) l.length cap ∧ g < W.heap.size ∧ W.cell? ⟨g, k * 4, none⟩ = some (.int .i64 (l[k].1 : Int)) ∧ W.cell? ⟨g, k * 4 + 1, none⟩ = some (.int .i64 (l[k].2.1 : Int)) ∧ W.cell? ⟨g, k * 4 + 2, none⟩ = some (.slice aS l[k].2.2.1.length cS) ∧ W.cell? ⟨g, k * 4 + 3, none⟩ = some (.slice aT l[k].2.2.2.length cT) ∧ SubT W aS l[k].2.2.1 ∧ IntT W aT l[k].2.2.2 ∧ l[k].2.2.2.length ≤ cT ∧ cT ≤ maxLen := by
  obtain ⟨ds, rfl, h1, h2⟩ := h
  have hk' : k < ds.length := by simpa using hk
  have hh := h1
  have r := h2 ds[k] (List.getElem_mem hk')
  rcases h1.2 with ⟨rfl, hn⟩ | ⟨g, cap, cur, rfl, hb, hgb, q1, q2, _⟩
  · omega
  · have cc := fun i (hi : i < 4) => (World.ownsRow.cellAt hh (k * 4 + i) (by omega)).trans (encL_get ds k hk' i hi)
    simp only [List.getElem_map, List.length_map]
    have c0 := cc 0 (by omega)
    have c1 := cc 1 (by omega)
    have c2 := cc 2 (by omega)
    have c3 := cc 3 (by omega)
    simp only [encL, List.getElem?_cons_zero, List.getElem?_cons_succ] at c0 c1 c2 c3
    exact ⟨g, cap, _, _, _, _, rfl, (Array.getElem?_eq_some_iff.1 hgb).1, c0, c1, c2, c3, r⟩
theorem NewL.at0 {base : Nat} {W : World} {v : Value} {l : LeanL} (h : NewL base W v l) (h0 : 0 < l.length) : ∃ g cap, v = .slice (some ⟨g, 0, none⟩) l.length cap ∧ l.length ≤ cap ∧ cap ≤ maxLen := by
  obtain ⟨ds, rfl, h1, h2⟩ := h
  rw [List.length_map] at *
  rcases h1.2 with ⟨rfl, hn⟩ | ⟨g, cap, cur, rfl, hb, hgb, q1, q2, _⟩
  · omega
  · exact ⟨g, cap, rfl, q1, q2⟩
end Go.Proofs.Ytgeknojpcjadkaa
namespace Go.Proofs.Ytgeknojpcjadkaa
open Go.Proofs Go.RowKit Go.Shelf
theorem upon_round {F : Fence} {n l : Nat} {P : Program} {o : Oper} {a : Act} {next next' : Act → World → Prop} {Q : Exit → Act → World → Prop} (hm : ∀ a w, next a w → next' a w) (r : Result Next) (h : o.uponIn F n P a next Q r) : o.uponIn (F.inRound l) n P a next' Q r := by
  cases r with
  | ok x w' =>
    cases x with
    | value v => exact hm _ _ h
    | skip => exact hm _ _ h
    | defer d => exact hm _ _ h
    | enter f args =>
      refine ⟨h.1, (CallsIn.inRound l h.2).mono fun e w'' he => ?_⟩
      cases e with
      | returned v => exact hm _ _ he
      | panicked c => exact he
      | outgrown => exact he
    | row row args => exact ⟨h.1, RowsIn.mono (show RowsIn (F.inRound l) (n - 1) P row args w' _ from h.2) fun v w'' he => hm _ _ he⟩
    | round l' f tmps assign body =>
      refine ⟨h.1, RoundIn.mono (show RoundIn (F.inRound l) (n - 1) P l' f tmps assign body w' _ from h.2) fun e w'' he => ?_⟩
      cases e with
      | returned v => exact hm _ _ he
      | panicked c => exact he
      | outgrown => exact he
    | _ => exact h
  | halt x w' => cases x <;> exact h
theorem ops_round {F : Fence} {n l : Nat} {P : Program} {ops : Array Oper} {Q : Exit → Act → World → Prop} (hro : F.round = none) (hnd : ∀ (j : Nat) (o : Oper) (c : Call), ops[j]? = some o → o.op ≠ .defer c) :
    ∀ (order : List Nat) (a : Act) (w : World), wpOpsIn F n P ops Q order a w → wpOpsIn (F.inRound l) n P ops Q order a w := by
  intro order
  induction order with
  | nil => exact fun _ _ h => h
  | cons i rest ih =>
    intro a w h
    unfold wpOpsIn at h ⊢
    cases ho : ops[i]? with
    | none => rw [ho] at h; exact ih a w h
    | some o =>
      rw [ho] at h
      by_cases hw : Region.wanted o (yielded ops a.tmps) = true
      · simp only [hw, if_true] at h ⊢
        refine ⟨h.1, ?_⟩
        have h2 := h.2
        rw [hro, Oper.semAt_none] at h2
        rw [show (F.inRound l).round = some l from rfl, Oper.semAt_some l _ _ (fun c => hnd i o c ho)]
        exact upon_round ih _ h2
      · simp only [hw] at h ⊢
        exact ⟨h.1, ih _ _ h.2⟩
def noDefer (ops : Array Oper) : Bool := ops.all fun o => match o.op with | .defer _ => false | _ => true
theorem noDefer_spec {ops : Array Oper} (h : noDefer ops = true) : ∀ (j : Nat) (o : Oper) (c : Call), ops[j]? = some o → o.op ≠ .defer c := by
  intro j o c hj e
  unfold noDefer at h
  rw [Array.all_eq_true] at h
  obtain ⟨hlt, hx⟩ := Array.getElem?_eq_some_iff.1 hj
  have := h j hlt
  rw [hx, e] at this
  simp at this
theorem wpIn_region_round {F : Fence} {n l id : Nat} {P : Program} {ops : Array Oper} {Q : Exit → Act → World → Prop} {a : Act} {w : World} (hro : F.round = none) (hnd : noDefer ops = true) (hm : P.follows .mixedOrders = true)
    (h : wpAnyIn F n P .any ops Q ops.size (Array.replicate ops.size false) a w.drew) : (Code.region id ops true).wpIn (F.inRound l) n P Q a w :=
  wpIn_region_draw fun t => by
    simp only [Region.schedule, hm, Bool.true_or, if_true]
    exact ops_round hro (noDefer_spec hnd) _ _ _ (wpAnyIn_sound ops.size t _ a _ h)
end Go.Proofs.Ytgeknojpcjadkaa
