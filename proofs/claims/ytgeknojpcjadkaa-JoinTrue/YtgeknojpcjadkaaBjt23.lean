/-
  pairs.Of. · pairs.All. · PLAIN MATHEMATICS: what pairs of rules are is one thing; the pairs of a group's rules. · hasplaw.pairsBegun. · PLAIN MATHEMATICS of worlds: what a term is there; what variables become, and what is put at a place, there; in whatever world all rules hold a term is what its Form is. · hasplaw.deepest, hasplaw.valued.
-/
import Derived.Deep.RegionHeld3
import Derived.Test.YtgeknojpcjadkaaBjt22
import Derived.Test.YtgeknojpcjadkaaBjt9
import Derived.Test.YtgeknojpcjadkaaBjt14
import Derived.Test.YtgeknojpcjadkaaBjt16
import Derived.Deep.MidRow
namespace Go.Proofs.Ytgeknojpcjadkaa
open Go.Proofs Go.RowKit Go.Shelf Go.Maps

theorem hasRule_any (a : Option Addr) (n cap : Nat) (k : Int) (w : World) : Calls Try.prog 37 #[.slice a n cap, .int .i64 k] w fun e w' => e = .returned (.bool (decide (0 ≤ k ∧ k < (n : Int)))) ∧ w' = w := by
  by_cases h0 : 0 ≤ k
  · by_cases h1 : k < (n : Int)
    · go_enter Try.func37, Try.ntmps37
      go_wp2
      go_ret
      exact ⟨by simp [h0, h1], rfl⟩
    · have h1' : decide (k < (n : Int)) = false := by simpa using h1
      go_enter Try.func37, Try.ntmps37
      go_wp2
      go_ret
      exact ⟨by simp, rfl⟩
  · have h0' : decide (0 ≤ k) = false := by simpa using h0
    go_enter Try.func37, Try.ntmps37
    go_wp2
    go_ret
    exact ⟨by simp, rfl⟩

/-- What pairs.Of answers. -/
def Tm.OfSays (rs : RuleL) (i j er : Int) (ps : PairL) : Prop :=
  (Tm.rulesErr rs ≠ 0 ∧ er = Tm.rulesErr rs ∧ ps = []) ∨
  (Tm.rulesErr rs = 0 ∧ ¬ (0 ≤ i ∧ i < (rs.length : Int) ∧ 0 ≤ j ∧ j < (rs.length : Int)) ∧ er = 5 ∧ ps = []) ∨
  (Tm.rulesErr rs = 0 ∧ ∃ a b : Nat, a < rs.length ∧ b < rs.length ∧ i = (a : Int) ∧ j = (b : Int) ∧ Tm.LapsSays (rs[a]?.getD ([], [])).1 (rs[a]?.getD ([], [])).2 (Tm.others (rs[b]?.getD ([], [])).1) (Tm.others (rs[b]?.getD ([], [])).2) (Tm.passB (rs[a]?.getD ([], [])).1 i j) er ps)
def OfAns (rs : RuleL) (i j : Int) (w : World) (e : Ending) (w' : World) : Prop := ∃ er ps v, Tm.OfSays rs i j er ps ∧ e = .returned (.tuple #[v, .int .i64 er]) ∧ NewP w.heap.size w' v ps ∧ Below w.heap.size w w'

set_option maxRecDepth 100000 in
set_option maxHeartbeats 4000000 in
theorem of_right (rs : RuleL) (i j : Nat) (hi : i < rs.length) (hj : j < rs.length) (a : Option Addr) (cap : Nat) (w : World) (hr : Tm.rulesErr rs = 0) (hR : RulesAt w.heap.size w a rs) :
    Calls Try.prog 12 #[.slice a rs.length cap, .int .i64 (i : Int), .int .i64 (j : Int)] w fun e w' => OfAns rs (i : Int) (j : Int) w e w' := by
  have hmf : ∀ (fn : Fn) (first cap : Array Value) (w : World), (Instr.makeFunc fn first cap).run Try.prog w = .ok (.func fn first cap) w := fun _ _ _ _ => rfl
  have hi' : (i : Int) < (rs.length : Int) := by omega
  have hj' : (j : Int) < (rs.length : Int) := by omega
  obtain ⟨h8, hall⟩ := Tm.rulesErr_ok hr
  obtain ⟨eL, eR, _⟩ := Tm.ruleErr_ok (hall i hi)
  obtain ⟨eL2, eR2, _⟩ := Tm.ruleErr_ok (hall j hj)
  obtain ⟨W2, hW2⟩ : ∃ W2, (w.alloc (.cells #[.int .i64 (i : Int)] 3)).alloc (.cells #[.int .i64 (j : Int)] 3) = W2 := ⟨_, rfl⟩
  have hB2 : Below w.heap.size w W2 := by rw [← hW2]; exact ((Below.refl _ w).alloc (Nat.le_refl _) _).alloc (by simp) _
  have hs2 : W2.heap.size = w.heap.size + 2 := by rw [← hW2]; simp
  have bi : Boxed W2 w.heap.size 3 (.int .i64 (i : Int)) := by rw [← hW2]; exact (Boxed.new w _ _).alloc _
  have bj : Boxed W2 (w.heap.size + 1) 3 (.int .i64 (j : Int)) := by
    rw [← hW2]
    have h := Boxed.new (w.alloc (.cells #[.int .i64 (i : Int)] 3)) 3 (.int .i64 (j : Int))
    rwa [World.size_alloc] at h
  have C1 := hid (rulesCheck_any rs a cap W2 ((hR.below hB2).mono hB2.size))
  rw [hr] at C1
  have hans := hid (fun er ps (h : Tm.LapsSays (rs[i]?.getD ([], [])).1 (rs[i]?.getD ([], [])).2 (Tm.others (rs[j]?.getD ([], [])).1) (Tm.others (rs[j]?.getD ([], [])).2) (Tm.passB (rs[i]?.getD ([], [])).1 (i : Int) (j : Int)) er ps) => (.inr (.inr ⟨hr, i, j, hi, hj, rfl, rfl, h⟩) : Tm.OfSays rs (i : Int) (j : Int) er ps))
  obtain ⟨b, off, rfl, hb, aL, cL, aR, cR, g1, g2, g3, g4, g5, g6, g7, g8⟩ := hR i hi
  obtain ⟨b', off', e', hb', aL2, cL2, aR2, cR2, p1, p2, p3, p4, p5, p6, p7, p8⟩ := hR j hj
  cases e'
  generalize (rs[i]?.getD ([], [])).1 = L1 at *
  generalize (rs[i]?.getD ([], [])).2 = R1 at *
  generalize (rs[j]?.getD ([], [])).1 = L2 at *
  generalize (rs[j]?.getD ([], [])).2 = R2 at *
  have hone : decide (0 ≤ (i : Int) ∧ (i : Int) < (rs.length : Int)) = true := by simp; omega
  have htwo : decide (0 ≤ (j : Int) ∧ (j : Int) < (rs.length : Int)) = true := by simp; omega
  have Hh1 := hid (fun W => hasRule_any (some ⟨b, off, none⟩) rs.length cap (i : Int) W)
  have Hh2 := hid (fun W => hasRule_any (some ⟨b, off, none⟩) rs.length cap (j : Int) W)
  rw [hone] at Hh1
  rw [htwo] at Hh2
  have HW2 := hid hW2
  have Hall := hid hall
  clear hW2 hr hR hone htwo hall
  go_enter Try.func12, Try.ntmps12
  go_wp2_with fail
  rw [HW2.out]
  refine C1.out.mono ?_
  rintro e w1 ⟨rfl, b1⟩
  have B1 := hB2.trans (b1.mono hB2.size)
  have hsz1 := b1.size
  have bi1 : Boxed w1 w.heap.size 3 (.int .i64 (i : Int)) := (b1.block _ bi.lt).trans bi
  have bj1 : Boxed w1 (w.heap.size + 1) 3 (.int .i64 (j : Int)) := (b1.block _ bj.lt).trans bj
  have ci := bi1.cell
  have cj := bj1.cell
  clear C1
  go_wp2_with fail
  refine (Hh1.out w1).mono ?_
  rintro e w1 ⟨rfl, rfl⟩
  go_wp2_with fail
  refine (Hh2.out w1).mono ?_
  rintro e w1 ⟨rfl, rfl⟩
  have d1 := (B1.cell (p := ⟨b, off + i * 2, none⟩) hb).trans g1
  have d2 := (B1.cell (p := ⟨b, off + i * 2 + 1, none⟩) hb).trans g2
  have d3 := (B1.cell (p := ⟨b, off + j * 2, none⟩) hb).trans p1
  have d4 := (B1.cell (p := ⟨b, off + j * 2 + 1, none⟩) hb).trans p2
  clear Hh1 Hh2
  go_wp2_with fail
  obtain ⟨W3, hW3⟩ : ∃ W3, w1.alloc (.cells #[.slice aL L1.length cL] 37) = W3 := ⟨_, rfl⟩
  rw [hW3]
  have bl : Boxed W3 w1.heap.size 37 (.slice aL L1.length cL) := by rw [← hW3]; exact Boxed.new w1 _ _
  have hB3 : Below w1.heap.size w1 W3 := by rw [← hW3]; exact (Below.refl _ _).alloc (Nat.le_refl _) _
  have hs3 : W3.heap.size = w1.heap.size + 1 := by rw [← hW3]; simp
  have BW3 := B1.trans (hB3.mono B1.size)
  have hS : Hid (∀ w', Below W3.heap.size W3 w' → w'.cell? ⟨w.heap.size, 0, none⟩ = some (.int .i64 (i : Int)) ∧ w'.cell? ⟨w.heap.size + 1, 0, none⟩ = some (.int .i64 (j : Int)) ∧ w'.cell? ⟨b, off + i * 2, none⟩ = some (.slice aL L1.length cL) ∧ w'.cell? ⟨b, off + i * 2 + 1, none⟩ = some (.slice aR R1.length cR) ∧ w'.cell? ⟨b, off + j * 2, none⟩ = some (.slice aL2 L2.length cL2) ∧ w'.cell? ⟨b, off + j * 2 + 1, none⟩ = some (.slice aR2 R2.length cR2)) := fun w' h => by
    have h13 := hB3.trans (h.mono hB3.size)
    exact ⟨(h13.cell (p := ⟨w.heap.size, 0, none⟩) (by show w.heap.size < _; omega)).trans ci, (h13.cell (p := ⟨w.heap.size + 1, 0, none⟩) (by show w.heap.size + 1 < _; omega)).trans cj, (h13.cell (p := ⟨b, off + i * 2, none⟩) (by show b < _; omega)).trans d1, (h13.cell (p := ⟨b, off + i * 2 + 1, none⟩) (by show b < _; omega)).trans d2, (h13.cell (p := ⟨b, off + j * 2, none⟩) (by show b < _; omega)).trans d3, (h13.cell (p := ⟨b, off + j * 2 + 1, none⟩) (by show b < _; omega)).trans d4⟩
  have HA := hid (fun X (hX : Below W3.heap.size W3 X) => apart_any L2 R2 aL2 aR2 cL2 cR2 X (by have h := BW3.trans (hX.mono BW3.size); exact (p3.below h).mono h.size) (by have h := BW3.trans (hX.mono BW3.size); exact (p4.below h).mono h.size) (by have := Tm.err_len eL2; omega) (by have := Tm.err_len eR2; omega) (fun k hk => by have := Tm.known8 eL2 k hk; omega) (fun k hk => by have := Tm.known8 eR2 k hk; omega))
  have HLp := hid (fun X (hX : Below W3.heap.size W3 X) x c y d (hx : Ints X.heap.size X x (Tm.others L2)) (hy : Ints X.heap.size X y (Tm.others R2)) (q1 : (Tm.others L2).length ≤ c) (q2 : c ≤ maxLen) => laps_any L1 R1 (Tm.others L2) (Tm.others R2) aL aR x y cL cR c d (i : Int) (j : Int) w1.heap.size w.heap.size (w.heap.size + 1) X eL (by have h := BW3.trans (hX.mono BW3.size); exact (g3.below h).mono h.size) (by have h := BW3.trans (hX.mono BW3.size); exact (g4.below h).mono h.size) hx hy g5 g6 q1 q2 ((hX.cell (p := ⟨w1.heap.size, 0, none⟩) (by show w1.heap.size < _; omega)).trans bl.cell) (hS.out X hX).1 (hS.out X hX).2.1)
  have hS0 := hS.out _ (Below.refl _ W3)
  have HBW := hid BW3
  clear hW3 hB3 bl ci cj d1 d2 d3 d4 g1 g2 g3 g4 p1 p2 p3 p4 bi bj bi1 bj1 eL eR eL2 eR2 B1 b1 hB2
  go_region_held3 (fun w' => w'.cell? ⟨w.heap.size, 0, none⟩ = some (.int .i64 (i : Int)) ∧ w'.cell? ⟨w.heap.size + 1, 0, none⟩ = some (.int .i64 (j : Int)) ∧ w'.cell? ⟨b, off + i * 2, none⟩ = some (.slice aL L1.length cL) ∧ w'.cell? ⟨b, off + i * 2 + 1, none⟩ = some (.slice aR R1.length cR) ∧ w'.cell? ⟨b, off + j * 2, none⟩ = some (.slice aL2 L2.length cL2) ∧ w'.cell? ⟨b, off + j * 2 + 1, none⟩ = some (.slice aR2 R2.length cR2)) (first | assumption | exact hS0) (first
    | (go_at_call 40; refine (HA.out _ (below_drewN (Below.refl _ W3) 1)).mono ?_; rintro e w4 ⟨v4, u4, rfl, n4, m4, b4⟩; obtain ⟨x4, c4, rfl, i4, r4, s4⟩ := New.ints n4; obtain ⟨y4, d4, rfl, j4, _⟩ := New.ints m4; have B4 : Below W3.heap.size W3 w4 := (below_drewN (Below.refl _ W3) 1).trans (b4.mono (by exact Nat.le_refl _)); have hS1 := hS.out _ B4)
    | (go_at_call 39; refine (HLp.out _ B4 x4 c4 y4 d4 i4 j4 r4 s4).mono ?_; rintro e w5 ⟨er, ps, v5, hls, rfl, n5, b5⟩; have B5 : Below W3.heap.size W3 w5 := B4.trans (b5.mono B4.size); have hS2 := hS.out _ B5))
  all_goals (
    go_wp2
    go_ret2
    exact ⟨er, ps, _, hans.out er ps hls, rfl, n5.mono (by have := HBW.out.size; have := B4.size; omega), HBW.out.trans (B5.mono HBW.out.size)⟩)

set_option maxRecDepth 100000 in
set_option maxHeartbeats 2000000 in
theorem Of_any (rs : RuleL) (i j : Int) (a : Option Addr) (cap : Nat) (w : World) (hR : RulesAt w.heap.size w a rs) :
    Calls Try.prog 12 #[.slice a rs.length cap, .int .i64 i, .int .i64 j] w fun e w' => OfAns rs i j w e w' := by
  obtain ⟨W2, hW2⟩ : ∃ W2, (w.alloc (.cells #[.int .i64 i] 3)).alloc (.cells #[.int .i64 j] 3) = W2 := ⟨_, rfl⟩
  have hB2 : Below w.heap.size w W2 := by rw [← hW2]; exact ((Below.refl _ w).alloc (Nat.le_refl _) _).alloc (by simp) _
  have hs2 : W2.heap.size = w.heap.size + 2 := by rw [← hW2]; simp
  have bi : Boxed W2 w.heap.size 3 (.int .i64 i) := by rw [← hW2]; exact (Boxed.new w _ _).alloc _
  have bj : Boxed W2 (w.heap.size + 1) 3 (.int .i64 j) := by
    rw [← hW2]
    have h := Boxed.new (w.alloc (.cells #[.int .i64 i] 3)) 3 (.int .i64 j)
    rwa [World.size_alloc] at h
  have C1 := hid (rulesCheck_any rs a cap W2 ((hR.below hB2).mono hB2.size))
  have HW2 := hid hW2
  clear hW2
  by_cases hr : Tm.rulesErr rs = 0
  · by_cases hi : 0 ≤ i ∧ i < (rs.length : Int)
    · by_cases hj : 0 ≤ j ∧ j < (rs.length : Int)
      · obtain ⟨i', rfl⟩ : ∃ k : Nat, i = (k : Int) := ⟨i.toNat, by omega⟩
        obtain ⟨j', rfl⟩ : ∃ k : Nat, j = (k : Int) := ⟨j.toNat, by omega⟩
        exact of_right rs i' j' (by omega) (by omega) a cap w hr hR
      · have hone : decide (0 ≤ i ∧ i < (rs.length : Int)) = true := by simpa using hi
        have htwo : decide (0 ≤ j ∧ j < (rs.length : Int)) = false := by simpa using hj
        have Hh1 := hid (fun W => hasRule_any a rs.length cap i W)
        have Hh2 := hid (fun W => hasRule_any a rs.length cap j W)
        rw [hone] at Hh1
        rw [htwo] at Hh2
        have Hsay : Hid (Tm.OfSays rs i j 5 []) := .inr (.inl ⟨hr, fun h => hj ⟨h.2.2.1, h.2.2.2⟩, rfl, rfl⟩)
        rw [hr] at C1
        clear hone htwo hr hR hi hj
        go_enter Try.func12, Try.ntmps12
        go_wp2_with fail
        rw [HW2.out]
        refine C1.out.mono ?_
        rintro e w1 ⟨rfl, b1⟩
        have B1 := hB2.trans (b1.mono hB2.size)
        have bi1 : Boxed w1 w.heap.size 3 (.int .i64 i) := (b1.block _ bi.lt).trans bi
        have bj1 : Boxed w1 (w.heap.size + 1) 3 (.int .i64 j) := (b1.block _ bj.lt).trans bj
        have ci := bi1.cell
        have cj := bj1.cell
        clear C1
        go_wp2_with fail
        refine (Hh1.out w1).mono ?_
        rintro e w1 ⟨rfl, rfl⟩
        go_wp2_with fail
        refine (Hh2.out w1).mono ?_
        rintro e w1 ⟨rfl, rfl⟩
        go_wp2
        go_ret2
        exact ⟨5, [], _, Hsay.out, rfl, NewP.nil _ _, B1⟩
    · have hone : decide (0 ≤ i ∧ i < (rs.length : Int)) = false := by simpa using hi
      have Hh1 := hid (fun W => hasRule_any a rs.length cap i W)
      rw [hone] at Hh1
      have Hsay : Hid (Tm.OfSays rs i j 5 []) := .inr (.inl ⟨hr, fun h => hi ⟨h.1, h.2.1⟩, rfl, rfl⟩)
      rw [hr] at C1
      clear hone hr hR hi
      go_enter Try.func12, Try.ntmps12
      go_wp2_with fail
      rw [HW2.out]
      refine C1.out.mono ?_
      rintro e w1 ⟨rfl, b1⟩
      have B1 := hB2.trans (b1.mono hB2.size)
      have bi1 : Boxed w1 w.heap.size 3 (.int .i64 i) := (b1.block _ bi.lt).trans bi
      have bj1 : Boxed w1 (w.heap.size + 1) 3 (.int .i64 j) := (b1.block _ bj.lt).trans bj
      have ci := bi1.cell
      have cj := bj1.cell
      clear C1
      go_wp2_with fail
      refine (Hh1.out w1).mono ?_
      rintro e w1 ⟨rfl, rfl⟩
      go_wp2
      go_ret2
      exact ⟨5, [], _, Hsay.out, rfl, NewP.nil _ _, B1⟩
  · have Hsay : Hid (Tm.OfSays rs i j (Tm.rulesErr rs) []) := .inl ⟨hr, rfl, rfl⟩
    have hn : (Tm.rulesErr rs != 0) = true := by simpa using hr
    clear hr hR
    unfold OfAns
    generalize Tm.rulesErr rs = q at *
    go_enter Try.func12, Try.ntmps12
    go_wp2_with fail
    rw [HW2.out]
    refine C1.out.mono ?_
    rintro e w1 ⟨rfl, b1⟩
    have B1 := hB2.trans (b1.mono hB2.size)
    have bi1 : Boxed w1 w.heap.size 3 (.int .i64 i) := (b1.block _ bi.lt).trans bi
    have bj1 : Boxed w1 (w.heap.size + 1) 3 (.int .i64 j) := (b1.block _ bj.lt).trans bj
    have ci := bi1.cell
    have cj := bj1.cell
    clear C1
    go_wp2
    go_ret2
    exact ⟨_, [], _, Hsay.out, rfl, NewP.nil _ _, B1⟩

end Go.Proofs.Ytgeknojpcjadkaa

namespace Go.Proofs.Ytgeknojpcjadkaa
open Go.Proofs Go.RowKit Go.Shelf Go.Maps

/-- 'append(out, more...)' of pairs. -/
theorem wp_append_pairs {ops : Array Oper} {rest : List Oper} {o : Oper} {a : Act} {Q : Exit → Act → World → Prop} (w : World) (hgd : o.guard = none) (s x : Operand)
    (ho : o.op = .call { callee := .builtin .append, args := #[s, x], argTypes := #[30, 30] }) (base : Nat) (v : Value) (ps : PairL) (hs : a.eval s = v) (hN : NewP base w v ps)
    (v2 : Value) (qs : PairL) (hx : a.eval x = v2) (hM : NewP base w v2 qs) (hlen : ps.length + qs.length ≤ 100000) (hbase : base ≤ w.heap.size)
    (h : ∀ v' w', NewP base w' v' (ps ++ qs) → Below base w w' → wpList Try.prog ops Q rest (a.put o.dst v') w') : wpList Try.prog ops Q (o :: rest) a w := by
  obtain ⟨i0, hi, hz0, hz1, hz2⟩ := info_parts Try.info42
  obtain ⟨us, h1, h2⟩ := hN
  obtain ⟨us', m1, m2⟩ := hM
  have hul : us.length = ps.length * 2 := h1.1
  have hul' : us'.length = qs.length * 2 := m1.1
  have hcell : ∀ u ∈ us', ∃ a n c, u = .slice a n c := fun u hu => by
    obtain ⟨k, hk, e⟩ := List.getElem_of_mem hu
    have hk2 : k / 2 < qs.length := by omega
    obtain ⟨y, y', q1, q2, n1, n2⟩ := m2 (k / 2) hk2
    rcases Nat.mod_two_eq_zero_or_one k with h0 | h0
    · rw [show k / 2 * 2 = k by omega, List.getElem?_eq_getElem hk, e] at q1
      cases q1
      obtain ⟨_, _, rfl, _⟩ := New.ints n1
      exact ⟨_, _, _, rfl⟩
    · rw [show k / 2 * 2 + 1 = k by omega, List.getElem?_eq_getElem hk, e] at q2
      cases q2
      obtain ⟨_, _, rfl, _⟩ := New.ints n2
      exact ⟨_, _, _, rfl⟩
  rcases m1.2 with ⟨rfl, hn⟩ | ⟨g, cap, cur, rfl, hb, hgb, r1, r2, r3⟩
  · obtain rfl : qs = [] := List.eq_nil_of_length_eq_zero hn
    refine wpList_append_own_none hgd s x 30 ho base 42 i0 2 Try.infoPairs hi v ps.length us hs h1 hx (h v w (by rw [List.append_nil]; exact ⟨us, h1, h2⟩) (Below.refl _ _))
  · refine wpList_append_own w hgd s x 30 ho base 42 i0 (.agg #[.slice none 0 0, .slice none 0 0]) 2 48 Try.infoPairs hi hz0 hz1 hz2 rfl (by decide) v ps.length us hs h1 ⟨g, 0, none⟩ qs.length cap us' hx (by omega)
      (by intro j z hj
          have hjl : j < qs.length * 2 := by
            have := (List.getElem?_eq_some_iff.1 hj).1
            omega
          rw [Go.WideShapes.add_plain]
          have := World.ownsRow.cellAt m1 j hjl
          rw [hj] at this
          simpa using this)
      (by intro u hu; obtain ⟨_, _, _, rfl⟩ := hcell u hu; rfl) (by unfold maxLen; omega) (by omega) hbase ?_
    intro v' w' hown hg _
    have hkeep : ∀ (u' : Value) (t' : List Int), New base w u' t' → New base w' u' t' := fun u' t' hN' => World.ownsRow.kept hN' hg (New.apartP hN' h1)
    refine h v' w' ⟨us ++ us', by simpa using hown, fun j hj => ?_⟩ ((Below.refl base w).grown hg hbase (fun k e => (World.ownsRow.lt h1 k e).1))
    by_cases hjl : j < ps.length
    · obtain ⟨y, y', q1, q2, n1, n2⟩ := h2 j hjl
      rw [List.getElem?_append_left hjl, List.getElem?_append_left (by omega), List.getElem?_append_left (by omega)]
      exact ⟨y, y', q1, q2, hkeep y _ n1, hkeep y' _ n2⟩
    · have hj2 : j - ps.length < qs.length := by rw [List.length_append] at hj; omega
      obtain ⟨y, y', q1, q2, n1, n2⟩ := m2 (j - ps.length) hj2
      rw [List.getElem?_append_right (by omega), List.getElem?_append_right (by omega), List.getElem?_append_right (by omega), hul]
      rw [show j * 2 - ps.length * 2 = (j - ps.length) * 2 by omega, show j * 2 + 1 - ps.length * 2 = (j - ps.length) * 2 + 1 by omega]
      exact ⟨y, y', q1, q2, hkeep y _ n1, hkeep y' _ n2⟩

/-- What pairs.All has found ahead of rules i, j. -/
inductive Tm.AllTo (rs : RuleL) : Nat → Nat → PairL → Prop
  | zero : Tm.AllTo rs 0 0 []
  | next {i j : Nat} {l ps : PairL} : Tm.AllTo rs i j l → j < rs.length → Tm.OfSays rs (i : Int) (j : Int) 0 ps → Tm.AllTo rs i (j + 1) (l ++ ps)
  | row {i : Nat} {l : PairL} : Tm.AllTo rs i rs.length l → Tm.AllTo rs (i + 1) 0 l
/-- What pairs.All answers. -/
def Tm.AllPSays (rs : RuleL) (er : Int) (ps : PairL) : Prop :=
  (∃ l, Tm.AllTo rs rs.length 0 l ∧ ((l.length ≤ 40 ∧ er = 0 ∧ ps = l) ∨ (40 < l.length ∧ er = 2 ∧ ps = []))) ∨
  (∃ i j l qs, i < rs.length ∧ j < rs.length ∧ Tm.AllTo rs i j l ∧ Tm.OfSays rs (i : Int) (j : Int) er qs ∧ er ≠ 0 ∧ ps = [])
theorem Tm.OfSays.len {rs : RuleL} {i j : Nat} {ps : PairL} (h : Tm.OfSays rs (i : Int) (j : Int) 0 ps) : rs.length ≤ 8 ∧ ps.length ≤ 30 := by
  rcases h with ⟨h1, h2, _⟩ | ⟨_, _, h2, _⟩ | ⟨h1, a, b, ha, hb, _, _, h3⟩
  · exact absurd h2.symm h1
  · omega
  · obtain ⟨h8, hall⟩ := Tm.rulesErr_ok h1
    obtain ⟨eL, _⟩ := Tm.ruleErr_ok (hall a ha)
    have := Tm.err_len eL
    refine ⟨h8, ?_⟩
    rcases h3 with ⟨_, h4⟩ | ⟨h4, _⟩
    · have := h4.len
      omega
    · exact absurd rfl h4.1
theorem Tm.AllTo.len {rs : RuleL} {i j : Nat} {l : PairL} (h : Tm.AllTo rs i j l) : j ≤ rs.length ∧ l.length ≤ 30 * (i * rs.length + j) := by
  induction h with
  | zero => simp
  | next h1 h2 h3 ih =>
    have := h3.len.2
    rw [List.length_append]
    refine ⟨h2, ?_⟩
    have := ih.2
    rw [Nat.mul_add] at this ⊢
    omega
  | row h1 ih =>
    refine ⟨Nat.zero_le _, ?_⟩
    have := ih.2
    rw [Nat.add_zero, Nat.add_mul, Nat.one_mul]
    exact this

set_option maxRecDepth 100000 in
set_option maxHeartbeats 2000000 in
theorem AllP_any (rs : RuleL) (a : Option Addr) (cap : Nat) (w : World) (hR : RulesAt w.heap.size w a rs) (hcl : rs.length ≤ maxLen) :
    Calls Try.prog 45 #[.slice a rs.length cap] w fun e w' => ∃ er ps v, Tm.AllPSays rs er ps ∧ e = .returned (.tuple #[v, .int .i64 er]) ∧ NewP w.heap.size w' v ps ∧ Below w.heap.size w w' := by
  have hcl' : (rs.length : Int) ≤ 9223372036854775807 := by unfold maxLen at hcl; omega
  have HR := hid hR
  clear hR hcl
  go_enter Try.func45, Try.ntmps45
  go_wp2
  go_loopw [4, 11] (fun v x wr => ∃ (i : Nat) (l : PairL), i ≤ rs.length ∧ x = .int .i64 (i : Int) ∧ Hid (Tm.AllTo rs i 0 l) ∧ Hid (NewP w.heap.size wr v l) ∧ Below w.heap.size w wr) (fun _ x _ => rs.length - (intOf x).toNat)
  case atStart => exact ⟨0, [], Nat.zero_le _, rfl, .zero, NewP.nil _ _, Below.refl _ _⟩
  case round =>
    obtain ⟨i, l, hi, rfl, hA, hN, hB⟩ := hrel
    obtain ⟨va, vc, rfl⟩ := hN.out.slice
    by_cases hlt : i < rs.length
    · have hlt' : (i : Int) < (rs.length : Int) := by omega
      go_wp2
      go_loopw [4, 16] (fun v x wq => ∃ (j : Nat) (l : PairL), j ≤ rs.length ∧ x = .int .i64 (j : Int) ∧ Hid (Tm.AllTo rs i j l) ∧ Hid (NewP w.heap.size wq v l) ∧ Below w.heap.size w wq) (fun _ x _ => rs.length - (intOf x).toNat)
      case atStart => exact ⟨0, l, Nat.zero_le _, rfl, hA, hN, hB⟩
      case round =>
        obtain ⟨j, l, hj, rfl, hA, hN, hB⟩ := hrel
        obtain ⟨va, vc, rfl⟩ := hN.out.slice
        by_cases hlj : j < rs.length
        · have hlj' : (j : Int) < (rs.length : Int) := by omega
          have hO := hid (Of_any rs (i : Int) (j : Int) a cap wr ((HR.out.below hB).mono hB.size))
          go_wp2_with fail
          refine hO.out.mono ?_
          rintro e w1 ⟨er, ps, v1, hsay, rfl, n1, b1⟩
          have B1 := hB.trans (b1.mono hB.size)
          obtain ⟨xa, xc, rfl⟩ := n1.slice
          clear hO
          by_cases he : er = 0
          · subst he
            have N0 := hid (hN.out.below b1)
            have N1 := hid (n1.mono hB.size)
            have hA' := hid (Tm.AllTo.next hA.out hlj hsay)
            have hl1 := hA.out.len.2
            obtain ⟨h8, hl2⟩ := hsay.len
            have hmul : i * rs.length ≤ 8 * 8 := Nat.mul_le_mul (by omega) h8
            have hle : l.length + ps.length ≤ 100000 := by omega
            clear hl1 hmul h8 hl2 n1 hsay
            go_wp2_with (at_builtin; go_loud (refine wp_append_pairs _ rfl _ _ rfl w.heap.size _ l rfl N0.out _ ps rfl N1.out hle B1.size ?_); intro v' w2 hN2 hB2; obtain ⟨a2, c2, rfl⟩ := hN2.slice)
            go_roundw
            case rel => exact ⟨j + 1, _, by omega, by go_num, hA', hid (by simpa only [List.length_append] using hN2), B1.trans hB2⟩
            case measure => simp [intOf]; omega
          · have hne : (er != 0) = true := by simpa using he
            have Hs : Hid (Tm.AllPSays rs er []) := .inr ⟨i, j, l, ps, hlt, hlj, hA.out, hsay, he, rfl⟩
            clear he hsay
            go_wp2
            go_ret2
            exact ⟨er, [], _, Hs.out, rfl, NewP.nil _ _, B1⟩
        · obtain rfl : j = rs.length := by omega
          go_wp2
          go_roundw
          case rel => exact ⟨i + 1, l, by omega, by go_num, hid (.row hA.out), hN, hB⟩
          case measure => simp [intOf]; omega
    · obtain rfl : i = rs.length := by omega
      by_cases h40 : 40 < l.length
      · have h40' : (40 : Int) < (l.length : Int) := by omega
        have Hs : Hid (Tm.AllPSays rs 2 []) := .inl ⟨l, hA.out, .inr ⟨h40, rfl, rfl⟩⟩
        clear h40
        go_wp2
        go_ret2
        exact ⟨2, [], _, Hs.out, rfl, NewP.nil _ _, hB⟩
      · have h40' : decide ((40 : Int) < (l.length : Int)) = false := by simp; omega
        have Hs : Hid (Tm.AllPSays rs 0 l) := .inl ⟨l, hA.out, .inl ⟨by omega, rfl, rfl⟩⟩
        clear h40
        go_wp2
        go_ret2
        exact ⟨0, l, _, Hs.out, rfl, hN.out, hB⟩

end Go.Proofs.Ytgeknojpcjadkaa

namespace Go.Proofs.Ytgeknojpcjadkaa
open Go.Proofs Go.RowKit Go.Shelf Go.Maps

section
variable {L1 R1 L2 R2 : List Int} {pass : Nat → Bool}
theorem Tm.Laps.at {n : Nat} {l : PairL} (h : Tm.Laps L1 R1 L2 R2 pass n l) : ∀ m, m < n → ∃ l', Tm.Laps L1 R1 L2 R2 pass m l' ∧ (pass m = true ∨ (∃ val, Tm.MeetSays [(Tm.part L1 m, L2)] 0 false val) ∨ (∃ val, Tm.MeetSays [(Tm.part L1 m, L2)] 0 true val ∧ Tm.prtErr val L1 R1 (m : Int) R2 = 0)) := by
  induction h with
  | zero => intro m hm; omega
  | @pass k l h hp ih =>
    intro m hm
    by_cases e : m = k
    · subst e; exact ⟨l, h, .inl hp⟩
    · exact ih m (by omega)
  | @no k l val h hp hs ih =>
    intro m hm
    by_cases e : m = k
    · subst e; exact ⟨l, h, .inr (.inl ⟨val, hs⟩)⟩
    · exact ih m (by omega)
  | @yes k l val h hp hs he ih =>
    intro m hm
    by_cases e : m = k
    · subst e; exact ⟨l, h, .inr (.inr ⟨val, hs, he⟩)⟩
    · exact ih m (by omega)
theorem Tm.Laps.one {n : Nat} {l l' : PairL} (h : Tm.Laps L1 R1 L2 R2 pass n l) (h' : Tm.Laps L1 R1 L2 R2 pass n l') : l = l' := by
  induction h generalizing l' with
  | zero => cases h'; rfl
  | pass h hp ih =>
    cases h' with
    | pass h2 _ => exact ih h2
    | no _ hq _ => rw [hp] at hq; cases hq
    | yes _ hq _ _ => rw [hp] at hq; cases hq
  | no h hp hs ih =>
    cases h' with
    | pass _ hq => rw [hp] at hq; cases hq
    | no h2 _ _ => exact ih h2
    | yes _ _ hs2 _ => have := (hs.one hs2).2.1; cases this
  | yes h hp hs he ih =>
    cases h' with
    | pass _ hq => rw [hp] at hq; cases hq
    | no _ _ hs2 => have := (hs.one hs2).2.1; cases this
    | yes h2 _ hs2 _ =>
      obtain ⟨_, _, rfl⟩ := hs.one hs2
      rw [ih h2]
theorem Tm.LapsSays.right {l ps : PairL} {e : Int} (h : Tm.Laps L1 R1 L2 R2 pass L1.length l) (h' : Tm.LapsSays L1 R1 L2 R2 pass e ps) : e = 0 ∧ ps = l := by
  rcases h' with ⟨rfl, h2⟩ | ⟨⟨h0, m, l', hm, hl', hp, hs⟩, rfl⟩
  · exact ⟨rfl, h2.one h⟩
  · obtain ⟨_, _, q | ⟨val, q⟩ | ⟨val, q, q'⟩⟩ := h.at m hm
    · rw [hp] at q; cases q
    · rcases hs with ⟨is, v, hs⟩ | ⟨v, hs, _⟩
      · exact absurd (q.one hs).1.symm h0
      · have := (q.one hs).2.1; cases this
    · rcases hs with ⟨is, v, hs⟩ | ⟨v, hs, he⟩
      · exact absurd (q.one hs).1.symm h0
      · obtain ⟨_, _, rfl⟩ := q.one hs
        rw [q'] at he
        exact absurd he.symm h0
end
theorem Tm.OfSays.right {rs : RuleL} {a b : Nat} {l ps : PairL} {e : Int} (hr : Tm.rulesErr rs = 0) (ha : a < rs.length) (hb : b < rs.length) (h : Tm.Laps (rs[a]?.getD ([], [])).1 (rs[a]?.getD ([], [])).2 (Tm.others (rs[b]?.getD ([], [])).1) (Tm.others (rs[b]?.getD ([], [])).2) (Tm.passB (rs[a]?.getD ([], [])).1 (a : Int) (b : Int)) (rs[a]?.getD ([], [])).1.length l) (h' : Tm.OfSays rs (a : Int) (b : Int) e ps) : e = 0 ∧ ps = l := by
  rcases h' with ⟨h1, _⟩ | ⟨_, h2, _⟩ | ⟨_, a', b', _, _, ea, eb, h3⟩
  · exact absurd hr h1
  · exact absurd ⟨by omega, by omega, by omega, by omega⟩ h2
  · obtain rfl : a = a' := by omega
    obtain rfl : b = b' := by omega
    exact h3.right h

/-- Two symbols clash ahead of any variable. -/
def Tm.clash : List Int → List Int → Bool
  | s :: x, t :: y => if s < 0 ∨ t < 0 then false else if s = t then Tm.clash x y else true
  | _, _ => false
theorem Tm.clash_no (θ : Wb.Sb) : ∀ (x y : List Int), Tm.clash x y = true → Wb.App θ x ≠ Wb.App θ y := by
  intro x
  induction x with
  | nil => intro y h; simp [Tm.clash] at h
  | cons s x ih =>
    intro y h
    cases y with
    | nil => simp [Tm.clash] at h
    | cons t y =>
      rw [Tm.clash] at h
      by_cases h1 : s < 0 ∨ t < 0
      · rw [if_pos h1] at h; cases h
      · rw [if_neg h1] at h
        rw [Wb.App_cons, Wb.App_cons, if_neg (by omega), if_neg (by omega), List.singleton_append, List.singleton_append]
        by_cases e : s = t
        · rw [if_pos e] at h
          intro hh
          exact ih y h (List.cons.inj hh).2
        · intro hh
          exact e (List.cons.inj hh).1
theorem Tm.no_of {x y : List Int} (h : Tm.firstPair [(x, y)] = 0) (hc : Tm.clash x y = true) : Tm.MeetSays [(x, y)] 0 false [] :=
  .inr (.inl ⟨h, fun θ _ H => Tm.clash_no θ x y hc (H 0 (by simp)), rfl, rfl, rfl⟩)

def Tm.leastB (vs : List (List Int)) : Bool := (List.range 8).all fun i : Nat => (vs[i]?.getD []).length != 1 || decide (0 ≤ (vs[i]?.getD []).headD 0) || decide (-1 - (i : Int) ≤ (vs[i]?.getD []).headD 0)
theorem Tm.mguOf {ps : PairL} {vs : List (List Int)} (h1 : Tm.subErr vs = 0) (hs : Wb.Same ps ps.length (Tm.ofL vs)) (hl : Tm.leastB vs = true) (hm : ∀ θ, Wb.TermSb θ → Wb.Same ps ps.length θ → ∀ i : Nat, i < 8 → θ (-1 - (i : Int)) = Wb.App θ (vs[i]?.getD [])) : Wb.Mgu ps (Tm.ofL vs) := by
  have h8 := (Tm.subErr_ok h1).1
  have hi : ∀ v : Int, -8 ≤ v → v < 0 → ∃ i : Nat, i < 8 ∧ v = -1 - (i : Int) := fun v a b => ⟨(-1 - v).toNat, by omega, by omega⟩
  refine ⟨Tm.ofL_term h1, fun v a b s hs' => ?_, hs, fun θ hθ H v a b => ?_, fun v u a b e hu => ?_⟩
  · obtain ⟨i, hi8, rfl⟩ := hi v a b
    rw [Tm.ofL_at vs hi8] at hs'
    have hk := Tm.err_all (Tm.firstErr_all (Tm.subErr_ok h1).2 i (by omega))
    rw [List.all_eq_true] at hk
    exact ⟨Tm.known_ge (hk s hs'), Tm.known_lt (hk s hs')⟩
  · obtain ⟨i, hi8, rfl⟩ := hi v a b
    rw [Tm.ofL_at vs hi8]
    exact hm θ hθ H i hi8
  · obtain ⟨i, hi8, rfl⟩ := hi v a b
    rw [Tm.ofL_at vs hi8] at e
    unfold Tm.leastB at hl
    rw [List.all_eq_true] at hl
    have := hl i (List.mem_range.2 hi8)
    rw [e] at this
    simp at this
    omega
theorem Wb.split2 {θ : Wb.Sb} (hθ : Wb.TermSb θ) {a b c d : List Int} (ha : Tm.run a 1 = a.length) (hc : Tm.run c 1 = c.length) (h : Wb.App θ (4 :: (a ++ b)) = Wb.App θ (4 :: (c ++ d))) : Wb.App θ a = Wb.App θ c ∧ Wb.App θ b = Wb.App θ d := by
  rw [Wb.App_cons, Wb.App_cons, if_neg (by omega), Wb.App_append, Wb.App_append] at h
  exact Wb.split (Wb.App_run hθ a 1 ha) (Wb.App_run hθ c 1 hc) (List.cons.inj h).2
theorem Tm.yes_of {ps : PairL} {vs : List (List Int)} (h0 : Tm.firstPair ps = 0) (h1 : Tm.subErr vs = 0) (M : Wb.Mgu ps (Tm.ofL vs)) : Tm.MeetSays ps 0 true vs := by
  have h8 := (Tm.subErr_ok h1).1
  refine .inr (.inr (.inl ⟨h0, _, M, fun i hi => ?_, rfl, rfl, (Tm.sbL_ofL h8).symm⟩))
  rw [Tm.ofL_at _ hi]
  exact Tm.err_len (Tm.firstErr_all (Tm.subErr_ok h1).2 i (by omega))

def Tm.pv0 : List (List Int) := [[0], [-2], [-3], [-4], [-2], [-6], [-7], [-8]]
def Tm.pv1 : List (List Int) := [[2, -2], [-2], [-3], [-4], [-2], [-6], [-7], [-8]]
def Tm.pv2 : List (List Int) := [[4, -5, -6], [-2], [-3], [-4], [-5], [-6], [-2], [-8]]
theorem Tm.pm0 : Tm.MeetSays [([4, -1, -2], [4, 0, -5])] 0 true Tm.pv0 := by
  refine Tm.yes_of (by decide +kernel) (by decide +kernel) (Tm.mguOf (by decide +kernel) (fun j hj => ?_) (by decide +kernel) fun θ hθ H i hi => ?_)
  · obtain rfl : j = 0 := by simp at hj; omega
    decide +kernel
  · obtain ⟨e1, e2⟩ := Wb.split2 (a := [-1]) (b := [-2]) (c := [0]) (d := [-5]) hθ (by decide +kernel) (by decide +kernel) (H 0 (by simp))
    rw [Wb.App1 θ (by omega)] at e1
    rw [Wb.App1 θ (by omega), Wb.App1 θ (by omega)] at e2
    match i, hi with
    | 0, _ => exact e1
    | 1, _ => exact (Wb.App1 θ (by omega)).symm
    | 2, _ => exact (Wb.App1 θ (by omega)).symm
    | 3, _ => exact (Wb.App1 θ (by omega)).symm
    | 4, _ => exact e2.symm.trans (Wb.App1 θ (by omega)).symm
    | 5, _ => exact (Wb.App1 θ (by omega)).symm
    | 6, _ => exact (Wb.App1 θ (by omega)).symm
    | 7, _ => exact (Wb.App1 θ (by omega)).symm
theorem Tm.pm1 : Tm.MeetSays [([4, -1, -2], [4, 2, -5, -5])] 0 true Tm.pv1 := by
  refine Tm.yes_of (by decide +kernel) (by decide +kernel) (Tm.mguOf (by decide +kernel) (fun j hj => ?_) (by decide +kernel) fun θ hθ H i hi => ?_)
  · obtain rfl : j = 0 := by simp at hj; omega
    decide +kernel
  · obtain ⟨e1, e2⟩ := Wb.split2 (a := [-1]) (b := [-2]) (c := [2, -5]) (d := [-5]) hθ (by decide +kernel) (by decide +kernel) (H 0 (by simp))
    rw [Wb.App1 θ (by omega)] at e1
    rw [Wb.App1 θ (by omega), Wb.App1 θ (by omega)] at e2
    have e3 : Wb.App θ [2, -5] = Wb.App θ [2, -2] := by
      rw [Wb.App_cons θ 2 [-5], Wb.App_cons θ 2 [-2], Wb.App1 θ (by omega), Wb.App1 θ (by omega), e2]
    match i, hi with
    | 0, _ => exact e1.trans e3
    | 1, _ => exact (Wb.App1 θ (by omega)).symm
    | 2, _ => exact (Wb.App1 θ (by omega)).symm
    | 3, _ => exact (Wb.App1 θ (by omega)).symm
    | 4, _ => exact e2.symm.trans (Wb.App1 θ (by omega)).symm
    | 5, _ => exact (Wb.App1 θ (by omega)).symm
    | 6, _ => exact (Wb.App1 θ (by omega)).symm
    | 7, _ => exact (Wb.App1 θ (by omega)).symm
theorem Tm.pm2 : Tm.MeetSays [([4, -1, -2], [4, 4, -5, -6, -7])] 0 true Tm.pv2 := by
  refine Tm.yes_of (by decide +kernel) (by decide +kernel) (Tm.mguOf (by decide +kernel) (fun j hj => ?_) (by decide +kernel) fun θ hθ H i hi => ?_)
  · obtain rfl : j = 0 := by simp at hj; omega
    decide +kernel
  · obtain ⟨e1, e2⟩ := Wb.split2 (a := [-1]) (b := [-2]) (c := [4, -5, -6]) (d := [-7]) hθ (by decide +kernel) (by decide +kernel) (H 0 (by simp))
    rw [Wb.App1 θ (by omega)] at e1
    rw [Wb.App1 θ (by omega), Wb.App1 θ (by omega)] at e2
    match i, hi with
    | 0, _ => exact e1
    | 1, _ => exact (Wb.App1 θ (by omega)).symm
    | 2, _ => exact (Wb.App1 θ (by omega)).symm
    | 3, _ => exact (Wb.App1 θ (by omega)).symm
    | 4, _ => exact (Wb.App1 θ (by omega)).symm
    | 5, _ => exact (Wb.App1 θ (by omega)).symm
    | 6, _ => exact e2.symm.trans (Wb.App1 θ (by omega)).symm
    | 7, _ => exact (Wb.App1 θ (by omega)).symm

/-- A place where symbols clash, or that is passed over. -/
theorem Tm.Laps.clash {L1 R1 L2 R2 : List Int} {pass : Nat → Bool} {m : Nat} {l : PairL} (h : Tm.Laps L1 R1 L2 R2 pass m l) (hc : pass m = true ∨ (pass m = false ∧ Tm.firstPair [(Tm.part L1 m, L2)] = 0 ∧ Tm.clash (Tm.part L1 m) L2 = true)) : Tm.Laps L1 R1 L2 R2 pass (m + 1) l := by
  rcases hc with hp | ⟨hp, h1, h2⟩
  · exact .pass h hp
  · exact .no h hp (Tm.no_of h1 h2)
/-- Nothing but such places. -/
def Tm.allClash (L1 L2 : List Int) (pass : Nat → Bool) (from' upto : Nat) : Bool := (List.range (upto - from')).all fun k => pass (from' + k) || (decide (Tm.firstPair [(Tm.part L1 (from' + k), L2)] = 0) && Tm.clash (Tm.part L1 (from' + k)) L2)
theorem Tm.Laps.run {L1 R1 L2 R2 : List Int} {pass : Nat → Bool} {m : Nat} {l : PairL} (h : Tm.Laps L1 R1 L2 R2 pass m l) : ∀ n, Tm.allClash L1 L2 pass m (m + n) = true → Tm.Laps L1 R1 L2 R2 pass (m + n) l := by
  intro n
  induction n with
  | zero => intro _; exact h
  | succ n ih =>
    intro hc
    unfold Tm.allClash at hc ih
    rw [Nat.add_sub_cancel_left] at hc ih
    rw [List.range_succ, List.all_append, Bool.and_eq_true] at hc
    refine (ih hc.1).clash ?_
    have h2 := hc.2
    simp at h2
    cases hp : pass (m + n) with
    | true => exact .inl rfl
    | false =>
      rw [hp] at h2
      simp at h2
      exact .inr ⟨rfl, h2.1, h2.2⟩

/-- The pairs of two rules of a group. -/
def Tm.GrpLaps (a b : Nat) (l : PairL) : Prop := Tm.Laps (groupL[a]?.getD ([], [])).1 (groupL[a]?.getD ([], [])).2 (Tm.others (groupL[b]?.getD ([], [])).1) (Tm.others (groupL[b]?.getD ([], [])).2) (Tm.passB (groupL[a]?.getD ([], [])).1 (a : Int) (b : Int)) (groupL[a]?.getD ([], [])).1.length l
theorem Tm.grp_no (a b : Nat) (h : Tm.allClash (groupL[a]?.getD ([], [])).1 (Tm.others (groupL[b]?.getD ([], [])).1) (Tm.passB (groupL[a]?.getD ([], [])).1 (a : Int) (b : Int)) 0 (groupL[a]?.getD ([], [])).1.length = true) : Tm.GrpLaps a b [] := by
  have := Tm.Laps.run (.zero : Tm.Laps (groupL[a]?.getD ([], [])).1 (groupL[a]?.getD ([], [])).2 (Tm.others (groupL[b]?.getD ([], [])).1) (Tm.others (groupL[b]?.getD ([], [])).2) (Tm.passB (groupL[a]?.getD ([], [])).1 (a : Int) (b : Int)) 0 []) (groupL[a]?.getD ([], [])).1.length (by rw [Nat.zero_add]; exact h)
  rwa [Nat.zero_add] at this
/-- A rule that laps over the third one at place 1 alone. -/
theorem Tm.grp_yes (b : Nat) (vs : List (List Int)) (x : List Int × List Int) (hs : Tm.MeetSays [([4, -1, -2], Tm.others (groupL[b]?.getD ([], [])).1)] 0 true vs)
    (h1 : Tm.allClash [4, 4, -1, -2, -3] (Tm.others (groupL[b]?.getD ([], [])).1) (Tm.passB [4, 4, -1, -2, -3] 2 (b : Int)) 0 1 = true) (h2 : Tm.allClash [4, 4, -1, -2, -3] (Tm.others (groupL[b]?.getD ([], [])).1) (Tm.passB [4, 4, -1, -2, -3] 2 (b : Int)) 2 5 = true)
    (h3 : Tm.passB [4, 4, -1, -2, -3] 2 (b : Int) 1 = false) (h4 : Tm.prtErr vs [4, 4, -1, -2, -3] [4, -1, 4, -2, -3] 1 (Tm.others (groupL[b]?.getD ([], [])).2) = 0) (h5 : Tm.prtVal vs [4, 4, -1, -2, -3] [4, -1, 4, -2, -3] 1 (Tm.others (groupL[b]?.getD ([], [])).2) = x) : Tm.GrpLaps 2 b [x] := by
  have q1 : Tm.Laps [4, 4, -1, -2, -3] [4, -1, 4, -2, -3] (Tm.others (groupL[b]?.getD ([], [])).1) (Tm.others (groupL[b]?.getD ([], [])).2) (Tm.passB [4, 4, -1, -2, -3] 2 (b : Int)) 1 [] := Tm.Laps.run .zero 1 h1
  have q2 := Tm.Laps.yes (val := vs) q1 h3 (by rw [show Tm.part [4, 4, -1, -2, -3] 1 = [4, -1, -2] from by decide +kernel]; exact hs) h4
  have q3 := Tm.Laps.run q2 3 h2
  rw [show Tm.prtVal vs [4, 4, -1, -2, -3] [4, -1, 4, -2, -3] ((1 : Nat) : Int) (Tm.others (groupL[b]?.getD ([], [])).2) = x from h5] at q3
  exact q3
theorem Tm.grp20 : Tm.GrpLaps 2 0 [([4, -1, -2], [4, 0, 4, -1, -2])] := Tm.grp_yes 0 Tm.pv0 _ Tm.pm0 (by decide +kernel) (by decide +kernel) (by decide +kernel) (by decide +kernel) (by decide +kernel)
theorem Tm.grp21 : ∃ x, Tm.GrpLaps 2 1 [x] := ⟨_, Tm.grp_yes 1 Tm.pv1 _ Tm.pm1 (by decide +kernel) (by decide +kernel) (by decide +kernel) (by decide +kernel) rfl⟩
theorem Tm.grp22 : Tm.GrpLaps 2 2 [([4, 4, -1, 4, -2, -3, -4], [4, 4, -1, -2, 4, -3, -4])] := Tm.grp_yes 2 Tm.pv2 _ Tm.pm2 (by decide +kernel) (by decide +kernel) (by decide +kernel) (by decide +kernel) (by decide +kernel)
theorem Tm.grp_len : ∀ a b, a < 3 → b < 3 → ∃ l, Tm.GrpLaps a b l ∧ l.length = if a = 2 then 1 else 0
  | 0, 0, _, _ => ⟨[], Tm.grp_no 0 0 (by decide +kernel), rfl⟩
  | 0, 1, _, _ => ⟨[], Tm.grp_no 0 1 (by decide +kernel), rfl⟩
  | 0, 2, _, _ => ⟨[], Tm.grp_no 0 2 (by decide +kernel), rfl⟩
  | 1, 0, _, _ => ⟨[], Tm.grp_no 1 0 (by decide +kernel), rfl⟩
  | 1, 1, _, _ => ⟨[], Tm.grp_no 1 1 (by decide +kernel), rfl⟩
  | 1, 2, _, _ => ⟨[], Tm.grp_no 1 2 (by decide +kernel), rfl⟩
  | 2, 0, _, _ => ⟨_, Tm.grp20, rfl⟩
  | 2, 1, _, _ => ⟨_, Tm.grp21.choose_spec, rfl⟩
  | 2, 2, _, _ => ⟨_, Tm.grp22, rfl⟩
theorem Tm.grp_of {a b : Nat} {l ps : PairL} {e : Int} (ha : a < 3) (hb : b < 3) (h : Tm.GrpLaps a b l) (h' : Tm.OfSays groupL (a : Int) (b : Int) e ps) : e = 0 ∧ ps = l := h'.right Tm.g7 ha hb h
theorem Tm.grp_to {i j : Nat} {l : PairL} (h : Tm.AllTo groupL i j l) : i ≤ 3 → j ≤ 3 ∧ (i = 3 → j = 0) ∧ l.length = if i = 2 then j else if i = 3 then 3 else 0 := by
  induction h with
  | zero => intro _; exact ⟨by omega, fun h => by omega, rfl⟩
  | @next i j l ps h hj hs ih =>
    intro hi
    have hj3 : j < 3 := hj
    obtain ⟨q1, q2, q3⟩ := ih hi
    by_cases hi3 : i = 3
    · subst hi3
      rcases hs with ⟨h1, _⟩ | ⟨_, _, h2, _⟩ | ⟨_, a, b, ha, _, ea, _⟩
      · exact absurd Tm.g7 h1
      · omega
      · have : a < 3 := ha
        omega
    · obtain ⟨l', g1, g2⟩ := Tm.grp_len i j (by omega) hj3
      obtain ⟨_, rfl⟩ := Tm.grp_of (by omega) hj3 g1 hs
      refine ⟨by omega, fun h => absurd h hi3, ?_⟩
      rw [List.length_append, q3, g2]
      by_cases h2 : i = 2
      · rw [if_pos h2, if_pos h2, if_pos h2]
      · rw [if_neg h2, if_neg h2, if_neg h2, if_neg hi3]
  | @row i l h ih =>
    intro hi
    obtain ⟨q1, q2, q3⟩ := ih (by omega)
    refine ⟨by omega, fun _ => rfl, ?_⟩
    rw [q3]
    have hl : groupL.length = 3 := rfl
    by_cases h2 : i = 2
    · subst h2; rfl
    · rw [if_neg h2]
      by_cases h3 : i = 3
      · omega
      · rw [if_neg h3]
        by_cases h1 : i + 1 = 2
        · rw [if_pos h1]
        · rw [if_neg h1, if_neg (by omega)]
theorem Tm.grp_all {er : Int} {ps : PairL} (h : Tm.AllPSays groupL er ps) : er = 0 ∧ ps.length = 3 := by
  rcases h with ⟨l, hl, q⟩ | ⟨i, j, l, qs, hi, hj, hl, hs, h0, _⟩
  · have h3 : l.length = 3 := (Tm.grp_to (i := 3) hl (Nat.le_refl _)).2.2
    rcases q with ⟨_, rfl, rfl⟩ | ⟨q, _⟩
    · exact ⟨rfl, h3⟩
    · omega
  · have hi3 : i < 3 := hi
    have hj3 : j < 3 := hj
    obtain ⟨l', g1, _⟩ := Tm.grp_len i j hi3 hj3
    exact absurd (Tm.grp_of hi3 hj3 g1 hs).1 h0
end Go.Proofs.Ytgeknojpcjadkaa

namespace Go.Proofs.Ytgeknojpcjadkaa
open Go.Proofs Go.RowKit Go.Shelf Go.Maps

end Go.Proofs.Ytgeknojpcjadkaa

namespace Go.Proofs.Ytgeknojpcjadkaa
open Go.Proofs Go.RowKit Go.Shelf Go.Maps

/-- What a term is, A telling what symbols are, vs what variables are; n: more than its parts' depth. -/
def Tm.vl (A : Int → Nat → Nat → Nat) (vs : Nat → Nat) : Nat → List Int → Nat
  | 0, x => if Tm.sym x < 0 then vs (-1 - Tm.sym x).toNat else A (Tm.sym x) 0 0
  | n + 1, x => if Tm.sym x < 0 then vs (-1 - Tm.sym x).toNat else A (Tm.sym x) (if 0 < Tm.room (Tm.sym x) then Tm.vl A vs n (Tm.kid x 0) else 0) (if 1 < Tm.room (Tm.sym x) then Tm.vl A vs n (Tm.kid x 1) else 0)
theorem Tm.no_kid {x : List Int} (h : x.length = 0) (m : Nat) : ¬ m < Tm.room (Tm.sym x) := fun hm => by
  have := Tm.kid_short hm
  omega
theorem Tm.vl_more {A : Int → Nat → Nat → Nat} {vs : Nat → Nat} : ∀ (n m : Nat) (x : List Int), x.length ≤ n → x.length ≤ m → Tm.vl A vs n x = Tm.vl A vs m x := by
  intro n
  induction n with
  | zero =>
    intro m x h _
    cases m with
    | zero => rfl
    | succ m => rw [Tm.vl, Tm.vl, if_neg (Tm.no_kid (by omega) 0), if_neg (Tm.no_kid (by omega) 1)]
  | succ n ih =>
    intro m x h h'
    cases m with
    | zero => rw [Tm.vl, Tm.vl, if_neg (Tm.no_kid (by omega) 0), if_neg (Tm.no_kid (by omega) 1)]
    | succ m =>
      rw [Tm.vl, Tm.vl]
      by_cases hs : Tm.sym x < 0
      · rw [if_pos hs, if_pos hs]
      · rw [if_neg hs, if_neg hs]
        have hk : ∀ i, i < Tm.room (Tm.sym x) → Tm.vl A vs n (Tm.kid x i) = Tm.vl A vs m (Tm.kid x i) := fun i hi => by
          have := Tm.kid_short hi
          exact ih m _ (by omega) (by omega)
        congr 1
        · by_cases h0 : 0 < Tm.room (Tm.sym x)
          · rw [if_pos h0, if_pos h0, hk 0 h0]
          · rw [if_neg h0, if_neg h0]
        · by_cases h0 : 1 < Tm.room (Tm.sym x)
          · rw [if_pos h0, if_pos h0, hk 1 h0]
          · rw [if_neg h0, if_neg h0]
def Tm.val (A : Int → Nat → Nat → Nat) (vs : Nat → Nat) (x : List Int) : Nat := Tm.vl A vs x.length x
theorem Tm.val_var {A : Int → Nat → Nat → Nat} {vs : Nat → Nat} {x : List Int} (h : Tm.sym x < 0) : Tm.val A vs x = vs (-1 - Tm.sym x).toNat := by
  unfold Tm.val
  cases x.length with
  | zero => rw [Tm.vl, if_pos h]
  | succ n => rw [Tm.vl, if_pos h]
theorem Tm.val_sym {A : Int → Nat → Nat → Nat} {vs : Nat → Nat} {x : List Int} (h : ¬ Tm.sym x < 0) : Tm.val A vs x = A (Tm.sym x) (if 0 < Tm.room (Tm.sym x) then Tm.val A vs (Tm.kid x 0) else 0) (if 1 < Tm.room (Tm.sym x) then Tm.val A vs (Tm.kid x 1) else 0) := by
  have e : Tm.val A vs x = Tm.vl A vs (x.length + 1) x := Tm.vl_more _ _ x (Nat.le_refl _) (by omega)
  rw [e, Tm.vl, if_neg h]
  have hk : ∀ i, i < Tm.room (Tm.sym x) → Tm.vl A vs x.length (Tm.kid x i) = Tm.val A vs (Tm.kid x i) := fun i hi => by
    have := Tm.kid_short hi
    exact Tm.vl_more _ _ _ (by omega) (Nat.le_refl _)
  congr 1
  · by_cases h0 : 0 < Tm.room (Tm.sym x)
    · rw [if_pos h0, if_pos h0, hk 0 h0]
    · rw [if_neg h0, if_neg h0]
  · by_cases h0 : 1 < Tm.room (Tm.sym x)
    · rw [if_pos h0, if_pos h0, hk 1 h0]
    · rw [if_neg h0, if_neg h0]
/-- Two terms with the same sign and parts that are the same there. -/
theorem Tm.val_same {A : Int → Nat → Nat → Nat} {vs us : Nat → Nat} {x y : List Int} (h0 : ¬ Tm.sym x < 0) (hs : Tm.sym x = Tm.sym y) (hk : ∀ m, m < Tm.room (Tm.sym x) → Tm.val A vs (Tm.kid x m) = Tm.val A us (Tm.kid y m)) : Tm.val A vs x = Tm.val A us y := by
  rw [Tm.val_sym (x := x) h0, Tm.val_sym (x := y) (vs := us) (by rw [← hs]; exact h0), ← hs]
  congr 1
  · by_cases h : 0 < Tm.room (Tm.sym x)
    · rw [if_pos h, if_pos h, hk 0 h]
    · rw [if_neg h, if_neg h]
  · by_cases h : 1 < Tm.room (Tm.sym x)
    · rw [if_pos h, if_pos h, hk 1 h]
    · rw [if_neg h, if_neg h]
theorem Tm.val_lt {A : Int → Nat → Nat → Nat} {vs : Nat → Nat} (hA : ∀ s x y, A s x y < 3) (hv : ∀ i, vs i < 3) (x : List Int) : Tm.val A vs x < 3 := by
  by_cases h : Tm.sym x < 0
  · rw [Tm.val_var h]; exact hv _
  · rw [Tm.val_sym h]; exact hA _ _ _
theorem Tm.var_only {a : List Int} (ha : Tm.err a = 0) (h : Tm.sym a < 0) : a = [Tm.sym a] := by
  have hv := Tm.view ha
  rw [Tm.room_neg h] at hv
  simpa [Tm.kids] using hv
/-- What variables become, there. -/
theorem Tm.val_applied {A : Int → Nat → Nat → Nat} {vs : Nat → Nat} {ss : List (List Int)} (hss : Terms ss) : ∀ (n : Nat) (a : List Int), a.length < n → Tm.err a = 0 → Tm.val A vs (Tm.applied ss a) = Tm.val A (fun i => Tm.val A vs (ss[i]?.getD [])) a := by
  intro n
  induction n with
  | zero => intro a h; omega
  | succ n ih =>
    intro a hn ha
    by_cases h0 : Tm.sym a < 0
    · rw [Tm.val_var h0]
      have e : Tm.applied ss a = ss[(-1 - Tm.sym a).toNat]?.getD [] := by
        conv => lhs; rw [Tm.var_only ha h0]
        rw [Tm.applied_cons]
        unfold Tm.piece
        rw [if_pos h0]
        simp [Tm.applied]
      rw [e]
    · obtain ⟨e1, e2⟩ := Tm.applied_view hss ha (by omega)
      refine Tm.val_same (by rw [e1]; exact h0) e1 fun m hm => ?_
      rw [e1] at hm
      rw [e2 m hm]
      exact ih _ (by have := Tm.kid_short hm; omega) (Tm.kid_err ha hm)
/-- What is put at a place, there. -/
theorem Tm.val_put {A : Int → Nat → Nat → Nat} {vs : Nat → Nat} {u v : List Int} (huv : Tm.val A vs u = Tm.val A vs v) (hu : Tm.err u = 0) (hv : Tm.err v = 0) : ∀ (n : Nat) (t : List Int) (k : Nat), t.length < n → Tm.err t = 0 → k < t.length → Tm.val A vs (Tm.put t k u) = Tm.val A vs (Tm.put t k v) := by
  intro n
  induction n with
  | zero => intro t k h; omega
  | succ n ih =>
    intro t k hn ht hk
    by_cases h0 : k = 0
    · subst h0; rw [Tm.put_zero ht, Tm.put_zero ht]; exact huv
    · obtain ⟨m, hm, h1, h2⟩ := Tm.place_kid ht (by omega) hk
      obtain ⟨su, hkl, ku⟩ := Tm.put_view ht hu hm h1 h2
      obtain ⟨sv, _, kv⟩ := Tm.put_view ht hv hm h1 h2
      have hs0 : 0 ≤ Tm.sym t := Tm.Gt.pos (r := fun _ => 0) (.eq t _ m hm rfl)
      refine Tm.val_same (by rw [su]; omega) (by rw [su, sv]) fun l hl => ?_
      rw [su] at hl
      rw [ku l hl, kv l hl]
      by_cases el : l = m
      · rw [if_pos el, if_pos el]
        exact ih _ _ (by have := Tm.kid_short hm; omega) (Tm.kid_err ht hm) hkl
      · rw [if_neg el, if_neg el]
/-- A rule holds, whatever variables are. -/
def Tm.Holds (A : Int → Nat → Nat → Nat) (a b : List Int) : Prop := ∀ vs : Nat → Nat, (∀ i, vs i < 3) → Tm.val A vs a = Tm.val A vs b
theorem Tm.Step1.val {A : Int → Nat → Nat → Nat} {vs : Nat → Nat} {L R t u : List Int} {a : Nat} {m : Asg} (h : Tm.Step1 L R t u a m) (hL : Tm.err L = 0) (hR : Tm.err R = 0) (ht : Tm.err t = 0) (ha : a < t.length) (hA : ∀ s x y, A s x y < 3) (hv : ∀ i, vs i < 3) (hh : Tm.Holds A L R) : Tm.val A vs t = Tm.val A vs u := by
  obtain ⟨hs, e1, e2, _⟩ := h.parts hL hR ht ha
  have h1 : Tm.val A vs (Tm.applied (Tm.fitL m 8) L) = Tm.val A vs (Tm.applied (Tm.fitL m 8) R) := by
    rw [Tm.val_applied hs _ L (Nat.lt_succ_self _) hL, Tm.val_applied hs _ R (Nat.lt_succ_self _) hR]
    exact hh _ (fun i => Tm.val_lt hA hv _)
  have h2 := Tm.val_put h1 (by rw [e1]; exact Tm.part_err ht ha) e2 _ t a (Nat.lt_succ_self _) ht ha
  rw [e1, Tm.put_self, ← h.goes] at h2
  exact h2
/-! Numbers in threes. -/
def asg (n x : Nat) (i : Nat) : Nat := if i < n then x / 3 ^ i % 3 else 0
/-- Are both the same, whatever their variables are? -/
def Tm.holdsB (A : Int → Nat → Nat → Nat) (a b : List Int) (n : Nat) : Bool := decide (∀ x, x < 3 ^ n → Tm.val A (asg n x) a = Tm.val A (asg n x) b)
end Go.Proofs.Ytgeknojpcjadkaa

namespace Go.Proofs.Ytgeknojpcjadkaa
open Go.Proofs Go.RowKit Go.Shelf Go.Maps

def dpN (t : List Int) : Nat := t.foldl (fun n s => max n (-s).toNat) 0
end Go.Proofs.Ytgeknojpcjadkaa
