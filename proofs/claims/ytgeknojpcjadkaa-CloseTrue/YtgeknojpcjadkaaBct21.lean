/-
  PLAIN MATHEMATICS of RulesTrue: which steps there are; how many; each goes to what is below, and brings no new variable. · What RulesTrue leans on: sums, and what stands in the term that a step comes to. · norm.Form, norm.Is. · join.Pair, join.All. · close.checkBoth, checkTurn, forms. · close.ownRules, close.ownPairs: the same in memory of their own.
-/
import Derived.Test.YtgeknojpcjadkaaBct15
import Derived.Test.YtgeknojpcjadkaaBct20
import Derived.Test.YtgeknojpcjadkaaBct9
import Derived.Test.YtgeknojpcjadkaaBct16
import Derived.Test.YtgeknojpcjadkaaBct17
import Derived.Deep.RegionHeld3
namespace Go.Proofs.Ytgeknojpcjadkaa
open Go.Proofs Go.RowKit Go.Shelf Go.Maps

theorem Tm.rowL_mem {rs : RuleL} {t : List Int} {a : Nat} {x : Nat × Nat × List Int} : ∀ n, x ∈ Tm.rowL rs t a n → x.1 < n ∧ x.2.1 = a ∧ Tm.hitB rs t a x.1 = true ∧ x.2.2 = Tm.hitVal rs t a x.1 := by
  intro n
  induction n with
  | zero => intro h; simp [Tm.rowL] at h
  | succ n ih =>
    intro h
    rw [Tm.rowL, List.mem_append] at h
    rcases h with h | h
    · obtain ⟨h1, h2⟩ := ih h
      exact ⟨by omega, h2⟩
    · split at h
      · simp only [List.mem_cons, List.not_mem_nil, or_false] at h
        subst h
        exact ⟨by simp, rfl, by assumption, rfl⟩
      · simp at h
theorem Tm.allL_mem {rs : RuleL} {t : List Int} {x : Nat × Nat × List Int} : ∀ m, x ∈ Tm.allL rs t m → x.2.1 < m ∧ x.1 < rs.length ∧ Tm.hitB rs t x.2.1 x.1 = true ∧ x.2.2 = Tm.hitVal rs t x.2.1 x.1 := by
  intro m
  induction m with
  | zero => intro h; simp [Tm.allL] at h
  | succ m ih =>
    intro h
    rw [Tm.allL, List.mem_append] at h
    rcases h with h | h
    · obtain ⟨h1, h2⟩ := ih h
      exact ⟨by omega, h2⟩
    · obtain ⟨h1, h2, h3, h4⟩ := Tm.rowL_mem _ h
      rw [h2]
      exact ⟨by omega, h1, h3, h4⟩
theorem Tm.rowE_all {rs : RuleL} {t : List Int} {a : Nat} : ∀ n, Tm.rowE rs t a n = 0 → ∀ k, k < n → Tm.hitB rs t a k = true → Tm.hitErr rs t a k = 0 := by
  intro n
  induction n with
  | zero => intro _ k hk; omega
  | succ n ih =>
    intro h k hk hb
    rw [Tm.rowE] at h
    by_cases h0 : Tm.rowE rs t a n = 0
    · rw [if_pos h0] at h
      by_cases e : k = n
      · subst e; rw [if_pos hb] at h; exact h
      · exact ih h0 k (by omega) hb
    · rw [if_neg h0] at h; exact absurd h h0
theorem Tm.allE_all {rs : RuleL} {t : List Int} : ∀ m, Tm.allE rs t m = 0 → ∀ a, a < m → ∀ k, k < rs.length → Tm.hitB rs t a k = true → Tm.hitErr rs t a k = 0 := by
  intro m
  induction m with
  | zero => intro _ a ha; omega
  | succ m ih =>
    intro h a ha
    rw [Tm.allE] at h
    by_cases h0 : Tm.allE rs t m = 0
    · rw [if_pos h0] at h
      by_cases e : a = m
      · subst e; exact Tm.rowE_all _ h
      · exact ih h0 a (by omega)
    · rw [if_neg h0] at h; exact absurd h h0

/-! How many. -/
def Tm.cnt (f : Nat → Bool) : Nat → Nat
  | 0 => 0
  | n + 1 => Tm.cnt f n + (if f n = true then 1 else 0)
def Tm.sum (g : Nat → Nat) : Nat → Nat
  | 0 => 0
  | n + 1 => Tm.sum g n + g n
/-! What a step is. -/
/-- A step of a right term by a rule that is right. -/
structure Tm.Step1 (L R t u : List Int) (a : Nat) (m : Asg) : Prop where
  fit : Tm.fit L (Tm.part t a) = some m
  goes : u = Tm.put t a (Tm.applied (Tm.fitL m 8) R)
  small : u.length ≤ 30
theorem Tm.hit_step {rs : RuleL} {t : List Int} {a k : Nat} (hr : Tm.rulesErr rs = 0) (ht : Tm.err t = 0) (ha : a < t.length) (hk : k < rs.length) (hb : Tm.hitB rs t a k = true) (he : Tm.hitErr rs t a k = 0) :
    ∃ m, Tm.Step1 (rs[k]?.getD ([], [])).1 (rs[k]?.getD ([], [])).2 t (Tm.hitVal rs t a k) a m := by
  obtain ⟨_, hall⟩ := Tm.rulesErr_ok hr
  obtain ⟨hL, hR, _⟩ := Tm.ruleErr_ok (hall k hk)
  rw [Tm.hitB_fit hL ht ha, Option.isSome_iff_exists] at hb
  obtain ⟨m, hm⟩ := hb
  obtain ⟨e1, e2⟩ := Tm.hit_fit hL hR ht ha hm
  rw [he] at e1
  by_cases h30 : 30 < (Tm.put t a (Tm.applied (Tm.fitL m 8) (rs[k]?.getD ([], [])).2)).length
  · rw [if_pos h30] at e1; omega
  · rw [if_neg h30] at e2
    exact ⟨m, hm, e2, by rw [e2]; omega⟩
theorem Tm.put_self (t : List Int) (a : Nat) : Tm.put t a (Tm.part t a) = t := by rw [Tm.put_eq]; exact (Tm.split t a).symm
theorem Tm.Step1.parts {L R t u : List Int} {a : Nat} {m : Asg} (h : Tm.Step1 L R t u a m) (hL : Tm.err L = 0) (hR : Tm.err R = 0) (ht : Tm.err t = 0) (ha : a < t.length) :
    Terms (Tm.fitL m 8) ∧ Tm.applied (Tm.fitL m 8) L = Tm.part t a ∧ Tm.err (Tm.applied (Tm.fitL m 8) R) = 0 ∧ Tm.err u = 0 := by
  have hs := Terms.of (Tm.subErr_fitL hL (Tm.part_err ht ha) h.fit)
  have hl := h.small
  have hle := Tm.applied_put_le (t := t) (u := Tm.applied (Tm.fitL m 8) R) (a := a)
  rw [← h.goes] at hle
  have hu := Tm.err_applied hs hR (by omega)
  refine ⟨hs, Tm.fit_makes hL (Tm.part_err ht ha) h.fit, hu, ?_⟩
  rw [h.goes]
  exact Tm.put_err ht hu ha (by rw [← h.goes]; exact hl)
/-- Of a rule that falls the step goes to what is below. -/
theorem Tm.Step1.below {r : Int → Int} {L R t u : List Int} {a : Nat} {m : Asg} (h : Tm.Step1 L R t u a m) (hL : Tm.err L = 0) (hR : Tm.err R = 0) (ht : Tm.err t = 0) (ha : a < t.length) (hg : Tm.Gt r L R) : Tm.Gt r t u := by
  obtain ⟨hs, e1, e2, _⟩ := h.parts hL hR ht ha
  have h1 := Tm.Gt.stays hs hg hL hR
  have h2 := Tm.Gt.within h1 (by rw [e1]; exact Tm.part_err ht ha) e2 _ t a (Nat.lt_succ_self _) ht ha
  rw [e1, Tm.put_self, ← h.goes] at h2
  exact h2
theorem Tm.hasB_mem {zs : List Int} {x : Int} (h : Tm.hasB zs x = true) : x ∈ zs := by
  unfold Tm.hasB at h
  simpa using h
end Go.Proofs.Ytgeknojpcjadkaa

namespace Go.Proofs.Ytgeknojpcjadkaa
open Go.Proofs Go.RowKit Go.Shelf Go.Maps

theorem Tm.stepErr_term {rs : RuleL} {t : List Int} (h : Tm.stepErr rs t = 0) : Tm.rulesErr rs = 0 ∧ Tm.err t = 0 ∧ Tm.allE rs t t.length = 0 := by
  unfold Tm.stepErr at h
  by_cases h1 : Tm.rulesErr rs = 0
  · rw [if_pos h1] at h
    by_cases h2 : Tm.err t = 0
    · rw [if_pos h2] at h; exact ⟨h1, h2, h⟩
    · rw [if_neg h2] at h; exact absurd h h2
  · rw [if_neg h1] at h; exact absurd h h1
theorem len_no {n : Nat} (h : n ≠ 0) : ((n : Int) == 0) = false := by rw [beq_eq_false_iff_ne]; omega
theorem len_yes {n : Nat} (h : n = 0) : ((n : Int) == 0) = true := by rw [beq_iff_eq]; omega
/-- Is the sign a symbol, or among the first j of t? -/
def isB (s : Int) (t : List Int) (j : Nat) : Bool := decide (0 ≤ s) || (t.take j).any fun x => x == s
end Go.Proofs.Ytgeknojpcjadkaa

namespace Go.Proofs.Ytgeknojpcjadkaa
open Go.Proofs Go.RowKit Go.Shelf Go.Maps

/-- G1: always the first of the steps, k having been taken. -/
def Tm.fm (rs : RuleL) : Nat → List Int → Nat → List Int × Nat × Int
  | 0, _, _ => ([], 0, 2)
  | f + 1, t, k => if Tm.stepErr rs t = 0 then (match Tm.stepVal rs t with | [] => (t, k, 0) | s :: _ => Tm.fm rs f s.2.2 (k + 1)) else ([], 0, Tm.stepErr rs t)
def Tm.form (rs : RuleL) (t : List Int) : List Int × Nat × Int := Tm.fm rs 61 t 0
theorem Tm.fm_bad {rs : RuleL} {t : List Int} {f k : Nat} (h : Tm.stepErr rs t ≠ 0) : Tm.fm rs (f + 1) t k = ([], 0, Tm.stepErr rs t) := by rw [Tm.fm, if_neg h]
theorem Tm.fm_end {rs : RuleL} {t : List Int} {f k : Nat} (h : Tm.stepErr rs t = 0) (hn : (Tm.stepVal rs t).length = 0) : Tm.fm rs (f + 1) t k = (t, k, 0) := by
  rw [Tm.fm, if_pos h, List.eq_nil_of_length_eq_zero hn]
theorem Tm.fm_go {rs : RuleL} {t : List Int} {f k : Nat} (h : Tm.stepErr rs t = 0) (hn : 0 < (Tm.stepVal rs t).length) : Tm.fm rs (f + 1) t k = Tm.fm rs f ((Tm.stepVal rs t)[0]?.getD (0, 0, [])).2.2 (k + 1) := by
  rw [Tm.fm, if_pos h]
  cases hs : Tm.stepVal rs t with
  | nil => rw [hs] at hn; simp at hn
  | cons s l => rfl
theorem clone_right (zs : List Int) (a : Option Addr) (cap : Nat) (w : World) (he : Tm.err zs = 0) (hI : Ints w.heap.size w a zs) :
    Calls Try.prog 52 #[.slice a zs.length cap] w fun e w' => ∃ v, e = .returned v ∧ New w.heap.size w' v zs ∧ Below w.heap.size w w' := by
  obtain ⟨b, off, rfl, _, _⟩ := hI.at (Tm.err_pos he)
  exact clone_any zs b off cap w (Tm.err_len he) hI

set_option maxRecDepth 100000 in
set_option maxHeartbeats 2000000 in
theorem form_any (rs : RuleL) (t : List Int) (al at' : Option Addr) (cl ct : Nat) (w : World) (hR : RulesAt w.heap.size w al rs) (hT : Ints w.heap.size w at' t) (h1 : t.length ≤ ct) (h2 : ct ≤ maxLen) :
    Calls Try.prog 20 #[.slice al rs.length cl, .slice at' t.length ct] w fun e w' => ∃ v, e = .returned (.tuple #[v, .int .i64 ((Tm.form rs t).2.1 : Int), .int .i64 (Tm.form rs t).2.2]) ∧ New w.heap.size w' v (Tm.form rs t).1 ∧ Below w.heap.size w w' := by
  unfold Tm.form
  generalize hg : Tm.fm rs 61 t 0 = res
  have HR := hid hR
  clear hR
  go_enter Try.func20, Try.ntmps20
  go_wp2
  go_loopw [1, 10] (fun tv v wr => ∃ (k : Nat) (u : List Int) (a : Option Addr) (c : Nat), k ≤ 61 ∧ v = .int .i64 (k : Int) ∧ tv = .slice a u.length c ∧ Hid (Ints wr.heap.size wr a u) ∧ u.length ≤ c ∧ c ≤ maxLen ∧ Hid (Tm.fm rs (61 - k) u k = res) ∧ Below w.heap.size w wr) (fun _ v _ => 61 - (intOf v).toNat)
  case atStart => exact ⟨0, t, at', ct, by omega, rfl, rfl, hid hT, h1, h2, hid hg, Below.refl _ _⟩
  case round =>
    obtain ⟨k, u, a, c, hk, rfl, rfl, hI, hc1, hc2, hst, hB⟩ := hrel
    by_cases hlt : k < 61
    · have hlt' : (k : Int) < 61 := by omega
      have hC := hid (steps_any rs u al a cl c wr ((HR.out.below hB).mono hB.size) hI.out hc1 hc2)
      obtain ⟨f, hf⟩ : ∃ f, 61 - k = f + 1 := ⟨60 - k, by omega⟩
      rw [hf] at hst
      by_cases he : Tm.stepErr rs u = 0
      · obtain ⟨_, hu, _⟩ := Tm.stepErr_term he
        by_cases hn : (Tm.stepVal rs u).length = 0
        · have hr := hid ((Tm.fm_end (f := f) (k := k) he hn).symm.trans hst.out)
          have hCl := hid (fun W (hW : Below wr.heap.size wr W) => clone_right u a c W hu ((hI.out.below hW).mono hW.size))
          unfold StepsAns at hC
          rw [he, List.eq_nil_of_length_eq_zero hn] at hC
          clear he hn hu hst hI
          go_wp2_with (first
            | (go_at_call 22; refine hC.out.mono ?_; clear hC; rintro e w1 ⟨v1, rfl, hN1, b1⟩; obtain ⟨va, vc, rfl⟩ := hN1.slice; have HN := hid hN1; clear hN1)
            | (go_at_call 52; refine (hCl.out w1 b1).mono ?_; clear hCl; rintro e w2 ⟨v2, rfl, hN2, b2⟩; obtain ⟨xa, xc, rfl, _⟩ := New.ints hN2))
          go_ret3
          have B1 := hB.trans (b1.mono hB.size)
          rw [← hr.out]
          exact ⟨_, rfl, hN2.mono B1.size, B1.trans (b2.mono B1.size)⟩
        · have hp : 0 < (Tm.stepVal rs u).length := by omega
          have hr := hid ((Tm.fm_go (f := f) (k := k) he hp).symm.trans hst.out)
          have hle := hid (show (Tm.stepVal rs u).length ≤ 1000 by
            obtain ⟨k1, k2, k3⟩ := Tm.stepErr_term he
            have h3 := Tm.allL_le rs u u.length
            have h4 := Tm.err_len k2
            have h5 := (Tm.rulesErr_ok k1).1
            have h6 : u.length * rs.length ≤ 30 * 8 := Nat.mul_le_mul h4 h5
            unfold Tm.stepVal
            rw [if_pos he]
            omega)
          unfold StepsAns at hC
          rw [he] at hC
          have hff : f = 61 - (k + 1) := by omega
          rw [hff] at hr
          clear he hn hu hst hI hf hff
          generalize Tm.stepVal rs u = sts at *
          have hpi : (0 : Int) < (sts.length : Int) := by omega
          have hne : ((sts.length : Int) == 0) = false := len_no (by omega)
          go_wp2_with (first
            | (go_at_call 22; refine hC.out.mono ?_; clear hC; rintro e w1 ⟨v1, rfl, hN1, b1⟩; obtain ⟨g, cg, rfl, hat⟩ := hN1.at hp; obtain ⟨x0, y0, _, _, c02, i0, q0, q1⟩ := hat 0 hp; clear hat; simp only [Nat.zero_mul, Nat.zero_add] at c02; have HN := hid hN1; clear hN1; generalize (sts[0]?.getD (0, 0, [])).2.2 = u1 at *))
          go_roundw
          case rel => exact ⟨k + 1, u1, x0, y0, by omega, by go_num, rfl, hid i0, q0, q1, hid hr.out, hB.trans (b1.mono hB.size)⟩
          case measure => simp [intOf]; omega
      · have hr := hid ((Tm.fm_bad (f := f) (k := k) he).symm.trans hst.out)
        have hne : (Tm.stepErr rs u != 0) = true := by simpa using he
        unfold StepsAns at hC
        clear he hst hI
        generalize Tm.stepErr rs u = q at *
        go_wp2_with (first
          | (go_at_call 22; refine hC.out.mono ?_; clear hC; rintro e w1 ⟨v1, rfl, hN1, b1⟩; obtain ⟨va, vc, rfl⟩ := hN1.slice; clear hN1))
        go_ret3
        rw [← hr.out]
        exact ⟨_, rfl, New.nil _ _, hB.trans (b1.mono hB.size)⟩
    · obtain rfl : k = 61 := by omega
      have hr := hst.out
      rw [Nat.sub_self, Tm.fm] at hr
      have Hr := hid hr
      clear hr hst hI
      go_wp2
      go_ret3
      rw [← Hr.out]
      exact ⟨_, rfl, New.nil _ _, hB⟩

end Go.Proofs.Ytgeknojpcjadkaa

namespace Go.Proofs.Ytgeknojpcjadkaa
open Go.Proofs Go.RowKit Go.Shelf Go.Maps

/-- I1: the error of two terms' forms; have they one form? -/
def Tm.joinErr (rs : RuleL) (P Q : List Int) : Int := if (Tm.form rs P).2.2 = 0 then (Tm.form rs Q).2.2 else (Tm.form rs P).2.2
def Tm.joinIs (rs : RuleL) (P Q : List Int) : Bool := decide (Tm.joinErr rs P Q = 0) && sameB (Tm.form rs P).1 (Tm.form rs Q).1

set_option maxRecDepth 100000 in
set_option maxHeartbeats 2000000 in
theorem joinPair_any (rs : RuleL) (P Q : List Int) (al aP aQ : Option Addr) (cl cP cQ : Nat) (w : World) (hR : RulesAt w.heap.size w al rs) (hP : Ints w.heap.size w aP P) (hQ : Ints w.heap.size w aQ Q) (p1 : P.length ≤ cP) (p2 : cP ≤ maxLen) (q1 : Q.length ≤ cQ) (q2 : cQ ≤ maxLen) :
    Calls Try.prog 25 #[.slice al rs.length cl, .agg #[.slice aP P.length cP, .slice aQ Q.length cQ]] w fun e w' => e = .returned (.tuple #[.bool (Tm.joinIs rs P Q), .int .i64 (Tm.joinErr rs P Q)]) ∧ Below w.heap.size w w' := by
  obtain ⟨W1, hW1⟩ : ∃ W1, w.alloc (.cells #[.slice aP P.length cP, .slice aQ Q.length cQ] 42) = W1 := ⟨_, rfl⟩
  have hB1 : Below w.heap.size w W1 := by rw [← hW1]; exact (Below.refl _ _).alloc (Nat.le_refl _) _
  have bx : Box2 W1 w.heap.size 42 (.slice aP P.length cP) (.slice aQ Q.length cQ) := by rw [← hW1]; exact Box2.new w _ _ _
  have c0 := bx.cell0
  have C1 := hid (form_any rs P al aP cl cP W1 ((hR.below hB1).mono hB1.size) ((hP.below hB1).mono hB1.size) p1 p2)
  have C2 := hid (fun W (hW : Below W1.heap.size W1 W) => form_any rs Q al aQ cl cQ W (by have h := hB1.trans (hW.mono hB1.size); exact (hR.below h).mono h.size) (by have h := hB1.trans (hW.mono hB1.size); exact (hQ.below h).mono h.size) q1 q2)
  have hE : Hid (Tm.joinErr rs P Q = if (Tm.form rs P).2.2 = 0 then (Tm.form rs Q).2.2 else (Tm.form rs P).2.2) := rfl
  have hI : Hid (Tm.joinIs rs P Q = (decide (Tm.joinErr rs P Q = 0) && sameB (Tm.form rs P).1 (Tm.form rs Q).1)) := rfl
  have HW1 := hid hW1
  clear hW1 hR hP hQ p1 p2 q1 q2
  generalize Tm.form rs P = f at *
  generalize Tm.form rs Q = g at *
  obtain ⟨x, n, er⟩ := f
  obtain ⟨y, m, er2⟩ := g
  dsimp only at C1 C2 hE hI
  by_cases he : er = 0
  · subst he
    rw [if_pos rfl] at hE
    by_cases he2 : er2 = 0
    · subst he2
      have hs := hid (show Tm.joinIs rs P Q = sameB x y by rw [hI.out, hE.out]; simp)
      rw [hE.out, hs.out]
      clear hI hE hs
      go_enter Try.func25, Try.ntmps25
      go_wp2_with fail
      rw [HW1.out]
      go_wp2_with fail
      refine C1.out.mono ?_
      rintro e w1 ⟨v1, rfl, n1, b1⟩
      obtain ⟨x1, c1, rfl, i1, l1, l1'⟩ := New.ints n1
      have c1' := (bx.below b1 bx.lt).cell1
      clear C1 n1
      go_wp2_with fail
      refine (C2.out w1 b1).mono ?_
      rintro e w2 ⟨v2, rfl, n2, b2⟩
      obtain ⟨x2, c2, rfl, i2, _⟩ := New.ints n2
      have B2 := b1.trans (b2.mono b1.size)
      have hEq := equal_any x y x1 x2 c1 c2 w2 ((i1.below b2).mono b2.size) i2 (by omega)
      clear C2 n2 i1 i2 c1'
      go_wp2_with fail
      refine hEq.mono ?_
      rintro e w3 ⟨rfl, b3⟩
      go_wp2
      go_ret2
      have B3 := B2.trans (b3.mono B2.size)
      exact ⟨rfl, hB1.trans (B3.mono hB1.size)⟩
    · have hs := hid (show Tm.joinIs rs P Q = false by rw [hI.out, hE.out]; simp [he2])
      have hne : (er2 != 0) = true := by simpa using he2
      rw [hE.out, hs.out]
      clear hI hE hs he2
      go_enter Try.func25, Try.ntmps25
      go_wp2_with fail
      rw [HW1.out]
      go_wp2_with fail
      refine C1.out.mono ?_
      rintro e w1 ⟨v1, rfl, n1, b1⟩
      obtain ⟨x1, c1, rfl, i1, l1, l1'⟩ := New.ints n1
      have c1' := (bx.below b1 bx.lt).cell1
      clear C1 n1
      go_wp2_with fail
      refine (C2.out w1 b1).mono ?_
      rintro e w2 ⟨v2, rfl, n2, b2⟩
      obtain ⟨x2, c2, rfl, i2, _⟩ := New.ints n2
      have B2 := b1.trans (b2.mono b1.size)
      clear C2 n2 i1 i2 c1'
      go_wp2
      go_ret2
      exact ⟨rfl, hB1.trans (B2.mono hB1.size)⟩
  · have hs := hid (show Tm.joinIs rs P Q = false by rw [hI.out, hE.out, if_neg he]; simp [he])
    rw [if_neg he] at hE
    have hne : (er != 0) = true := by simpa using he
    rw [hE.out, hs.out]
    clear hI hE hs he
    go_enter Try.func25, Try.ntmps25
    go_wp2_with fail
    rw [HW1.out]
    go_wp2_with fail
    refine C1.out.mono ?_
    rintro e w1 ⟨v1, rfl, n1, b1⟩
    obtain ⟨x1, c1, rfl, i1, l1, l1'⟩ := New.ints n1
    clear C1 n1
    go_wp2
    go_ret2
    exact ⟨rfl, hB1.trans (b1.mono hB1.size)⟩

/-- Do all pairs of a list meet? -/
def Tm.joinL (rs : RuleL) : PairL → Bool × Int
  | [] => (true, 0)
  | p :: l => if Tm.joinIs rs p.1 p.2 = true then Tm.joinL rs l else (false, Tm.joinErr rs p.1 p.2)
theorem Tm.joinL_step {rs : RuleL} {ps : PairL} {k : Nat} (hk : k < ps.length) (h : Tm.joinIs rs (ps[k]?.getD ([], [])).1 (ps[k]?.getD ([], [])).2 = true) : Tm.joinL rs (ps.drop k) = Tm.joinL rs (ps.drop (k + 1)) := by
  rw [List.drop_eq_getElem_cons hk, Tm.joinL]
  simp only [hk, List.getElem?_eq_getElem, Option.getD_some] at h
  rw [if_pos h]
theorem Tm.joinL_at {rs : RuleL} {ps : PairL} {k : Nat} (hk : k < ps.length) (h : Tm.joinIs rs (ps[k]?.getD ([], [])).1 (ps[k]?.getD ([], [])).2 = false) : Tm.joinL rs (ps.drop k) = (false, Tm.joinErr rs (ps[k]?.getD ([], [])).1 (ps[k]?.getD ([], [])).2) := by
  rw [List.drop_eq_getElem_cons hk, Tm.joinL]
  simp only [hk, List.getElem?_eq_getElem, Option.getD_some] at h ⊢
  rw [if_neg (by simp [h])]
theorem Tm.joinIs_err {rs : RuleL} {P Q : List Int} (h : Tm.joinIs rs P Q = true) : Tm.joinErr rs P Q = 0 := by
  unfold Tm.joinIs at h
  simp only [Bool.and_eq_true, decide_eq_true_eq] at h
  exact h.1
/-- What join.All answers. -/
def Tm.JoinSays (rs : RuleL) (is : Bool) (er : Int) : Prop := ∃ er' ps, Tm.AllPSays rs er' ps ∧ ((er' ≠ 0 ∧ is = false ∧ er = er') ∨ (er' = 0 ∧ (is, er) = Tm.joinL rs ps))
theorem Tm.AllPSays.len {rs : RuleL} {er : Int} {ps : PairL} (h : Tm.AllPSays rs er ps) : ps.length ≤ 40 := by
  rcases h with ⟨l, _, ⟨h1, _, rfl⟩ | ⟨_, _, rfl⟩⟩ | ⟨_, _, _, _, _, _, _, _, _, rfl⟩
  · exact h1
  · simp
  · simp

set_option maxRecDepth 100000 in
set_option maxHeartbeats 2000000 in
theorem joinAll_any (rs : RuleL) (a : Option Addr) (cap : Nat) (w : World) (hR : RulesAt w.heap.size w a rs) (hcl : rs.length ≤ maxLen) :
    Calls Try.prog 19 #[.slice a rs.length cap] w fun e w' => ∃ is er, Tm.JoinSays rs is er ∧ e = .returned (.tuple #[.bool is, .int .i64 er]) ∧ Below w.heap.size w w' := by
  have hA := hid (AllP_any rs a cap w hR hcl)
  have HR := hid hR
  clear hR
  go_enter Try.func19, Try.ntmps19
  go_wp2_with fail
  refine hA.out.mono ?_
  rintro e w1 ⟨er, ps, v, hsay, rfl, hN, B1⟩
  obtain ⟨pa, pc, rfl, hP, _⟩ := hN.at
  clear hA hN
  by_cases he : er = 0
  · subst he
    have h40 := hsay.len
    have h40' : (ps.length : Int) ≤ 40 := by omega
    have HP := hid hP
    have Hsay := hid (fun is er h => (⟨0, ps, hsay, .inr ⟨rfl, h⟩⟩ : Tm.JoinSays rs is er))
    clear hsay hP
    go_wp2
    go_loopw [20] (fun x wr => ∃ k : Nat, k ≤ ps.length ∧ x = .int .i64 (k : Int) ∧ Hid (Tm.joinL rs ps = Tm.joinL rs (ps.drop k)) ∧ Below w1.heap.size w1 wr) (fun x _ => ps.length - (intOf x).toNat)
    case atStart => exact ⟨0, Nat.zero_le _, rfl, hid rfl, Below.refl _ _⟩
    case round =>
      obtain ⟨k, hk, rfl, hst, hB⟩ := hrel
      have BW := B1.trans (hB.mono B1.size)
      by_cases hlt : k < ps.length
      · have hlt' : (k : Int) < (ps.length : Int) := by omega
        obtain ⟨b, off, rfl, hb, aL, cL, aR, cR, g1, g2, g3, g4, g5, g6, g7, g8⟩ := (HP.out.below hB) k hlt
        have hs1 := hid (Tm.joinL_step (rs := rs) hlt)
        have hs2 := hid (Tm.joinL_at (rs := rs) hlt)
        generalize (ps[k]?.getD ([], [])).1 = P at *
        generalize (ps[k]?.getD ([], [])).2 = Q at *
        have hBa : Below wr.heap.size wr (wr.alloc (.cells #[.slice aL P.length cL, .slice aR Q.length cR] 42)) := (Below.refl _ _).alloc (Nat.le_refl _) _
        have bx := Box2.new wr 42 (.slice aL P.length cL) (.slice aR Q.length cR)
        have y0 := bx.cell0
        have y1 := bx.cell1
        have BWa := BW.trans (hBa.mono BW.size)
        have BBa := hB.trans (hBa.mono hB.size)
        have hC := hid (joinPair_any rs P Q a aL aR cap cL cR (wr.alloc (.cells #[.slice aL P.length cL, .slice aR Q.length cR] 42)) ((HR.out.below BWa).mono BWa.size) ((((g3.mono hB.size).below hBa)).mono hBa.size) ((((g4.mono hB.size).below hBa)).mono hBa.size) g5 g6 g7 g8)
        clear g3 g4 bx
        by_cases hj : Tm.joinIs rs P Q = true
        · rw [hj, Tm.joinIs_err hj] at hC
          have Hs := hid (hs1.out hj)
          clear hj hs1 hs2
          go_wp2_with fail
          refine hC.out.mono ?_
          rintro e w2 ⟨rfl, b2⟩
          clear hC
          go_wp2
          go_roundw
          case rel => exact ⟨k + 1, by omega, by go_num, hid (hst.out.trans Hs.out), BBa.trans (b2.mono BBa.size)⟩
          case measure => simp [intOf]; omega
        · have hj' : Tm.joinIs rs P Q = false := by simpa using hj
          rw [hj'] at hC
          have Hs := hid (hs2.out hj')
          clear hj hj' hs1 hs2
          generalize Tm.joinErr rs P Q = q at *
          go_wp2_with fail
          refine hC.out.mono ?_
          rintro e w2 ⟨rfl, b2⟩
          clear hC
          go_wp2
          go_ret2
          exact ⟨false, q, Hsay.out _ _ (by rw [hst.out, Hs.out]), rfl, BWa.trans (b2.mono BWa.size)⟩
      · obtain rfl : k = ps.length := by omega
        have Hs := hid (hst.out.trans (by rw [List.drop_length]; rfl : Tm.joinL rs (ps.drop ps.length) = (true, 0)))
        go_wp2
        go_ret2
        exact ⟨true, 0, Hsay.out _ _ Hs.out.symm, rfl, BW⟩
  · have hne : (er != 0) = true := by simpa using he
    have Hsay : Hid (Tm.JoinSays rs false er) := ⟨er, ps, hsay, .inl ⟨he, rfl, rfl⟩⟩
    clear he hsay
    go_wp2
    go_ret2
    exact ⟨false, er, Hsay.out, rfl, B1⟩

end Go.Proofs.Ytgeknojpcjadkaa

namespace Go.Proofs.Ytgeknojpcjadkaa
open Go.Proofs Go.RowKit Go.Shelf Go.Maps

theorem Tm.firstP_bad {ps : PairL} : ∀ k, k < ps.length → (∀ j, j < k → Tm.pairErr (ps[j]?.getD ([], [])).1 (ps[j]?.getD ([], [])).2 = 0) → Tm.pairErr (ps[k]?.getD ([], [])).1 (ps[k]?.getD ([], [])).2 ≠ 0 → Tm.firstPair ps = Tm.pairErr (ps[k]?.getD ([], [])).1 (ps[k]?.getD ([], [])).2 := by
  induction ps with
  | nil => intro k hk; simp at hk
  | cons p l ih =>
    intro k hk h1 h2
    cases k with
    | zero => simp only [List.getElem?_cons_zero, Option.getD_some] at h2 ⊢; rw [Tm.firstPair, if_neg h2]
    | succ k =>
      have h0 := h1 0 (by omega)
      simp only [List.getElem?_cons_zero, Option.getD_some] at h0
      simp only [List.getElem?_cons_succ] at h2 ⊢
      rw [Tm.firstPair, if_pos h0]
      exact ih k (by simpa using hk) (fun j hj => by simpa using h1 (j + 1) (by omega)) h2
theorem Tm.firstP_all {ps : PairL} (h : ∀ k, k < ps.length → Tm.pairErr (ps[k]?.getD ([], [])).1 (ps[k]?.getD ([], [])).2 = 0) : Tm.firstPair ps = 0 := by
  induction ps with
  | nil => rfl
  | cons p l ih =>
    rw [Tm.firstPair, if_pos (by simpa using h 0 (by simp))]
    exact ih fun k hk => by simpa using h (k + 1) (by simpa using hk)
theorem Tm.firstP_zero {ps : PairL} (h : Tm.firstPair ps = 0) : ∀ k, k < ps.length → Tm.err (ps[k]?.getD ([], [])).1 = 0 ∧ Tm.err (ps[k]?.getD ([], [])).2 = 0 := by
  induction ps with
  | nil => intro k hk; simp at hk
  | cons p l ih =>
    intro k hk
    by_cases h0 : Tm.pairErr p.1 p.2 = 0
    · rw [Tm.firstPair, if_pos h0] at h
      cases k with
      | zero => simpa using Tm.pairErr_zero.1 h0
      | succ k => simpa using ih h k (by simpa using hk)
    · rw [Tm.firstPair, if_neg h0] at h
      exact absurd h h0

/-- J1: what is told of ranks and pairs. -/
def Tm.eqsErr (ps : PairL) : Int := if 40 < ps.length then 2 else Tm.firstPair ps
def Tm.bothErr (rk : List Int) (ps : PairL) : Int := if Tm.rankErr rk = 0 then Tm.eqsErr ps else Tm.rankErr rk

set_option maxRecDepth 100000 in
set_option maxHeartbeats 2000000 in
theorem checkBoth_any (rk : List Int) (ps : PairL) (ar a : Option Addr) (cr cap : Nat) (w : World) (hR : Ints w.heap.size w ar rk) (hP : RulesAt w.heap.size w a ps) (hl : ps.length ≤ maxLen) :
    Calls Try.prog 60 #[.slice ar rk.length cr, .slice a ps.length cap] w fun e w' => e = .returned (.int .i64 (Tm.bothErr rk ps)) ∧ Below w.heap.size w w' := by
  have hl' : (ps.length : Int) ≤ 9223372036854775807 := by unfold maxLen at hl; omega
  have hi0 : ∀ x y W, (Instr.index 148 (.agg #[x, y]) (.int .i64 0)).run Try.prog W = .ok x W := fun _ _ _ => by kernel_rfl
  have hi1 : ∀ x y W, (Instr.index 148 (.agg #[x, y]) (.int .i64 1)).run Try.prog W = .ok y W := fun _ _ _ => by kernel_rfl
  have hC := hid (orderCheck_any rk ar cr w hR)
  have HP := hid hP
  have hB : Hid (Tm.bothErr rk ps = if Tm.rankErr rk = 0 then Tm.eqsErr ps else Tm.rankErr rk) := rfl
  clear hR hP
  by_cases hk : Tm.rankErr rk = 0
  · rw [if_pos hk] at hB
    rw [hk] at hC
    rw [hB.out]
    clear hk hB
    by_cases h40 : 40 < ps.length
    · have h40' : (40 : Int) < (ps.length : Int) := by omega
      have hE : Hid (Tm.eqsErr ps = 2) := by unfold Tm.eqsErr; rw [if_pos h40]; exact hid rfl
      rw [hE.out]
      clear h40 hE
      go_enter Try.func60, Try.ntmps60
      go_wp2_with (go_at_call 50; refine hC.out.mono ?_; rintro e w ⟨rfl, rfl⟩)
      go_ret
      exact ⟨rfl, Below.refl _ _⟩
    · have h40' : ¬ (40 : Int) < (ps.length : Int) := by omega
      have h40'' : (ps.length : Int) ≤ 40 := by omega
      have hE : Hid (Tm.eqsErr ps = Tm.firstPair ps) := by unfold Tm.eqsErr; rw [if_neg h40]; exact hid rfl
      rw [hE.out]
      clear h40 hE
      have Hbad := hid (fun k h1 h2 h3 => Tm.firstP_bad (ps := ps) k h1 h2 h3)
      have Hall := hid (fun h => Tm.firstP_all (ps := ps) h)
      go_enter Try.func60, Try.ntmps60
      go_wp2_with (go_at_call 50; refine hC.out.mono ?_; rintro e w ⟨rfl, rfl⟩)
      go_loopw [21] (fun v wr => ∃ k : Nat, k ≤ ps.length ∧ v = .int .i64 (k : Int) ∧ Hid (∀ j, j < k → Tm.pairErr (ps[j]?.getD ([], [])).1 (ps[j]?.getD ([], [])).2 = 0) ∧ Below w.heap.size w wr) (fun v _ => ps.length - (intOf v).toNat)
      case atStart => exact ⟨0, Nat.zero_le _, rfl, fun j hj => by omega, Below.refl _ _⟩
      case round =>
        obtain ⟨k, hk, rfl, hst, hB⟩ := hrel
        by_cases hlt : k < ps.length
        · have hlt' : (k : Int) < (ps.length : Int) := by omega
          obtain ⟨b, off, rfl, hb, aL, cL, aR, cR, g1, g2, g3, g4, g5, g6, g7, g8⟩ := (HP.out.below hB) k hlt
          have hbad := hid (Hbad.out k hlt hst.out)
          have hnext : Hid (Tm.pairErr (ps[k]?.getD ([], [])).1 (ps[k]?.getD ([], [])).2 = 0 → ∀ j, j < k + 1 → Tm.pairErr (ps[j]?.getD ([], [])).1 (ps[j]?.getD ([], [])).2 = 0) := fun h j hj => if e : j = k then e ▸ h else hst.out j (by omega)
          have hpe : Hid (Tm.pairErr (ps[k]?.getD ([], [])).1 (ps[k]?.getD ([], [])).2 = if Tm.err (ps[k]?.getD ([], [])).1 = 0 then Tm.err (ps[k]?.getD ([], [])).2 else Tm.err (ps[k]?.getD ([], [])).1) := rfl
          generalize (ps[k]?.getD ([], [])).1 = P at *
          generalize (ps[k]?.getD ([], [])).2 = Q at *
          have hBa : Below wr.heap.size wr (wr.alloc (.cells #[.slice aL P.length cL, .slice aR Q.length cR] 42)) := (Below.refl _ _).alloc (Nat.le_refl _) _
          have bx := Box2.new wr 42 (.slice aL P.length cL) (.slice aR Q.length cR)
          have y0 := bx.cell0
          have y1 := bx.cell1
          have BBa := hB.trans (hBa.mono hB.size)
          obtain ⟨W1, hW1⟩ : ∃ W1, wr.alloc (.cells #[.slice aL P.length cL, .slice aR Q.length cR] 42) = W1 := ⟨_, rfl⟩
          rw [hW1] at hBa y0 y1 BBa
          have HW1 := hid hW1
          have hC1 := hid (check_any P aL cL W1 (((g3.mono hB.size).below hBa).mono hBa.size))
          have hC2 := hid (fun W (hW : Below W1.heap.size W1 W) => check_any Q aR cR W ((((g4.mono hB.size).below (hBa.trans (hW.mono hBa.size)))).mono (Nat.le_trans hBa.size hW.size)))
          clear g3 g4 bx hW1
          by_cases e1 : Tm.err P = 0
          · rw [e1] at hC1
            rw [if_pos e1] at hpe
            by_cases e2 : Tm.err Q = 0
            · rw [e2] at hC2 hpe
              have hn := hid (hnext.out hpe.out)
              clear e1 e2 hbad hnext hpe Hbad Hall
              go_wp2_with fail
              rw [HW1.out]
              refine wp_loop_rounds 3 ?_
              rw [rounds_succ]
              go_wp2_with (go_at_call 53; refine hC1.out.mono ?_; rintro e w2 ⟨rfl, b2⟩)
              rw [rounds_succ]
              go_wp2_with (go_at_call 53; refine (hC2.out w2 b2).mono ?_; rintro e w3 ⟨rfl, b3⟩)
              rw [rounds_succ]
              go_wp2
              go_roundw
              case rel => exact ⟨k + 1, by omega, by go_num, hn, (BBa.trans (b2.mono BBa.size)).trans (b3.mono (Nat.le_trans BBa.size b2.size))⟩
              case measure => simp [intOf]; omega
            · have hne : (Tm.err Q != 0) = true := by simpa using e2
              have hA := hid ((hbad.out (by rw [hpe.out]; exact e2)).trans hpe.out)
              clear e1 e2 hbad hnext hpe Hbad Hall
              generalize Tm.err Q = q at *
              go_wp2_with fail
              rw [HW1.out]
              refine wp_loop_rounds 3 ?_
              rw [rounds_succ]
              go_wp2_with (go_at_call 53; refine hC1.out.mono ?_; rintro e w2 ⟨rfl, b2⟩)
              rw [rounds_succ]
              go_wp2_with (go_at_call 53; refine (hC2.out w2 b2).mono ?_; rintro e w3 ⟨rfl, b3⟩)
              go_ret
              exact ⟨by rw [hA.out]; rfl, (BBa.trans (b2.mono BBa.size)).trans (b3.mono (Nat.le_trans BBa.size b2.size))⟩
          · have hne : (Tm.err P != 0) = true := by simpa using e1
            rw [if_neg e1] at hpe
            have hA := hid ((hbad.out (by rw [hpe.out]; exact e1)).trans hpe.out)
            clear e1 hbad hnext hpe Hbad Hall hC2
            generalize Tm.err P = q at *
            go_wp2_with fail
            rw [HW1.out]
            refine wp_loop_rounds 3 ?_
            rw [rounds_succ]
            go_wp2_with (go_at_call 53; refine hC1.out.mono ?_; rintro e w2 ⟨rfl, b2⟩)
            go_ret
            exact ⟨by rw [hA.out]; rfl, BBa.trans (b2.mono BBa.size)⟩
        · obtain rfl : k = ps.length := by omega
          have hA := hid (Hall.out hst.out)
          clear Hbad Hall
          go_wp2
          go_ret
          exact ⟨by rw [hA.out]; rfl, hB⟩
  · rw [if_neg hk] at hB
    have hne : (Tm.rankErr rk != 0) = true := by simpa using hk
    rw [hB.out]
    clear hk hB
    generalize Tm.rankErr rk = q at *
    go_enter Try.func60, Try.ntmps60
    go_wp2_with (go_at_call 50; refine hC.out.mono ?_; rintro e w ⟨rfl, rfl⟩)
    go_ret
    exact ⟨rfl, Below.refl _ _⟩

/-- J1: what Turn tells of what it is handed. -/
def Tm.turnErr (rk : List Int) (rs : RuleL) (ps : PairL) : Int :=
  if Tm.bothErr rk ps = 0 then (if Tm.fallsErr rk rs = 0 then (if Tm.fallsVal rk rs = true then (if ps.length = 0 then 5 else 0) else 6) else Tm.fallsErr rk rs) else Tm.bothErr rk ps
set_option maxRecDepth 100000 in
set_option maxHeartbeats 2000000 in
theorem checkTurn_any (rk : List Int) (rs : RuleL) (ps : PairL) (ar al a : Option Addr) (cr cl cap : Nat) (w : World) (hR : Ints w.heap.size w ar rk) (hL : RulesAt w.heap.size w al rs) (hP : RulesAt w.heap.size w a ps) (hl : ps.length ≤ maxLen) :
    Calls Try.prog 63 #[.slice ar rk.length cr, .slice al rs.length cl, .slice a ps.length cap] w fun e w' => e = .returned (.int .i64 (Tm.turnErr rk rs ps)) ∧ Below w.heap.size w w' := by
  have hl' : (ps.length : Int) ≤ 9223372036854775807 := by unfold maxLen at hl; omega
  have hC := hid (checkBoth_any rk ps ar a cr cap w hR hP hl)
  have hF := hid (fun W (hW : Below w.heap.size w W) => rulesFalls_any rk rs ar al cr cl W ((hR.below hW).mono hW.size) ((hL.below hW).mono hW.size))
  have hE : Hid (Tm.turnErr rk rs ps = if Tm.bothErr rk ps = 0 then (if Tm.fallsErr rk rs = 0 then (if Tm.fallsVal rk rs = true then (if ps.length = 0 then 5 else 0) else 6) else Tm.fallsErr rk rs) else Tm.bothErr rk ps) := rfl
  rw [hE.out]
  clear hR hL hP hE
  generalize Tm.bothErr rk ps = qb at *
  generalize Tm.fallsErr rk rs = qe at *
  generalize Tm.fallsVal rk rs = qf at *
  by_cases h1 : qb = 0
  · subst h1
    rw [if_pos rfl]
    by_cases h2 : qe = 0
    · subst h2
      rw [if_pos rfl]
      cases qf with
      | true =>
        rw [if_pos rfl]
        by_cases h3 : ps.length = 0
        · have h3' : ((ps.length : Int) == 0) = true := len_yes h3
          rw [if_pos h3]
          clear h3
          go_enter Try.func63, Try.ntmps63
          go_wp2_with fail
          refine hC.out.mono ?_
          rintro e w1 ⟨rfl, b1⟩
          go_wp2_with fail
          refine (hF.out w1 b1).mono ?_
          rintro e w2 ⟨rfl, b2⟩
          go_wp2
          go_ret
          exact ⟨rfl, b1.trans (b2.mono b1.size)⟩
        · have h3' : ((ps.length : Int) == 0) = false := len_no h3
          rw [if_neg h3]
          clear h3
          go_enter Try.func63, Try.ntmps63
          go_wp2_with fail
          refine hC.out.mono ?_
          rintro e w1 ⟨rfl, b1⟩
          go_wp2_with fail
          refine (hF.out w1 b1).mono ?_
          rintro e w2 ⟨rfl, b2⟩
          go_wp2
          go_ret
          exact ⟨rfl, b1.trans (b2.mono b1.size)⟩
      | false =>
        rw [if_neg (by simp)]
        go_enter Try.func63, Try.ntmps63
        go_wp2_with fail
        refine hC.out.mono ?_
        rintro e w1 ⟨rfl, b1⟩
        go_wp2_with fail
        refine (hF.out w1 b1).mono ?_
        rintro e w2 ⟨rfl, b2⟩
        go_wp2
        go_ret
        exact ⟨rfl, b1.trans (b2.mono b1.size)⟩
    · have hne : (qe != 0) = true := by simpa using h2
      rw [if_neg h2]
      clear h2
      go_enter Try.func63, Try.ntmps63
      go_wp2_with fail
      refine hC.out.mono ?_
      rintro e w1 ⟨rfl, b1⟩
      go_wp2_with fail
      refine (hF.out w1 b1).mono ?_
      rintro e w2 ⟨rfl, b2⟩
      go_wp2
      go_ret
      exact ⟨rfl, b1.trans (b2.mono b1.size)⟩
  · have hne : (qb != 0) = true := by simpa using h1
    rw [if_neg h1]
    clear h1
    go_enter Try.func63, Try.ntmps63
    go_wp2_with fail
    refine hC.out.mono ?_
    rintro e w1 ⟨rfl, b1⟩
    go_wp2
    go_ret
    exact ⟨rfl, b1⟩

/-- The forms of two terms. -/
def Tm.formsVal (rs : RuleL) (P Q : List Int) : List Int × List Int := if Tm.joinErr rs P Q = 0 then ((Tm.form rs P).1, (Tm.form rs Q).1) else ([], [])
set_option maxRecDepth 100000 in
set_option maxHeartbeats 2000000 in
theorem forms_any (rs : RuleL) (P Q : List Int) (al aP aQ : Option Addr) (cl cP cQ : Nat) (w : World) (hR : RulesAt w.heap.size w al rs) (hP : Ints w.heap.size w aP P) (hQ : Ints w.heap.size w aQ Q) (p1 : P.length ≤ cP) (p2 : cP ≤ maxLen) (q1 : Q.length ≤ cQ) (q2 : cQ ≤ maxLen) :
    Calls Try.prog 64 #[.slice al rs.length cl, .agg #[.slice aP P.length cP, .slice aQ Q.length cQ]] w fun e w' => ∃ v u, e = .returned (.tuple #[v, u, .int .i64 (Tm.joinErr rs P Q)]) ∧ New w.heap.size w' v (Tm.formsVal rs P Q).1 ∧ New w.heap.size w' u (Tm.formsVal rs P Q).2 ∧ Below w.heap.size w w' := by
  obtain ⟨W1, hW1⟩ : ∃ W1, w.alloc (.cells #[.slice aP P.length cP, .slice aQ Q.length cQ] 42) = W1 := ⟨_, rfl⟩
  have hB1 : Below w.heap.size w W1 := by rw [← hW1]; exact (Below.refl _ _).alloc (Nat.le_refl _) _
  have bx : Box2 W1 w.heap.size 42 (.slice aP P.length cP) (.slice aQ Q.length cQ) := by rw [← hW1]; exact Box2.new w _ _ _
  have c0 := bx.cell0
  have C1 := hid (form_any rs P al aP cl cP W1 ((hR.below hB1).mono hB1.size) ((hP.below hB1).mono hB1.size) p1 p2)
  have C2 := hid (fun W (hW : Below W1.heap.size W1 W) => form_any rs Q al aQ cl cQ W (by have h := hB1.trans (hW.mono hB1.size); exact (hR.below h).mono h.size) (by have h := hB1.trans (hW.mono hB1.size); exact (hQ.below h).mono h.size) q1 q2)
  have hE : Hid (Tm.joinErr rs P Q = if (Tm.form rs P).2.2 = 0 then (Tm.form rs Q).2.2 else (Tm.form rs P).2.2) := rfl
  have hV : Hid (Tm.formsVal rs P Q = if Tm.joinErr rs P Q = 0 then ((Tm.form rs P).1, (Tm.form rs Q).1) else ([], [])) := rfl
  have HW1 := hid hW1
  clear hW1 hR hP hQ p1 p2 q1 q2
  generalize Tm.form rs P = f at *
  generalize Tm.form rs Q = g at *
  obtain ⟨x, n, er⟩ := f
  obtain ⟨y, m, er2⟩ := g
  dsimp only at C1 C2 hE hV
  by_cases he : er = 0
  · subst he
    rw [if_pos rfl] at hE
    by_cases he2 : er2 = 0
    · subst he2
      rw [hE.out, if_pos rfl] at hV
      rw [hE.out, hV.out]
      clear hV hE
      go_enter Try.func64, Try.ntmps64
      go_wp2_with fail
      rw [HW1.out]
      go_wp2_with fail
      refine C1.out.mono ?_
      rintro e w1 ⟨v1, rfl, n1, b1⟩
      obtain ⟨x1, c1, rfl, _⟩ := New.ints n1
      have c1' := (bx.below b1 bx.lt).cell1
      have N1 := hid n1
      clear C1 n1
      go_wp2_with fail
      refine (C2.out w1 b1).mono ?_
      rintro e w2 ⟨v2, rfl, n2, b2⟩
      obtain ⟨x2, c2, rfl, _⟩ := New.ints n2
      have B2 := b1.trans (b2.mono b1.size)
      have N2 := hid n2
      clear C2 n2 c1'
      go_wp2
      go_ret3
      exact ⟨_, _, rfl, (N1.out.below b2).mono hB1.size, N2.out.mono (Nat.le_trans hB1.size b1.size), hB1.trans (B2.mono hB1.size)⟩
    · have hne : (er2 != 0) = true := by simpa using he2
      rw [hE.out, if_neg he2] at hV
      rw [hE.out, hV.out]
      clear hV hE he2
      go_enter Try.func64, Try.ntmps64
      go_wp2_with fail
      rw [HW1.out]
      go_wp2_with fail
      refine C1.out.mono ?_
      rintro e w1 ⟨v1, rfl, n1, b1⟩
      obtain ⟨x1, c1, rfl, _⟩ := New.ints n1
      have c1' := (bx.below b1 bx.lt).cell1
      clear C1 n1
      go_wp2_with fail
      refine (C2.out w1 b1).mono ?_
      rintro e w2 ⟨v2, rfl, n2, b2⟩
      obtain ⟨x2, c2, rfl, _⟩ := New.ints n2
      have B2 := b1.trans (b2.mono b1.size)
      clear C2 n2 c1'
      go_wp2
      go_ret3
      exact ⟨_, _, rfl, New.nil _ _, New.nil _ _, hB1.trans (B2.mono hB1.size)⟩
  · rw [if_neg he] at hE
    rw [hE.out, if_neg he] at hV
    have hne : (er != 0) = true := by simpa using he
    rw [hE.out, hV.out]
    clear hV hE he
    go_enter Try.func64, Try.ntmps64
    go_wp2_with fail
    rw [HW1.out]
    go_wp2_with fail
    refine C1.out.mono ?_
    rintro e w1 ⟨v1, rfl, n1, b1⟩
    obtain ⟨x1, c1, rfl, _⟩ := New.ints n1
    clear C1 n1
    go_wp2
    go_ret3
    exact ⟨_, _, rfl, New.nil _ _, New.nil _ _, hB1.trans (b1.mono hB1.size)⟩

end Go.Proofs.Ytgeknojpcjadkaa

namespace Go.Proofs.Ytgeknojpcjadkaa
open Go.Proofs Go.RowKit Go.Shelf Go.Maps

theorem takeP_snoc {rs : PairL} {k : Nat} (hk : k < rs.length) : rs.take (k + 1) = rs.take k ++ [((rs[k]?.getD ([], [])).1, (rs[k]?.getD ([], [])).2)] := by
  rw [List.take_succ_eq_append_getElem hk, List.getElem?_eq_getElem hk]
  rfl

set_option maxRecDepth 100000 in
set_option maxHeartbeats 4000000 in
theorem ownRules_any (eb : Nat) (rs : PairL) (a : Option Addr) (cap : Nat) (w : World) (heb : eb ≤ w.heap.size) (hR : RulesAt w.heap.size w a rs) (hl : rs.length ≤ 1000) (he : ∀ k, k < rs.length → Tm.err (rs[k]?.getD ([], [])).1 = 0 ∧ Tm.err (rs[k]?.getD ([], [])).2 = 0) :
    Calls Try.prog 65 #[.slice a rs.length cap] w fun e w' => ∃ v, e = .returned v ∧ NewX 39 w.heap.size eb w' v rs ∧ Below w.heap.size w w' := by
  have hl' : (rs.length : Int) ≤ 1000 := by omega
  have HR := hid hR
  have He := hid he
  clear hR he
  go_enter Try.func65, Try.ntmps65
  go_wp2
  go_loopw [3, 8] (fun ov v wr => ∃ k : Nat, k ≤ rs.length ∧ v = .int .i64 (k : Int) ∧ Hid (NewX 39 w.heap.size eb wr ov (rs.take k)) ∧ Below w.heap.size w wr) (fun _ v _ => rs.length - (intOf v).toNat)
  case atStart => exact ⟨0, Nat.zero_le _, rfl, hid (NewX.nil _ _ _ _), Below.refl _ _⟩
  case round =>
    obtain ⟨k, hk, rfl, hN, hB⟩ := hrel
    obtain ⟨va, vc, rfl⟩ := hN.out.slice
    by_cases hlt : k < rs.length
    · have hlt' : (k : Int) < (rs.length : Int) := by omega
      obtain ⟨b, off, rfl, hb, aL, cL, aR, cR, g1, g2, g3, g4, g5, g6, g7, g8⟩ := (HR.out.below hB) k hlt
      obtain ⟨eL, eR⟩ := He.out k hlt
      have hsn := hid (takeP_snoc hlt)
      have htl : (rs.take k).length ≤ 1000 := by rw [List.length_take]; omega
      generalize (rs[k]?.getD ([], [])).1 = P at *
      generalize (rs[k]?.getD ([], [])).2 = Q at *
      generalize rs.take k = ps at *
      obtain ⟨W1, hW1⟩ : ∃ W1, wr.alloc (.cells #[.slice aL P.length cL, .slice aR Q.length cR] 39) = W1 := ⟨_, rfl⟩
      have hBa : Below wr.heap.size wr W1 := by rw [← hW1]; exact (Below.refl _ _).alloc (Nat.le_refl _) _
      have bx : Box2 W1 wr.heap.size 39 (.slice aL P.length cL) (.slice aR Q.length cR) := by rw [← hW1]; exact Box2.new wr _ _ _
      have HW1 := hid hW1
      have hBd : Below W1.heap.size W1 W1.drew := below_drewN (Below.refl _ W1) 1
      have hC1 := hid (clone_right P aL cL W1.drew eL (((g3.mono hB.size).below (hBa.trans (hBd.mono hBa.size))).mono (Nat.le_trans hBa.size hBd.size)))
      have hC2 := hid (fun W (hW : Below W1.heap.size W1 W) => clone_right Q aR cR W eR (((g4.mono hB.size).below (hBa.trans (hW.mono hBa.size))).mono (Nat.le_trans hBa.size hW.size)))
      have hS := hid (fun W (hW : Below W1.heap.size W1 W) => (show W.cell? ⟨wr.heap.size, 0, none⟩ = some (.slice aL P.length cL) ∧ W.cell? ⟨wr.heap.size, 1, none⟩ = some (.slice aR Q.length cR) from ⟨(bx.below hW bx.lt).cell0, (bx.below hW bx.lt).cell1⟩))
      have hS0 := hS.out W1 (Below.refl _ _)
      have hSd := hS.out W1.drew hBd
      have hwB := hB.trans (hBa.mono hB.size)
      have hwd := hwB.trans (hBd.mono hwB.size)
      clear g3 g4 hW1 eL eR bx
      have hap := hid (fun v1 w2 (n1 : New W1.drew.heap.size w2 v1 P) (b2 : Below W1.drew.heap.size W1.drew w2) v2 w3 (n2 : New w2.heap.size w3 v2 Q) (b3 : Below w2.heap.size w2 w3) => (show ∃ a1 c1 a2 c2, v1 = .slice a1 P.length c1 ∧ v2 = .slice a2 Q.length c2 ∧ P.length ≤ c1 ∧ c1 ≤ maxLen ∧ Q.length ≤ c2 ∧ c2 ≤ maxLen ∧ Hid (∀ V : World, V.heap = (w3.alloc (.cells #[v1, v2] 39)).heap → IntR eb V a1 P ∧ IntR eb V a2 Q ∧ NewX 39 w.heap.size eb V (.slice va ps.length vc) ps ∧ V.cell? ⟨w3.heap.size, 0, none⟩ = some v1 ∧ V.cell? ⟨w3.heap.size, 1, none⟩ = some v2) ∧ w.heap.size ≤ w3.heap.size ∧ Hid (Below w.heap.size w w3) from by
        obtain ⟨a1, c1, e1, i1, m1, m1'⟩ := IntR.new (base := eb) (n1.below b3)
        obtain ⟨a2, c2, e2, i2, m2, m2'⟩ := IntR.new (base := eb) n2
        have hw2 := hwd.trans (b2.mono hwd.size)
        have hw3 := hw2.trans (b3.mono hw2.size)
        have hN3 := ((((hN.out.below hBa).below hBd).below b2).below b3)
        refine ⟨a1, c1, a2, c2, e1, e2, m1, m1', m2, m2', hid fun V hV => ?_, hw3.size, hid hw3⟩
        have hk : ∀ q, q < w3.heap.size → V.heap[q]? = w3.heap[q]? := fun q hq => by rw [hV]; exact Below.heap_alloc w3 _ q hq
        have hs : w3.heap.size ≤ V.heap.size := by rw [hV]; simp
        have hb : V.heap[w3.heap.size]? = some (.cells #[v1, v2] 39 (0, 0)) := by rw [hV]; exact World.alloc_heap_new w3 _
        exact ⟨i1.keep hs (fun q hq _ => hk q hq), i2.keep hs (fun q hq _ => hk q hq), hN3.keep hs (fun q hq => hk q (hN3.block hq).2.1) (fun q hq _ => hk q hq), by rw [cell_at hb]; rfl, by rw [cell_at hb]; rfl⟩))
      have hSx := hid (fun V w4 (hs : V.cell? ⟨wr.heap.size, 0, none⟩ = some (.slice aL P.length cL) ∧ V.cell? ⟨wr.heap.size, 1, none⟩ = some (.slice aR Q.length cR)) (hg : World.grownBy V w4 (Value.slice va ps.length vc).ownBlock) => (show w4.cell? ⟨wr.heap.size, 0, none⟩ = some (.slice aL P.length cL) ∧ w4.cell? ⟨wr.heap.size, 1, none⟩ = some (.slice aR Q.length cR) from by
        have hne : some wr.heap.size ≠ (Value.slice va ps.length vc).ownBlock := fun e => by have := (hN.out.block e.symm).2.1; omega
        have hlt : wr.heap.size < V.heap.size := by simpa using lt_of_cell hs.1
        have hbk := hg.block wr.heap.size hlt hne
        exact ⟨(World.cell?_of_block (a := ⟨wr.heap.size, 0, none⟩) hbk).trans hs.1, (World.cell?_of_block (a := ⟨wr.heap.size, 1, none⟩) hbk).trans hs.2⟩))
      go_wp2_with fail
      rw [HW1.out]
      go_region_held3 (fun w' => w'.cell? ⟨wr.heap.size, 0, none⟩ = some (.slice aL P.length cL) ∧ w'.cell? ⟨wr.heap.size, 1, none⟩ = some (.slice aR Q.length cR)) (first | assumption | exact hS0 | exact hSd | exact hS2 | exact hS3 | exact hS4 _ | exact hS5) (first
        | (go_at_call_of 52 (Value.slice aL P.length cL); refine hC1.out.mono ?_; rintro e w2 ⟨v1, rfl, n1, b2⟩; have hb2 := hBd.trans (b2.mono hBd.size); have hS2 := hS.out w2 hb2)
        | (go_at_call_of 52 (Value.slice aR Q.length cR); refine (hC2.out w2 hb2).mono ?_; rintro e w3 ⟨v2, rfl, n2, b3⟩; have hb3 := hb2.trans (b3.mono hb2.size); have hS3 := hS.out w3 hb3; have hS4 := (fun o => hS.out (w3.alloc o) (hb3.alloc hb3.size o)); obtain ⟨a1, c1, a2, c2, rfl, rfl, m1, m1', m2, m2', hV, hsz, hw3⟩ := hap.out v1 w2 n1 b2 v2 w3 n2 b3)
        | (refine step_app_r _ (by rfl) _ _ (by rfl) w.heap.size eb heb (.slice va ps.length vc) ps (by rfl) (hV.out _ (by rfl)).2.2.1 w3.heap.size a1 a2 P Q c1 c2 (by rfl) (hV.out _ (by rfl)).2.2.2.1 (hV.out _ (by rfl)).2.2.2.2 (hV.out _ (by rfl)).1 (hV.out _ (by rfl)).2.1 m1 m1' m2 m2' (by omega) (by simp; omega) ?_; intro g4 c4 w4 hN4 hg4 b4; have hS5 := hSx.out _ w4 (hS4 _) hg4))
      have hw4 : Hid (Below w.heap.size w w4) := by first | exact (hw3.out.alloc hsz _).trans b4 | exact (below_drewN (hw3.out.alloc hsz _) 1).trans b4
      have HN4 := hid hN4
      clear b4 hg4 hS0 hSd hS2 hS3 hS4 hS5 hSx hap hC1 hC2 hS n1 n2 b2 b3 hb2 hb3 hN4
      go_wp2
      go_roundw
      case rel => exact ⟨k + 1, by omega, by go_num, by rw [hsn.out]; simpa [Hid] using HN4, hw4.out⟩
      case measure => simp [intOf]; omega
    · obtain rfl : k = rs.length := by omega
      rw [List.take_length] at hN
      rw [List.take_length]
      go_wp2
      go_ret
      exact ⟨_, rfl, hN.out, hB⟩

set_option maxRecDepth 100000 in
set_option maxHeartbeats 4000000 in
theorem ownPairs_any (eb : Nat) (rs : PairL) (a : Option Addr) (cap : Nat) (w : World) (heb : eb ≤ w.heap.size) (hR : RulesAt w.heap.size w a rs) (hl : rs.length ≤ 1000) (he : ∀ k, k < rs.length → Tm.err (rs[k]?.getD ([], [])).1 = 0 ∧ Tm.err (rs[k]?.getD ([], [])).2 = 0) :
    Calls Try.prog 66 #[.slice a rs.length cap] w fun e w' => ∃ v, e = .returned v ∧ NewX 42 w.heap.size eb w' v rs ∧ Below w.heap.size w w' := by
  have hl' : (rs.length : Int) ≤ 1000 := by omega
  have HR := hid hR
  have He := hid he
  clear hR he
  go_enter Try.func66, Try.ntmps66
  go_wp2
  go_loopw [3, 8] (fun ov v wr => ∃ k : Nat, k ≤ rs.length ∧ v = .int .i64 (k : Int) ∧ Hid (NewX 42 w.heap.size eb wr ov (rs.take k)) ∧ Below w.heap.size w wr) (fun _ v _ => rs.length - (intOf v).toNat)
  case atStart => exact ⟨0, Nat.zero_le _, rfl, hid (NewX.nil _ _ _ _), Below.refl _ _⟩
  case round =>
    obtain ⟨k, hk, rfl, hN, hB⟩ := hrel
    obtain ⟨va, vc, rfl⟩ := hN.out.slice
    by_cases hlt : k < rs.length
    · have hlt' : (k : Int) < (rs.length : Int) := by omega
      obtain ⟨b, off, rfl, hb, aL, cL, aR, cR, g1, g2, g3, g4, g5, g6, g7, g8⟩ := (HR.out.below hB) k hlt
      obtain ⟨eL, eR⟩ := He.out k hlt
      have hsn := hid (takeP_snoc hlt)
      have htl : (rs.take k).length ≤ 1000 := by rw [List.length_take]; omega
      generalize (rs[k]?.getD ([], [])).1 = P at *
      generalize (rs[k]?.getD ([], [])).2 = Q at *
      generalize rs.take k = ps at *
      obtain ⟨W1, hW1⟩ : ∃ W1, wr.alloc (.cells #[.slice aL P.length cL, .slice aR Q.length cR] 42) = W1 := ⟨_, rfl⟩
      have hBa : Below wr.heap.size wr W1 := by rw [← hW1]; exact (Below.refl _ _).alloc (Nat.le_refl _) _
      have bx : Box2 W1 wr.heap.size 42 (.slice aL P.length cL) (.slice aR Q.length cR) := by rw [← hW1]; exact Box2.new wr _ _ _
      have HW1 := hid hW1
      have hBd : Below W1.heap.size W1 W1.drew := below_drewN (Below.refl _ W1) 1
      have hC1 := hid (clone_right P aL cL W1.drew eL (((g3.mono hB.size).below (hBa.trans (hBd.mono hBa.size))).mono (Nat.le_trans hBa.size hBd.size)))
      have hC2 := hid (fun W (hW : Below W1.heap.size W1 W) => clone_right Q aR cR W eR (((g4.mono hB.size).below (hBa.trans (hW.mono hBa.size))).mono (Nat.le_trans hBa.size hW.size)))
      have hS := hid (fun W (hW : Below W1.heap.size W1 W) => (show W.cell? ⟨wr.heap.size, 0, none⟩ = some (.slice aL P.length cL) ∧ W.cell? ⟨wr.heap.size, 1, none⟩ = some (.slice aR Q.length cR) from ⟨(bx.below hW bx.lt).cell0, (bx.below hW bx.lt).cell1⟩))
      have hS0 := hS.out W1 (Below.refl _ _)
      have hSd := hS.out W1.drew hBd
      have hwB := hB.trans (hBa.mono hB.size)
      have hwd := hwB.trans (hBd.mono hwB.size)
      clear g3 g4 hW1 eL eR bx
      have hap := hid (fun v1 w2 (n1 : New W1.drew.heap.size w2 v1 P) (b2 : Below W1.drew.heap.size W1.drew w2) v2 w3 (n2 : New w2.heap.size w3 v2 Q) (b3 : Below w2.heap.size w2 w3) => (show ∃ a1 c1 a2 c2, v1 = .slice a1 P.length c1 ∧ v2 = .slice a2 Q.length c2 ∧ P.length ≤ c1 ∧ c1 ≤ maxLen ∧ Q.length ≤ c2 ∧ c2 ≤ maxLen ∧ Hid (∀ V : World, V.heap = (w3.alloc (.cells #[v1, v2] 42)).heap → IntR eb V a1 P ∧ IntR eb V a2 Q ∧ NewX 42 w.heap.size eb V (.slice va ps.length vc) ps ∧ V.cell? ⟨w3.heap.size, 0, none⟩ = some v1 ∧ V.cell? ⟨w3.heap.size, 1, none⟩ = some v2) ∧ w.heap.size ≤ w3.heap.size ∧ Hid (Below w.heap.size w w3) from by
        obtain ⟨a1, c1, e1, i1, m1, m1'⟩ := IntR.new (base := eb) (n1.below b3)
        obtain ⟨a2, c2, e2, i2, m2, m2'⟩ := IntR.new (base := eb) n2
        have hw2 := hwd.trans (b2.mono hwd.size)
        have hw3 := hw2.trans (b3.mono hw2.size)
        have hN3 := ((((hN.out.below hBa).below hBd).below b2).below b3)
        refine ⟨a1, c1, a2, c2, e1, e2, m1, m1', m2, m2', hid fun V hV => ?_, hw3.size, hid hw3⟩
        have hk : ∀ q, q < w3.heap.size → V.heap[q]? = w3.heap[q]? := fun q hq => by rw [hV]; exact Below.heap_alloc w3 _ q hq
        have hs : w3.heap.size ≤ V.heap.size := by rw [hV]; simp
        have hb : V.heap[w3.heap.size]? = some (.cells #[v1, v2] 42 (0, 0)) := by rw [hV]; exact World.alloc_heap_new w3 _
        exact ⟨i1.keep hs (fun q hq _ => hk q hq), i2.keep hs (fun q hq _ => hk q hq), hN3.keep hs (fun q hq => hk q (hN3.block hq).2.1) (fun q hq _ => hk q hq), by rw [cell_at hb]; rfl, by rw [cell_at hb]; rfl⟩))
      have hSx := hid (fun V w4 (hs : V.cell? ⟨wr.heap.size, 0, none⟩ = some (.slice aL P.length cL) ∧ V.cell? ⟨wr.heap.size, 1, none⟩ = some (.slice aR Q.length cR)) (hg : World.grownBy V w4 (Value.slice va ps.length vc).ownBlock) => (show w4.cell? ⟨wr.heap.size, 0, none⟩ = some (.slice aL P.length cL) ∧ w4.cell? ⟨wr.heap.size, 1, none⟩ = some (.slice aR Q.length cR) from by
        have hne : some wr.heap.size ≠ (Value.slice va ps.length vc).ownBlock := fun e => by have := (hN.out.block e.symm).2.1; omega
        have hlt : wr.heap.size < V.heap.size := by simpa using lt_of_cell hs.1
        have hbk := hg.block wr.heap.size hlt hne
        exact ⟨(World.cell?_of_block (a := ⟨wr.heap.size, 0, none⟩) hbk).trans hs.1, (World.cell?_of_block (a := ⟨wr.heap.size, 1, none⟩) hbk).trans hs.2⟩))
      go_wp2_with fail
      rw [HW1.out]
      go_region_held3 (fun w' => w'.cell? ⟨wr.heap.size, 0, none⟩ = some (.slice aL P.length cL) ∧ w'.cell? ⟨wr.heap.size, 1, none⟩ = some (.slice aR Q.length cR)) (first | assumption | exact hS0 | exact hSd | exact hS2 | exact hS3 | exact hS4 _ | exact hS5) (first
        | (go_at_call_of 52 (Value.slice aL P.length cL); refine hC1.out.mono ?_; rintro e w2 ⟨v1, rfl, n1, b2⟩; have hb2 := hBd.trans (b2.mono hBd.size); have hS2 := hS.out w2 hb2)
        | (go_at_call_of 52 (Value.slice aR Q.length cR); refine (hC2.out w2 hb2).mono ?_; rintro e w3 ⟨v2, rfl, n2, b3⟩; have hb3 := hb2.trans (b3.mono hb2.size); have hS3 := hS.out w3 hb3; have hS4 := (fun o => hS.out (w3.alloc o) (hb3.alloc hb3.size o)); obtain ⟨a1, c1, a2, c2, rfl, rfl, m1, m1', m2, m2', hV, hsz, hw3⟩ := hap.out v1 w2 n1 b2 v2 w3 n2 b3)
        | (refine step_app_p _ (by rfl) _ _ (by rfl) w.heap.size eb heb (.slice va ps.length vc) ps (by rfl) (hV.out _ (by rfl)).2.2.1 w3.heap.size a1 a2 P Q c1 c2 (by rfl) (hV.out _ (by rfl)).2.2.2.1 (hV.out _ (by rfl)).2.2.2.2 (hV.out _ (by rfl)).1 (hV.out _ (by rfl)).2.1 m1 m1' m2 m2' (by omega) (by simp; omega) ?_; intro g4 c4 w4 hN4 hg4 b4; have hS5 := hSx.out _ w4 (hS4 _) hg4))
      have hw4 : Hid (Below w.heap.size w w4) := by first | exact (hw3.out.alloc hsz _).trans b4 | exact (below_drewN (hw3.out.alloc hsz _) 1).trans b4
      have HN4 := hid hN4
      clear b4 hg4 hS0 hSd hS2 hS3 hS4 hS5 hSx hap hC1 hC2 hS n1 n2 b2 b3 hb2 hb3 hN4
      go_wp2
      go_roundw
      case rel => exact ⟨k + 1, by omega, by go_num, by rw [hsn.out]; simpa [Hid] using HN4, hw4.out⟩
      case measure => simp [intOf]; omega
    · obtain rfl : k = rs.length := by omega
      rw [List.take_length] at hN
      rw [List.take_length]
      go_wp2
      go_ret
      exact ⟨_, rfl, hN.out, hB⟩

end Go.Proofs.Ytgeknojpcjadkaa
