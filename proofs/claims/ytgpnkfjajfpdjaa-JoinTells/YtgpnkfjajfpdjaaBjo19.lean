/-
  PLAIN MATHEMATICS of RulesTrue: which steps there are; how many; each goes to what is below, and brings no new variable. · What RulesTrue leans on: sums, and what stands in the term that a step comes to. · norm.Form, norm.Is. · join.Pair, join.All. · PLAIN MATHEMATICS: what pairs of rules are is one thing; the pairs of a group's rules. · hasplaw.pairsBegun. · hasplaw.joinBegun. · haspref.applied and haspref.plain of what may be long. · haspref.put, of what may be too large. · hasplaw.normBegun.
-/
import Derived.Test.YtgpnkfjajfpdjaaBjo14
import Derived.Test.YtgpnkfjajfpdjaaBjo18
import Derived.Test.YtgpnkfjajfpdjaaBjo9
import Derived.Test.YtgpnkfjajfpdjaaBjo15
import Derived.Test.YtgpnkfjajfpdjaaBjo2
import Derived.Test.YtgpnkfjajfpdjaaBjo3
namespace Go.Proofs.Ytgpnkfjajfpdjaa
open Go.Proofs Go.RowKit Go.Shelf Go.Maps

theorem Tm.rowL_mem {rs : RuleL} {t : List Int} {a : Nat} {x : Nat × Nat × List Int} : ∀ n, x ∈ Tm.rowL rs t a n → x.1 < n ∧ x.2.1 = a ∧ Tm.hitB rs t a x.1 = true ∧ x.2.2 = Tm.hitVal rs t a x.1 := by
  intro n
  induction n with
  | zero => intro h; simp [Tm.rowL] at h
  | succ n ih =>
    intro h
    rw [Tm.rowL, List.mem_append] at h
    rcases h with h | h
    · obtain ⟨h1, h2⟩ := ih h
      exact ⟨by omega, h2⟩
    · split at h
      · simp only [List.mem_cons, List.not_mem_nil, or_false] at h
        subst h
        exact ⟨by simp, rfl, by assumption, rfl⟩
      · simp at h
theorem Tm.allL_mem {rs : RuleL} {t : List Int} {x : Nat × Nat × List Int} : ∀ m, x ∈ Tm.allL rs t m → x.2.1 < m ∧ x.1 < rs.length ∧ Tm.hitB rs t x.2.1 x.1 = true ∧ x.2.2 = Tm.hitVal rs t x.2.1 x.1 := by
  intro m
  induction m with
  | zero => intro h; simp [Tm.allL] at h
  | succ m ih =>
    intro h
    rw [Tm.allL, List.mem_append] at h
    rcases h with h | h
    · obtain ⟨h1, h2⟩ := ih h
      exact ⟨by omega, h2⟩
    · obtain ⟨h1, h2, h3, h4⟩ := Tm.rowL_mem _ h
      rw [h2]
      exact ⟨by omega, h1, h3, h4⟩
theorem Tm.rowE_all {rs : RuleL} {t : List Int} {a : Nat} : ∀ n, Tm.rowE rs t a n = 0 → ∀ k, k < n → Tm.hitB rs t a k = true → Tm.hitErr rs t a k = 0 := by
  intro n
  induction n with
  | zero => intro _ k hk; omega
  | succ n ih =>
    intro h k hk hb
    rw [Tm.rowE] at h
    by_cases h0 : Tm.rowE rs t a n = 0
    · rw [if_pos h0] at h
      by_cases e : k = n
      · subst e; rw [if_pos hb] at h; exact h
      · exact ih h0 k (by omega) hb
    · rw [if_neg h0] at h; exact absurd h h0
theorem Tm.allE_all {rs : RuleL} {t : List Int} : ∀ m, Tm.allE rs t m = 0 → ∀ a, a < m → ∀ k, k < rs.length → Tm.hitB rs t a k = true → Tm.hitErr rs t a k = 0 := by
  intro m
  induction m with
  | zero => intro _ a ha; omega
  | succ m ih =>
    intro h a ha
    rw [Tm.allE] at h
    by_cases h0 : Tm.allE rs t m = 0
    · rw [if_pos h0] at h
      by_cases e : a = m
      · subst e; exact Tm.rowE_all _ h
      · exact ih h0 a (by omega)
    · rw [if_neg h0] at h; exact absurd h h0

/-! How many. -/
def Tm.cnt (f : Nat → Bool) : Nat → Nat
  | 0 => 0
  | n + 1 => Tm.cnt f n + (if f n = true then 1 else 0)
def Tm.sum (g : Nat → Nat) : Nat → Nat
  | 0 => 0
  | n + 1 => Tm.sum g n + g n
/-! What a step is. -/
/-- A step of a right term by a rule that is right. -/
structure Tm.Step1 (L R t u : List Int) (a : Nat) (m : Asg) : Prop where
  fit : Tm.fit L (Tm.part t a) = some m
  goes : u = Tm.put t a (Tm.applied (Tm.fitL m 8) R)
  small : u.length ≤ 30
theorem Tm.hit_step {rs : RuleL} {t : List Int} {a k : Nat} (hr : Tm.rulesErr rs = 0) (ht : Tm.err t = 0) (ha : a < t.length) (hk : k < rs.length) (hb : Tm.hitB rs t a k = true) (he : Tm.hitErr rs t a k = 0) :
    ∃ m, Tm.Step1 (rs[k]?.getD ([], [])).1 (rs[k]?.getD ([], [])).2 t (Tm.hitVal rs t a k) a m := by
  obtain ⟨_, hall⟩ := Tm.rulesErr_ok hr
  obtain ⟨hL, hR, _⟩ := Tm.ruleErr_ok (hall k hk)
  rw [Tm.hitB_fit hL ht ha, Option.isSome_iff_exists] at hb
  obtain ⟨m, hm⟩ := hb
  obtain ⟨e1, e2⟩ := Tm.hit_fit hL hR ht ha hm
  rw [he] at e1
  by_cases h30 : 30 < (Tm.put t a (Tm.applied (Tm.fitL m 8) (rs[k]?.getD ([], [])).2)).length
  · rw [if_pos h30] at e1; omega
  · rw [if_neg h30] at e2
    exact ⟨m, hm, e2, by rw [e2]; omega⟩
theorem Tm.put_self (t : List Int) (a : Nat) : Tm.put t a (Tm.part t a) = t := by rw [Tm.put_eq]; exact (Tm.split t a).symm
theorem Tm.Step1.parts {L R t u : List Int} {a : Nat} {m : Asg} (h : Tm.Step1 L R t u a m) (hL : Tm.err L = 0) (hR : Tm.err R = 0) (ht : Tm.err t = 0) (ha : a < t.length) :
    Terms (Tm.fitL m 8) ∧ Tm.applied (Tm.fitL m 8) L = Tm.part t a ∧ Tm.err (Tm.applied (Tm.fitL m 8) R) = 0 ∧ Tm.err u = 0 := by
  have hs := Terms.of (Tm.subErr_fitL hL (Tm.part_err ht ha) h.fit)
  have hl := h.small
  have hle := Tm.applied_put_le (t := t) (u := Tm.applied (Tm.fitL m 8) R) (a := a)
  rw [← h.goes] at hle
  have hu := Tm.err_applied hs hR (by omega)
  refine ⟨hs, Tm.fit_makes hL (Tm.part_err ht ha) h.fit, hu, ?_⟩
  rw [h.goes]
  exact Tm.put_err ht hu ha (by rw [← h.goes]; exact hl)
/-- Of a rule that falls the step goes to what is below. -/
theorem Tm.Step1.below {r : Int → Int} {L R t u : List Int} {a : Nat} {m : Asg} (h : Tm.Step1 L R t u a m) (hL : Tm.err L = 0) (hR : Tm.err R = 0) (ht : Tm.err t = 0) (ha : a < t.length) (hg : Tm.Gt r L R) : Tm.Gt r t u := by
  obtain ⟨hs, e1, e2, _⟩ := h.parts hL hR ht ha
  have h1 := Tm.Gt.stays hs hg hL hR
  have h2 := Tm.Gt.within h1 (by rw [e1]; exact Tm.part_err ht ha) e2 _ t a (Nat.lt_succ_self _) ht ha
  rw [e1, Tm.put_self, ← h.goes] at h2
  exact h2
end Go.Proofs.Ytgpnkfjajfpdjaa

namespace Go.Proofs.Ytgpnkfjajfpdjaa
open Go.Proofs Go.RowKit Go.Shelf Go.Maps

theorem Tm.stepErr_term {rs : RuleL} {t : List Int} (h : Tm.stepErr rs t = 0) : Tm.rulesErr rs = 0 ∧ Tm.err t = 0 ∧ Tm.allE rs t t.length = 0 := by
  unfold Tm.stepErr at h
  by_cases h1 : Tm.rulesErr rs = 0
  · rw [if_pos h1] at h
    by_cases h2 : Tm.err t = 0
    · rw [if_pos h2] at h; exact ⟨h1, h2, h⟩
    · rw [if_neg h2] at h; exact absurd h h2
  · rw [if_neg h1] at h; exact absurd h h1
theorem len_no {n : Nat} (h : n ≠ 0) : ((n : Int) == 0) = false := by rw [beq_eq_false_iff_ne]; omega
/-- Is the sign a symbol, or among the first j of t? -/
def isB (s : Int) (t : List Int) (j : Nat) : Bool := decide (0 ≤ s) || (t.take j).any fun x => x == s
end Go.Proofs.Ytgpnkfjajfpdjaa

namespace Go.Proofs.Ytgpnkfjajfpdjaa
open Go.Proofs Go.RowKit Go.Shelf Go.Maps

/-- G1: always the first of the steps, k having been taken. -/
def Tm.fm (rs : RuleL) : Nat → List Int → Nat → List Int × Nat × Int
  | 0, _, _ => ([], 0, 2)
  | f + 1, t, k => if Tm.stepErr rs t = 0 then (match Tm.stepVal rs t with | [] => (t, k, 0) | s :: _ => Tm.fm rs f s.2.2 (k + 1)) else ([], 0, Tm.stepErr rs t)
def Tm.form (rs : RuleL) (t : List Int) : List Int × Nat × Int := Tm.fm rs 61 t 0
theorem Tm.fm_bad {rs : RuleL} {t : List Int} {f k : Nat} (h : Tm.stepErr rs t ≠ 0) : Tm.fm rs (f + 1) t k = ([], 0, Tm.stepErr rs t) := by rw [Tm.fm, if_neg h]
theorem Tm.fm_end {rs : RuleL} {t : List Int} {f k : Nat} (h : Tm.stepErr rs t = 0) (hn : (Tm.stepVal rs t).length = 0) : Tm.fm rs (f + 1) t k = (t, k, 0) := by
  rw [Tm.fm, if_pos h, List.eq_nil_of_length_eq_zero hn]
theorem Tm.fm_go {rs : RuleL} {t : List Int} {f k : Nat} (h : Tm.stepErr rs t = 0) (hn : 0 < (Tm.stepVal rs t).length) : Tm.fm rs (f + 1) t k = Tm.fm rs f ((Tm.stepVal rs t)[0]?.getD (0, 0, [])).2.2 (k + 1) := by
  rw [Tm.fm, if_pos h]
  cases hs : Tm.stepVal rs t with
  | nil => rw [hs] at hn; simp at hn
  | cons s l => rfl
theorem clone_right (zs : List Int) (a : Option Addr) (cap : Nat) (w : World) (he : Tm.err zs = 0) (hI : Ints w.heap.size w a zs) :
    Calls Try.prog 31 #[.slice a zs.length cap] w fun e w' => ∃ v, e = .returned v ∧ New w.heap.size w' v zs ∧ Below w.heap.size w w' := by
  obtain ⟨b, off, rfl, _, _⟩ := hI.at (Tm.err_pos he)
  exact clone_any zs b off cap w (Tm.err_len he) hI

set_option maxRecDepth 100000 in
set_option maxHeartbeats 2000000 in
theorem form_any (rs : RuleL) (t : List Int) (al at' : Option Addr) (cl ct : Nat) (w : World) (hR : RulesAt w.heap.size w al rs) (hT : Ints w.heap.size w at' t) (h1 : t.length ≤ ct) (h2 : ct ≤ maxLen) :
    Calls Try.prog 9 #[.slice al rs.length cl, .slice at' t.length ct] w fun e w' => ∃ v, e = .returned (.tuple #[v, .int .i64 ((Tm.form rs t).2.1 : Int), .int .i64 (Tm.form rs t).2.2]) ∧ New w.heap.size w' v (Tm.form rs t).1 ∧ Below w.heap.size w w' := by
  unfold Tm.form
  generalize hg : Tm.fm rs 61 t 0 = res
  have HR := hid hR
  clear hR
  go_enter Try.func9, Try.ntmps9
  go_wp2
  go_loopw [1, 10] (fun tv v wr => ∃ (k : Nat) (u : List Int) (a : Option Addr) (c : Nat), k ≤ 61 ∧ v = .int .i64 (k : Int) ∧ tv = .slice a u.length c ∧ Hid (Ints wr.heap.size wr a u) ∧ u.length ≤ c ∧ c ≤ maxLen ∧ Hid (Tm.fm rs (61 - k) u k = res) ∧ Below w.heap.size w wr) (fun _ v _ => 61 - (intOf v).toNat)
  case atStart => exact ⟨0, t, at', ct, by omega, rfl, rfl, hid hT, h1, h2, hid hg, Below.refl _ _⟩
  case round =>
    obtain ⟨k, u, a, c, hk, rfl, rfl, hI, hc1, hc2, hst, hB⟩ := hrel
    by_cases hlt : k < 61
    · have hlt' : (k : Int) < 61 := by omega
      have hC := hid (steps_any rs u al a cl c wr ((HR.out.below hB).mono hB.size) hI.out hc1 hc2)
      obtain ⟨f, hf⟩ : ∃ f, 61 - k = f + 1 := ⟨60 - k, by omega⟩
      rw [hf] at hst
      by_cases he : Tm.stepErr rs u = 0
      · obtain ⟨_, hu, _⟩ := Tm.stepErr_term he
        by_cases hn : (Tm.stepVal rs u).length = 0
        · have hr := hid ((Tm.fm_end (f := f) (k := k) he hn).symm.trans hst.out)
          have hCl := hid (fun W (hW : Below wr.heap.size wr W) => clone_right u a c W hu ((hI.out.below hW).mono hW.size))
          unfold StepsAns at hC
          rw [he, List.eq_nil_of_length_eq_zero hn] at hC
          clear he hn hu hst hI
          go_wp2_with (first
            | (go_at_call 30; refine hC.out.mono ?_; clear hC; rintro e w1 ⟨v1, rfl, hN1, b1⟩; obtain ⟨va, vc, rfl⟩ := hN1.slice; have HN := hid hN1; clear hN1)
            | (go_at_call 31; refine (hCl.out w1 b1).mono ?_; clear hCl; rintro e w2 ⟨v2, rfl, hN2, b2⟩; obtain ⟨xa, xc, rfl, _⟩ := New.ints hN2))
          go_ret3
          have B1 := hB.trans (b1.mono hB.size)
          rw [← hr.out]
          exact ⟨_, rfl, hN2.mono B1.size, B1.trans (b2.mono B1.size)⟩
        · have hp : 0 < (Tm.stepVal rs u).length := by omega
          have hr := hid ((Tm.fm_go (f := f) (k := k) he hp).symm.trans hst.out)
          have hle := hid (show (Tm.stepVal rs u).length ≤ 1000 by
            obtain ⟨k1, k2, k3⟩ := Tm.stepErr_term he
            have h3 := Tm.allL_le rs u u.length
            have h4 := Tm.err_len k2
            have h5 := (Tm.rulesErr_ok k1).1
            have h6 : u.length * rs.length ≤ 30 * 8 := Nat.mul_le_mul h4 h5
            unfold Tm.stepVal
            rw [if_pos he]
            omega)
          unfold StepsAns at hC
          rw [he] at hC
          have hff : f = 61 - (k + 1) := by omega
          rw [hff] at hr
          clear he hn hu hst hI hf hff
          generalize Tm.stepVal rs u = sts at *
          have hpi : (0 : Int) < (sts.length : Int) := by omega
          have hne : ((sts.length : Int) == 0) = false := len_no (by omega)
          go_wp2_with (first
            | (go_at_call 30; refine hC.out.mono ?_; clear hC; rintro e w1 ⟨v1, rfl, hN1, b1⟩; obtain ⟨g, cg, rfl, hat⟩ := hN1.at hp; obtain ⟨x0, y0, _, _, c02, i0, q0, q1⟩ := hat 0 hp; clear hat; simp only [Nat.zero_mul, Nat.zero_add] at c02; have HN := hid hN1; clear hN1; generalize (sts[0]?.getD (0, 0, [])).2.2 = u1 at *))
          go_roundw
          case rel => exact ⟨k + 1, u1, x0, y0, by omega, by go_num, rfl, hid i0, q0, q1, hid hr.out, hB.trans (b1.mono hB.size)⟩
          case measure => simp [intOf]; omega
      · have hr := hid ((Tm.fm_bad (f := f) (k := k) he).symm.trans hst.out)
        have hne : (Tm.stepErr rs u != 0) = true := by simpa using he
        unfold StepsAns at hC
        clear he hst hI
        generalize Tm.stepErr rs u = q at *
        go_wp2_with (first
          | (go_at_call 30; refine hC.out.mono ?_; clear hC; rintro e w1 ⟨v1, rfl, hN1, b1⟩; obtain ⟨va, vc, rfl⟩ := hN1.slice; clear hN1))
        go_ret3
        rw [← hr.out]
        exact ⟨_, rfl, New.nil _ _, hB.trans (b1.mono hB.size)⟩
    · obtain rfl : k = 61 := by omega
      have hr := hst.out
      rw [Nat.sub_self, Tm.fm] at hr
      have Hr := hid hr
      clear hr hst hI
      go_wp2
      go_ret3
      rw [← Hr.out]
      exact ⟨_, rfl, New.nil _ _, hB⟩

/-- Is. -/
def Tm.isForm (rs : RuleL) (t : List Int) : Bool := decide (Tm.stepErr rs t = 0) && decide ((Tm.stepVal rs t).length = 0)
end Go.Proofs.Ytgpnkfjajfpdjaa

namespace Go.Proofs.Ytgpnkfjajfpdjaa
open Go.Proofs Go.RowKit Go.Shelf Go.Maps

/-- I1: the error of two terms' forms; have they one form? -/
def Tm.joinErr (rs : RuleL) (P Q : List Int) : Int := if (Tm.form rs P).2.2 = 0 then (Tm.form rs Q).2.2 else (Tm.form rs P).2.2
def Tm.joinIs (rs : RuleL) (P Q : List Int) : Bool := decide (Tm.joinErr rs P Q = 0) && sameB (Tm.form rs P).1 (Tm.form rs Q).1

set_option maxRecDepth 100000 in
set_option maxHeartbeats 2000000 in
theorem joinPair_any (rs : RuleL) (P Q : List Int) (al aP aQ : Option Addr) (cl cP cQ : Nat) (w : World) (hR : RulesAt w.heap.size w al rs) (hP : Ints w.heap.size w aP P) (hQ : Ints w.heap.size w aQ Q) (p1 : P.length ≤ cP) (p2 : cP ≤ maxLen) (q1 : Q.length ≤ cQ) (q2 : cQ ≤ maxLen) :
    Calls Try.prog 23 #[.slice al rs.length cl, .agg #[.slice aP P.length cP, .slice aQ Q.length cQ]] w fun e w' => e = .returned (.tuple #[.bool (Tm.joinIs rs P Q), .int .i64 (Tm.joinErr rs P Q)]) ∧ Below w.heap.size w w' := by
  obtain ⟨W1, hW1⟩ : ∃ W1, w.alloc (.cells #[.slice aP P.length cP, .slice aQ Q.length cQ] 53) = W1 := ⟨_, rfl⟩
  have hB1 : Below w.heap.size w W1 := by rw [← hW1]; exact (Below.refl _ _).alloc (Nat.le_refl _) _
  have bx : Box2 W1 w.heap.size 53 (.slice aP P.length cP) (.slice aQ Q.length cQ) := by rw [← hW1]; exact Box2.new w _ _ _
  have c0 := bx.cell0
  have C1 := hid (form_any rs P al aP cl cP W1 ((hR.below hB1).mono hB1.size) ((hP.below hB1).mono hB1.size) p1 p2)
  have C2 := hid (fun W (hW : Below W1.heap.size W1 W) => form_any rs Q al aQ cl cQ W (by have h := hB1.trans (hW.mono hB1.size); exact (hR.below h).mono h.size) (by have h := hB1.trans (hW.mono hB1.size); exact (hQ.below h).mono h.size) q1 q2)
  have hE : Hid (Tm.joinErr rs P Q = if (Tm.form rs P).2.2 = 0 then (Tm.form rs Q).2.2 else (Tm.form rs P).2.2) := rfl
  have hI : Hid (Tm.joinIs rs P Q = (decide (Tm.joinErr rs P Q = 0) && sameB (Tm.form rs P).1 (Tm.form rs Q).1)) := rfl
  have HW1 := hid hW1
  clear hW1 hR hP hQ p1 p2 q1 q2
  generalize Tm.form rs P = f at *
  generalize Tm.form rs Q = g at *
  obtain ⟨x, n, er⟩ := f
  obtain ⟨y, m, er2⟩ := g
  dsimp only at C1 C2 hE hI
  by_cases he : er = 0
  · subst he
    rw [if_pos rfl] at hE
    by_cases he2 : er2 = 0
    · subst he2
      have hs := hid (show Tm.joinIs rs P Q = sameB x y by rw [hI.out, hE.out]; simp)
      rw [hE.out, hs.out]
      clear hI hE hs
      go_enter Try.func23, Try.ntmps23
      go_wp2_with fail
      rw [HW1.out]
      go_wp2_with fail
      refine C1.out.mono ?_
      rintro e w1 ⟨v1, rfl, n1, b1⟩
      obtain ⟨x1, c1, rfl, i1, l1, l1'⟩ := New.ints n1
      have c1' := (bx.below b1 bx.lt).cell1
      clear C1 n1
      go_wp2_with fail
      refine (C2.out w1 b1).mono ?_
      rintro e w2 ⟨v2, rfl, n2, b2⟩
      obtain ⟨x2, c2, rfl, i2, _⟩ := New.ints n2
      have B2 := b1.trans (b2.mono b1.size)
      have hEq := equal_any x y x1 x2 c1 c2 w2 ((i1.below b2).mono b2.size) i2 (by omega)
      clear C2 n2 i1 i2 c1'
      go_wp2_with fail
      refine hEq.mono ?_
      rintro e w3 ⟨rfl, b3⟩
      go_wp2
      go_ret2
      have B3 := B2.trans (b3.mono B2.size)
      exact ⟨rfl, hB1.trans (B3.mono hB1.size)⟩
    · have hs := hid (show Tm.joinIs rs P Q = false by rw [hI.out, hE.out]; simp [he2])
      have hne : (er2 != 0) = true := by simpa using he2
      rw [hE.out, hs.out]
      clear hI hE hs he2
      go_enter Try.func23, Try.ntmps23
      go_wp2_with fail
      rw [HW1.out]
      go_wp2_with fail
      refine C1.out.mono ?_
      rintro e w1 ⟨v1, rfl, n1, b1⟩
      obtain ⟨x1, c1, rfl, i1, l1, l1'⟩ := New.ints n1
      have c1' := (bx.below b1 bx.lt).cell1
      clear C1 n1
      go_wp2_with fail
      refine (C2.out w1 b1).mono ?_
      rintro e w2 ⟨v2, rfl, n2, b2⟩
      obtain ⟨x2, c2, rfl, i2, _⟩ := New.ints n2
      have B2 := b1.trans (b2.mono b1.size)
      clear C2 n2 i1 i2 c1'
      go_wp2
      go_ret2
      exact ⟨rfl, hB1.trans (B2.mono hB1.size)⟩
  · have hs := hid (show Tm.joinIs rs P Q = false by rw [hI.out, hE.out, if_neg he]; simp [he])
    rw [if_neg he] at hE
    have hne : (er != 0) = true := by simpa using he
    rw [hE.out, hs.out]
    clear hI hE hs he
    go_enter Try.func23, Try.ntmps23
    go_wp2_with fail
    rw [HW1.out]
    go_wp2_with fail
    refine C1.out.mono ?_
    rintro e w1 ⟨v1, rfl, n1, b1⟩
    obtain ⟨x1, c1, rfl, i1, l1, l1'⟩ := New.ints n1
    clear C1 n1
    go_wp2
    go_ret2
    exact ⟨rfl, hB1.trans (b1.mono hB1.size)⟩

/-- Do all pairs of a list meet? -/
def Tm.joinL (rs : RuleL) : PairL → Bool × Int
  | [] => (true, 0)
  | p :: l => if Tm.joinIs rs p.1 p.2 = true then Tm.joinL rs l else (false, Tm.joinErr rs p.1 p.2)
theorem Tm.joinL_step {rs : RuleL} {ps : PairL} {k : Nat} (hk : k < ps.length) (h : Tm.joinIs rs (ps[k]?.getD ([], [])).1 (ps[k]?.getD ([], [])).2 = true) : Tm.joinL rs (ps.drop k) = Tm.joinL rs (ps.drop (k + 1)) := by
  rw [List.drop_eq_getElem_cons hk, Tm.joinL]
  simp only [hk, List.getElem?_eq_getElem, Option.getD_some] at h
  rw [if_pos h]
theorem Tm.joinL_at {rs : RuleL} {ps : PairL} {k : Nat} (hk : k < ps.length) (h : Tm.joinIs rs (ps[k]?.getD ([], [])).1 (ps[k]?.getD ([], [])).2 = false) : Tm.joinL rs (ps.drop k) = (false, Tm.joinErr rs (ps[k]?.getD ([], [])).1 (ps[k]?.getD ([], [])).2) := by
  rw [List.drop_eq_getElem_cons hk, Tm.joinL]
  simp only [hk, List.getElem?_eq_getElem, Option.getD_some] at h ⊢
  rw [if_neg (by simp [h])]
theorem Tm.joinIs_err {rs : RuleL} {P Q : List Int} (h : Tm.joinIs rs P Q = true) : Tm.joinErr rs P Q = 0 := by
  unfold Tm.joinIs at h
  simp only [Bool.and_eq_true, decide_eq_true_eq] at h
  exact h.1
/-- What join.All answers. -/
def Tm.JoinSays (rs : RuleL) (is : Bool) (er : Int) : Prop := ∃ er' ps, Tm.AllPSays rs er' ps ∧ ((er' ≠ 0 ∧ is = false ∧ er = er') ∨ (er' = 0 ∧ (is, er) = Tm.joinL rs ps))
theorem Tm.AllPSays.len {rs : RuleL} {er : Int} {ps : PairL} (h : Tm.AllPSays rs er ps) : ps.length ≤ 40 := by
  rcases h with ⟨l, _, ⟨h1, _, rfl⟩ | ⟨_, _, rfl⟩⟩ | ⟨_, _, _, _, _, _, _, _, _, rfl⟩
  · exact h1
  · simp
  · simp

set_option maxRecDepth 100000 in
set_option maxHeartbeats 2000000 in
theorem joinAll_any (rs : RuleL) (a : Option Addr) (cap : Nat) (w : World) (hR : RulesAt w.heap.size w a rs) (hcl : rs.length ≤ maxLen) :
    Calls Try.prog 24 #[.slice a rs.length cap] w fun e w' => ∃ is er, Tm.JoinSays rs is er ∧ e = .returned (.tuple #[.bool is, .int .i64 er]) ∧ Below w.heap.size w w' := by
  have hA := hid (AllP_any rs a cap w hR hcl)
  have HR := hid hR
  clear hR
  go_enter Try.func24, Try.ntmps24
  go_wp2_with fail
  refine hA.out.mono ?_
  rintro e w1 ⟨er, ps, v, hsay, rfl, hN, B1⟩
  obtain ⟨pa, pc, rfl, hP, _⟩ := hN.at
  clear hA hN
  by_cases he : er = 0
  · subst he
    have h40 := hsay.len
    have h40' : (ps.length : Int) ≤ 40 := by omega
    have HP := hid hP
    have Hsay := hid (fun is er h => (⟨0, ps, hsay, .inr ⟨rfl, h⟩⟩ : Tm.JoinSays rs is er))
    clear hsay hP
    go_wp2
    go_loopw [20] (fun x wr => ∃ k : Nat, k ≤ ps.length ∧ x = .int .i64 (k : Int) ∧ Hid (Tm.joinL rs ps = Tm.joinL rs (ps.drop k)) ∧ Below w1.heap.size w1 wr) (fun x _ => ps.length - (intOf x).toNat)
    case atStart => exact ⟨0, Nat.zero_le _, rfl, hid rfl, Below.refl _ _⟩
    case round =>
      obtain ⟨k, hk, rfl, hst, hB⟩ := hrel
      have BW := B1.trans (hB.mono B1.size)
      by_cases hlt : k < ps.length
      · have hlt' : (k : Int) < (ps.length : Int) := by omega
        obtain ⟨b, off, rfl, hb, aL, cL, aR, cR, g1, g2, g3, g4, g5, g6, g7, g8⟩ := (HP.out.below hB) k hlt
        have hs1 := hid (Tm.joinL_step (rs := rs) hlt)
        have hs2 := hid (Tm.joinL_at (rs := rs) hlt)
        generalize (ps[k]?.getD ([], [])).1 = P at *
        generalize (ps[k]?.getD ([], [])).2 = Q at *
        have hBa : Below wr.heap.size wr (wr.alloc (.cells #[.slice aL P.length cL, .slice aR Q.length cR] 53)) := (Below.refl _ _).alloc (Nat.le_refl _) _
        have bx := Box2.new wr 53 (.slice aL P.length cL) (.slice aR Q.length cR)
        have y0 := bx.cell0
        have y1 := bx.cell1
        have BWa := BW.trans (hBa.mono BW.size)
        have BBa := hB.trans (hBa.mono hB.size)
        have hC := hid (joinPair_any rs P Q a aL aR cap cL cR (wr.alloc (.cells #[.slice aL P.length cL, .slice aR Q.length cR] 53)) ((HR.out.below BWa).mono BWa.size) ((((g3.mono hB.size).below hBa)).mono hBa.size) ((((g4.mono hB.size).below hBa)).mono hBa.size) g5 g6 g7 g8)
        clear g3 g4 bx
        by_cases hj : Tm.joinIs rs P Q = true
        · rw [hj, Tm.joinIs_err hj] at hC
          have Hs := hid (hs1.out hj)
          clear hj hs1 hs2
          go_wp2_with fail
          refine hC.out.mono ?_
          rintro e w2 ⟨rfl, b2⟩
          clear hC
          go_wp2
          go_roundw
          case rel => exact ⟨k + 1, by omega, by go_num, hid (hst.out.trans Hs.out), BBa.trans (b2.mono BBa.size)⟩
          case measure => simp [intOf]; omega
        · have hj' : Tm.joinIs rs P Q = false := by simpa using hj
          rw [hj'] at hC
          have Hs := hid (hs2.out hj')
          clear hj hj' hs1 hs2
          generalize Tm.joinErr rs P Q = q at *
          go_wp2_with fail
          refine hC.out.mono ?_
          rintro e w2 ⟨rfl, b2⟩
          clear hC
          go_wp2
          go_ret2
          exact ⟨false, q, Hsay.out _ _ (by rw [hst.out, Hs.out]), rfl, BWa.trans (b2.mono BWa.size)⟩
      · obtain rfl : k = ps.length := by omega
        have Hs := hid (hst.out.trans (by rw [List.drop_length]; rfl : Tm.joinL rs (ps.drop ps.length) = (true, 0)))
        go_wp2
        go_ret2
        exact ⟨true, 0, Hsay.out _ _ Hs.out.symm, rfl, BW⟩
  · have hne : (er != 0) = true := by simpa using he
    have Hsay : Hid (Tm.JoinSays rs false er) := ⟨er, ps, hsay, .inl ⟨he, rfl, rfl⟩⟩
    clear he hsay
    go_wp2
    go_ret2
    exact ⟨false, er, Hsay.out, rfl, B1⟩

end Go.Proofs.Ytgpnkfjajfpdjaa

namespace Go.Proofs.Ytgpnkfjajfpdjaa
open Go.Proofs Go.RowKit Go.Shelf Go.Maps

section
variable {L1 R1 L2 R2 : List Int} {pass : Nat → Bool}
theorem Tm.Laps.at {n : Nat} {l : PairL} (h : Tm.Laps L1 R1 L2 R2 pass n l) : ∀ m, m < n → ∃ l', Tm.Laps L1 R1 L2 R2 pass m l' ∧ (pass m = true ∨ (∃ val, Tm.MeetSays [(Tm.part L1 m, L2)] 0 false val) ∨ (∃ val, Tm.MeetSays [(Tm.part L1 m, L2)] 0 true val ∧ Tm.prtErr val L1 R1 (m : Int) R2 = 0)) := by
  induction h with
  | zero => intro m hm; omega
  | @pass k l h hp ih =>
    intro m hm
    by_cases e : m = k
    · subst e; exact ⟨l, h, .inl hp⟩
    · exact ih m (by omega)
  | @no k l val h hp hs ih =>
    intro m hm
    by_cases e : m = k
    · subst e; exact ⟨l, h, .inr (.inl ⟨val, hs⟩)⟩
    · exact ih m (by omega)
  | @yes k l val h hp hs he ih =>
    intro m hm
    by_cases e : m = k
    · subst e; exact ⟨l, h, .inr (.inr ⟨val, hs, he⟩)⟩
    · exact ih m (by omega)
theorem Tm.Laps.one {n : Nat} {l l' : PairL} (h : Tm.Laps L1 R1 L2 R2 pass n l) (h' : Tm.Laps L1 R1 L2 R2 pass n l') : l = l' := by
  induction h generalizing l' with
  | zero => cases h'; rfl
  | pass h hp ih =>
    cases h' with
    | pass h2 _ => exact ih h2
    | no _ hq _ => rw [hp] at hq; cases hq
    | yes _ hq _ _ => rw [hp] at hq; cases hq
  | no h hp hs ih =>
    cases h' with
    | pass _ hq => rw [hp] at hq; cases hq
    | no h2 _ _ => exact ih h2
    | yes _ _ hs2 _ => have := (hs.one hs2).2.1; cases this
  | yes h hp hs he ih =>
    cases h' with
    | pass _ hq => rw [hp] at hq; cases hq
    | no _ _ hs2 => have := (hs.one hs2).2.1; cases this
    | yes h2 _ hs2 _ =>
      obtain ⟨_, _, rfl⟩ := hs.one hs2
      rw [ih h2]
theorem Tm.LapsSays.right {l ps : PairL} {e : Int} (h : Tm.Laps L1 R1 L2 R2 pass L1.length l) (h' : Tm.LapsSays L1 R1 L2 R2 pass e ps) : e = 0 ∧ ps = l := by
  rcases h' with ⟨rfl, h2⟩ | ⟨⟨h0, m, l', hm, hl', hp, hs⟩, rfl⟩
  · exact ⟨rfl, h2.one h⟩
  · obtain ⟨_, _, q | ⟨val, q⟩ | ⟨val, q, q'⟩⟩ := h.at m hm
    · rw [hp] at q; cases q
    · rcases hs with ⟨is, v, hs⟩ | ⟨v, hs, _⟩
      · exact absurd (q.one hs).1.symm h0
      · have := (q.one hs).2.1; cases this
    · rcases hs with ⟨is, v, hs⟩ | ⟨v, hs, he⟩
      · exact absurd (q.one hs).1.symm h0
      · obtain ⟨_, _, rfl⟩ := q.one hs
        rw [q'] at he
        exact absurd he.symm h0
end
theorem Tm.OfSays.right {rs : RuleL} {a b : Nat} {l ps : PairL} {e : Int} (hr : Tm.rulesErr rs = 0) (ha : a < rs.length) (hb : b < rs.length) (h : Tm.Laps (rs[a]?.getD ([], [])).1 (rs[a]?.getD ([], [])).2 (Tm.others (rs[b]?.getD ([], [])).1) (Tm.others (rs[b]?.getD ([], [])).2) (Tm.passB (rs[a]?.getD ([], [])).1 (a : Int) (b : Int)) (rs[a]?.getD ([], [])).1.length l) (h' : Tm.OfSays rs (a : Int) (b : Int) e ps) : e = 0 ∧ ps = l := by
  rcases h' with ⟨h1, _⟩ | ⟨_, h2, _⟩ | ⟨_, a', b', _, _, ea, eb, h3⟩
  · exact absurd hr h1
  · exact absurd ⟨by omega, by omega, by omega, by omega⟩ h2
  · obtain rfl : a = a' := by omega
    obtain rfl : b = b' := by omega
    exact h3.right h

/-- Two symbols clash ahead of any variable. -/
def Tm.clash : List Int → List Int → Bool
  | s :: x, t :: y => if s < 0 ∨ t < 0 then false else if s = t then Tm.clash x y else true
  | _, _ => false
theorem Tm.clash_no (θ : Wb.Sb) : ∀ (x y : List Int), Tm.clash x y = true → Wb.App θ x ≠ Wb.App θ y := by
  intro x
  induction x with
  | nil => intro y h; simp [Tm.clash] at h
  | cons s x ih =>
    intro y h
    cases y with
    | nil => simp [Tm.clash] at h
    | cons t y =>
      rw [Tm.clash] at h
      by_cases h1 : s < 0 ∨ t < 0
      · rw [if_pos h1] at h; cases h
      · rw [if_neg h1] at h
        rw [Wb.App_cons, Wb.App_cons, if_neg (by omega), if_neg (by omega), List.singleton_append, List.singleton_append]
        by_cases e : s = t
        · rw [if_pos e] at h
          intro hh
          exact ih y h (List.cons.inj hh).2
        · intro hh
          exact e (List.cons.inj hh).1
theorem Tm.no_of {x y : List Int} (h : Tm.firstPair [(x, y)] = 0) (hc : Tm.clash x y = true) : Tm.MeetSays [(x, y)] 0 false [] :=
  .inr (.inl ⟨h, fun θ _ H => Tm.clash_no θ x y hc (H 0 (by simp)), rfl, rfl, rfl⟩)

def Tm.leastB (vs : List (List Int)) : Bool := (List.range 8).all fun i : Nat => (vs[i]?.getD []).length != 1 || decide (0 ≤ (vs[i]?.getD []).headD 0) || decide (-1 - (i : Int) ≤ (vs[i]?.getD []).headD 0)
theorem Tm.mguOf {ps : PairL} {vs : List (List Int)} (h1 : Tm.subErr vs = 0) (hs : Wb.Same ps ps.length (Tm.ofL vs)) (hl : Tm.leastB vs = true) (hm : ∀ θ, Wb.TermSb θ → Wb.Same ps ps.length θ → ∀ i : Nat, i < 8 → θ (-1 - (i : Int)) = Wb.App θ (vs[i]?.getD [])) : Wb.Mgu ps (Tm.ofL vs) := by
  have h8 := (Tm.subErr_ok h1).1
  have hi : ∀ v : Int, -8 ≤ v → v < 0 → ∃ i : Nat, i < 8 ∧ v = -1 - (i : Int) := fun v a b => ⟨(-1 - v).toNat, by omega, by omega⟩
  refine ⟨Tm.ofL_term h1, fun v a b s hs' => ?_, hs, fun θ hθ H v a b => ?_, fun v u a b e hu => ?_⟩
  · obtain ⟨i, hi8, rfl⟩ := hi v a b
    rw [Tm.ofL_at vs hi8] at hs'
    have hk := Tm.err_all (Tm.firstErr_all (Tm.subErr_ok h1).2 i (by omega))
    rw [List.all_eq_true] at hk
    exact ⟨Tm.known_ge (hk s hs'), Tm.known_lt (hk s hs')⟩
  · obtain ⟨i, hi8, rfl⟩ := hi v a b
    rw [Tm.ofL_at vs hi8]
    exact hm θ hθ H i hi8
  · obtain ⟨i, hi8, rfl⟩ := hi v a b
    rw [Tm.ofL_at vs hi8] at e
    unfold Tm.leastB at hl
    rw [List.all_eq_true] at hl
    have := hl i (List.mem_range.2 hi8)
    rw [e] at this
    simp at this
    omega
theorem Wb.split2 {θ : Wb.Sb} (hθ : Wb.TermSb θ) {a b c d : List Int} (ha : Tm.run a 1 = a.length) (hc : Tm.run c 1 = c.length) (h : Wb.App θ (4 :: (a ++ b)) = Wb.App θ (4 :: (c ++ d))) : Wb.App θ a = Wb.App θ c ∧ Wb.App θ b = Wb.App θ d := by
  rw [Wb.App_cons, Wb.App_cons, if_neg (by omega), Wb.App_append, Wb.App_append] at h
  exact Wb.split (Wb.App_run hθ a 1 ha) (Wb.App_run hθ c 1 hc) (List.cons.inj h).2
theorem Tm.yes_of {ps : PairL} {vs : List (List Int)} (h0 : Tm.firstPair ps = 0) (h1 : Tm.subErr vs = 0) (M : Wb.Mgu ps (Tm.ofL vs)) : Tm.MeetSays ps 0 true vs := by
  have h8 := (Tm.subErr_ok h1).1
  refine .inr (.inr (.inl ⟨h0, _, M, fun i hi => ?_, rfl, rfl, (Tm.sbL_ofL h8).symm⟩))
  rw [Tm.ofL_at _ hi]
  exact Tm.err_len (Tm.firstErr_all (Tm.subErr_ok h1).2 i (by omega))

def Tm.pv0 : List (List Int) := [[0], [-2], [-3], [-4], [-2], [-6], [-7], [-8]]
def Tm.pv1 : List (List Int) := [[2, -2], [-2], [-3], [-4], [-2], [-6], [-7], [-8]]
def Tm.pv2 : List (List Int) := [[4, -5, -6], [-2], [-3], [-4], [-5], [-6], [-2], [-8]]
theorem Tm.pm0 : Tm.MeetSays [([4, -1, -2], [4, 0, -5])] 0 true Tm.pv0 := by
  refine Tm.yes_of (by decide +kernel) (by decide +kernel) (Tm.mguOf (by decide +kernel) (fun j hj => ?_) (by decide +kernel) fun θ hθ H i hi => ?_)
  · obtain rfl : j = 0 := by simp at hj; omega
    decide +kernel
  · obtain ⟨e1, e2⟩ := Wb.split2 (a := [-1]) (b := [-2]) (c := [0]) (d := [-5]) hθ (by decide +kernel) (by decide +kernel) (H 0 (by simp))
    rw [Wb.App1 θ (by omega)] at e1
    rw [Wb.App1 θ (by omega), Wb.App1 θ (by omega)] at e2
    match i, hi with
    | 0, _ => exact e1
    | 1, _ => exact (Wb.App1 θ (by omega)).symm
    | 2, _ => exact (Wb.App1 θ (by omega)).symm
    | 3, _ => exact (Wb.App1 θ (by omega)).symm
    | 4, _ => exact e2.symm.trans (Wb.App1 θ (by omega)).symm
    | 5, _ => exact (Wb.App1 θ (by omega)).symm
    | 6, _ => exact (Wb.App1 θ (by omega)).symm
    | 7, _ => exact (Wb.App1 θ (by omega)).symm
theorem Tm.pm1 : Tm.MeetSays [([4, -1, -2], [4, 2, -5, -5])] 0 true Tm.pv1 := by
  refine Tm.yes_of (by decide +kernel) (by decide +kernel) (Tm.mguOf (by decide +kernel) (fun j hj => ?_) (by decide +kernel) fun θ hθ H i hi => ?_)
  · obtain rfl : j = 0 := by simp at hj; omega
    decide +kernel
  · obtain ⟨e1, e2⟩ := Wb.split2 (a := [-1]) (b := [-2]) (c := [2, -5]) (d := [-5]) hθ (by decide +kernel) (by decide +kernel) (H 0 (by simp))
    rw [Wb.App1 θ (by omega)] at e1
    rw [Wb.App1 θ (by omega), Wb.App1 θ (by omega)] at e2
    have e3 : Wb.App θ [2, -5] = Wb.App θ [2, -2] := by
      rw [Wb.App_cons θ 2 [-5], Wb.App_cons θ 2 [-2], Wb.App1 θ (by omega), Wb.App1 θ (by omega), e2]
    match i, hi with
    | 0, _ => exact e1.trans e3
    | 1, _ => exact (Wb.App1 θ (by omega)).symm
    | 2, _ => exact (Wb.App1 θ (by omega)).symm
    | 3, _ => exact (Wb.App1 θ (by omega)).symm
    | 4, _ => exact e2.symm.trans (Wb.App1 θ (by omega)).symm
    | 5, _ => exact (Wb.App1 θ (by omega)).symm
    | 6, _ => exact (Wb.App1 θ (by omega)).symm
    | 7, _ => exact (Wb.App1 θ (by omega)).symm
theorem Tm.pm2 : Tm.MeetSays [([4, -1, -2], [4, 4, -5, -6, -7])] 0 true Tm.pv2 := by
  refine Tm.yes_of (by decide +kernel) (by decide +kernel) (Tm.mguOf (by decide +kernel) (fun j hj => ?_) (by decide +kernel) fun θ hθ H i hi => ?_)
  · obtain rfl : j = 0 := by simp at hj; omega
    decide +kernel
  · obtain ⟨e1, e2⟩ := Wb.split2 (a := [-1]) (b := [-2]) (c := [4, -5, -6]) (d := [-7]) hθ (by decide +kernel) (by decide +kernel) (H 0 (by simp))
    rw [Wb.App1 θ (by omega)] at e1
    rw [Wb.App1 θ (by omega), Wb.App1 θ (by omega)] at e2
    match i, hi with
    | 0, _ => exact e1
    | 1, _ => exact (Wb.App1 θ (by omega)).symm
    | 2, _ => exact (Wb.App1 θ (by omega)).symm
    | 3, _ => exact (Wb.App1 θ (by omega)).symm
    | 4, _ => exact (Wb.App1 θ (by omega)).symm
    | 5, _ => exact (Wb.App1 θ (by omega)).symm
    | 6, _ => exact e2.symm.trans (Wb.App1 θ (by omega)).symm
    | 7, _ => exact (Wb.App1 θ (by omega)).symm

/-- A place where symbols clash, or that is passed over. -/
theorem Tm.Laps.clash {L1 R1 L2 R2 : List Int} {pass : Nat → Bool} {m : Nat} {l : PairL} (h : Tm.Laps L1 R1 L2 R2 pass m l) (hc : pass m = true ∨ (pass m = false ∧ Tm.firstPair [(Tm.part L1 m, L2)] = 0 ∧ Tm.clash (Tm.part L1 m) L2 = true)) : Tm.Laps L1 R1 L2 R2 pass (m + 1) l := by
  rcases hc with hp | ⟨hp, h1, h2⟩
  · exact .pass h hp
  · exact .no h hp (Tm.no_of h1 h2)
/-- Nothing but such places. -/
def Tm.allClash (L1 L2 : List Int) (pass : Nat → Bool) (from' upto : Nat) : Bool := (List.range (upto - from')).all fun k => pass (from' + k) || (decide (Tm.firstPair [(Tm.part L1 (from' + k), L2)] = 0) && Tm.clash (Tm.part L1 (from' + k)) L2)
theorem Tm.Laps.run {L1 R1 L2 R2 : List Int} {pass : Nat → Bool} {m : Nat} {l : PairL} (h : Tm.Laps L1 R1 L2 R2 pass m l) : ∀ n, Tm.allClash L1 L2 pass m (m + n) = true → Tm.Laps L1 R1 L2 R2 pass (m + n) l := by
  intro n
  induction n with
  | zero => intro _; exact h
  | succ n ih =>
    intro hc
    unfold Tm.allClash at hc ih
    rw [Nat.add_sub_cancel_left] at hc ih
    rw [List.range_succ, List.all_append, Bool.and_eq_true] at hc
    refine (ih hc.1).clash ?_
    have h2 := hc.2
    simp at h2
    cases hp : pass (m + n) with
    | true => exact .inl rfl
    | false =>
      rw [hp] at h2
      simp at h2
      exact .inr ⟨rfl, h2.1, h2.2⟩

/-- The pairs of two rules of a group. -/
def Tm.GrpLaps (a b : Nat) (l : PairL) : Prop := Tm.Laps (groupL[a]?.getD ([], [])).1 (groupL[a]?.getD ([], [])).2 (Tm.others (groupL[b]?.getD ([], [])).1) (Tm.others (groupL[b]?.getD ([], [])).2) (Tm.passB (groupL[a]?.getD ([], [])).1 (a : Int) (b : Int)) (groupL[a]?.getD ([], [])).1.length l
theorem Tm.grp_no (a b : Nat) (h : Tm.allClash (groupL[a]?.getD ([], [])).1 (Tm.others (groupL[b]?.getD ([], [])).1) (Tm.passB (groupL[a]?.getD ([], [])).1 (a : Int) (b : Int)) 0 (groupL[a]?.getD ([], [])).1.length = true) : Tm.GrpLaps a b [] := by
  have := Tm.Laps.run (.zero : Tm.Laps (groupL[a]?.getD ([], [])).1 (groupL[a]?.getD ([], [])).2 (Tm.others (groupL[b]?.getD ([], [])).1) (Tm.others (groupL[b]?.getD ([], [])).2) (Tm.passB (groupL[a]?.getD ([], [])).1 (a : Int) (b : Int)) 0 []) (groupL[a]?.getD ([], [])).1.length (by rw [Nat.zero_add]; exact h)
  rwa [Nat.zero_add] at this
/-- A rule that laps over the third one at place 1 alone. -/
theorem Tm.grp_yes (b : Nat) (vs : List (List Int)) (x : List Int × List Int) (hs : Tm.MeetSays [([4, -1, -2], Tm.others (groupL[b]?.getD ([], [])).1)] 0 true vs)
    (h1 : Tm.allClash [4, 4, -1, -2, -3] (Tm.others (groupL[b]?.getD ([], [])).1) (Tm.passB [4, 4, -1, -2, -3] 2 (b : Int)) 0 1 = true) (h2 : Tm.allClash [4, 4, -1, -2, -3] (Tm.others (groupL[b]?.getD ([], [])).1) (Tm.passB [4, 4, -1, -2, -3] 2 (b : Int)) 2 5 = true)
    (h3 : Tm.passB [4, 4, -1, -2, -3] 2 (b : Int) 1 = false) (h4 : Tm.prtErr vs [4, 4, -1, -2, -3] [4, -1, 4, -2, -3] 1 (Tm.others (groupL[b]?.getD ([], [])).2) = 0) (h5 : Tm.prtVal vs [4, 4, -1, -2, -3] [4, -1, 4, -2, -3] 1 (Tm.others (groupL[b]?.getD ([], [])).2) = x) : Tm.GrpLaps 2 b [x] := by
  have q1 : Tm.Laps [4, 4, -1, -2, -3] [4, -1, 4, -2, -3] (Tm.others (groupL[b]?.getD ([], [])).1) (Tm.others (groupL[b]?.getD ([], [])).2) (Tm.passB [4, 4, -1, -2, -3] 2 (b : Int)) 1 [] := Tm.Laps.run .zero 1 h1
  have q2 := Tm.Laps.yes (val := vs) q1 h3 (by rw [show Tm.part [4, 4, -1, -2, -3] 1 = [4, -1, -2] from by decide +kernel]; exact hs) h4
  have q3 := Tm.Laps.run q2 3 h2
  rw [show Tm.prtVal vs [4, 4, -1, -2, -3] [4, -1, 4, -2, -3] ((1 : Nat) : Int) (Tm.others (groupL[b]?.getD ([], [])).2) = x from h5] at q3
  exact q3
theorem Tm.grp20 : Tm.GrpLaps 2 0 [([4, -1, -2], [4, 0, 4, -1, -2])] := Tm.grp_yes 0 Tm.pv0 _ Tm.pm0 (by decide +kernel) (by decide +kernel) (by decide +kernel) (by decide +kernel) (by decide +kernel)
theorem Tm.grp21 : ∃ x, Tm.GrpLaps 2 1 [x] := ⟨_, Tm.grp_yes 1 Tm.pv1 _ Tm.pm1 (by decide +kernel) (by decide +kernel) (by decide +kernel) (by decide +kernel) rfl⟩
theorem Tm.grp22 : Tm.GrpLaps 2 2 [([4, 4, -1, 4, -2, -3, -4], [4, 4, -1, -2, 4, -3, -4])] := Tm.grp_yes 2 Tm.pv2 _ Tm.pm2 (by decide +kernel) (by decide +kernel) (by decide +kernel) (by decide +kernel) (by decide +kernel)
theorem Tm.grp_len : ∀ a b, a < 3 → b < 3 → ∃ l, Tm.GrpLaps a b l ∧ l.length = if a = 2 then 1 else 0
  | 0, 0, _, _ => ⟨[], Tm.grp_no 0 0 (by decide +kernel), rfl⟩
  | 0, 1, _, _ => ⟨[], Tm.grp_no 0 1 (by decide +kernel), rfl⟩
  | 0, 2, _, _ => ⟨[], Tm.grp_no 0 2 (by decide +kernel), rfl⟩
  | 1, 0, _, _ => ⟨[], Tm.grp_no 1 0 (by decide +kernel), rfl⟩
  | 1, 1, _, _ => ⟨[], Tm.grp_no 1 1 (by decide +kernel), rfl⟩
  | 1, 2, _, _ => ⟨[], Tm.grp_no 1 2 (by decide +kernel), rfl⟩
  | 2, 0, _, _ => ⟨_, Tm.grp20, rfl⟩
  | 2, 1, _, _ => ⟨_, Tm.grp21.choose_spec, rfl⟩
  | 2, 2, _, _ => ⟨_, Tm.grp22, rfl⟩
theorem Tm.grp_of {a b : Nat} {l ps : PairL} {e : Int} (ha : a < 3) (hb : b < 3) (h : Tm.GrpLaps a b l) (h' : Tm.OfSays groupL (a : Int) (b : Int) e ps) : e = 0 ∧ ps = l := h'.right Tm.g7 ha hb h
theorem Tm.grp_to {i j : Nat} {l : PairL} (h : Tm.AllTo groupL i j l) : i ≤ 3 → j ≤ 3 ∧ (i = 3 → j = 0) ∧ l.length = if i = 2 then j else if i = 3 then 3 else 0 := by
  induction h with
  | zero => intro _; exact ⟨by omega, fun h => by omega, rfl⟩
  | @next i j l ps h hj hs ih =>
    intro hi
    have hj3 : j < 3 := hj
    obtain ⟨q1, q2, q3⟩ := ih hi
    by_cases hi3 : i = 3
    · subst hi3
      rcases hs with ⟨h1, _⟩ | ⟨_, _, h2, _⟩ | ⟨_, a, b, ha, _, ea, _⟩
      · exact absurd Tm.g7 h1
      · omega
      · have : a < 3 := ha
        omega
    · obtain ⟨l', g1, g2⟩ := Tm.grp_len i j (by omega) hj3
      obtain ⟨_, rfl⟩ := Tm.grp_of (by omega) hj3 g1 hs
      refine ⟨by omega, fun h => absurd h hi3, ?_⟩
      rw [List.length_append, q3, g2]
      by_cases h2 : i = 2
      · rw [if_pos h2, if_pos h2, if_pos h2]
      · rw [if_neg h2, if_neg h2, if_neg h2, if_neg hi3]
  | @row i l h ih =>
    intro hi
    obtain ⟨q1, q2, q3⟩ := ih (by omega)
    refine ⟨by omega, fun _ => rfl, ?_⟩
    rw [q3]
    have hl : groupL.length = 3 := rfl
    by_cases h2 : i = 2
    · subst h2; rfl
    · rw [if_neg h2]
      by_cases h3 : i = 3
      · omega
      · rw [if_neg h3]
        by_cases h1 : i + 1 = 2
        · rw [if_pos h1]
        · rw [if_neg h1, if_neg (by omega)]
theorem Tm.grp_all {er : Int} {ps : PairL} (h : Tm.AllPSays groupL er ps) : er = 0 ∧ ps.length = 3 := by
  rcases h with ⟨l, hl, q⟩ | ⟨i, j, l, qs, hi, hj, hl, hs, h0, _⟩
  · have h3 : l.length = 3 := (Tm.grp_to (i := 3) hl (Nat.le_refl _)).2.2
    rcases q with ⟨_, rfl, rfl⟩ | ⟨q, _⟩
    · exact ⟨rfl, h3⟩
    · omega
  · have hi3 : i < 3 := hi
    have hj3 : j < 3 := hj
    obtain ⟨l', g1, _⟩ := Tm.grp_len i j hi3 hj3
    exact absurd (Tm.grp_of hi3 hj3 g1 hs).1 h0
end Go.Proofs.Ytgpnkfjajfpdjaa

namespace Go.Proofs.Ytgpnkfjajfpdjaa
open Go.Proofs Go.RowKit Go.Shelf Go.Maps

end Go.Proofs.Ytgpnkfjajfpdjaa

namespace Go.Proofs.Ytgpnkfjajfpdjaa
open Go.Proofs Go.RowKit Go.Shelf Go.Maps

def Tm.grpP : PairL := [([4, -1, -2], [4, 0, 4, -1, -2]), ([4, 0, -1], [4, 2, -2, 4, -2, -1]), ([4, 4, -1, 4, -2, -3, -4], [4, 4, -1, -2, 4, -3, -4])]
theorem Tm.grp21x : Tm.GrpLaps 2 1 [([4, 0, -1], [4, 2, -2, 4, -2, -1])] := Tm.grp_yes 1 Tm.pv1 _ Tm.pm1 (by decide +kernel) (by decide +kernel) (by decide +kernel) (by decide +kernel) (by decide +kernel)
theorem Tm.grp_list : ∀ a b, a < 3 → b < 3 → Tm.GrpLaps a b (if a = 2 then (Tm.grpP.drop b).take 1 else [])
  | 0, 0, _, _ => Tm.grp_no 0 0 (by decide +kernel)
  | 0, 1, _, _ => Tm.grp_no 0 1 (by decide +kernel)
  | 0, 2, _, _ => Tm.grp_no 0 2 (by decide +kernel)
  | 1, 0, _, _ => Tm.grp_no 1 0 (by decide +kernel)
  | 1, 1, _, _ => Tm.grp_no 1 1 (by decide +kernel)
  | 1, 2, _, _ => Tm.grp_no 1 2 (by decide +kernel)
  | 2, 0, _, _ => Tm.grp20
  | 2, 1, _, _ => Tm.grp21x
  | 2, 2, _, _ => Tm.grp22
theorem Tm.grp_tox {i j : Nat} {l : PairL} (h : Tm.AllTo groupL i j l) : i ≤ 3 → l = if i = 2 then Tm.grpP.take j else if i = 3 then Tm.grpP else [] := by
  induction h with
  | zero => intro _; rfl
  | @next i j l ps h hj hs ih =>
    intro hi
    have hj3 : j < 3 := hj
    have q3 := ih hi
    by_cases hi3 : i = 3
    · subst hi3
      rcases hs with ⟨h1, _⟩ | ⟨_, _, h2, _⟩ | ⟨_, a, b, ha, _, ea, _⟩
      · exact absurd Tm.g7 h1
      · omega
      · have : a < 3 := ha
        omega
    · have g1 := Tm.grp_list i j (by omega) hj3
      obtain ⟨_, rfl⟩ := Tm.grp_of (by omega) hj3 g1 hs
      rw [q3]
      by_cases h2 : i = 2
      · rw [if_pos h2, if_pos h2, if_pos h2]
        match j, hj3 with
        | 0, _ => rfl
        | 1, _ => rfl
        | 2, _ => rfl
      · rw [if_neg h2, if_neg h2, if_neg h2, if_neg hi3]
        rfl
  | @row i l h ih =>
    intro hi
    have q3 := ih (by omega)
    rw [q3]
    by_cases h2 : i = 2
    · subst h2; rfl
    · rw [if_neg h2, if_neg (show ¬ i = 3 by omega)]
      by_cases h1 : i + 1 = 2
      · rw [if_pos h1]; rfl
      · rw [if_neg h1, if_neg (by omega)]
theorem Tm.grp_join {is : Bool} {er : Int} (h : Tm.JoinSays groupL is er) : is = false ∧ er = 0 := by
  obtain ⟨er', ps, hs, h⟩ := h
  obtain ⟨rfl, _⟩ := Tm.grp_all hs
  rcases h with ⟨h, _⟩ | ⟨_, h⟩
  · exact absurd rfl h
  · have hp : ps = Tm.grpP := by
      rcases hs with ⟨l, hl, ⟨_, _, rfl⟩ | ⟨_, h2, _⟩⟩ | ⟨_, _, _, _, _, _, _, _, h0, _⟩
      · exact Tm.grp_tox (i := 3) hl (Nat.le_refl _)
      · cases h2
      · exact absurd rfl h0
    rw [hp, show Tm.joinL groupL Tm.grpP = (false, 0) from by decide +kernel] at h
    cases h
    exact ⟨rfl, rfl⟩

def grp1 : RuleL := [([4, 0, -1], [-1])]
theorem Tm.grp1_of {e : Int} {ps : PairL} (h : Tm.OfSays grp1 0 0 e ps) : e = 0 ∧ ps = [] := by
  refine Tm.OfSays.right (rs := grp1) (a := 0) (b := 0) (by decide +kernel) (by decide) (by decide) ?_ h
  have := Tm.Laps.run (.zero : Tm.Laps [4, 0, -1] [-1] (Tm.others [4, 0, -1]) (Tm.others [-1]) (Tm.passB [4, 0, -1] 0 0) 0 []) 3 (by decide +kernel)
  exact this
theorem Tm.grp1_to {i j : Nat} {l : PairL} (h : Tm.AllTo grp1 i j l) : i ≤ 1 → l = [] := by
  induction h with
  | zero => intro _; rfl
  | @next i j l ps h hj hs ih =>
    intro hi
    have hj1 : j < 1 := hj
    obtain rfl : j = 0 := by omega
    have hi1 : i = 0 ∨ i = 1 := by omega
    rcases hi1 with rfl | rfl
    · obtain ⟨_, rfl⟩ := Tm.grp1_of hs
      rw [ih hi]
      rfl
    · rcases hs with ⟨h1, _⟩ | ⟨_, _, h2, _⟩ | ⟨_, a, b, ha, _, ea, _⟩
      · exact absurd (by decide +kernel) h1
      · omega
      · have : a < 1 := ha
        omega
  | @row i l h ih => intro hi; exact ih (by omega)
theorem Tm.grp1_join {is : Bool} {er : Int} (h : Tm.JoinSays grp1 is er) : is = true ∧ er = 0 := by
  obtain ⟨er', ps, hs, h⟩ := h
  rcases hs with ⟨l, hl, ⟨_, rfl, rfl⟩ | ⟨h2, _⟩⟩ | ⟨i, j, l, qs, hi, hj, hl, hs, h0, _⟩
  · have hp := Tm.grp1_to (i := 1) hl (Nat.le_refl _)
    rcases h with ⟨h, _⟩ | ⟨_, h⟩
    · exact absurd rfl h
    · rw [hp] at h
      cases h
      exact ⟨rfl, rfl⟩
  · have hp := Tm.grp1_to (i := 1) hl (Nat.le_refl _)
    rw [hp] at h2
    simp at h2
  · have hi1 : i < 1 := hi
    have hj1 : j < 1 := hj
    obtain rfl : i = 0 := by omega
    obtain rfl : j = 0 := by omega
    exact absurd (Tm.grp1_of hs).1 h0

theorem g_joinAll (ar : Option Addr) (w : World) (hR : RulesAt w.heap.size w ar groupL) : Calls Try.prog 24 #[.slice ar 3 3] w fun e w' => e = .returned (.tuple #[.bool false, .int .i64 0]) ∧ Below w.heap.size w w' := by
  refine (joinAll_any groupL ar 3 w hR (by decide)).mono ?_
  rintro e w' ⟨is, er, hs, rfl, B⟩
  obtain ⟨rfl, rfl⟩ := Tm.grp_join hs
  exact ⟨rfl, B⟩
theorem g_joinAll1 (ar : Option Addr) (w : World) (hR : RulesAt w.heap.size w ar groupL) : Calls Try.prog 24 #[.slice ar 1 3] w fun e w' => e = .returned (.tuple #[.bool true, .int .i64 0]) ∧ Below w.heap.size w w' := by
  have hR1 : RulesAt w.heap.size w ar grp1 := fun k hk => by
    obtain rfl : k = 0 := by simp [grp1] at hk; omega
    exact hR 0 (by decide)
  refine (joinAll_any grp1 ar 3 w hR1 (by decide)).mono ?_
  rintro e w' ⟨is, er, hs, rfl, B⟩
  obtain ⟨rfl, rfl⟩ := Tm.grp1_join hs
  exact ⟨rfl, B⟩
/-- Two literals, do they meet? -/
theorem g_joinPair (P Q : List Int) (nP nQ : Nat) (is : Bool) (er : Int) (ar : Option Addr) (w : World) (hP : nP = P.length) (hQ : nQ = Q.length) (kP : P.length ≤ 1000) (kQ : Q.length ≤ 1000) (h1 : Tm.joinIs groupL P Q = is) (h2 : Tm.joinErr groupL P Q = er) (hR : RulesAt w.heap.size w ar groupL) :
    Calls Try.prog 23 #[.slice ar 3 3, .agg #[.slice (some ⟨w.heap.size, 0, none⟩) nP nP, .slice (some ⟨w.heap.size + 1, 0, none⟩) nQ nQ]] ((w.alloc (.cells (P.map (Value.int .i64)).toArray 3)).alloc (.cells (Q.map (Value.int .i64)).toArray 3)) fun e w' => e = .returned (.tuple #[.bool is, .int .i64 er]) ∧ Below w.heap.size w w' := by
  subst hP hQ h1 h2
  have hb := allocs_below [P, Q] w
  have hi := allocs_ints [P, Q] w
  have hs := allocs_size [P, Q] w
  have i1 := hi 0 (by simp)
  have i2 := hi 1 (by simp)
  rw [show w.heap.size + [P, Q].length = (allocs w [P, Q]).heap.size from hs.symm] at i1 i2
  refine (joinPair_any groupL P Q ar _ _ 3 P.length Q.length (allocs w [P, Q]) ((hR.below hb).mono hb.size) i1 i2 (Nat.le_refl _) (by unfold maxLen; omega) (Nat.le_refl _) (by unfold maxLen; omega)).mono ?_
  rintro e w' ⟨rfl, hB⟩
  exact ⟨rfl, hb.trans (hB.mono hb.size)⟩

set_option maxRecDepth 100000 in
set_option maxHeartbeats 4000000 in
theorem joinBegun_any (w : World) : Calls Try.prog 27 #[] w fun e w' => e = .returned (.bool true) ∧ Below w.heap.size w w' := by
  have h2 := hid (fun ar w hR => g_joinPair [4, 4, -1, -2, -3] [4, -1, 4, -2, -3] 5 5 true 0 ar w rfl rfl (by simp) (by simp) (by decide +kernel) (by decide +kernel) hR)
  have h3 := hid (fun ar w hR => g_joinPair [0] [1] 1 1 false 0 ar w rfl rfl (by simp) (by simp) (by decide +kernel) (by decide +kernel) hR)
  simp only [List.map_cons, List.map_nil] at h2 h3
  go_enter Try.func27, Try.ntmps27
  go_wp2_with fail
  refine (group_any _).mono ?_
  rintro e w1 ⟨a1, rfl, hg1, b1⟩
  go_wp2_with fail
  refine (g_joinAll a1 w1 hg1).mono ?_
  rintro e w2 ⟨rfl, b2⟩
  have B2 := b1.trans (b2.mono b1.size)
  clear hg1 b1 b2
  go_wp2_with fail
  refine (group_any _).mono ?_
  rintro e w3 ⟨a3, rfl, hg3, b3⟩
  have B3 := B2.trans (b3.mono B2.size)
  go_wp2_with fail
  refine (h2.out a3 w3 hg3).mono ?_
  rintro e w4 ⟨rfl, b4⟩
  have B4 := B3.trans (b4.mono B3.size)
  clear hg3 b3 b4 B2 B3 h2
  go_wp2_with fail
  refine (group_any _).mono ?_
  rintro e w5 ⟨a5, rfl, hg5, b5⟩
  have B5 := B4.trans (b5.mono B4.size)
  go_wp2_with fail
  refine (h3.out a5 w5 hg5).mono ?_
  rintro e w6 ⟨rfl, b6⟩
  have B6 := B5.trans (b6.mono B5.size)
  clear hg5 b5 b6 B4 B5 h3
  go_wp2_with fail
  refine (group_any _).mono ?_
  rintro e w7 ⟨a7, rfl, hg7, b7⟩
  have B7 := B6.trans (b7.mono B6.size)
  obtain ⟨b, off, rfl, _⟩ := hg7 0 (by decide)
  go_wp2_with fail
  refine (g_joinAll1 _ w7 hg7).mono ?_
  rintro e w8 ⟨rfl, b8⟩
  go_wp2
  go_ret
  exact ⟨rfl, B7.trans (b8.mono B7.size)⟩

end Go.Proofs.Ytgpnkfjajfpdjaa

namespace Go.Proofs.Ytgpnkfjajfpdjaa
open Go.Proofs Go.RowKit Go.Shelf Go.Maps

set_option maxRecDepth 100000 in
set_option maxHeartbeats 1000000 in
/-- haspref.applied, of what may be long. -/
theorem applied_long (ss : List (List Int)) (hl : ss.length = 8) (hsh : Short ss) (a : Option Addr) (cap : Nat) (t : List Int) (at' : Option Addr) (ct : Nat) (ht : t.length ≤ 100) (h8 : ∀ k, k < t.length → -8 ≤ t[k]?.getD 0) (w : World)
    (hS : Subs w.heap.size w a ss) (hT : Ints w.heap.size w at' t) :
    Calls Try.prog 68 #[.slice a 8 cap, .slice at' t.length ct] w fun e w' => ∃ v, e = .returned v ∧ New w.heap.size w' v (Tm.applied ss t) ∧ Below w.heap.size w w' := by
  have hlen : (t.length : Int) ≤ 100 := by omega
  obtain ⟨bs, os, rfl, hbs, hcs⟩ := hS.at (by omega)
  have Hcs := hid hcs
  have HT := hid hT
  have H8 := hid h8
  have Hl := hid hl
  clear hcs hS hT h8 hl
  go_enter Try.func68, Try.ntmps68
  go_wp2
  go_loopw [5, 6] (fun v i wr => ∃ k : Nat, k ≤ t.length ∧ i = .int .i64 (k : Int) ∧ New w.heap.size wr v (Tm.applied ss (t.take k)) ∧ Below w.heap.size w wr) (fun _ i _ => t.length - (intOf i).toNat)
  case atStart => exact ⟨0, Nat.zero_le _, rfl, New.nil _ _, Below.refl _ _⟩
  case round =>
    obtain ⟨k, hk, rfl, hN, hBr⟩ := hrel
    by_cases hlt : k < t.length
    · have hlt' : (k : Int) < (t.length : Int) := by omega
      obtain ⟨b, off, rfl, hb, hc⟩ := HT.out.at (by omega)
      have hck := (hBr.cell (p := ⟨b, off + k, none⟩) hb).trans (hc k hlt)
      have hsn := hid (Tm.applied_snoc ss hlt)
      have hle := Tm.applied_le hsh (t.take k)
      rw [List.length_take] at hle
      have hpl := Tm.piece_le hsh (t[k]?.getD 0)
      have hs8 := H8.out k hlt
      clear hc
      obtain ⟨a0, c0, rfl, _⟩ := New.ints hN
      by_cases hneg : t[k]?.getD 0 < 0
      · obtain ⟨j, hj⟩ : ∃ j : Nat, t[k]?.getD 0 = -1 - (j : Int) := ⟨(-1 - (t[k]?.getD 0)).toNat, by omega⟩
        have hj8 : (j : Int) < 8 := by omega
        obtain ⟨aj, cj, hcj0, hIj0, h1, h2, h3⟩ := Hcs.out j (by rw [Hl.out]; omega)
        have hcj := (hBr.cell (p := ⟨bs, os + j, none⟩) hbs).trans hcj0
        have hIj := (hIj0.below hBr).mono hBr.size
        have hpc : Tm.piece ss (t[k]?.getD 0) = ss[j]?.getD [] := by
          rw [hj]
          unfold Tm.piece
          rw [if_pos (by omega)]
          congr 2
          omega
        rw [hpc] at hsn hpl
        rw [hj] at hck
        have H3 : Hid (aj = none → (ss[j]?.getD []).length = 0 ∧ cj = 0) := fun e => ⟨by have := h3 e; omega, h3 e⟩
        clear hcj0 hIj0 hpc hj hneg hs8 h3 h1 h2
        generalize ss[j]?.getD [] = pc at *
        generalize Tm.applied ss (t.take k) = xs at *
        have hn1 : (-1 - (j : Int)) < 0 := by omega
        have hn2 : -(-1 - (j : Int)) - 1 = (j : Int) := by omega
        go_wp2_with (at_builtin; go_loud (refine wp_append_ints _ rfl _ _ rfl w.heap.size _ xs rfl hN aj pc cj rfl H3.out hIj (by omega) hBr.size ?_); intro v' w2 hN2 hB3; obtain ⟨a2, c2, rfl, _⟩ := New.ints hN2)
        go_roundw
        case rel => exact ⟨k + 1, by omega, by go_num, by rw [hsn.out]; simpa using hN2, hBr.trans hB3⟩
        case measure => simp [intOf]; omega
      · have hpc : Tm.piece ss (t[k]?.getD 0) = [t[k]?.getD 0] := by unfold Tm.piece; rw [if_neg hneg]
        rw [hpc] at hsn
        clear hpc hpl hs8
        generalize t[k]?.getD 0 = s at *
        generalize Tm.applied ss (t.take k) = xs at *
        have h1 := ints_lit wr [s] _ rfl
        simp only [List.map_cons, List.map_nil] at h1
        have hA : Below wr.heap.size wr (wr.alloc (.cells #[.int .i64 s] 3)) := (Below.refl _ _).alloc (Nat.le_refl _) _
        have hNA := New.below hN hA
        have hBA := hBr.trans (hA.mono hBr.size)
        go_wp2_with (at_builtin; go_loud (refine wp_append_ints _ rfl _ _ rfl w.heap.size _ xs rfl hNA (some ⟨wr.heap.size, 0, none⟩) [s] 1 rfl (fun e => by cases e) (by simpa using h1) (by simp; omega) hBA.size ?_); intro v' w2 hN2 hB3; obtain ⟨a2, c2, rfl, _⟩ := New.ints hN2)
        go_roundw
        case rel => exact ⟨k + 1, by omega, by go_num, by rw [hsn.out]; simpa using hN2, hBA.trans hB3⟩
        case measure => simp [intOf]; omega
    · obtain rfl : k = t.length := by omega
      rw [List.take_length] at hN
      obtain ⟨a2, c2, rfl, _⟩ := New.ints hN
      go_wp2
      go_ret
      exact ⟨_, rfl, hN, hBr⟩


set_option maxRecDepth 100000 in
set_option maxHeartbeats 2000000 in
/-- haspref.plain, of what may be long. -/
theorem refplain_long (t : List Int) (at' : Option Addr) (ct : Nat) (w : World) (ht : t.length ≤ 100) (h0 : 0 < t.length) (h8 : ∀ k, k < t.length → -8 ≤ t[k]?.getD 0) (hT : Ints w.heap.size w at' t) :
    Calls Try.prog 70 #[.slice at' t.length ct] w fun e w' => ∃ v, e = .returned v ∧ New w.heap.size w' v (Tm.plain t) ∧ Below w.heap.size w w' := by
  have hlen : (t.length : Int) ≤ 100 := by omega
  obtain ⟨b, off, rfl, hb, hc⟩ := hT.at h0
  have hl : New w.heap.size (w.alloc (.cells #[] 3)) (.slice (some ⟨w.heap.size, 0, none⟩) 0 0) [] := New.lit w.heap.size w [] (Nat.le_refl _) (by unfold maxLen; simp)
  have hB0 : Below w.heap.size w (w.alloc (.cells #[] 3)) := (Below.refl _ _).alloc (Nat.le_refl _) _
  have HT := hid hT
  have Hc := hid hc
  have H8 := hid h8
  clear hT hc h8
  go_enter Try.func70, Try.ntmps70
  go_wp2_with (at_builtin; go_loud (refine wp_append_ints _ rfl (.tmp 8) (.tmp 9) rfl w.heap.size _ [] rfl hl _ t ct rfl (fun e => by cases e) ((HT.out.below hB0).mono hB0.size) (by simp; omega) hB0.size ?_); intro v1 W1 hN1 hB1; obtain ⟨g, c, rfl, _⟩ := New.at0 hN1 (by simpa using h0))
  have hB2 := hB0.trans hB1
  clear hB0 hB1 hl
  simp only [List.nil_append] at *
  have hgl := hN1.own_lt.2
  have hB2s := hB2.size
  go_loopw [3, 5] (fun vs i wr => ∃ k : Nat, k ≤ t.length ∧ i = .int .i64 (k : Int) ∧ Hid (PlainSt w W1 t g t.length c k vs wr)) (fun _ i _ => t.length - (intOf i).toNat)
  case atStart => exact ⟨0, Nat.zero_le _, rfl, New.nil _ _, by rw [Tm.half_zero]; exact hN1, hB2, Nat.le_refl _⟩
  case round =>
    clear hN1 hB2
    obtain ⟨k, hk, rfl, hP⟩ := hrel
    by_cases hlt : k < t.length
    · have hlt' : (k : Int) < (t.length : Int) := by omega
      have hck := (hP.out.2.2.1.cell (p := ⟨b, off + k, none⟩) hb).trans (Hc.out k hlt)
      by_cases hneg : t[k]?.getD 0 < 0
      · have hsl := Tm.seen_len (t.take k) []
        rw [List.length_take] at hsl
        simp only [List.length_nil, Nat.zero_add] at hsl
        have hnd := hid (Tm.seen_nodup (t.take k) [] List.nodup_nil)
        have hse := hid (Tm.seen_succ [] hlt)
        have hnm : Hid (Tm.name (Tm.seenFrom [] (t.take k)) (t[k]?.getD 0) = -1 - (Tm.idx (Tm.seenFrom [] (t.take k)) (t[k]?.getD 0) : Int)) := by
          show _ = _
          unfold Tm.name
          rw [if_pos hneg]
        have hst : Hid (∀ (vs' : Value) (w' : World) (x : Int), New W1.heap.size w' vs' (Tm.seenFrom [] (t.take (k + 1))) → New w.heap.size w' (.slice (some ⟨g, 0, none⟩) t.length c) (Tm.half t k) → Below w.heap.size w w' → W1.heap.size ≤ w'.heap.size →
            x = Tm.name (Tm.seenFrom [] (t.take k)) (t[k]?.getD 0) → PlainSt w W1 t g t.length c (k + 1) vs' (w'.setCell ⟨g, k, none⟩ (.int .i64 x))) :=
          fun vs' w' x a1 a2 a3 a4 a5 => PlainSt.store hgl rfl hlt a1 a2 a3 a4 x a5
        obtain ⟨p1, p2, p3, p4⟩ := hP.out
        have Hhl : Hid ((Tm.half t k).length = t.length) := Tm.half_length hk
        clear hP
        generalize Tm.name (Tm.seenFrom [] (t.take k)) (t[k]?.getD 0) = nm at *
        generalize Tm.seenFrom [] (t.take (k + 1)) = seen' at *
        generalize Tm.seenFrom [] (t.take k) = seen at *
        generalize Tm.half t k = hf at *
        generalize t[k]?.getD 0 = s at *
        obtain ⟨az, cs, rfl, hIs, hcs, _⟩ := New.ints p1
        have HIs := hid hIs
        have hsl' : (seen.length : Int) ≤ 100 := by omega
        clear hIs hcs
        go_wp2
        go_loopw [6, 7] (fun q i wq => ∃ (m d : Nat), m ≤ seen.length ∧ i = .int .i64 (m : Int) ∧ wq = wr.drewN d ∧ ((q = .int .i64 (-1) ∧ Hid (∀ j, j < m → seen[j]?.getD 0 ≠ s)) ∨ ∃ j : Nat, j < m ∧ q = .int .i64 (j : Int) ∧ Hid (seen[j]?.getD 0 = s))) (fun _ i _ => seen.length - (intOf i).toNat)
        case atStart => exact ⟨0, 0, Nat.zero_le _, rfl, rfl, .inl ⟨rfl, fun j hj => by omega⟩⟩
        case round =>
          obtain ⟨m, d, hm, rfl, rfl, hq⟩ := hrel
          by_cases hml : m < seen.length
          · have hml' : (m : Int) < (seen.length : Int) := by omega
            obtain ⟨gs, os, rfl, hbs, hcs⟩ := HIs.out.at (by omega)
            have hcm := hcs m hml
            have hnn := hid (show seen[m]?.getD 0 ≠ s → (∀ j, j < m → seen[j]?.getD 0 ≠ s) → ∀ j, j < m + 1 → seen[j]?.getD 0 ≠ s from fun e1 e2 j hj => by
              by_cases e : j = m
              · subst e; exact e1
              · exact e2 j (by omega))
            clear hcs
            obtain ⟨y, hy⟩ : ∃ y, seen[m]?.getD 0 = y := ⟨_, rfl⟩
            rw [hy] at hcm
            have Hy := hid hy
            clear hy
            by_cases he : y = s
            · have hn : (y == s) = true := by simp [he]
              have hyy' : Hid (seen[m]?.getD 0 = s) := Hy.out.trans he
              clear he hnn hq
              go_wp2
              go_quiet (fail)
              go_wp2
              go_roundw
              case rel => exact ⟨m + 1, _, by omega, by go_num, rfl, .inr ⟨m, by omega, rfl, hyy'⟩⟩
              case measure => simp [intOf]; omega
            · have hn : (y == s) = false := by simp [he]
              have hnn' : Hid ((∀ j, j < m → seen[j]?.getD 0 ≠ s) → ∀ j, j < m + 1 → seen[j]?.getD 0 ≠ s) := hnn.out (by rw [Hy.out]; exact he)
              clear he hnn
              rcases hq with ⟨rfl, hno⟩ | ⟨j, hj, rfl, hyes⟩
              · go_wp2
                go_quiet (fail)
                go_wp2
                go_roundw
                case rel => exact ⟨m + 1, _, by omega, by go_num, rfl, .inl ⟨rfl, hnn'.out hno.out⟩⟩
                case measure => simp [intOf]; omega
              · go_wp2
                go_quiet (fail)
                go_wp2
                go_roundw
                case rel => exact ⟨m + 1, _, by omega, by go_num, rfl, .inr ⟨j, by omega, rfl, hyes⟩⟩
                case measure => simp [intOf]; omega
          · obtain rfl : m = seen.length := by omega
            have q1 := New.drewN p1 d
            have q2 := New.drewN p2 d
            have q3 := below_drewN p3 d
            have q4 : W1.heap.size ≤ (wr.drewN d).heap.size := p4
            obtain ⟨g', c', e', hcg, hfg⟩ := New.at0 q2 (by rw [Hhl.out]; exact h0)
            have hgc := hcg k (by rw [Hhl.out]; exact hlt)
            have hfk := hfg k
            have e'' : g = g' := by simp only [Value.slice.injEq, Option.some.injEq, Addr.mk.injEq] at e'; exact e'.1.1
            subst e''
            have hckd : (wr.drewN d).cell? ⟨b, off + k, none⟩ = some (.int .i64 s) := hck
            clear hcg hfg e' hck p1 p2 p3 p4
            generalize hx : hf[k]?.getD 0 = x0 at *
            clear hx
            generalize wr.drewN d = W2 at *
            rcases hq with ⟨rfl, hno⟩ | ⟨j, hj, rfl, hyes⟩
            · have hnot := Tm.has_not hno.out
              have hnew := hid (Tm.see_new hneg hnot)
              have hnm' : Hid (nm = -1 - (seen.length : Int)) := by
                show _ = _
                rw [hnm.out, Tm.idx_new hnot]
              have hse' := hid (hse.out.trans hnew.out)
              have hA : Below W2.heap.size W2 (W2.alloc (.cells #[.int .i64 s] 3)) := (Below.refl _ _).alloc (Nat.le_refl _) _
              have Hq1 := hid (q1.alloc (.cells #[.int .i64 s] 3))
              have hq2A := q2.alloc (.cells #[.int .i64 s] 3)
              have hq3A := q3.trans (hA.mono q3.size)
              have hq4A : W1.heap.size ≤ (W2.alloc (.cells #[.int .i64 s] 3)).heap.size := by simp; omega
              have Hcn := hid (cell_new W2 (.int .i64 s) 3 W2.heap.size rfl)
              clear hnot hnew hno hnd q1 q2 q3 hgc hfk
              go_wp2_with (at_builtin; go_loud (refine wp_append_int1 _ rfl _ _ rfl W1.heap.size _ seen rfl Hq1.out W2.heap.size s rfl Hcn.out (by omega) hq4A ?_); intro v' w5 hN5 hg5 hB5; have r2 : New w.heap.size w5 (.slice (some ⟨g, 0, none⟩) t.length c) hf := World.ownsRow.kept hq2A hg5 (.inr (fun e => by have := (World.ownsRow.lt Hq1.out g e.symm).1; omega)); obtain ⟨g', c', e', hcg, hfg⟩ := New.at0 r2 (by rw [Hhl.out]; exact h0); have hgc := hcg k (by rw [Hhl.out]; exact hlt); have hfk := hfg k; have e'' : g = g' := (by simp only [Value.slice.injEq, Option.some.injEq, Addr.mk.injEq] at e'; exact e'.1.1); subst e''; clear hcg hfg e'; obtain ⟨a5, c5, rfl, _⟩ := New.ints hN5)
              go_roundw
              case rel => exact ⟨k + 1, by omega, by go_num, hst.out _ _ _ (by rw [hse'.out]; simpa using hN5) r2 (hq3A.trans (hB5.mono (by have := hB2s; omega))) (Nat.le_trans hq4A hB5.size) hnm'.out.symm⟩
              case measure => simp [intOf]; omega
            · have hidx := Tm.idx_at hnd.out hj hyes.out
              have hold := hid (Tm.see_old (Tm.has_at hj hyes.out))
              have hnm' : Hid (nm = -1 - (j : Int)) := by
                show _ = _
                rw [hnm.out, hidx]
              have hse' := hid (hse.out.trans hold.out)
              have hj30 : (j : Int) ≤ 100 := by omega
              have hjn : ¬ (j : Int) < 0 := by omega
              clear hidx hold hyes hnd
              go_wp2
              go_roundw
              case rel => exact ⟨k + 1, by omega, by go_num, hst.out _ _ _ (by rw [hse'.out]; exact q1) q2 q3 q4 hnm'.out.symm⟩
              case measure => simp [intOf]; omega
      · have hP' := hid (hP.out.same hlt (by omega))
        clear hP
        generalize t[k]?.getD 0 = s at *
        go_wp2
        go_roundw
        case rel => exact ⟨k + 1, by omega, by go_num, hP'.out⟩
        case measure => simp [intOf]; omega
    · obtain rfl : k = t.length := by omega
      obtain ⟨_, p2, p3, _⟩ := hP.out
      rw [Tm.half_all] at p2
      clear hP
      go_wp2
      go_ret
      exact ⟨_, rfl, p2, p3⟩

end Go.Proofs.Ytgpnkfjajfpdjaa

namespace Go.Proofs.Ytgpnkfjajfpdjaa
open Go.Proofs Go.RowKit Go.Shelf

set_option maxRecDepth 100000 in
set_option maxHeartbeats 400000 in
/-- haspref.put, of what may be too large. -/
theorem refput_long (zs us : List Int) (a au : Option Addr) (cap cu j : Nat) (w : World) (hI : Ints w.heap.size w a zs) (hU : Ints w.heap.size w au us) (hcap : zs.length ≤ cap) (hcap2 : cap ≤ maxLen) (he : Tm.err zs = 0) (hu30 : us.length ≤ 1000) (hup : 0 < us.length) (hj : j < zs.length) :
    Calls Try.prog 69 #[.slice a zs.length cap, .int .i64 (j : Int), .slice au us.length cu] w fun e w' => ∃ v, e = .returned v ∧ New w.heap.size w' v (Tm.put zs j us) ∧ Below w.heap.size w w' := by
  have h30 := Tm.err_len he
  have hei := Tm.end_in he hj
  have heg := Tm.endAt_gt zs j
  have hUs := hid (hU.some hup)
  obtain ⟨b, off, rfl, hb, _⟩ := hI.at (by omega)
  have hB0 : Below w.heap.size w (w.alloc (.cells #[] 3)) := (Below.refl _ _).alloc (Nat.le_refl _) _
  have hl : New w.heap.size (w.alloc (.cells #[] 3)) (.slice (some ⟨w.heap.size, 0, none⟩) 0 0) [] := New.lit w.heap.size w [] (Nat.le_refl _) (by unfold maxLen; simp)
  have hE : ∀ W, Below w.heap.size w W → Calls Try.prog 97 #[.slice (some ⟨b, off, none⟩) zs.length cap, .int .i64 (j : Int)] W fun e w' => e = .returned (.int .i64 (Tm.endAt zs j : Int)) ∧ Below W.heap.size W w' :=
    fun W hW => endOf_any zs (some ⟨b, off, none⟩) cap j W ((hI.below hW).mono hW.size) hcap hcap2 he hj
  have HE := hid (hE)
  have HU := hid (hU)
  have HI := hid (hI)
  have hput : Tm.put zs j us = [] ++ zs.take j ++ us ++ zs.drop (Tm.endAt zs j) := by simp [Tm.put]
  rw [hput]
  have htl : (zs.take j).length = j := by rw [List.length_take]; omega
  have hdl : (zs.drop (Tm.endAt zs j)).length = zs.length - Tm.endAt zs j := by rw [List.length_drop]
  have HT := hid (hI.take j)
  have HD : Hid (∀ n X, Ints n X (some ⟨b, off, none⟩) zs → ∀ c, Ints n X (if c = 0 then some ⟨b, off, none⟩ else some ⟨b, off + Tm.endAt zs j, none⟩) (zs.drop (Tm.endAt zs j)) ∨ (c = 0 ∧ zs.drop (Tm.endAt zs j) ≠ [])) := by
    intro n X hX c
    by_cases hc : c = 0
    · by_cases hd : zs.drop (Tm.endAt zs j) = []
      · left; rw [hd]; exact Ints.nil _ _ _
      · right; exact ⟨hc, hd⟩
    · left; rw [if_neg hc]; exact hX.drop _
  have Htl := hid (htl)
  have Hdl := hid (hdl)
  unfold maxLen at hcap2
  clear hE hU hI hput htl hdl he hup
  generalize Tm.endAt zs j = q at *
  generalize hxs : zs.take j = xs at *
  generalize hys : zs.drop q = ys at *
  clear hxs hys
  have h1 : (j : Int) ≤ (cap : Int) := by omega
  have h2 : (q : Int) ≤ (zs.length : Int) := by omega
  have h3 : (zs.length : Int) ≤ (cap : Int) := by omega
  have h4 : (zs.length : Int) ≤ 30 := by omega
  by_cases hz : cap - q = 0
  · have hys0 : ys = [] := List.eq_nil_of_length_eq_zero (by rw [Hdl.out]; omega)
    obtain ⟨rfl, rfl⟩ : zs.length = cap ∧ q = zs.length := by omega
    clear HD
    go_enter Try.func69, Try.ntmps69
    go_wp2_with (first
      | (at_builtin; refine wp_append_ints _ rfl (.tmp 7) (.tmp 10) rfl w.heap.size _ [] rfl hl (some ⟨b, off, none⟩) xs zs.length (by rw [Htl.out]; rfl) (fun h => by cases h) ((HT.out.below hB0).mono hB0.size) (by rw [Htl.out]; simp; omega) hB0.size ?_; intro v1 w1 hN1 hB1; have hB01 := hB0.trans hB1; clear hB1)
      | (at_builtin; refine wp_append_ints _ rfl (.tmp 11) (.tmp 12) rfl w.heap.size _ _ rfl hN1 au us _ rfl (fun h => absurd h hUs.out) ((HU.out.below hB01).mono hB01.size) (by rw [List.length_append, Htl.out]; simp; omega) hB01.size ?_; intro v2 w2 hN2 hB2; have hB02 := hB01.trans hB2; clear hB2)
      | (go_at_call 97; refine (HE.out _ hB02).mono ?_; rintro e w3 ⟨rfl, hB3⟩; have hN3 := New.below hN2 hB3; have hB03 := hB02.trans (hB3.mono hB02.size); clear hB3)
      | (at_builtin; go_loud (refine wp_append_ints _ rfl (.tmp 13) (.tmp 18) rfl w.heap.size _ _ rfl hN3 (some ⟨b, off, none⟩) ys 0 (by rw [hys0]; rfl) (fun h => by cases h) (by rw [hys0]; exact Ints.nil _ _ _) (by rw [List.length_append, List.length_append, Htl.out, Hdl.out]; simp; omega) hB03.size ?_); intro v4 w4 hN4 hB4))
    obtain ⟨a4, c4, rfl, _⟩ := New.ints hN4
    go_ret
    exact ⟨_, rfl, hN4, hB03.trans hB4⟩
  · have HY : Hid (∀ n X, Ints n X (some ⟨b, off, none⟩) zs → Ints n X (some ⟨b, off + q, none⟩) ys) := fun n X hX => by
      rcases HD.out n X hX 1 with h | h
      · simpa using h
      · exact absurd h.1 (by decide)
    clear HD
    go_enter Try.func69, Try.ntmps69
    go_wp2_with (first
      | (at_builtin; refine wp_append_ints _ rfl (.tmp 7) (.tmp 10) rfl w.heap.size _ [] rfl hl (some ⟨b, off, none⟩) xs cap (by rw [Htl.out]; rfl) (fun h => by cases h) ((HT.out.below hB0).mono hB0.size) (by rw [Htl.out]; simp; omega) hB0.size ?_; intro v1 w1 hN1 hB1; have hB01 := hB0.trans hB1; clear hB1)
      | (at_builtin; refine wp_append_ints _ rfl (.tmp 11) (.tmp 12) rfl w.heap.size _ _ rfl hN1 au us _ rfl (fun h => absurd h hUs.out) ((HU.out.below hB01).mono hB01.size) (by rw [List.length_append, Htl.out]; simp; omega) hB01.size ?_; intro v2 w2 hN2 hB2; have hB02 := hB01.trans hB2; clear hB2)
      | (go_at_call 97; refine (HE.out _ hB02).mono ?_; rintro e w3 ⟨rfl, hB3⟩; have hN3 := New.below hN2 hB3; have hB03 := hB02.trans (hB3.mono hB02.size); clear hB3)
      | (at_builtin; go_loud (refine wp_append_ints _ rfl (.tmp 13) (.tmp 18) rfl w.heap.size _ _ rfl hN3 (some ⟨b, off + q, none⟩) ys (cap - q) (by rw [Hdl.out]; rfl) (fun h => by cases h) (HY.out _ _ ((HI.out.below hB03).mono hB03.size)) (by rw [List.length_append, List.length_append, Htl.out, Hdl.out]; simp; omega) hB03.size ?_); intro v4 w4 hN4 hB4))
    obtain ⟨a4, c4, rfl, _⟩ := New.ints hN4
    go_ret
    exact ⟨_, rfl, hN4, hB03.trans hB4⟩

end Go.Proofs.Ytgpnkfjajfpdjaa

namespace Go.Proofs.Ytgpnkfjajfpdjaa
open Go.Proofs Go.RowKit Go.Shelf Go.Maps

theorem Tm.n1 : Tm.form groupL [4, 4, 0, 1, 0] = ([4, 1, 0], 2, 0) := by decide +kernel
theorem Tm.n2 : Tm.isForm groupL [4, 1, 0] = true := by decide +kernel
theorem Tm.n3 : Tm.stepErr groupL [4, 1, 0] = 0 := by decide +kernel
theorem Tm.n4 : Tm.form [([2, -1], [2, -1])] [4, -1, 2, 0] = ([], 0, 2) := by decide +kernel
theorem Tm.n5 : Tm.form [([2, -1], [2, 2, -1])] [4, -1, 2, 0] = ([], 0, 2) := by decide +kernel

end Go.Proofs.Ytgpnkfjajfpdjaa
