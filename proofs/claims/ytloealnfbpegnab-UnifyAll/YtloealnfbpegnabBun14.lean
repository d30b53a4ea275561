/-
  hasplaw.unifyBegun. · PLAIN MATHEMATICS: how long what meeting and applying answer is. · PLAIN MATHEMATICS of haspref.met: nodes that are tied in classes; what a class becomes. · TIES IN MEMORY: haspref's (*ties).node of what is there, symbol, round. · haspref's (*ties).round.
-/
import Derived.Test.YtloealnfbpegnabBun13
import Derived.Deep.QuietTactic
import Derived.BigQuiet
import Derived.LaidEqlPtr
namespace Go.Proofs.Ytloealnfbpegnab
open Go.Proofs Go.RowKit Go.Shelf Go.Maps

/-- Terms that open the same list are the same. -/
theorem Wb.split {x y r s : List Int} (hx : Tm.run x 1 = x.length) (hy : Tm.run y 1 = y.length) (h : x ++ r = y ++ s) : x = y ∧ r = s := by
  have h1 := Tm.run_app x r 1 (by omega)
  have h2 := Tm.run_app y s 1 (by omega)
  rw [h, h2, hx, hy] at h1
  exact List.append_inj h h1.symm
theorem Wb.var8 {v : Int} (h1 : -8 ≤ v) (h2 : v < 0) : v = -1 ∨ v = -2 ∨ v = -3 ∨ v = -4 ∨ v = -5 ∨ v = -6 ∨ v = -7 ∨ v = -8 := by omega
theorem Wb.App1 (θ : Wb.Sb) {v : Int} (h : v < 0) : Wb.App θ [v] = θ v := by rw [Wb.App_cons, if_pos h, Wb.App_nil, List.append_nil]

def Tm.mv1 : List (List Int) := [[2, -2], [-2], [2, -2], [-4], [-5], [-6], [-7], [-8]]
def Tm.mv3 : List (List Int) := [[-1], [-2], [-2], [-4], [-2], [-6], [-7], [-8]]
theorem Tm.mgu1 : Wb.Mgu [([4, -1, 2, -2], [4, -3, -1])] (Tm.ofL Tm.mv1) := by
  refine ⟨Tm.ofL_term (by decide +kernel), fun v h1 h2 => ?_, fun j hj => ?_, fun θ hθ H v h1 h2 => ?_, fun v u h1 h2 e hu => ?_⟩
  · rcases Wb.var8 h1 h2 with rfl | rfl | rfl | rfl | rfl | rfl | rfl | rfl <;> decide +kernel
  · obtain rfl : j = 0 := by simp at hj; omega
    decide +kernel
  · have h := H 0 (by simp)
    simp only [List.getElem?_cons_zero, Option.getD_some, Wb.App_cons, Wb.App_nil, List.append_nil] at h
    simp only [show ¬ ((4 : Int) < 0) from by omega, show ¬ ((2 : Int) < 0) from by omega, show ((-1 : Int) < 0) from by omega, show ((-2 : Int) < 0) from by omega, show ((-3 : Int) < 0) from by omega, if_true, if_false, List.singleton_append, List.cons.injEq, true_and] at h
    obtain ⟨e1, e2⟩ := Wb.split (hθ (-1) (by omega)) (hθ (-3) (by omega)) h
    have e3 : Wb.App θ [2, -2] = 2 :: θ (-2) := by rw [Wb.App_cons, if_neg (by omega), Wb.App1 θ (by omega)]; rfl
    rcases Wb.var8 h1 h2 with rfl | rfl | rfl | rfl | rfl | rfl | rfl | rfl
    · show _ = Wb.App θ [2, -2]
      rw [e3, e2]
    · exact (Wb.App1 θ (by omega)).symm
    · show _ = Wb.App θ [2, -2]
      rw [e3, e2, e1]
    all_goals exact (Wb.App1 θ (by omega)).symm
  · rcases Wb.var8 h1 h2 with rfl | rfl | rfl | rfl | rfl | rfl | rfl | rfl
    all_goals (simp [Tm.ofL, Tm.mv1] at e)
    all_goals omega
theorem Tm.mgu3 : Wb.Mgu [([-3], [-2]), ([-5], [-3])] (Tm.ofL Tm.mv3) := by
  refine ⟨Tm.ofL_term (by decide +kernel), fun v h1 h2 => ?_, fun j hj => ?_, fun θ hθ H v h1 h2 => ?_, fun v u h1 h2 e hu => ?_⟩
  · rcases Wb.var8 h1 h2 with rfl | rfl | rfl | rfl | rfl | rfl | rfl | rfl <;> decide +kernel
  · have : j = 0 ∨ j = 1 := by simp at hj; omega
    rcases this with rfl | rfl <;> decide +kernel
  · have h := H 0 (by simp)
    have h' := H 1 (by simp)
    simp only [List.getElem?_cons_zero, List.getElem?_cons_succ, Option.getD_some] at h h'
    rw [Wb.App1 θ (by omega), Wb.App1 θ (by omega)] at h h'
    rcases Wb.var8 h1 h2 with rfl | rfl | rfl | rfl | rfl | rfl | rfl | rfl
    · exact (Wb.App1 θ (by omega)).symm
    · exact (Wb.App1 θ (by omega)).symm
    · exact h.trans (Wb.App1 θ (by omega)).symm
    · exact (Wb.App1 θ (by omega)).symm
    · exact (h'.trans h).trans (Wb.App1 θ (by omega)).symm
    all_goals exact (Wb.App1 θ (by omega)).symm
  · rcases Wb.var8 h1 h2 with rfl | rfl | rfl | rfl | rfl | rfl | rfl | rfl
    all_goals (simp [Tm.ofL, Tm.mv3] at e)
    all_goals omega
theorem Tm.um1 : Tm.MeetSays [([4, -1, 2, -2], [4, -3, -1])] 0 true Tm.mv1 := by
  refine .inr (.inr (.inl ⟨by decide +kernel, _, Tm.mgu1, fun i hi => ?_, rfl, rfl, (Tm.sbL_ofL rfl).symm⟩))
  rw [Tm.ofL_at _ hi]
  have : ∀ i, i < 8 → ((Tm.mv1)[i]?.getD []).length ≤ 30 := by decide +kernel
  exact this i hi
theorem Tm.um2 : Tm.MeetSays [([-1], [2, -1])] 0 false [] := by
  refine .inr (.inl ⟨by decide +kernel, fun θ hθ H => ?_, rfl, rfl, rfl⟩)
  have h := H 0 (by simp)
  simp only [List.getElem?_cons_zero, Option.getD_some] at h
  rw [Wb.App1 θ (by omega), Wb.App_cons, if_neg (by omega), Wb.App1 θ (by omega)] at h
  have := congrArg List.length h
  simp at this
theorem Tm.um3 : Tm.MeetSays [([-3], [-2]), ([-5], [-3])] 0 true Tm.mv3 := by
  refine .inr (.inr (.inl ⟨by decide +kernel, _, Tm.mgu3, fun i hi => ?_, rfl, rfl, (Tm.sbL_ofL rfl).symm⟩))
  rw [Tm.ofL_at _ hi]
  have : ∀ i, i < 8 → ((Tm.mv3)[i]?.getD []).length ≤ 30 := by decide +kernel
  exact this i hi
theorem Tm.um4 : Tm.MeetSays [([9], [0])] 3 false [] := .inl ⟨by decide +kernel, by decide +kernel, rfl, rfl⟩

/-- Two literals meet. -/
theorem u_meet (p t : List Int) (np nt nv : Nat) (er : Int) (is : Bool) (val : List (List Int)) (w : World) (hp : np = p.length) (ht : nt = t.length) (hv : nv = val.length) (kp : p.length ≤ 1000) (kt : t.length ≤ 1000) (hS : Tm.MeetSays [(p, t)] er is val) :
    Calls Try.prog 17 #[.slice (some ⟨w.heap.size, 0, none⟩) np np, .slice (some ⟨w.heap.size + 1, 0, none⟩) nt nt] ((w.alloc (.cells (p.map (Value.int .i64)).toArray 3)).alloc (.cells (t.map (Value.int .i64)).toArray 3)) fun e w' => ∃ x, e = .returned (.tuple #[.slice x nv nv, .bool is, .int .i64 er]) ∧ Subs w'.heap.size w' x val ∧ Below w.heap.size w w' := by
  subst hp ht hv
  have hb := allocs_below [p, t] w
  have hi := allocs_ints [p, t] w
  have hs := allocs_size [p, t] w
  have i1 := hi 0 (by simp)
  have i2 := hi 1 (by simp)
  rw [show w.heap.size + [p, t].length = (allocs w [p, t]).heap.size from hs.symm] at i1 i2
  refine (Meet_any p t _ _ p.length t.length (allocs w [p, t]) i1 i2 (Nat.le_refl _) (by unfold maxLen; omega) (Nat.le_refl _) (by unfold maxLen; omega)).mono ?_
  rintro e w' ⟨hB, er', is', val', x, hS', rfl, hx⟩
  obtain ⟨rfl, rfl, rfl⟩ := hS.one hS'
  exact ⟨x, rfl, hx, hb.trans (hB.mono hb.size)⟩

theorem u_all (w : World) :
    Calls Try.prog 20 #[.slice (some ⟨w.heap.size + 1 + 1 + 1 + 1, 0, none⟩) 2 2] ((allocs w [[-3], [-2], [-5], [-3]]).alloc (.cells #[.slice (some ⟨w.heap.size, 0, none⟩) 1 1, .slice (some ⟨w.heap.size + 1, 0, none⟩) 1 1, .slice (some ⟨w.heap.size + 1 + 1, 0, none⟩) 1 1, .slice (some ⟨w.heap.size + 1 + 1 + 1, 0, none⟩) 1 1] 60)) fun e w' => ∃ x, e = .returned (.tuple #[.slice x 8 8, .bool true, .int .i64 0]) ∧ Subs w'.heap.size w' x Tm.mv3 ∧ Below w.heap.size w w' := by
  have hs := allocs_size [[-3], [-2], [-5], [-3]] w
  have hb := allocs_below [[-3], [-2], [-5], [-3]] w
  have hi := allocs_ints [[-3], [-2], [-5], [-3]] w
  have h4 : ([[-3], [-2], [-5], [-3]] : List (List Int)).length = 4 := rfl
  rw [h4] at hs hi
  obtain ⟨W4, hW⟩ : ∃ W4, allocs w [[-3], [-2], [-5], [-3]] = W4 := ⟨_, rfl⟩
  rw [hW] at hs hb hi ⊢
  obtain ⟨C, hC⟩ : ∃ C : Array Value, #[.slice (some ⟨w.heap.size, 0, none⟩) 1 1, .slice (some ⟨w.heap.size + 1, 0, none⟩) 1 1, .slice (some ⟨w.heap.size + 1 + 1, 0, none⟩) 1 1, .slice (some ⟨w.heap.size + 1 + 1 + 1, 0, none⟩) 1 1] = C := ⟨_, rfl⟩
  rw [hC]
  have blk := World.alloc_heap_new W4 (.cells C 60)
  have hb4 : Below W4.heap.size W4 (W4.alloc (.cells C 60)) := (Below.refl _ W4).alloc (Nat.le_refl _) _
  have hsz : (W4.alloc (.cells C 60)).heap.size = w.heap.size + 4 + 1 := by rw [World.size_alloc, hs]
  rw [hs] at blk hb4
  have hR : RulesAt (W4.alloc (.cells C 60)).heap.size (W4.alloc (.cells C 60)) (some ⟨w.heap.size + 4, 0, none⟩) [([-3], [-2]), ([-5], [-3])] := by
    rw [hsz]
    refine rulesAt_of blk (by omega) fun k hk => ?_
    have hk' : k < 2 := hk
    have hx := fun i hi6 => ((hi i hi6).below hb4).mono (show w.heap.size + 4 ≤ w.heap.size + 4 + 1 by omega)
    subst hC
    match k, hk' with
    | 0, _ => exact ⟨_, _, rfl, rfl, hx 0 (by omega), hx 1 (by omega), by decide, by decide⟩
    | 1, _ => exact ⟨_, _, rfl, rfl, hx 2 (by omega), hx 3 (by omega), by decide, by decide⟩
  have hBB := hb.trans (hb4.mono (by omega))
  refine (All_any [([-3], [-2]), ([-5], [-3])] _ 2 _ hR).mono ?_
  rintro e w' ⟨hB, er', is', val', x, hS', rfl, hx⟩
  rcases hS' with ⟨h, _⟩ | ⟨_, hS'⟩
  · simp at h
  · obtain ⟨rfl, rfl, rfl⟩ := Tm.um3.one hS'
    exact ⟨x, rfl, hx, hBB.trans (hB.mono hBB.size)⟩

theorem Try.info60 : (Try.prog.info? 60).map (fun i => (i.zero, i.size, i.bytes)) = some (some (.agg #[.slice none 0 0, .slice none 0 0]), 2, 48) := by kernel_rfl
theorem make41 : ∃ M : Array Value, ∀ W : World, (Instr.makeSlice 36 (.int .i64 41) (.int .i64 41)).run Try.prog W = .ok (.slice (some ⟨W.heap.size, 0, none⟩) 41 41) (W.alloc (.cells M 60)) := by
  obtain ⟨i0, hi, hz0, hz1, hz2⟩ := info_parts Try.info60
  refine ⟨madeCells (Value.agg #[.slice none 0 0, .slice none 0 0]).cells (Int.toNat 41 * 2), fun W => ?_⟩
  have h := run_makeSlice (P := Try.prog) W 36 60 i0 (.agg #[.slice none 0 0, .slice none 0 0]) Try.underlying36 hi hz0 .i64 .i64 41 41 (by omega) (by omega) (by rw [hz1]; decide) (by rw [hz2]; decide) (by decide)
  rw [hz1] at h
  exact h

theorem u_at {w : World} {x : Option Addr} {vs : List (List Int)} (h : Subs w.heap.size w x vs) (h0 : 0 < vs.length) : ∃ b off, x = some ⟨b, off, none⟩ ∧ ∀ j, j < vs.length → ∃ a c, w.cell? ⟨b, off + j, none⟩ = some (.slice a (vs[j]?.getD []).length c) ∧ Ints w.heap.size w a (vs[j]?.getD []) := by
  obtain ⟨b, off, aj, cj, e, _⟩ := h 0 h0
  refine ⟨b, off, e, fun j hj => ?_⟩
  obtain ⟨b', off', a, c, e', _, h1, h2, _⟩ := h j hj
  rw [e] at e'
  cases e'
  exact ⟨a, c, h1, h2⟩

set_option maxRecDepth 100000 in
set_option maxHeartbeats 4000000 in
theorem unifyBegun_any (w : World) : Calls Try.prog 19 #[] w fun e w' => e = .returned (.bool true) ∧ Below w.heap.size w w' := by
  have h1 := hid (fun w => u_meet [4, -1, 2, -2] [4, -3, -1] 4 3 8 0 true Tm.mv1 w rfl rfl rfl (by simp) (by simp) Tm.um1)
  have h2 := hid (fun w => u_meet [-1] [2, -1] 1 2 0 0 false [] w rfl rfl rfl (by simp) (by simp) Tm.um2)
  have h3 := hid (fun w => u_all w)
  have h4 := hid (fun w => u_meet [9] [0] 1 1 0 3 false [] w rfl rfl rfl (by simp) (by simp) Tm.um4)
  have h5 := hid (fun n (h : 40 < n) a c w => All_many n h a c w)
  have s1 := hid (fun w a c hI => g_same [2, -2] [2, -2] 2 2 c a w rfl rfl (by simp) hI (by simp [sameB]))
  have s2 := hid (fun w a c hI => g_same [-2] [-2] 1 1 c a w rfl rfl (by simp) hI (by simp [sameB]))
  simp only [List.map_cons, List.map_nil, allocs] at h1 h2 h3 h4 s1 s2
  obtain ⟨M, hmk⟩ := make41
  go_enter Try.func19, Try.ntmps19
  go_wp2_with fail
  refine (h1.out _).mono ?_
  rintro e w1 ⟨x1, rfl, S1, b1⟩
  clear h1
  go_wp2_with fail
  refine (h2.out _).mono ?_
  rintro e w2 ⟨x2, rfl, _, b2⟩
  have S2 := (S1.below b2).mono b2.size
  have B2 := b1.trans (b2.mono b1.size)
  clear h2 S1 b1 b2
  go_wp2_with fail
  refine (h3.out _).mono ?_
  rintro e w3 ⟨x3, rfl, T3, b3⟩
  have S3 := (S2.below b3).mono b3.size
  have B3 := B2.trans (b3.mono B2.size)
  clear h3 S2 B2 b3
  go_wp2_with fail
  refine (h4.out _).mono ?_
  rintro e w4 ⟨x4, rfl, _, b4⟩
  have S4 := (S3.below b4).mono b4.size
  have T4 := (T3.below b4).mono b4.size
  have B4 := B3.trans (b4.mono B3.size)
  clear h4 S3 T3 B3 b4
  have b5 : Below w4.heap.size w4 (w4.alloc (.cells M 60)) := (Below.refl _ _).alloc (Nat.le_refl _) _
  go_wp2_with fail
  refine (h5.out 41 (by omega) _ _ _).mono ?_
  rintro e w6 ⟨rfl, b6⟩
  have b56 := b5.trans (b6.mono b5.size)
  have S6 := hid ((S4.below b56).mono b56.size)
  have T6 := hid ((T4.below b56).mono b56.size)
  have B6 := B4.trans (b56.mono B4.size)
  clear h5 S4 T4 B4 b5 b6 b56 hmk
  obtain ⟨b, off, rfl, hS⟩ := u_at S6.out (by decide)
  obtain ⟨bt, ot, rfl, hT⟩ := u_at T6.out (by decide)
  obtain ⟨a0, c0, k0, i0⟩ := hS 0 (by decide)
  clear hS hT
  simp [Tm.mv1] at k0
  go_wp2_with fail
  refine (s1.out w6 a0 c0 i0).mono ?_
  rintro e w7 ⟨rfl, b7⟩
  have S7 := hid ((S6.out.below b7).mono b7.size)
  have T7 := hid ((T6.out.below b7).mono b7.size)
  have B7 := B6.trans (b7.mono B6.size)
  clear S6 T6 B6 b7 k0 i0
  obtain ⟨_, _, e, hS⟩ := u_at S7.out (by decide)
  cases e
  obtain ⟨a2, c2, k2, i2⟩ := hS 2 (by decide)
  clear hS
  simp [Tm.mv1] at k2
  go_wp2_with fail
  refine (s1.out w7 a2 c2 i2).mono ?_
  rintro e w8 ⟨rfl, b8⟩
  have S8 := hid ((S7.out.below b8).mono b8.size)
  have T8 := hid ((T7.out.below b8).mono b8.size)
  have B8 := B7.trans (b8.mono B7.size)
  clear S7 T7 B7 b8 k2 i2
  obtain ⟨_, _, e, hS⟩ := u_at S8.out (by decide)
  cases e
  obtain ⟨a1, c1, k1, i1⟩ := hS 1 (by decide)
  clear hS
  simp [Tm.mv1] at k1
  go_wp2_with fail
  refine (s2.out w8 a1 c1 i1).mono ?_
  rintro e w9 ⟨rfl, b9⟩
  have T9 := hid ((T8.out.below b9).mono b9.size)
  have B9 := B8.trans (b9.mono B8.size)
  clear S8 T8 B8 b9 k1 i1
  obtain ⟨_, _, e, hT⟩ := u_at T9.out (by decide)
  cases e
  obtain ⟨a2, c2, k2, i2⟩ := hT 2 (by decide)
  clear hT
  simp [Tm.mv3] at k2
  go_wp2_with fail
  refine (s2.out w9 a2 c2 i2).mono ?_
  rintro e w10 ⟨rfl, b10⟩
  have T10 := hid ((T9.out.below b10).mono b10.size)
  have B10 := B9.trans (b10.mono B9.size)
  clear T9 B9 b10 k2 i2
  obtain ⟨_, _, e, hT⟩ := u_at T10.out (by decide)
  cases e
  obtain ⟨a4, c4, k4, i4⟩ := hT 4 (by decide)
  clear hT
  simp [Tm.mv3] at k4
  go_wp2_with fail
  refine (s2.out w10 a4 c4 i4).mono ?_
  rintro e w11 ⟨rfl, b11⟩
  have B11 := B10.trans (b11.mono B10.size)
  go_wp2
  go_ret
  exact ⟨rfl, B11⟩

end Go.Proofs.Ytloealnfbpegnab

namespace Go.Proofs.Ytloealnfbpegnab
open Go.Proofs Go.RowKit Go.Shelf Go.Maps

theorem Tm.MeetSays.len {ps : PairL} {er : Int} {is : Bool} {val : List (List Int)} (A : Tm.MeetSays ps er is val) : val.length ≤ 8 := by
  rcases A with ⟨_, _, _, rfl⟩ | ⟨_, _, _, _, rfl⟩ | ⟨_, σ, _, _, _, _, rfl⟩ | ⟨_, _, _, _, _, _, rfl⟩
  · simp
  · simp
  · rw [Tm.sbL_length]; exact Nat.le_refl _
  · simp
theorem Tm.applyVal_len (ss : List (List Int)) (t : List Int) : (Tm.applyVal ss t).length ≤ 30 := by
  unfold Tm.applyVal
  by_cases h : Tm.applyErr ss t = 0
  · rw [if_pos h]
    unfold Tm.applyErr at h
    by_cases h1 : Tm.subErr ss = 0
    · rw [if_pos h1] at h
      by_cases h2 : Tm.err t = 0
      · rw [if_pos h2] at h
        by_cases h3 : 30 < (Tm.applied ss t).length
        · rw [if_pos h3] at h; omega
        · omega
      · rw [if_neg h2] at h; exact absurd h h2
    · rw [if_neg h1] at h; exact absurd h h1
  · rw [if_neg h]; simp

end Go.Proofs.Ytloealnfbpegnab

namespace Go.Proofs.Ytloealnfbpegnab
open Go.Proofs Go.RowKit Go.Shelf Go.Maps

namespace Mt
open Wb (App TermSb Same Sb App_cons App_flatten)

/-- n nodes; each has a sign, parts (nodes, too) and signs that stand there; a variable is one node. -/
structure Gph (n : Nat) (S : Nat → Int) (K : Nat → List Nat) (Z : Nat → List Int) : Prop where
  known : ∀ k, k < n → -8 ≤ S k ∧ S k < 6
  room : ∀ k, k < n → (K k).length = Tm.room (S k)
  kids : ∀ k, k < n → ∀ i ∈ K k, i < n
  sign : ∀ k, k < n → Z k = S k :: ((K k).map Z).flatten
  vars : ∀ i j, i < n → j < n → S i < 0 → S i = S j → i = j

theorem mem_len {l : List (List Int)} {x : List Int} (h : x ∈ l) : x.length ≤ l.flatten.length := by
  induction l with
  | nil => simp at h
  | cons y l ih =>
    rw [List.flatten_cons, List.length_append]
    rcases List.mem_cons.1 h with e | h
    · subst e; omega
    · have := ih h; omega
theorem Gph.kid_len {n : Nat} {S : Nat → Int} {K : Nat → List Nat} {Z : Nat → List Int} (G : Gph n S K Z) {k i : Nat} (hk : k < n) (hi : i ∈ K k) : (Z i).length < (Z k).length := by
  rw [G.sign k hk, List.length_cons]
  have := mem_len (List.mem_map_of_mem (f := Z) hi)
  omega
theorem run_kids {l : List (List Int)} (h : ∀ x ∈ l, Tm.run x 1 = x.length) : Tm.run l.flatten l.length = l.flatten.length :=
  Tm.run_flatten l fun j hj => by
    rw [List.getElem?_eq_getElem hj]
    exact h _ (List.getElem_mem hj)
theorem Gph.run {n : Nat} {S : Nat → Int} {K : Nat → List Nat} {Z : Nat → List Int} (G : Gph n S K Z) : ∀ (m k : Nat), (Z k).length ≤ m → k < n → Tm.run (Z k) 1 = (Z k).length := by
  intro m
  induction m with
  | zero => intro k h hk; rw [G.sign k hk, List.length_cons] at h; omega
  | succ m ih =>
    intro k h hk
    have e := G.sign k hk
    have hr : Tm.run ((K k).map Z).flatten ((K k).map Z).length = ((K k).map Z).flatten.length := run_kids fun x hx => by
      obtain ⟨i, hi, rfl⟩ := List.mem_map.1 hx
      exact ih i (by have := G.kid_len hk hi; omega) (G.kids k hk i hi)
    rw [List.length_map, G.room k hk] at hr
    rw [e, show (1 : Nat) = 0 + 1 from rfl, Tm.run_cons, Nat.zero_add, hr, List.length_cons]
    omega
theorem Gph.app {n : Nat} {S : Nat → Int} {K : Nat → List Nat} {Z : Nat → List Int} (G : Gph n S K Z) (θ : Sb) {k : Nat} (hk : k < n) (hs : 0 ≤ S k) : App θ (Z k) = S k :: ((K k).map fun i => App θ (Z i)).flatten := by
  rw [G.sign k hk, App_cons, if_neg (by omega), App_flatten, List.map_map]
  rfl
theorem Gph.var {n : Nat} {S : Nat → Int} {K : Nat → List Nat} {Z : Nat → List Int} (G : Gph n S K Z) {k : Nat} (hk : k < n) (hs : S k < 0) : K k = [] ∧ Z k = [S k] := by
  have h := G.room k hk
  rw [Wb.room_var hs] at h
  have e := List.eq_nil_of_length_eq_zero h
  exact ⟨e, by rw [G.sign k hk, e]; rfl⟩
/-- What becomes the same of two symbols has the same symbol, and parts that become the same. -/
theorem Gph.eq {n : Nat} {S : Nat → Int} {K : Nat → List Nat} {Z : Nat → List Int} (G : Gph n S K Z) {θ : Sb} (hθ : TermSb θ) {p q : Nat} (hp : p < n) (hq : q < n) (sp : 0 ≤ S p) (sq : 0 ≤ S q) (h : App θ (Z p) = App θ (Z q)) :
    S p = S q ∧ ∀ i, i < Tm.room (S p) → App θ (Z ((K p)[i]?.getD 0)) = App θ (Z ((K q)[i]?.getD 0)) := by
  rw [G.app θ hp sp, G.app θ hq sq] at h
  obtain ⟨e, h2⟩ := List.cons.inj h
  have hrun : ∀ r, r < n → ∀ x ∈ (K r).map (fun k => App θ (Z k)), Tm.run x 1 = x.length := fun r hr x hx => by
    obtain ⟨i, hi, rfl⟩ := List.mem_map.1 hx
    exact Wb.App_run hθ _ 1 (G.run _ i (Nat.le_refl _) (G.kids r hr i hi))
  have h3 := Wb.flatten_inj _ _ (hrun p hp) (hrun q hq) (by rw [List.length_map, List.length_map, G.room p hp, G.room q hq, e]) h2
  refine ⟨e, fun i hi => ?_⟩
  have h4 := congrArg (fun l : List (List Int) => l[i]?.getD []) h3
  simp only [List.getElem?_map] at h4
  have l1 : i < (K p).length := by rw [G.room p hp]; exact hi
  have l2 : i < (K q).length := by rw [G.room q hq, ← e]; exact hi
  rw [List.getElem?_eq_getElem l1, List.getElem?_eq_getElem l2] at h4 ⊢
  exact h4

/-- Does what variables become keep to the classes? -/
def Resp (n : Nat) (Z : Nat → List Int) (C : Nat → Nat) (θ : Sb) : Prop := ∀ i j, i < n → j < n → C i = C j → App θ (Z i) = App θ (Z j)
/-- Two classes are made one. -/
def tied (C : Nat → Nat) (a b : Nat) : Nat → Nat := fun k => if C k = C a then C b else C k
theorem tied_same (C : Nat → Nat) (a b : Nat) : tied C a b a = tied C a b b := by
  unfold tied
  rw [if_pos rfl]
  by_cases e : C b = C a
  · rw [if_pos e]
  · rw [if_neg e]
theorem tied_mono {C : Nat → Nat} {i j : Nat} (a b : Nat) (h : C i = C j) : tied C a b i = tied C a b j := by unfold tied; rw [h]
theorem Resp.tie {n : Nat} {Z : Nat → List Int} {C : Nat → Nat} {θ : Sb} (R : Resp n Z C θ) {a b : Nat} (ha : a < n) (hb : b < n) (h : App θ (Z a) = App θ (Z b)) : Resp n Z (tied C a b) θ := fun i j hi hj e => by
  unfold tied at e
  by_cases h1 : C i = C a
  · rw [if_pos h1] at e
    by_cases h2 : C j = C a
    · rw [R i a hi ha h1, R j a hj ha h2]
    · rw [if_neg h2] at e
      rw [R i a hi ha h1, h, R b j hb hj e]
  · rw [if_neg h1] at e
    by_cases h2 : C j = C a
    · rw [if_pos h2] at e
      rw [R i b hi hb e, ← h, R j a hj ha h2]
    · rw [if_neg h2] at e
      exact R i j hi hj e
/-- How many classes there are. -/
def cls (n : Nat) (C : Nat → Nat) : Nat := ((List.range n).filter fun c => (List.range n).any fun k => C k == c).length
theorem used_iff {n : Nat} {C : Nat → Nat} {c : Nat} : ((List.range n).any fun k => C k == c) = true ↔ ∃ k, k < n ∧ C k = c := by simp
theorem cls_tie {n : Nat} {C : Nat → Nat} {a b : Nat} (hC : ∀ k, k < n → C k < n) (ha : a < n) (hb : b < n) (hne : C a ≠ C b) : cls n (tied C a b) < cls n C := by
  refine Wb.filter_lt _ _ _ (fun c _ h => ?_) (C a) (List.mem_range.2 (hC a ha)) ?_ (used_iff.2 ⟨a, ha, rfl⟩)
  · obtain ⟨k, hk, e⟩ := used_iff.1 h
    unfold tied at e
    by_cases h1 : C k = C a
    · rw [if_pos h1] at e; exact used_iff.2 ⟨b, hb, e⟩
    · rw [if_neg h1] at e; exact used_iff.2 ⟨k, hk, e⟩
  · rw [Bool.eq_false_iff]
    intro h
    obtain ⟨k, hk, e⟩ := used_iff.1 h
    unfold tied at e
    by_cases h1 : C k = C a
    · rw [if_pos h1] at e; exact hne e.symm
    · rw [if_neg h1] at e; exact h1 e
theorem tied_lt {n : Nat} {C : Nat → Nat} {a b : Nat} (hC : ∀ k, k < n → C k < n) (hb : b < n) : ∀ k, k < n → tied C a b k < n := fun k hk => by
  unfold tied
  split
  · exact hC b hb
  · exact hC k hk

/-- Are two nodes closed: if they are tied, and are symbols, these are the same, and all parts are tied? -/
def Shut (S : Nat → Int) (K : Nat → List Nat) (C : Nat → Nat) (a b : Nat) : Prop := C a = C b → 0 ≤ S a → 0 ≤ S b → S a = S b ∧ ∀ i, i < Tm.room (S a) → C ((K a)[i]?.getD 0) = C ((K b)[i]?.getD 0)
/-- The first symbol of a class. -/
def sym (n : Nat) (S : Nat → Int) (C : Nat → Nat) (c : Nat) : Option Nat := (List.range n).find? fun k => decide (C k = c) && decide (0 ≤ S k)
theorem sym_some {n : Nat} {S : Nat → Int} {C : Nat → Nat} {c k : Nat} (h : sym n S C c = some k) : k < n ∧ C k = c ∧ 0 ≤ S k := by
  have h1 := List.find?_some h
  have h2 := List.mem_of_find?_eq_some h
  simp only [Bool.and_eq_true, decide_eq_true_eq] at h1
  exact ⟨List.mem_range.1 h2, h1.1, h1.2⟩
theorem sym_none {n : Nat} {S : Nat → Int} {C : Nat → Nat} {c : Nat} (h : sym n S C c = none) : ∀ k, k < n → C k = c → S k < 0 := fun k hk e => by
  have h1 := List.find?_eq_none.1 h k (List.mem_range.2 hk)
  simp only [Bool.and_eq_true, decide_eq_true_eq, not_and] at h1
  have := h1 e
  omega
/-- Does a class stand in itself, as far as it is looked? -/
def rnd (n : Nat) (S : Nat → Int) (K : Nat → List Nat) (C : Nat → Nat) : Nat → Nat → Bool
  | 0, _ => true
  | f + 1, c => match sym n S C c with
    | none => false
    | some k => (K k).any fun i => rnd n S K C f (C i)
theorem rnd_none {n : Nat} {S : Nat → Int} {K : Nat → List Nat} {C : Nat → Nat} {f c : Nat} (h : sym n S C c = none) : rnd n S K C (f + 1) c = false := by rw [rnd, h]
theorem rnd_some {n : Nat} {S : Nat → Int} {K : Nat → List Nat} {C : Nat → Nat} {f c k : Nat} (h : sym n S C c = some k) : rnd n S K C (f + 1) c = (K k).any fun i => rnd n S K C f (C i) := by rw [rnd, h]
/-- The greatest variable of a class, of the first m nodes. -/
def bst (S : Nat → Int) (C : Nat → Nat) (c : Nat) : Nat → Int
  | 0 => -9
  | m + 1 => if C m = c ∧ bst S C c m < S m then S m else bst S C c m
theorem bst_ge {S : Nat → Int} {C : Nat → Nat} {c : Nat} : ∀ (m k : Nat), k < m → C k = c → S k ≤ bst S C c m := by
  intro m
  induction m with
  | zero => intro k h; omega
  | succ m ih =>
    intro k hk e
    rw [bst]
    by_cases h : C m = c ∧ bst S C c m < S m
    · rw [if_pos h]
      by_cases e2 : k = m
      · subst e2; exact Int.le_refl _
      · have := ih k (by omega) e; omega
    · rw [if_neg h]
      by_cases e2 : k = m
      · subst e2
        have : ¬ bst S C c k < S k := fun h2 => h ⟨e, h2⟩
        omega
      · exact ih k (by omega) e
theorem bst_is {S : Nat → Int} {C : Nat → Nat} {c : Nat} : ∀ (m : Nat), bst S C c m = -9 ∨ ∃ k, k < m ∧ C k = c ∧ bst S C c m = S k := by
  intro m
  induction m with
  | zero => exact .inl rfl
  | succ m ih =>
    rw [bst]
    by_cases h : C m = c ∧ bst S C c m < S m
    · rw [if_pos h]; exact .inr ⟨m, by omega, h.1, rfl⟩
    · rw [if_neg h]
      rcases ih with e | ⟨k, hk, h1, h2⟩
      · exact .inl e
      · exact .inr ⟨k, by omega, h1, h2⟩
theorem Gph.best {n : Nat} {S : Nat → Int} {K : Nat → List Nat} {Z : Nat → List Int} (G : Gph n S K Z) {C : Nat → Nat} {k : Nat} (hk : k < n) : ∃ j, j < n ∧ C j = C k ∧ bst S C (C k) n = S j := by
  rcases bst_is (S := S) (C := C) (c := C k) n with e | h
  · have := bst_ge (S := S) (C := C) n k hk rfl
    have := (G.known k hk).1
    omega
  · exact h
/-- What a class becomes. -/
def bec (n : Nat) (S : Nat → Int) (K : Nat → List Nat) (C : Nat → Nat) : Nat → Nat → List Int
  | 0, _ => []
  | f + 1, c => match sym n S C c with
    | none => [bst S C c n]
    | some k => S k :: ((K k).map fun i => bec n S K C f (C i)).flatten
theorem bec_none {n : Nat} {S : Nat → Int} {K : Nat → List Nat} {C : Nat → Nat} {f c : Nat} (h : sym n S C c = none) : bec n S K C (f + 1) c = [bst S C c n] := by rw [bec, h]
theorem bec_some {n : Nat} {S : Nat → Int} {K : Nat → List Nat} {C : Nat → Nat} {f c k : Nat} (h : sym n S C c = some k) : bec n S K C (f + 1) c = S k :: ((K k).map fun i => bec n S K C f (C i)).flatten := by rw [bec, h]
theorem rnd_kid {n : Nat} {S : Nat → Int} {K : Nat → List Nat} {C : Nat → Nat} {f c k : Nat} (h : sym n S C c = some k) (hr : rnd n S K C (f + 1) c = false) : ∀ i ∈ K k, rnd n S K C f (C i) = false := fun i hi => by
  rw [rnd_some h] at hr
  have := List.any_eq_false.1 hr i hi
  simpa using this
/-- It does not matter how far it is looked, if it ends. -/
theorem bec_more {n : Nat} {S : Nat → Int} {K : Nat → List Nat} {C : Nat → Nat} : ∀ (f c : Nat), rnd n S K C f c = false → bec n S K C (f + 1) c = bec n S K C f c := by
  intro f
  induction f with
  | zero => intro c h; simp [rnd] at h
  | succ f ih =>
    intro c h
    cases hs : sym n S C c with
    | none => rw [bec_none hs, bec_none hs]
    | some k =>
      rw [bec_some hs, bec_some hs]
      congr 2
      refine List.map_congr_left fun i hi => ?_
      exact ih _ (rnd_kid hs h i hi)
theorem rnd_more {n : Nat} {S : Nat → Int} {K : Nat → List Nat} {C : Nat → Nat} : ∀ (f c : Nat), rnd n S K C f c = false → rnd n S K C (f + 1) c = false := by
  intro f
  induction f with
  | zero => intro c h; simp [rnd] at h
  | succ f ih =>
    intro c h
    cases hs : sym n S C c with
    | none => exact rnd_none hs
    | some k =>
      rw [rnd_some hs, List.any_eq_false]
      intro i hi
      have := ih _ (rnd_kid hs h i hi)
      simpa using this
theorem bec_run {n : Nat} {S : Nat → Int} {K : Nat → List Nat} {Z : Nat → List Int} (G : Gph n S K Z) {C : Nat → Nat} : ∀ (f k : Nat), k < n → rnd n S K C f (C k) = false → Tm.run (bec n S K C f (C k)) 1 = (bec n S K C f (C k)).length := by
  intro f
  induction f with
  | zero => intro k _ h; simp [rnd] at h
  | succ f ih =>
    intro k hk h
    cases hs : sym n S C (C k) with
    | none =>
      rw [bec_none hs]
      obtain ⟨j, hj, e1, e2⟩ := G.best (C := C) hk
      have := sym_none hs j hj e1
      rw [show (1 : Nat) = 0 + 1 from rfl, Tm.run_cons, Wb.room_var (by omega), Tm.run_zero]
      rfl
    | some q =>
      obtain ⟨hq, e1, e2⟩ := sym_some hs
      rw [bec_some hs]
      have hr := run_kids (l := (K q).map fun i => bec n S K C f (C i)) fun x hx => by
        obtain ⟨i, hi, rfl⟩ := List.mem_map.1 hx
        exact ih i (G.kids q hq i hi) (rnd_kid hs h i hi)
      rw [List.length_map, G.room q hq] at hr
      rw [show (1 : Nat) = 0 + 1 from rfl, Tm.run_cons, Nat.zero_add, hr, List.length_cons]
      omega
theorem bec_vars {n : Nat} {S : Nat → Int} {K : Nat → List Nat} {Z : Nat → List Int} (G : Gph n S K Z) {C : Nat → Nat} : ∀ (f k : Nat), k < n → ∀ s ∈ bec n S K C f (C k), -8 ≤ s ∧ s < 6 := by
  intro f
  induction f with
  | zero => intro k _ s h; simp [bec] at h
  | succ f ih =>
    intro k hk s h
    cases hs : sym n S C (C k) with
    | none =>
      rw [bec_none hs] at h
      obtain ⟨j, hj, e1, e2⟩ := G.best (C := C) hk
      simp only [List.mem_cons, List.not_mem_nil, or_false] at h
      rw [h, e2]
      exact G.known j hj
    | some q =>
      obtain ⟨hq, e1, e2⟩ := sym_some hs
      rw [bec_some hs] at h
      rcases List.mem_cons.1 h with e | h
      · rw [e]; exact G.known q hq
      · obtain ⟨l, hl, hsl⟩ := List.mem_flatten.1 h
        obtain ⟨i, hi, rfl⟩ := List.mem_map.1 hl
        exact ih i (G.kids q hq i hi) s hsl
theorem bec_most {n : Nat} {S : Nat → Int} {K : Nat → List Nat} {Z : Nat → List Int} (G : Gph n S K Z) {C : Nat → Nat} {θ : Sb} (R : Resp n Z C θ) : ∀ (f k : Nat), k < n → rnd n S K C f (C k) = false → App θ (Z k) = App θ (bec n S K C f (C k)) := by
  intro f
  induction f with
  | zero => intro k _ h; simp [rnd] at h
  | succ f ih =>
    intro k hk h
    cases hs : sym n S C (C k) with
    | none =>
      obtain ⟨j, hj, e1, e2⟩ := G.best (C := C) hk
      have := sym_none hs j hj e1
      rw [bec_none hs, e2, R k j hk hj e1.symm, (G.var hj this).2]
    | some q =>
      obtain ⟨hq, e1, e2⟩ := sym_some hs
      rw [bec_some hs, R k q hk hq e1.symm, G.app θ hq e2, App_cons, if_neg (by omega), App_flatten, List.map_map]
      show S q :: _ = S q :: _
      congr 2
      refine List.map_congr_left fun i hi => ?_
      exact ih i (G.kids q hq i hi) (rnd_kid hs h i hi)

/-- Where something makes all the same nothing stands in itself. -/
theorem rnd_no {n : Nat} {S : Nat → Int} {K : Nat → List Nat} {Z : Nat → List Int} (G : Gph n S K Z) {C : Nat → Nat} (hC : ∀ k, k < n → C k < n) {θ : Sb} (R : Resp n Z C θ) {k : Nat} (hk : k < n) : rnd n S K C (n + 1) (C k) = false := by
  let ln : Nat → Nat := fun c => match (List.range n).find? fun j => decide (C j = c) with
    | some j => (App θ (Z j)).length
    | none => 0
  have hln : ∀ j, j < n → ln (C j) = (App θ (Z j)).length := fun j hj => by
    show (match (List.range n).find? fun i => decide (C i = C j) with
      | some j => (App θ (Z j)).length
      | none => 0) = _
    cases hf : (List.range n).find? fun i => decide (C i = C j) with
    | none => exact absurd (List.find?_eq_none.1 hf j (List.mem_range.2 hj)) (by simp)
    | some i =>
      have h1 := List.find?_some hf
      have h2 := List.mem_range.1 (List.mem_of_find?_eq_some hf)
      simp only [decide_eq_true_eq] at h1
      show (App θ (Z i)).length = _
      rw [R i j h2 hj h1]
  let g : Nat → Nat := fun c => ((List.range n).filter fun d => ((List.range n).any fun k => C k == d) && decide (ln d < ln c)).length
  have hle : ∀ f k, k < n → rnd n S K C f (C k) = true → f ≤ g (C k) := by
    intro f
    induction f with
    | zero => intro k _ _; omega
    | succ f ih =>
      intro k hk h
      cases hs : sym n S C (C k) with
      | none => rw [rnd_none hs] at h; cases h
      | some q =>
        obtain ⟨hq, e1, e2⟩ := sym_some hs
        rw [rnd_some hs] at h
        obtain ⟨i, hi, h⟩ := List.any_eq_true.1 h
        have hin := G.kids q hq i hi
        have h1 := ih i hin h
        have hlt : ln (C i) < ln (C k) := by
          rw [hln i hin, hln k hk, R k q hk hq e1.symm, G.app θ hq e2, List.length_cons]
          have := mem_len (List.mem_map_of_mem (f := fun i => App θ (Z i)) hi)
          omega
        have h2 : g (C i) < g (C k) := by
          refine Wb.filter_lt _ _ _ (fun d _ h => ?_) (C i) (List.mem_range.2 (hC i hin)) ?_ ?_
          · simp only [Bool.and_eq_true, decide_eq_true_eq] at h ⊢
            exact ⟨h.1, by omega⟩
          · simp
          · simp only [Bool.and_eq_true, decide_eq_true_eq]
            exact ⟨used_iff.2 ⟨i, hin, rfl⟩, hlt⟩
        omega
  rw [Bool.eq_false_iff]
  intro h
  have h1 := hle _ k hk h
  have h2 : g (C k) ≤ n := by
    refine Nat.le_trans (List.length_filter_le _ _) ?_
    simp
  omega

/-- What variables become by the classes. -/
def sig (n : Nat) (S : Nat → Int) (K : Nat → List Nat) (C : Nat → Nat) : Sb := fun v => match (List.range n).find? fun k => decide (S k = v) with
  | some k => bec n S K C (n + 1) (C k)
  | none => [v]
theorem sig_at {n : Nat} {S : Nat → Int} {K : Nat → List Nat} {Z : Nat → List Int} (G : Gph n S K Z) (C : Nat → Nat) {k : Nat} (hk : k < n) (hs : S k < 0) : sig n S K C (S k) = bec n S K C (n + 1) (C k) := by
  unfold sig
  cases hf : (List.range n).find? fun i => decide (S i = S k) with
  | none => exact absurd (List.find?_eq_none.1 hf k (List.mem_range.2 hk)) (by simp)
  | some i =>
    have h1 := List.find?_some hf
    have h2 := List.mem_range.1 (List.mem_of_find?_eq_some hf)
    simp only [decide_eq_true_eq] at h1
    have := G.vars i k h2 hk (by omega) h1
    subst this
    rfl
theorem sig_no {n : Nat} {S : Nat → Int} {K : Nat → List Nat} {C : Nat → Nat} {v : Int} (h : ∀ k, k < n → S k ≠ v) : sig n S K C v = [v] := by
  unfold sig
  rw [List.find?_eq_none.2 fun k hk => by simpa using h k (List.mem_range.1 hk)]
theorem sig_or {n : Nat} {S : Nat → Int} {K : Nat → List Nat} {Z : Nat → List Int} (G : Gph n S K Z) (C : Nat → Nat) (v : Int) (hv : v < 0) : (∃ k, k < n ∧ S k = v ∧ sig n S K C v = bec n S K C (n + 1) (C k)) ∨ ((∀ k, k < n → S k ≠ v) ∧ sig n S K C v = [v]) := by
  by_cases h : ∃ k, k < n ∧ S k = v
  · obtain ⟨k, hk, rfl⟩ := h
    exact .inl ⟨k, hk, rfl, sig_at G C hk hv⟩
  · have h' : ∀ k, k < n → S k ≠ v := fun k hk e => h ⟨k, hk, e⟩
    exact .inr ⟨h', sig_no h'⟩
/-- Each node becomes what its class does. -/
theorem sig_app {n : Nat} {S : Nat → Int} {K : Nat → List Nat} {Z : Nat → List Int} (G : Gph n S K Z) {C : Nat → Nat} (hS : ∀ a b, a < n → b < n → Shut S K C a b) (hr : ∀ k, k < n → rnd n S K C (n + 1) (C k) = false) : ∀ (m k : Nat), (Z k).length ≤ m → k < n → App (sig n S K C) (Z k) = bec n S K C (n + 1) (C k) := by
  intro m
  induction m with
  | zero => intro k h hk; rw [G.sign k hk, List.length_cons] at h; omega
  | succ m ih =>
    intro k h hk
    by_cases hs : S k < 0
    · rw [(G.var hk hs).2, App_cons, if_pos hs, sig_at G C hk hs, Wb.App_nil, List.append_nil]
    · cases hy : sym n S C (C k) with
      | none => exact absurd (sym_none hy k hk rfl) hs
      | some q =>
        obtain ⟨hq, e1, e2⟩ := sym_some hy
        obtain ⟨e3, e4⟩ := hS k q hk hq e1.symm (by omega) e2
        rw [bec_some hy, G.app _ hk (by omega), e3]
        congr 2
        refine List.ext_getElem (by rw [List.length_map, List.length_map, G.room k hk, G.room q hq, e3]) fun i h1 h2 => ?_
        rw [List.length_map] at h1 h2
        rw [List.getElem_map, List.getElem_map]
        have hi1 := List.getElem_mem h1
        have hi2 := List.getElem_mem h2
        rw [ih _ (by have := G.kid_len hk hi1; omega) (G.kids k hk _ hi1)]
        have e5 := e4 i (by rw [← G.room k hk]; exact h1)
        rw [List.getElem?_eq_getElem h1, List.getElem?_eq_getElem h2] at e5
        simp only [Option.getD_some] at e5
        rw [e5]
        exact bec_more n _ (rnd_kid hy (hr k hk) _ hi2)
/-- WHAT IS SO FOUND. -/
theorem sig_mgu {n : Nat} {S : Nat → Int} {K : Nat → List Nat} {Z : Nat → List Int} (G : Gph n S K Z) {C : Nat → Nat} (hS : ∀ a b, a < n → b < n → Shut S K C a b) (hr : ∀ k, k < n → rnd n S K C (n + 1) (C k) = false) {ps : PairL}
    (hsound : ∀ θ, TermSb θ → Same ps ps.length θ → Resp n Z C θ) (htied : ∀ j, j < ps.length → ∃ a b, a < n ∧ b < n ∧ Z a = (ps[j]?.getD ([], [])).1 ∧ Z b = (ps[j]?.getD ([], [])).2 ∧ C a = C b) : Wb.Mgu ps (sig n S K C) := by
  refine ⟨fun s hs => ?_, fun v h1 h2 s hs => ?_, fun j hj => ?_, fun θ hθ H v h1 h2 => ?_, fun v u h1 h2 e hu => ?_⟩
  · rcases sig_or (K := K) G C s hs with ⟨k, hk, rfl, e⟩ | ⟨_, e⟩
    · rw [e]; exact bec_run G _ k hk (hr k hk)
    · rw [e, show (1 : Nat) = 0 + 1 from rfl, Tm.run_cons, Wb.room_var hs, Tm.run_zero]; rfl
  · rcases sig_or (K := K) G C v h2 with ⟨k, hk, rfl, e⟩ | ⟨_, e⟩
    · rw [e] at hs; exact bec_vars G _ k hk s hs
    · rw [e] at hs
      simp only [List.mem_cons, List.not_mem_nil, or_false] at hs
      omega
  · obtain ⟨a, b, ha, hb, e1, e2, e3⟩ := htied j hj
    rw [← e1, ← e2, sig_app G hS hr _ a (Nat.le_refl _) ha, sig_app G hS hr _ b (Nat.le_refl _) hb, e3]
  · rcases sig_or (K := K) G C v h2 with ⟨k, hk, rfl, e⟩ | ⟨_, e⟩
    · rw [e, ← bec_most G (hsound θ hθ H) _ k hk (hr k hk), (G.var hk h2).2, App_cons, if_pos h2, Wb.App_nil, List.append_nil]
    · rw [e, App_cons, if_pos h2, Wb.App_nil, List.append_nil]
  · rcases sig_or (K := K) G C v h2 with ⟨k, hk, rfl, e2⟩ | ⟨_, e2⟩
    · rw [e2] at e
      cases hy : sym n S C (C k) with
      | none =>
        rw [bec_none hy] at e
        have := bst_ge (S := S) (C := C) n k hk rfl
        simp only [List.cons.injEq, and_true] at e
        omega
      | some q =>
        obtain ⟨hq, e1, e3⟩ := sym_some hy
        rw [bec_some hy] at e
        have := (List.cons.inj e).1
        omega
    · rw [e2] at e
      simp only [List.cons.injEq, and_true] at e
      omega
end Mt

end Go.Proofs.Ytloealnfbpegnab

namespace Go.Proofs.Ytloealnfbpegnab
open Go.Proofs Go.RowKit Go.Shelf Go.Maps

/-- Node j is the one that is found for the tree at p, whose sign is S j. -/
def Fnd (n : Nat) (N : Nat → Nat) (S : Nat → Int) (p j : Nat) : Prop := j < n ∧ (S j < 0 → ∀ k, k < j → S k ≠ S j) ∧ (0 ≤ S j → N j = p ∧ ∀ k, k < j → N k ≠ p)
/-- Block x holds ties: nodes N, classes C; the nodes' signs S, parts P, and the nodes K that are found for these. -/
structure Ties (W : World) (x n : Nat) (aN : Option Addr) (cN : Nat) (aC : Option Addr) (cC : Nat) (N : Nat → Nat) (C : Nat → Nat) (S : Nat → Int) (K : Nat → List Nat) (P : Nat → Nat → Nat) : Prop where
  c0 : W.cell? ⟨x, 0, none⟩ = some (.slice aN n cN)
  c1 : W.cell? ⟨x, 1, none⟩ = some (.slice aC n cC)
  nd : ∀ k, k < n → ∃ b off, aN = some ⟨b, off, none⟩ ∧ W.cell? ⟨b, off + k, none⟩ = some (ptr (N k))
  cl : ∀ k, k < n → ∃ b off, aC = some ⟨b, off, none⟩ ∧ W.cell? ⟨b, off + k, none⟩ = some (.int .i64 (C k : Int))
  tr : ∀ k, k < n → ∃ a c, Node W (N k) (S k) (.slice a (Tm.room (S k)) c) ∧ ∀ i, i < Tm.room (S k) → ∃ b off, a = some ⟨b, off, none⟩ ∧ W.cell? ⟨b, off + i, none⟩ = some (ptr (P k i))
  ps : ∀ k i, k < n → i < Tm.room (S k) → ∃ v, Node W (P k i) (S ((K k)[i]?.getD 0)) v
  fd : ∀ k i, k < n → i < Tm.room (S k) → Fnd n N S (P k i) ((K k)[i]?.getD 0)
  le : n ≤ 5000
theorem Ties.drewN {W : World} {x n : Nat} {aN : Option Addr} {cN : Nat} {aC : Option Addr} {cC : Nat} {N : Nat → Nat} {C : Nat → Nat} {S : Nat → Int} {K : Nat → List Nat} {P : Nat → Nat → Nat} (h : Ties W x n aN cN aC cC N C S K P) (d : Nat) : Ties (W.drewN d) x n aN cN aC cC N C S K P :=
  ⟨h.c0, h.c1, h.nd, h.cl, h.tr, h.ps, h.fd, h.le⟩

theorem Try.infoTree : ∃ j, Try.prog.info? 83 = some j ∧ j.size ≠ 0 := by
  have h : (Try.prog.info? 83).map (fun i => i.size) = some 2 := by kernel_rfl
  cases hi : Try.prog.info? 83 with
  | none => rw [hi] at h; cases h
  | some j =>
    rw [hi] at h
    simp only [Option.map_some, Option.some.injEq] at h
    exact ⟨j, rfl, by omega⟩

set_option maxRecDepth 100000 in
set_option maxHeartbeats 1000000 in
/-- (*ties).node of a tree that is there. -/
theorem node_fd {x n : Nat} {aN : Option Addr} {cN : Nat} {N : Nat → Nat} {S : Nat → Int} (w : World) (p j : Nat) (hc0 : w.cell? ⟨x, 0, none⟩ = some (.slice aN n cN)) (hnd : ∀ k, k < n → ∃ b off, aN = some ⟨b, off, none⟩ ∧ w.cell? ⟨b, off + k, none⟩ = some (ptr (N k))) (hsg : ∀ k, k < n → ∃ v, Node w (N k) (S k) v) (hn : n ≤ 5000)
    {vp : Value} (hpN : Node w p (S j) vp) (F : Fnd n N S p j) :
    Calls Try.prog 54 #[ptr x, ptr p] w fun e w' => e = .returned (.int .i64 (j : Int)) ∧ ∃ m, w' = w.drewN m := by
  obtain ⟨hj, F1, F2⟩ := F
  obtain ⟨ti, hti, htz⟩ := Try.infoTree
  have hn' : (n : Int) ≤ 5000 := by omega
  have Hnd := hid hnd
  have hp := hpN.cell0
  have HpN := hid hpN
  clear hpN
  have Hsg := hid hsg
  clear hnd hsg
  by_cases hs : S j < 0
  · have F1' := hid (F1 hs)
    clear F1 F2
    have Hd : Hid (S j = S j) := rfl
    generalize hsd : S j = s at *
    have HS := hid hsd
    clear hsd Hd
    go_enter Try.func54, Try.ntmps54
    go_wp2
    go_loopw [5] (fun i wr => ∃ k : Nat, k ≤ j ∧ i = .int .i64 (k : Int) ∧ ∃ d, wr = w.drewN d) (fun i _ => j - (intOf i).toNat)
    case atStart => exact ⟨0, Nat.zero_le _, rfl, 0, rfl⟩
    case round =>
      obtain ⟨k, hk, rfl, d, rfl⟩ := hrel
      have hkn : (k : Int) < (n : Int) := by omega
      obtain ⟨b, off, rfl, hck⟩ := Hnd.out k (by omega)
      obtain ⟨vk, hNk⟩ := Hsg.out k (by omega)
      have hsk := hNk.cell0
      clear hNk
      by_cases hlt : k < j
      · have hne : (S k == s) = false := by simpa using F1'.out k hlt
        generalize S k = sk at *
        go_wp2
        go_quiet (fail)
        go_wp2
        go_roundw
        case rel => exact ⟨k + 1, by omega, by go_num, _, rfl⟩
        case measure => simp [intOf]; omega
      · obtain rfl : k = j := by omega
        rw [HS.out] at hsk
        go_wp2
        go_quiet (fail)
        go_wp2
        go_ret
        exact ⟨rfl, _, World.drewN_drewN _ _ _⟩
  · obtain ⟨F3, F4⟩ := F2 (by omega)
    have F4' := hid F4
    have F3' := hid F3
    have hs0 : decide (S j < 0) = false := by simpa using hs
    clear F1 F2 F3 F4 hs
    generalize S j = s at *
    have h0n : (0 : Int) < (n : Int) := by omega
    go_enter Try.func54, Try.ntmps54
    go_wp2
    refine wp_loop_rounds 1 ?_
    rw [rounds_succ]
    go_wp2
    go_loopw [6] (fun i wr => ∃ k : Nat, k ≤ j ∧ i = .int .i64 (k : Int) ∧ ∃ d, wr = w.drewN d) (fun i _ => j - (intOf i).toNat)
    case atStart => exact ⟨0, Nat.zero_le _, rfl, 0, rfl⟩
    case round =>
      obtain ⟨k, hk, rfl, d, rfl⟩ := hrel
      have hkn : (k : Int) < (n : Int) := by omega
      obtain ⟨b, off, rfl, hck⟩ := Hnd.out k (by omega)
      by_cases hlt : k < j
      · obtain ⟨vk, hNk⟩ := Hsg.out k (by omega)
        have hrun := run_eql_ptr_other (P := Try.prog) (w.drewN d) (a := ⟨N k, 0, none⟩) (b := ⟨p, 0, none⟩) Try.underlying62 hti htz (fun e => F4'.out k hlt (by cases e; rfl)) hNk HpN.out
        clear hNk
        generalize N k = q at *
        go_wp2
        go_roundw
        case rel => exact ⟨k + 1, by omega, by go_num, _, rfl⟩
        case measure => simp [intOf]; omega
      · obtain rfl : k = j := by omega
        rw [F3'.out] at hck
        have hrun := run_eql_ptr_same (P := Try.prog) (w.drewN d) ⟨p, 0, none⟩ Try.underlying62 hti
        go_wp2
        go_ret
        exact ⟨rfl, _, rfl⟩

namespace Mt
theorem sym_of {n : Nat} {S : Nat → Int} {C : Nat → Nat} {c k : Nat} (hk : k < n) (h1 : C k = c) (h2 : 0 ≤ S k) (h : ∀ j, j < k → ¬ (C j = c ∧ 0 ≤ S j)) : sym n S C c = some k := by
  unfold sym
  rw [List.find?_range_eq_some]
  refine ⟨by simp [h1, h2], List.mem_range.2 hk, fun j hj => ?_⟩
  have := h j hj
  simp only [Bool.not_eq_true', Bool.and_eq_false_iff, decide_eq_false_iff_not]
  by_cases e : C j = c
  · exact .inr fun h3 => this ⟨e, h3⟩
  · exact .inl e
theorem sym_not {n : Nat} {S : Nat → Int} {C : Nat → Nat} {c : Nat} (h : ∀ j, j < n → ¬ (C j = c ∧ 0 ≤ S j)) : sym n S C c = none := by
  unfold sym
  rw [List.find?_eq_none]
  intro j hj
  have := h j (List.mem_range.1 hj)
  simpa using this
/-- As (*ties).symbol tells it. -/
def symI (n : Nat) (S : Nat → Int) (C : Nat → Nat) (c : Nat) : Int := match sym n S C c with
  | some k => (k : Int)
  | none => -1
end Mt

set_option maxRecDepth 100000 in
set_option maxHeartbeats 1000000 in
/-- (*ties).symbol. -/
theorem symbol_any {x n : Nat} {aN : Option Addr} {cN : Nat} {aC : Option Addr} {cC : Nat} {N : Nat → Nat} {C : Nat → Nat} {S : Nat → Int} {K : Nat → List Nat} {P : Nat → Nat → Nat} (w : World) (H : Ties w x n aN cN aC cC N C S K P) (c : Nat) :
    Calls Try.prog 68 #[ptr x, .int .i64 (c : Int)] w fun e w' => e = .returned (.int .i64 (Mt.symI n S C c)) ∧ ∃ m, w' = w.drewN m := by
  have hn := H.le
  have hn' : (n : Int) ≤ 5000 := by omega
  have hc0 := H.c0
  have hc1 := H.c1
  have HH := hid H
  clear H
  have Hs := hid (fun k (hk : k < n) h1 h2 h => (by unfold Mt.symI; rw [Mt.sym_of (S := S) (C := C) (c := c) hk h1 h2 h] : Mt.symI n S C c = (k : Int)))
  have Hn := hid (fun h => (by unfold Mt.symI; rw [Mt.sym_not (n := n) (S := S) (C := C) (c := c) h] : Mt.symI n S C c = -1))
  generalize Mt.symI n S C c = r at *
  go_enter Try.func68, Try.ntmps68
  go_wp2
  go_loopw [5] (fun i wr => ∃ k : Nat, k ≤ n ∧ i = .int .i64 (k : Int) ∧ Hid (∀ j, j < k → ¬ (C j = c ∧ 0 ≤ S j)) ∧ ∃ d, wr = w.drewN d) (fun i _ => n - (intOf i).toNat)
  case atStart => exact ⟨0, Nat.zero_le _, rfl, fun j hj => by omega, 0, rfl⟩
  case round =>
    obtain ⟨k, hk, rfl, hno, d, rfl⟩ := hrel
    by_cases hlt : k < n
    · have hkn : (k : Int) < (n : Int) := by omega
      obtain ⟨b, off, rfl, hck⟩ := HH.out.cl k hlt
      by_cases hC : C k = c
      · obtain ⟨b', off', rfl, hnk⟩ := HH.out.nd k hlt
        obtain ⟨a1, c1, hNk, _⟩ := HH.out.tr k hlt
        have hsk := hNk.cell0
        clear hNk
        have HC := hid hC
        have heq : ((C k : Int) == (c : Int)) = true := by rw [hC]; simp
        clear hC
        by_cases hs : 0 ≤ S k
        · have hr := Hs.out k hlt HC.out hs hno.out
          have Hr := hid hr
          clear hr
          generalize S k = s at *
          generalize C k = ck at *
          generalize N k = q at *
          go_wp2
          go_ret
          exact ⟨by rw [Hr.out]; rfl, _, rfl⟩
        · have hs' : decide (0 ≤ S k) = false := by simpa using hs
          have Hno' : Hid (∀ j, j < k + 1 → ¬ (C j = c ∧ 0 ≤ S j)) := fun j hj h => by
            by_cases e : j = k
            · subst e; exact hs h.2
            · exact hno.out j (by omega) h
          clear hs
          generalize S k = s at *
          generalize C k = ck at *
          generalize N k = q at *
          go_wp2
          go_roundw
          case rel => exact ⟨k + 1, by omega, by go_num, Hno', _, rfl⟩
          case measure => simp [intOf]; omega
      · have hne : ((C k : Int) == (c : Int)) = false := by simp; omega
        have Hno' : Hid (∀ j, j < k + 1 → ¬ (C j = c ∧ 0 ≤ S j)) := fun j hj h => by
            by_cases e : j = k
            · subst e; exact hC h.1
            · exact hno.out j (by omega) h
        clear hC
        generalize C k = ck at *
        go_wp2
        go_roundw
        case rel => exact ⟨k + 1, by omega, by go_num, Hno', _, rfl⟩
        case measure => simp [intOf]; omega
    · obtain rfl : k = n := by omega
      have Hr := hid (Hn.out hno.out)
      go_wp2
      go_ret
      exact ⟨by rw [Hr.out]; rfl, _, rfl⟩

end Go.Proofs.Ytloealnfbpegnab

namespace Go.Proofs.Ytloealnfbpegnab
open Go.Proofs Go.RowKit Go.Shelf Go.Maps

theorem mt_any_snoc (l : List Nat) (f : Nat → Bool) (i : Nat) (hi : i < l.length) (h : (l.take i).any f = false) (h2 : f (l[i]?.getD 0) = false) : (l.take (i + 1)).any f = false := by
  rw [List.take_succ_eq_append_getElem hi, List.any_append, h]
  rw [List.getElem?_eq_getElem hi] at h2
  simpa using h2
theorem mt_any_hit (l : List Nat) (f : Nat → Bool) (i : Nat) (hi : i < l.length) (h2 : f (l[i]?.getD 0) = true) : l.any f = true := by
  rw [List.getElem?_eq_getElem hi] at h2
  exact List.any_eq_true.2 ⟨_, List.getElem_mem hi, h2⟩

set_option maxRecDepth 100000 in
set_option maxHeartbeats 1000000 in
theorem round_step {x n : Nat} {aN : Option Addr} {cN : Nat} {aC : Option Addr} {cC : Nat} {N : Nat → Nat} {C : Nat → Nat} {S : Nat → Int} {K : Nat → List Nat} {P : Nat → Nat → Nat} (hroom : ∀ k, k < n → (K k).length = Tm.room (S k)) (w : World) (H : Ties w x n aN cN aC cC N C S K P) (f deep c : Nat) (hf : f + 1 + deep = n + 1)
    (ih : ∀ (c' d : Nat), Calls Try.prog 57 #[ptr x, .int .i64 (c' : Int), .int .i64 ((deep : Int) + 1)] (w.drewN d) fun e w' => e = .returned (.bool (Mt.rnd n S K C f c')) ∧ ∃ m, w' = (w.drewN d).drewN m) :
    Calls Try.prog 57 #[ptr x, .int .i64 (c : Int), .int .i64 (deep : Int)] w fun e w' => e = .returned (.bool (Mt.rnd n S K C (f + 1) c)) ∧ ∃ m, w' = w.drewN m := by
  have hn := H.le
  have hn' : (n : Int) ≤ 5000 := by omega
  have hc0 := H.c0
  have hc1 := H.c1
  have hdn : (deep : Int) ≤ (n : Int) := by omega
  have hsy := symbol_any w H c
  have HH := hid H
  have IH := hid ih
  clear H ih
  cases hy : Mt.sym n S C c with
  | none =>
    have hr := hid (Mt.rnd_none (K := K) (f := f) hy)
    have hsi : Mt.symI n S C c = -1 := by unfold Mt.symI; rw [hy]
    rw [hsi] at hsy
    clear hsi hy
    generalize Mt.rnd n S K C (f + 1) c = r at *
    go_enter Try.func57, Try.ntmps57
    go_wp2_with (first
      | (go_at_call 68; refine hsy.mono ?_; clear hsy; rintro e w1 ⟨rfl, d, rfl⟩))
    go_ret
    exact ⟨by rw [hr.out]; rfl, _, rfl⟩
  | some k =>
    obtain ⟨hk, e1, e2⟩ := Mt.sym_some hy
    have hr := hid (Mt.rnd_some (K := K) (f := f) hy)
    have hsi : Mt.symI n S C c = (k : Int) := by unfold Mt.symI; rw [hy]
    rw [hsi] at hsy
    clear hsi hy e1 e2
    generalize Mt.rnd n S K C (f + 1) c = r at *
    have hkn : (k : Int) < (n : Int) := by omega
    obtain ⟨b', off', rfl, hnk⟩ := HH.out.nd k hk
    obtain ⟨a1, c1, hNk, hparts⟩ := HH.out.tr k hk
    have hp1 := hNk.cell1
    have Hp := hid hparts
    have hr2 := Tm.room_le (S k)
    have hrK := hid (hroom k hk)
    clear hNk hparts
    obtain ⟨bC, offC, rfl, _⟩ := HH.out.cl k hk
    have Hps := hid (fun i hi => HH.out.ps k i hk hi)
    have Hfd := hid (fun i hi => HH.out.fd k i hk hi)
    have Hnd := hid (fun d i hi => by
      obtain ⟨v, hv⟩ := HH.out.ps k i hk hi
      exact node_fd (x := x) (w.drewN d) (P k i) ((K k)[i]?.getD 0) HH.out.c0 HH.out.nd (fun k hk => by obtain ⟨a, c, h, _⟩ := HH.out.tr k hk; exact ⟨_, h⟩) HH.out.le hv (HH.out.fd k i hk hi))
    generalize hrm : Tm.room (S k) = rm at *
    clear hrm
    have hrm2 : (rm : Int) ≤ 2 := by omega
    generalize hKk : K k = Kk at *
    clear hKk
    go_enter Try.func57, Try.ntmps57
    go_wp2_with (first
      | (go_at_call 68; refine hsy.mono ?_; clear hsy; rintro e w1 ⟨rfl, d, rfl⟩))
    go_loopw [8] (fun i wr => ∃ j : Nat, j ≤ rm ∧ i = .int .i64 (j : Int) ∧ Hid ((Kk.take j).any (fun i => Mt.rnd n S K C f (C i)) = false) ∧ Hid (∃ d, wr = w.drewN d)) (fun i _ => rm - (intOf i).toNat)
    case atStart => exact ⟨0, Nat.zero_le _, rfl, by simp [Hid], _, rfl⟩
    case round =>
      obtain ⟨j, hj, rfl, hno, hwr⟩ := hrel
      have h0r : wr.cell? ⟨x, 0, none⟩ = some (.slice (some ⟨b', off', none⟩) n cN) := by obtain ⟨d, e⟩ := hwr; rw [e]; exact hc0
      have h1r : wr.cell? ⟨x, 1, none⟩ = some (.slice (some ⟨bC, offC, none⟩) n cC) := by obtain ⟨d, e⟩ := hwr; rw [e]; exact hc1
      have hnr : wr.cell? ⟨b', off' + k, none⟩ = some (ptr (N k)) := by obtain ⟨d, e⟩ := hwr; rw [e]; exact hnk
      have hpr : wr.cell? ⟨N k, 1, none⟩ = some (.slice a1 rm c1) := by obtain ⟨d, e⟩ := hwr; rw [e]; exact hp1
      by_cases hlt : j < rm
      · have hjr : (j : Int) < (rm : Int) := by omega
        obtain ⟨b, off, rfl, hcj⟩ := Hp.out j hlt
        obtain ⟨hin, _⟩ := Hfd.out j hlt
        obtain ⟨_, _, e, hcl⟩ := HH.out.cl _ hin
        cases e
        have hin' : ((Kk[j]?.getD 0 : Nat) : Int) < (n : Int) := by omega
        have Hhit := hid (mt_any_hit Kk (fun i => Mt.rnd n S K C f (C i)) j (by rw [hrK.out]; exact hlt))
        have Hmiss := hid (mt_any_snoc Kk (fun i => Mt.rnd n S K C f (C i)) j (by rw [hrK.out]; exact hlt) hno.out)
        have hcjr : wr.cell? ⟨b, off + j, none⟩ = some (ptr (P k j)) := by obtain ⟨d, e⟩ := hwr; rw [e]; exact hcj
        have hclr : wr.cell? ⟨bC, offC + (Kk[j]?.getD 0), none⟩ = some (.int .i64 (C (Kk[j]?.getD 0) : Int)) := by obtain ⟨d, e⟩ := hwr; rw [e]; exact hcl
        have hnode : Hid (∀ m, Calls Try.prog 54 #[ptr x, ptr (P k j)] (wr.drewN m) fun e w' => e = .returned (.int .i64 ((Kk[j]?.getD 0 : Nat) : Int)) ∧ ∃ m', w' = (wr.drewN m).drewN m') := fun m => by obtain ⟨d, e⟩ := hwr; have := Hnd.out (d + m) j hlt; rw [← World.drewN_drewN, ← e] at this; exact this
        generalize Kk[j]?.getD 0 = q at *
        have hrec : Hid (∀ m, Calls Try.prog 57 #[ptr x, .int .i64 (C q : Int), .int .i64 ((deep : Int) + 1)] (wr.drewN m) fun e w' => e = .returned (.bool (Mt.rnd n S K C f (C q))) ∧ ∃ m', w' = (wr.drewN m).drewN m') := fun m => by obtain ⟨d, e⟩ := hwr; have := IH.out (C q) (d + m); rw [← World.drewN_drewN, ← e] at this; exact this
        have HQ : Hid (∀ m, ∃ d, wr.drewN m = w.drewN d) := fun m => by obtain ⟨d, e⟩ := hwr; exact ⟨_, by rw [e]; exact World.drewN_drewN _ _ _⟩
        clear hc0 hc1 hnk hp1 hcj hcl
        cases hq : Mt.rnd n S K C f (C q) with
        | true =>
          rw [hq] at hrec
          have hh := hid (Hhit.out hq)
          clear Hhit Hmiss hq
          generalize C q = cq at *
          generalize P k j = pj at *
          go_wp2
          go_quiet ((first
            | (go_at_call 54; exact Calls.quiet_of (hnode.out _))
            | (go_at_call 57; exact Calls.quiet_of (hrec.out _))))
          go_wp2
          go_ret
          exact ⟨by rw [hr.out, hh.out]; rfl, HQ.out _⟩
        | false =>
          rw [hq] at hrec
          have hh := hid (Hmiss.out hq)
          clear Hhit Hmiss hq
          generalize C q = cq at *
          generalize P k j = pj at *
          go_wp2
          go_quiet ((first
            | (go_at_call 54; exact Calls.quiet_of (hnode.out _))
            | (go_at_call 57; exact Calls.quiet_of (hrec.out _))))
          go_wp2
          go_roundw
          case rel => exact ⟨j + 1, by omega, by go_num, hh, HQ.out _⟩
          case measure => simp [intOf]; omega
      · obtain rfl : j = rm := by omega
        have hall := hid (show (Kk.any fun i => Mt.rnd n S K C f (C i)) = false by have := hno.out; rw [← hrK.out, List.take_length] at this; exact this)
        go_wp2
        go_ret
        exact ⟨by rw [hr.out, hall.out]; rfl, hwr⟩

set_option maxRecDepth 100000 in
set_option maxHeartbeats 1000000 in
/-- (*ties).round. -/
theorem round_any {x n : Nat} {aN : Option Addr} {cN : Nat} {aC : Option Addr} {cC : Nat} {N : Nat → Nat} {C : Nat → Nat} {S : Nat → Int} {K : Nat → List Nat} {P : Nat → Nat → Nat} (hroom : ∀ k, k < n → (K k).length = Tm.room (S k)) : ∀ (f deep c : Nat) (w : World), Ties w x n aN cN aC cC N C S K P → f + deep = n + 1 →
    Calls Try.prog 57 #[ptr x, .int .i64 (c : Int), .int .i64 (deep : Int)] w fun e w' => e = .returned (.bool (Mt.rnd n S K C f c)) ∧ ∃ m, w' = w.drewN m := by
  intro f
  induction f with
  | zero =>
    intro deep c w H hf
    have hn := H.le
    have hc0 := H.c0
    have hd : (n : Int) < (deep : Int) := by omega
    clear H
    rw [show Mt.rnd n S K C 0 c = true from rfl]
    go_enter Try.func57, Try.ntmps57
    go_wp2
    go_ret
    exact ⟨rfl, 0, rfl⟩
  | succ f ih =>
    intro deep c w H hf
    refine round_step hroom w H f deep c hf fun c' d => ?_
    have := ih (deep + 1) c' (w.drewN d) (H.drewN d) (by omega)
    rw [show ((deep + 1 : Nat) : Int) = (deep : Int) + 1 from by omega] at this
    exact this

end Go.Proofs.Ytloealnfbpegnab
