/-
  hasplaw.unifyBegun.
-/
import Derived.Test.YtbelnlemjcoifaaBum8
namespace Go.Proofs.Ytbelnlemjcoifaa
open Go.Proofs Go.RowKit Go.Shelf Go.Maps

/-- Terms that open the same list are the same. -/
theorem Wb.split {x y r s : List Int} (hx : Tm.run x 1 = x.length) (hy : Tm.run y 1 = y.length) (h : x ++ r = y ++ s) : x = y ∧ r = s := by
  have h1 := Tm.run_app x r 1 (by omega)
  have h2 := Tm.run_app y s 1 (by omega)
  rw [h, h2, hx, hy] at h1
  exact List.append_inj h h1.symm
theorem Wb.var8 {v : Int} (h1 : -8 ≤ v) (h2 : v < 0) : v = -1 ∨ v = -2 ∨ v = -3 ∨ v = -4 ∨ v = -5 ∨ v = -6 ∨ v = -7 ∨ v = -8 := by omega
theorem Wb.App1 (θ : Wb.Sb) {v : Int} (h : v < 0) : Wb.App θ [v] = θ v := by rw [Wb.App_cons, if_pos h, Wb.App_nil, List.append_nil]

def Tm.mv1 : List (List Int) := [[2, -2], [-2], [2, -2], [-4], [-5], [-6], [-7], [-8]]
def Tm.mv3 : List (List Int) := [[-1], [-2], [-2], [-4], [-2], [-6], [-7], [-8]]
theorem Tm.mgu1 : Wb.Mgu [([4, -1, 2, -2], [4, -3, -1])] (Tm.ofL Tm.mv1) := by
  refine ⟨Tm.ofL_term (by decide +kernel), fun v h1 h2 => ?_, fun j hj => ?_, fun θ hθ H v h1 h2 => ?_, fun v u h1 h2 e hu => ?_⟩
  · rcases Wb.var8 h1 h2 with rfl | rfl | rfl | rfl | rfl | rfl | rfl | rfl <;> decide +kernel
  · obtain rfl : j = 0 := by simp at hj; omega
    decide +kernel
  · have h := H 0 (by simp)
    simp only [List.getElem?_cons_zero, Option.getD_some, Wb.App_cons, Wb.App_nil, List.append_nil] at h
    simp only [show ¬ ((4 : Int) < 0) from by omega, show ¬ ((2 : Int) < 0) from by omega, show ((-1 : Int) < 0) from by omega, show ((-2 : Int) < 0) from by omega, show ((-3 : Int) < 0) from by omega, if_true, if_false, List.singleton_append, List.cons.injEq, true_and] at h
    obtain ⟨e1, e2⟩ := Wb.split (hθ (-1) (by omega)) (hθ (-3) (by omega)) h
    have e3 : Wb.App θ [2, -2] = 2 :: θ (-2) := by rw [Wb.App_cons, if_neg (by omega), Wb.App1 θ (by omega)]; rfl
    rcases Wb.var8 h1 h2 with rfl | rfl | rfl | rfl | rfl | rfl | rfl | rfl
    · show _ = Wb.App θ [2, -2]
      rw [e3, e2]
    · exact (Wb.App1 θ (by omega)).symm
    · show _ = Wb.App θ [2, -2]
      rw [e3, e2, e1]
    all_goals exact (Wb.App1 θ (by omega)).symm
  · rcases Wb.var8 h1 h2 with rfl | rfl | rfl | rfl | rfl | rfl | rfl | rfl
    all_goals (simp [Tm.ofL, Tm.mv1] at e)
    all_goals omega
theorem Tm.mgu3 : Wb.Mgu [([-3], [-2]), ([-5], [-3])] (Tm.ofL Tm.mv3) := by
  refine ⟨Tm.ofL_term (by decide +kernel), fun v h1 h2 => ?_, fun j hj => ?_, fun θ hθ H v h1 h2 => ?_, fun v u h1 h2 e hu => ?_⟩
  · rcases Wb.var8 h1 h2 with rfl | rfl | rfl | rfl | rfl | rfl | rfl | rfl <;> decide +kernel
  · have : j = 0 ∨ j = 1 := by simp at hj; omega
    rcases this with rfl | rfl <;> decide +kernel
  · have h := H 0 (by simp)
    have h' := H 1 (by simp)
    simp only [List.getElem?_cons_zero, List.getElem?_cons_succ, Option.getD_some] at h h'
    rw [Wb.App1 θ (by omega), Wb.App1 θ (by omega)] at h h'
    rcases Wb.var8 h1 h2 with rfl | rfl | rfl | rfl | rfl | rfl | rfl | rfl
    · exact (Wb.App1 θ (by omega)).symm
    · exact (Wb.App1 θ (by omega)).symm
    · exact h.trans (Wb.App1 θ (by omega)).symm
    · exact (Wb.App1 θ (by omega)).symm
    · exact (h'.trans h).trans (Wb.App1 θ (by omega)).symm
    all_goals exact (Wb.App1 θ (by omega)).symm
  · rcases Wb.var8 h1 h2 with rfl | rfl | rfl | rfl | rfl | rfl | rfl | rfl
    all_goals (simp [Tm.ofL, Tm.mv3] at e)
    all_goals omega
theorem Tm.um1 : Tm.MeetSays [([4, -1, 2, -2], [4, -3, -1])] 0 true Tm.mv1 := by
  refine .inr (.inr (.inl ⟨by decide +kernel, _, Tm.mgu1, fun i hi => ?_, rfl, rfl, (Tm.sbL_ofL rfl).symm⟩))
  rw [Tm.ofL_at _ hi]
  have : ∀ i, i < 8 → ((Tm.mv1)[i]?.getD []).length ≤ 30 := by decide +kernel
  exact this i hi
theorem Tm.um2 : Tm.MeetSays [([-1], [2, -1])] 0 false [] := by
  refine .inr (.inl ⟨by decide +kernel, fun θ hθ H => ?_, rfl, rfl, rfl⟩)
  have h := H 0 (by simp)
  simp only [List.getElem?_cons_zero, Option.getD_some] at h
  rw [Wb.App1 θ (by omega), Wb.App_cons, if_neg (by omega), Wb.App1 θ (by omega)] at h
  have := congrArg List.length h
  simp at this
theorem Tm.um3 : Tm.MeetSays [([-3], [-2]), ([-5], [-3])] 0 true Tm.mv3 := by
  refine .inr (.inr (.inl ⟨by decide +kernel, _, Tm.mgu3, fun i hi => ?_, rfl, rfl, (Tm.sbL_ofL rfl).symm⟩))
  rw [Tm.ofL_at _ hi]
  have : ∀ i, i < 8 → ((Tm.mv3)[i]?.getD []).length ≤ 30 := by decide +kernel
  exact this i hi
theorem Tm.um4 : Tm.MeetSays [([9], [0])] 3 false [] := .inl ⟨by decide +kernel, by decide +kernel, rfl, rfl⟩

/-- Two literals meet. -/
theorem u_meet (p t : List Int) (np nt nv : Nat) (er : Int) (is : Bool) (val : List (List Int)) (w : World) (hp : np = p.length) (ht : nt = t.length) (hv : nv = val.length) (kp : p.length ≤ 1000) (kt : t.length ≤ 1000) (hS : Tm.MeetSays [(p, t)] er is val) :
    Calls Try.prog 41 #[.slice (some ⟨w.heap.size, 0, none⟩) np np, .slice (some ⟨w.heap.size + 1, 0, none⟩) nt nt] ((w.alloc (.cells (p.map (Value.int .i64)).toArray 3)).alloc (.cells (t.map (Value.int .i64)).toArray 3)) fun e w' => ∃ x, e = .returned (.tuple #[.slice x nv nv, .bool is, .int .i64 er]) ∧ Subs w'.heap.size w' x val ∧ Below w.heap.size w w' := by
  subst hp ht hv
  have hb := allocs_below [p, t] w
  have hi := allocs_ints [p, t] w
  have hs := allocs_size [p, t] w
  have i1 := hi 0 (by simp)
  have i2 := hi 1 (by simp)
  rw [show w.heap.size + [p, t].length = (allocs w [p, t]).heap.size from hs.symm] at i1 i2
  refine (Meet_any p t _ _ p.length t.length (allocs w [p, t]) i1 i2 (Nat.le_refl _) (by unfold maxLen; omega) (Nat.le_refl _) (by unfold maxLen; omega)).mono ?_
  rintro e w' ⟨hB, er', is', val', x, hS', rfl, hx⟩
  obtain ⟨rfl, rfl, rfl⟩ := hS.one hS'
  exact ⟨x, rfl, hx, hb.trans (hB.mono hb.size)⟩

theorem u_all (w : World) :
    Calls Try.prog 67 #[.slice (some ⟨w.heap.size + 1 + 1 + 1 + 1, 0, none⟩) 2 2] ((allocs w [[-3], [-2], [-5], [-3]]).alloc (.cells #[.slice (some ⟨w.heap.size, 0, none⟩) 1 1, .slice (some ⟨w.heap.size + 1, 0, none⟩) 1 1, .slice (some ⟨w.heap.size + 1 + 1, 0, none⟩) 1 1, .slice (some ⟨w.heap.size + 1 + 1 + 1, 0, none⟩) 1 1] 76)) fun e w' => ∃ x, e = .returned (.tuple #[.slice x 8 8, .bool true, .int .i64 0]) ∧ Subs w'.heap.size w' x Tm.mv3 ∧ Below w.heap.size w w' := by
  have hs := allocs_size [[-3], [-2], [-5], [-3]] w
  have hb := allocs_below [[-3], [-2], [-5], [-3]] w
  have hi := allocs_ints [[-3], [-2], [-5], [-3]] w
  have h4 : ([[-3], [-2], [-5], [-3]] : List (List Int)).length = 4 := rfl
  rw [h4] at hs hi
  obtain ⟨W4, hW⟩ : ∃ W4, allocs w [[-3], [-2], [-5], [-3]] = W4 := ⟨_, rfl⟩
  rw [hW] at hs hb hi ⊢
  obtain ⟨C, hC⟩ : ∃ C : Array Value, #[.slice (some ⟨w.heap.size, 0, none⟩) 1 1, .slice (some ⟨w.heap.size + 1, 0, none⟩) 1 1, .slice (some ⟨w.heap.size + 1 + 1, 0, none⟩) 1 1, .slice (some ⟨w.heap.size + 1 + 1 + 1, 0, none⟩) 1 1] = C := ⟨_, rfl⟩
  rw [hC]
  have blk := World.alloc_heap_new W4 (.cells C 76)
  have hb4 : Below W4.heap.size W4 (W4.alloc (.cells C 76)) := (Below.refl _ W4).alloc (Nat.le_refl _) _
  have hsz : (W4.alloc (.cells C 76)).heap.size = w.heap.size + 4 + 1 := by rw [World.size_alloc, hs]
  rw [hs] at blk hb4
  have hR : RulesAt (W4.alloc (.cells C 76)).heap.size (W4.alloc (.cells C 76)) (some ⟨w.heap.size + 4, 0, none⟩) [([-3], [-2]), ([-5], [-3])] := by
    rw [hsz]
    refine rulesAt_of blk (by omega) fun k hk => ?_
    have hk' : k < 2 := hk
    have hx := fun i hi6 => ((hi i hi6).below hb4).mono (show w.heap.size + 4 ≤ w.heap.size + 4 + 1 by omega)
    subst hC
    match k, hk' with
    | 0, _ => exact ⟨_, _, rfl, rfl, hx 0 (by omega), hx 1 (by omega), by decide, by decide⟩
    | 1, _ => exact ⟨_, _, rfl, rfl, hx 2 (by omega), hx 3 (by omega), by decide, by decide⟩
  have hBB := hb.trans (hb4.mono (by omega))
  refine (All_any [([-3], [-2]), ([-5], [-3])] _ 2 _ hR).mono ?_
  rintro e w' ⟨hB, er', is', val', x, hS', rfl, hx⟩
  rcases hS' with ⟨h, _⟩ | ⟨_, hS'⟩
  · simp at h
  · obtain ⟨rfl, rfl, rfl⟩ := Tm.um3.one hS'
    exact ⟨x, rfl, hx, hBB.trans (hB.mono hBB.size)⟩

theorem Try.info76 : (Try.prog.info? 76).map (fun i => (i.zero, i.size, i.bytes)) = some (some (.agg #[.slice none 0 0, .slice none 0 0]), 2, 48) := by kernel_rfl
theorem make41 : ∃ M : Array Value, ∀ W : World, (Instr.makeSlice 78 (.int .i64 41) (.int .i64 41)).run Try.prog W = .ok (.slice (some ⟨W.heap.size, 0, none⟩) 41 41) (W.alloc (.cells M 76)) := by
  obtain ⟨i0, hi, hz0, hz1, hz2⟩ := info_parts Try.info76
  refine ⟨madeCells (Value.agg #[.slice none 0 0, .slice none 0 0]).cells (Int.toNat 41 * 2), fun W => ?_⟩
  have h := run_makeSlice (P := Try.prog) W 78 76 i0 (.agg #[.slice none 0 0, .slice none 0 0]) Try.underlying78 hi hz0 .i64 .i64 41 41 (by omega) (by omega) (by rw [hz1]; decide) (by rw [hz2]; decide) (by decide)
  rw [hz1] at h
  exact h

theorem u_at {w : World} {x : Option Addr} {vs : List (List Int)} (h : Subs w.heap.size w x vs) (h0 : 0 < vs.length) : ∃ b off, x = some ⟨b, off, none⟩ ∧ ∀ j, j < vs.length → ∃ a c, w.cell? ⟨b, off + j, none⟩ = some (.slice a (vs[j]?.getD []).length c) ∧ Ints w.heap.size w a (vs[j]?.getD []) := by
  obtain ⟨b, off, aj, cj, e, _⟩ := h 0 h0
  refine ⟨b, off, e, fun j hj => ?_⟩
  obtain ⟨b', off', a, c, e', _, h1, h2, _⟩ := h j hj
  rw [e] at e'
  cases e'
  exact ⟨a, c, h1, h2⟩

set_option maxRecDepth 100000 in
set_option maxHeartbeats 4000000 in
theorem unifyBegun_any (w : World) : Calls Try.prog 42 #[] w fun e w' => e = .returned (.bool true) ∧ Below w.heap.size w w' := by
  have h1 := hid (fun w => u_meet [4, -1, 2, -2] [4, -3, -1] 4 3 8 0 true Tm.mv1 w rfl rfl rfl (by simp) (by simp) Tm.um1)
  have h2 := hid (fun w => u_meet [-1] [2, -1] 1 2 0 0 false [] w rfl rfl rfl (by simp) (by simp) Tm.um2)
  have h3 := hid (fun w => u_all w)
  have h4 := hid (fun w => u_meet [9] [0] 1 1 0 3 false [] w rfl rfl rfl (by simp) (by simp) Tm.um4)
  have h5 := hid (fun n (h : 40 < n) a c w => All_many n h a c w)
  have s1 := hid (fun w a c hI => g_same [2, -2] [2, -2] 2 2 c a w rfl rfl (by simp) hI (by simp [sameB]))
  have s2 := hid (fun w a c hI => g_same [-2] [-2] 1 1 c a w rfl rfl (by simp) hI (by simp [sameB]))
  simp only [List.map_cons, List.map_nil, allocs] at h1 h2 h3 h4 s1 s2
  obtain ⟨M, hmk⟩ := make41
  go_enter Try.func42, Try.ntmps42
  go_wp2_with fail
  refine (h1.out _).mono ?_
  rintro e w1 ⟨x1, rfl, S1, b1⟩
  clear h1
  go_wp2_with fail
  refine (h2.out _).mono ?_
  rintro e w2 ⟨x2, rfl, _, b2⟩
  have S2 := (S1.below b2).mono b2.size
  have B2 := b1.trans (b2.mono b1.size)
  clear h2 S1 b1 b2
  go_wp2_with fail
  refine (h3.out _).mono ?_
  rintro e w3 ⟨x3, rfl, T3, b3⟩
  have S3 := (S2.below b3).mono b3.size
  have B3 := B2.trans (b3.mono B2.size)
  clear h3 S2 B2 b3
  go_wp2_with fail
  refine (h4.out _).mono ?_
  rintro e w4 ⟨x4, rfl, _, b4⟩
  have S4 := (S3.below b4).mono b4.size
  have T4 := (T3.below b4).mono b4.size
  have B4 := B3.trans (b4.mono B3.size)
  clear h4 S3 T3 B3 b4
  have b5 : Below w4.heap.size w4 (w4.alloc (.cells M 76)) := (Below.refl _ _).alloc (Nat.le_refl _) _
  go_wp2_with fail
  refine (h5.out 41 (by omega) _ _ _).mono ?_
  rintro e w6 ⟨rfl, b6⟩
  have b56 := b5.trans (b6.mono b5.size)
  have S6 := hid ((S4.below b56).mono b56.size)
  have T6 := hid ((T4.below b56).mono b56.size)
  have B6 := B4.trans (b56.mono B4.size)
  clear h5 S4 T4 B4 b5 b6 b56 hmk
  obtain ⟨b, off, rfl, hS⟩ := u_at S6.out (by decide)
  obtain ⟨bt, ot, rfl, hT⟩ := u_at T6.out (by decide)
  obtain ⟨a0, c0, k0, i0⟩ := hS 0 (by decide)
  clear hS hT
  simp [Tm.mv1] at k0
  go_wp2_with fail
  refine (s1.out w6 a0 c0 i0).mono ?_
  rintro e w7 ⟨rfl, b7⟩
  have S7 := hid ((S6.out.below b7).mono b7.size)
  have T7 := hid ((T6.out.below b7).mono b7.size)
  have B7 := B6.trans (b7.mono B6.size)
  clear S6 T6 B6 b7 k0 i0
  obtain ⟨_, _, e, hS⟩ := u_at S7.out (by decide)
  cases e
  obtain ⟨a2, c2, k2, i2⟩ := hS 2 (by decide)
  clear hS
  simp [Tm.mv1] at k2
  go_wp2_with fail
  refine (s1.out w7 a2 c2 i2).mono ?_
  rintro e w8 ⟨rfl, b8⟩
  have S8 := hid ((S7.out.below b8).mono b8.size)
  have T8 := hid ((T7.out.below b8).mono b8.size)
  have B8 := B7.trans (b8.mono B7.size)
  clear S7 T7 B7 b8 k2 i2
  obtain ⟨_, _, e, hS⟩ := u_at S8.out (by decide)
  cases e
  obtain ⟨a1, c1, k1, i1⟩ := hS 1 (by decide)
  clear hS
  simp [Tm.mv1] at k1
  go_wp2_with fail
  refine (s2.out w8 a1 c1 i1).mono ?_
  rintro e w9 ⟨rfl, b9⟩
  have T9 := hid ((T8.out.below b9).mono b9.size)
  have B9 := B8.trans (b9.mono B8.size)
  clear S8 T8 B8 b9 k1 i1
  obtain ⟨_, _, e, hT⟩ := u_at T9.out (by decide)
  cases e
  obtain ⟨a2, c2, k2, i2⟩ := hT 2 (by decide)
  clear hT
  simp [Tm.mv3] at k2
  go_wp2_with fail
  refine (s2.out w9 a2 c2 i2).mono ?_
  rintro e w10 ⟨rfl, b10⟩
  have T10 := hid ((T9.out.below b10).mono b10.size)
  have B10 := B9.trans (b10.mono B9.size)
  clear T9 B9 b10 k2 i2
  obtain ⟨_, _, e, hT⟩ := u_at T10.out (by decide)
  cases e
  obtain ⟨a4, c4, k4, i4⟩ := hT 4 (by decide)
  clear hT
  simp [Tm.mv3] at k4
  go_wp2_with fail
  refine (s2.out w10 a4 c4 i4).mono ?_
  rintro e w11 ⟨rfl, b11⟩
  have B11 := B10.trans (b11.mono B10.size)
  go_wp2
  go_ret
  exact ⟨rfl, B11⟩

end Go.Proofs.Ytbelnlemjcoifaa
