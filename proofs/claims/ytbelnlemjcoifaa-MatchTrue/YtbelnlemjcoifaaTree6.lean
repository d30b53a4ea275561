/-
  haspref.twoErrors, haspref.fitted, haspref.FitOf.
-/
import Derived.Test.YtbelnlemjcoifaaTree5
namespace Go.Proofs.Ytbelnlemjcoifaa
open Go.Proofs Go.RowKit Go.Shelf Go.Maps

set_option maxRecDepth 100000 in
set_option maxHeartbeats 400000 in
theorem twoErrors_any (p t : List Int) (ap at' : Option Addr) (cp ct : Nat) (w : World) (hP : Ints w.heap.size w ap p) (hT : Ints w.heap.size w at' t) :
    Calls Try.prog 63 #[.slice ap p.length cp, .slice at' t.length ct] w fun e w' => e = .returned (.int .i64 (Tm.fitErr p t)) ∧ w' = w := by
  have h1 := termError_any p ap cp w hP
  have h2 := termError_any t at' ct w hT
  by_cases he : Tm.err p = 0
  · have hf : Tm.fitErr p t = Tm.err t := by
      simp only [Tm.fitErr, Tm.firstErr, he, if_true]
      by_cases h : Tm.err t = 0 <;> simp [h]
    rw [hf]
    rw [he] at h1
    clear hf he hP hT
    generalize Tm.err t = q at *
    go_enter Try.func63, Try.ntmps63
    go_wp2_with (first
      | (go_at_call_of 20 (Value.slice ap p.length cp); refine h1.mono ?_; rintro e w ⟨rfl, rfl⟩)
      | (go_at_call_of 20 (Value.slice at' t.length ct); refine h2.mono ?_; rintro e w ⟨rfl, rfl⟩))
    go_ret
    exact ⟨rfl, rfl⟩
  · have hf : Tm.fitErr p t = Tm.err p := by simp [Tm.fitErr, Tm.firstErr, he]
    rw [hf]
    have hne : (Tm.err p != 0) = true := by simp [he]
    clear hf he hP hT h2
    generalize Tm.err p = q at *
    go_enter Try.func63, Try.ntmps63
    go_wp2_with (first
      | (go_at_call 20; refine h1.mono ?_; clear h1; rintro e w ⟨rfl, rfl⟩))
    go_ret
    exact ⟨rfl, rfl⟩

abbrev noTrees : Obj := .cells #[.pointer none, .pointer none, .pointer none, .pointer none, .pointer none, .pointer none, .pointer none, .pointer none] 87
theorem FitS.start (w : World) (lo hi : Nat) : FitS (w.alloc noTrees) w.heap.size lo hi (fun _ => none) := fun v hv => by
  have hnew := World.alloc_heap_new w noTrees
  refine ⟨by simp only [World.frozen?]; rw [hnew]; simp, .inl ⟨rfl, (cell_at hnew v).trans ?_⟩⟩
  match v, hv with
  | 0, _ => rfl
  | 1, _ => rfl
  | 2, _ => rfl
  | 3, _ => rfl
  | 4, _ => rfl
  | 5, _ => rfl
  | 6, _ => rfl
  | 7, _ => rfl

set_option maxRecDepth 100000 in
set_option maxHeartbeats 1000000 in
/-- haspref.fit over new trees. -/
theorem reffit_new (p t : List Int) (hp : Tm.err p = 0) (ht : Tm.err t = 0) (w w1 w2 : World) (hT1 : TreeIn (w.heap.size + 1) w1.heap.size w1 (w.heap.size + 1) p) (hB1 : Below (w.heap.size + 1) (w.alloc noTrees) w1) (hT2 : TreeIn w1.heap.size w2.heap.size w2 w1.heap.size t) (hB2 : Below w1.heap.size w1 w2) :
    Calls Try.prog 75 #[ptr (w.heap.size + 1), ptr w1.heap.size, ptr w.heap.size] w2 fun e w' => Keep w2.heap.size w.heap.size w2 w' ∧ RefFit w' e w.heap.size (w.heap.size + 1) w2.heap.size (Tm.fit p t) := by
  have hs1 := hB1.size
  have hs2 := hB2.size
  simp at hs1
  have hP : TreeIn (w.heap.size + 1) w2.heap.size w2 (w.heap.size + 1) p := (hT1.under hB2 (Nat.le_refl _)).wide (Nat.le_refl _) hs2
  have hB : Below (w.heap.size + 1) (w.alloc noTrees) w2 := hB1.trans (hB2.mono hs1)
  exact reffit_all hP (fun x hx => by have := Tm.err_all hp; rw [List.all_eq_true] at this; exact this x hx) w1.heap.size t w2 (fun _ => none) (fun _ _ _ => rfl) (Nat.le_refl _) (by omega) (by omega) (hT2.wide (by omega) (Nat.le_refl _)) (Tm.err_len ht)
    (fun v hv => by
      obtain ⟨e1, e2⟩ := FitS.start w (w.heap.size + 1) w2.heap.size v hv
      refine ⟨by rw [← e1]; simp only [World.frozen?, hB.block w.heap.size (by omega)], .inl ⟨rfl, ?_⟩⟩
      rcases e2 with ⟨_, e2⟩ | ⟨zs, X, e2, _⟩
      · exact (hB.cell (p := ⟨w.heap.size, v, none⟩) (by show w.heap.size < _; omega)).trans e2
      · cases e2)

set_option maxRecDepth 100000 in
set_option maxHeartbeats 1000000 in
theorem fitted_any (p t : List Int) (ap at' : Option Addr) (cp ct : Nat) (w : World) (hp : Tm.err p = 0) (ht : Tm.err t = 0) (hP : Ints w.heap.size w ap p) (hT : Ints w.heap.size w at' t) (h1 : p.length ≤ cp ∧ cp ≤ maxLen) (h2 : t.length ≤ ct ∧ ct ≤ maxLen) :
    Calls Try.prog 64 #[.slice ap p.length cp, .slice at' t.length ct] w fun e w' => ∃ v, e = .returned (.tuple #[v, .bool (Tm.fit p t).isSome]) ∧ NewS w.heap.size w' v (Tm.fitOut (Tm.fit p t)) ∧ Below w.heap.size w w' := by
  have hB0 : Below w.heap.size w (w.alloc noTrees) := (Below.refl _ _).alloc (Nat.le_refl _) _
  have hs0 : (w.alloc noTrees).heap.size = w.heap.size + 1 := by simp
  have hC1 := treeOf_any p ap cp (w.alloc noTrees) hp h1.1 h1.2 ((hP.below hB0).mono hB0.size)
  rw [hs0] at hC1
  have hC2 := hid (fun W (hW : Below w.heap.size w W) => treeOf_any t at' ct W ht h2.1 h2.2 ((hT.below hW).mono hW.size))
  have hC3 := hid (fun w1 w2 a b c d => reffit_new p t hp ht w w1 w2 a b c d)
  clear hP hT hp ht h1 h2
  cases hf : Tm.fit p t with
  | none =>
    rw [hf] at hC3
    clear hf
    simp only [Option.isSome_none]
    go_enter Try.func64, Try.ntmps64
    go_wp2_with (first
      | (go_at_call_of 76 (Value.slice ap p.length cp); refine hC1.mono ?_; clear hC1; rintro e w1 ⟨rfl, hB1, hT1⟩; have hB3 := hB0.trans (hB1.mono (by omega)))
      | (go_at_call_of 76 (Value.slice at' t.length ct); refine (hC2.out _ hB3).mono ?_; rintro e w2 ⟨rfl, hB2, hT2⟩; have hB4 := hB3.trans (hB2.mono hB3.size))
      | (go_at_call 75; refine (hC3.out _ _ hT1 hB1 hT2 hB2).mono ?_; rintro e w3 ⟨hK, rfl⟩; have hB5 := hB4.trans ((hK.mono hB4.size).below (Nat.le_refl _))))
    go_ret2
    exact ⟨_, rfl, NewS.nil _ _, hB5⟩
  | some m =>
    rw [hf] at hC3
    clear hf
    simp only [Option.isSome_some]
    go_enter Try.func64, Try.ntmps64
    go_wp2_with (first
      | (go_at_call_of 76 (Value.slice ap p.length cp); refine hC1.mono ?_; clear hC1; rintro e w1 ⟨rfl, hB1, hT1⟩; have hB3 := hB0.trans (hB1.mono (by omega)))
      | (go_at_call_of 76 (Value.slice at' t.length ct); refine (hC2.out _ hB3).mono ?_; rintro e w2 ⟨rfl, hB2, hT2⟩; have hB4 := hB3.trans (hB2.mono hB3.size))
      | (go_at_call 75; refine (hC3.out _ _ hT1 hB1 hT2 hB2).mono ?_; rintro e w3 ⟨hK, rfl, hFS⟩; have hB5 := hB4.trans ((hK.mono hB4.size).below (Nat.le_refl _)); have HFS := hid hFS; clear hFS)
      | (go_at_call 58; refine (noneOf_any _).mono ?_; rintro e w4 ⟨v, rfl, hN, hB6⟩; have hB7 := hB5.trans (hB6.mono hB5.size); have hlen : (Tm.noneL 8).length = 8 := Tm.noneL_length 8; obtain ⟨g, c, rfl⟩ : ∃ g c, v = .slice (some ⟨g, 0, none⟩) 8 c := (by obtain ⟨us, h1, _⟩ := hN; rw [hlen] at h1; exact ownsRow_succ h1)))
    have hg3 : w3.heap.size ≤ g := by
      obtain ⟨us, h1, _⟩ := hN
      exact (World.ownsRow.lt h1 g rfl).1
    have hs1 := hB1.size
    rw [hs0] at hs1
    have hs2 := hB2.size
    have hs3 := hK.size
    have HN := hid hN
    clear hN hlen hT1 hT2 hC2 hC3
    go_loopw [8] (fun i wr => ∃ k : Nat, k ≤ 8 ∧ i = .int .i64 (k : Int) ∧ Hid (NewS w.heap.size wr (.slice (some ⟨g, 0, none⟩) 8 c) (Tm.fitL m k)) ∧ Below w3.heap.size w3 wr) (fun i _ => 8 - (intOf i).toNat)
    case atStart => exact ⟨0, Nat.zero_le _, rfl, by rw [Tm.fitL_zero]; exact HN.out.mono hB5.size, hB6⟩
    case round =>
      obtain ⟨k, hk, rfl, hNk, hBk⟩ := hrel
      by_cases hlt : k < 8
      · have hlt' : (k : Int) < 8 := by omega
        obtain ⟨_, hc⟩ := HFS.out.keep hBk (by omega) hs3 k hlt
        rcases hc with ⟨hm, hc⟩ | ⟨zs, X, hm, hc, hTX, hz⟩
        · have hst := hid (Tm.fitL_none hm)
          clear hm
          go_wp2
          go_roundw
          case rel => exact ⟨k + 1, by omega, by go_num, by rw [hst.out]; exact hNk.out, hBk⟩
          case measure => simp [intOf]; omega
        · have hst := hid (Tm.fitL_some hm)
          have hFl := flat_any wr hTX (by omega) (by have := hBk.size; omega)
          clear hm hTX
          go_wp2_with (first
            | (go_at_call 77; refine hFl.mono ?_; clear hFl; rintro e w5 ⟨u, rfl, hNu, hBu⟩; obtain ⟨au, cu, rfl, _⟩ := New.ints hNu; have hN5 := hid (hNk.out.below hBu); obtain ⟨hg5, x5, hc5, hf5⟩ := newS_cell hN5.out (Tm.fitL_length m k) hlt))
          have hsz := hBk.size
          have hsw := hB5.size
          go_roundw
          case rel =>
            refine ⟨k + 1, by omega, by go_num, ?_, ?_⟩
            · rw [hst.out]
              exact hN5.out.set (Tm.fitL_length m k).symm (hNu.mono (by omega)) k
            · exact (hBk.trans (hBu.mono hsz)).setCell (p := ⟨g, k, none⟩) hg3 _
          case measure => simp [intOf]; omega
      · obtain rfl : k = 8 := by omega
        go_wp2
        go_ret2
        exact ⟨_, rfl, hNk.out, hB5.trans (hBk.mono hB5.size)⟩

set_option maxRecDepth 100000 in
set_option maxHeartbeats 400000 in
/-- haspref.FitOf. -/
theorem FitOf_any (p t : List Int) (ap at' : Option Addr) (cp ct : Nat) (w : World) (hP : Ints w.heap.size w ap p) (hT : Ints w.heap.size w at' t) (h1 : p.length ≤ cp ∧ cp ≤ maxLen) (h2 : t.length ≤ ct ∧ ct ≤ maxLen) :
    Calls Try.prog 37 #[.slice ap p.length cp, .slice at' t.length ct] w fun e w' => ∃ v, e = .returned (.tuple #[v, .bool (Tm.fitIs p t), .int .i64 (Tm.fitErr p t)]) ∧ NewS w.heap.size w' v (Tm.fitVal p t) ∧ Below w.heap.size w w' := by
  have hC := twoErrors_any p t ap at' cp ct w hP hT
  by_cases he : Tm.fitErr p t = 0
  · obtain ⟨hp, ht⟩ := Tm.fitErr_ok he
    have hF := fitted_any p t ap at' cp ct w hp ht hP hT h1 h2
    have e1 : Tm.fitIs p t = (Tm.fit p t).isSome := by unfold Tm.fitIs; rw [if_pos he]
    have e2 : Tm.fitVal p t = (Tm.fitOut (Tm.fit p t)) := by unfold Tm.fitVal; rw [if_pos he]
    rw [← e1, ← e2] at hF
    rw [he] at hC ⊢
    clear e1 e2 he hp ht hP hT h1 h2
    generalize Tm.fitIs p t = q at *
    generalize Tm.fitVal p t = xs at *
    go_enter Try.func37, Try.ntmps37
    go_wp2_with (first
      | (go_at_call 63; refine hC.mono ?_; clear hC; rintro e w ⟨rfl, rfl⟩)
      | (go_at_call 64; refine hF.mono ?_; clear hF; rintro e w1 ⟨v, rfl, hN, hB⟩; obtain ⟨a1, c1, rfl, _⟩ := NewS.subs hN))
    go_ret3
    exact ⟨_, rfl, hN, hB⟩
  · obtain ⟨e1, e2⟩ := Tm.fit_bad he
    rw [e1, e2]
    have hne : (Tm.fitErr p t != 0) = true := by simp [he]
    clear hP hT e1 e2 he h1 h2
    generalize Tm.fitErr p t = q at *
    go_enter Try.func37, Try.ntmps37
    go_wp2_with (first
      | (go_at_call 63; refine hC.mono ?_; clear hC; rintro e w ⟨rfl, rfl⟩))
    go_ret3
    exact ⟨_, rfl, NewS.nil _ _, Below.refl _ _⟩

end Go.Proofs.Ytbelnlemjcoifaa
