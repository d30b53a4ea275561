/-
  haspref.grown, haspref.treeOf: the tree of a term; haspref.flat: its signs.
-/
import Derived.Test.YtbelnlemjcoifaaTree1
namespace Go.Proofs.Ytbelnlemjcoifaa
open Go.Proofs Go.RowKit Go.Shelf Go.Maps

set_option maxRecDepth 100000 in
set_option maxHeartbeats 1000000 in
theorem growT_step (zs : List Int) (a : Option Addr) (cap : Nat) (w : World) (hlen : zs.length ≤ 30) (h0 : 0 < zs.length) (hall : zs.all Tm.known = true) (hrun : Tm.run zs 1 ≤ zs.length) (hcap : zs.length ≤ cap) (hcap2 : cap ≤ maxLen)
    (hI : Ints w.heap.size w a zs)
    (ih : ∀ (e : Nat) (a' : Option Addr) (cap' : Nat) (W : World), 0 < e → e < zs.length → Tm.run (zs.drop e) 1 ≤ zs.length - e → zs.length - e ≤ cap' → cap' ≤ maxLen → Ints W.heap.size W a' (zs.drop e) →
      Calls Try.prog 69 #[.slice a' (zs.length - e) cap'] W fun r w' => ∃ a2 c2, r = .returned (.tuple #[ptr W.heap.size, .slice a2 (zs.length - Tm.endAt zs e) c2]) ∧ Below W.heap.size W w' ∧ (∀ n X, Ints n X a' (zs.drop e) → Ints n X a2 (zs.drop (Tm.endAt zs e))) ∧ zs.length - Tm.endAt zs e ≤ c2 ∧ c2 ≤ maxLen ∧ TreeIn W.heap.size w'.heap.size w' W.heap.size ((zs.drop e).take (Tm.endAt zs e - e))) :
    Calls Try.prog 69 #[.slice a zs.length cap] w fun r w' => ∃ a2 c2, r = .returned (.tuple #[ptr w.heap.size, .slice a2 (zs.length - Tm.run zs 1) c2]) ∧ Below w.heap.size w w' ∧ (∀ n X, Ints n X a zs → Ints n X a2 (zs.drop (Tm.run zs 1))) ∧ zs.length - Tm.run zs 1 ≤ c2 ∧ c2 ≤ maxLen ∧ TreeIn w.heap.size w'.heap.size w' w.heap.size (zs.take (Tm.run zs 1)) := by
  have hcap3 : cap ≤ 9223372036854775807 := hcap2
  obtain ⟨b, off, rfl, hb, hc⟩ := hI.at h0
  have hc0 := hc 0 h0
  rw [Nat.add_zero] at hc0
  have h1 : (0 : Int) < (zs.length : Int) := by omega
  have h30 : (zs.length : Int) ≤ 30 := by omega
  have h2 : (zs.length : Int) ≤ (cap : Int) := by omega
  have hend := Tm.endAt_in zs 0 h0
  rw [Tm.endAt_zero] at hend
  rw [hend] at hrun ⊢
  have hs6 := Tm.known_lt (Tm.all_at hall h0)
  have hr2 := Tm.room_le (zs[0]?.getD 0)
  have hI' := show Hid _ from hI
  have ih' := show Hid _ from ih
  clear hc hI hend hall ih
  have Hs0 : Hid (zs[0]?.getD 0 = zs[0]?.getD 0) := rfl
  generalize hsd : zs[0]?.getD 0 = s at hc0 hrun hs6 hr2 ⊢
  have HS := hid hsd
  clear hsd Hs0
  have hsz : ∀ W, Calls Try.prog 52 #[.int .i64 s] W fun e w' => e = .returned (.int .i64 (Tm.room s : Int)) ∧ w' = W := fun W => size_any s W hs6
  clear hs6
  generalize hrd : Tm.room s = r at hrun hr2 hsz ⊢
  have HR := hid hrd.symm
  clear hrd
  obtain ⟨i0, hi, hz0, hz1, hz2⟩ := info_parts Try.info80
  have hNode : Node (w.alloc (.cells #[.int .i64 s, .slice none 0 0] 99)) w.heap.size s (.slice none 0 0) := World.alloc_heap_new w _
  have hB0 : Below w.heap.size w (w.alloc (.cells #[.int .i64 s, .slice none 0 0] 99)) := (Below.refl _ w).alloc (Nat.le_refl _) _
  have hs0 : w.heap.size < (w.alloc (.cells #[.int .i64 s, .slice none 0 0] 99)).heap.size := by simp
  obtain ⟨W0, hW0⟩ : ∃ W0, w.alloc (.cells #[.int .i64 s, .slice none 0 0] 99) = W0 := ⟨_, rfl⟩
  rw [hW0] at hNode hB0 hs0
  have HW0 : Hid (w.alloc (.cells #[.int .i64 s, .slice none 0 0] 99) = W0) := hW0
  clear hW0
  by_cases hc1 : cap = 1
  · subst hc1
    have hl1 : zs.length = 1 := by omega
    have hr0 : r = 0 := by have := Tm.pos_mono zs 0 1 r; have h := Tm.pos_succ zs 0 0; rw [Nat.zero_add] at h; have := Tm.endAt_gt zs (Tm.pos zs 0 0); have := Tm.pos_zero zs 0; omega
    subst hr0
    have HT := hid ((GrownSt.start w.heap.size W0 zs (.slice none 0 0) [] rfl).done hNode (World.ownsRow_nil _ _ _ _) HR.out HS.out h0)
    rw [Tm.pos_zero] at HT ⊢
    go_enter Try.func69, Try.ntmps69
    go_wp2
    rw [HW0.out]
    have hn0 := hNode.cell0
    have HN := show Hid _ from hNode
    clear hNode hl1
    refine wp_loop_rounds 1 ?_
    rw [rounds_succ]
    go_wp2_with (go_at_call 52; refine (hsz _).mono ?_; rintro e wr ⟨rfl, rfl⟩)
    go_ret2
    refine ⟨some ⟨b, off, none⟩, 0, ?_, hB0, fun n X hX => by rw [List.drop_of_length_le (by omega)]; exact Ints.nil _ _ _, by omega, by unfold maxLen; omega, HT.out⟩
    rw [show zs.length - (0 + 1) = 0 from by omega]; rfl
  · have Hc1 : Hid (¬ cap = 1) := hc1
    go_enter Try.func69, Try.ntmps69
    go_wp2
    rw [HW0.out]
    go_loopw [5, 6] (fun q i wr => ∃ (m : Nat) (a' : Option Addr) (c' : Nat) (v : Value) (xs : List Value), m ≤ r ∧ i = .int .i64 (m : Int) ∧ q = .slice a' (zs.length - Tm.pos zs 0 m) c' ∧ Hid (∀ n X, Ints n X (some ⟨b, off, none⟩) zs → Ints n X a' (zs.drop (Tm.pos zs 0 m))) ∧ zs.length - Tm.pos zs 0 m ≤ c' ∧ c' ≤ maxLen ∧
        Node wr w.heap.size s v ∧ wr.ownsRow (w.heap.size + 1) 80 1 v m xs ∧ Below w.heap.size w wr ∧ Hid (GrownSt w.heap.size wr zs m v xs)) (fun _ i _ => r - (intOf i).toNat)
    case atStart => exact ⟨0, _, _, _, [], Nat.zero_le _, rfl, by rw [Tm.pos_zero], fun n X hX => by rw [Tm.pos_zero]; exact hX.drop 1, by rw [Tm.pos_zero]; omega, by unfold maxLen; omega, hNode, World.ownsRow_nil _ _ _ _, hB0, GrownSt.start _ _ _ _ _ rfl⟩
    case round =>
      obtain ⟨m, a', c', v, xs, hm, rfl, rfl, hIa, hca, hca2, hN, hown, hB, hSt⟩ := hrel
      have hn0 := hN.cell0
      by_cases hlt : m < r
      · have hlt' : (m : Int) < (r : Int) := by omega
        have hp1 := Tm.pos_gt zs 0 m
        have hp2 := Tm.pos_succ zs 0 m
        have hp3 := Tm.pos_mono zs 0 (m + 1) r (by omega)
        have hp4 := Tm.endAt_gt zs (Tm.pos zs 0 m)
        have hg := ih'.out (Tm.pos zs 0 m) a' c' wr hp1 (by omega) (by unfold Tm.endAt at hp2; omega) hca hca2 ((hIa.out _ _ (Ints.below hB hI'.out)).mono hB.size)
        rw [← hp2] at hg
        have hX := hN.lt
        have hca3 : c' ≤ 9223372036854775807 := hca2
        have Hp3 := show Hid _ from hp3
        have Hle : Hid (Tm.pos zs 0 (m + 1) ≤ zs.length) := by show _ ≤ _; omega
        clear hp1 hp2 hp3 hp4 hca2 hNode hB0 hcap2
        go_wp2_with (first
          | (go_at_call 52; refine (hsz _).mono ?_; rintro e wr ⟨rfl, rfl⟩)
          | (go_at_call 69; refine hg.mono ?_; clear hg; rintro e W1 ⟨a2, c2, rfl, hB1, hI2, hc2, hc22, hT1⟩; have hN1 := hN.kept (grown_of_below hB1) (by simp); have hown1 := hown.kept (grown_of_below hB1) (by cases h : v.ownBlock with | none => exact .inl rfl | some k => exact .inr (by simp)); obtain ⟨ao, co, rfl⟩ := own_form hown1; have hn1 := hN1.cell1; have hf1 := hN1.frozen; have HI2 := show Hid _ from hI2; clear hI2; have Hc22 := show Hid _ from hc22; clear hc22; have HT1 := hid hT1; clear hT1)
          | (at_builtin; go_loud (refine wpList_append_own_at _ rfl _ _ 97 rfl (w.heap.size + 1) 80 i0 (.pointer none) 1 8 Try.underlying97 hi hz0 hz1 hz2 rfl (by decide) _ _ _ rfl (hown1.alloc _) ⟨W1.heap.size, 0, none⟩ 1 1 [ptr wr.heap.size] rfl rfl (cell_one_new _ _ _) (by simp [Value.oneCell', ptr]) (by unfold maxLen; omega) (by omega) (by have := hB1.size; simp; omega) ?_); intro v' w2 hown' hgrow _ hat; obtain ⟨g', cap', rfl⟩ := ownsRow_succ hown'; have R := hN1.appended hown1 hown' hgrow; have hn2 := R.1.cell1; have hf2 := R.1.frozen; have HR2 := show Hid _ from R; have Hg := hid hgrow; have Hat := hid hat; clear R hown' hgrow hat))
        refine ⟨⟨m + 1, a2, c2, _, _, by omega, by go_num, rfl, fun n X hX => HI2.out n X (hIa.out n X hX), hc2, Hc22.out, HR2.out.2.1, HR2.out.2.2.1, (hB.trans (hB1.mono hB.size)).trans HR2.out.2.2.2, ?_⟩, by simp [intOf]; omega⟩
        have hs1 := hB1.size
        have hs2 := Hg.out.size
        have ho : ∀ k, (Value.slice ao m co).ownBlock = some k → w.heap.size < k ∧ k < wr.heap.size := fun k hk => by have := hown.lt k hk; omega
        refine GrownSt.step hSt.out rfl hX hs1 (fun k hk => hB1.block k hk) HT1.out (fun k hk => (ho k hk).2) ?_ ?_ ?_ rfl Hle.out
        · rcases Hat.out with e | e
          · exact .inl e
          · exact .inr ⟨_, e, by simp⟩
        · have hs3 := (KeepsWalks.setCell w2 ⟨w.heap.size, 1, none⟩ (Value.slice (some ⟨g', 0, none⟩) (m + 1) cap')).size; simp at hs2; omega
        · intro k hk1 hk2 hk3
          rw [Below.heap_setCell _ _ _ _ (by simp; omega), Hg.out.block k (by simp; omega) (fun e => hk3 k e.symm rfl), Below.heap_alloc _ _ _ hk2]
      · obtain rfl : m = r := by omega
        have HT := hid (hSt.out.done hN hown HR.out HS.out h0)
        go_wp2_with (go_at_call 52; refine (hsz _).mono ?_; rintro e wr ⟨rfl, rfl⟩)
        go_ret2
        exact ⟨_, _, rfl, hB, hIa, hca, hca2, HT.out⟩

/-- haspref.grown. -/
theorem growT_any : ∀ (m : Nat) (zs : List Int) (a : Option Addr) (cap : Nat) (w : World), zs.length ≤ m → zs.length ≤ 30 → 0 < zs.length → zs.all Tm.known = true → Tm.run zs 1 ≤ zs.length → zs.length ≤ cap → cap ≤ maxLen → Ints w.heap.size w a zs →
    Calls Try.prog 69 #[.slice a zs.length cap] w fun r w' => ∃ a2 c2, r = .returned (.tuple #[ptr w.heap.size, .slice a2 (zs.length - Tm.run zs 1) c2]) ∧ Below w.heap.size w w' ∧ (∀ n X, Ints n X a zs → Ints n X a2 (zs.drop (Tm.run zs 1))) ∧ zs.length - Tm.run zs 1 ≤ c2 ∧ c2 ≤ maxLen ∧ TreeIn w.heap.size w'.heap.size w' w.heap.size (zs.take (Tm.run zs 1)) := by
  intro m
  induction m with
  | zero => intro zs a cap w h1 _ h2; omega
  | succ m ih =>
    intro zs a cap w hm h30 h0 hall hrun hcap hcap2 hI
    refine growT_step zs a cap w h30 h0 hall hrun hcap hcap2 hI ?_
    intro e a' cap' W he1 he2 hr hc hc2 hIe
    have h := ih (zs.drop e) a' cap' W (by rw [List.length_drop]; omega) (by rw [List.length_drop]; omega) (by rw [List.length_drop]; omega)
      (by rw [List.all_eq_true] at hall ⊢; exact fun x hx => hall x (List.mem_of_mem_drop hx)) (by rw [List.length_drop]; exact hr) (by rw [List.length_drop]; exact hc) hc2 hIe
    simp only [List.length_drop, List.drop_drop] at h
    rw [Tm.endAt_drop, show zs.length - (e + Tm.run (zs.drop e) 1) = zs.length - e - Tm.run (zs.drop e) 1 from by omega, show e + Tm.run (zs.drop e) 1 - e = Tm.run (zs.drop e) 1 from by omega]
    exact h

set_option maxRecDepth 100000 in
/-- haspref.treeOf. -/
theorem treeOf_any (zs : List Int) (a : Option Addr) (cap : Nat) (w : World) (he : Tm.err zs = 0) (hcap : zs.length ≤ cap) (hcap2 : cap ≤ maxLen) (hI : Ints w.heap.size w a zs) :
    Calls Try.prog 76 #[.slice a zs.length cap] w fun r w' => r = .returned (ptr w.heap.size) ∧ Below w.heap.size w w' ∧ TreeIn w.heap.size w'.heap.size w' w.heap.size zs := by
  have hr := Tm.err_run he
  have hg := growT_any _ zs a cap w (Nat.le_refl _) (Tm.err_len he) (Tm.err_pos he) (Tm.err_all he) (by omega) hcap hcap2 hI
  rw [hr, List.take_length] at hg
  clear hI hr he
  go_enter Try.func76, Try.ntmps76
  go_wp2_with (go_at_call 69; refine hg.mono ?_; clear hg; rintro e w1 ⟨a2, c2, rfl, hB, _, _, _, hT⟩)
  go_ret
  exact ⟨rfl, hB, hT⟩

end Go.Proofs.Ytbelnlemjcoifaa
