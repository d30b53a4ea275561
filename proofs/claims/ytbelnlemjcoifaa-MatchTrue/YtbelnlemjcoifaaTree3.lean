/-
  haspref.flat: a tree's signs.
-/
import Derived.Test.YtbelnlemjcoifaaTree2
namespace Go.Proofs.Ytbelnlemjcoifaa
open Go.Proofs Go.RowKit Go.Shelf Go.Maps

theorem flatten_snoc {zss : List (List Int)} {k : Nat} (hk : k < zss.length) : (zss.take (k + 1)).flatten = (zss.take k).flatten ++ (zss[k]?.getD []) := by
  rw [takeS_snoc hk, List.flatten_append]; simp
theorem flatten_le {zss : List (List Int)} {k : Nat} (hk : k < zss.length) : (zss.take k).flatten.length + (zss[k]?.getD []).length ≤ zss.flatten.length := by
  have h1 : zss.flatten.length = ((zss.take (k + 1)) ++ zss.drop (k + 1)).flatten.length := by rw [List.take_append_drop]
  rw [h1, List.flatten_append, List.length_append, flatten_snoc hk, List.length_append]
  omega
theorem flatten_take_le {zss : List (List Int)} (k : Nat) : (zss.take k).flatten.length ≤ zss.flatten.length := by
  have h1 : zss.flatten.length = ((zss.take k) ++ zss.drop k).flatten.length := by rw [List.take_append_drop]
  rw [h1, List.flatten_append, List.length_append]
  omega

theorem new_ints0 {base : Nat} {W : World} {v : Value} {zs : List Int} (h : New base W v zs) : ∃ a cap, v = .slice a zs.length cap ∧ Ints W.heap.size W a zs ∧ (a = none → zs.length = 0 ∧ cap = 0) := by
  obtain ⟨a, cap, rfl, hI, h1, h2⟩ := New.ints h
  refine ⟨a, cap, rfl, hI, fun e => ?_⟩
  subst e
  rcases h.2 with ⟨e, hn⟩ | ⟨g, c, cur, e, _⟩
  · simp only [Value.slice.injEq] at e; exact ⟨hn, e.2.2⟩
  · simp at e

set_option maxRecDepth 100000 in
set_option maxHeartbeats 1000000 in
theorem flat_all {lo hi : Nat} {W : World} {X : Nat} {zs : List Int} (h : TreeIn lo hi W X zs) : zs.length ≤ 1000 → ∀ W', (∀ k, lo ≤ k → k < hi → W'.heap[k]? = W.heap[k]?) → hi ≤ W'.heap.size →
    Calls Try.prog 77 #[ptr X] W' fun e w' => ∃ v, e = .returned v ∧ New W'.heap.size w' v zs ∧ Below W'.heap.size W' w' := by
  induction h with
  | mk X s v Xs zss hX1 hX2 hN hP hr hl _ ih =>
    intro hlen w hw hhi
    simp only [List.length_cons] at hlen
    obtain ⟨a, c, rfl, hc⟩ := hP
    have hr2 := Tm.room_le s
    have hN' : Node w X s (.slice a Xs.length c) := (hw X hX1 hX2).trans hN
    have hn0 := hN'.cell0
    have hl0 := New.lit w.heap.size w [s] (Nat.le_refl _) (by unfold maxLen; simp)
    simp only [List.map_cons, List.map_nil, List.length_cons, List.length_nil, Nat.zero_add] at hl0
    have hB0 : Below w.heap.size w (w.alloc (.cells #[.int .i64 s] 3)) := (Below.refl _ _).alloc (Nat.le_refl _) _
    have hX3 : (Xs.length : Int) ≤ 2 := by omega
    have IH := hid ih
    have HW := hid hw
    have Hc := hid hc
    have HN' := hid hN'
    have Hl := hid hl
    have Hr := hid hr
    have Hlen := hid hlen
    clear ih hw hc hN hN' hl hr hlen
    go_enter Try.func77, Try.ntmps77
    go_wp2
    go_loopw [3, 4] (fun u i wr => ∃ k : Nat, k ≤ Xs.length ∧ i = .int .i64 (k : Int) ∧ Hid (New w.heap.size wr u (s :: (zss.take k).flatten)) ∧ Below w.heap.size w wr) (fun _ i _ => Xs.length - (intOf i).toNat)
    case atStart => exact ⟨0, Nat.zero_le _, rfl, by simpa [Hid] using hl0, hB0⟩
    case round =>
      obtain ⟨k, hk, rfl, hNk, hB⟩ := hrel
      have hNr : Node wr X s (.slice a Xs.length c) := (hB.block X (by omega)).trans HN'.out
      have hn1 := hNr.cell1
      obtain ⟨a0, c0, rfl, _⟩ := New.ints hNk.out
      by_cases hlt : k < Xs.length
      · have hlt' : (k : Int) < (Xs.length : Int) := by omega
        obtain ⟨b, off, rfl, hb1, hb2, hcell⟩ := Hc.out k hlt
        have hck : wr.cell? ⟨b, off + k, none⟩ = some (ptr (Xs[k]?.getD 0)) := (World.cell?_of_block (a := ⟨b, off + k, none⟩) ((hB.block b (by omega)).trans (HW.out b hb1 hb2))).trans hcell
        have hle := flatten_le (zss := zss) (k := k) (by have := Hl.out; omega)
        have hF := IH.out k hlt (by have := Hlen.out; omega) wr (fun q h1 h2 => (hB.block q (by omega)).trans (HW.out q h1 h2)) (by have := hB.size; omega)
        have hsn := hid (flatten_snoc (zss := zss) (k := k) (by have := Hl.out; omega))
        have Hle : Hid ((s :: (zss.take k).flatten).length + (zss[k]?.getD []).length ≤ 1000000) := by have := Hlen.out; show _ ≤ _; simp only [List.length_cons]; omega
        clear hcell hle hNr
        generalize zss[k]?.getD [] = pt at *
        generalize Xs[k]?.getD 0 = Y at *
        generalize hys : s :: (zss.take k).flatten = ys at *
        have Hys := hid hys
        clear hys
        go_wp2_with (first
          | (go_at_call 77; refine hF.mono ?_; clear hF; rintro e w1 ⟨v1, rfl, hN1, hB1⟩; have hNk1 := hid (hNk.out.below hB1); have hB2 := hB.trans (hB1.mono hB.size); obtain ⟨a1, c1, rfl, hI1, hn⟩ := new_ints0 hN1)
          | (at_builtin; go_loud (refine wp_append_ints _ rfl _ _ rfl w.heap.size _ ys rfl hNk1.out a1 pt c1 rfl hn hI1 Hle.out hB2.size ?_); intro v' w2 hN2 hB3; obtain ⟨a2, c2, rfl, _⟩ := New.ints hN2))
        go_roundw
        case rel => exact ⟨k + 1, by omega, by go_num, by rw [hsn.out, ← List.cons_append, Hys.out]; simpa [Hid] using hN2, hB2.trans hB3⟩
        case measure => simp [intOf]; omega
      · obtain rfl : k = Xs.length := by omega
        have hz : Hid (zss.take Xs.length = zss) := by show _ = _; rw [← Hl.out, List.take_length]
        go_wp2
        go_ret
        refine ⟨_, rfl, ?_, hB⟩
        have h := hNk.out
        show New w.heap.size wr (.slice a0 (s :: (zss.take Xs.length).flatten).length c0) (s :: zss.flatten)
        rw [hz.out] at h ⊢
        exact h

theorem flat_any {lo hi : Nat} {X : Nat} {zs : List Int} (w : World) (h : TreeIn lo hi w X zs) (hl : zs.length ≤ 1000) (hi' : hi ≤ w.heap.size) :
    Calls Try.prog 77 #[ptr X] w fun e w' => ∃ v, e = .returned v ∧ New w.heap.size w' v zs ∧ Below w.heap.size w w' :=
  flat_all h hl w (fun _ _ _ => rfl) hi'

end Go.Proofs.Ytbelnlemjcoifaa
