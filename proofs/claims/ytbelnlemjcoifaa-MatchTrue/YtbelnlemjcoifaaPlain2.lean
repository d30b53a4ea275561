/-
  signs.Plain's function literal; signs.Change by it.
-/
import Derived.Maps.OwnOps
import Derived.Test.YtbelnlemjcoifaaPlain1
namespace Go.Proofs.Ytbelnlemjcoifaa
open Go.Proofs Go.RowKit Go.Shelf Go.Maps

theorem lawInt : Keyed Try.prog 3 := int_keyed Try.underlying3
theorem zeroInt (w : World) : (zeroValue 3).run Try.prog w = .ok (.int .i64 0) w := by kernel_rfl
theorem wf64 {s : Int} (h1 : -1000 ≤ s) (h2 : s ≤ 1000) : (Lit.int .i64 s).wf = true := by
  simp [Lit.wf, IntKind.min, IntKind.max, IntKind.signed, IntKind.bits]
  omega

set_option maxRecDepth 100000 in
set_option maxHeartbeats 400000 in
/-- The function literal: of a variable it keeps the new name. -/
theorem rename_any (seen : List Int) (s : Int) (Bf Bm : Nat) (w : World) (h8 : -8 ≤ s) (h6 : s < 6) (hl : seen.length ≤ 500) (hF : FreshAt w Bf Bm seen) :
    Calls Try.prog 73 #[.int .i64 s, .pointer (some ⟨Bf, 0, none⟩)] w fun e w' => ∃ b, e = .returned (.slice (some b) 1 1) ∧ Ints w'.heap.size w' (some b) [Tm.name seen s] ∧ FreshAt w' Bf Bm (Tm.see seen s) ∧ w.grownBy w' (some Bm) := by
  by_cases hs : s < 0
  · have hkey := keyOf_int_mk Try.underlying3 (wf64 (s := s) (by omega) (by omega))
    obtain ⟨hc, D, hown, hM⟩ := hF
    have hh := hM.has s
    cases hct : seen.contains s with
    | true =>
      rw [hct] at hh
      have hat' := hM.at_ s hct
      have hnm : Tm.name seen s = -1 - (Tm.idx seen s : Int) := by unfold Tm.name; rw [if_pos hs]
      have hse : Tm.see seen s = seen := by unfold Tm.see; rw [if_pos hs, if_pos hct]
      rw [hse]
      have Hnm := hid hnm
      have Hat := hid hat'
      have HF : Hid (FreshAt w Bf Bm seen) := ⟨hc, D, hown, hM⟩
      have Hh := hid hh
      clear hnm hat' hse hh hct hM
      go_enter Try.func73, Try.ntmps73
      go_wp2_with (first
        | (at_lookup; go_loud (refine wpList_lookup_own_ok_int _ rfl _ _ 85 rfl 3 3 .i64 lawInt Try.underlying85 Try.underlying3 (zeroInt _) Bm seen.length D rfl hown _ _ rfl hkey ?_); intro c hat hwc; rw [Hh.out]; obtain rfl : -1 - (Tm.idx seen s : Int) = c := (by have := Hat.out.symm.trans hat; simpa using this)))
      go_ret
      have h := ints_lit w [Tm.name seen s] _ rfl
      simp only [List.map_cons, List.map_nil] at h
      rw [Hnm.out] at h ⊢
      exact ⟨_, rfl, by simpa using h, HF.out.keep (Below.heap_alloc _ _ _ HF.out.lt.1) (Below.heap_alloc _ _ _ HF.out.lt.2), World.grownBy_alloc _ _ _⟩
    | false =>
      rw [hct] at hh
      have hnm : Tm.name seen s = -1 - (seen.length : Int) := by unfold Tm.name; rw [if_pos hs, Tm.idx_new hct]
      have hse : Tm.see seen s = seen ++ [s] := by unfold Tm.see; rw [if_pos hs, if_neg (by rw [hct]; decide)]
      rw [hse]
      have Hnm := hid hnm
      have Hh := hid hh
      have Hsz := hid hM.size
      have HM := hid (hM.put (hown.tidy lawInt) hct)
      have hl' : (seen.length : Int) ≤ 500 := by omega
      have hBm := hown.lt
      have hBf : Bf < w.heap.size := lt_of_cell hc
      have hne : Bf ≠ Bm := by
        obtain ⟨es, clock, hb, _⟩ := hown
        exact ne_map hc hb
      have Hne := hid hne
      clear hnm hse hh hct hM hne
      go_enter Try.func73, Try.ntmps73
      go_wp2_with (first
        | (at_lookup; go_loud (refine wpList_lookup_own_ok_int _ rfl _ _ 85 rfl 3 3 .i64 lawInt Try.underlying85 Try.underlying3 (zeroInt _) Bm seen.length D rfl hown _ _ rfl hkey ?_); intro c hat hwc; rw [Hh.out])
        | (at_len; go_loud (refine wpList_len_own _ rfl _ 85 rfl 3 3 Try.underlying85 _ Bm seen.length D rfl hown ?_); rw [Hsz.out])
        | (at_mapUpdate; go_loud (refine wpList_mapUpdate_own _ rfl _ _ _ 85 rfl 3 3 lawInt Try.underlying85 _ Bm seen.length D rfl hown (by unfold maxLen; omega) _ (.int .i64 (-1 - (seen.length : Int))) _ rfl rfl hkey (.lit (.int .i64 (-1 - (seen.length : Int)))) [] (plainElem_int Try.underlying3 (wf64 (by omega) (by omega))) ?_); intro w1 hown1 hgrow1))
      go_ret
      have h := ints_lit w1 [Tm.name seen s] _ rfl
      simp only [List.map_cons, List.map_nil] at h
      rw [Hnm.out] at h ⊢
      have hs1 := hgrow1.size
      refine ⟨_, rfl, by simpa using h, ⟨?_, _, ?_, HM.out⟩, ?_⟩
      · rw [World.cell?_of_block (a := ⟨Bf, 0, none⟩) (Below.heap_alloc w1 _ Bf (by omega)), World.cell?_of_block (a := ⟨Bf, 0, none⟩) (hgrow1.block Bf hBf (by simpa using Hne.out))]
        exact hc
      · rw [List.length_append]
        exact World.ownsMap.alloc hown1 _
      · exact ⟨hgrow1.os, hgrow1.tape, hgrow1.output, by simp; omega, fun k hk hm => (Below.heap_alloc w1 _ k (by omega)).trans (hgrow1.block k hk hm)⟩
  · have hnm : Tm.name seen s = s := by unfold Tm.name; rw [if_neg hs]
    have hse : Tm.see seen s = seen := by unfold Tm.see; rw [if_neg hs]
    rw [hse, hnm]
    have HF := hid hF
    clear hnm hse hF
    go_enter Try.func73, Try.ntmps73
    go_wp2
    go_ret
    have h := ints_lit w [s] _ rfl
    simp only [List.map_cons, List.map_nil] at h
    exact ⟨_, rfl, by simpa using h, HF.out.keep (Below.heap_alloc _ _ _ HF.out.lt.1) (Below.heap_alloc _ _ _ HF.out.lt.2), World.grownBy_alloc _ _ _⟩

set_option maxRecDepth 100000 in
set_option maxHeartbeats 400000 in
/-- signs.Change by it. -/
theorem change_rename (seen : List Int) (t : List Int) (at' : Option Addr) (ct Bf Bm : Nat) (w : World) (ht : t.length ≤ 100) (hl : seen.length ≤ 200) (h8 : ∀ k, k < t.length → -8 ≤ t[k]?.getD 0) (h6 : ∀ k, k < t.length → t[k]?.getD 0 < 6)
    (hF : FreshAt w Bf Bm seen) (hT : Ints w.heap.size w at' t) :
    Calls Try.prog 71 #[.slice at' t.length ct, .func (.func 73) #[] #[.pointer (some ⟨Bf, 0, none⟩)]] w fun e w' =>
      ∃ v, e = .returned v ∧ New w.heap.size w' v (Tm.plainTo seen t t.length) ∧ FreshAt w' Bf Bm (Tm.seenFrom seen t) ∧ Keep w.heap.size Bm w w' := by
  have hlen : (t.length : Int) ≤ 100 := by omega
  obtain ⟨hlf, hlm⟩ := hF.lt
  obtain ⟨es, clock, hmap⟩ := hF.map
  have HF := hid hF
  have HT := hid hT
  have H8 := hid h8
  have H6 := hid h6
  have Hmap := hid hmap
  clear hF hT h8 h6 hmap
  go_enter Try.func71, Try.ntmps71
  go_wp2
  go_loopw [5, 10] (fun v i wr => ∃ k : Nat, k ≤ t.length ∧ i = .int .i64 (k : Int) ∧ New w.heap.size wr v (Tm.plainTo seen t k) ∧ FreshAt wr Bf Bm (Tm.seenFrom seen (t.take k)) ∧ Keep w.heap.size Bm w wr) (fun _ i _ => t.length - (intOf i).toNat)
  case atStart => exact ⟨0, Nat.zero_le _, rfl, New.nil _ _, HF.out, Keep.refl _ _ _⟩
  case round =>
    obtain ⟨k, hk, rfl, hN, hFr, hK⟩ := hrel
    by_cases hlt : k < t.length
    · have hlt' : (k : Int) < (t.length : Int) := by omega
      obtain ⟨b, off, rfl, hb, hc⟩ := HT.out.at (by omega)
      have hck : wr.cell? ⟨b, off + k, none⟩ = some (.int .i64 (t[k]?.getD 0)) := (World.cell?_of_block (a := ⟨b, off + k, none⟩) (hK.block b hb (ne_map (hc k hlt) Hmap.out))).trans (hc k hlt)
      have hsl := Tm.seen_len (t.take k) seen
      rw [List.length_take] at hsl
      have hf := rename_any (Tm.seenFrom seen (t.take k)) (t[k]?.getD 0) Bf Bm wr (H8.out k hlt) (H6.out k hlt) (by omega) hFr
      have hsn := hid (Tm.plainTo_succ seen t k)
      have hsee := hid (Tm.seen_succ seen hlt)
      have Hpl := hid (Tm.plainTo_length seen t k)
      clear hc hsl hFr
      generalize Tm.name (Tm.seenFrom seen (t.take k)) (t[k]?.getD 0) = nm at *
      generalize Tm.see (Tm.seenFrom seen (t.take k)) (t[k]?.getD 0) = seen' at *
      generalize t[k]?.getD 0 = s at *
      generalize Tm.plainTo seen t k = xs at *
      obtain ⟨a0, c0, rfl, _⟩ := New.ints hN
      go_wp2_with (first
        | (go_at_call 73; refine hf.mono ?_; clear hf; rintro e w1 ⟨b1, rfl, hI1, hF1, hg1⟩; have hN1 : New w.heap.size w1 (.slice a0 xs.length c0) xs := World.ownsRow.kept hN hg1 (by cases h : (Value.slice a0 xs.length c0).ownBlock with | none => exact .inl rfl | some q => exact .inr (by have := (World.ownsRow.lt hN q h).1; simp; omega)); have hK1 := hK.trans (Keep.of_grown hg1 hK.size))
        | (at_builtin; go_loud (refine wp_append_ints _ rfl _ _ rfl w.heap.size _ xs rfl hN1 (some b1) [nm] 1 rfl (fun e => by cases e) hI1 (by simp [Hpl.out]; omega) hK1.size ?_); intro v' w2 hN2 hB3; obtain ⟨a2, c2, rfl, _⟩ := New.ints hN2))
      go_roundw
      case rel => exact ⟨k + 1, by omega, by go_num, by rw [hsn.out]; simpa using hN2, by rw [hsee.out]; exact hF1.keep (hB3.block Bf hlf) (hB3.block Bm hlm), hK1.trans (Keep.of_below hB3)⟩
      case measure => simp [intOf]; omega
    · obtain rfl : k = t.length := by omega
      rw [List.take_length] at hFr
      obtain ⟨a2, c2, rfl, _⟩ := New.ints hN
      go_wp2
      go_ret
      exact ⟨_, rfl, hN, hFr, hK⟩

end Go.Proofs.Ytbelnlemjcoifaa
