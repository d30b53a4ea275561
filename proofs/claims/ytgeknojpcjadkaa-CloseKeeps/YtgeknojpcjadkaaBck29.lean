/-
  hasplaw.world; from the frame's word on a world that came in to ours.
-/
import Derived.Deep.RegionHeld3
import Derived.Deep.DrawnRows
import Derived.OpenShut
import Derived.Deep.SlicePairs
import Derived.Test.YtgeknojpcjadkaaBck28
namespace Go.Proofs.Ytgeknojpcjadkaa
open Go.Proofs Go.RowKit Go.Shelf Go.Maps

attribute [local go_sem ↓] Go.wp_at_zero Go.wp_at_succ

/-- Do all rules hold? -/
def worldB (zs : List Int) (rs : RuleL) : Bool := rs.all fun r => Tm.holdsB (mo zs) r.1 r.2 (max (dpN r.1) (dpN r.2))
theorem worldB_snoc {zs : List Int} {rs : RuleL} {k : Nat} (hk : k < rs.length) (h : worldB zs (rs.take k) = true) : worldB zs (rs.take (k + 1)) = Tm.holdsB (mo zs) (rs[k]?.getD ([], [])).1 (rs[k]?.getD ([], [])).2 (max (dpN (rs[k]?.getD ([], [])).1) (dpN (rs[k]?.getD ([], [])).2)) := by
  unfold worldB at *
  rw [List.take_add_one, List.all_append, h]
  simp [hk]
theorem worldB_no {zs : List Int} {rs : RuleL} {k : Nat} (hk : k < rs.length) (h : Tm.holdsB (mo zs) (rs[k]?.getD ([], [])).1 (rs[k]?.getD ([], [])).2 (max (dpN (rs[k]?.getD ([], [])).1) (dpN (rs[k]?.getD ([], [])).2)) = false) : worldB zs rs = false := by
  rw [Bool.eq_false_iff]
  intro e
  unfold worldB at e
  rw [List.all_eq_true] at e
  have := e rs[k] (List.getElem_mem hk)
  simp only [hk, List.getElem?_eq_getElem, Option.getD_some] at h
  rw [h] at this
  cases this
theorem dp_all (t : List Int) {n : Nat} (h : dpN t ≤ n) : ∀ s ∈ t, s < 0 → -s ≤ (n : Int) := fun s hs _ => by
  have := dpN_in (t := t) t.length (Nat.le_refl _) s (by rw [List.take_length]; exact hs)
  rw [List.take_length] at this
  omega
theorem worldB_holds {zs : List Int} {rs : RuleL} (hr : Tm.rulesErr rs = 0) (h : worldB zs rs = true) : ∀ k, k < rs.length → Tm.Holds (mo zs) (rs[k]?.getD ([], [])).1 (rs[k]?.getD ([], [])).2 := fun k hk => by
  obtain ⟨eL, eR, _⟩ := Tm.ruleErr_ok ((Tm.rulesErr_ok hr).2 k hk)
  unfold worldB at h
  rw [List.all_eq_true] at h
  have h1 := h rs[k] (List.getElem_mem hk)
  simp only [hk, List.getElem?_eq_getElem, Option.getD_some] at eL eR ⊢
  exact (Tm.holdsB_iff eL eR (dp_all _ (by omega)) (dp_all _ (by omega))).1 h1

set_option maxRecDepth 100000 in
set_option maxHeartbeats 4000000 in
theorem world_any (zs : List Int) (hz : MoOk zs) (rs : RuleL) (a : Option Addr) (cap : Nat) (w : World) (hr : Tm.rulesErr rs = 0) (hI : RulesAt w.heap.size w a rs) :
    Calls Try.prog 15 #[moV zs, .slice a rs.length cap] w fun e w' => e = .returned (.bool (worldB zs rs)) ∧ Below w.heap.size w w' := by
  obtain ⟨h8, hall⟩ := Tm.rulesErr_ok hr
  have h8' : (rs.length : Int) ≤ 8 := by omega
  unfold moV
  have bM := World.alloc_heap_new w (.cells (zs.map (Value.int .i64)).toArray 29)
  have hB0 : Below w.heap.size w (w.alloc (.cells (zs.map (Value.int .i64)).toArray 29)) := (Below.refl _ w).alloc (Nat.le_refl _) _
  obtain ⟨W1, hW1⟩ : ∃ W1, w.alloc (.cells (zs.map (Value.int .i64)).toArray 29) = W1 := ⟨_, rfl⟩
  have hs1 : W1.heap.size = w.heap.size + 1 := by rw [← hW1]; simp
  rw [hW1] at bM hB0
  have HI := hid ((hI.below hB0).mono hB0.size)
  have HH := hid (fun W k (hk : k < rs.length) aL aR cL cR hL hR => holds_any zs hz (rs[k]?.getD ([], [])).1 (rs[k]?.getD ([], [])).2 aL aR cL cR W (Tm.ruleErr_ok (hall k hk)).1 (Tm.ruleErr_ok (hall k hk)).2.1 hL hR)
  unfold moV at HH
  have HR := hid (fun W (hW : Below W1.heap.size W1 W) => mo_range (zs := zs) ((hW.block w.heap.size (by omega)).trans bM))
  have Hz := hid hz
  clear hr hall h8 hI bM hz
  go_enter Try.func15, Try.ntmps15
  go_wp2
  go_loopw [5] (fun v wr => ∃ k : Nat, k ≤ rs.length ∧ v = .int .i64 (k : Int) ∧ Hid (worldB zs (rs.take k) = true) ∧ Below W1.heap.size W1 wr) (fun v _ => rs.length - (intOf v).toNat)
  case atStart => exact ⟨0, Nat.zero_le _, rfl, hid rfl, Below.refl _ _⟩
  case round =>
    obtain ⟨k, hk, rfl, hst, hB⟩ := hrel
    by_cases hlt : k < rs.length
    · have hlt' : (k : Int) < (rs.length : Int) := by omega
      obtain ⟨b, off, rfl, hb, aL, cL, aR, cR, g1, g2, g3, g4, g5, g6, g7, g8⟩ := (HI.out.below hB) k hlt
      have hbw : b < wr.heap.size := Nat.lt_of_lt_of_le hb hB.size
      have hs1 := hid (worldB_snoc hlt hst.out)
      have hs2 := hid (fun h => worldB_no (zs := zs) hlt h)
      have hC := hid (fun W (hW : Below wr.heap.size wr W) => HH.out W k hlt aL aR cL cR (((g3.mono hB.size).below hW).mono hW.size) (((g4.mono hB.size).below hW).mono hW.size))
      generalize (rs[k]?.getD ([], [])).1 = L at *
      generalize (rs[k]?.getD ([], [])).2 = R at *
      have hS := hid (fun w' (hW : Below wr.heap.size wr w') => (show w'.rangeAt w.heap.size 0 (zs.map (Value.int .i64)) ∧ w'.cell? ⟨b, off + k * 2, none⟩ = some (.slice aL L.length cL) ∧ w'.cell? ⟨b, off + k * 2 + 1, none⟩ = some (.slice aR R.length cR) from
        ⟨HR.out w' (hB.trans (hW.mono hB.size)), (hW.cell (p := ⟨b, off + k * 2, none⟩) hbw).trans g1, (hW.cell (p := ⟨b, off + k * 2 + 1, none⟩) hbw).trans g2⟩))
      have hS0 := hS.out wr (Below.refl _ wr)
      have hS1 := hS.out _ (below_drewN (Below.refl _ wr) 1)
      have hu53 := hid Try.underlying29
      have hi53 := hid (show (Try.prog.info? 29).map (·.size) = some (zs.map (Value.int .i64)).length by rw [List.length_map, Hz.out.len]; kernel_rfl)
      clear g3 g4 g5 g6 g7 g8
      cases hq : Tm.holdsB (mo zs) L R (max (dpN L) (dpN R)) with
      | true =>
        rw [hq] at hC hs1
        clear hq hs2
        go_wp2_with fail
        refine wp_region_held_drew (S := fun w' => w'.rangeAt w.heap.size 0 (zs.map (Value.int .i64)) ∧ w'.cell? ⟨b, off + k * 2, none⟩ = some (.slice aL L.length cL) ∧ w'.cell? ⟨b, off + k * 2 + 1, none⟩ = some (.slice aR R.length cR)) (by kernel_rfl) hS1 (fun hHeld => ?_)
        show wpAnyH _ _ _ _ _ 13 (Array.replicate 13 false) _ _
        refine wpAnyH_take (i := 0) (v := .agg (zs.map (Value.int .i64)).toArray) rfl (by kernel_rfl) (by kernel_rfl) (by kernel_rfl) (fun _ _ _ h => h) (yieldsIf_load_mid (by rfl) 29 _ rfl _ _ rfl (zs.map (Value.int .i64)) _ (fun w h => h.1) hu53.out rfl hi53.out) hHeld ?_
        refine wpAnyH_take (i := 1) (v := .slice (some ⟨b, off, none⟩) rs.length cap) rfl (by kernel_rfl) (by kernel_rfl) (by kernel_rfl) (fun _ _ _ h => h) (Or.inl ⟨by rfl, fun w hSw => by obtain ⟨_, hSa, hSb⟩ := hSw; go_simp⟩) hHeld ?_
        refine wpAnyH_take (i := 2) (v := .int .i64 (k : Int)) rfl (by kernel_rfl) (by kernel_rfl) (by kernel_rfl) (fun _ _ _ h => h) (Or.inl ⟨by rfl, fun w hSw => by obtain ⟨_, hSa, hSb⟩ := hSw; go_simp⟩) hHeld ?_
        refine wpAnyH_take (i := 3) (v := .pointer (some ⟨b, off + k * 2, none⟩)) rfl (by kernel_rfl) (by kernel_rfl) (by kernel_rfl) (fun _ _ _ h => h) (Or.inl ⟨by rfl, fun w hSw => by obtain ⟨_, hSa, hSb⟩ := hSw; go_simp⟩) hHeld ?_
        refine wpAnyH_take (i := 4) (v := .pointer (some ⟨b, off + k * 2, none⟩)) rfl (by kernel_rfl) (by kernel_rfl) (by kernel_rfl) (fun _ _ _ h => h) (Or.inl ⟨by rfl, fun w hSw => by obtain ⟨_, hSa, hSb⟩ := hSw; go_simp⟩) hHeld ?_
        refine wpAnyH_take (i := 5) (v := .slice aL L.length cL) rfl (by kernel_rfl) (by kernel_rfl) (by kernel_rfl) (fun _ _ _ h => h) (Or.inl ⟨by rfl, fun w hSw => by obtain ⟨_, hSa, hSb⟩ := hSw; go_simp⟩) hHeld ?_
        refine wpAnyH_take (i := 6) (v := .slice (some ⟨b, off, none⟩) rs.length cap) rfl (by kernel_rfl) (by kernel_rfl) (by kernel_rfl) (fun _ _ _ h => h) (Or.inl ⟨by rfl, fun w hSw => by obtain ⟨_, hSa, hSb⟩ := hSw; go_simp⟩) hHeld ?_
        refine wpAnyH_take (i := 7) (v := .int .i64 (k : Int)) rfl (by kernel_rfl) (by kernel_rfl) (by kernel_rfl) (fun _ _ _ h => h) (Or.inl ⟨by rfl, fun w hSw => by obtain ⟨_, hSa, hSb⟩ := hSw; go_simp⟩) hHeld ?_
        refine wpAnyH_take (i := 8) (v := .pointer (some ⟨b, off + k * 2, none⟩)) rfl (by kernel_rfl) (by kernel_rfl) (by kernel_rfl) (fun _ _ _ h => h) (Or.inl ⟨by rfl, fun w hSw => by obtain ⟨_, hSa, hSb⟩ := hSw; go_simp⟩) hHeld ?_
        refine wpAnyH_take (i := 9) (v := .pointer (some ⟨b, off + k * 2 + 1, none⟩)) rfl (by kernel_rfl) (by kernel_rfl) (by kernel_rfl) (fun _ _ _ h => h) (Or.inl ⟨by rfl, fun w hSw => by obtain ⟨_, hSa, hSb⟩ := hSw; go_simp⟩) hHeld ?_
        refine wpAnyH_take (i := 10) (v := .slice aR R.length cR) rfl (by kernel_rfl) (by kernel_rfl) (by kernel_rfl) (fun _ _ _ h => h) (Or.inl ⟨by rfl, fun w hSw => by obtain ⟨_, hSa, hSb⟩ := hSw; go_simp⟩) hHeld ?_
        refine wpAnyH_ready (rs := [11]) (by kernel_rfl) (by simp) (AllReadyH.cons rfl (fun K hK => ?_) AllReadyH.nil)
        go_simp
        refine (hC.out _ (below_drew1 (Below.refl _ wr))).mono ?_
        clear hC
        rintro e w2 ⟨rfl, b2⟩
        have b3 : Below wr.heap.size wr w2 := ⟨b2.os, b2.tape, b2.output, b2.size, b2.block⟩
        refine hK.out _ _ (hS.out w2 b3) (fun hHeld2 => ?_)
        clear hK K
        refine wpAnyH_ready (rs := [12]) (by kernel_rfl) (by simp) (AllReadyH.cons rfl (fun K hK => ?_) AllReadyH.nil)
        go_simp
        refine hK.out _ _ (hS.out w2 b3) (fun _ => ?_)
        clear hK K
        refine wpAnyH_done (by kernel_rfl) ?_ _
        go_wp2
        go_roundw
        case rel => exact ⟨k + 1, by omega, by go_num, hid hs1.out, hB.trans (b3.mono hB.size)⟩
        case measure => simp [intOf]; omega
      | false =>
        have hno := hid (hs2.out hq)
        rw [hq] at hC
        clear hq hs1 hs2
        go_wp2_with fail
        refine wp_region_held_drew (S := fun w' => w'.rangeAt w.heap.size 0 (zs.map (Value.int .i64)) ∧ w'.cell? ⟨b, off + k * 2, none⟩ = some (.slice aL L.length cL) ∧ w'.cell? ⟨b, off + k * 2 + 1, none⟩ = some (.slice aR R.length cR)) (by kernel_rfl) hS1 (fun hHeld => ?_)
        show wpAnyH _ _ _ _ _ 13 (Array.replicate 13 false) _ _
        refine wpAnyH_take (i := 0) (v := .agg (zs.map (Value.int .i64)).toArray) rfl (by kernel_rfl) (by kernel_rfl) (by kernel_rfl) (fun _ _ _ h => h) (yieldsIf_load_mid (by rfl) 29 _ rfl _ _ rfl (zs.map (Value.int .i64)) _ (fun w h => h.1) hu53.out rfl hi53.out) hHeld ?_
        refine wpAnyH_take (i := 1) (v := .slice (some ⟨b, off, none⟩) rs.length cap) rfl (by kernel_rfl) (by kernel_rfl) (by kernel_rfl) (fun _ _ _ h => h) (Or.inl ⟨by rfl, fun w hSw => by obtain ⟨_, hSa, hSb⟩ := hSw; go_simp⟩) hHeld ?_
        refine wpAnyH_take (i := 2) (v := .int .i64 (k : Int)) rfl (by kernel_rfl) (by kernel_rfl) (by kernel_rfl) (fun _ _ _ h => h) (Or.inl ⟨by rfl, fun w hSw => by obtain ⟨_, hSa, hSb⟩ := hSw; go_simp⟩) hHeld ?_
        refine wpAnyH_take (i := 3) (v := .pointer (some ⟨b, off + k * 2, none⟩)) rfl (by kernel_rfl) (by kernel_rfl) (by kernel_rfl) (fun _ _ _ h => h) (Or.inl ⟨by rfl, fun w hSw => by obtain ⟨_, hSa, hSb⟩ := hSw; go_simp⟩) hHeld ?_
        refine wpAnyH_take (i := 4) (v := .pointer (some ⟨b, off + k * 2, none⟩)) rfl (by kernel_rfl) (by kernel_rfl) (by kernel_rfl) (fun _ _ _ h => h) (Or.inl ⟨by rfl, fun w hSw => by obtain ⟨_, hSa, hSb⟩ := hSw; go_simp⟩) hHeld ?_
        refine wpAnyH_take (i := 5) (v := .slice aL L.length cL) rfl (by kernel_rfl) (by kernel_rfl) (by kernel_rfl) (fun _ _ _ h => h) (Or.inl ⟨by rfl, fun w hSw => by obtain ⟨_, hSa, hSb⟩ := hSw; go_simp⟩) hHeld ?_
        refine wpAnyH_take (i := 6) (v := .slice (some ⟨b, off, none⟩) rs.length cap) rfl (by kernel_rfl) (by kernel_rfl) (by kernel_rfl) (fun _ _ _ h => h) (Or.inl ⟨by rfl, fun w hSw => by obtain ⟨_, hSa, hSb⟩ := hSw; go_simp⟩) hHeld ?_
        refine wpAnyH_take (i := 7) (v := .int .i64 (k : Int)) rfl (by kernel_rfl) (by kernel_rfl) (by kernel_rfl) (fun _ _ _ h => h) (Or.inl ⟨by rfl, fun w hSw => by obtain ⟨_, hSa, hSb⟩ := hSw; go_simp⟩) hHeld ?_
        refine wpAnyH_take (i := 8) (v := .pointer (some ⟨b, off + k * 2, none⟩)) rfl (by kernel_rfl) (by kernel_rfl) (by kernel_rfl) (fun _ _ _ h => h) (Or.inl ⟨by rfl, fun w hSw => by obtain ⟨_, hSa, hSb⟩ := hSw; go_simp⟩) hHeld ?_
        refine wpAnyH_take (i := 9) (v := .pointer (some ⟨b, off + k * 2 + 1, none⟩)) rfl (by kernel_rfl) (by kernel_rfl) (by kernel_rfl) (fun _ _ _ h => h) (Or.inl ⟨by rfl, fun w hSw => by obtain ⟨_, hSa, hSb⟩ := hSw; go_simp⟩) hHeld ?_
        refine wpAnyH_take (i := 10) (v := .slice aR R.length cR) rfl (by kernel_rfl) (by kernel_rfl) (by kernel_rfl) (fun _ _ _ h => h) (Or.inl ⟨by rfl, fun w hSw => by obtain ⟨_, hSa, hSb⟩ := hSw; go_simp⟩) hHeld ?_
        refine wpAnyH_ready (rs := [11]) (by kernel_rfl) (by simp) (AllReadyH.cons rfl (fun K hK => ?_) AllReadyH.nil)
        go_simp
        refine (hC.out _ (below_drew1 (Below.refl _ wr))).mono ?_
        clear hC
        rintro e w2 ⟨rfl, b2⟩
        have b3 : Below wr.heap.size wr w2 := ⟨b2.os, b2.tape, b2.output, b2.size, b2.block⟩
        refine hK.out _ _ (hS.out w2 b3) (fun hHeld2 => ?_)
        clear hK K
        refine wpAnyH_ready (rs := [12]) (by kernel_rfl) (by simp) (AllReadyH.cons rfl (fun K hK => ?_) AllReadyH.nil)
        go_simp
        refine hK.out _ _ (hS.out w2 b3) (fun _ => ?_)
        clear hK K
        refine wpAnyH_done (by kernel_rfl) ?_ _
        go_wp2
        go_ret
        exact ⟨ret_bool hno.out.symm, hB0.trans ((hB.trans (b3.mono hB.size)).mono (by omega))⟩
    · obtain rfl : k = rs.length := by omega
      rw [List.take_length] at hst
      go_wp2
      go_ret
      exact ⟨ret_bool hst.out.symm, hB0.trans (hB.mono (by omega))⟩

/-! The frame. -/
/-- Ints, each as it must be. -/
def AllInt (cs : List Value) : Prop := ∀ j, j < cs.length → ∃ z, cs[j]? = some (.int .i64 z) ∧ (Lit.int .i64 z).wf = true
theorem allInt_array {H : Type} {enc : TypeId × Value → H} {w : World} {base : Nat} {spare : Nat → Bool} {held : Bool} {t e : TypeId} {n m : Nat} (ht : Try.prog.underlying t = some (.array n e)) (hc : Try.prog.cellsOf t = n * m) (hm : Try.prog.cellsOf e = m)
    (he : ∀ fuel cs x, DataW.trod enc Try.prog w base spare held fuel e cs = some x → AllInt cs) (fuel : Nat) (cs : List Value) (x : DataW H × List MemPlace) (h : DataW.trod enc Try.prog w base spare held fuel t cs = some x) : AllInt cs := by
  obtain ⟨xs, f, _, _, hl, hx, hf⟩ := DataW.trod_array ht h
  intro j hj
  rw [hl, hc] at hj
  have hm0 : 0 < m := Nat.pos_of_ne_zero fun e => by subst e; simp at hj
  have hi : j / m < n := Nat.div_lt_of_lt_mul (by rw [Nat.mul_comm]; exact hj)
  have hr : j % m < m := Nat.mod_lt _ hm0
  have h1 := hf (j / m) hi
  rw [List.getElem?_eq_getElem (by omega), hm] at h1
  have hlen : ((cs.drop (j / m * m)).take m).length = m := by
    rw [List.length_take, List.length_drop, hl, hc]
    have : j / m * m + m ≤ n * m := by
      rw [← Nat.succ_mul]; exact Nat.mul_le_mul_right m hi
    omega
  obtain ⟨z, hz, hw⟩ := he _ _ _ h1 (j % m) (by rw [hlen]; exact hr)
  refine ⟨z, ?_, hw⟩
  rw [List.getElem?_take_of_lt hr, List.getElem?_drop] at hz
  have hidx : j / m * m + j % m = j := by rw [Nat.mul_comm]; exact Nat.div_add_mod j m
  rw [hidx] at hz
  exact hz
theorem allInt_int {H : Type} {enc : TypeId × Value → H} {w : World} {base : Nat} {spare : Nat → Bool} {held : Bool} (fuel : Nat) (cs : List Value) (x : DataW H × List MemPlace) (h : DataW.trod enc Try.prog w base spare held fuel 3 cs = some x) : AllInt cs := by
  obtain ⟨n, rfl, _, hw⟩ := DataW.trod_int Try.underlying3 h
  intro j hj
  obtain rfl : j = 0 := by simp at hj; omega
  exact ⟨n, rfl, hw⟩
set_option maxRecDepth 100000 in
theorem model_open {H : Type} {enc : TypeId × Value → H} {w : World} {base b0 : Nat} {r : Reach} {spare : Nat → Bool} {held : Bool} {fuel : Nat} {v : Value} {cs : List Value} {x : DataW H × List MemPlace} (hv : Value.okWide Try.prog w r b0 29 v) (hcs : cs = v.cells.toList) (h : DataW.trod enc Try.prog w base spare held fuel 29 cs = some x) :
    ∃ zs, MoOk zs ∧ v = moV zs := by
  simp only [Value.okWide, Try.underlying29] at hv
  obtain ⟨C, rfl, hC, _⟩ := hv
  have hc26 : Try.prog.cellsOf 29 = 26 := by kernel_rfl
  rw [hc26] at hC
  have hcs' : cs = C.toList := by rw [hcs]; rfl
  subst hcs'
  obtain ⟨xs, f, _, _, hl, hx, hf⟩ := DataW.trod_struct Try.underlying29 h
  have hx3 : xs.length = 3 := hx
  have i3 := fun fuel cs x h => allInt_array (enc := enc) (w := w) (base := base) (spare := spare) (held := held) (n := 3) (m := 1) Try.underlying24 (by kernel_rfl) (by kernel_rfl) (fun fuel cs x h => allInt_int fuel cs x h) fuel cs x h
  have i33 := fun fuel cs x h => allInt_array (enc := enc) (w := w) (base := base) (spare := spare) (held := held) (n := 3) (m := 3) Try.underlying26 (by kernel_rfl) (by kernel_rfl) (fun fuel cs x h => i3 fuel cs x h) fuel cs x h
  have h0 := hf 0 _ rfl
  have h1 := hf 1 _ rfl
  have h2 := hf 2 _ rfl
  rw [List.getElem?_eq_getElem (by omega)] at h0 h1 h2
  have a0 := allInt_array (n := 2) (m := 1) Try.underlying23 (by kernel_rfl) (by kernel_rfl) (fun fuel cs x h => allInt_int fuel cs x h) _ _ _ h0
  have a1 := allInt_array (n := 2) (m := 3) Try.underlying25 (by kernel_rfl) (by kernel_rfl) (fun fuel cs x h => i3 fuel cs x h) _ _ _ h1
  have a2 := allInt_array (n := 2) (m := 9) Try.underlying27 (by kernel_rfl) (by kernel_rfl) (fun fuel cs x h => i33 fuel cs x h) _ _ _ h2
  have c0 : Try.prog.cellsOf 23 = 2 := by kernel_rfl
  have c1 : Try.prog.cellsOf 25 = 6 := by kernel_rfl
  have c2 : Try.prog.cellsOf 27 = 18 := by kernel_rfl
  have a0 : AllInt ((C.toList.drop 0).take (Try.prog.cellsOf 23)) := a0
  have a1 : AllInt ((C.toList.drop 2).take (Try.prog.cellsOf 25)) := a1
  have a2 : AllInt ((C.toList.drop 8).take (Try.prog.cellsOf 27)) := a2
  rw [c0] at a0
  rw [c1] at a1
  rw [c2] at a2
  have hlC : C.toList.length = 26 := by simpa using hC
  have hall : ∀ j, j < 26 → ∃ z, C.toList[j]? = some (.int .i64 z) ∧ (Lit.int .i64 z).wf = true := by
    intro j hj
    by_cases hj0 : j < 2
    · obtain ⟨z, hz, hw⟩ := a0 j (by rw [List.length_take, List.length_drop, hlC]; omega)
      refine ⟨z, ?_, hw⟩
      rw [List.getElem?_take_of_lt (by omega), List.getElem?_drop] at hz
      simpa using hz
    · by_cases hj1 : j < 8
      · obtain ⟨z, hz, hw⟩ := a1 (j - 2) (by rw [List.length_take, List.length_drop, hlC]; omega)
        refine ⟨z, ?_, hw⟩
        rw [List.getElem?_take_of_lt (by omega), List.getElem?_drop, show 2 + (j - 2) = j by omega] at hz
        exact hz
      · obtain ⟨z, hz, hw⟩ := a2 (j - 8) (by rw [List.length_take, List.length_drop, hlC]; omega)
        refine ⟨z, ?_, hw⟩
        rw [List.getElem?_take_of_lt (by omega), List.getElem?_drop, show 8 + (j - 8) = j by omega] at hz
        exact hz
  obtain ⟨g, hg⟩ := Go.Deep.choose_lt hall
  refine ⟨(List.range 26).map g, ⟨by simp, fun i => ?_⟩, ?_⟩
  · by_cases hi : i < 26
    · simp [hi, (hg i hi).2]
    · simp [hi]; decide
  · unfold moV
    congr 1
    apply Array.ext'
    apply List.ext_getElem?
    intro i
    by_cases hi : i < 26
    · rw [(hg i hi).1]; simp [hi]
    · rw [List.getElem?_eq_none (by omega)]; simp [hi]

end Go.Proofs.Ytgeknojpcjadkaa
