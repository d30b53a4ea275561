/-
  hasplaw.world; from the frame's word on a world that came in to ours.
-/
import Derived.Deep.RegionHeld3
import Derived.Deep.DrawnRows
import Derived.OpenShut
import Derived.Deep.SlicePairs
import Derived.Test.YtgpnkfjajfpdjaaBpo23
namespace Go.Proofs.Ytgpnkfjajfpdjaa
open Go.Proofs Go.RowKit Go.Shelf Go.Maps

attribute [local go_sem ↓] Go.wp_at_zero Go.wp_at_succ

/-- Do all rules hold? -/
def worldB (zs : List Int) (rs : RuleL) : Bool := rs.all fun r => Tm.holdsB (mo zs) r.1 r.2 (max (dpN r.1) (dpN r.2))
theorem dp_all (t : List Int) {n : Nat} (h : dpN t ≤ n) : ∀ s ∈ t, s < 0 → -s ≤ (n : Int) := fun s hs _ => by
  have := dpN_in (t := t) t.length (Nat.le_refl _) s (by rw [List.take_length]; exact hs)
  rw [List.take_length] at this
  omega
theorem worldB_holds {zs : List Int} {rs : RuleL} (hr : Tm.rulesErr rs = 0) (h : worldB zs rs = true) : ∀ k, k < rs.length → Tm.Holds (mo zs) (rs[k]?.getD ([], [])).1 (rs[k]?.getD ([], [])).2 := fun k hk => by
  obtain ⟨eL, eR, _⟩ := Tm.ruleErr_ok ((Tm.rulesErr_ok hr).2 k hk)
  unfold worldB at h
  rw [List.all_eq_true] at h
  have h1 := h rs[k] (List.getElem_mem hk)
  simp only [hk, List.getElem?_eq_getElem, Option.getD_some] at eL eR ⊢
  exact (Tm.holdsB_iff eL eR (dp_all _ (by omega)) (dp_all _ (by omega))).1 h1

/-! The frame. -/
/-- Ints, each as it must be. -/
def AllInt (cs : List Value) : Prop := ∀ j, j < cs.length → ∃ z, cs[j]? = some (.int .i64 z) ∧ (Lit.int .i64 z).wf = true
end Go.Proofs.Ytgpnkfjajfpdjaa
