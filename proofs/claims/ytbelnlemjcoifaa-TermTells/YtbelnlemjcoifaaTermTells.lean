/-
  Whatever list of signs and whatever place TermTells is handed, it answers true and changes nothing that it was handed: term.Check, End and Part answer just what the document says. No condition.
-/
import Derived.Test.YtbelnlemjcoifaaRows
import Derived.WalkKit
import Derived.ProofKit
import Derived.OpenShut
import Derived.ShutString
import Derived.ChangeOld
import Derived.Below
import Derived.Test.YtbelnlemjcoifaaRow
namespace Go.Proofs.Ytbelnlemjcoifaa.termTells
open Go.ChangeShapes Go.WideShapes Go.ChangeAt Go.RowKit
open Go.ChangeMaps (open_string shut_string)
set_option linter.unusedVariables false

theorem own : ownKnob Try.prog.godebug = none := by kernel_rfl
theorem laidOut : laidOutB Try.prog = true := by kernel_rfl

/-- WHAT THE WALK IS TOLD OF A SLICE OF INTEGERS THAT CAME IN: it is nil; or it leads to a row of 'cap' cells, the numbers 'zs' (the first 'len' are its elements, the rest its spare room), each fitting its kind. -/
def IsRow (k : IntKind) (w : World) (a : Option Addr) (len cap : Nat) (zs : List Int) : Prop :=
  (a = none ∧ len = 0 ∧ cap = 0 ∧ zs = []) ∨
  ∃ x, a = some x ∧ len ≤ cap ∧ cap ≤ maxLen ∧ zs.length = cap ∧ (∀ i, i < zs.length → w.cell? (x.add i) = some (.int k (zs.getD i 0))) ∧ ∀ n ∈ zs, (Lit.int k n).wf = true

/-! The walk. -/
theorem walk (a0 : Option Addr) (len0 cap0 : Nat) (z0 : List Int) (a1 : Int) (w : World) (w0 : IsRow .i64 w a0 len0 cap0 z0) (w1 : (Lit.int .i64 a1).wf = true) :
    Calls Try.prog 3 #[.slice a0 len0 cap0, .int .i64 a1] w fun e w' => e = .returned (.bool true) ∧ Below w.heap.size w w' := by
  obtain ⟨zs, rfl, hI, hcap, hcap2, _⟩ := ints_of_row w0
  clear w0 w1
  have hE := termEnd_any zs a0 cap0 a1 w hI
  have hP : ∀ W, Below w.heap.size w W → Calls Try.prog 15 #[.slice a0 zs.length cap0, .int .i64 a1] W fun e w' => ∃ v, e = .returned (.tuple #[v, .int .i64 (Tm.placeErr zs a1)]) ∧ New W.heap.size w' v (Tm.partVal zs a1) ∧ Below W.heap.size W w' :=
    fun W hW => termPart_any zs a0 cap0 a1 W ((hI.below hW).mono hW.size) hcap
  have hRE : ∀ W, Below w.heap.size w W → Calls Try.prog 16 #[.slice a0 zs.length cap0, .int .i64 a1] W fun e w' => e = .returned (.tuple #[.int .i64 (Tm.endVal zs a1), .int .i64 (Tm.placeErr zs a1)]) ∧ Below W.heap.size W w' :=
    fun W hW => refEnd_any zs a0 cap0 a1 W ((hI.below hW).mono hW.size) hcap hcap2
  have hRP : ∀ W, Below w.heap.size w W → Calls Try.prog 17 #[.slice a0 zs.length cap0, .int .i64 a1] W fun e w' => ∃ v, e = .returned (.tuple #[v, .int .i64 (Tm.placeErr zs a1)]) ∧ New W.heap.size w' v (Tm.partVal zs a1) ∧ Below W.heap.size W w' :=
    fun W hW => refPart_any zs a0 cap0 a1 W ((hI.below hW).mono hW.size) hcap hcap2
  have hC : ∀ W, Below w.heap.size w W → Calls Try.prog 19 #[.slice a0 zs.length cap0] W fun e w' => e = .returned (.int .i64 (Tm.err zs)) ∧ Below W.heap.size W w' :=
    fun W hW => check_any zs a0 cap0 W ((hI.below hW).mono hW.size)
  have hT : ∀ W, Below w.heap.size w W → Calls Try.prog 20 #[.slice a0 zs.length cap0] W fun e w' => e = .returned (.int .i64 (Tm.err zs)) ∧ w' = W :=
    fun W hW => termError_any zs a0 cap0 W ((hI.below hW).mono hW.size)
  have hpl : (Tm.partVal zs a1).length ≤ maxLen := by
    unfold Tm.partVal
    by_cases hp : Tm.placeErr zs a1 = 0
    · rw [if_pos hp]
      obtain ⟨he, _, hk1, hk2⟩ := Tm.place_ok hp
      rw [Tm.part_length he (by omega)]
      have := Tm.end_in he (k := a1.toNat) (by omega)
      have := Tm.err_len he
      unfold maxLen
      omega
    · rw [if_neg hp]; exact Nat.zero_le _
  have HP := hid hP
  have HRE := hid hRE
  have HRP := hid hRP
  have HC := hid hC
  have HT := hid hT
  have Hpl := hid hpl
  clear hP hRE hRP hC hT hpl hI hcap hcap2
  generalize Tm.partVal zs a1 = pv at *
  generalize Tm.placeErr zs a1 = pe at *
  generalize Tm.endVal zs a1 = ev at *
  generalize Tm.err zs = er at *
  go_enter Try.func3, Try.ntmps3
  go_wp2_with fail
  refine hE.mono ?_
  rintro e w1 ⟨rfl, hB1⟩
  clear hE
  go_wp2_with fail
  refine (HP.out _ hB1).mono ?_
  rintro e w2 ⟨v2, rfl, hN2, hB2⟩
  obtain ⟨a2, c2, rfl, _⟩ := New.ints hN2
  have hB3 := hB1.trans (hB2.mono hB1.size)
  clear hB1 hB2 HP
  go_wp2_with fail
  refine (HRE.out _ hB3).mono ?_
  rintro e w3 ⟨rfl, hB4⟩
  have hB5 := hB3.trans (hB4.mono hB3.size)
  have hN3 := hN2.below hB4
  clear hB3 hB4 HRE hN2
  go_wp2_with fail
  refine (HRP.out _ hB5).mono ?_
  rintro e w4 ⟨v4, rfl, hN4, hB6⟩
  obtain ⟨a4, c4, rfl, _⟩ := New.ints hN4
  have hB7 := hB5.trans (hB6.mono hB5.size)
  have hN5 := hN3.below hB6
  clear hB5 hB6 HRP hN3
  go_wp2_with fail
  refine (termBegun_any _).mono ?_
  rintro e w5 ⟨rfl, hB8⟩
  have hB9 := hB7.trans (hB8.mono hB7.size)
  have hN6 := hN5.below hB8
  have hN7 := hN4.below hB8
  clear hB7 hB8 hN5 hN4
  go_wp2_with fail
  refine (HC.out _ hB9).mono ?_
  rintro e w6 ⟨rfl, hB10⟩
  have hB11 := hB9.trans (hB10.mono hB9.size)
  have hN8 := hN6.below hB10
  have hN9 := hN7.below hB10
  clear hB9 hB10 hN6 hN7 HC
  go_wp2_with fail
  refine (HT.out _ hB11).mono ?_
  rintro e w6 ⟨rfl, rfl⟩
  obtain ⟨_, _, e1, hi8, _⟩ := New.ints hN8
  cases e1
  obtain ⟨_, _, e2, hi9, _⟩ := New.ints hN9
  cases e2
  have hS := same_any pv pv _ _ c2 c4 _ hi8 hi9 Hpl.out
  rw [show sameB pv pv = true by simp [sameB]] at hS
  clear hN8 hN9 hi8 hi9 HT Hpl
  go_wp2_with fail
  refine hS.mono ?_
  rintro e w7 ⟨rfl, hB12⟩
  clear hS
  go_wp2
  go_ret
  exact ⟨rfl, hB11.trans (hB12.mono hB11.size)⟩

/-! The row. -/
set_option maxRecDepth 100000 in
theorem lifted (os : Os) (started : os.Started) (H : Type) (enc : TypeId × Value → H) :
    ReturnsInHanded {} Try.checked os 3 .any (Rows.termTellsSpec.pre6 enc Try.prog Try.f3 Rows.termTellsRow.domain false) (Rows.termTellsSpec.post enc Try.prog Try.f3 false true false false) := by
  refine returnsInHanded_of_change (C := Try.checked) own started (by kernel_rfl) Try.func3
    (ChangeSpec.witness6 (enc := enc) (C := Try.checked) false ⟨#[], #[.slice none 0 0, .int .i64 0], []⟩ 8 (by kernel_rfl) (by kernel_rfl) (by kernel_rfl) (by kernel_rfl)) ?_
  intro W base args ds gs before hval0 hW hcnd _
  have hval : ∀ (j : Nat) t v, Try.f3.params[j]? = some t → args[j]? = some v → Value.okWide Try.prog W .any base t v := hval0
  have hW' := hW
  obtain ⟨p, q, hA0, hV, rfl, hfz, hnd⟩ := hW
  have hA : DataW.TrodAll enc Try.prog W 0 (fun _ => true) true Try.f3.params.toList args.toList ds p := hA0
  rw [Try.params3] at hA hval
  obtain ⟨v0, vs0, d0, ds0, p0, q0, hargs, rfl, rfl, h0, r0⟩ := trodAll_cons hA
  obtain ⟨v1, vs1, d1, ds1, p1, q1, rfl, rfl, rfl, h1, r1⟩ := trodAll_cons r0
  obtain ⟨rfl, rfl, rfl⟩ := trodAll_nil r1
  obtain rfl : args = #[v0, v1] := by cases args; simp_all
  obtain ⟨rfl, rfl⟩ := trodVars_none hV
  obtain ⟨a0, len0, cap0, rfl⟩ := okWide_slice Try.underlying23 (hval 0 23 v0 rfl rfl)
  have k0 := h0
  have lt0 : ∀ x ∈ p0, x.block < W.heap.size := by obtain ⟨m, hm⟩ := k0; exact DataW.trod_lt m _ _ _ hm
  obtain ⟨z0, w0⟩ : ∃ zs, IsRow .i64 W a0 len0 cap0 zs := by
    obtain ⟨fuel, hf⟩ := h0
    rcases open_ints Try.underlying23 Try.underlying3 (by kernel_rfl) hf with ⟨hcs, _⟩ | ⟨x, l, c, zs, hcs, _, hl, hm, hz, _, hcell, hwz⟩
    · simp [Value.cells] at hcs
      obtain ⟨rfl, rfl, rfl⟩ := hcs
      exact ⟨[], .inl ⟨rfl, rfl, rfl, rfl⟩⟩
    · simp [Value.cells] at hcs
      obtain ⟨rfl, rfl, rfl⟩ := hcs
      exact ⟨zs, .inr ⟨_, rfl, hl, hm, by simpa using hz, hcell, hwz⟩⟩
  obtain ⟨a1, rfl, rfl, rfl, w1⟩ := open_int Try.underlying3 (hval 1 3 v1 rfl rfl) h1
  clear hA0 hval0
  refine (walk a0 len0 cap0 z0 a1 W w0 w1).mono fun e W' ⟨he, bel⟩ => ?_
  subst he
  exact ⟨_, rfl, _, _, _, [], _, [], hW', trodAll_mk1 (shut_bool Try.underlying4 _), (trodAll_cons_mk (Below.trod laidOut (by kernel_rfl) (of_decide_eq_true (by kernel_rfl)) k0 bel lt0) (trodAll_cons_mk (shut_int Try.underlying3 w1) trodAll_mk0)), rfl, bel.frame _, fun h => by cases h⟩

theorem over : Rows.termTellsRow.holds Try.pinned (OpenSpec.ofChange Rows.termTellsSpec) :=
  OpenClaim.holds_of_wide 3 Try.f3 rfl rfl rfl rfl rfl rfl rfl ⟨rfl, rfl, rfl, rfl, rfl⟩ rfl rfl rfl rfl rfl (by kernel_rfl) Try.func3 (by kernel_rfl)
    (of_decide_eq_true (by kernel_rfl)) (by unfold Func.isWrapper; first | (rw [if_pos (by decide +kernel)]; kernel_rfl) | (rw [if_neg (by decide +kernel)]; exact ⟨rfl, rfl⟩))
    (fun os started H enc _ => lifted os started H enc)

/-- The statement. -/
theorem proved : Rows.TermTellsSaid := over
#print axioms proved
end Go.Proofs.Ytbelnlemjcoifaa.termTells
