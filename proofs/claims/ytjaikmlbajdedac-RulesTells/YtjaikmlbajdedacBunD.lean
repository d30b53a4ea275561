/-
  Rules in memory; rules.Check. · From the frame's word on a slice of rules (or of pairs) that came in to ours. · rules.Falls; rules.replaced. · rules.replaced; lists of steps in new memory, one more behind them. · PLAIN MATHEMATICS of steps: at which places which rules fit, and what comes of each. · Lists of steps in new memory: what keeps them; one more behind them, within a round. · What stands while rules.Steps goes through places and rules; two results that lie in boxes. · rules.Steps. · rules.Steps, whatever it is handed. · Literal rules; hasplaw.group, rulesBegun. · hasplaw.rulesBegun. · haspref.own, stands, RulesError. · haspref.RulesError. · haspref.falls, FallsOf.
-/
import Derived.Test.YtjaikmlbajdedacBunC
import Derived.Deep.SlicePairs
import Derived.ChangeOld
import Derived.Test.YtjaikmlbajdedacBunB
import Derived.OwnWalkIn
import Derived.RangeFuncBox
import Derived.Deep.DrawnRows
import Derived.Deep.QuietTactic
import Derived.BigQuiet
import Derived.Deep.RegionHeld3
namespace Go.Proofs.Ytjaikmlbajdedac
open Go.Proofs Go.RowKit Go.Shelf Go.Maps

abbrev RuleL := List (List Int × List Int)
/-- A SLICE OF RULES THAT CAN BE READ. -/
def RulesAt (n : Nat) (W : World) (a : Option Addr) (rs : RuleL) : Prop :=
  ∀ k, k < rs.length → ∃ b off, a = some ⟨b, off, none⟩ ∧ b < n ∧ ∃ aL cL aR cR, W.cell? ⟨b, off + k * 2, none⟩ = some (.slice aL (rs[k]?.getD ([], [])).1.length cL) ∧ W.cell? ⟨b, off + k * 2 + 1, none⟩ = some (.slice aR (rs[k]?.getD ([], [])).2.length cR) ∧
    Ints n W aL (rs[k]?.getD ([], [])).1 ∧ Ints n W aR (rs[k]?.getD ([], [])).2 ∧ (rs[k]?.getD ([], [])).1.length ≤ cL ∧ cL ≤ maxLen ∧ (rs[k]?.getD ([], [])).2.length ≤ cR ∧ cR ≤ maxLen
theorem RulesAt.below {n : Nat} {A B : World} (h : Below n A B) {a : Option Addr} {rs : RuleL} (hi : RulesAt n A a rs) : RulesAt n B a rs := fun k hk => by
  obtain ⟨b, off, e, hb, aL, cL, aR, cR, h1, h2, h3, h4, r⟩ := hi k hk
  exact ⟨b, off, e, hb, aL, cL, aR, cR, (h.cell (p := ⟨b, off + k * 2, none⟩) hb).trans h1, (h.cell (p := ⟨b, off + k * 2 + 1, none⟩) hb).trans h2, h3.below h, h4.below h, r⟩
theorem RulesAt.mono {n m : Nat} (h : n ≤ m) {W : World} {a : Option Addr} {rs : RuleL} (hi : RulesAt n W a rs) : RulesAt m W a rs := fun k hk => by
  obtain ⟨b, off, e, hb, aL, cL, aR, cR, h1, h2, h3, h4, r⟩ := hi k hk
  exact ⟨b, off, e, by omega, aL, cL, aR, cR, h1, h2, h3.mono h, h4.mono h, r⟩

/-- The first error of rules. -/
def Tm.firstRule : RuleL → Int
  | [] => 0
  | r :: l => if Tm.ruleErr r.1 r.2 = 0 then Tm.firstRule l else Tm.ruleErr r.1 r.2
/-- F1. -/
def Tm.rulesErr (rs : RuleL) : Int := if 8 < rs.length then 2 else Tm.firstRule rs
theorem Tm.firstRule_step {rs : RuleL} {k : Nat} (hk : k < rs.length) (he : Tm.ruleErr (rs[k]?.getD ([], [])).1 (rs[k]?.getD ([], [])).2 = 0) : Tm.firstRule (rs.drop k) = Tm.firstRule (rs.drop (k + 1)) := by
  rw [List.drop_eq_getElem_cons hk, Tm.firstRule]
  simp only [hk, List.getElem?_eq_getElem, Option.getD_some] at he
  rw [if_pos he]
theorem Tm.firstRule_at {rs : RuleL} {k : Nat} (hk : k < rs.length) (he : Tm.ruleErr (rs[k]?.getD ([], [])).1 (rs[k]?.getD ([], [])).2 ≠ 0) : Tm.firstRule (rs.drop k) = Tm.ruleErr (rs[k]?.getD ([], [])).1 (rs[k]?.getD ([], [])).2 := by
  rw [List.drop_eq_getElem_cons hk, Tm.firstRule]
  simp only [hk, List.getElem?_eq_getElem, Option.getD_some] at he ⊢
  rw [if_neg he]

set_option maxRecDepth 100000 in
set_option maxHeartbeats 1000000 in
theorem rulesCheck_any (rs : RuleL) (a : Option Addr) (cap : Nat) (w : World) (hI : RulesAt w.heap.size w a rs) :
    Calls Try.prog 27 #[.slice a rs.length cap] w fun e w' => e = .returned (.int .i64 (Tm.rulesErr rs)) ∧ Below w.heap.size w w' := by
  by_cases h8 : 8 < rs.length
  · have h8' : (8 : Int) < (rs.length : Int) := by omega
    have hv : Tm.rulesErr rs = 2 := by unfold Tm.rulesErr; rw [if_pos h8]
    rw [hv]
    clear h8 hv hI
    go_enter Try.func27, Try.ntmps27
    go_wp2
    go_ret
    exact ⟨rfl, Below.refl _ _⟩
  · have h8' : (rs.length : Int) ≤ 8 := by omega
    have hv : Tm.rulesErr rs = Tm.firstRule rs := by unfold Tm.rulesErr; rw [if_neg h8]
    rw [hv]
    clear hv h8
    go_enter Try.func27, Try.ntmps27
    go_wp2
    go_loopw [11] (fun v wr => ∃ k : Nat, k ≤ rs.length ∧ v = .int .i64 (k : Int) ∧ Hid (Tm.firstRule rs = Tm.firstRule (rs.drop k)) ∧ Below w.heap.size w wr) (fun v _ => rs.length - (intOf v).toNat)
    case atStart => exact ⟨0, Nat.zero_le _, rfl, hid rfl, Below.refl _ _⟩
    case round =>
      obtain ⟨k, hk, rfl, hst, hB⟩ := hrel
      by_cases hlt : k < rs.length
      · have hlt' : (k : Int) < (rs.length : Int) := by omega
        obtain ⟨b, off, rfl, hb, aL, cL, aR, cR, h1, h2, h3, h4, _⟩ := (hI.below hB) k hlt
        have hs1 := hid (Tm.firstRule_step hlt)
        have hs2 := hid (Tm.firstRule_at hlt)
        obtain ⟨L, hL⟩ : ∃ L, (rs[k]?.getD ([], [])).1 = L := ⟨_, rfl⟩
        obtain ⟨R, hR⟩ : ∃ R, (rs[k]?.getD ([], [])).2 = R := ⟨_, rfl⟩
        rw [hL] at h1 h3 hs1 hs2
        rw [hR] at h2 h4 hs1 hs2
        have hBa : Below wr.heap.size wr (wr.alloc (.cells #[.slice aL L.length cL, .slice aR R.length cR] 79)) := (Below.refl _ wr).alloc (Nat.le_refl _) _
        have hC := hid (checkOne_any L R aL aR cL cR (wr.alloc (.cells #[.slice aL L.length cL, .slice aR R.length cR] 79)) (((h3.mono hB.size).below hBa).mono hBa.size) (((h4.mono hB.size).below hBa).mono hBa.size))
        have hBw := hB.trans (hBa.mono hB.size)
        clear hL hR h3 h4 hI
        by_cases he : Tm.ruleErr L R = 0
        · rw [he] at hC
          have Hs := hid (hs1.out he)
          clear he hs1 hs2
          go_wp2_with (first
            | (go_at_call 50; refine hC.out.mono ?_; clear hC; rintro e w2 ⟨rfl, b2⟩))
          go_roundw
          case rel => exact ⟨k + 1, by omega, by go_num, hid (hst.out.trans Hs.out), hBw.trans (b2.mono hBw.size)⟩
          case measure => simp [intOf]; omega
        · have hn : (Tm.ruleErr L R != 0) = true := by simpa using he
          have Hs := hid (hs2.out he)
          clear he hs1 hs2
          generalize Tm.ruleErr L R = q at *
          go_wp2_with (first
            | (go_at_call 50; refine hC.out.mono ?_; clear hC; rintro e w2 ⟨rfl, b2⟩))
          go_ret
          exact ⟨ret_int (hst.out.trans Hs.out).symm, hBw.trans (b2.mono hBw.size)⟩
      · obtain rfl : k = rs.length := by omega
        go_wp2
        go_ret
        exact ⟨by rw [hst.out, List.drop_length]; rfl, hB⟩

end Go.Proofs.Ytjaikmlbajdedac

namespace Go.Proofs.Ytjaikmlbajdedac
open Go.Proofs Go.RowKit Go.Shelf Go.Deep Go.ChangeShapes Go.WideShapes

def RulesIn (w : World) (a : Option Addr) (len cap : Nat) : Prop := ∃ rs : RuleL, rs.length = len ∧ RulesAt w.heap.size w a rs ∧ len ≤ cap ∧ cap ≤ maxLen
theorem term_open {H : Type} {enc : TypeId × Value → H} {w : World} {fuel : Nat} {v : Value} {x : DataW H × List MemPlace} (h : DataW.trod enc Try.prog w 0 (fun _ => true) true fuel 23 [v] = some x) :
    ∃ y : List Int × Option Addr × Nat, v = .slice y.2.1 y.1.length y.2.2 ∧ Ints w.heap.size w y.2.1 y.1 ∧ y.1.length ≤ y.2.2 ∧ y.2.2 ≤ maxLen := by
  rcases open_ints Try.underlying23 Try.underlying3 (by kernel_rfl) h with ⟨hcs, _⟩ | ⟨a, l, c, zs, hcs, _, hl, hm, hz, _, hcell, hwz⟩
  · simp only [List.cons.injEq, and_true] at hcs
    subst hcs
    exact ⟨([], none, 0), rfl, Ints.nil _ _ _, Nat.le_refl _, Nat.zero_le _⟩
  · simp only [List.cons.injEq, and_true] at hcs
    subst hcs
    simp only [if_true] at hz
    have hI := ints_of_cells (w := w) (a := some a) (L := l) (C := c) (Z := zs) hl hz (fun y hy k hk => by cases hy; exact hcell k (by omega)) (fun e => by cases e)
    have hlen : (zs.take l).length = l := by rw [List.length_take]; omega
    exact ⟨(zs.take l, some a, c), by rw [hlen], hI, by rw [hlen]; exact hl, hm⟩
theorem rulesIn_open {H : Type} {enc : TypeId × Value → H} {w : World} {fuel : Nat} {a : Option Addr} {len cap : Nat} {cs : List Value} {x : DataW H × List MemPlace} {t e : TypeId} {f0 f1 : Field} (ht : Try.prog.underlying t = some (.slice e)) (he : Try.prog.underlying e = some (.struct #[f0, f1]))
    (ce : Try.prog.cellsOf e = 2) (o0 : f0.offset = 0) (o1 : f1.offset = 1) (t0 : f0.type = 23) (t1 : f1.type = 23) (hcs : cs = [.slice a len cap]) (h : DataW.trod enc Try.prog w 0 (fun _ => true) true fuel t cs = some x) : RulesIn w a len cap := by
  have c1 : Try.prog.cellsOf 23 = 1 := by kernel_rfl
  rcases open_slice_pairs ht he ce o0 o1 (by rw [t0]; exact c1) (by rw [t1]; exact c1) h with ⟨hc, _⟩ | ⟨ad, l, c, m, n, V0, V1, D0, D1, P0, P1, hc, _, hl, hm, hmm, _, hrow⟩
  · rw [hcs] at hc
    simp only [List.cons.injEq, Value.slice.injEq, and_true] at hc
    obtain ⟨rfl, rfl, rfl⟩ := hc
    exact ⟨[], rfl, fun k hk => by simp at hk, Nat.le_refl _, Nat.zero_le _⟩
  · rw [hcs] at hc
    simp only [List.cons.injEq, Value.slice.injEq, and_true] at hc
    obtain ⟨rfl, rfl, rfl⟩ := hc
    simp only [if_true] at hmm
    rw [t0, t1] at hrow
    have each : ∀ i, i < m → ∃ y : (List Int × Option Addr × Nat) × (List Int × Option Addr × Nat), (V0 i = .slice y.1.2.1 y.1.1.length y.1.2.2 ∧ Ints w.heap.size w y.1.2.1 y.1.1 ∧ y.1.1.length ≤ y.1.2.2 ∧ y.1.2.2 ≤ maxLen) ∧ (V1 i = .slice y.2.2.1 y.2.1.length y.2.2.2 ∧ Ints w.heap.size w y.2.2.1 y.2.1 ∧ y.2.1.length ≤ y.2.2.2 ∧ y.2.2.2 ≤ maxLen) := fun i hi => by
      obtain ⟨_, _, h0, h1⟩ := hrow i hi
      obtain ⟨y0, hy0⟩ := term_open h0
      obtain ⟨y1, hy1⟩ := term_open h1
      exact ⟨(y0, y1), hy0, hy1⟩
    obtain ⟨y, hy⟩ := choose_lt each
    refine ⟨(List.range len).map fun i => ((y i).1.1, (y i).2.1), by simp, fun k hk => ?_, hl, hm⟩
    have hk' : k < len := by simpa using hk
    obtain ⟨c0, c1', _, _⟩ := hrow k (by omega)
    obtain ⟨⟨e0, i0, q0, r0⟩, ⟨e1, i1, q1, r1⟩⟩ := hy k (by omega)
    have hsp := World.cell?_spot (hrow 0 (by omega)).1
    obtain ⟨b, off, spot⟩ := ad
    have hspot : spot = none := by simpa [Addr.add] using hsp
    subst hspot
    rw [add_plain] at c0 c1'
    have e : ((List.range len).map fun i => ((y i).1.1, (y i).2.1))[k]?.getD ([], []) = ((y k).1.1, (y k).2.1) := by simp [hk']
    rw [e]
    exact ⟨b, off, rfl, by simpa using lt_of_cell c0, _, _, _, _, by rw [← e0]; exact c0, by rw [← e1, Nat.add_assoc]; exact c1', i0, i1, q0, r0, q1, r1⟩

end Go.Proofs.Ytjaikmlbajdedac

namespace Go.Proofs.Ytjaikmlbajdedac
open Go.Proofs Go.RowKit Go.Shelf Go.Maps

/-- F1: is each L above its R? -/
def Tm.fallsB (rk : List Int) (rs : RuleL) : Bool := rs.all fun r => Tm.aboveVal rk r.1 r.2
def Tm.fallsErr (rk : List Int) (rs : RuleL) : Int := if Tm.rankErr rk = 0 then Tm.rulesErr rs else Tm.rankErr rk
def Tm.fallsVal (rk : List Int) (rs : RuleL) : Bool := if Tm.fallsErr rk rs = 0 then Tm.fallsB rk rs else false
theorem Tm.firstRule_zero {rs : RuleL} (h : Tm.firstRule rs = 0) : ∀ k, k < rs.length → Tm.ruleErr (rs[k]?.getD ([], [])).1 (rs[k]?.getD ([], [])).2 = 0 := by
  induction rs with
  | nil => intro k hk; simp at hk
  | cons r l ih =>
    rw [Tm.firstRule] at h
    by_cases h1 : Tm.ruleErr r.1 r.2 = 0
    · rw [if_pos h1] at h
      intro k hk
      cases k with
      | zero => simpa using h1
      | succ k => simpa using ih h k (by simpa using hk)
    · rw [if_neg h1] at h; exact absurd h h1
theorem Tm.rulesErr_ok {rs : RuleL} (h : Tm.rulesErr rs = 0) : rs.length ≤ 8 ∧ ∀ k, k < rs.length → Tm.ruleErr (rs[k]?.getD ([], [])).1 (rs[k]?.getD ([], [])).2 = 0 := by
  unfold Tm.rulesErr at h
  by_cases h8 : 8 < rs.length
  · rw [if_pos h8] at h; omega
  · rw [if_neg h8] at h; exact ⟨by omega, Tm.firstRule_zero h⟩
theorem Tm.ruleErr_ok {L R : List Int} (h : Tm.ruleErr L R = 0) : Tm.err L = 0 ∧ Tm.err R = 0 ∧ L.any foreignB = false ∧ R.any foreignB = false ∧ (0 : Int) ≤ L[0]?.getD 0 ∧ R.any (freeIn L) = false := by
  unfold Tm.ruleErr at h
  by_cases h1 : Tm.err L = 0
  · rw [if_pos h1] at h
    by_cases h2 : Tm.err R = 0
    · rw [if_pos h2] at h
      cases h3 : L.any foreignB with
      | true => rw [h3, if_pos rfl] at h; omega
      | false =>
        rw [h3, if_neg (by decide)] at h
        cases h4 : R.any foreignB with
        | true => rw [h4, if_pos rfl] at h; omega
        | false =>
          rw [h4, if_neg (by decide)] at h
          by_cases h5 : L[0]?.getD 0 < 0
          · rw [if_pos h5] at h; omega
          · rw [if_neg h5] at h
            cases h6 : R.any (freeIn L) with
            | true => rw [h6, if_pos rfl] at h; omega
            | false => exact ⟨h1, h2, rfl, rfl, by omega, rfl⟩
    · rw [if_neg h2] at h; exact absurd h h2
  · rw [if_neg h1] at h; exact absurd h h1
theorem fallsB_snoc {rk : List Int} {rs : RuleL} {k : Nat} (hk : k < rs.length) (h : Tm.fallsB rk (rs.take k) = true) : Tm.fallsB rk (rs.take (k + 1)) = Tm.aboveVal rk (rs[k]?.getD ([], [])).1 (rs[k]?.getD ([], [])).2 := by
  unfold Tm.fallsB at *
  rw [List.take_add_one, List.all_append, h]
  simp [hk]
theorem fallsB_no {rk : List Int} {rs : RuleL} {k : Nat} (hk : k < rs.length) (h : Tm.aboveVal rk (rs[k]?.getD ([], [])).1 (rs[k]?.getD ([], [])).2 = false) : Tm.fallsB rk rs = false := by
  rw [Bool.eq_false_iff]
  intro e
  unfold Tm.fallsB at e
  rw [List.all_eq_true] at e
  have := e rs[k] (List.getElem_mem hk)
  simp only [hk, List.getElem?_eq_getElem, Option.getD_some] at h
  rw [h] at this
  cases this

set_option maxRecDepth 100000 in
set_option maxHeartbeats 1000000 in
theorem rulesFalls_any (rk : List Int) (rs : RuleL) (ar a : Option Addr) (cr cap : Nat) (w : World) (hR : Ints w.heap.size w ar rk) (hI : RulesAt w.heap.size w a rs) :
    Calls Try.prog 24 #[.slice ar rk.length cr, .slice a rs.length cap] w fun e w' => e = .returned (.tuple #[.bool (Tm.fallsVal rk rs), .int .i64 (Tm.fallsErr rk rs)]) ∧ Below w.heap.size w w' := by
  have C1 := orderCheck_any rk ar cr w hR
  have C2 := rulesCheck_any rs a cap w hI
  by_cases h1 : Tm.rankErr rk = 0
  · rw [h1] at C1
    have he : Tm.fallsErr rk rs = Tm.rulesErr rs := by unfold Tm.fallsErr; rw [if_pos h1]
    by_cases h2 : Tm.rulesErr rs = 0
    · rw [h2] at C2
      have hv : Tm.fallsVal rk rs = Tm.fallsB rk rs := by unfold Tm.fallsVal; rw [he, if_pos h2]
      rw [hv, he, h2]
      obtain ⟨h8, hall⟩ := Tm.rulesErr_ok h2
      have h8' : (rs.length : Int) ≤ 8 := by omega
      have HA := hid (fun W (hW : Below w.heap.size w W) k (hk : k < rs.length) aL aR cL cR hL hR2 h3 h4 h5 h6 => orderAbove_any rk (rs[k]?.getD ([], [])).1 (rs[k]?.getD ([], [])).2 ar aL aR cr cL cR W ((hR.below hW).mono hW.size) hL hR2 h3 h4 h5 h6)
      have HE := hid (fun k (hk : k < rs.length) => Tm.aboveErr_of h1 (Tm.ruleErr_ok (hall k hk)).1 (Tm.ruleErr_ok (hall k hk)).2.1)
      clear he hv h1 h2 hall hR h8
      go_enter Try.func24, Try.ntmps24
      go_wp2_with fail
      refine C1.mono ?_
      rintro e w ⟨rfl, rfl⟩
      go_wp2_with fail
      refine C2.mono ?_
      rintro e w1 ⟨rfl, b1⟩
      go_wp2_with fail
      go_loopw [24] (fun v wr => ∃ k : Nat, k ≤ rs.length ∧ v = .int .i64 (k : Int) ∧ Hid (Tm.fallsB rk (rs.take k) = true) ∧ Below w.heap.size w wr) (fun v _ => rs.length - (intOf v).toNat)
      case atStart => exact ⟨0, Nat.zero_le _, rfl, hid rfl, b1⟩
      case round =>
        obtain ⟨k, hk, rfl, hst, hB⟩ := hrel
        by_cases hlt : k < rs.length
        · have hlt' : (k : Int) < (rs.length : Int) := by omega
          obtain ⟨b, off, rfl, hb, aL, cL, aR, cR, g1, g2, g3, g4, g5, g6, g7, g8⟩ := (hI.below hB) k hlt
          have hs1 := hid (fallsB_snoc hlt hst.out)
          have hs2 := hid (fun h => fallsB_no (rk := rk) hlt h)
          have he := HE.out k hlt
          have hBa : Below wr.heap.size wr (wr.alloc (.cells #[.slice aL (rs[k]?.getD ([], [])).1.length cL, .slice aR (rs[k]?.getD ([], [])).2.length cR] 79)) := (Below.refl _ wr).alloc (Nat.le_refl _) _
          have hBw := hB.trans (hBa.mono hB.size)
          have hC := hid (HA.out _ hBw k hlt aL aR cL cR (((g3.mono hB.size).below hBa).mono hBa.size) (((g4.mono hB.size).below hBa).mono hBa.size) g5 g6 g7 g8)
          rw [he] at hC
          generalize (rs[k]?.getD ([], [])).1 = L at *
          generalize (rs[k]?.getD ([], [])).2 = R at *
          clear he g3 g4 g5 g6 g7 g8
          cases hq : Tm.aboveVal rk L R with
          | true =>
            rw [hq] at hC hs1
            clear hq hs2
            go_wp2_with (first
              | (go_at_call 15; refine hC.out.mono ?_; clear hC; rintro e w2 ⟨rfl, b2⟩))
            go_roundw
            case rel => exact ⟨k + 1, by omega, by go_num, hid hs1.out, hBw.trans (b2.mono hBw.size)⟩
            case measure => simp [intOf]; omega
          | false =>
            have hno := hid (hs2.out hq)
            rw [hq] at hC
            clear hq hs1 hs2
            go_wp2_with (first
              | (go_at_call 15; refine hC.out.mono ?_; clear hC; rintro e w2 ⟨rfl, b2⟩))
            go_ret2
            exact ⟨by rw [hno.out]; rfl, hBw.trans (b2.mono hBw.size)⟩
        · obtain rfl : k = rs.length := by omega
          rw [List.take_length] at hst
          go_wp2
          go_ret2
          exact ⟨by rw [hst.out]; rfl, hB⟩
    · have hv : Tm.fallsVal rk rs = false := by unfold Tm.fallsVal; rw [he, if_neg h2]
      have hn : (Tm.rulesErr rs != 0) = true := by simpa using h2
      rw [hv, he]
      clear h1 h2 he hv hR hI
      generalize Tm.rulesErr rs = q at *
      go_enter Try.func24, Try.ntmps24
      go_wp2_with fail
      refine C1.mono ?_
      rintro e w ⟨rfl, rfl⟩
      go_wp2_with fail
      refine C2.mono ?_
      rintro e w1 ⟨rfl, b1⟩
      go_wp2
      go_ret2
      exact ⟨rfl, b1⟩
  · have he : Tm.fallsErr rk rs = Tm.rankErr rk := by unfold Tm.fallsErr; rw [if_neg h1]
    have hv : Tm.fallsVal rk rs = false := by unfold Tm.fallsVal; rw [he, if_neg h1]
    have hn : (Tm.rankErr rk != 0) = true := by simpa using h1
    rw [hv, he]
    clear h1 he hv hR hI C2
    generalize Tm.rankErr rk = q at *
    go_enter Try.func24, Try.ntmps24
    go_wp2_with fail
    refine C1.mono ?_
    rintro e w ⟨rfl, rfl⟩
    go_wp2
    go_ret2
    exact ⟨rfl, Below.refl _ _⟩

end Go.Proofs.Ytjaikmlbajdedac

namespace Go.Proofs.Ytjaikmlbajdedac
open Go.Proofs Go.RowKit Go.Shelf Go.Maps

def Tm.replErr (ss : List (List Int)) (t : List Int) (k : Int) (r : List Int) : Int := if Tm.applyErr ss r = 0 then Tm.putErr t k (Tm.applyVal ss r) else Tm.applyErr ss r
def Tm.replVal (ss : List (List Int)) (t : List Int) (k : Int) (r : List Int) : List Int := if Tm.applyErr ss r = 0 then Tm.putVal t k (Tm.applyVal ss r) else []

set_option maxRecDepth 100000 in
set_option maxHeartbeats 1000000 in
theorem replaced_any (ss : List (List Int)) (t r : List Int) (k : Int) (aS at' ar : Option Addr) (cs ct cr : Nat) (w : World) (hS : Subs w.heap.size w aS ss) (hT : Ints w.heap.size w at' t) (hR : Ints w.heap.size w ar r) (h1 : t.length ≤ ct) (h2 : ct ≤ maxLen) :
    Calls Try.prog 55 #[.slice at' t.length ct, .int .i64 k, .slice aS ss.length cs, .slice ar r.length cr] w fun e w' => ∃ v, e = .returned (.tuple #[v, .int .i64 (Tm.replErr ss t k r)]) ∧ New w.heap.size w' v (Tm.replVal ss t k r) ∧ Below w.heap.size w w' := by
  have C1 := apply_any ss r aS ar cs cr w hS hR
  by_cases he : Tm.applyErr ss r = 0
  · have e1 : Tm.replErr ss t k r = Tm.putErr t k (Tm.applyVal ss r) := by unfold Tm.replErr; rw [if_pos he]
    have e2 : Tm.replVal ss t k r = Tm.putVal t k (Tm.applyVal ss r) := by unfold Tm.replVal; rw [if_pos he]
    rw [e1, e2]
    rw [he] at C1
    clear e1 e2 he hS hR
    generalize Tm.applyVal ss r = u at *
    go_enter Try.func55, Try.ntmps55
    go_wp2_with fail
    refine C1.mono ?_
    rintro e w1 ⟨v1, rfl, hN1, b1⟩
    obtain ⟨x1, c1, rfl, hI1, _⟩ := New.ints hN1
    have C2 := termPut_any t u at' x1 ct c1 k w1 ((hT.below b1).mono b1.size) hI1 h1 h2
    clear C1 hN1 hI1
    go_wp2_with fail
    refine C2.mono ?_
    rintro e w2 ⟨v2, rfl, hN2, b2⟩
    clear C2
    go_wp2
    go_ret2
    exact ⟨_, rfl, hN2.mono b1.size, b1.trans (b2.mono b1.size)⟩
  · have e1 : Tm.replErr ss t k r = Tm.applyErr ss r := by unfold Tm.replErr; rw [if_neg he]
    have e2 : Tm.replVal ss t k r = [] := by unfold Tm.replVal; rw [if_neg he]
    have hn : (Tm.applyErr ss r != 0) = true := by simpa using he
    rw [e1, e2]
    clear e1 e2 he hS hR hT h1 h2
    generalize Tm.applyErr ss r = q at *
    go_enter Try.func55, Try.ntmps55
    go_wp2_with fail
    refine C1.mono ?_
    rintro e w1 ⟨v1, rfl, hN1, b1⟩
    obtain ⟨x1, c1, rfl, hI1, _⟩ := New.ints hN1
    clear C1 hN1 hI1
    go_wp2
    go_ret2
    exact ⟨_, rfl, New.nil _ _, b1⟩

/-- A step: by which rule, where, to what. -/
abbrev StepL := List (Nat × Nat × List Int)
/-- v IS A SLICE IN NEW MEMORY THAT HOLDS THESE STEPS, each term in new memory too. -/
def NewT (base : Nat) (W : World) (v : Value) (sts : StepL) : Prop :=
  ∃ us : List Value, W.ownsRow base 82 3 v sts.length us ∧ ∀ j, j < sts.length → ∃ u, us[j * 3]? = some (.int .i64 ((sts[j]?.getD (0, 0, [])).1 : Int)) ∧ us[j * 3 + 1]? = some (.int .i64 ((sts[j]?.getD (0, 0, [])).2.1 : Int)) ∧ us[j * 3 + 2]? = some u ∧ New base W u (sts[j]?.getD (0, 0, [])).2.2
theorem NewT.nil (base : Nat) (W : World) : NewT base W (.slice none 0 0) [] := ⟨[], World.ownsRow_nil _ _ _ _, fun j hj => by simp at hj⟩
theorem New.apartT {base : Nat} {W : World} {u v : Value} {t : List Int} {n : Nat} {us : List Value} (hu : New base W u t) (hv : W.ownsRow base 82 3 v n us) : u.ownBlock = none ∨ u.ownBlock ≠ v.ownBlock := by
  rcases hu.2 with ⟨rfl, _⟩ | ⟨g, cap, cur, rfl, hb, hg, r⟩
  · exact .inl rfl
  · right
    rcases hv.2 with ⟨rfl, _⟩ | ⟨g', cap', cur', rfl, hb', hg', r'⟩
    · intro e; cases e
    · intro e
      simp only [Value.ownBlock, Option.some.injEq] at e
      subst e
      rw [hg] at hg'
      simp at hg'
theorem NewT.below {base : Nat} {W W' : World} {v : Value} {sts : StepL} (h : NewT base W v sts) (hB : Below W.heap.size W W') : NewT base W' v sts := by
  obtain ⟨us, h1, h2⟩ := h
  refine ⟨us, World.ownsRow.kept h1 (grown_of_below hB) (by cases h : v.ownBlock with | none => exact .inl rfl | some k => exact .inr (by simp)), fun j hj => ?_⟩
  obtain ⟨u, a, b, c, d⟩ := h2 j hj
  exact ⟨u, a, b, c, New.below d hB⟩
theorem Try.info82 : (Try.prog.info? 82).map (fun i => (i.zero, i.size, i.bytes)) = some (some (.agg #[.int .i64 0, .int .i64 0, .slice none 0 0]), 3, 40) := by kernel_rfl

end Go.Proofs.Ytjaikmlbajdedac

namespace Go.Proofs.Ytjaikmlbajdedac
open Go.Proofs Go.RowKit Go.Shelf Go.Maps

/-- Does rule k fit at place a? -/
def Tm.hitB (rs : RuleL) (t : List Int) (a k : Nat) : Bool := Tm.fitIs (rs[k]?.getD ([], [])).1 (Tm.part t a)
def Tm.hitErr (rs : RuleL) (t : List Int) (a k : Nat) : Int := Tm.replErr (Tm.fitVal (rs[k]?.getD ([], [])).1 (Tm.part t a)) t (a : Int) (rs[k]?.getD ([], [])).2
def Tm.hitVal (rs : RuleL) (t : List Int) (a k : Nat) : List Int := Tm.replVal (Tm.fitVal (rs[k]?.getD ([], [])).1 (Tm.part t a)) t (a : Int) (rs[k]?.getD ([], [])).2
/-- The first error of the first n rules at a place; the steps of the first n rules there. -/
def Tm.rowE (rs : RuleL) (t : List Int) (a : Nat) : Nat → Int
  | 0 => 0
  | n + 1 => if Tm.rowE rs t a n = 0 then (if Tm.hitB rs t a n = true then Tm.hitErr rs t a n else 0) else Tm.rowE rs t a n
def Tm.rowL (rs : RuleL) (t : List Int) (a : Nat) : Nat → StepL
  | 0 => []
  | n + 1 => Tm.rowL rs t a n ++ (if Tm.hitB rs t a n = true then [(n, a, Tm.hitVal rs t a n)] else [])
/-- The first error of the first m places; the steps there. -/
def Tm.allE (rs : RuleL) (t : List Int) : Nat → Int
  | 0 => 0
  | m + 1 => if Tm.allE rs t m = 0 then Tm.rowE rs t m rs.length else Tm.allE rs t m
def Tm.allL (rs : RuleL) (t : List Int) : Nat → StepL
  | 0 => []
  | m + 1 => Tm.allL rs t m ++ Tm.rowL rs t m rs.length
/-- F2. -/
def Tm.stepErr (rs : RuleL) (t : List Int) : Int := if Tm.rulesErr rs = 0 then (if Tm.err t = 0 then Tm.allE rs t t.length else Tm.err t) else Tm.rulesErr rs
def Tm.stepVal (rs : RuleL) (t : List Int) : StepL := if Tm.stepErr rs t = 0 then Tm.allL rs t t.length else []

theorem Tm.rowE_stays {rs : RuleL} {t : List Int} {a n : Nat} (h : Tm.rowE rs t a n ≠ 0) : ∀ m, n ≤ m → Tm.rowE rs t a m = Tm.rowE rs t a n := by
  intro m hm
  induction m with
  | zero => obtain rfl : n = 0 := by omega
            rfl
  | succ m ih =>
    by_cases e : n = m + 1
    · rw [e]
    · rw [Tm.rowE, if_neg (by rw [ih (by omega)]; exact h), ih (by omega)]
theorem Tm.allE_stays {rs : RuleL} {t : List Int} {n : Nat} (h : Tm.allE rs t n ≠ 0) : ∀ m, n ≤ m → Tm.allE rs t m = Tm.allE rs t n := by
  intro m hm
  induction m with
  | zero => obtain rfl : n = 0 := by omega
            rfl
  | succ m ih =>
    by_cases e : n = m + 1
    · rw [e]
    · rw [Tm.allE, if_neg (by rw [ih (by omega)]; exact h), ih (by omega)]
/-- An error at a place is the whole's, where none was ahead of it. -/
theorem Tm.allE_stop {rs : RuleL} {t : List Int} {a n : Nat} (h0 : Tm.allE rs t a = 0) (hr : Tm.rowE rs t a n = 0) (ha : a < t.length) (hn : n < rs.length) (hb : Tm.hitB rs t a n = true) (he : Tm.hitErr rs t a n ≠ 0) :
    Tm.allE rs t t.length = Tm.hitErr rs t a n := by
  have e1 : Tm.rowE rs t a (n + 1) = Tm.hitErr rs t a n := by rw [Tm.rowE, if_pos hr, if_pos hb]
  have e2 : Tm.rowE rs t a rs.length = Tm.hitErr rs t a n := by rw [Tm.rowE_stays (by rw [e1]; exact he) rs.length (by omega), e1]
  have e3 : Tm.allE rs t (a + 1) = Tm.hitErr rs t a n := by rw [Tm.allE, if_pos h0, e2]
  rw [Tm.allE_stays (by rw [e3]; exact he) t.length (by omega), e3]
theorem Tm.allE_next {rs : RuleL} {t : List Int} {a : Nat} (h0 : Tm.allE rs t a = 0) (hr : Tm.rowE rs t a rs.length = 0) : Tm.allE rs t (a + 1) = 0 := by rw [Tm.allE, if_pos h0, hr]
theorem Tm.rowE_no {rs : RuleL} {t : List Int} {a n : Nat} (hr : Tm.rowE rs t a n = 0) (hb : Tm.hitB rs t a n = false) : Tm.rowE rs t a (n + 1) = 0 := by rw [Tm.rowE, if_pos hr, hb, if_neg (by decide)]
theorem Tm.rowE_yes {rs : RuleL} {t : List Int} {a n : Nat} (hr : Tm.rowE rs t a n = 0) (hb : Tm.hitB rs t a n = true) (he : Tm.hitErr rs t a n = 0) : Tm.rowE rs t a (n + 1) = 0 := by rw [Tm.rowE, if_pos hr, if_pos hb, he]
theorem Tm.rowL_no {rs : RuleL} {t : List Int} {a n : Nat} (hb : Tm.hitB rs t a n = false) : Tm.rowL rs t a (n + 1) = Tm.rowL rs t a n := by rw [Tm.rowL, hb, if_neg (by decide), List.append_nil]
theorem Tm.rowL_yes {rs : RuleL} {t : List Int} {a n : Nat} (hb : Tm.hitB rs t a n = true) : Tm.rowL rs t a (n + 1) = Tm.rowL rs t a n ++ [(n, a, Tm.hitVal rs t a n)] := by rw [Tm.rowL, if_pos hb]
theorem Tm.rowL_le (rs : RuleL) (t : List Int) (a : Nat) : ∀ n, (Tm.rowL rs t a n).length ≤ n := by
  intro n
  induction n with
  | zero => simp [Tm.rowL]
  | succ n ih =>
    rw [Tm.rowL, List.length_append]
    split
    · simp only [List.length_cons, List.length_nil]; omega
    · simp only [List.length_nil]; omega
theorem Tm.allL_le (rs : RuleL) (t : List Int) : ∀ m, (Tm.allL rs t m).length ≤ m * rs.length := by
  intro m
  induction m with
  | zero => simp [Tm.allL]
  | succ m ih =>
    rw [Tm.allL, List.length_append, Nat.succ_mul]
    have := Tm.rowL_le rs t m rs.length
    omega

theorem Tm.applied_put_le {t u : List Int} {a : Nat} : u.length ≤ (Tm.put t a u).length := by unfold Tm.put; simp only [List.length_append]; omega
theorem insideB_place {t : List Int} {a : Nat} (ha : a < t.length) : insideB (a : Int) 0 ((t.length : Int) - 1) = true := by rw [insideB_iff]; omega
/-- What comes of a rule that fits, in plain words. -/
theorem Tm.repl_fit {L R t : List Int} {a : Nat} {m : Asg} (hL : Tm.err L = 0) (hR : Tm.err R = 0) (ht : Tm.err t = 0) (ha : a < t.length) (hf : Tm.fit L (Tm.part t a) = some m) :
    Tm.replErr (Tm.fitL m 8) t (a : Int) R = (if 30 < (Tm.put t a (Tm.applied (Tm.fitL m 8) R)).length then 2 else 0) ∧
      Tm.replVal (Tm.fitL m 8) t (a : Int) R = (if 30 < (Tm.put t a (Tm.applied (Tm.fitL m 8) R)).length then [] else Tm.put t a (Tm.applied (Tm.fitL m 8) R)) := by
  have hs := Tm.subErr_fitL hL (Tm.part_err ht ha) hf
  obtain ⟨e1, e2⟩ := Tm.apply_ok hs hR
  have hle := Tm.applied_put_le (t := t) (u := Tm.applied (Tm.fitL m 8) R) (a := a)
  by_cases h30 : 30 < (Tm.applied (Tm.fitL m 8) R).length
  · rw [if_pos h30] at e1
    have h2 : ¬ (2 : Int) = 0 := by decide
    refine ⟨?_, ?_⟩
    · unfold Tm.replErr; rw [e1, if_neg h2, if_pos (by omega)]
    · unfold Tm.replVal; rw [e1, if_neg h2, if_pos (by omega)]
  · rw [if_neg h30] at e1 e2
    have hu := Tm.err_applied (Terms.of hs) hR (by omega)
    unfold Tm.replErr Tm.replVal
    rw [e1, if_pos rfl, if_pos rfl, e2, Tm.putErr_in ht hu (insideB_place ha), Tm.putVal_in ht hu (insideB_place ha)]
    exact ⟨rfl, rfl⟩
theorem Tm.hitB_fit {rs : RuleL} {t : List Int} {a k : Nat} (hL : Tm.err (rs[k]?.getD ([], [])).1 = 0) (ht : Tm.err t = 0) (ha : a < t.length) : Tm.hitB rs t a k = (Tm.fit (rs[k]?.getD ([], [])).1 (Tm.part t a)).isSome := by
  unfold Tm.hitB Tm.fitIs
  rw [if_pos (Tm.fitErr_of hL (Tm.part_err ht ha))]
theorem Tm.hit_fit {rs : RuleL} {t : List Int} {a k : Nat} {m : Asg} (hL : Tm.err (rs[k]?.getD ([], [])).1 = 0) (hR : Tm.err (rs[k]?.getD ([], [])).2 = 0) (ht : Tm.err t = 0) (ha : a < t.length) (hf : Tm.fit (rs[k]?.getD ([], [])).1 (Tm.part t a) = some m) :
    Tm.hitErr rs t a k = (if 30 < (Tm.put t a (Tm.applied (Tm.fitL m 8) (rs[k]?.getD ([], [])).2)).length then 2 else 0) ∧
      Tm.hitVal rs t a k = (if 30 < (Tm.put t a (Tm.applied (Tm.fitL m 8) (rs[k]?.getD ([], [])).2)).length then [] else Tm.put t a (Tm.applied (Tm.fitL m 8) (rs[k]?.getD ([], [])).2)) := by
  unfold Tm.hitErr Tm.hitVal
  rw [(Tm.fit_yes (Tm.fitErr_of hL (Tm.part_err ht ha)) hf).2]
  exact Tm.repl_fit hL hR ht ha hf

end Go.Proofs.Ytjaikmlbajdedac

namespace Go.Proofs.Ytjaikmlbajdedac
open Go.Proofs Go.RowKit Go.Shelf Go.Maps

theorem row_apart {W : World} {base : Nat} {e : TypeId} {size : Nat} {v : Value} {n : Nat} {us : List Value} (h : W.ownsRow base e size v n us) {row : Option Nat} (hr : ∀ k, row = some k → ∀ cs p, W.heap[k]? ≠ some (.cells cs e p)) : v.ownBlock = none ∨ v.ownBlock ≠ row := by
  rcases h.2 with ⟨rfl, _⟩ | ⟨g, cap, cur, rfl, _, hgb, _⟩
  · exact .inl rfl
  · refine .inr fun e' => ?_
    exact hr g (by rw [← e']; rfl) _ _ hgb
theorem NewT.grown {base : Nat} {W W' : World} {v : Value} {sts : StepL} {row : Option Nat} (h : NewT base W v sts) (hg : W.grownBy W' row) (hr : ∀ k, row = some k → ∀ cs p, W.heap[k]? ≠ some (.cells cs 82 p) ∧ W.heap[k]? ≠ some (.cells cs 3 p)) : NewT base W' v sts := by
  obtain ⟨us, h1, h2⟩ := h
  refine ⟨us, h1.kept hg (row_apart h1 fun k e cs p => (hr k e cs p).1), fun j hj => ?_⟩
  obtain ⟨u, a, b, c, d⟩ := h2 j hj
  exact ⟨u, a, b, c, World.ownsRow.kept d hg (row_apart d fun k e cs p => (hr k e cs p).2)⟩
theorem boxed_ne {W : World} {B : Nat} {t e : TypeId} {x : Value} (h : Boxed W B t x) (hte : t ≠ e) (cs : Array Value) (p : Nat × Nat) : W.heap[B]? ≠ some (.cells cs e p) := by
  rw [show W.heap[B]? = _ from h]
  intro h'
  simp only [Option.some.injEq, Obj.cells.injEq] at h'
  exact hte h'.2.1
theorem NewT.set {base : Nat} {W : World} {v : Value} {sts : StepL} (h : NewT base W v sts) {B : Nat} {t : TypeId} {x : Value} (hb : Boxed W B t x) (h1 : t ≠ 82) (h2 : t ≠ 3) (y : Value) : NewT base (W.setCell ⟨B, 0, none⟩ y) v sts :=
  h.grown (grownBy_setCell' W B y) fun k e cs p => by
    cases e
    exact ⟨boxed_ne hb h1 cs p, boxed_ne hb h2 cs p⟩
theorem NewT.other {base : Nat} {W W' : World} {v : Value} {sts : StepL} {row : Option Nat} (h : NewT base W v sts) (hg : W.grownBy W' row) (hr : ∀ r, row = some r → ∃ o : Obj, W.heap[r]? = some o ∧ o.isCells = false) : NewT base W' v sts :=
  h.grown hg fun k e cs p => by
    obtain ⟨o, ho, hc⟩ := hr k e
    rw [ho]
    refine ⟨?_, ?_⟩ <;> (intro h'; simp only [Option.some.injEq] at h'; subst h'; simp [Obj.isCells] at hc)
theorem NewT.mono {base base' : Nat} {W : World} {v : Value} {sts : StepL} (h : NewT base W v sts) (hb : base' ≤ base) : NewT base' W v sts := by
  obtain ⟨us, h1, h2⟩ := h
  refine ⟨us, ⟨h1.1, h1.2.elim .inl (fun ⟨g, cap, cur, e1, e2, e3⟩ => .inr ⟨g, cap, cur, e1, Nat.le_trans hb e2, e3⟩)⟩, fun j hj => ?_⟩
  obtain ⟨u, a, b, c, d⟩ := h2 j hj
  exact ⟨u, a, b, c, d.mono hb⟩
/-- The list's own block. -/
theorem NewT.block {base : Nat} {W : World} {v : Value} {sts : StepL} (h : NewT base W v sts) {k : Nat} (hk : v.ownBlock = some k) : base ≤ k ∧ ∃ cs p, W.heap[k]? = some (.cells cs 82 p) := by
  obtain ⟨us, h1, _⟩ := h
  rcases h1.2 with ⟨rfl, _⟩ | ⟨g, cap, cur, rfl, hb, hgb, _⟩
  · cases hk
  · obtain rfl : g = k := by simpa [Value.ownBlock] using hk
    exact ⟨hb, _, _, hgb⟩
theorem NewT.slice {base : Nat} {W : World} {v : Value} {sts : StepL} (h : NewT base W v sts) : ∃ a cap, v = .slice a sts.length cap := by
  obtain ⟨us, h1, _⟩ := h
  rcases h1.2 with ⟨rfl, h0⟩ | ⟨g, cap, cur, rfl, _⟩
  · exact ⟨none, 0, by rw [h0]⟩
  · exact ⟨_, _, rfl⟩
theorem Try.infoSteps : Try.prog.underlying 50 = some (.slice 82) := by kernel_rfl

/-- 'append(out, Step{..})', within a round. -/
theorem wpi_append_step {F : Fence} {n : Nat} {ops : Array Oper} {rest : List Oper} {o : Oper} {a : Act} {Q : Exit → Act → World → Prop} (w : World) (hgd : o.guard = none) (s x : Operand)
    (ho : o.op = .call { callee := .builtin .append, args := #[s, x], argTypes := #[50, 50] }) (base : Nat) (v : Value) (sts : StepL) (hs : a.eval s = v) (hN : NewT base w v sts)
    (u : Value) (r p : Nat) (t : List Int) (B : Nat) (hx : a.eval x = .slice (some ⟨B, 0, none⟩) 1 1) (hB0 : w.cell? ⟨B, 0, none⟩ = some (.int .i64 (r : Int))) (hB1 : w.cell? ⟨B, 1, none⟩ = some (.int .i64 (p : Int))) (hB2 : w.cell? ⟨B, 2, none⟩ = some u) (hu : New base w u t) (hlen : sts.length ≤ 1000000) (hbase : base ≤ w.heap.size)
    (h : ∀ v' w', NewT base w' v' (sts ++ [(r, p, t)]) → w.grownBy w' v.ownBlock → (∃ g cap, v' = .slice (some ⟨g, 0, none⟩) (sts.length + 1) cap) → wpListIn F n Try.prog ops Q rest (a.put o.dst v') w') : wpListIn F n Try.prog ops Q (o :: rest) a w := by
  obtain ⟨i0, hi, hz0, hz1, hz2⟩ := info_parts Try.info82
  obtain ⟨us, h1, h2⟩ := hN
  have hul : us.length = sts.length * 3 := h1.1
  refine wpListIn_append_own w hgd s x 50 ho base 82 i0 (.agg #[.int .i64 0, .int .i64 0, .slice none 0 0]) 3 40 Try.infoSteps hi hz0 hz1 hz2 rfl (by decide) v sts.length us hs h1 ⟨B, 0, none⟩ 1 1 [.int .i64 (r : Int), .int .i64 (p : Int), u] hx (by simp)
    (by intro j z hj
        match j, hj with
        | 0, hj => simp at hj; subst hj; rw [Go.WideShapes.add_plain]; simpa using hB0
        | 1, hj => simp at hj; subst hj; rw [Go.WideShapes.add_plain]; simpa using hB1
        | 2, hj => simp at hj; subst hj; rw [Go.WideShapes.add_plain]; simpa using hB2)
    (by intro z hz; simp at hz; obtain ⟨_, _, rfl, _⟩ := New.ints hu; rcases hz with rfl | rfl | rfl <;> rfl) (by unfold maxLen; omega) (by omega) hbase ?_
  intro v' w' hown hg _
  have hkeep : ∀ (u' : Value) (t' : List Int), New base w u' t' → New base w' u' t' := fun u' t' hN' => World.ownsRow.kept hN' hg (New.apartT hN' h1)
  refine h v' w' ⟨us ++ [.int .i64 (r : Int), .int .i64 (p : Int), u], by simpa using hown, fun j hj => ?_⟩ hg (ownsRow_succ hown)
  by_cases hjl : j < sts.length
  · obtain ⟨u', q1, q2, q3, hN'⟩ := h2 j hjl
    rw [List.getElem?_append_left hjl, List.getElem?_append_left (by omega), List.getElem?_append_left (by omega), List.getElem?_append_left (by omega)]
    exact ⟨u', q1, q2, q3, hkeep u' _ hN'⟩
  · have hje : j = sts.length := by simp at hj; omega
    subst hje
    rw [List.getElem?_append_right (Nat.le_refl _), List.getElem?_append_right (by omega), List.getElem?_append_right (by omega), List.getElem?_append_right (by omega), hul]
    refine ⟨u, by simp, by simp, by simp, ?_⟩
    simpa using hkeep u t hu

end Go.Proofs.Ytjaikmlbajdedac

namespace Go.Proofs.Ytjaikmlbajdedac
open Go.Proofs Go.RowKit Go.Shelf Go.Maps

theorem results_box2 {fn : Func} {tmps : Array Value} {w : World} {a b B C : Nat} {ad : Option Addr} {n c : Nat} {x : Int} (h : fn.results = #[.cell a 50, .cell b 25]) (ha : tmps.getD a undef = .pointer (some ⟨B, 0, none⟩)) (hb : tmps.getD b undef = .pointer (some ⟨C, 0, none⟩))
    (hc : w.cell? ⟨B, 0, none⟩ = some (.slice ad n c)) (hd : w.cell? ⟨C, 0, none⟩ = some (.int .i64 x)) : (results fn tmps).run Try.prog w = .ok (.tuple #[.slice ad n c, .int .i64 x]) w := by
  have ha' : tmps[a]?.getD undef = .pointer (some ⟨B, 0, none⟩) := by rw [← ha]; simp
  have hb' : tmps[b]?.getD undef = .pointer (some ⟨C, 0, none⟩) := by rw [← hb]; simp
  simp only [results, h]
  simp [go_sem, ha', hb', hc, hd]

/-- What stands while steps come. -/
structure StInv (w2 : World) (B : Nat) (tv : Value) (l : StepL) (W : World) : Prop where
  out : ∃ v, Boxed W B 50 v ∧ NewT B W v l
  bP : Boxed W (B + 1) 23 tv
  kp : Below B w2 W
theorem StInv.own {w2 X Y : World} {B D : Nat} {tv : Value} {l : StepL} {row : Option Nat} (hB : B ≤ w2.heap.size) (hD : B ≤ D) (h : StInv w2 B tv l X) (hg : X.grownBy Y row) (hr : ∀ r, row = some r → D ≤ r ∧ ∃ o : Obj, X.heap[r]? = some o ∧ o.isCells = false) : StInv w2 B tv l Y := by
  obtain ⟨⟨v, hv, hN⟩, bP, kp⟩ := h
  exact ⟨⟨v, cells_own hv hg hr, hN.other hg (fun r e => (hr r e).2)⟩, cells_own bP hg hr, ⟨hg.os.trans kp.os, hg.tape.trans kp.tape, hg.output.trans kp.output, Nat.le_trans kp.size hg.size, fun k hk => (hg.block k (by have := kp.size; omega) (fun e => by have := (hr k e.symm).1; omega)).trans (kp.block k hk)⟩⟩
theorem StInv.below {w2 W W' : World} {B : Nat} {tv : Value} {l : StepL} (hB : B ≤ w2.heap.size) (h : StInv w2 B tv l W) (hb : Below W.heap.size W W') : StInv w2 B tv l W' := by
  obtain ⟨⟨v, hv, hN⟩, bP, kp⟩ := h
  exact ⟨⟨v, (hb.block _ hv.lt).trans hv, hN.below hb⟩, (hb.block _ bP.lt).trans bP, kp.trans (hb.mono (Nat.le_trans hB kp.size))⟩
theorem keepsFrom_below {C : Nat} {W W' : World} (hb : Below W.heap.size W W') : KeepsFrom C W W' := ⟨hb.size, fun k _ _ ho _ => (hb.block k (Array.getElem?_eq_some_iff.1 ho).1).trans ho⟩
/-- One step more. -/
theorem st_append {w2 W w' : World} {B C : Nat} {tv v v' : Value} {l : StepL} {x : Nat × Nat × List Int} {tmp : Obj} (hB : B ≤ w2.heap.size) (hv : Boxed W B 50 v) (hN : NewT B W v l) (bP : Boxed W (B + 1) 23 tv) (kp : Below B w2 W) (hN' : NewT B w' v' (l ++ [x])) (hg : (W.alloc tmp).grownBy w' v.ownBlock) :
    Boxed w' B 50 v ∧ StInv w2 B tv (l ++ [x]) (w'.setCell ⟨B, 0, none⟩ v') ∧ KeepsFrom C W (w'.setCell ⟨B, 0, none⟩ v') := by
  have hBW : B ≤ W.heap.size := Nat.le_trans hB kp.size
  have hne : ∀ {D : Nat} {e : TypeId} {y : Value}, Boxed W D e y → e ≠ 82 → some D ≠ v.ownBlock := fun hb he e' => by
    obtain ⟨_, cs, p, h⟩ := hN.block e'.symm
    exact boxed_ne hb he cs p h
  have hv1 : Boxed w' B 50 v := (hv.alloc tmp).kept hg (hne hv (by decide))
  have bP1 : Boxed w' (B + 1) 23 tv := (bP.alloc tmp).kept hg (hne bP (by decide))
  refine ⟨hv1, ⟨⟨v', hv1.set v', hN'.set hv1 (by decide) (by decide) v'⟩, (Below.heap_setCell w' ⟨B, 0, none⟩ v' (B + 1) (by show B + 1 ≠ B; omega)).trans bP1, kp.trans ?_⟩, ?_⟩
  · refine (((Below.refl B W).alloc hBW tmp).grown hg (by simp; omega) fun j ej => (hN.block ej).1).setCell (p := ⟨B, 0, none⟩) (Nat.le_refl _) v'
  · refine KeepsOthers.from (((KeepsOthers.alloc W tmp).trans (KeepsOthers.of_grownBy hg fun j o ej hj => ?_)).trans (KeepsOthers.setCell _ _ _)) C
    obtain ⟨_, cs, p, h⟩ := hN.block ej
    have h2 : (W.alloc tmp).heap[j]? = some (.cells cs 82 p) := (Below.heap_alloc W tmp j (Array.getElem?_eq_some_iff.1 h).1).trans h
    rw [h2] at hj
    cases hj
    rfl

end Go.Proofs.Ytjaikmlbajdedac

namespace Go.Proofs.Ytjaikmlbajdedac
open Go.Proofs Go.RowKit Go.Shelf Go.Maps

attribute [local go_sem] Oper.semAt_some
attribute [local go_sem ↓] Go.wp_at_zero Go.wp_at_succ

theorem rulesL_nil {n : Nat} {W : World} {aL : Option Addr} {L : List Int} {cL : Nat} (h : Ints n W aL L) (hp : 0 < L.length) : aL = none → cL = 0 := fun e => by
  obtain ⟨b, off, e', _⟩ := h 0 hp
  rw [e] at e'; cases e'

theorem steps_boxes (w W4 : World) (al at' : Option Addr) (nl cl nt ct : Nat) (hW4 : (((w.alloc (.cells #[.slice al nl cl] 46)).alloc (.cells #[.slice at' nt ct] 23)).alloc (.cells #[.slice none 0 0] 50)).alloc (.cells #[.int .i64 0] 25) = W4) :
    Below w.heap.size w W4 ∧ Boxed W4 w.heap.size 46 (.slice al nl cl) ∧ Boxed W4 (w.heap.size + 1) 23 (.slice at' nt ct) ∧ Boxed W4 (w.heap.size + 1 + 1) 50 (.slice none 0 0) ∧ Boxed W4 (w.heap.size + 1 + 1 + 1) 25 (.int .i64 0) ∧ W4.heap.size = w.heap.size + 1 + 1 + 1 + 1 := by
  have hB4 : Below w.heap.size w W4 := by rw [← hW4]; exact ((((Below.refl _ w).alloc (Nat.le_refl _) _).alloc (by simp) _).alloc (by simp; omega) _).alloc (by simp; omega) _
  have bL : Boxed W4 w.heap.size 46 (.slice al nl cl) := by rw [← hW4]; exact (((Boxed.new w 46 (.slice al nl cl)).alloc _).alloc _).alloc _
  have bT : Boxed W4 (w.heap.size + 1) 23 (.slice at' nt ct) := by
    rw [← hW4]
    have h := Boxed.new (w.alloc (.cells #[.slice al nl cl] 46)) 23 (.slice at' nt ct)
    rw [World.size_alloc] at h
    exact (h.alloc _).alloc _
  have b0 : Boxed W4 (w.heap.size + 1 + 1) 50 (.slice none 0 0) := by
    rw [← hW4]
    have h := Boxed.new ((w.alloc (.cells #[.slice al nl cl] 46)).alloc (.cells #[.slice at' nt ct] 23)) 50 (.slice none 0 0)
    simp only [World.size_alloc] at h
    exact h.alloc _
  have b1 : Boxed W4 (w.heap.size + 1 + 1 + 1) 25 (.int .i64 0) := by
    rw [← hW4]
    have h := Boxed.new (((w.alloc (.cells #[.slice al nl cl] 46)).alloc (.cells #[.slice at' nt ct] 23)).alloc (.cells #[.slice none 0 0] 50)) 25 (.int .i64 0)
    simpa only [World.size_alloc] using h
  have hs4 : W4.heap.size = w.heap.size + 1 + 1 + 1 + 1 := by rw [← hW4]; simp
  exact ⟨hB4, bL, bT, b0, b1, hs4⟩

/-- What rules.Steps answers. -/
def StepsAns (rs : RuleL) (t : List Int) (w : World) (e : Ending) (w' : World) : Prop := ∃ v, e = .returned (.tuple #[v, .int .i64 (Tm.stepErr rs t)]) ∧ NewT w.heap.size w' v (Tm.stepVal rs t) ∧ Below w.heap.size w w'

/-- What holds ahead of place m. -/
structure StAt (rs : RuleL) (t : List Int) (w2 : World) (B : Nat) (tv : Value) (m : Nat) (W : World) : Prop where
  no : Tm.allE rs t m = 0
  inv : StInv w2 B tv (Tm.allL rs t m) W
/-- What holds where it is left. -/
structure StOut (rs : RuleL) (t : List Int) (w : World) (n : Nat) (c : Code) (W : World) : Prop where
  ret : c = .ret
  bad : Tm.allE rs t t.length ≠ 0
  b0 : Boxed W (n + 1 + 1) 50 (.slice none 0 0)
  b1 : Boxed W (n + 1 + 1 + 1) 25 (.int .i64 (Tm.allE rs t t.length))
  kp : Below n w W

set_option maxRecDepth 100000 in
set_option maxHeartbeats 4000000 in
theorem steps_right (rs : RuleL) (t : List Int) (al at' : Option Addr) (cl ct : Nat) (w : World) (hr : Tm.rulesErr rs = 0) (ht : Tm.err t = 0) (hR : RulesAt w.heap.size w al rs) (hT : Ints w.heap.size w at' t) (h1 : t.length ≤ ct) (h2 : ct ≤ maxLen) :
    Calls Try.prog 29 #[.slice al rs.length cl, .slice at' t.length ct] w fun e w' => StepsAns rs t w e w' := by
  obtain ⟨F, hF⟩ : ∃ F, F = Fence.wide := ⟨_, rfl⟩
  refine (callsIn_wide (n := 3)).1 ?_
  rw [← hF]
  obtain ⟨hro, hfn, hdd, hcin⟩ := wide_facts hF
  have HPl : Hid (Pl F) := by rw [hF]; exact wide_pl
  have HF := hid hF
  clear hF
  have hf1 := hfn 29
  have hf2 := hfn 27
  have hf3 := hfn 22
  have hf4 := hfn 53
  have hf5 := hfn 76
  have hf6 := hfn 54
  have hf7 := hfn 55
  clear hfn
  have l30 := Tm.err_len ht
  have lpos := Tm.err_pos ht
  obtain ⟨h8, hall⟩ := Tm.rulesErr_ok hr
  obtain ⟨W4, hW4⟩ : ∃ W4, (((w.alloc (.cells #[.slice al rs.length cl] 46)).alloc (.cells #[.slice at' t.length ct] 23)).alloc (.cells #[.slice none 0 0] 50)).alloc (.cells #[.int .i64 0] 25) = W4 := ⟨_, rfl⟩
  obtain ⟨hB4, bL, bT, b0, b1, hs4⟩ := steps_boxes w W4 al at' rs.length cl t.length ct hW4
  have HW4 := hid hW4
  clear hW4
  have cL4 := bL.cell
  have C1 := hid (hcin (n := 2) (rulesCheck_any rs al cl W4 ((hR.below hB4).mono hB4.size)))
  rw [hr] at C1
  have C2 := hid (fun W (hW : Below W4.heap.size W4 W) => hcin (n := 2) (check_any t at' ct W ((hT.below (hB4.trans (hW.mono hB4.size))).mono (Nat.le_trans hB4.size hW.size))))
  rw [ht] at C2
  refine callsIn_of_wp_marks Try.func29 rfl hf1 ?_ hro
  simp only [Try.ntmps29, List.size_toArray, List.length_cons, List.length_nil, Nat.reduceAdd, Nat.reduceSub, Array.replicate_succ, Array.replicate_zero, List.push_toArray, List.append_toArray, List.nil_append, List.cons_append]
  gi_wp2_with fail
  rw [HW4.out]
  gi_wp2_with (first
    | ((try refine ⟨hdd _, ?_⟩); gi_at_call 27; refine C1.out.mono ?_; rintro e w1 ⟨rfl, hB1⟩; have cT1 := (hB1.cell (p := ⟨w.heap.size + 1, 0, none⟩) (by show w.heap.size + 1 < _; omega)).trans bT.cell)
    | ((try refine ⟨hdd _, ?_⟩); gi_at_call 22; refine (C2.out w1 hB1).mono ?_; rintro e w2 ⟨rfl, hB2⟩; have hB12 := hB1.trans (hB2.mono hB1.size); have cT2 := (hB12.cell (p := ⟨w.heap.size + 1, 0, none⟩) (by show w.heap.size + 1 < _; omega)).trans bT.cell; have cT3 : (w2.alloc (.cells #[.slice none 0 0] 50)).cell? ⟨w.heap.size + 1, 0, none⟩ = some (.slice at' t.length ct) := (World.cell?_of_block (a := ⟨w.heap.size + 1, 0, none⟩) (Below.heap_alloc w2 _ (w.heap.size + 1) (by have := hB12.size; omega))).trans cT2)
    | ((try refine ⟨hdd _, ?_⟩); gi_at_call 53; refine (placesx_in F HPl.out _ _ _ _ _).mono ?_; rintro e w' ⟨rfl, rfl⟩))
  have hBw2 : Below w.heap.size w w2 := hB4.trans (hB12.mono hB4.size)
  have hn2 : w.heap.size + 1 + 1 + 1 + 1 ≤ w2.heap.size := by have := hB12.size; omega
  have cL2 := (hB12.cell (p := ⟨w.heap.size, 0, none⟩) (by show w.heap.size < _; omega)).trans cL4
  have b02 : Boxed w2 (w.heap.size + 1 + 1) 50 (.slice none 0 0) := (hB12.block _ b0.lt).trans b0
  have b12 : Boxed w2 (w.heap.size + 1 + 1 + 1) 25 (.int .i64 0) := (hB12.block _ b1.lt).trans b1
  have bO := (Boxed.new w2 50 (.slice none 0 0)).alloc (.cells #[.slice at' t.length ct] 23)
  have bP := Boxed.new (w2.alloc (.cells #[.slice none 0 0] 50)) 23 (.slice at' t.length ct)
  rw [World.size_alloc] at bP
  have hB3 : Below w2.heap.size w2 ((w2.alloc (.cells #[.slice none 0 0] 50)).alloc (.cells #[.slice at' t.length ct] 23)) := ((Below.refl _ w2).alloc (Nat.le_refl _) _).alloc (by simp) _
  have I0 : StAt rs t w2 w2.heap.size (.slice at' t.length ct) 0 ((w2.alloc (.cells #[.slice none 0 0] 50)).alloc (.cells #[.slice at' t.length ct] 23)) := ⟨rfl, ⟨⟨_, bO, NewT.nil _ _⟩, bP, hB3⟩⟩
  have hs5 : ((w2.alloc (.cells #[.slice none 0 0] 50)).alloc (.cells #[.slice at' t.length ct] 23)).heap.size = w2.heap.size + 1 + 1 := by simp
  obtain ⟨W5, hW5⟩ : ∃ W5, (w2.alloc (.cells #[.slice none 0 0] 50)).alloc (.cells #[.slice at' t.length ct] 23) = W5 := ⟨_, rfl⟩
  rw [hW5] at I0 hs5 ⊢
  have HR := hid hR
  have HT := hid hT
  have Hall := hid hall
  have HSE := hid (show Tm.stepErr rs t = Tm.allE rs t t.length by unfold Tm.stepErr; rw [if_pos hr, if_pos ht])
  have hl30' : (t.length : Int) ≤ 30 := by omega
  have h8' : (rs.length : Int) ≤ 8 := by omega
  clear hW5 bO bP hB3 cT1 cT3 hB1 hB2 C1 C2 HW4 cL4 bL bT b0 b1 hR hT hall hr hB4
  refine wpIn_rangeSteps hro (by omega) (gf := 76) (lb := #[.pointer (some ⟨w2.heap.size + 1, 0, none⟩)]) rfl hf5 (enters_of Try.func76 (by kernel_rfl) rfl)
    (places_steps F HPl.out _ (w2.heap.size + 1) ct at' t (by omega)) (fun _ => rfl)
    (StAt rs t w2 w2.heap.size (.slice at' t.length ct)) (StOut rs t w w.heap.size) (fun _ _ => False) (.inl fun _ _ h => h)
    (by
      rintro m X Y row ⟨no, inv⟩ hg hr
      exact ⟨no, inv.own (Nat.le_refl _) (by omega) hg hr⟩)
    (by
      rintro c X Y row ⟨h1, h2, h3, h4, kp⟩ hg hr
      exact ⟨h1, h2, cells_own h3 hg hr, cells_own h4 hg hr, ⟨hg.os.trans kp.os, hg.tape.trans kp.tape, hg.output.trans kp.output, Nat.le_trans kp.size hg.size, fun k hk => (hg.block k (by have := kp.size; omega) (fun e => by have := (hr k e.symm).1; omega)).trans (kp.block k hk)⟩⟩)
    (fun m W hI => ⟨hI.inv.bP.cell, by
      have hb := hBw2.trans (hI.inv.kp.mono (by omega))
      exact (HT.out.below hb).mono hb.size⟩)
    I0
    (fun m => { tmps := #[.slice al rs.length cl, .slice at' t.length ct, .pointer (some ⟨w.heap.size, 0, none⟩), .pointer (some ⟨w.heap.size + 1, 0, none⟩), .pointer (some ⟨w.heap.size + 1 + 1, 0, none⟩), .pointer (some ⟨w.heap.size + 1 + 1 + 1, 0, none⟩), .int .i64 0, .int .i64 0, .pointer (some ⟨w2.heap.size, 0, none⟩), .int .i64 (m : Int), .int .i64 (Tm.endAt t m : Int),
      undef, undef, undef, undef, undef, undef, undef, .slice al rs.length cl, .int .i64 0, .int .i64 0, .bool false, undef, .slice at' t.length ct, .int .i64 0, .int .i64 0, .bool false, undef, .slice at' t.length ct, .func (.func 76) #[] #[.pointer (some ⟨w2.heap.size + 1, 0, none⟩)], .int .i64 (m : Int), .int .i64 (Tm.endAt t m : Int),
      undef, undef, undef, undef, undef, undef, undef, undef, undef, undef, undef, undef, undef, undef, undef, undef, undef, undef, undef, undef, undef, undef, undef, undef, undef, undef, undef, undef, undef, undef, undef, undef, undef, undef, undef, undef, undef, undef, undef, undef, undef], defers := [] }) ?assign ?body ?done ?stop ?panic
  case assign =>
    intro l m W K hK
    simp only [encPl]
    gi_wp2
    exact hK
  case body =>
    rintro l m W ⟨no, inv⟩ hm
    have cL := (inv.kp.cell (p := ⟨w.heap.size, 0, none⟩) (by show w.heap.size < _; omega)).trans cL2
    have Hno := hid no
    have Hinv := hid inv
    clear no inv
    gi_wp2_with fail
    gi_loopw [34] (fun v X => ∃ k : Nat, k ≤ rs.length ∧ v = .int .i64 (k : Int) ∧ Hid (Tm.rowE rs t m k = 0) ∧ Hid (StInv w2 w2.heap.size (.slice at' t.length ct) (Tm.allL rs t m ++ Tm.rowL rs t m k) X) ∧ KeepsFrom W5.heap.size W X) (fun v _ => rs.length - (intOf v).toNat)
    case atStart => exact ⟨0, Nat.zero_le _, rfl, hid rfl, hid (by rw [Tm.rowL, List.append_nil]; exact Hinv.out), KeepsFrom.refl _ _⟩
    case round =>
      obtain ⟨k, hk, rfl, hrow, hinv, hkf⟩ := hrel
      by_cases hlt : k < rs.length
      · have hlt' : (k : Int) < (rs.length : Int) := by omega
        have hbW := hBw2.trans (hinv.out.kp.mono (by omega))
        obtain ⟨b, off, rfl, hb, aL, cL', aR, cR, g1, g2, g3, g4, g5, g6, g7, g8⟩ := (HR.out.below hbW) k hlt
        obtain ⟨eL, eR, _⟩ := Tm.ruleErr_ok (Hall.out k hlt)
        have hno := hid (Tm.rowE_no (rs := rs) (t := t) hrow.out)
        have hye := hid (Tm.rowE_yes (rs := rs) (t := t) hrow.out)
        have hLn := hid (Tm.rowL_no (rs := rs) (t := t) (a := m) (n := k))
        have hLy := hid (Tm.rowL_yes (rs := rs) (t := t) (a := m) (n := k))
        have hstop := hid (Tm.allE_stop (rs := rs) (t := t) Hno.out hrow.out hm hlt)
        have hbv : Tm.hitB rs t m k = Tm.fitIs (rs[k]?.getD ([], [])).1 (Tm.part t m) := rfl
        have hev : Tm.hitErr rs t m k = Tm.replErr (Tm.fitVal (rs[k]?.getD ([], [])).1 (Tm.part t m)) t (m : Int) (rs[k]?.getD ([], [])).2 := rfl
        have hvv : Tm.hitVal rs t m k = Tm.replVal (Tm.fitVal (rs[k]?.getD ([], [])).1 (Tm.part t m)) t (m : Int) (rs[k]?.getD ([], [])).2 := rfl
        generalize (rs[k]?.getD ([], [])).1 = L at *
        generalize (rs[k]?.getD ([], [])).2 = R at *
        have lL := Tm.err_len eL
        have pL := Tm.err_pos eL
        have pgt := Tm.endAt_gt t m
        have ple := Tm.end_in ht hm
        have hpl := Tm.part_length ht hm
        have hpe := Tm.part_err ht hm
        obtain ⟨bt, ot, rfl, hbt, _⟩ := HT.out.at lpos
        have hBa : Below wr.heap.size wr (wr.alloc (.cells #[.slice aL L.length cL', .slice aR R.length cR] 79)) := (Below.refl _ wr).alloc (Nat.le_refl _) _
        have hblk := World.alloc_heap_new wr (.cells #[.slice aL L.length cL', .slice aR R.length cR] 79)
        obtain ⟨W6, hW6⟩ : ∃ W6, wr.alloc (.cells #[.slice aL L.length cL', .slice aR R.length cR] 79) = W6 := ⟨_, rfl⟩
        have hs6 : W6.heap.size = wr.heap.size + 1 := by rw [← hW6]; simp
        rw [hW6] at hBa hblk
        have d0 : W6.cell? ⟨wr.heap.size, 0, none⟩ = some (.slice aL L.length cL') := by simp [World.cell?, hblk]
        have d1 : W6.cell? ⟨wr.heap.size, 1, none⟩ = some (.slice aR R.length cR) := by simp [World.cell?, hblk]
        have hb6 : Below w.heap.size w W6 := hbW.trans (hBa.mono hbW.size)
        have cT6 : W6.cell? ⟨w.heap.size + 1, 0, none⟩ = some (.slice (some ⟨bt, ot, none⟩) t.length ct) := by
          have hk6 : Below w2.heap.size w2 W6 := hinv.out.kp.trans (hBa.mono hinv.out.kp.size)
          exact (hk6.cell (p := ⟨w.heap.size + 1, 0, none⟩) (by show w.heap.size + 1 < _; omega)).trans cT2
        have inv6 := hid (hinv.out.below (Nat.le_refl _) hBa)
        have kf6 : KeepsFrom W5.heap.size W W6 := hkf.trans (keepsFrom_below hBa)
        have HfitC := hid (fun X (hX : Below W6.heap.size W6 X) => Fit_any L (Tm.part t m) aL (some ⟨bt, ot + m, none⟩) cL' (ct - m) X
          ((((g3.mono hbW.size).below hBa).mono hBa.size |>.below hX).mono hX.size)
          (by have hb := hb6.trans (hX.mono hb6.size); exact ((HT.out.sub m _).below hb).mono hb.size)
          ⟨g5, g6, rulesL_nil g3 pL⟩ ⟨by rw [hpl]; omega, by omega, fun e => by cases e⟩)
        rw [hpl, Tm.fitErr_of eL hpe] at HfitC
        have HrepC := hid (fun X (hX : Below W6.heap.size W6 X) ss (sa : Option Addr) sc (hS : Subs X.heap.size X sa ss) => replaced_any ss t R (m : Int) sa (some ⟨bt, ot, none⟩) aR sc ct cR X hS
          (by have hb := hb6.trans (hX.mono hb6.size); exact (HT.out.below hb).mono hb.size)
          ((((g4.mono hbW.size).below hBa).mono hBa.size |>.below hX).mono hX.size) h1 h2)
        have q1 : (m : Int) ≤ (Tm.endAt t m : Int) := by omega
        have q2 : (Tm.endAt t m : Int) ≤ (ct : Int) := by omega
        have q3 : ¬ ct - m = 0 := by omega
        have q4 : (0 : Int) ≤ (m : Int) := by omega
        have q5 : ¬ ct = m := by omega
        rw [← hbv] at HfitC
        have hBd : Below W6.heap.size W6 W6.drew := below_drewN (Below.refl _ W6) 1
        have Hf := hid (CallsIn.inRound l (hcin (n := 0) (HfitC.out W6.drew hBd)))
        have HW6 := hid hW6
        have mixed : Try.prog.follows .mixedOrders = true := by kernel_rfl
        clear hW6 hblk HfitC g3 g4 g5 g6 g7 g8 eL eR hpe hpl hbW hbv
        generalize Tm.hitB rs t m k = qb at *
        generalize Tm.fitVal L (Tm.part t m) = ss at *
        gi_wp2_with fail
        rw [HW6.out]
        refine wpIn_mono (Q := fun e a' W' => e = .normal ∧ ∃ sa sc, a' = { tmps := #[.slice (some ⟨b, off, none⟩) rs.length cl, .slice (some ⟨bt, ot, none⟩) t.length ct, .pointer (some ⟨w.heap.size, 0, none⟩), .pointer (some ⟨w.heap.size + 1, 0, none⟩), .pointer (some ⟨w.heap.size + 1 + 1, 0, none⟩), .pointer (some ⟨w.heap.size + 1 + 1 + 1, 0, none⟩), .int .i64 0, .int .i64 0, .pointer (some ⟨w2.heap.size, 0, none⟩), .int .i64 (m : Int), .int .i64 (Tm.endAt t m : Int), .int .i64 (k : Int), .pointer (some ⟨wr.heap.size, 0, none⟩), .slice sa ss.length sc, .bool qb, .int .i64 0, u16, u17, .slice (some ⟨b, off, none⟩) rs.length cl, .int .i64 0, .int .i64 0, .bool false, undef, .slice (some ⟨bt, ot, none⟩) t.length ct, .int .i64 0, .int .i64 0, .bool false, undef, .slice (some ⟨bt, ot, none⟩) t.length ct, .func (.func 76) #[] #[.pointer (some ⟨w2.heap.size + 1, 0, none⟩)], .int .i64 (m : Int), .int .i64 (Tm.endAt t m : Int), .slice (some ⟨b, off, none⟩) rs.length cl, .int .i64 (rs.length : Int), .int .i64 (k : Int), .bool true, .int .i64 (k : Int), .pointer (some ⟨b, off + k * 2, none⟩), .agg #[.slice aL L.length cL', .slice aR R.length cR], .tuple #[.slice sa ss.length sc, .bool qb, .int .i64 0], .pointer (some ⟨wr.heap.size, 0, none⟩), .slice aL L.length cL', .slice (some ⟨bt, ot, none⟩) t.length ct, .int .i64 (m : Int), .int .i64 (Tm.endAt t m : Int), .slice (some ⟨bt, ot + m, none⟩) (Tm.endAt t m - m) (ct - m), .tuple #[.slice sa ss.length sc, .bool qb, .int .i64 0], .slice sa ss.length sc, .bool qb, .int .i64 0, u50, u51, u52, u53, u54, u55, u56, u57, u58, u59, u60, u61, u62, u63, u64, u65, u66, u67, u68, u69, u70, u71, undef], defers := [] } ∧ NewS W6.drew.heap.size W' (.slice sa ss.length sc) ss ∧ Below W6.drew.heap.size W6.drew W') ?reg ?cont
        case reg =>
          refine wpIn_region_round hro (by kernel_rfl) mixed ?_
          show wpAnyIn F _ _ _ _ _ 14 (Array.replicate 14 false) _ _
          refine wpAnyIn_take (i := 0) (v := .pointer (some ⟨wr.heap.size, 0, none⟩)) hro rfl (by kernel_rfl) (by kernel_rfl) (by kernel_rfl) (fun _ _ _ h => absurd h.1 (by simp)) ⟨Or.inl ⟨by rfl, fun w => by go_simp⟩, fun _ => rfl⟩ ?_
          refine wpAnyIn_take (i := 3) (v := .int .i64 (m : Int)) hro rfl (by kernel_rfl) (by kernel_rfl) (by kernel_rfl) (fun _ _ _ h => absurd h.1 (by simp)) ⟨Or.inl ⟨by rfl, fun w => by go_simp⟩, fun _ => rfl⟩ ?_
          refine wpAnyIn_take (i := 4) (v := .int .i64 (Tm.endAt t m : Int)) hro rfl (by kernel_rfl) (by kernel_rfl) (by kernel_rfl) (fun _ _ _ h => absurd h.1 (by simp)) ⟨Or.inl ⟨by rfl, fun w => by go_simp⟩, fun _ => rfl⟩ ?_
          refine wpAnyIn_ready (rs := [1, 2]) (by kernel_rfl) (by simp) ?_
          refine AllReadyIn.cons rfl (fun K hK => ?_) (AllReadyIn.cons rfl (fun K hK => ?_) AllReadyIn.nil)
          · go_simp
            refine hK _ _ ?_
            clear hK K
            refine wpAnyIn_ready (rs := [2]) (by kernel_rfl) (by simp) ?_
            refine AllReadyIn.cons rfl (fun K hK => ?_) AllReadyIn.nil
            go_simp
            refine hK _ _ ?_
            clear hK K
            refine wpAnyIn_take (i := 5) (v := .slice (some ⟨bt, ot + m, none⟩) (Tm.endAt t m - m) (ct - m)) hro rfl (by kernel_rfl) (by kernel_rfl) (by kernel_rfl) (fun _ _ _ h => absurd h.1 (by simp)) ⟨Or.inl ⟨by rfl, fun w => by go_simp⟩, fun _ => rfl⟩ ?_
            refine wpAnyIn_ready (rs := [6]) (by kernel_rfl) (by simp) ?_
            refine AllReadyIn.cons rfl (fun K hK => ?_) AllReadyIn.nil
            go_simp
            gi_wp2_with (first | ((try refine ⟨hdd _, ?_⟩); gi_at_call 54; refine Hf.out.mono ?_; rintro e W1 ⟨v, rfl, hN1, hB1'⟩; obtain ⟨sa, sc, rfl, _⟩ := hN1.subs))
            refine wpAnyIn_take (i := 7) (v := .tuple #[.slice sa ss.length sc, .bool qb, .int .i64 0]) hro rfl (by kernel_rfl) (by kernel_rfl) (by kernel_rfl) (fun _ _ _ h => absurd h.1 (by simp)) ⟨Or.inl ⟨by rfl, fun w => by go_simp⟩, fun _ => rfl⟩ ?_
            refine wpAnyIn_take (i := 8) (v := .slice sa ss.length sc) hro rfl (by kernel_rfl) (by kernel_rfl) (by kernel_rfl) (fun _ _ _ h => absurd h.1 (by simp)) ⟨Or.inl ⟨by rfl, fun w => by go_simp⟩, fun _ => rfl⟩ ?_
            refine wpAnyIn_take (i := 9) (v := .bool qb) hro rfl (by kernel_rfl) (by kernel_rfl) (by kernel_rfl) (fun _ _ _ h => absurd h.1 (by simp)) ⟨Or.inl ⟨by rfl, fun w => by go_simp⟩, fun _ => rfl⟩ ?_
            refine wpAnyIn_take (i := 10) (v := .int .i64 0) hro rfl (by kernel_rfl) (by kernel_rfl) (by kernel_rfl) (fun _ _ _ h => absurd h.1 (by simp)) ⟨Or.inl ⟨by rfl, fun w => by go_simp⟩, fun _ => rfl⟩ ?_
            refine wpAnyIn_take (i := 11) (v := .slice sa ss.length sc) hro rfl (by kernel_rfl) (by kernel_rfl) (by kernel_rfl) (fun _ _ _ h => absurd h.1 (by simp)) ⟨Or.inl ⟨by rfl, fun w => by go_simp⟩, fun _ => rfl⟩ ?_
            refine wpAnyIn_take (i := 12) (v := .bool qb) hro rfl (by kernel_rfl) (by kernel_rfl) (by kernel_rfl) (fun _ _ _ h => absurd h.1 (by simp)) ⟨Or.inl ⟨by rfl, fun w => by go_simp⟩, fun _ => rfl⟩ ?_
            refine wpAnyIn_ready (rs := [13]) (by kernel_rfl) (by simp) ?_
            refine AllReadyIn.cons rfl (fun K hK => ?_) AllReadyIn.nil
            go_simp
            refine hK _ _ ?_
            clear hK K
            refine wpAnyIn_done (by kernel_rfl) ?_ _
            exact ⟨rfl, sa, sc, rfl, hN1, hB1'⟩
          · go_simp
            refine hK _ _ ?_
            clear hK K
            refine wpAnyIn_take (i := 5) (v := .slice (some ⟨bt, ot + m, none⟩) (Tm.endAt t m - m) (ct - m)) hro rfl (by kernel_rfl) (by kernel_rfl) (by kernel_rfl) (fun _ _ _ h => absurd h.1 (by simp)) ⟨Or.inl ⟨by rfl, fun w => by go_simp⟩, fun _ => rfl⟩ ?_
            refine wpAnyIn_ready (rs := [1]) (by kernel_rfl) (by simp) ?_
            refine AllReadyIn.cons rfl (fun K hK => ?_) AllReadyIn.nil
            go_simp
            refine hK _ _ ?_
            clear hK K
            refine wpAnyIn_ready (rs := [6]) (by kernel_rfl) (by simp) ?_
            refine AllReadyIn.cons rfl (fun K hK => ?_) AllReadyIn.nil
            go_simp
            gi_wp2_with (first | ((try refine ⟨hdd _, ?_⟩); gi_at_call 54; refine Hf.out.mono ?_; rintro e W1 ⟨v, rfl, hN1, hB1'⟩; obtain ⟨sa, sc, rfl, _⟩ := hN1.subs))
            refine wpAnyIn_take (i := 7) (v := .tuple #[.slice sa ss.length sc, .bool qb, .int .i64 0]) hro rfl (by kernel_rfl) (by kernel_rfl) (by kernel_rfl) (fun _ _ _ h => absurd h.1 (by simp)) ⟨Or.inl ⟨by rfl, fun w => by go_simp⟩, fun _ => rfl⟩ ?_
            refine wpAnyIn_take (i := 8) (v := .slice sa ss.length sc) hro rfl (by kernel_rfl) (by kernel_rfl) (by kernel_rfl) (fun _ _ _ h => absurd h.1 (by simp)) ⟨Or.inl ⟨by rfl, fun w => by go_simp⟩, fun _ => rfl⟩ ?_
            refine wpAnyIn_take (i := 9) (v := .bool qb) hro rfl (by kernel_rfl) (by kernel_rfl) (by kernel_rfl) (fun _ _ _ h => absurd h.1 (by simp)) ⟨Or.inl ⟨by rfl, fun w => by go_simp⟩, fun _ => rfl⟩ ?_
            refine wpAnyIn_take (i := 10) (v := .int .i64 0) hro rfl (by kernel_rfl) (by kernel_rfl) (by kernel_rfl) (fun _ _ _ h => absurd h.1 (by simp)) ⟨Or.inl ⟨by rfl, fun w => by go_simp⟩, fun _ => rfl⟩ ?_
            refine wpAnyIn_take (i := 11) (v := .slice sa ss.length sc) hro rfl (by kernel_rfl) (by kernel_rfl) (by kernel_rfl) (fun _ _ _ h => absurd h.1 (by simp)) ⟨Or.inl ⟨by rfl, fun w => by go_simp⟩, fun _ => rfl⟩ ?_
            refine wpAnyIn_take (i := 12) (v := .bool qb) hro rfl (by kernel_rfl) (by kernel_rfl) (by kernel_rfl) (fun _ _ _ h => absurd h.1 (by simp)) ⟨Or.inl ⟨by rfl, fun w => by go_simp⟩, fun _ => rfl⟩ ?_
            refine wpAnyIn_ready (rs := [13]) (by kernel_rfl) (by simp) ?_
            refine AllReadyIn.cons rfl (fun K hK => ?_) AllReadyIn.nil
            go_simp
            refine hK _ _ ?_
            clear hK K
            refine wpAnyIn_done (by kernel_rfl) ?_ _
            exact ⟨rfl, sa, sc, rfl, hN1, hB1'⟩
        case cont =>
          rintro e a' W7 ⟨rfl, sa, sc, rfl, hN7, hB7⟩
          have hB67 : Below W6.heap.size W6 W7 := hBd.trans (hB7.mono hBd.size)
          have hs67 : W6.heap.size ≤ W7.heap.size := hB67.size
          have hwr : w2.heap.size ≤ wr.heap.size := hinv.out.kp.size
          have inv7 := inv6.out.below (Nat.le_refl _) hB67
          have kf7 : KeepsFrom W5.heap.size W W7 := kf6.trans (keepsFrom_below hB67)
          cases qb with
          | false =>
            gi_wp2
            go_roundw
            case rel => exact ⟨k + 1, by omega, by go_num, hid (hno.out rfl), hid (by rw [hLn.out rfl]; exact inv7), kf7⟩
            case measure => simp [intOf]; omega
          | true =>
            obtain ⟨_, _, esa, hS7, _⟩ := hN7.subs
            cases esa
            have cT7 := (hB67.cell (p := ⟨w.heap.size + 1, 0, none⟩) (by show w.heap.size + 1 < _; omega)).trans cT6
            have d17 := (hB67.cell (p := ⟨wr.heap.size, 1, none⟩) (by show wr.heap.size < _; omega)).trans d1
            have Hrep := hid (CallsIn.inRound l (hcin (n := 0) (HrepC.out W7 hB67 ss sa sc hS7)))
            rw [← hev, ← hvv] at Hrep
            clear HrepC hN7 hS7 hev hvv
            have b07 : Boxed W7 (w.heap.size + 1 + 1) 50 (.slice none 0 0) := (inv7.kp.block _ (by omega)).trans b02
            have b17 : Boxed W7 (w.heap.size + 1 + 1 + 1) 25 (.int .i64 0) := (inv7.kp.block _ (by omega)).trans b12
            have hb7 := hb6.trans (hB67.mono hb6.size)
            have hle := hid (show (Tm.allL rs t m ++ Tm.rowL rs t m k).length ≤ 1000000 by
              have h1 := Tm.allL_le rs t m
              have h2 := Tm.rowL_le rs t m k
              have h3 : m * rs.length ≤ 30 * 8 := Nat.mul_le_mul (by omega) h8
              rw [List.length_append]; omega)
            have Hi7 := hid inv7
            clear inv7 inv6 hinv hkf kf6
            by_cases he : Tm.hitErr rs t m k = 0
            · have Hy := hid (hye.out rfl he)
              obtain ⟨acc, hacc⟩ : ∃ acc, Tm.allL rs t m ++ Tm.rowL rs t m k = acc := ⟨_, rfl⟩
              rw [hacc] at Hi7 hle
              have Hacc := hid hacc
              clear hacc
              rw [he] at Hrep
              have Hl := hid (hLy.out rfl)
              clear he hstop hye hno hLn hLy
              generalize Tm.hitVal rs t m k = u at *
              gi_wp2_with (first
                | ((try refine ⟨hdd _, ?_⟩); gi_at_call 55; refine Hrep.out.mono ?_; clear Hrep; rintro e W8 ⟨v8, rfl, hN8, hB8⟩; obtain ⟨x8, c8, rfl, _⟩ := New.ints hN8; have inv8 := Hi7.out.below (Nat.le_refl _) hB8; have hs8 := hB8.size; obtain ⟨vo, hvo, hNo⟩ := inv8.out; obtain ⟨va, vc, rfl⟩ := hNo.slice; have cO := hvo.cell; have hBx : Below W8.heap.size W8 (W8.alloc (.cells #[.int .i64 (k : Int), .int .i64 (m : Int), .slice x8 u.length c8] 82)) := (Below.refl _ W8).alloc (Nat.le_refl _) _; have blk := World.alloc_heap_new W8 (.cells #[.int .i64 (k : Int), .int .i64 (m : Int), .slice x8 u.length c8] 82); have e0 : (W8.alloc (.cells #[.int .i64 (k : Int), .int .i64 (m : Int), .slice x8 u.length c8] 82)).cell? ⟨W8.heap.size, 0, none⟩ = some (.int .i64 (k : Int)) := (by rw [cell_at blk]; rfl); have e1 : (W8.alloc (.cells #[.int .i64 (k : Int), .int .i64 (m : Int), .slice x8 u.length c8] 82)).cell? ⟨W8.heap.size, 1, none⟩ = some (.int .i64 (m : Int)) := (by rw [cell_at blk]; rfl); have e2 : (W8.alloc (.cells #[.int .i64 (k : Int), .int .i64 (m : Int), .slice x8 u.length c8] 82)).cell? ⟨W8.heap.size, 2, none⟩ = some (.slice x8 u.length c8) := (by rw [cell_at blk]; rfl); clear blk)
                | (gi_at_builtin; (refine wpi_append_step _ rfl _ _ rfl w2.heap.size _ acc rfl (hNo.below hBx) (.slice x8 u.length c8) k m u W8.heap.size rfl e0 e1 e2 (New.below (hN8.mono (by omega)) hBx) hle.out (by have := inv8.kp.size; simp; omega) ?_); intro v' w9 hN9 hg9 hs9; obtain ⟨g9, c9, rfl⟩ := hs9; have R9 := st_append (C := W5.heap.size) (Nat.le_refl _) hvo hNo inv8.bP inv8.kp hN9 hg9; have cO9 := R9.1.cell; have fO9 := R9.1.frozen))
              go_roundw
              case rel => exact ⟨k + 1, by omega, by go_num, hid Hy.out, hid (by rw [Hl.out, ← List.append_assoc, Hacc.out]; exact R9.2.1), (kf7.trans (keepsFrom_below hB8)).trans R9.2.2⟩
              case measure => simp [intOf]; omega
            · have hst := hid (hstop.out rfl he)
              have hne : (Tm.hitErr rs t m k != 0) = true := by simpa using he
              have He := hid he
              clear he hstop hye hno hLn hLy
              generalize Tm.hitErr rs t m k = q at *
              gi_wp2_with (first
                | ((try refine ⟨hdd _, ?_⟩); gi_at_call 55; refine Hrep.out.mono ?_; clear Hrep; rintro e W8 ⟨v8, rfl, hN8, hB8⟩; obtain ⟨x8, c8, rfl, _⟩ := New.ints hN8; have b08 : Boxed W8 (w.heap.size + 1 + 1) 50 (.slice none 0 0) := (hB8.block _ b07.lt).trans b07; have b18 : Boxed W8 (w.heap.size + 1 + 1 + 1) 25 (.int .i64 0) := (hB8.block _ b17.lt).trans b17; have k0 := b08.cell; have k1 := b18.cell; have f0 := b08.frozen; have f1 := b18.frozen; have b18' : Boxed (W8.setCell ⟨w.heap.size + 1 + 1, 0, none⟩ (.slice none 0 0)) (w.heap.size + 1 + 1 + 1) 25 (.int .i64 0) := (Below.heap_setCell W8 ⟨w.heap.size + 1 + 1, 0, none⟩ _ (w.heap.size + 1 + 1 + 1) (by show w.heap.size + 1 + 1 + 1 ≠ w.heap.size + 1 + 1; omega)).trans b18; have k1' := b18'.cell; have f1' := b18'.frozen))
              refine ⟨((kf7.trans (keepsFrom_below hB8)).trans ((KeepsOthers.setCell _ _ _).from _)).trans ((KeepsOthers.setCell _ _ _).from _), rfl, by rw [hst.out]; exact He.out, ?_, ?_, ?_⟩
              · exact (Below.heap_setCell _ ⟨w.heap.size + 1 + 1 + 1, 0, none⟩ _ (w.heap.size + 1 + 1) (by show w.heap.size + 1 + 1 ≠ w.heap.size + 1 + 1 + 1; omega)).trans (b08.set _)
              · rw [hst.out]; exact b18'.set _
              · exact ((hb7.trans (hB8.mono hb7.size)).setCell (p := ⟨w.heap.size + 1 + 1, 0, none⟩) (by show w.heap.size ≤ w.heap.size + 1 + 1; omega) _).setCell (p := ⟨w.heap.size + 1 + 1 + 1, 0, none⟩) (by show w.heap.size ≤ w.heap.size + 1 + 1 + 1; omega) _
      · obtain rfl : k = rs.length := by omega
        gi_wp2
        exact ⟨hkf, ⟨Tm.allE_next Hno.out hrow.out, hinv.out⟩⟩
  case done =>
    rintro D W hD ⟨no, inv⟩ hDd
    obtain ⟨v, hv, hN⟩ := inv.out
    obtain ⟨va, vc, rfl⟩ := hN.slice
    have cO := hv.cell
    have b0W : Boxed W (w.heap.size + 1 + 1) 50 (.slice none 0 0) := (inv.kp.block _ (by omega)).trans b02
    have b1W : Boxed W (w.heap.size + 1 + 1 + 1) 25 (.int .i64 0) := (inv.kp.block _ (by omega)).trans b12
    have k0 := b0W.cell
    have k1 := b1W.cell
    have f0 := b0W.frozen
    have f1 := b1W.frozen
    have b0X := b0W.set (.slice va (Tm.allL rs t t.length).length vc)
    have b1X : Boxed (W.setCell ⟨w.heap.size + 1 + 1, 0, none⟩ (.slice va (Tm.allL rs t t.length).length vc)) (w.heap.size + 1 + 1 + 1) 25 (.int .i64 0) := (Below.heap_setCell W ⟨w.heap.size + 1 + 1, 0, none⟩ _ (w.heap.size + 1 + 1 + 1) (by show w.heap.size + 1 + 1 + 1 ≠ w.heap.size + 1 + 1; omega)).trans b1W
    have k1X := b1X.cell
    have f1X := b1X.frozen
    rw [hs5] at hD
    have hv' := hv
    have HN := hid hN
    have Hkp := hid inv.kp
    have Hno := hid no
    clear hN inv no
    generalize (Tm.allL rs t t.length).length = ln at *
    gi_wp2
    have hDd2 : ((W.setCell ⟨w.heap.size + 1 + 1, 0, none⟩ (.slice va ln vc)).setCell ⟨w.heap.size + 1 + 1 + 1, 0, none⟩ (.int .i64 0)).heap[D]? = some (.deferred (some [])) :=
      (Below.heap_setCell _ ⟨w.heap.size + 1 + 1 + 1, 0, none⟩ _ D (show D ≠ w.heap.size + 1 + 1 + 1 by omega)).trans ((Below.heap_setCell W ⟨w.heap.size + 1 + 1, 0, none⟩ _ D (show D ≠ w.heap.size + 1 + 1 by omega)).trans hDd)
    have b0Y : Boxed ((W.setCell ⟨w.heap.size + 1 + 1, 0, none⟩ (.slice va ln vc)).setCell ⟨w.heap.size + 1 + 1 + 1, 0, none⟩ (.int .i64 0)) (w.heap.size + 1 + 1) 50 (.slice va ln vc) :=
      (Below.heap_setCell _ ⟨w.heap.size + 1 + 1 + 1, 0, none⟩ _ (w.heap.size + 1 + 1) (by show w.heap.size + 1 + 1 ≠ w.heap.size + 1 + 1 + 1; omega)).trans b0X
    have b1Y := b1X.set (.int .i64 0)
    refine ⟨by simp, .inl ⟨_, _, rfl, run_takeDeferred hDd2, ?_⟩⟩
    refine ⟨_, results_box2 rfl rfl rfl ((World.cell?_of_block (a := ⟨w.heap.size + 1 + 1, 0, none⟩) (World.putObj_heap_other (show w.heap.size + 1 + 1 ≠ D by omega))).trans b0Y.cell) ((World.cell?_of_block (a := ⟨w.heap.size + 1 + 1 + 1, 0, none⟩) (World.putObj_heap_other (show w.heap.size + 1 + 1 + 1 ≠ D by omega))).trans b1Y.cell), ?_⟩
    refine ⟨_, by rw [HSE.out, Hno.out], ?_, ?_⟩
    · have h1 := ((HN.out.set b0W (by decide) (by decide) (.slice va ln vc)).set b1X (by decide) (by decide) (.int .i64 0)).other (grownBy_putObj' _ D (.deferred none)) (fun r e => by cases e; exact ⟨_, hDd2, rfl⟩)
      rw [show Tm.stepVal rs t = Tm.allL rs t t.length by unfold Tm.stepVal; rw [HSE.out, if_pos Hno.out]]
      exact h1.mono (by omega)
    · have h0 := hBw2.trans (Hkp.out.mono (by omega))
      have h1 := (h0.setCell (p := ⟨w.heap.size + 1 + 1, 0, none⟩) (by show w.heap.size ≤ w.heap.size + 1 + 1; omega) (.slice va ln vc)).setCell (p := ⟨w.heap.size + 1 + 1 + 1, 0, none⟩) (by show w.heap.size ≤ w.heap.size + 1 + 1 + 1; omega) (.int .i64 0)
      exact ⟨h1.os, h1.tape, h1.output, by have := h1.size; simpa using this, fun k hk => (World.putObj_heap_other (by omega)).trans (h1.block k hk)⟩
  case stop =>
    rintro D c W hD ⟨rfl, hbad, c0, c1, kp⟩ hDd
    rw [hs5] at hD
    have k0 := c0.cell
    have k1 := c1.cell
    gi_wp2
    refine ⟨by simp, .inl ⟨_, _, rfl, run_takeDeferred hDd, ?_⟩⟩
    refine ⟨_, results_box2 rfl rfl rfl ((World.cell?_of_block (a := ⟨w.heap.size + 1 + 1, 0, none⟩) (World.putObj_heap_other (show w.heap.size + 1 + 1 ≠ D by omega))).trans k0) ((World.cell?_of_block (a := ⟨w.heap.size + 1 + 1 + 1, 0, none⟩) (World.putObj_heap_other (show w.heap.size + 1 + 1 + 1 ≠ D by omega))).trans k1), ?_⟩
    refine ⟨_, by rw [HSE.out], ?_, ⟨kp.os, kp.tape, kp.output, by have := kp.size; simpa using this, fun k hk => (World.putObj_heap_other (by omega)).trans (kp.block k hk)⟩⟩
    rw [show Tm.stepVal rs t = [] by unfold Tm.stepVal; rw [HSE.out, if_neg hbad]]
    exact NewT.nil _ _
  case panic => exact fun _ _ _ _ h => h.elim

end Go.Proofs.Ytjaikmlbajdedac

namespace Go.Proofs.Ytjaikmlbajdedac
open Go.Proofs Go.RowKit Go.Shelf Go.Maps

theorem box2_ret {fn : Func} {tmps : Array Value} {W : World} {a b B : Nat} {q : Int} (h : fn.results = #[.cell a 50, .cell b 25]) (ha : tmps.getD a undef = .pointer (some ⟨B, 0, none⟩)) (hb : tmps.getD b undef = .pointer (some ⟨B + 1, 0, none⟩)) (b0 : Boxed W B 50 (.slice none 0 0)) (b1 : Boxed W (B + 1) 25 (.int .i64 0)) :
    (results fn tmps).run Try.prog ((W.setCell ⟨B, 0, none⟩ (.slice none 0 0)).setCell ⟨B + 1, 0, none⟩ (.int .i64 q)) = .ok (.tuple #[.slice none 0 0, .int .i64 q]) ((W.setCell ⟨B, 0, none⟩ (.slice none 0 0)).setCell ⟨B + 1, 0, none⟩ (.int .i64 q)) := by
  have b1' : Boxed (W.setCell ⟨B, 0, none⟩ (.slice none 0 0)) (B + 1) 25 (.int .i64 0) := (Below.heap_setCell W ⟨B, 0, none⟩ _ (B + 1) (by show B + 1 ≠ B; omega)).trans b1
  have b0' : Boxed ((W.setCell ⟨B, 0, none⟩ (.slice none 0 0)).setCell ⟨B + 1, 0, none⟩ (.int .i64 q)) B 50 (.slice none 0 0) := (Below.heap_setCell _ ⟨B + 1, 0, none⟩ _ B (by show B ≠ B + 1; omega)).trans (b0.set _)
  exact results_box2 h ha hb b0'.cell (b1'.set _).cell

set_option maxRecDepth 100000 in
set_option maxHeartbeats 2000000 in
theorem steps_any (rs : RuleL) (t : List Int) (al at' : Option Addr) (cl ct : Nat) (w : World) (hR : RulesAt w.heap.size w al rs) (hT : Ints w.heap.size w at' t) (h1 : t.length ≤ ct) (h2 : ct ≤ maxLen) :
    Calls Try.prog 29 #[.slice al rs.length cl, .slice at' t.length ct] w fun e w' => StepsAns rs t w e w' := by
  by_cases hr : Tm.rulesErr rs = 0
  · by_cases ht : Tm.err t = 0
    · exact steps_right rs t al at' cl ct w hr ht hR hT h1 h2
    · have e1 : Tm.stepErr rs t = Tm.err t := by unfold Tm.stepErr; rw [if_pos hr, if_neg ht]
      have e2 : Tm.stepVal rs t = [] := by unfold Tm.stepVal; rw [e1, if_neg ht]
      unfold StepsAns
      rw [e1, e2]
      clear e1 e2
      obtain ⟨W4, hW4⟩ : ∃ W4, (((w.alloc (.cells #[.slice al rs.length cl] 46)).alloc (.cells #[.slice at' t.length ct] 23)).alloc (.cells #[.slice none 0 0] 50)).alloc (.cells #[.int .i64 0] 25) = W4 := ⟨_, rfl⟩
      obtain ⟨hB4, bL, bT, b0, b1, hs4⟩ := steps_boxes w W4 al at' rs.length cl t.length ct hW4
      have HW4 := hid hW4
      clear hW4
      have cL4 := bL.cell
      have C1 := hid (rulesCheck_any rs al cl W4 ((hR.below hB4).mono hB4.size))
      rw [hr] at C1
      have C2 := hid (fun W (hW : Below W4.heap.size W4 W) => check_any t at' ct W ((hT.below (hB4.trans (hW.mono hB4.size))).mono (Nat.le_trans hB4.size hW.size)))
      have hne : (Tm.err t != 0) = true := by simpa using ht
      clear hr ht hR hT
      generalize Tm.err t = q at *
      go_enter Try.func29, Try.ntmps29
      go_wp2_with fail
      rw [HW4.out]
      go_wp2_with (first
        | (go_at_call 27; refine C1.out.mono ?_; rintro e w1 ⟨rfl, hB1⟩; have cT1 := (hB1.cell (p := ⟨w.heap.size + 1, 0, none⟩) (by show w.heap.size + 1 < _; omega)).trans bT.cell)
        | (go_at_call 22; refine (C2.out w1 hB1).mono ?_; rintro e w2 ⟨rfl, hB2⟩; have hB12 := hB1.trans (hB2.mono hB1.size); have b08 : Boxed w2 (w.heap.size + 1 + 1) 50 (.slice none 0 0) := (hB12.block _ b0.lt).trans b0; have b18 : Boxed w2 (w.heap.size + 1 + 1 + 1) 25 (.int .i64 0) := (hB12.block _ b1.lt).trans b1; have k0 := b08.cell; have k1 := b18.cell; have f0 := b08.frozen; have f1 := b18.frozen; have b18' : Boxed (w2.setCell ⟨w.heap.size + 1 + 1, 0, none⟩ (.slice none 0 0)) (w.heap.size + 1 + 1 + 1) 25 (.int .i64 0) := (Below.heap_setCell w2 ⟨w.heap.size + 1 + 1, 0, none⟩ _ (w.heap.size + 1 + 1 + 1) (by show w.heap.size + 1 + 1 + 1 ≠ w.heap.size + 1 + 1; omega)).trans b18; have k1' := b18'.cell; have f1' := b18'.frozen))
      refine bodyPost_ret (box2_ret rfl rfl rfl b08 b18) rfl ?_
      have hb := hB4.trans (hB12.mono hB4.size)
      exact ⟨_, rfl, NewT.nil _ _, (hb.setCell (p := ⟨w.heap.size + 1 + 1, 0, none⟩) (by show w.heap.size ≤ w.heap.size + 1 + 1; omega) _).setCell (p := ⟨w.heap.size + 1 + 1 + 1, 0, none⟩) (by show w.heap.size ≤ w.heap.size + 1 + 1 + 1; omega) _⟩
  · have e1 : Tm.stepErr rs t = Tm.rulesErr rs := by unfold Tm.stepErr; rw [if_neg hr]
    have e2 : Tm.stepVal rs t = [] := by unfold Tm.stepVal; rw [e1, if_neg hr]
    unfold StepsAns
    rw [e1, e2]
    clear e1 e2
    obtain ⟨W4, hW4⟩ : ∃ W4, (((w.alloc (.cells #[.slice al rs.length cl] 46)).alloc (.cells #[.slice at' t.length ct] 23)).alloc (.cells #[.slice none 0 0] 50)).alloc (.cells #[.int .i64 0] 25) = W4 := ⟨_, rfl⟩
    obtain ⟨hB4, bL, bT, b0, b1, hs4⟩ := steps_boxes w W4 al at' rs.length cl t.length ct hW4
    have HW4 := hid hW4
    clear hW4
    have cL4 := bL.cell
    have C1 := hid (rulesCheck_any rs al cl W4 ((hR.below hB4).mono hB4.size))
    have hne : (Tm.rulesErr rs != 0) = true := by simpa using hr
    clear hr hR hT
    generalize Tm.rulesErr rs = q at *
    go_enter Try.func29, Try.ntmps29
    go_wp2_with fail
    rw [HW4.out]
    go_wp2_with (first
      | (go_at_call 27; refine C1.out.mono ?_; rintro e w2 ⟨rfl, hB12⟩; have b08 : Boxed w2 (w.heap.size + 1 + 1) 50 (.slice none 0 0) := (hB12.block _ b0.lt).trans b0; have b18 : Boxed w2 (w.heap.size + 1 + 1 + 1) 25 (.int .i64 0) := (hB12.block _ b1.lt).trans b1; have k0 := b08.cell; have k1 := b18.cell; have f0 := b08.frozen; have f1 := b18.frozen; have b18' : Boxed (w2.setCell ⟨w.heap.size + 1 + 1, 0, none⟩ (.slice none 0 0)) (w.heap.size + 1 + 1 + 1) 25 (.int .i64 0) := (Below.heap_setCell w2 ⟨w.heap.size + 1 + 1, 0, none⟩ _ (w.heap.size + 1 + 1 + 1) (by show w.heap.size + 1 + 1 + 1 ≠ w.heap.size + 1 + 1; omega)).trans b18; have k1' := b18'.cell; have f1' := b18'.frozen))
    refine bodyPost_ret (box2_ret rfl rfl rfl b08 b18) rfl ?_
    have hb := hB4.trans (hB12.mono hB4.size)
    exact ⟨_, rfl, NewT.nil _ _, (hb.setCell (p := ⟨w.heap.size + 1 + 1, 0, none⟩) (by show w.heap.size ≤ w.heap.size + 1 + 1; omega) _).setCell (p := ⟨w.heap.size + 1 + 1 + 1, 0, none⟩) (by show w.heap.size ≤ w.heap.size + 1 + 1 + 1; omega) _⟩

end Go.Proofs.Ytjaikmlbajdedac

namespace Go.Proofs.Ytjaikmlbajdedac
open Go.Proofs Go.RowKit Go.Shelf Go.Maps

theorem rulesAt_of {n B : Nat} {W : World} {rs : RuleL} {cs : Array Value} {t : TypeId} {p : Nat × Nat} (hblk : W.heap[B]? = some (.cells cs t p)) (hB : B < n)
    (h : ∀ k, k < rs.length → ∃ aL aR, cs[k * 2]? = some (.slice aL (rs[k]?.getD ([], [])).1.length (rs[k]?.getD ([], [])).1.length) ∧ cs[k * 2 + 1]? = some (.slice aR (rs[k]?.getD ([], [])).2.length (rs[k]?.getD ([], [])).2.length) ∧
      Ints n W aL (rs[k]?.getD ([], [])).1 ∧ Ints n W aR (rs[k]?.getD ([], [])).2 ∧ (rs[k]?.getD ([], [])).1.length ≤ 1000 ∧ (rs[k]?.getD ([], [])).2.length ≤ 1000) : RulesAt n W (some ⟨B, 0, none⟩) rs := fun k hk => by
  obtain ⟨aL, aR, h1, h2, h3, h4, h5, h6⟩ := h k hk
  refine ⟨B, 0, rfl, hB, aL, _, aR, _, by rw [cell_at hblk, Nat.zero_add]; exact h1, by rw [cell_at hblk, Nat.zero_add]; exact h2, h3, h4, Nat.le_refl _, by unfold maxLen; omega, Nat.le_refl _, by unfold maxLen; omega⟩

/-- A literal of one rule. -/
theorem rule1_lit (w : World) (L R : List Int) (nL nR : Nat) (hL : nL = L.length) (hR : nR = R.length) (kL : L.length ≤ 1000) (kR : R.length ≤ 1000) :
    RulesAt (w.heap.size + 1 + 1 + 1) (((w.alloc (.cells (L.map (Value.int .i64)).toArray 3)).alloc (.cells (R.map (Value.int .i64)).toArray 3)).alloc (.cells #[.slice (some ⟨w.heap.size, 0, none⟩) nL nL, .slice (some ⟨w.heap.size + 1, 0, none⟩) nR nR] 79)) (some ⟨w.heap.size + 1 + 1, 0, none⟩) [(L, R)] ∧
    Below w.heap.size w (((w.alloc (.cells (L.map (Value.int .i64)).toArray 3)).alloc (.cells (R.map (Value.int .i64)).toArray 3)).alloc (.cells #[.slice (some ⟨w.heap.size, 0, none⟩) nL nL, .slice (some ⟨w.heap.size + 1, 0, none⟩) nR nR] 79)) := by
  subst hL hR
  obtain ⟨i1, i2, hB⟩ := o_lits w L R
  obtain ⟨W2, hW2⟩ : ∃ W2, (w.alloc (.cells (L.map (Value.int .i64)).toArray 3)).alloc (.cells (R.map (Value.int .i64)).toArray 3) = W2 := ⟨_, rfl⟩
  have hs : W2.heap.size = w.heap.size + 1 + 1 := by rw [← hW2]; simp
  rw [hW2] at i1 i2 hB ⊢
  clear hW2
  have hb : Below W2.heap.size W2 (W2.alloc (.cells #[.slice (some ⟨w.heap.size, 0, none⟩) L.length L.length, .slice (some ⟨w.heap.size + 1, 0, none⟩) R.length R.length] 79)) := (Below.refl _ W2).alloc (Nat.le_refl _) _
  have blk := World.alloc_heap_new W2 (.cells #[.slice (some ⟨w.heap.size, 0, none⟩) L.length L.length, .slice (some ⟨w.heap.size + 1, 0, none⟩) R.length R.length] 79)
  rw [hs] at blk hb
  refine ⟨rulesAt_of blk (by omega) fun k hk => ?_, hB.trans (hb.mono (by omega))⟩
  obtain rfl : k = 0 := by simp at hk; omega
  exact ⟨_, _, rfl, rfl, (i1.below hb).mono (by omega), (i2.below hb).mono (by omega), kL, kR⟩

/-- Lists laid one behind the other. -/
def allocs : World → List (List Int) → World
  | w, [] => w
  | w, z :: l => allocs (w.alloc (.cells (z.map (Value.int .i64)).toArray 3)) l
theorem allocs_size : ∀ (l : List (List Int)) (w : World), (allocs w l).heap.size = w.heap.size + l.length := by
  intro l
  induction l with
  | nil => intro w; rfl
  | cons z l ih => intro w; rw [allocs, ih, World.size_alloc, List.length_cons]; omega
theorem allocs_below : ∀ (l : List (List Int)) (w : World), Below w.heap.size w (allocs w l) := by
  intro l
  induction l with
  | nil => intro w; exact Below.refl _ _
  | cons z l ih =>
    intro w
    rw [allocs]
    exact ((Below.refl _ w).alloc (Nat.le_refl _) _).trans ((ih _).mono (by simp))
theorem allocs_ints : ∀ (l : List (List Int)) (w : World) (i : Nat), i < l.length → Ints (w.heap.size + l.length) (allocs w l) (some ⟨w.heap.size + i, 0, none⟩) (l[i]?.getD []) := by
  intro l
  induction l with
  | nil => intro w i hi; simp at hi
  | cons z l ih =>
    intro w i hi
    rw [allocs]
    cases i with
    | zero =>
      have h1 := ints_lit w z (w.heap.size + 1) rfl
      have h2 := h1.below (by rw [← World.size_alloc w (.cells (z.map (Value.int .i64)).toArray 3)]; exact allocs_below l _)
      exact h2.mono (by rw [List.length_cons]; omega)
    | succ i =>
      have h := ih (w.alloc (.cells (z.map (Value.int .i64)).toArray 3)) i (by simpa using hi)
      rw [World.size_alloc] at h
      rw [show w.heap.size + (i + 1) = w.heap.size + 1 + i from by omega, show w.heap.size + (z :: l).length = w.heap.size + 1 + l.length from by rw [List.length_cons]; omega]
      exact h

def groupL : RuleL := [([4, 0, -1], [-1]), ([4, 2, -1, -1], [0]), ([4, 4, -1, -2, -3], [4, -1, 4, -2, -3])]
def sixL : List (List Int) := [[4, 0, -1], [-1], [4, 2, -1, -1], [0], [4, 4, -1, -2, -3], [4, -1, 4, -2, -3]]
theorem group_lit (w : World) : RulesAt ((allocs w sixL).alloc (.cells #[.slice (some ⟨w.heap.size, 0, none⟩) 3 3, .slice (some ⟨w.heap.size + 1, 0, none⟩) 1 1, .slice (some ⟨w.heap.size + 1 + 1, 0, none⟩) 4 4, .slice (some ⟨w.heap.size + 1 + 1 + 1, 0, none⟩) 1 1, .slice (some ⟨w.heap.size + 1 + 1 + 1 + 1, 0, none⟩) 5 5, .slice (some ⟨w.heap.size + 1 + 1 + 1 + 1 + 1, 0, none⟩) 5 5] 79)).heap.size ((allocs w sixL).alloc (.cells #[.slice (some ⟨w.heap.size, 0, none⟩) 3 3, .slice (some ⟨w.heap.size + 1, 0, none⟩) 1 1, .slice (some ⟨w.heap.size + 1 + 1, 0, none⟩) 4 4, .slice (some ⟨w.heap.size + 1 + 1 + 1, 0, none⟩) 1 1, .slice (some ⟨w.heap.size + 1 + 1 + 1 + 1, 0, none⟩) 5 5, .slice (some ⟨w.heap.size + 1 + 1 + 1 + 1 + 1, 0, none⟩) 5 5] 79)) (some ⟨w.heap.size + 1 + 1 + 1 + 1 + 1 + 1, 0, none⟩) groupL ∧
    Below w.heap.size w ((allocs w sixL).alloc (.cells #[.slice (some ⟨w.heap.size, 0, none⟩) 3 3, .slice (some ⟨w.heap.size + 1, 0, none⟩) 1 1, .slice (some ⟨w.heap.size + 1 + 1, 0, none⟩) 4 4, .slice (some ⟨w.heap.size + 1 + 1 + 1, 0, none⟩) 1 1, .slice (some ⟨w.heap.size + 1 + 1 + 1 + 1, 0, none⟩) 5 5, .slice (some ⟨w.heap.size + 1 + 1 + 1 + 1 + 1, 0, none⟩) 5 5] 79)) := by
  have hs := allocs_size sixL w
  have hb := allocs_below sixL w
  have hi := allocs_ints sixL w
  have h6 : sixL.length = 6 := rfl
  rw [h6] at hs hi
  obtain ⟨W6, hW⟩ : ∃ W6, allocs w sixL = W6 := ⟨_, rfl⟩
  rw [hW] at hs hb hi ⊢
  obtain ⟨C, hC⟩ : ∃ C : Array Value, #[.slice (some ⟨w.heap.size, 0, none⟩) 3 3, .slice (some ⟨w.heap.size + 1, 0, none⟩) 1 1, .slice (some ⟨w.heap.size + 1 + 1, 0, none⟩) 4 4, .slice (some ⟨w.heap.size + 1 + 1 + 1, 0, none⟩) 1 1, .slice (some ⟨w.heap.size + 1 + 1 + 1 + 1, 0, none⟩) 5 5, .slice (some ⟨w.heap.size + 1 + 1 + 1 + 1 + 1, 0, none⟩) 5 5] = C := ⟨_, rfl⟩
  rw [hC]
  have blk := World.alloc_heap_new W6 (.cells C 79)
  have hb6 : Below W6.heap.size W6 (W6.alloc (.cells C 79)) := (Below.refl _ W6).alloc (Nat.le_refl _) _
  rw [hs] at blk hb6
  rw [World.size_alloc, hs]
  refine ⟨rulesAt_of blk (by omega) fun k hk => ?_, hb.trans (hb6.mono (by omega))⟩
  have hk' : k < 3 := hk
  have hx := fun i hi6 => ((hi i hi6).below hb6).mono (show w.heap.size + 6 ≤ w.heap.size + 6 + 1 by omega)
  subst hC
  match k, hk' with
  | 0, _ => exact ⟨_, _, rfl, rfl, hx 0 (by omega), hx 1 (by omega), by decide, by decide⟩
  | 1, _ => exact ⟨_, _, rfl, rfl, hx 2 (by omega), hx 3 (by omega), by decide, by decide⟩
  | 2, _ => exact ⟨_, _, rfl, rfl, hx 4 (by omega), hx 5 (by omega), by decide, by decide⟩

set_option maxRecDepth 100000 in
set_option maxHeartbeats 1000000 in
theorem group_any (w : World) : Calls Try.prog 49 #[] w fun e w' => ∃ a, e = .returned (.slice a 3 3) ∧ RulesAt w'.heap.size w' a groupL ∧ Below w.heap.size w w' := by
  have h := hid (group_lit w)
  go_enter Try.func49, Try.ntmps49
  go_wp2
  go_ret
  exact ⟨_, rfl, h.out.1, h.out.2⟩

/-- One step of those that came, where it lies. -/
theorem NewT.at {base : Nat} {W : World} {v : Value} {sts : StepL} (h : NewT base W v sts) (hp : 0 < sts.length) : ∃ g cap, v = .slice (some ⟨g, 0, none⟩) sts.length cap ∧ ∀ j, j < sts.length → ∃ ad c, W.cell? ⟨g, j * 3, none⟩ = some (.int .i64 ((sts[j]?.getD (0, 0, [])).1 : Int)) ∧ W.cell? ⟨g, j * 3 + 1, none⟩ = some (.int .i64 ((sts[j]?.getD (0, 0, [])).2.1 : Int)) ∧
    W.cell? ⟨g, j * 3 + 2, none⟩ = some (.slice ad (sts[j]?.getD (0, 0, [])).2.2.length c) ∧ Ints W.heap.size W ad (sts[j]?.getD (0, 0, [])).2.2 ∧ (sts[j]?.getD (0, 0, [])).2.2.length ≤ c ∧ c ≤ maxLen := by
  obtain ⟨us, h1, h2⟩ := h
  have hl : us.length = sts.length * 3 := h1.1
  rcases h1.2 with ⟨rfl, hn⟩ | ⟨g, cap, cur, rfl, r⟩
  · omega
  · refine ⟨g, cap, rfl, fun j hj => ?_⟩
    obtain ⟨u, q1, q2, q3, hN⟩ := h2 j hj
    obtain ⟨ad, c, rfl, hI, c1, c2⟩ := New.ints hN
    have cc := fun k hk => World.ownsRow.cellAt h1 k hk
    exact ⟨ad, c, by rw [cc _ (by omega), q1], by rw [cc _ (by omega), q2], by rw [cc _ (by omega), q3], hI, c1, c2⟩

end Go.Proofs.Ytjaikmlbajdedac

namespace Go.Proofs.Ytjaikmlbajdedac
open Go.Proofs Go.RowKit Go.Shelf Go.Maps

theorem Tm.g1 : Tm.fallsErr rk6 groupL = 0 := by decide +kernel
theorem Tm.g2 : Tm.fallsVal rk6 groupL = true := by decide +kernel
theorem Tm.g3 : Tm.stepErr groupL [4, 4, 0, 1, 0] = 0 := by decide +kernel
theorem Tm.g4 : Tm.stepVal groupL [4, 4, 0, 1, 0] = [(2, 0, [4, 0, 4, 1, 0]), (0, 1, [4, 1, 0])] := by decide +kernel
theorem Tm.g5 : Tm.fallsErr rk6 [([2, -1], [3, -1])] = 0 := by decide +kernel
theorem Tm.g6 : Tm.fallsVal rk6 [([2, -1], [3, -1])] = false := by decide +kernel
theorem Tm.g7 : Tm.rulesErr groupL = 0 := by decide +kernel
theorem Tm.g8 : Tm.rulesErr [([-1], [-1])] = 1 := by decide +kernel
theorem Tm.g9 : Tm.rulesErr [([2, 0], [-1])] = 4 := by decide +kernel
theorem Tm.g10 : Tm.rulesErr [([2, -5], [0])] = 3 := by decide +kernel

theorem g_falls (rs : RuleL) (n : Nat) (q : Bool) (er : Int) (ar a : Option Addr) (w : World) (hn : n = rs.length) (hR : Ints w.heap.size w ar rk6) (hI : RulesAt w.heap.size w a rs) (h1 : Tm.fallsVal rk6 rs = q) (h2 : Tm.fallsErr rk6 rs = er) :
    Calls Try.prog 24 #[.slice ar 6 6, .slice a n n] w fun e w' => e = .returned (.tuple #[.bool q, .int .i64 er]) ∧ Below w.heap.size w w' := by
  subst hn h1 h2
  exact rulesFalls_any rk6 rs ar a 6 rs.length w hR hI
theorem g_check (rs : RuleL) (n : Nat) (er : Int) (a : Option Addr) (w : World) (hn : n = rs.length) (hI : RulesAt w.heap.size w a rs) (h : Tm.rulesErr rs = er) :
    Calls Try.prog 27 #[.slice a n n] w fun e w' => e = .returned (.int .i64 er) ∧ Below w.heap.size w w' := by
  subst hn h
  exact rulesCheck_any rs a rs.length w hI
/-- One rule, a literal. -/
theorem g_falls1 (L R : List Int) (nL nR : Nat) (q : Bool) (ar : Option Addr) (w : World) (hL : nL = L.length) (hR : nR = R.length) (kL : L.length ≤ 1000) (kR : R.length ≤ 1000) (hI : Ints w.heap.size w ar rk6) (h1 : Tm.fallsVal rk6 [(L, R)] = q) (h2 : Tm.fallsErr rk6 [(L, R)] = 0) :
    Calls Try.prog 24 #[.slice ar 6 6, .slice (some ⟨w.heap.size + 1 + 1, 0, none⟩) 1 1] (((w.alloc (.cells (L.map (Value.int .i64)).toArray 3)).alloc (.cells (R.map (Value.int .i64)).toArray 3)).alloc (.cells #[.slice (some ⟨w.heap.size, 0, none⟩) nL nL, .slice (some ⟨w.heap.size + 1, 0, none⟩) nR nR] 79)) fun e w' => e = .returned (.tuple #[.bool q, .int .i64 0]) ∧ Below w.heap.size w w' := by
  obtain ⟨hA, hB⟩ := rule1_lit w L R nL nR hL hR kL kR
  refine (g_falls [(L, R)] 1 q 0 ar _ _ rfl ((hI.below hB).mono hB.size) (by simpa using hA) h1 h2).mono ?_
  rintro e w' ⟨rfl, hB'⟩
  exact ⟨rfl, hB.trans (hB'.mono hB.size)⟩
theorem g_check1 (L R : List Int) (nL nR : Nat) (er : Int) (w : World) (hL : nL = L.length) (hR : nR = R.length) (kL : L.length ≤ 1000) (kR : R.length ≤ 1000) (h : Tm.rulesErr [(L, R)] = er) :
    Calls Try.prog 27 #[.slice (some ⟨w.heap.size + 1 + 1, 0, none⟩) 1 1] (((w.alloc (.cells (L.map (Value.int .i64)).toArray 3)).alloc (.cells (R.map (Value.int .i64)).toArray 3)).alloc (.cells #[.slice (some ⟨w.heap.size, 0, none⟩) nL nL, .slice (some ⟨w.heap.size + 1, 0, none⟩) nR nR] 79)) fun e w' => e = .returned (.int .i64 er) ∧ Below w.heap.size w w' := by
  obtain ⟨hA, hB⟩ := rule1_lit w L R nL nR hL hR kL kR
  refine (g_check [(L, R)] 1 er _ _ rfl (by simpa using hA) h).mono ?_
  rintro e w' ⟨rfl, hB'⟩
  exact ⟨rfl, hB.trans (hB'.mono hB.size)⟩
/-- Steps of group, a literal term. -/
theorem g_steps (t : List Int) (n : Nat) (sts : StepL) (a : Option Addr) (w : World) (hn : n = t.length) (hl : t.length ≤ 1000) (hI : RulesAt w.heap.size w a groupL) (h1 : Tm.stepErr groupL t = 0) (h2 : Tm.stepVal groupL t = sts) :
    Calls Try.prog 29 #[.slice a 3 3, .slice (some ⟨w.heap.size, 0, none⟩) n n] (w.alloc (.cells (t.map (Value.int .i64)).toArray 3)) fun e w' => ∃ v, e = .returned (.tuple #[v, .int .i64 0]) ∧ NewT w.heap.size w' v sts ∧ Below w.heap.size w w' := by
  subst hn h2
  have hB : Below w.heap.size w (w.alloc (.cells (t.map (Value.int .i64)).toArray 3)) := (Below.refl _ _).alloc (Nat.le_refl _) _
  refine (steps_any groupL t a _ 3 t.length _ ((hI.below hB).mono hB.size) (ints_lit w t _ (by simp)) (Nat.le_refl _) (by unfold maxLen; omega)).mono ?_
  rintro e w' ⟨v, rfl, hN, hB'⟩
  exact ⟨v, by rw [h1], hN.mono hB.size, hB.trans (hB'.mono hB.size)⟩
/-- A term against a literal. -/
theorem g_same (xs ys : List Int) (n m c : Nat) (a : Option Addr) (w : World) (hn : n = xs.length) (hm : m = ys.length) (hl : xs.length ≤ 1000) (hI : Ints w.heap.size w a xs) (h : sameB xs ys = true) :
    Calls Try.prog 10 #[.slice a n c, .slice (some ⟨w.heap.size, 0, none⟩) m m] (w.alloc (.cells (ys.map (Value.int .i64)).toArray 3)) fun e w' => e = .returned (.bool true) ∧ Below w.heap.size w w' := by
  subst hn hm
  have hB : Below w.heap.size w (w.alloc (.cells (ys.map (Value.int .i64)).toArray 3)) := (Below.refl _ _).alloc (Nat.le_refl _) _
  refine (same_any xs ys a _ c ys.length _ ((hI.below hB).mono hB.size) (ints_lit w ys _ (by simp)) (by unfold maxLen; omega)).mono ?_
  rintro e w' ⟨rfl, hB'⟩
  exact ⟨by rw [h], hB.trans (hB'.mono hB.size)⟩

set_option maxRecDepth 100000 in
set_option maxHeartbeats 4000000 in
theorem rulesBegun_any (w : World) : Calls Try.prog 26 #[] w fun e w' => e = .returned (.bool true) ∧ Below w.heap.size w w' := by
  have h1 := hid (fun w ar a hR hI => g_falls groupL 3 true 0 ar a w rfl hR hI Tm.g2 Tm.g1)
  have h2 := hid (fun w a hI => g_steps [4, 4, 0, 1, 0] 5 [(2, 0, [4, 0, 4, 1, 0]), (0, 1, [4, 1, 0])] a w rfl (by simp) hI Tm.g3 Tm.g4)
  have h3 := hid (fun w ar hI => g_falls1 [2, -1] [3, -1] 2 2 false ar w rfl rfl (by simp) (by simp) hI Tm.g6 Tm.g5)
  have h4 := hid (fun w a hI => g_check groupL 3 0 a w rfl hI Tm.g7)
  have h5 := hid (fun w => g_check1 [-1] [-1] 1 1 1 w rfl rfl (by simp) (by simp) Tm.g8)
  have h6 := hid (fun w => g_check1 [2, 0] [-1] 2 1 4 w rfl rfl (by simp) (by simp) Tm.g9)
  have h7 := hid (fun w => g_check1 [2, -5] [0] 2 1 3 w rfl rfl (by simp) (by simp) Tm.g10)
  have h8 := hid (fun w a c hI => g_same [4, 0, 4, 1, 0] [4, 0, 4, 1, 0] 5 5 c a w rfl rfl (by simp) hI (by simp [sameB]))
  have h9 := hid (fun w a c hI => g_same [4, 1, 0] [4, 1, 0] 3 3 c a w rfl rfl (by simp) hI (by simp [sameB]))
  simp only [List.map_cons, List.map_nil] at h2 h3 h5 h6 h7 h8 h9
  go_enter Try.func26, Try.ntmps26
  go_wp2_with fail
  refine (rank_any _).mono ?_
  rintro e w1 ⟨r1, rfl, hr1, b1⟩
  go_wp2_with fail
  refine (group_any _).mono ?_
  rintro e w2 ⟨a2, rfl, hg2, b2⟩
  go_wp2_with fail
  refine (h1.out w2 r1 a2 ((hr1.below b2).mono b2.size) hg2).mono ?_
  rintro e w3 ⟨rfl, b3⟩
  have B2 := b1.trans (b2.mono b1.size)
  have B3 := B2.trans (b3.mono B2.size)
  clear h1 b1 b2 b3 hr1 hg2 B2
  go_wp2_with fail
  refine (group_any _).mono ?_
  rintro e w4 ⟨a4, rfl, hg4, b4⟩
  go_wp2_with fail
  refine (h2.out w4 a4 hg4).mono ?_
  rintro e w5 ⟨v5, rfl, hN5, b5⟩
  obtain ⟨g, cg, rfl, hat⟩ := hN5.at (by decide)
  clear hat
  have B4 := B3.trans (b4.mono B3.size)
  have B5 := B4.trans (b5.mono B4.size)
  clear h2 b4 b5 hg4 B3 B4
  go_wp2_with fail
  refine (rank_any _).mono ?_
  rintro e w6 ⟨r6, rfl, hr6, b6⟩
  go_wp2_with fail
  refine (h3.out w6 r6 hr6).mono ?_
  rintro e w7 ⟨rfl, b7⟩
  have N7 := (hN5.below b6).below (b7.mono (Nat.le_refl _))
  have B6 := B5.trans (b6.mono B5.size)
  have B7 := B6.trans (b7.mono B6.size)
  clear h3 b6 b7 hr6 B5 B6 hN5
  go_wp2_with fail
  refine (group_any _).mono ?_
  rintro e w8 ⟨a8, rfl, hg8, b8⟩
  go_wp2_with fail
  refine (h4.out w8 a8 hg8).mono ?_
  rintro e w9 ⟨rfl, b9⟩
  have N9 := (N7.below b8).below b9
  have B8 := B7.trans (b8.mono B7.size)
  have B9 := B8.trans (b9.mono B8.size)
  clear h4 b8 b9 hg8 B7 B8 N7
  go_wp2_with fail
  refine (h5.out w9).mono ?_
  rintro e w10 ⟨rfl, b10⟩
  have N10 := N9.below b10
  have B10 := B9.trans (b10.mono B9.size)
  clear h5 b10 N9 B9
  go_wp2_with fail
  refine (h6.out w10).mono ?_
  rintro e w11 ⟨rfl, b11⟩
  have N11 := N10.below b11
  have B11 := B10.trans (b11.mono B10.size)
  clear h6 b11 N10 B10
  go_wp2_with fail
  refine (h7.out w11).mono ?_
  rintro e w12 ⟨rfl, b12⟩
  have N12 := N11.below b12
  have B12 := B11.trans (b12.mono B11.size)
  clear h7 b12 N11 B11
  obtain ⟨g', cg', e', hat⟩ := N12.at (by decide)
  cases e'
  obtain ⟨x0, y0, c00, c01, c02, i0, _⟩ := hat 0 (by decide)
  obtain ⟨x1, y1, c10, c11, c12, i1, _⟩ := hat 1 (by decide)
  clear hat
  simp at c00 c01 c02 c10 c11 c12
  have N12' := hid N12
  clear N12
  go_wp2_with fail
  refine (h8.out w12 x0 y0 i0).mono ?_
  rintro e w13 ⟨rfl, b13⟩
  have B13 := B12.trans (b13.mono B12.size)
  obtain ⟨g', cg', e', hat⟩ := (N12'.out.below b13).at (by decide)
  cases e'
  clear c00 c01 c02 c10 c11 c12 i0 i1
  obtain ⟨x1, y1, c10, c11, c12, i1, _⟩ := hat 1 (by decide)
  clear hat
  simp at c10 c11 c12
  go_wp2_with fail
  refine (h9.out w13 x1 y1 i1).mono ?_
  rintro e w14 ⟨rfl, b14⟩
  go_wp2
  go_ret
  exact ⟨rfl, B13.trans (b14.mono B13.size)⟩

end Go.Proofs.Ytjaikmlbajdedac

namespace Go.Proofs.Ytjaikmlbajdedac
open Go.Proofs Go.RowKit Go.Shelf Go.Maps

set_option maxRecDepth 100000 in
set_option maxHeartbeats 400000 in
theorem refOwn_any (zs : List Int) (a : Option Addr) (cap : Nat) (w : World) (hI : Ints w.heap.size w a zs) (hm : zs.length ≤ maxLen) :
    Calls Try.prog 51 #[.slice a zs.length cap] w fun e w' => e = .returned (.bool (!zs.any foreignB)) ∧ w' = w := by
  unfold maxLen at hm
  go_enter Try.func51, Try.ntmps51
  go_wp2
  go_loop [3] (fun i => ∃ k : Nat, k ≤ zs.length ∧ i = .int .i64 (k : Int) ∧ (zs.take k).any foreignB = false) (fun i => zs.length - (intOf i).toNat)
  case atStart => exact ⟨0, Nat.zero_le _, rfl, by simp⟩
  case round =>
    obtain ⟨k, hk, rfl, hno⟩ := hrel
    by_cases hlt : k < zs.length
    · have hlt' : (k : Int) < (zs.length : Int) := by omega
      obtain ⟨b, off, rfl, hb, hc⟩ := hI.at (by omega)
      have hck := hc k hlt
      have hsn := hid (any_snoc (p := foreignB) hlt hno)
      have hye := hid (any_yes (p := foreignB) hlt)
      clear hc hI hno
      generalize zs[k]?.getD 0 = s at *
      by_cases hq : s < -4
      · have Hy := hid (hye.out (decide_eq_true hq))
        clear hsn
        go_wp2
        go_ret
        exact ⟨by rw [Hy.out]; rfl, rfl⟩
      · have hq' : decide (s < -4) = false := by simpa using hq
        have Hn := hid (hsn.out hq')
        clear hye hq
        go_wp2
        go_round
        case rel => exact ⟨k + 1, by omega, by go_num, Hn.out⟩
        case measure => simp [intOf]; omega
    · obtain rfl : k = zs.length := by omega
      rw [List.take_length] at hno
      have hn := hid hno
      clear hno
      go_wp2
      go_ret
      exact ⟨by rw [hn.out]; rfl, rfl⟩

set_option maxRecDepth 100000 in
set_option maxHeartbeats 400000 in
theorem refStands_any (zs : List Int) (x : Int) (a : Option Addr) (cap : Nat) (w : World) (hI : Ints w.heap.size w a zs) (hm : zs.length ≤ maxLen) :
    Calls Try.prog 52 #[.slice a zs.length cap, .int .i64 x] w fun e w' => e = .returned (.bool (Tm.hasB zs x)) ∧ w' = w := by
  unfold maxLen at hm
  go_enter Try.func52, Try.ntmps52
  go_wp2
  go_loop [5] (fun i => ∃ k : Nat, k ≤ zs.length ∧ i = .int .i64 (k : Int) ∧ ∀ j, j < k → zs[j]?.getD 0 ≠ x) (fun i => zs.length - (intOf i).toNat)
  case atStart => exact ⟨0, Nat.zero_le _, rfl, fun j hj => by omega⟩
  case round =>
    obtain ⟨k, hk, rfl, hno⟩ := hrel
    by_cases hlt : k < zs.length
    · have hlt' : (k : Int) < (zs.length : Int) := by omega
      obtain ⟨b, off, rfl, hb, hc⟩ := hI.at (by omega)
      have hck := hc k hlt
      have hsn := hid (has_no hno)
      have hye := hid (@has_yes zs x k hlt)
      clear hc hI hno
      generalize zs[k]?.getD 0 = s at *
      by_cases he : s = x
      · have hb1 : (s == x) = true := by simp [he]
        have He := hid (hye.out he)
        clear he
        go_wp2
        go_ret
        exact ⟨by rw [He.out]; rfl, rfl⟩
      · have hb1 : (s == x) = false := by simpa using he
        have He := hid (hsn.out he)
        clear he
        go_wp2
        go_round
        case rel => exact ⟨k + 1, by omega, by go_num, He.out⟩
        case measure => simp [intOf]; omega
    · obtain rfl : k = zs.length := by omega
      have hn := hid (has_none hno)
      clear hno
      go_wp2
      go_ret
      exact ⟨by rw [hn.out]; rfl, rfl⟩

end Go.Proofs.Ytjaikmlbajdedac

namespace Go.Proofs.Ytjaikmlbajdedac
open Go.Proofs Go.RowKit Go.Shelf Go.Maps

theorem ruleErr_fit {L R : List Int} (h : Tm.fitErr L R ≠ 0) : Tm.ruleErr L R = Tm.fitErr L R := by
  unfold Tm.fitErr at h ⊢
  unfold Tm.ruleErr
  simp only [Tm.firstErr] at h ⊢
  by_cases h1 : Tm.err L = 0
  · rw [if_pos h1] at h ⊢
    rw [if_pos h1]
    by_cases h2 : Tm.err R = 0
    · rw [if_pos h2] at h; exact absurd rfl h
    · rw [if_neg h2, if_neg h2]
  · rw [if_neg h1, if_neg h1]
theorem ruleErr_fit0 {L R : List Int} (h : Tm.fitErr L R = 0) : Tm.ruleErr L R = (if L.any foreignB = true then 3 else if R.any foreignB = true then 3 else if L[0]?.getD 0 < 0 then 1 else if R.any (freeIn L) = true then 4 else 0) := by
  obtain ⟨h1, h2⟩ := Tm.fitErr_ok h
  unfold Tm.ruleErr
  rw [if_pos h1, if_pos h2]
theorem below_drewO {n : Nat} {a b : World} (h : Below n a b) (d : Nat) : Below n a (b.drewN d) := ⟨h.os, h.tape, h.output, h.size, h.block⟩

set_option maxRecDepth 100000 in
set_option maxHeartbeats 2000000 in
theorem rulesError_any (rs : RuleL) (a : Option Addr) (cap : Nat) (w : World) (hI : RulesAt w.heap.size w a rs) :
    Calls Try.prog 28 #[.slice a rs.length cap] w fun e w' => e = .returned (.int .i64 (Tm.rulesErr rs)) ∧ Below w.heap.size w w' := by
  by_cases h8 : 8 < rs.length
  · have h8' : (8 : Int) < (rs.length : Int) := by omega
    have hv : Tm.rulesErr rs = 2 := by unfold Tm.rulesErr; rw [if_pos h8]
    rw [hv]
    clear h8 hv hI
    go_enter Try.func28, Try.ntmps28
    go_wp2
    go_ret
    exact ⟨rfl, Below.refl _ _⟩
  · have h8' : (rs.length : Int) ≤ 8 := by omega
    have hv : Tm.rulesErr rs = Tm.firstRule rs := by unfold Tm.rulesErr; rw [if_neg h8]
    rw [hv]
    clear hv h8
    go_enter Try.func28, Try.ntmps28
    go_wp2
    go_loopw [3] (fun v wr => ∃ k : Nat, k ≤ rs.length ∧ v = .int .i64 (k : Int) ∧ Hid (Tm.firstRule rs = Tm.firstRule (rs.drop k)) ∧ Below w.heap.size w wr) (fun v _ => rs.length - (intOf v).toNat)
    case atStart => exact ⟨0, Nat.zero_le _, rfl, hid rfl, Below.refl _ _⟩
    case round =>
      obtain ⟨k, hk, rfl, hst, hB⟩ := hrel
      obtain ⟨u0, rfl⟩ : ∃ u0, u0 = wr := ⟨wr, rfl⟩
      by_cases hlt : k < rs.length
      · have hlt' : (k : Int) < (rs.length : Int) := by omega
        obtain ⟨b, off, rfl, hb, aL, cL, aR, cR, h1, h2, h3, h4, _⟩ := (hI.below hB) k hlt
        have hs1 := hid (Tm.firstRule_step hlt)
        have hs2 := hid (Tm.firstRule_at hlt)
        obtain ⟨L, hL⟩ : ∃ L, (rs[k]?.getD ([], [])).1 = L := ⟨_, rfl⟩
        obtain ⟨R, hR⟩ : ∃ R, (rs[k]?.getD ([], [])).2 = R := ⟨_, rfl⟩
        rw [hL] at h1 h3 hs1 hs2
        rw [hR] at h2 h4 hs1 hs2
        have hBa : Below u0.heap.size u0 (u0.alloc (.cells #[.slice aL L.length cL, .slice aR R.length cR] 79)) := (Below.refl _ u0).alloc (Nat.le_refl _) _
        have hblk := World.alloc_heap_new u0 (.cells #[.slice aL L.length cL, .slice aR R.length cR] 79)
        have d0 : (u0.alloc (.cells #[.slice aL L.length cL, .slice aR R.length cR] 79)).cell? ⟨u0.heap.size, 0, none⟩ = some (.slice aL L.length cL) := by rw [cell_at hblk]; rfl
        have d1 : (u0.alloc (.cells #[.slice aL L.length cL, .slice aR R.length cR] 79)).cell? ⟨u0.heap.size, 1, none⟩ = some (.slice aR R.length cR) := by rw [cell_at hblk]; rfl
        have hltB : u0.heap.size < (u0.alloc (.cells #[.slice aL L.length cL, .slice aR R.length cR] 79)).heap.size := by simp
        have iL := ((h3.mono hB.size).below hBa).mono hBa.size
        have iR := ((h4.mono hB.size).below hBa).mono hBa.size
        have hBw := hB.trans (hBa.mono hB.size)
        have C1 := hid (twoErrors_any L R aL aR cL cR (u0.alloc (.cells #[.slice aL L.length cL, .slice aR R.length cR] 79)) iL iR)
        clear hL hR h3 h4 hI hblk
        by_cases hf : Tm.fitErr L R = 0
        · obtain ⟨k1, k2⟩ := Tm.fitErr_ok hf
          have lL := Tm.err_len k1
          have lR := Tm.err_len k2
          have pL := Tm.err_pos k1
          have pL' : (0 : Int) < (L.length : Int) := by omega
          have lR' : (R.length : Int) ≤ 30 := by omega
          have hre := ruleErr_fit0 hf
          rw [hf] at C1
          have C3 := hid (refOwn_any L aL cL (u0.alloc (.cells #[.slice aL L.length cL, .slice aR R.length cR] 79)) iL (by unfold maxLen; omega))
          have C4 := hid (refOwn_any R aR cR (u0.alloc (.cells #[.slice aL L.length cL, .slice aR R.length cR] 79)) iR (by unfold maxLen; omega))
          obtain ⟨bl, ol, rfl, _, cl⟩ := iL.at pL
          have c0 := cl 0 pL
          simp only [Nat.add_zero] at c0
          clear cl hf k1 k2
          have HL := hid (fun W (hW : Below (u0.alloc (.cells #[.slice (some ⟨bl, ol, none⟩) L.length cL, .slice aR R.length cR] 79)).heap.size (u0.alloc (.cells #[.slice (some ⟨bl, ol, none⟩) L.length cL, .slice aR R.length cR] 79)) W) => (iL.below hW).mono hW.size)
          have HR := hid (fun W (hW : Below (u0.alloc (.cells #[.slice (some ⟨bl, ol, none⟩) L.length cL, .slice aR R.length cR] 79)).heap.size (u0.alloc (.cells #[.slice (some ⟨bl, ol, none⟩) L.length cL, .slice aR R.length cR] 79)) W) => (iR.below hW).mono hW.size)
          have D0 := hid (fun W (hW : Below (u0.alloc (.cells #[.slice (some ⟨bl, ol, none⟩) L.length cL, .slice aR R.length cR] 79)).heap.size (u0.alloc (.cells #[.slice (some ⟨bl, ol, none⟩) L.length cL, .slice aR R.length cR] 79)) W) => (hW.cell (p := ⟨u0.heap.size, 0, none⟩) hltB).trans d0)
          have D1 := hid (fun W (hW : Below (u0.alloc (.cells #[.slice (some ⟨bl, ol, none⟩) L.length cL, .slice aR R.length cR] 79)).heap.size (u0.alloc (.cells #[.slice (some ⟨bl, ol, none⟩) L.length cL, .slice aR R.length cR] 79)) W) => (hW.cell (p := ⟨u0.heap.size, 1, none⟩) hltB).trans d1)
          clear iL iR
          cases q1 : L.any foreignB with
          | true =>
            rw [q1, if_pos rfl] at hre
            rw [q1] at C3
            have Hs := hid ((hs2.out (by rw [hre]; decide)).trans hre)
            clear q1 hre hs1 hs2 C4
            go_wp2_with (first
              | (go_at_call 37; refine C1.out.mono ?_; clear C1; rintro e w2 ⟨rfl, rfl⟩)
              | (go_at_call 51; refine C3.out.mono ?_; clear C3; rintro e w2 ⟨rfl, rfl⟩))
            go_ret
            exact ⟨ret_int (hst.out.trans Hs.out).symm, hBw⟩
          | false =>
            rw [q1, if_neg (by decide)] at hre
            rw [q1] at C3
            cases q2 : R.any foreignB with
            | true =>
              rw [q2, if_pos rfl] at hre
              rw [q2] at C4
              have Hs := hid ((hs2.out (by rw [hre]; decide)).trans hre)
              clear q1 q2 hre hs1 hs2
              go_wp2_with (first
                | (go_at_call 37; refine C1.out.mono ?_; clear C1; rintro e w2 ⟨rfl, rfl⟩)
                | (go_at_call_of 51 (Value.slice (some ⟨bl, ol, none⟩) L.length cL); refine C3.out.mono ?_; clear C3; rintro e w2 ⟨rfl, rfl⟩)
                | (go_at_call_of 51 (Value.slice aR R.length cR); refine C4.out.mono ?_; clear C4; rintro e w2 ⟨rfl, rfl⟩))
              go_ret
              exact ⟨ret_int (hst.out.trans Hs.out).symm, hBw⟩
            | false =>
              rw [q2, if_neg (by decide)] at hre
              rw [q2] at C4
              clear q1 q2
              generalize L[0]?.getD 0 = s0 at *
              by_cases hs : s0 < 0
              · rw [if_pos hs] at hre
                have Hs := hid ((hs2.out (by rw [hre]; decide)).trans hre)
                clear hre hs1 hs2
                go_wp2_with (first
                  | (go_at_call 37; refine C1.out.mono ?_; clear C1; rintro e w2 ⟨rfl, rfl⟩)
                  | (go_at_call_of 51 (Value.slice (some ⟨bl, ol, none⟩) L.length cL); refine C3.out.mono ?_; clear C3; rintro e w2 ⟨rfl, rfl⟩)
                  | (go_at_call_of 51 (Value.slice aR R.length cR); refine C4.out.mono ?_; clear C4; rintro e w2 ⟨rfl, rfl⟩))
                go_ret
                exact ⟨ret_int (hst.out.trans Hs.out).symm, hBw⟩
              · rw [if_neg hs] at hre
                have hs' : decide (s0 < 0) = false := by simpa using hs
                have Hre := hid hre
                clear hre hs
                go_wp2_with (first
                  | (go_at_call 37; refine C1.out.mono ?_; clear C1; rintro e w2 ⟨rfl, rfl⟩)
                  | (go_at_call_of 51 (Value.slice (some ⟨bl, ol, none⟩) L.length cL); refine C3.out.mono ?_; clear C3; rintro e w2 ⟨rfl, rfl⟩)
                  | (go_at_call_of 51 (Value.slice aR R.length cR); refine C4.out.mono ?_; clear C4; rintro e w2 ⟨rfl, rfl⟩))
                go_loopw [6] (fun v W => ∃ m : Nat, m ≤ R.length ∧ v = .int .i64 (m : Int) ∧ Hid ((R.take m).any (freeIn L) = false) ∧ Below (u0.alloc (.cells #[.slice (some ⟨bl, ol, none⟩) L.length cL, .slice aR R.length cR] 79)).heap.size (u0.alloc (.cells #[.slice (some ⟨bl, ol, none⟩) L.length cL, .slice aR R.length cR] 79)) W) (fun v _ => R.length - (intOf v).toNat)
                case atStart => exact ⟨0, Nat.zero_le _, rfl, hid (by simp), Below.refl _ _⟩
                case round =>
                  obtain ⟨m, hm, rfl, hfr, hBm⟩ := hrel
                  have d0 := D0.out wr hBm
                  have d1 := D1.out wr hBm
                  by_cases hm2 : m < R.length
                  · have hm2' : (m : Int) < (R.length : Int) := by omega
                    obtain ⟨br, or', eR, _, cr⟩ := (HR.out wr hBm) m hm2
                    rw [eR] at d1
                    have hsn := hid (any_snoc (p := freeIn L) hm2 hfr.out)
                    have hye := hid (any_yes (p := freeIn L) hm2)
                    have hSt := hid (fun W (hW : Below (u0.alloc (.cells #[.slice (some ⟨bl, ol, none⟩) L.length cL, .slice aR R.length cR] 79)).heap.size (u0.alloc (.cells #[.slice (some ⟨bl, ol, none⟩) L.length cL, .slice aR R.length cR] 79)) W) => refStands_any L (R[m]?.getD 0) (some ⟨bl, ol, none⟩) cL W (HL.out W hW) (by unfold maxLen; omega))
                    generalize R[m]?.getD 0 = x at *
                    by_cases hx : x < 0
                    · cases hq : Tm.hasB L x with
                      | true =>
                        rw [hq] at hSt
                        have hz : freeIn L x = false := by unfold freeIn; rw [hq]; simp
                        have Hn := hid (hsn.out hz)
                        clear hz hq hsn hye
                        go_wp2_with fail
                        go_quiet ((go_at_call 52; exact Calls.quiet_of_same (hSt.out _ (below_drewO hBm _))))
                        go_wp2
                        go_roundw
                        case rel => exact ⟨m + 1, by omega, by go_num, hid Hn.out, below_drewO hBm _⟩
                        case measure => simp [intOf]; omega
                      | false =>
                        rw [hq] at hSt
                        have hz : freeIn L x = true := by unfold freeIn; rw [hq, decide_eq_true hx]; rfl
                        have hre := Hre.out
                        rw [hye.out hz, if_pos rfl] at hre
                        have Hs := hid ((hs2.out (by rw [hre]; decide)).trans hre)
                        clear hz hq hsn hye hre
                        go_wp2_with fail
                        go_quiet ((go_at_call 52; exact Calls.quiet_of_same (hSt.out _ (below_drewO hBm _))))
                        go_wp2
                        go_ret
                        exact ⟨ret_int (hst.out.trans Hs.out).symm, hBw.trans ((below_drewO hBm _).mono hBw.size)⟩
                    · have hx' : decide (x < 0) = false := by simpa using hx
                      have hz : freeIn L x = false := by unfold freeIn; rw [hx']; rfl
                      have Hn := hid (hsn.out hz)
                      clear hz hsn hye hx
                      go_wp2_with fail
                      go_quiet (fail)
                      go_wp2
                      go_roundw
                      case rel => exact ⟨m + 1, by omega, by go_num, hid Hn.out, below_drewO hBm _⟩
                      case measure => simp [intOf]; omega
                  · obtain rfl : m = R.length := by omega
                    rw [List.take_length] at hfr
                    have hre := Hre.out
                    rw [hfr.out, if_neg (by decide)] at hre
                    have Hs := hid (hs1.out hre)
                    clear hre
                    go_wp2
                    go_roundw
                    case rel => exact ⟨k + 1, by omega, by go_num, hid (hst.out.trans Hs.out), hBw.trans (hBm.mono hBw.size)⟩
                    case measure => simp [intOf]; omega
        · have hn : (Tm.fitErr L R != 0) = true := by simpa using hf
          have hre := ruleErr_fit hf
          have Hs := hid ((hs2.out (by rw [hre]; exact hf)).trans hre)
          clear hf hre hs1 hs2
          generalize Tm.fitErr L R = q at *
          go_wp2_with (first
            | (go_at_call 37; refine C1.out.mono ?_; clear C1; rintro e w2 ⟨rfl, rfl⟩))
          go_ret
          exact ⟨ret_int (hst.out.trans Hs.out).symm, hBw⟩
      · obtain rfl : k = rs.length := by omega
        go_wp2
        go_ret
        exact ⟨by rw [hst.out, List.drop_length]; rfl, hB⟩

end Go.Proofs.Ytjaikmlbajdedac

namespace Go.Proofs.Ytjaikmlbajdedac
open Go.Proofs Go.RowKit Go.Shelf Go.Maps

attribute [local go_sem ↓] Go.wp_at_zero Go.wp_at_succ

set_option maxRecDepth 100000 in
set_option maxHeartbeats 2000000 in
theorem refFalls_any (rk : List Int) (rs : RuleL) (ar a : Option Addr) (cr cap : Nat) (w : World) (hR : Ints w.heap.size w ar rk) (hI : RulesAt w.heap.size w a rs) (h1 : Tm.rankErr rk = 0) (h2 : Tm.rulesErr rs = 0) :
    Calls Try.prog 48 #[.slice ar rk.length cr, .slice a rs.length cap] w fun e w' => e = .returned (.bool (Tm.fallsB rk rs)) ∧ Below w.heap.size w w' := by
  obtain ⟨h8, hall⟩ := Tm.rulesErr_ok h2
  have h8' : (rs.length : Int) ≤ 8 := by omega
  have h6 := rank_six h1
  have HA := hid (fun W (hW : Below w.heap.size w W) k (hk : k < rs.length) aL aR cL cR hL hR2 h3 h4 h5 h6' => refabove_any rk (rs[k]?.getD ([], [])).1 (rs[k]?.getD ([], [])).2 ar aL aR cr cL cR W ((hR.below hW).mono hW.size) hL hR2 h3 h4 h5 h6' (Tm.ruleErr_ok (hall k hk)).1 (Tm.ruleErr_ok (hall k hk)).2.1 h6)
  have HV := hid (fun k (hk : k < rs.length) => show Tm.ab rk (rs[k]?.getD ([], [])).1 (rs[k]?.getD ([], [])).2 0 0 = Tm.aboveVal rk (rs[k]?.getD ([], [])).1 (rs[k]?.getD ([], [])).2 by
    have e1 := (Tm.ruleErr_ok (hall k hk)).1
    have e2 := (Tm.ruleErr_ok (hall k hk)).2.1
    unfold Tm.aboveVal Tm.ab
    rw [if_pos (Tm.aboveErr_of h1 e1 e2), Tm.part_all0 (Tm.err_run e1), Tm.part_all0 (Tm.err_run e2)])
  clear h1 h2 h6 hall h8 hR
  go_enter Try.func48, Try.ntmps48
  go_wp2
  go_loopw [5] (fun v wr => ∃ k : Nat, k ≤ rs.length ∧ v = .int .i64 (k : Int) ∧ Hid (Tm.fallsB rk (rs.take k) = true) ∧ Below w.heap.size w wr) (fun v _ => rs.length - (intOf v).toNat)
  case atStart => exact ⟨0, Nat.zero_le _, rfl, hid rfl, Below.refl _ _⟩
  case round =>
    obtain ⟨k, hk, rfl, hst, hB⟩ := hrel
    by_cases hlt : k < rs.length
    · have hlt' : (k : Int) < (rs.length : Int) := by omega
      obtain ⟨b, off, rfl, hb, aL, cL, aR, cR, g1, g2, g3, g4, g5, g6, g7, g8⟩ := (hI.below hB) k hlt
      have hbw : b < wr.heap.size := Nat.lt_of_lt_of_le hb hB.size
      have hs1 := hid (fallsB_snoc hlt hst.out)
      have hs2 := hid (fun h => fallsB_no (rk := rk) hlt h)
      have hC := hid (fun W (hW : Below wr.heap.size wr W) => HA.out W (hB.trans (hW.mono hB.size)) k hlt aL aR cL cR (((g3.mono hB.size).below hW).mono hW.size) (((g4.mono hB.size).below hW).mono hW.size) g5 g6 g7 g8)
      rw [HV.out k hlt] at hC
      generalize (rs[k]?.getD ([], [])).1 = L at *
      generalize (rs[k]?.getD ([], [])).2 = R at *
      have hS := hid (fun w' (hW : Below wr.heap.size wr w') => (show w'.cell? ⟨b, off + k * 2, none⟩ = some (.slice aL L.length cL) ∧ w'.cell? ⟨b, off + k * 2 + 1, none⟩ = some (.slice aR R.length cR) from
        ⟨(hW.cell (p := ⟨b, off + k * 2, none⟩) hbw).trans g1, (hW.cell (p := ⟨b, off + k * 2 + 1, none⟩) hbw).trans g2⟩))
      clear g3 g4 g5 g6 g7 g8
      cases hq : Tm.aboveVal rk L R with
      | true =>
        rw [hq] at hC hs1
        clear hq hs2
        go_wp2_with fail
        go_region_held3 (fun w' => w'.cell? ⟨b, off + k * 2, none⟩ = some (.slice aL L.length cL) ∧ w'.cell? ⟨b, off + k * 2 + 1, none⟩ = some (.slice aR R.length cR)) (first | assumption | exact ⟨g1, g2⟩) (first
          | (go_at_call 38; refine (hC.out _ (below_drew1 (Below.refl _ wr))).mono ?_; clear hC; rintro e w2 ⟨rfl, b2⟩; have b3 : Below wr.heap.size wr w2 := ⟨b2.os, b2.tape, b2.output, b2.size, b2.block⟩; have hS2 := hS.out w2 b3))
        all_goals (
          go_wp2
          go_roundw
          case rel => exact ⟨k + 1, by omega, by go_num, hid hs1.out, hB.trans (b3.mono hB.size)⟩
          case measure => simp [intOf]; omega)
      | false =>
        have hno := hid (hs2.out hq)
        rw [hq] at hC
        clear hq hs1 hs2
        go_wp2_with fail
        go_region_held3 (fun w' => w'.cell? ⟨b, off + k * 2, none⟩ = some (.slice aL L.length cL) ∧ w'.cell? ⟨b, off + k * 2 + 1, none⟩ = some (.slice aR R.length cR)) (first | assumption | exact ⟨g1, g2⟩) (first
          | (go_at_call 38; refine (hC.out _ (below_drew1 (Below.refl _ wr))).mono ?_; clear hC; rintro e w2 ⟨rfl, b2⟩; have b3 : Below wr.heap.size wr w2 := ⟨b2.os, b2.tape, b2.output, b2.size, b2.block⟩; have hS2 := hS.out w2 b3))
        all_goals (
          go_wp2
          go_ret
          exact ⟨by rw [hno.out]; rfl, hB.trans (b3.mono hB.size)⟩)
    · obtain rfl : k = rs.length := by omega
      rw [List.take_length] at hst
      go_wp2
      go_ret
      exact ⟨by rw [hst.out]; rfl, hB⟩

set_option maxRecDepth 100000 in
set_option maxHeartbeats 1000000 in
theorem fallsOf_any (rk : List Int) (rs : RuleL) (ar a : Option Addr) (cr cap : Nat) (w : World) (hR : Ints w.heap.size w ar rk) (hI : RulesAt w.heap.size w a rs) :
    Calls Try.prog 25 #[.slice ar rk.length cr, .slice a rs.length cap] w fun e w' => e = .returned (.tuple #[.bool (Tm.fallsVal rk rs), .int .i64 (Tm.fallsErr rk rs)]) ∧ Below w.heap.size w w' := by
  have C1 := rankError_any rk ar cr w hR
  have C2 := rulesError_any rs a cap w hI
  by_cases h1 : Tm.rankErr rk = 0
  · rw [h1] at C1
    have he : Tm.fallsErr rk rs = Tm.rulesErr rs := by unfold Tm.fallsErr; rw [if_pos h1]
    by_cases h2 : Tm.rulesErr rs = 0
    · have C3 := hid (fun W (hW : Below w.heap.size w W) => refFalls_any rk rs ar a cr cap W ((hR.below hW).mono hW.size) ((hI.below hW).mono hW.size) h1 h2)
      rw [h2] at C2
      have hv : Tm.fallsVal rk rs = Tm.fallsB rk rs := by unfold Tm.fallsVal; rw [he, if_pos h2]
      rw [hv, he, h2]
      clear h1 h2 he hv hR hI
      generalize Tm.fallsB rk rs = q at *
      go_enter Try.func25, Try.ntmps25
      go_wp2_with fail
      refine C1.mono ?_
      rintro e w ⟨rfl, rfl⟩
      go_wp2_with fail
      refine C2.mono ?_
      rintro e w1 ⟨rfl, b1⟩
      go_wp2_with fail
      refine (C3.out w1 b1).mono ?_
      rintro e w2 ⟨rfl, b2⟩
      go_wp2
      go_ret2
      exact ⟨rfl, b1.trans (b2.mono b1.size)⟩
    · have hv : Tm.fallsVal rk rs = false := by unfold Tm.fallsVal; rw [he, if_neg h2]
      have hn : (Tm.rulesErr rs != 0) = true := by simpa using h2
      rw [hv, he]
      clear h1 h2 he hv hR hI
      generalize Tm.rulesErr rs = q at *
      go_enter Try.func25, Try.ntmps25
      go_wp2_with fail
      refine C1.mono ?_
      rintro e w ⟨rfl, rfl⟩
      go_wp2_with fail
      refine C2.mono ?_
      rintro e w1 ⟨rfl, b1⟩
      go_wp2
      go_ret2
      exact ⟨rfl, b1⟩
  · have he : Tm.fallsErr rk rs = Tm.rankErr rk := by unfold Tm.fallsErr; rw [if_neg h1]
    have hv : Tm.fallsVal rk rs = false := by unfold Tm.fallsVal; rw [he, if_neg h1]
    have hn : (Tm.rankErr rk != 0) = true := by simpa using h1
    rw [hv, he]
    clear h1 he hv hR hI C2
    generalize Tm.rankErr rk = q at *
    go_enter Try.func25, Try.ntmps25
    go_wp2_with fail
    refine C1.mono ?_
    rintro e w ⟨rfl, rfl⟩
    go_wp2
    go_ret2
    exact ⟨rfl, Below.refl _ _⟩

end Go.Proofs.Ytjaikmlbajdedac
