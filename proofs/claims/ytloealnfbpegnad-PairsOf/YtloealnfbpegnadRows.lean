/-
  No cell of these rows narrows 'for every input' (looked for: loops, veiled, ifaces, maps, wideKeys, modest, calm, conditions, laid).
  DERIVED. THE GIVEN ROWS OF THIS SEAT. 6 by the template 'for every input the law returns true; each argument reads behind the call as it read before'; 0 by the template 'total and deterministic' (their statements: YtloealnfbpegnadTotals.lean).
  GIVEN WITH THE SEED: the statements are not yours to turn. If you find one false, say at which input.
  Laid BY PROGRAM, IN A SANDBOX (cutbox-rows.mjs): the forced cells as the released guide's own fill.sh prints them over the translation 2285659564b82d22… (all of the seat's roots in one cut). By AI agents, Wed Nov 11 2026. No macro, syntax, notation, axiom, sorry.
-/
import Derived.Test.YtloealnfbpegnadChecked
import GoSem.Claim
import GoSem.ClaimJoined
import GoSem.ClaimMapViews
import Derived.JoinedTies
import Derived.KernelRfl
namespace Go.Proofs.Ytloealnfbpegnad
/- THE CELL 'sum', in the pinned program and in every row, IS THE sha256 OF THE DUMP (.gsa) THAT YtloealnfbpegnadProg.lean LOADS. Nothing in Lean hashes anything: it is a label: what it is worth is what the hold of that sum in a sandbox is worth. -/
noncomputable def Try.pinned : Pinned := { name := "ytloealnfbpegnad", sum := "2285659564b82d22a091e8e6ecd955062d734438fc6853eeaf64ce234c9fc99c", checked := Try.checked }
namespace Rows
def none {H : Type} : Left H := { results := [], args := [] }

/-- 'hasplaw.RulesTrue': WHATEVER THE INPUT: true; the input reads as it did. -/
def rulesTrueSpec : ChangeSpec := { name := "rulesTrue", fn := fun _ => fun
  | [d1, d2, d3, d4] => { results := [.lit (.bool true)], args := [d1, d2, d3, d4] }
  | _ => none }
def rulesTrueRow : OpenClaim := { program := "ytloealnfbpegnad", sum := "2285659564b82d22a091e8e6ecd955062d734438fc6853eeaf64ce234c9fc99c", func := "hasp/hasplaw.RulesTrue", spec := "rulesTrue", unfollowed := true, recurses := true, plainKeys := false, apart := false }
def RulesTrueSaid : Prop := rulesTrueRow.holds Try.pinned (OpenSpec.ofChange rulesTrueSpec)

/-- ITS FALSE NEIGHBOUR: 'it returns false'. Refute it at one input. -/
def rulesTrueWrong : ChangeSpec := { name := "rulesTrue", fn := fun _ => fun
  | [d1, d2, d3, d4] => { results := [.lit (.bool false)], args := [d1, d2, d3, d4] }
  | _ => none }
def RulesTrueWrongFalsely : Prop := rulesTrueRow.holds Try.pinned (OpenSpec.ofChange rulesTrueWrong)

/-- 'hasplaw.NormForms': WHATEVER THE INPUT: true; the input reads as it did. -/
def normFormsSpec : ChangeSpec := { name := "normForms", fn := fun _ => fun
  | [d1, d2] => { results := [.lit (.bool true)], args := [d1, d2] }
  | _ => none }
def normFormsRow : OpenClaim := { program := "ytloealnfbpegnad", sum := "2285659564b82d22a091e8e6ecd955062d734438fc6853eeaf64ce234c9fc99c", func := "hasp/hasplaw.NormForms", spec := "normForms", unfollowed := true, recurses := true, plainKeys := false, apart := false }
def NormFormsSaid : Prop := normFormsRow.holds Try.pinned (OpenSpec.ofChange normFormsSpec)

/-- ITS FALSE NEIGHBOUR: 'it returns false'. Refute it at one input. -/
def normFormsWrong : ChangeSpec := { name := "normForms", fn := fun _ => fun
  | [d1, d2] => { results := [.lit (.bool false)], args := [d1, d2] }
  | _ => none }
def NormFormsWrongFalsely : Prop := normFormsRow.holds Try.pinned (OpenSpec.ofChange normFormsWrong)

/-- 'hasplaw.NormTrue': WHATEVER THE INPUT: true; the input reads as it did. -/
def normTrueSpec : ChangeSpec := { name := "normTrue", fn := fun _ => fun
  | [d1, d2] => { results := [.lit (.bool true)], args := [d1, d2] }
  | _ => none }
def normTrueRow : OpenClaim := { program := "ytloealnfbpegnad", sum := "2285659564b82d22a091e8e6ecd955062d734438fc6853eeaf64ce234c9fc99c", func := "hasp/hasplaw.NormTrue", spec := "normTrue", unfollowed := true, recurses := true, plainKeys := false, apart := false }
def NormTrueSaid : Prop := normTrueRow.holds Try.pinned (OpenSpec.ofChange normTrueSpec)

/-- ITS FALSE NEIGHBOUR: 'it returns false'. Refute it at one input. -/
def normTrueWrong : ChangeSpec := { name := "normTrue", fn := fun _ => fun
  | [d1, d2] => { results := [.lit (.bool false)], args := [d1, d2] }
  | _ => none }
def NormTrueWrongFalsely : Prop := normTrueRow.holds Try.pinned (OpenSpec.ofChange normTrueWrong)

/-- 'hasplaw.NormBelow': WHATEVER THE INPUT: true; the input reads as it did. -/
def normBelowSpec : ChangeSpec := { name := "normBelow", fn := fun _ => fun
  | [d1, d2, d3] => { results := [.lit (.bool true)], args := [d1, d2, d3] }
  | _ => none }
def normBelowRow : OpenClaim := { program := "ytloealnfbpegnad", sum := "2285659564b82d22a091e8e6ecd955062d734438fc6853eeaf64ce234c9fc99c", func := "hasp/hasplaw.NormBelow", spec := "normBelow", unfollowed := true, recurses := true, plainKeys := false, apart := false }
def NormBelowSaid : Prop := normBelowRow.holds Try.pinned (OpenSpec.ofChange normBelowSpec)

/-- ITS FALSE NEIGHBOUR: 'it returns false'. Refute it at one input. -/
def normBelowWrong : ChangeSpec := { name := "normBelow", fn := fun _ => fun
  | [d1, d2, d3] => { results := [.lit (.bool false)], args := [d1, d2, d3] }
  | _ => none }
def NormBelowWrongFalsely : Prop := normBelowRow.holds Try.pinned (OpenSpec.ofChange normBelowWrong)

/-- 'hasplaw.NormModel': WHATEVER THE INPUT: true; the input reads as it did. -/
def normModelSpec : ChangeSpec := { name := "normModel", fn := fun _ => fun
  | [d1, d2, d3] => { results := [.lit (.bool true)], args := [d1, d2, d3] }
  | _ => none }
def normModelRow : OpenClaim := { program := "ytloealnfbpegnad", sum := "2285659564b82d22a091e8e6ecd955062d734438fc6853eeaf64ce234c9fc99c", func := "hasp/hasplaw.NormModel", spec := "normModel", unfollowed := true, recurses := true, plainKeys := false, apart := false }
def NormModelSaid : Prop := normModelRow.holds Try.pinned (OpenSpec.ofChange normModelSpec)

/-- ITS FALSE NEIGHBOUR: 'it returns false'. Refute it at one input. -/
def normModelWrong : ChangeSpec := { name := "normModel", fn := fun _ => fun
  | [d1, d2, d3] => { results := [.lit (.bool false)], args := [d1, d2, d3] }
  | _ => none }
def NormModelWrongFalsely : Prop := normModelRow.holds Try.pinned (OpenSpec.ofChange normModelWrong)

/-- 'hasplaw.PairsOf': WHATEVER THE INPUT: true; the input reads as it did. -/
def pairsOfSpec : ChangeSpec := { name := "pairsOf", fn := fun _ => fun
  | [d1, d2, d3] => { results := [.lit (.bool true)], args := [d1, d2, d3] }
  | _ => none }
def pairsOfRow : OpenClaim := { program := "ytloealnfbpegnad", sum := "2285659564b82d22a091e8e6ecd955062d734438fc6853eeaf64ce234c9fc99c", func := "hasp/hasplaw.PairsOf", spec := "pairsOf", unfollowed := true, recurses := true, plainKeys := false, apart := false }
def PairsOfSaid : Prop := pairsOfRow.holds Try.pinned (OpenSpec.ofChange pairsOfSpec)

/-- ITS FALSE NEIGHBOUR: 'it returns false'. Refute it at one input. -/
def pairsOfWrong : ChangeSpec := { name := "pairsOf", fn := fun _ => fun
  | [d1, d2, d3] => { results := [.lit (.bool false)], args := [d1, d2, d3] }
  | _ => none }
def PairsOfWrongFalsely : Prop := pairsOfRow.holds Try.pinned (OpenSpec.ofChange pairsOfWrong)

/- THE SECOND FORM. 'bulk': how many values and letters a reading holds, each counted each time it is reached (what is shared counts as often as it is met; a slice's spare places count too). A statement '..UptoSaid' is the law's where the arguments, and the package variables that the reading takes, are together of bulk at most 1048576: NARROWER than '..Said'. Prove '..Said' where nothing that the law and all that it calls make is longer than what came in: it says more and counts as full. Else prove '..UptoSaid'. A law counts once. -/
mutual
def uptoBulk {H : Type} : DataW H → Nat
  | .lit (.string bytes) => bytes.length + 1
  | .lit _ => 1
  | .nil => 1
  | .ptr d => uptoBulk d + 1
  | .slice elems spare => uptoBulkAll elems + uptoBulkAll spare + 1
  | .agg parts => uptoBulkAll parts + 1
  | .iface _ d => uptoBulk d + 1
  | .map entries => uptoBulkEntries entries + 1
  | .held _ => 1
def uptoBulkAll {H : Type} : List (DataW H) → Nat
  | [] => 0
  | d :: r => uptoBulk d + uptoBulkAll r
def uptoBulkEntries {H : Type} : List (Lit × DataW H) → Nat
  | [] => 0
  | x :: r => uptoBulkEntry x + uptoBulkEntries r
def uptoBulkEntry {H : Type} : Lit × DataW H → Nat
  | (.string bytes, d) => bytes.length + uptoBulk d + 1
  | (_, d) => uptoBulk d + 1
 end
def uptoSmall : (H : Type) → List (DataW H) → Bool := fun _ ds => decide (uptoBulkAll ds ≤ 1048576)
def OpenSpec.upto (s : _root_.Go.ChangeSpec) : _root_.Go.OpenSpec := { _root_.Go.OpenSpec.ofChange s with cond := some uptoSmall }

/-- 'hasplaw.RulesTrue', WHERE WHAT IT READS IS OF BULK AT MOST 1048576: true; the input reads as it did. -/
def rulesTrueUptoRow : OpenClaim := { program := "ytloealnfbpegnad", sum := "2285659564b82d22a091e8e6ecd955062d734438fc6853eeaf64ce234c9fc99c", func := "hasp/hasplaw.RulesTrue", spec := "rulesTrue", unfollowed := true, recurses := true, plainKeys := false, apart := false, narrowed := true }
def RulesTrueUptoSaid : Prop := rulesTrueUptoRow.holds Try.pinned (OpenSpec.upto rulesTrueSpec)

/-- 'hasplaw.NormForms', WHERE WHAT IT READS IS OF BULK AT MOST 1048576: true; the input reads as it did. -/
def normFormsUptoRow : OpenClaim := { program := "ytloealnfbpegnad", sum := "2285659564b82d22a091e8e6ecd955062d734438fc6853eeaf64ce234c9fc99c", func := "hasp/hasplaw.NormForms", spec := "normForms", unfollowed := true, recurses := true, plainKeys := false, apart := false, narrowed := true }
def NormFormsUptoSaid : Prop := normFormsUptoRow.holds Try.pinned (OpenSpec.upto normFormsSpec)

/-- 'hasplaw.NormTrue', WHERE WHAT IT READS IS OF BULK AT MOST 1048576: true; the input reads as it did. -/
def normTrueUptoRow : OpenClaim := { program := "ytloealnfbpegnad", sum := "2285659564b82d22a091e8e6ecd955062d734438fc6853eeaf64ce234c9fc99c", func := "hasp/hasplaw.NormTrue", spec := "normTrue", unfollowed := true, recurses := true, plainKeys := false, apart := false, narrowed := true }
def NormTrueUptoSaid : Prop := normTrueUptoRow.holds Try.pinned (OpenSpec.upto normTrueSpec)

/-- 'hasplaw.NormBelow', WHERE WHAT IT READS IS OF BULK AT MOST 1048576: true; the input reads as it did. -/
def normBelowUptoRow : OpenClaim := { program := "ytloealnfbpegnad", sum := "2285659564b82d22a091e8e6ecd955062d734438fc6853eeaf64ce234c9fc99c", func := "hasp/hasplaw.NormBelow", spec := "normBelow", unfollowed := true, recurses := true, plainKeys := false, apart := false, narrowed := true }
def NormBelowUptoSaid : Prop := normBelowUptoRow.holds Try.pinned (OpenSpec.upto normBelowSpec)

/-- 'hasplaw.NormModel', WHERE WHAT IT READS IS OF BULK AT MOST 1048576: true; the input reads as it did. -/
def normModelUptoRow : OpenClaim := { program := "ytloealnfbpegnad", sum := "2285659564b82d22a091e8e6ecd955062d734438fc6853eeaf64ce234c9fc99c", func := "hasp/hasplaw.NormModel", spec := "normModel", unfollowed := true, recurses := true, plainKeys := false, apart := false, narrowed := true }
def NormModelUptoSaid : Prop := normModelUptoRow.holds Try.pinned (OpenSpec.upto normModelSpec)

/-- 'hasplaw.PairsOf', WHERE WHAT IT READS IS OF BULK AT MOST 1048576: true; the input reads as it did. -/
def pairsOfUptoRow : OpenClaim := { program := "ytloealnfbpegnad", sum := "2285659564b82d22a091e8e6ecd955062d734438fc6853eeaf64ce234c9fc99c", func := "hasp/hasplaw.PairsOf", spec := "pairsOf", unfollowed := true, recurses := true, plainKeys := false, apart := false, narrowed := true }
def PairsOfUptoSaid : Prop := pairsOfUptoRow.holds Try.pinned (OpenSpec.upto pairsOfSpec)

end Rows
end Go.Proofs.Ytloealnfbpegnad
