/-
  No cell of these rows narrows 'for every input' (looked for: loops, veiled, ifaces, maps, wideKeys, modest, calm, conditions, laid).
  DERIVED. THE GIVEN ROWS OF THIS SEAT. 3 by the template 'for every input the law returns true; each argument reads behind the call as it read before'; 0 by the template 'total and deterministic' (their statements: YtglohanbpjaieaaGreatTotals.lean).
  GIVEN WITH THE SEED: the statements are not yours to turn. If you find one false, say at which input.
  Laid BY PROGRAM, IN A SANDBOX (cutbox-rows.mjs): the forced cells as the released guide's own fill.sh prints them over the translation d7161c7ed12f339e… (all of the seat's roots in one cut). By AI agents, Wed Nov 11 2026. No macro, syntax, notation, axiom, sorry.
-/
import Derived.Test.YtglohanbpjaieaaGreatChecked
import GoSem.Claim
import GoSem.ClaimJoined
import GoSem.ClaimMapViews
import Derived.JoinedTies
import Derived.KernelRfl
namespace Go.Proofs.YtglohanbpjaieaaGreat
/- THE CELL 'sum', in the pinned program and in every row, IS THE sha256 OF THE DUMP (.gsa) THAT YtglohanbpjaieaaGreatProg.lean LOADS. Nothing in Lean hashes anything: it is a label: what it is worth is what the hold of that sum in a sandbox is worth. -/
noncomputable def Tryz.pinned : Pinned := { name := "ytglohanbpjaieaagreat", sum := "d7161c7ed12f339e4f755f50736c0210d550389775eb1547fd4145406f00b5b2", checked := Tryz.checked }
namespace Rows
def none {H : Type} : Left H := { results := [], args := [] }

/-- 'hasplaw.CloseTurns': WHATEVER THE INPUT: true; the input reads as it did. -/
def closeTurnsSpec : ChangeSpec := { name := "closeTurns", fn := fun _ => fun
  | [d1, d2, d3] => { results := [.lit (.bool true)], args := [d1, d2, d3] }
  | _ => none }
def closeTurnsRow : OpenClaim := { program := "ytglohanbpjaieaagreat", sum := "d7161c7ed12f339e4f755f50736c0210d550389775eb1547fd4145406f00b5b2", func := "hasp/hasplaw.CloseTurns", spec := "closeTurns", unfollowed := true, recurses := true, plainKeys := false, apart := false }
def CloseTurnsSaid : Prop := closeTurnsRow.holds Tryz.pinned (OpenSpec.ofChange closeTurnsSpec)

/-- ITS FALSE NEIGHBOUR: 'it returns false'. Refute it at one input. -/
def closeTurnsWrong : ChangeSpec := { name := "closeTurns", fn := fun _ => fun
  | [d1, d2, d3] => { results := [.lit (.bool false)], args := [d1, d2, d3] }
  | _ => none }
def CloseTurnsWrongFalsely : Prop := closeTurnsRow.holds Tryz.pinned (OpenSpec.ofChange closeTurnsWrong)

/-- 'hasplaw.CloseRuns': WHATEVER THE INPUT: true; the input reads as it did. -/
def closeRunsSpec : ChangeSpec := { name := "closeRuns", fn := fun _ => fun
  | [d1, d2] => { results := [.lit (.bool true)], args := [d1, d2] }
  | _ => none }
def closeRunsRow : OpenClaim := { program := "ytglohanbpjaieaagreat", sum := "d7161c7ed12f339e4f755f50736c0210d550389775eb1547fd4145406f00b5b2", func := "hasp/hasplaw.CloseRuns", spec := "closeRuns", unfollowed := true, recurses := true, plainKeys := false, apart := false }
def CloseRunsSaid : Prop := closeRunsRow.holds Tryz.pinned (OpenSpec.ofChange closeRunsSpec)

/-- ITS FALSE NEIGHBOUR: 'it returns false'. Refute it at one input. -/
def closeRunsWrong : ChangeSpec := { name := "closeRuns", fn := fun _ => fun
  | [d1, d2] => { results := [.lit (.bool false)], args := [d1, d2] }
  | _ => none }
def CloseRunsWrongFalsely : Prop := closeRunsRow.holds Tryz.pinned (OpenSpec.ofChange closeRunsWrong)

/-- 'hasplaw.RestTerms': WHATEVER THE INPUT: true; the input reads as it did. -/
def restTermsSpec : ChangeSpec := { name := "restTerms", fn := fun _ => fun
  | [d1, d2, d3] => { results := [.lit (.bool true)], args := [d1, d2, d3] }
  | _ => none }
def restTermsRow : OpenClaim := { program := "ytglohanbpjaieaagreat", sum := "d7161c7ed12f339e4f755f50736c0210d550389775eb1547fd4145406f00b5b2", func := "hasp/hasplaw.RestTerms", spec := "restTerms", unfollowed := true, recurses := true, plainKeys := false, apart := false }
def RestTermsSaid : Prop := restTermsRow.holds Tryz.pinned (OpenSpec.ofChange restTermsSpec)

/-- ITS FALSE NEIGHBOUR: 'it returns false'. Refute it at one input. -/
def restTermsWrong : ChangeSpec := { name := "restTerms", fn := fun _ => fun
  | [d1, d2, d3] => { results := [.lit (.bool false)], args := [d1, d2, d3] }
  | _ => none }
def RestTermsWrongFalsely : Prop := restTermsRow.holds Tryz.pinned (OpenSpec.ofChange restTermsWrong)

/- THE SECOND FORM. 'bulk': how many values and letters a reading holds, each counted each time it is reached (what is shared counts as often as it is met; a slice's spare places count too). A statement '..UptoSaid' is the law's where the arguments, and the package variables that the reading takes, are together of bulk at most 1048576: NARROWER than '..Said'. Prove '..Said' where nothing that the law and all that it calls make is longer than what came in: it says more and counts as full. Else prove '..UptoSaid'. A law counts once. -/
mutual
def uptoBulk {H : Type} : DataW H → Nat
  | .lit (.string bytes) => bytes.length + 1
  | .lit _ => 1
  | .nil => 1
  | .ptr d => uptoBulk d + 1
  | .slice elems spare => uptoBulkAll elems + uptoBulkAll spare + 1
  | .agg parts => uptoBulkAll parts + 1
  | .iface _ d => uptoBulk d + 1
  | .map entries => uptoBulkEntries entries + 1
  | .held _ => 1
def uptoBulkAll {H : Type} : List (DataW H) → Nat
  | [] => 0
  | d :: r => uptoBulk d + uptoBulkAll r
def uptoBulkEntries {H : Type} : List (Lit × DataW H) → Nat
  | [] => 0
  | x :: r => uptoBulkEntry x + uptoBulkEntries r
def uptoBulkEntry {H : Type} : Lit × DataW H → Nat
  | (.string bytes, d) => bytes.length + uptoBulk d + 1
  | (_, d) => uptoBulk d + 1
 end
def uptoSmall : (H : Type) → List (DataW H) → Bool := fun _ ds => decide (uptoBulkAll ds ≤ 1048576)
def OpenSpec.upto (s : _root_.Go.ChangeSpec) : _root_.Go.OpenSpec := { _root_.Go.OpenSpec.ofChange s with cond := some uptoSmall }

/-- 'hasplaw.CloseTurns', WHERE WHAT IT READS IS OF BULK AT MOST 1048576: true; the input reads as it did. -/
def closeTurnsUptoRow : OpenClaim := { program := "ytglohanbpjaieaagreat", sum := "d7161c7ed12f339e4f755f50736c0210d550389775eb1547fd4145406f00b5b2", func := "hasp/hasplaw.CloseTurns", spec := "closeTurns", unfollowed := true, recurses := true, plainKeys := false, apart := false, narrowed := true }
def CloseTurnsUptoSaid : Prop := closeTurnsUptoRow.holds Tryz.pinned (OpenSpec.upto closeTurnsSpec)

/-- 'hasplaw.CloseRuns', WHERE WHAT IT READS IS OF BULK AT MOST 1048576: true; the input reads as it did. -/
def closeRunsUptoRow : OpenClaim := { program := "ytglohanbpjaieaagreat", sum := "d7161c7ed12f339e4f755f50736c0210d550389775eb1547fd4145406f00b5b2", func := "hasp/hasplaw.CloseRuns", spec := "closeRuns", unfollowed := true, recurses := true, plainKeys := false, apart := false, narrowed := true }
def CloseRunsUptoSaid : Prop := closeRunsUptoRow.holds Tryz.pinned (OpenSpec.upto closeRunsSpec)

/-- 'hasplaw.RestTerms', WHERE WHAT IT READS IS OF BULK AT MOST 1048576: true; the input reads as it did. -/
def restTermsUptoRow : OpenClaim := { program := "ytglohanbpjaieaagreat", sum := "d7161c7ed12f339e4f755f50736c0210d550389775eb1547fd4145406f00b5b2", func := "hasp/hasplaw.RestTerms", spec := "restTerms", unfollowed := true, recurses := true, plainKeys := false, apart := false, narrowed := true }
def RestTermsUptoSaid : Prop := restTermsUptoRow.holds Tryz.pinned (OpenSpec.upto restTermsSpec)

end Rows
end Go.Proofs.YtglohanbpjaieaaGreat
