/-
  No cell of these rows narrows 'for every input' (looked for: loops, veiled, ifaces, maps, wideKeys, modest, calm, conditions, laid).
  DERIVED. THE GIVEN ROWS OF THIS SEAT. 6 by the template 'for every input the law returns true; each argument reads behind the call as it read before'; 0 by the template 'total and deterministic' (their statements: YtloealnfbpegnabTotals.lean).
  GIVEN WITH THE SEED: the statements are not yours to turn. If you find one false, say at which input.
  Laid BY PROGRAM, IN A SANDBOX (cutbox-rows.mjs): the forced cells as the released guide's own fill.sh prints them over the translation aad7ebb7c1df5d4e… (all of the seat's roots in one cut). By AI agents, Wed Nov 11 2026. No macro, syntax, notation, axiom, sorry.
-/
import Derived.Test.YtloealnfbpegnabChecked
import GoSem.Claim
import GoSem.ClaimJoined
import GoSem.ClaimMapViews
import Derived.JoinedTies
import Derived.KernelRfl
namespace Go.Proofs.Ytloealnfbpegnab
/- THE CELL 'sum', in the pinned program and in every row, IS THE sha256 OF THE DUMP (.gsa) THAT YtloealnfbpegnabProg.lean LOADS. Nothing in Lean hashes anything: it is a label: what it is worth is what the hold of that sum in a sandbox is worth. -/
noncomputable def Try.pinned : Pinned := { name := "ytloealnfbpegnab", sum := "aad7ebb7c1df5d4e4b49ea347fd079ced7c03b514922a543d0b05758c7687bd0", checked := Try.checked }
namespace Rows
def none {H : Type} : Left H := { results := [], args := [] }

/-- 'hasplaw.MatchTells': WHATEVER THE INPUT: true; the input reads as it did. -/
def matchTellsSpec : ChangeSpec := { name := "matchTells", fn := fun _ => fun
  | [d1, d2] => { results := [.lit (.bool true)], args := [d1, d2] }
  | _ => none }
def matchTellsRow : OpenClaim := { program := "ytloealnfbpegnab", sum := "aad7ebb7c1df5d4e4b49ea347fd079ced7c03b514922a543d0b05758c7687bd0", func := "hasp/hasplaw.MatchTells", spec := "matchTells", unfollowed := true, recurses := true, apart := false }
def MatchTellsSaid : Prop := matchTellsRow.holds Try.pinned (OpenSpec.ofChange matchTellsSpec)

/-- ITS FALSE NEIGHBOUR: 'it returns false'. Refute it at one input. -/
def matchTellsWrong : ChangeSpec := { name := "matchTells", fn := fun _ => fun
  | [d1, d2] => { results := [.lit (.bool false)], args := [d1, d2] }
  | _ => none }
def MatchTellsWrongFalsely : Prop := matchTellsRow.holds Try.pinned (OpenSpec.ofChange matchTellsWrong)

/-- 'hasplaw.MatchOver': WHATEVER THE INPUT: true; the input reads as it did. -/
def matchOverSpec : ChangeSpec := { name := "matchOver", fn := fun _ => fun
  | [d1, d2] => { results := [.lit (.bool true)], args := [d1, d2] }
  | _ => none }
def matchOverRow : OpenClaim := { program := "ytloealnfbpegnab", sum := "aad7ebb7c1df5d4e4b49ea347fd079ced7c03b514922a543d0b05758c7687bd0", func := "hasp/hasplaw.MatchOver", spec := "matchOver", unfollowed := true, recurses := true, apart := false }
def MatchOverSaid : Prop := matchOverRow.holds Try.pinned (OpenSpec.ofChange matchOverSpec)

/-- ITS FALSE NEIGHBOUR: 'it returns false'. Refute it at one input. -/
def matchOverWrong : ChangeSpec := { name := "matchOver", fn := fun _ => fun
  | [d1, d2] => { results := [.lit (.bool false)], args := [d1, d2] }
  | _ => none }
def MatchOverWrongFalsely : Prop := matchOverRow.holds Try.pinned (OpenSpec.ofChange matchOverWrong)

/-- 'hasplaw.MatchTrue': WHATEVER THE INPUT: true; the input reads as it did. -/
def matchTrueSpec : ChangeSpec := { name := "matchTrue", fn := fun _ => fun
  | [d1, d2, d3] => { results := [.lit (.bool true)], args := [d1, d2, d3] }
  | _ => none }
def matchTrueRow : OpenClaim := { program := "ytloealnfbpegnab", sum := "aad7ebb7c1df5d4e4b49ea347fd079ced7c03b514922a543d0b05758c7687bd0", func := "hasp/hasplaw.MatchTrue", spec := "matchTrue", unfollowed := true, recurses := true, apart := false }
def MatchTrueSaid : Prop := matchTrueRow.holds Try.pinned (OpenSpec.ofChange matchTrueSpec)

/-- ITS FALSE NEIGHBOUR: 'it returns false'. Refute it at one input. -/
def matchTrueWrong : ChangeSpec := { name := "matchTrue", fn := fun _ => fun
  | [d1, d2, d3] => { results := [.lit (.bool false)], args := [d1, d2, d3] }
  | _ => none }
def MatchTrueWrongFalsely : Prop := matchTrueRow.holds Try.pinned (OpenSpec.ofChange matchTrueWrong)

/-- 'hasplaw.UnifyMeets': WHATEVER THE INPUT: true; the input reads as it did. -/
def unifyMeetsSpec : ChangeSpec := { name := "unifyMeets", fn := fun _ => fun
  | [d1, d2] => { results := [.lit (.bool true)], args := [d1, d2] }
  | _ => none }
def unifyMeetsRow : OpenClaim := { program := "ytloealnfbpegnab", sum := "aad7ebb7c1df5d4e4b49ea347fd079ced7c03b514922a543d0b05758c7687bd0", func := "hasp/hasplaw.UnifyMeets", spec := "unifyMeets", unfollowed := true, recurses := true, apart := false }
def UnifyMeetsSaid : Prop := unifyMeetsRow.holds Try.pinned (OpenSpec.ofChange unifyMeetsSpec)

/-- ITS FALSE NEIGHBOUR: 'it returns false'. Refute it at one input. -/
def unifyMeetsWrong : ChangeSpec := { name := "unifyMeets", fn := fun _ => fun
  | [d1, d2] => { results := [.lit (.bool false)], args := [d1, d2] }
  | _ => none }
def UnifyMeetsWrongFalsely : Prop := unifyMeetsRow.holds Try.pinned (OpenSpec.ofChange unifyMeetsWrong)

/-- 'hasplaw.UnifyAll': WHATEVER THE INPUT: true; the input reads as it did. -/
def unifyAllSpec : ChangeSpec := { name := "unifyAll", fn := fun _ => fun
  | [d] => { results := [.lit (.bool true)], args := [d] }
  | _ => none }
def unifyAllRow : OpenClaim := { program := "ytloealnfbpegnab", sum := "aad7ebb7c1df5d4e4b49ea347fd079ced7c03b514922a543d0b05758c7687bd0", func := "hasp/hasplaw.UnifyAll", spec := "unifyAll", unfollowed := true, recurses := true, apart := false }
def UnifyAllSaid : Prop := unifyAllRow.holds Try.pinned (OpenSpec.ofChange unifyAllSpec)

/-- ITS FALSE NEIGHBOUR: 'it returns false'. Refute it at one input. -/
def unifyAllWrong : ChangeSpec := { name := "unifyAll", fn := fun _ => fun
  | [d] => { results := [.lit (.bool false)], args := [d] }
  | _ => none }
def UnifyAllWrongFalsely : Prop := unifyAllRow.holds Try.pinned (OpenSpec.ofChange unifyAllWrong)

/-- 'hasplaw.UnifyTrue': WHATEVER THE INPUT: true; the input reads as it did. -/
def unifyTrueSpec : ChangeSpec := { name := "unifyTrue", fn := fun _ => fun
  | [d1, d2] => { results := [.lit (.bool true)], args := [d1, d2] }
  | _ => none }
def unifyTrueRow : OpenClaim := { program := "ytloealnfbpegnab", sum := "aad7ebb7c1df5d4e4b49ea347fd079ced7c03b514922a543d0b05758c7687bd0", func := "hasp/hasplaw.UnifyTrue", spec := "unifyTrue", unfollowed := true, recurses := true, apart := false }
def UnifyTrueSaid : Prop := unifyTrueRow.holds Try.pinned (OpenSpec.ofChange unifyTrueSpec)

/-- ITS FALSE NEIGHBOUR: 'it returns false'. Refute it at one input. -/
def unifyTrueWrong : ChangeSpec := { name := "unifyTrue", fn := fun _ => fun
  | [d1, d2] => { results := [.lit (.bool false)], args := [d1, d2] }
  | _ => none }
def UnifyTrueWrongFalsely : Prop := unifyTrueRow.holds Try.pinned (OpenSpec.ofChange unifyTrueWrong)

/- THE SECOND FORM. 'bulk': how many values and letters a reading holds, each counted each time it is reached (what is shared counts as often as it is met; a slice's spare places count too). A statement '..UptoSaid' is the law's where the arguments, and the package variables that the reading takes, are together of bulk at most 1048576: NARROWER than '..Said'. Prove '..Said' where nothing that the law and all that it calls make is longer than what came in: it says more and counts as full. Else prove '..UptoSaid'. A law counts once. -/
mutual
def uptoBulk {H : Type} : DataW H → Nat
  | .lit (.string bytes) => bytes.length + 1
  | .lit _ => 1
  | .nil => 1
  | .ptr d => uptoBulk d + 1
  | .slice elems spare => uptoBulkAll elems + uptoBulkAll spare + 1
  | .agg parts => uptoBulkAll parts + 1
  | .iface _ d => uptoBulk d + 1
  | .map entries => uptoBulkEntries entries + 1
  | .held _ => 1
def uptoBulkAll {H : Type} : List (DataW H) → Nat
  | [] => 0
  | d :: r => uptoBulk d + uptoBulkAll r
def uptoBulkEntries {H : Type} : List (Lit × DataW H) → Nat
  | [] => 0
  | x :: r => uptoBulkEntry x + uptoBulkEntries r
def uptoBulkEntry {H : Type} : Lit × DataW H → Nat
  | (.string bytes, d) => bytes.length + uptoBulk d + 1
  | (_, d) => uptoBulk d + 1
 end
def uptoSmall : (H : Type) → List (DataW H) → Bool := fun _ ds => decide (uptoBulkAll ds ≤ 1048576)
def OpenSpec.upto (s : _root_.Go.ChangeSpec) : _root_.Go.OpenSpec := { _root_.Go.OpenSpec.ofChange s with cond := some uptoSmall }

/-- 'hasplaw.MatchTells', WHERE WHAT IT READS IS OF BULK AT MOST 1048576: true; the input reads as it did. -/
def matchTellsUptoRow : OpenClaim := { program := "ytloealnfbpegnab", sum := "aad7ebb7c1df5d4e4b49ea347fd079ced7c03b514922a543d0b05758c7687bd0", func := "hasp/hasplaw.MatchTells", spec := "matchTells", unfollowed := true, recurses := true, apart := false, narrowed := true }
def MatchTellsUptoSaid : Prop := matchTellsUptoRow.holds Try.pinned (OpenSpec.upto matchTellsSpec)

/-- 'hasplaw.MatchOver', WHERE WHAT IT READS IS OF BULK AT MOST 1048576: true; the input reads as it did. -/
def matchOverUptoRow : OpenClaim := { program := "ytloealnfbpegnab", sum := "aad7ebb7c1df5d4e4b49ea347fd079ced7c03b514922a543d0b05758c7687bd0", func := "hasp/hasplaw.MatchOver", spec := "matchOver", unfollowed := true, recurses := true, apart := false, narrowed := true }
def MatchOverUptoSaid : Prop := matchOverUptoRow.holds Try.pinned (OpenSpec.upto matchOverSpec)

/-- 'hasplaw.MatchTrue', WHERE WHAT IT READS IS OF BULK AT MOST 1048576: true; the input reads as it did. -/
def matchTrueUptoRow : OpenClaim := { program := "ytloealnfbpegnab", sum := "aad7ebb7c1df5d4e4b49ea347fd079ced7c03b514922a543d0b05758c7687bd0", func := "hasp/hasplaw.MatchTrue", spec := "matchTrue", unfollowed := true, recurses := true, apart := false, narrowed := true }
def MatchTrueUptoSaid : Prop := matchTrueUptoRow.holds Try.pinned (OpenSpec.upto matchTrueSpec)

/-- 'hasplaw.UnifyMeets', WHERE WHAT IT READS IS OF BULK AT MOST 1048576: true; the input reads as it did. -/
def unifyMeetsUptoRow : OpenClaim := { program := "ytloealnfbpegnab", sum := "aad7ebb7c1df5d4e4b49ea347fd079ced7c03b514922a543d0b05758c7687bd0", func := "hasp/hasplaw.UnifyMeets", spec := "unifyMeets", unfollowed := true, recurses := true, apart := false, narrowed := true }
def UnifyMeetsUptoSaid : Prop := unifyMeetsUptoRow.holds Try.pinned (OpenSpec.upto unifyMeetsSpec)

/-- 'hasplaw.UnifyAll', WHERE WHAT IT READS IS OF BULK AT MOST 1048576: true; the input reads as it did. -/
def unifyAllUptoRow : OpenClaim := { program := "ytloealnfbpegnab", sum := "aad7ebb7c1df5d4e4b49ea347fd079ced7c03b514922a543d0b05758c7687bd0", func := "hasp/hasplaw.UnifyAll", spec := "unifyAll", unfollowed := true, recurses := true, apart := false, narrowed := true }
def UnifyAllUptoSaid : Prop := unifyAllUptoRow.holds Try.pinned (OpenSpec.upto unifyAllSpec)

/-- 'hasplaw.UnifyTrue', WHERE WHAT IT READS IS OF BULK AT MOST 1048576: true; the input reads as it did. -/
def unifyTrueUptoRow : OpenClaim := { program := "ytloealnfbpegnab", sum := "aad7ebb7c1df5d4e4b49ea347fd079ced7c03b514922a543d0b05758c7687bd0", func := "hasp/hasplaw.UnifyTrue", spec := "unifyTrue", unfollowed := true, recurses := true, apart := false, narrowed := true }
def UnifyTrueUptoSaid : Prop := unifyTrueUptoRow.holds Try.pinned (OpenSpec.upto unifyTrueSpec)

end Rows
end Go.Proofs.Ytloealnfbpegnab
