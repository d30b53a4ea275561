/-
  No cell of these rows narrows 'for every input' (looked for: loops, veiled, ifaces, maps, wideKeys, modest, calm, conditions, laid).
  DERIVED. THE GIVEN ROWS OF THIS SEAT. 11 by the template 'for every input the law returns true; each argument reads behind the call as it read before'; 0 by the template 'total and deterministic' (their statements: YtbelnlemjcoifaaTotals.lean).
  GIVEN WITH THE SEED: the statements are not yours to turn. If you find one false, say at which input.
  Laid BY PROGRAM, IN A SANDBOX (cutbox-rows.mjs): the forced cells as the released guide's own fill.sh prints them over the translation 0514d75f2a8a5349… (all of the seat's roots in one cut). By AI agents, Wed Nov 11 2026. No macro, syntax, notation, axiom, sorry.
-/
import Derived.Test.YtbelnlemjcoifaaChecked
import GoSem.Claim
import GoSem.ClaimJoined
import GoSem.ClaimMapViews
import Derived.JoinedTies
import Derived.KernelRfl
namespace Go.Proofs.Ytbelnlemjcoifaa
/- THE CELL 'sum', in the pinned program and in every row, IS THE sha256 OF THE DUMP (.gsa) THAT YtbelnlemjcoifaaProg.lean LOADS. Nothing in Lean hashes anything: it is a label: what it is worth is what the hold of that sum in a sandbox is worth. -/
noncomputable def Try.pinned : Pinned := { name := "ytbelnlemjcoifaa", sum := "0514d75f2a8a5349ef117d36085c22c27060d358755a4fa37aa63f4165aa8ff2", checked := Try.checked }
namespace Rows
def none {H : Type} : Left H := { results := [], args := [] }

/-- 'hasplaw.TermTells': WHATEVER THE INPUT: true; the input reads as it did. -/
def termTellsSpec : ChangeSpec := { name := "termTells", fn := fun _ => fun
  | [d1, d2] => { results := [.lit (.bool true)], args := [d1, d2] }
  | _ => none }
def termTellsRow : OpenClaim := { program := "ytbelnlemjcoifaa", sum := "0514d75f2a8a5349ef117d36085c22c27060d358755a4fa37aa63f4165aa8ff2", func := "hasp/hasplaw.TermTells", spec := "termTells", unfollowed := true, recurses := true, apart := false }
def TermTellsSaid : Prop := termTellsRow.holds Try.pinned (OpenSpec.ofChange termTellsSpec)

/-- ITS FALSE NEIGHBOUR: 'it returns false'. Refute it at one input. -/
def termTellsWrong : ChangeSpec := { name := "termTells", fn := fun _ => fun
  | [d1, d2] => { results := [.lit (.bool false)], args := [d1, d2] }
  | _ => none }
def TermTellsWrongFalsely : Prop := termTellsRow.holds Try.pinned (OpenSpec.ofChange termTellsWrong)

/-- 'hasplaw.TermPuts': WHATEVER THE INPUT: true; the input reads as it did. -/
def termPutsSpec : ChangeSpec := { name := "termPuts", fn := fun _ => fun
  | [d1, d2, d3] => { results := [.lit (.bool true)], args := [d1, d2, d3] }
  | _ => none }
def termPutsRow : OpenClaim := { program := "ytbelnlemjcoifaa", sum := "0514d75f2a8a5349ef117d36085c22c27060d358755a4fa37aa63f4165aa8ff2", func := "hasp/hasplaw.TermPuts", spec := "termPuts", unfollowed := true, recurses := true, apart := false }
def TermPutsSaid : Prop := termPutsRow.holds Try.pinned (OpenSpec.ofChange termPutsSpec)

/-- ITS FALSE NEIGHBOUR: 'it returns false'. Refute it at one input. -/
def termPutsWrong : ChangeSpec := { name := "termPuts", fn := fun _ => fun
  | [d1, d2, d3] => { results := [.lit (.bool false)], args := [d1, d2, d3] }
  | _ => none }
def TermPutsWrongFalsely : Prop := termPutsRow.holds Try.pinned (OpenSpec.ofChange termPutsWrong)

/-- 'hasplaw.TermTrue': WHATEVER THE INPUT: true; the input reads as it did. -/
def termTrueSpec : ChangeSpec := { name := "termTrue", fn := fun _ => fun
  | [d1, d2, d3] => { results := [.lit (.bool true)], args := [d1, d2, d3] }
  | _ => none }
def termTrueRow : OpenClaim := { program := "ytbelnlemjcoifaa", sum := "0514d75f2a8a5349ef117d36085c22c27060d358755a4fa37aa63f4165aa8ff2", func := "hasp/hasplaw.TermTrue", spec := "termTrue", unfollowed := true, recurses := true, apart := false }
def TermTrueSaid : Prop := termTrueRow.holds Try.pinned (OpenSpec.ofChange termTrueSpec)

/-- ITS FALSE NEIGHBOUR: 'it returns false'. Refute it at one input. -/
def termTrueWrong : ChangeSpec := { name := "termTrue", fn := fun _ => fun
  | [d1, d2, d3] => { results := [.lit (.bool false)], args := [d1, d2, d3] }
  | _ => none }
def TermTrueWrongFalsely : Prop := termTrueRow.holds Try.pinned (OpenSpec.ofChange termTrueWrong)

/-- 'hasplaw.SubTells': WHATEVER THE INPUT: true; the input reads as it did. -/
def subTellsSpec : ChangeSpec := { name := "subTells", fn := fun _ => fun
  | [d1, d2] => { results := [.lit (.bool true)], args := [d1, d2] }
  | _ => none }
def subTellsRow : OpenClaim := { program := "ytbelnlemjcoifaa", sum := "0514d75f2a8a5349ef117d36085c22c27060d358755a4fa37aa63f4165aa8ff2", func := "hasp/hasplaw.SubTells", spec := "subTells", unfollowed := true, recurses := true, apart := false }
def SubTellsSaid : Prop := subTellsRow.holds Try.pinned (OpenSpec.ofChange subTellsSpec)

/-- ITS FALSE NEIGHBOUR: 'it returns false'. Refute it at one input. -/
def subTellsWrong : ChangeSpec := { name := "subTells", fn := fun _ => fun
  | [d1, d2] => { results := [.lit (.bool false)], args := [d1, d2] }
  | _ => none }
def SubTellsWrongFalsely : Prop := subTellsRow.holds Try.pinned (OpenSpec.ofChange subTellsWrong)

/-- 'hasplaw.SubAfter': WHATEVER THE INPUT: true; the input reads as it did. -/
def subAfterSpec : ChangeSpec := { name := "subAfter", fn := fun _ => fun
  | [d1, d2, d3] => { results := [.lit (.bool true)], args := [d1, d2, d3] }
  | _ => none }
def subAfterRow : OpenClaim := { program := "ytbelnlemjcoifaa", sum := "0514d75f2a8a5349ef117d36085c22c27060d358755a4fa37aa63f4165aa8ff2", func := "hasp/hasplaw.SubAfter", spec := "subAfter", unfollowed := true, recurses := true, apart := false }
def SubAfterSaid : Prop := subAfterRow.holds Try.pinned (OpenSpec.ofChange subAfterSpec)

/-- ITS FALSE NEIGHBOUR: 'it returns false'. Refute it at one input. -/
def subAfterWrong : ChangeSpec := { name := "subAfter", fn := fun _ => fun
  | [d1, d2, d3] => { results := [.lit (.bool false)], args := [d1, d2, d3] }
  | _ => none }
def SubAfterWrongFalsely : Prop := subAfterRow.holds Try.pinned (OpenSpec.ofChange subAfterWrong)

/-- 'hasplaw.SubTrue': WHATEVER THE INPUT: true; the input reads as it did. -/
def subTrueSpec : ChangeSpec := { name := "subTrue", fn := fun _ => fun
  | [d1, d2, d3] => { results := [.lit (.bool true)], args := [d1, d2, d3] }
  | _ => none }
def subTrueRow : OpenClaim := { program := "ytbelnlemjcoifaa", sum := "0514d75f2a8a5349ef117d36085c22c27060d358755a4fa37aa63f4165aa8ff2", func := "hasp/hasplaw.SubTrue", spec := "subTrue", unfollowed := true, recurses := true, apart := false }
def SubTrueSaid : Prop := subTrueRow.holds Try.pinned (OpenSpec.ofChange subTrueSpec)

/-- ITS FALSE NEIGHBOUR: 'it returns false'. Refute it at one input. -/
def subTrueWrong : ChangeSpec := { name := "subTrue", fn := fun _ => fun
  | [d1, d2, d3] => { results := [.lit (.bool false)], args := [d1, d2, d3] }
  | _ => none }
def SubTrueWrongFalsely : Prop := subTrueRow.holds Try.pinned (OpenSpec.ofChange subTrueWrong)

/-- 'hasplaw.MatchTells': WHATEVER THE INPUT: true; the input reads as it did. -/
def matchTellsSpec : ChangeSpec := { name := "matchTells", fn := fun _ => fun
  | [d1, d2] => { results := [.lit (.bool true)], args := [d1, d2] }
  | _ => none }
def matchTellsRow : OpenClaim := { program := "ytbelnlemjcoifaa", sum := "0514d75f2a8a5349ef117d36085c22c27060d358755a4fa37aa63f4165aa8ff2", func := "hasp/hasplaw.MatchTells", spec := "matchTells", unfollowed := true, recurses := true, apart := false }
def MatchTellsSaid : Prop := matchTellsRow.holds Try.pinned (OpenSpec.ofChange matchTellsSpec)

/-- ITS FALSE NEIGHBOUR: 'it returns false'. Refute it at one input. -/
def matchTellsWrong : ChangeSpec := { name := "matchTells", fn := fun _ => fun
  | [d1, d2] => { results := [.lit (.bool false)], args := [d1, d2] }
  | _ => none }
def MatchTellsWrongFalsely : Prop := matchTellsRow.holds Try.pinned (OpenSpec.ofChange matchTellsWrong)

/-- 'hasplaw.MatchOver': WHATEVER THE INPUT: true; the input reads as it did. -/
def matchOverSpec : ChangeSpec := { name := "matchOver", fn := fun _ => fun
  | [d1, d2] => { results := [.lit (.bool true)], args := [d1, d2] }
  | _ => none }
def matchOverRow : OpenClaim := { program := "ytbelnlemjcoifaa", sum := "0514d75f2a8a5349ef117d36085c22c27060d358755a4fa37aa63f4165aa8ff2", func := "hasp/hasplaw.MatchOver", spec := "matchOver", unfollowed := true, recurses := true, apart := false }
def MatchOverSaid : Prop := matchOverRow.holds Try.pinned (OpenSpec.ofChange matchOverSpec)

/-- ITS FALSE NEIGHBOUR: 'it returns false'. Refute it at one input. -/
def matchOverWrong : ChangeSpec := { name := "matchOver", fn := fun _ => fun
  | [d1, d2] => { results := [.lit (.bool false)], args := [d1, d2] }
  | _ => none }
def MatchOverWrongFalsely : Prop := matchOverRow.holds Try.pinned (OpenSpec.ofChange matchOverWrong)

/-- 'hasplaw.MatchTrue': WHATEVER THE INPUT: true; the input reads as it did. -/
def matchTrueSpec : ChangeSpec := { name := "matchTrue", fn := fun _ => fun
  | [d1, d2, d3] => { results := [.lit (.bool true)], args := [d1, d2, d3] }
  | _ => none }
def matchTrueRow : OpenClaim := { program := "ytbelnlemjcoifaa", sum := "0514d75f2a8a5349ef117d36085c22c27060d358755a4fa37aa63f4165aa8ff2", func := "hasp/hasplaw.MatchTrue", spec := "matchTrue", unfollowed := true, recurses := true, apart := false }
def MatchTrueSaid : Prop := matchTrueRow.holds Try.pinned (OpenSpec.ofChange matchTrueSpec)

/-- ITS FALSE NEIGHBOUR: 'it returns false'. Refute it at one input. -/
def matchTrueWrong : ChangeSpec := { name := "matchTrue", fn := fun _ => fun
  | [d1, d2, d3] => { results := [.lit (.bool false)], args := [d1, d2, d3] }
  | _ => none }
def MatchTrueWrongFalsely : Prop := matchTrueRow.holds Try.pinned (OpenSpec.ofChange matchTrueWrong)

/-- 'hasplaw.UnifyTrue': WHATEVER THE INPUT: true; the input reads as it did. -/
def unifyTrueSpec : ChangeSpec := { name := "unifyTrue", fn := fun _ => fun
  | [d1, d2] => { results := [.lit (.bool true)], args := [d1, d2] }
  | _ => none }
def unifyTrueRow : OpenClaim := { program := "ytbelnlemjcoifaa", sum := "0514d75f2a8a5349ef117d36085c22c27060d358755a4fa37aa63f4165aa8ff2", func := "hasp/hasplaw.UnifyTrue", spec := "unifyTrue", unfollowed := true, recurses := true, apart := false }
def UnifyTrueSaid : Prop := unifyTrueRow.holds Try.pinned (OpenSpec.ofChange unifyTrueSpec)

/-- ITS FALSE NEIGHBOUR: 'it returns false'. Refute it at one input. -/
def unifyTrueWrong : ChangeSpec := { name := "unifyTrue", fn := fun _ => fun
  | [d1, d2] => { results := [.lit (.bool false)], args := [d1, d2] }
  | _ => none }
def UnifyTrueWrongFalsely : Prop := unifyTrueRow.holds Try.pinned (OpenSpec.ofChange unifyTrueWrong)

/-- 'hasplaw.UnifyMost': WHATEVER THE INPUT: true; the input reads as it did. -/
def unifyMostSpec : ChangeSpec := { name := "unifyMost", fn := fun _ => fun
  | [d1, d2, d3] => { results := [.lit (.bool true)], args := [d1, d2, d3] }
  | _ => none }
def unifyMostRow : OpenClaim := { program := "ytbelnlemjcoifaa", sum := "0514d75f2a8a5349ef117d36085c22c27060d358755a4fa37aa63f4165aa8ff2", func := "hasp/hasplaw.UnifyMost", spec := "unifyMost", unfollowed := true, recurses := true, apart := false }
def UnifyMostSaid : Prop := unifyMostRow.holds Try.pinned (OpenSpec.ofChange unifyMostSpec)

/-- ITS FALSE NEIGHBOUR: 'it returns false'. Refute it at one input. -/
def unifyMostWrong : ChangeSpec := { name := "unifyMost", fn := fun _ => fun
  | [d1, d2, d3] => { results := [.lit (.bool false)], args := [d1, d2, d3] }
  | _ => none }
def UnifyMostWrongFalsely : Prop := unifyMostRow.holds Try.pinned (OpenSpec.ofChange unifyMostWrong)

/- THE SECOND FORM. 'bulk': how many values and letters a reading holds, each counted each time it is reached (what is shared counts as often as it is met; a slice's spare places count too). A statement '..UptoSaid' is the law's where the arguments, and the package variables that the reading takes, are together of bulk at most 1048576: NARROWER than '..Said'. Prove '..Said' where nothing that the law and all that it calls make is longer than what came in: it says more and counts as full. Else prove '..UptoSaid'. A law counts once. -/
mutual
def uptoBulk {H : Type} : DataW H → Nat
  | .lit (.string bytes) => bytes.length + 1
  | .lit _ => 1
  | .nil => 1
  | .ptr d => uptoBulk d + 1
  | .slice elems spare => uptoBulkAll elems + uptoBulkAll spare + 1
  | .agg parts => uptoBulkAll parts + 1
  | .iface _ d => uptoBulk d + 1
  | .map entries => uptoBulkEntries entries + 1
  | .held _ => 1
def uptoBulkAll {H : Type} : List (DataW H) → Nat
  | [] => 0
  | d :: r => uptoBulk d + uptoBulkAll r
def uptoBulkEntries {H : Type} : List (Lit × DataW H) → Nat
  | [] => 0
  | x :: r => uptoBulkEntry x + uptoBulkEntries r
def uptoBulkEntry {H : Type} : Lit × DataW H → Nat
  | (.string bytes, d) => bytes.length + uptoBulk d + 1
  | (_, d) => uptoBulk d + 1
 end
def uptoSmall : (H : Type) → List (DataW H) → Bool := fun _ ds => decide (uptoBulkAll ds ≤ 1048576)
def OpenSpec.upto (s : _root_.Go.ChangeSpec) : _root_.Go.OpenSpec := { _root_.Go.OpenSpec.ofChange s with cond := some uptoSmall }

/-- 'hasplaw.TermTells', WHERE WHAT IT READS IS OF BULK AT MOST 1048576: true; the input reads as it did. -/
def termTellsUptoRow : OpenClaim := { program := "ytbelnlemjcoifaa", sum := "0514d75f2a8a5349ef117d36085c22c27060d358755a4fa37aa63f4165aa8ff2", func := "hasp/hasplaw.TermTells", spec := "termTells", unfollowed := true, recurses := true, apart := false, narrowed := true }
def TermTellsUptoSaid : Prop := termTellsUptoRow.holds Try.pinned (OpenSpec.upto termTellsSpec)

/-- 'hasplaw.TermPuts', WHERE WHAT IT READS IS OF BULK AT MOST 1048576: true; the input reads as it did. -/
def termPutsUptoRow : OpenClaim := { program := "ytbelnlemjcoifaa", sum := "0514d75f2a8a5349ef117d36085c22c27060d358755a4fa37aa63f4165aa8ff2", func := "hasp/hasplaw.TermPuts", spec := "termPuts", unfollowed := true, recurses := true, apart := false, narrowed := true }
def TermPutsUptoSaid : Prop := termPutsUptoRow.holds Try.pinned (OpenSpec.upto termPutsSpec)

/-- 'hasplaw.TermTrue', WHERE WHAT IT READS IS OF BULK AT MOST 1048576: true; the input reads as it did. -/
def termTrueUptoRow : OpenClaim := { program := "ytbelnlemjcoifaa", sum := "0514d75f2a8a5349ef117d36085c22c27060d358755a4fa37aa63f4165aa8ff2", func := "hasp/hasplaw.TermTrue", spec := "termTrue", unfollowed := true, recurses := true, apart := false, narrowed := true }
def TermTrueUptoSaid : Prop := termTrueUptoRow.holds Try.pinned (OpenSpec.upto termTrueSpec)

/-- 'hasplaw.SubTells', WHERE WHAT IT READS IS OF BULK AT MOST 1048576: true; the input reads as it did. -/
def subTellsUptoRow : OpenClaim := { program := "ytbelnlemjcoifaa", sum := "0514d75f2a8a5349ef117d36085c22c27060d358755a4fa37aa63f4165aa8ff2", func := "hasp/hasplaw.SubTells", spec := "subTells", unfollowed := true, recurses := true, apart := false, narrowed := true }
def SubTellsUptoSaid : Prop := subTellsUptoRow.holds Try.pinned (OpenSpec.upto subTellsSpec)

/-- 'hasplaw.SubAfter', WHERE WHAT IT READS IS OF BULK AT MOST 1048576: true; the input reads as it did. -/
def subAfterUptoRow : OpenClaim := { program := "ytbelnlemjcoifaa", sum := "0514d75f2a8a5349ef117d36085c22c27060d358755a4fa37aa63f4165aa8ff2", func := "hasp/hasplaw.SubAfter", spec := "subAfter", unfollowed := true, recurses := true, apart := false, narrowed := true }
def SubAfterUptoSaid : Prop := subAfterUptoRow.holds Try.pinned (OpenSpec.upto subAfterSpec)

/-- 'hasplaw.SubTrue', WHERE WHAT IT READS IS OF BULK AT MOST 1048576: true; the input reads as it did. -/
def subTrueUptoRow : OpenClaim := { program := "ytbelnlemjcoifaa", sum := "0514d75f2a8a5349ef117d36085c22c27060d358755a4fa37aa63f4165aa8ff2", func := "hasp/hasplaw.SubTrue", spec := "subTrue", unfollowed := true, recurses := true, apart := false, narrowed := true }
def SubTrueUptoSaid : Prop := subTrueUptoRow.holds Try.pinned (OpenSpec.upto subTrueSpec)

/-- 'hasplaw.MatchTells', WHERE WHAT IT READS IS OF BULK AT MOST 1048576: true; the input reads as it did. -/
def matchTellsUptoRow : OpenClaim := { program := "ytbelnlemjcoifaa", sum := "0514d75f2a8a5349ef117d36085c22c27060d358755a4fa37aa63f4165aa8ff2", func := "hasp/hasplaw.MatchTells", spec := "matchTells", unfollowed := true, recurses := true, apart := false, narrowed := true }
def MatchTellsUptoSaid : Prop := matchTellsUptoRow.holds Try.pinned (OpenSpec.upto matchTellsSpec)

/-- 'hasplaw.MatchOver', WHERE WHAT IT READS IS OF BULK AT MOST 1048576: true; the input reads as it did. -/
def matchOverUptoRow : OpenClaim := { program := "ytbelnlemjcoifaa", sum := "0514d75f2a8a5349ef117d36085c22c27060d358755a4fa37aa63f4165aa8ff2", func := "hasp/hasplaw.MatchOver", spec := "matchOver", unfollowed := true, recurses := true, apart := false, narrowed := true }
def MatchOverUptoSaid : Prop := matchOverUptoRow.holds Try.pinned (OpenSpec.upto matchOverSpec)

/-- 'hasplaw.MatchTrue', WHERE WHAT IT READS IS OF BULK AT MOST 1048576: true; the input reads as it did. -/
def matchTrueUptoRow : OpenClaim := { program := "ytbelnlemjcoifaa", sum := "0514d75f2a8a5349ef117d36085c22c27060d358755a4fa37aa63f4165aa8ff2", func := "hasp/hasplaw.MatchTrue", spec := "matchTrue", unfollowed := true, recurses := true, apart := false, narrowed := true }
def MatchTrueUptoSaid : Prop := matchTrueUptoRow.holds Try.pinned (OpenSpec.upto matchTrueSpec)

/-- 'hasplaw.UnifyTrue', WHERE WHAT IT READS IS OF BULK AT MOST 1048576: true; the input reads as it did. -/
def unifyTrueUptoRow : OpenClaim := { program := "ytbelnlemjcoifaa", sum := "0514d75f2a8a5349ef117d36085c22c27060d358755a4fa37aa63f4165aa8ff2", func := "hasp/hasplaw.UnifyTrue", spec := "unifyTrue", unfollowed := true, recurses := true, apart := false, narrowed := true }
def UnifyTrueUptoSaid : Prop := unifyTrueUptoRow.holds Try.pinned (OpenSpec.upto unifyTrueSpec)

/-- 'hasplaw.UnifyMost', WHERE WHAT IT READS IS OF BULK AT MOST 1048576: true; the input reads as it did. -/
def unifyMostUptoRow : OpenClaim := { program := "ytbelnlemjcoifaa", sum := "0514d75f2a8a5349ef117d36085c22c27060d358755a4fa37aa63f4165aa8ff2", func := "hasp/hasplaw.UnifyMost", spec := "unifyMost", unfollowed := true, recurses := true, apart := false, narrowed := true }
def UnifyMostUptoSaid : Prop := unifyMostUptoRow.holds Try.pinned (OpenSpec.upto unifyMostSpec)

end Rows
end Go.Proofs.Ytbelnlemjcoifaa
