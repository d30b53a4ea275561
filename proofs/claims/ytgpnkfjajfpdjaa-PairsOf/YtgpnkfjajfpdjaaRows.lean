/-
  No cell of these rows narrows 'for every input' (looked for: loops, veiled, ifaces, maps, wideKeys, modest, calm, conditions, laid).
  DERIVED. THE GIVEN ROWS OF THIS SEAT. 5 by the template 'for every input the law returns true; each argument reads behind the call as it read before'; 0 by the template 'total and deterministic' (their statements: YtgpnkfjajfpdjaaTotals.lean).
  GIVEN WITH THE SEED: the statements are not yours to turn. If you find one false, say at which input.
  Laid BY PROGRAM, IN A SANDBOX (cutbox-rows.mjs): the forced cells as the released guide's own fill.sh prints them over the translation d8cd97b76c9646dd… (all of the seat's roots in one cut). By AI agents, Wed Nov 11 2026. No macro, syntax, notation, axiom, sorry.
-/
import Derived.Test.YtgpnkfjajfpdjaaChecked
import GoSem.Claim
import GoSem.ClaimJoined
import GoSem.ClaimMapViews
import Derived.JoinedTies
import Derived.KernelRfl
namespace Go.Proofs.Ytgpnkfjajfpdjaa
/- THE CELL 'sum', in the pinned program and in every row, IS THE sha256 OF THE DUMP (.gsa) THAT YtgpnkfjajfpdjaaProg.lean LOADS. Nothing in Lean hashes anything: it is a label: what it is worth is what the hold of that sum in a sandbox is worth. -/
noncomputable def Try.pinned : Pinned := { name := "ytgpnkfjajfpdjaa", sum := "d8cd97b76c9646dd87ef09ac5a81fed5793081227d12b1de8a29c074fc20df67", checked := Try.checked }
namespace Rows
def none {H : Type} : Left H := { results := [], args := [] }

/-- 'hasplaw.NormBelow': WHATEVER THE INPUT: true; the input reads as it did. -/
def normBelowSpec : ChangeSpec := { name := "normBelow", fn := fun _ => fun
  | [d1, d2, d3] => { results := [.lit (.bool true)], args := [d1, d2, d3] }
  | _ => none }
def normBelowRow : OpenClaim := { program := "ytgpnkfjajfpdjaa", sum := "d8cd97b76c9646dd87ef09ac5a81fed5793081227d12b1de8a29c074fc20df67", func := "hasp/hasplaw.NormBelow", spec := "normBelow", unfollowed := true, recurses := true, plainKeys := false, apart := false }
def NormBelowSaid : Prop := normBelowRow.holds Try.pinned (OpenSpec.ofChange normBelowSpec)

/-- ITS FALSE NEIGHBOUR: 'it returns false'. Refute it at one input. -/
def normBelowWrong : ChangeSpec := { name := "normBelow", fn := fun _ => fun
  | [d1, d2, d3] => { results := [.lit (.bool false)], args := [d1, d2, d3] }
  | _ => none }
def NormBelowWrongFalsely : Prop := normBelowRow.holds Try.pinned (OpenSpec.ofChange normBelowWrong)

/-- 'hasplaw.PairsOf': WHATEVER THE INPUT: true; the input reads as it did. -/
def pairsOfSpec : ChangeSpec := { name := "pairsOf", fn := fun _ => fun
  | [d1, d2, d3] => { results := [.lit (.bool true)], args := [d1, d2, d3] }
  | _ => none }
def pairsOfRow : OpenClaim := { program := "ytgpnkfjajfpdjaa", sum := "d8cd97b76c9646dd87ef09ac5a81fed5793081227d12b1de8a29c074fc20df67", func := "hasp/hasplaw.PairsOf", spec := "pairsOf", unfollowed := true, recurses := true, plainKeys := false, apart := false }
def PairsOfSaid : Prop := pairsOfRow.holds Try.pinned (OpenSpec.ofChange pairsOfSpec)

/-- ITS FALSE NEIGHBOUR: 'it returns false'. Refute it at one input. -/
def pairsOfWrong : ChangeSpec := { name := "pairsOf", fn := fun _ => fun
  | [d1, d2, d3] => { results := [.lit (.bool false)], args := [d1, d2, d3] }
  | _ => none }
def PairsOfWrongFalsely : Prop := pairsOfRow.holds Try.pinned (OpenSpec.ofChange pairsOfWrong)

/-- 'hasplaw.PairsAll': WHATEVER THE INPUT: true; the input reads as it did. -/
def pairsAllSpec : ChangeSpec := { name := "pairsAll", fn := fun _ => fun
  | [d] => { results := [.lit (.bool true)], args := [d] }
  | _ => none }
def pairsAllRow : OpenClaim := { program := "ytgpnkfjajfpdjaa", sum := "d8cd97b76c9646dd87ef09ac5a81fed5793081227d12b1de8a29c074fc20df67", func := "hasp/hasplaw.PairsAll", spec := "pairsAll", unfollowed := true, recurses := true, plainKeys := false, apart := false }
def PairsAllSaid : Prop := pairsAllRow.holds Try.pinned (OpenSpec.ofChange pairsAllSpec)

/-- ITS FALSE NEIGHBOUR: 'it returns false'. Refute it at one input. -/
def pairsAllWrong : ChangeSpec := { name := "pairsAll", fn := fun _ => fun
  | [d] => { results := [.lit (.bool false)], args := [d] }
  | _ => none }
def PairsAllWrongFalsely : Prop := pairsAllRow.holds Try.pinned (OpenSpec.ofChange pairsAllWrong)

/-- 'hasplaw.PairsModel': WHATEVER THE INPUT: true; the input reads as it did. -/
def pairsModelSpec : ChangeSpec := { name := "pairsModel", fn := fun _ => fun
  | [d1, d2, d3, d4] => { results := [.lit (.bool true)], args := [d1, d2, d3, d4] }
  | _ => none }
def pairsModelRow : OpenClaim := { program := "ytgpnkfjajfpdjaa", sum := "d8cd97b76c9646dd87ef09ac5a81fed5793081227d12b1de8a29c074fc20df67", func := "hasp/hasplaw.PairsModel", spec := "pairsModel", unfollowed := true, recurses := true, plainKeys := false, apart := false }
def PairsModelSaid : Prop := pairsModelRow.holds Try.pinned (OpenSpec.ofChange pairsModelSpec)

/-- ITS FALSE NEIGHBOUR: 'it returns false'. Refute it at one input. -/
def pairsModelWrong : ChangeSpec := { name := "pairsModel", fn := fun _ => fun
  | [d1, d2, d3, d4] => { results := [.lit (.bool false)], args := [d1, d2, d3, d4] }
  | _ => none }
def PairsModelWrongFalsely : Prop := pairsModelRow.holds Try.pinned (OpenSpec.ofChange pairsModelWrong)

/-- 'hasplaw.JoinTells': WHATEVER THE INPUT: true; the input reads as it did. -/
def joinTellsSpec : ChangeSpec := { name := "joinTells", fn := fun _ => fun
  | [d1, d2] => { results := [.lit (.bool true)], args := [d1, d2] }
  | _ => none }
def joinTellsRow : OpenClaim := { program := "ytgpnkfjajfpdjaa", sum := "d8cd97b76c9646dd87ef09ac5a81fed5793081227d12b1de8a29c074fc20df67", func := "hasp/hasplaw.JoinTells", spec := "joinTells", unfollowed := true, recurses := true, plainKeys := false, apart := false }
def JoinTellsSaid : Prop := joinTellsRow.holds Try.pinned (OpenSpec.ofChange joinTellsSpec)

/-- ITS FALSE NEIGHBOUR: 'it returns false'. Refute it at one input. -/
def joinTellsWrong : ChangeSpec := { name := "joinTells", fn := fun _ => fun
  | [d1, d2] => { results := [.lit (.bool false)], args := [d1, d2] }
  | _ => none }
def JoinTellsWrongFalsely : Prop := joinTellsRow.holds Try.pinned (OpenSpec.ofChange joinTellsWrong)

/- THE SECOND FORM. 'bulk': how many values and letters a reading holds, each counted each time it is reached (what is shared counts as often as it is met; a slice's spare places count too). A statement '..UptoSaid' is the law's where the arguments, and the package variables that the reading takes, are together of bulk at most 1048576: NARROWER than '..Said'. Prove '..Said' where nothing that the law and all that it calls make is longer than what came in: it says more and counts as full. Else prove '..UptoSaid'. A law counts once. -/
mutual
def uptoBulk {H : Type} : DataW H → Nat
  | .lit (.string bytes) => bytes.length + 1
  | .lit _ => 1
  | .nil => 1
  | .ptr d => uptoBulk d + 1
  | .slice elems spare => uptoBulkAll elems + uptoBulkAll spare + 1
  | .agg parts => uptoBulkAll parts + 1
  | .iface _ d => uptoBulk d + 1
  | .map entries => uptoBulkEntries entries + 1
  | .held _ => 1
def uptoBulkAll {H : Type} : List (DataW H) → Nat
  | [] => 0
  | d :: r => uptoBulk d + uptoBulkAll r
def uptoBulkEntries {H : Type} : List (Lit × DataW H) → Nat
  | [] => 0
  | x :: r => uptoBulkEntry x + uptoBulkEntries r
def uptoBulkEntry {H : Type} : Lit × DataW H → Nat
  | (.string bytes, d) => bytes.length + uptoBulk d + 1
  | (_, d) => uptoBulk d + 1
 end
def uptoSmall : (H : Type) → List (DataW H) → Bool := fun _ ds => decide (uptoBulkAll ds ≤ 1048576)
def OpenSpec.upto (s : _root_.Go.ChangeSpec) : _root_.Go.OpenSpec := { _root_.Go.OpenSpec.ofChange s with cond := some uptoSmall }

/-- 'hasplaw.NormBelow', WHERE WHAT IT READS IS OF BULK AT MOST 1048576: true; the input reads as it did. -/
def normBelowUptoRow : OpenClaim := { program := "ytgpnkfjajfpdjaa", sum := "d8cd97b76c9646dd87ef09ac5a81fed5793081227d12b1de8a29c074fc20df67", func := "hasp/hasplaw.NormBelow", spec := "normBelow", unfollowed := true, recurses := true, plainKeys := false, apart := false, narrowed := true }
def NormBelowUptoSaid : Prop := normBelowUptoRow.holds Try.pinned (OpenSpec.upto normBelowSpec)

/-- 'hasplaw.PairsOf', WHERE WHAT IT READS IS OF BULK AT MOST 1048576: true; the input reads as it did. -/
def pairsOfUptoRow : OpenClaim := { program := "ytgpnkfjajfpdjaa", sum := "d8cd97b76c9646dd87ef09ac5a81fed5793081227d12b1de8a29c074fc20df67", func := "hasp/hasplaw.PairsOf", spec := "pairsOf", unfollowed := true, recurses := true, plainKeys := false, apart := false, narrowed := true }
def PairsOfUptoSaid : Prop := pairsOfUptoRow.holds Try.pinned (OpenSpec.upto pairsOfSpec)

/-- 'hasplaw.PairsAll', WHERE WHAT IT READS IS OF BULK AT MOST 1048576: true; the input reads as it did. -/
def pairsAllUptoRow : OpenClaim := { program := "ytgpnkfjajfpdjaa", sum := "d8cd97b76c9646dd87ef09ac5a81fed5793081227d12b1de8a29c074fc20df67", func := "hasp/hasplaw.PairsAll", spec := "pairsAll", unfollowed := true, recurses := true, plainKeys := false, apart := false, narrowed := true }
def PairsAllUptoSaid : Prop := pairsAllUptoRow.holds Try.pinned (OpenSpec.upto pairsAllSpec)

/-- 'hasplaw.PairsModel', WHERE WHAT IT READS IS OF BULK AT MOST 1048576: true; the input reads as it did. -/
def pairsModelUptoRow : OpenClaim := { program := "ytgpnkfjajfpdjaa", sum := "d8cd97b76c9646dd87ef09ac5a81fed5793081227d12b1de8a29c074fc20df67", func := "hasp/hasplaw.PairsModel", spec := "pairsModel", unfollowed := true, recurses := true, plainKeys := false, apart := false, narrowed := true }
def PairsModelUptoSaid : Prop := pairsModelUptoRow.holds Try.pinned (OpenSpec.upto pairsModelSpec)

/-- 'hasplaw.JoinTells', WHERE WHAT IT READS IS OF BULK AT MOST 1048576: true; the input reads as it did. -/
def joinTellsUptoRow : OpenClaim := { program := "ytgpnkfjajfpdjaa", sum := "d8cd97b76c9646dd87ef09ac5a81fed5793081227d12b1de8a29c074fc20df67", func := "hasp/hasplaw.JoinTells", spec := "joinTells", unfollowed := true, recurses := true, plainKeys := false, apart := false, narrowed := true }
def JoinTellsUptoSaid : Prop := joinTellsUptoRow.holds Try.pinned (OpenSpec.upto joinTellsSpec)

end Rows
end Go.Proofs.Ytgpnkfjajfpdjaa
