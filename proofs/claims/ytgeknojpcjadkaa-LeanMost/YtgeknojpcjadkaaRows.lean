/-
  No cell of these rows narrows 'for every input' (looked for: loops, veiled, ifaces, maps, wideKeys, modest, calm, conditions, laid).
  DERIVED. THE GIVEN ROWS OF THIS SEAT. 9 by the template 'for every input the law returns true; each argument reads behind the call as it read before'; 0 by the template 'total and deterministic' (their statements: YtgeknojpcjadkaaTotals.lean).
  GIVEN WITH THE SEED: the statements are not yours to turn. If you find one false, say at which input.
  Laid BY PROGRAM, IN A SANDBOX (cutbox-rows.mjs): the forced cells as the released guide's own fill.sh prints them over the translation 6aecb8401cc6b060… (all of the seat's roots in one cut). By AI agents, Wed Nov 11 2026. No macro, syntax, notation, axiom, sorry.
-/
import Derived.Test.YtgeknojpcjadkaaChecked
import GoSem.Claim
import GoSem.ClaimJoined
import GoSem.ClaimMapViews
import Derived.JoinedTies
import Derived.KernelRfl
namespace Go.Proofs.Ytgeknojpcjadkaa
/- THE CELL 'sum', in the pinned program and in every row, IS THE sha256 OF THE DUMP (.gsa) THAT YtgeknojpcjadkaaProg.lean LOADS. Nothing in Lean hashes anything: it is a label: what it is worth is what the hold of that sum in a sandbox is worth. -/
noncomputable def Try.pinned : Pinned := { name := "ytgeknojpcjadkaa", sum := "6aecb8401cc6b060c494b0d017669ae6334a23461640b59b62c2f7bac6d52b1c", checked := Try.checked }
namespace Rows
def none {H : Type} : Left H := { results := [], args := [] }

/-- 'hasplaw.PairsModel': WHATEVER THE INPUT: true; the input reads as it did. -/
def pairsModelSpec : ChangeSpec := { name := "pairsModel", fn := fun _ => fun
  | [d1, d2, d3, d4] => { results := [.lit (.bool true)], args := [d1, d2, d3, d4] }
  | _ => none }
def pairsModelRow : OpenClaim := { program := "ytgeknojpcjadkaa", sum := "6aecb8401cc6b060c494b0d017669ae6334a23461640b59b62c2f7bac6d52b1c", func := "hasp/hasplaw.PairsModel", spec := "pairsModel", unfollowed := true, recurses := true, plainKeys := false, apart := false }
def PairsModelSaid : Prop := pairsModelRow.holds Try.pinned (OpenSpec.ofChange pairsModelSpec)

/-- ITS FALSE NEIGHBOUR: 'it returns false'. Refute it at one input. -/
def pairsModelWrong : ChangeSpec := { name := "pairsModel", fn := fun _ => fun
  | [d1, d2, d3, d4] => { results := [.lit (.bool false)], args := [d1, d2, d3, d4] }
  | _ => none }
def PairsModelWrongFalsely : Prop := pairsModelRow.holds Try.pinned (OpenSpec.ofChange pairsModelWrong)

/-- 'hasplaw.JoinTrue': WHATEVER THE INPUT: true; the input reads as it did. -/
def joinTrueSpec : ChangeSpec := { name := "joinTrue", fn := fun _ => fun
  | [d1, d2, d3, d4] => { results := [.lit (.bool true)], args := [d1, d2, d3, d4] }
  | _ => none }
def joinTrueRow : OpenClaim := { program := "ytgeknojpcjadkaa", sum := "6aecb8401cc6b060c494b0d017669ae6334a23461640b59b62c2f7bac6d52b1c", func := "hasp/hasplaw.JoinTrue", spec := "joinTrue", unfollowed := true, recurses := true, plainKeys := false, apart := false }
def JoinTrueSaid : Prop := joinTrueRow.holds Try.pinned (OpenSpec.ofChange joinTrueSpec)

/-- ITS FALSE NEIGHBOUR: 'it returns false'. Refute it at one input. -/
def joinTrueWrong : ChangeSpec := { name := "joinTrue", fn := fun _ => fun
  | [d1, d2, d3, d4] => { results := [.lit (.bool false)], args := [d1, d2, d3, d4] }
  | _ => none }
def JoinTrueWrongFalsely : Prop := joinTrueRow.holds Try.pinned (OpenSpec.ofChange joinTrueWrong)

/-- 'hasplaw.JoinSame': WHATEVER THE INPUT: true; the input reads as it did. -/
def joinSameSpec : ChangeSpec := { name := "joinSame", fn := fun _ => fun
  | [d1, d2, d3, d4] => { results := [.lit (.bool true)], args := [d1, d2, d3, d4] }
  | _ => none }
def joinSameRow : OpenClaim := { program := "ytgeknojpcjadkaa", sum := "6aecb8401cc6b060c494b0d017669ae6334a23461640b59b62c2f7bac6d52b1c", func := "hasp/hasplaw.JoinSame", spec := "joinSame", unfollowed := true, recurses := true, plainKeys := false, apart := false }
def JoinSameSaid : Prop := joinSameRow.holds Try.pinned (OpenSpec.ofChange joinSameSpec)

/-- ITS FALSE NEIGHBOUR: 'it returns false'. Refute it at one input. -/
def joinSameWrong : ChangeSpec := { name := "joinSame", fn := fun _ => fun
  | [d1, d2, d3, d4] => { results := [.lit (.bool false)], args := [d1, d2, d3, d4] }
  | _ => none }
def JoinSameWrongFalsely : Prop := joinSameRow.holds Try.pinned (OpenSpec.ofChange joinSameWrong)

/-- 'hasplaw.CloseTrue': WHATEVER THE INPUT: true; the input reads as it did. -/
def closeTrueSpec : ChangeSpec := { name := "closeTrue", fn := fun _ => fun
  | [d1, d2, d3] => { results := [.lit (.bool true)], args := [d1, d2, d3] }
  | _ => none }
def closeTrueRow : OpenClaim := { program := "ytgeknojpcjadkaa", sum := "6aecb8401cc6b060c494b0d017669ae6334a23461640b59b62c2f7bac6d52b1c", func := "hasp/hasplaw.CloseTrue", spec := "closeTrue", unfollowed := true, recurses := true, plainKeys := false, apart := false }
def CloseTrueSaid : Prop := closeTrueRow.holds Try.pinned (OpenSpec.ofChange closeTrueSpec)

/-- ITS FALSE NEIGHBOUR: 'it returns false'. Refute it at one input. -/
def closeTrueWrong : ChangeSpec := { name := "closeTrue", fn := fun _ => fun
  | [d1, d2, d3] => { results := [.lit (.bool false)], args := [d1, d2, d3] }
  | _ => none }
def CloseTrueWrongFalsely : Prop := closeTrueRow.holds Try.pinned (OpenSpec.ofChange closeTrueWrong)

/-- 'hasplaw.CloseSound': WHATEVER THE INPUT: true; the input reads as it did. -/
def closeSoundSpec : ChangeSpec := { name := "closeSound", fn := fun _ => fun
  | [d1, d2, d3] => { results := [.lit (.bool true)], args := [d1, d2, d3] }
  | _ => none }
def closeSoundRow : OpenClaim := { program := "ytgeknojpcjadkaa", sum := "6aecb8401cc6b060c494b0d017669ae6334a23461640b59b62c2f7bac6d52b1c", func := "hasp/hasplaw.CloseSound", spec := "closeSound", unfollowed := true, recurses := true, plainKeys := false, apart := false }
def CloseSoundSaid : Prop := closeSoundRow.holds Try.pinned (OpenSpec.ofChange closeSoundSpec)

/-- ITS FALSE NEIGHBOUR: 'it returns false'. Refute it at one input. -/
def closeSoundWrong : ChangeSpec := { name := "closeSound", fn := fun _ => fun
  | [d1, d2, d3] => { results := [.lit (.bool false)], args := [d1, d2, d3] }
  | _ => none }
def CloseSoundWrongFalsely : Prop := closeSoundRow.holds Try.pinned (OpenSpec.ofChange closeSoundWrong)

/-- 'hasplaw.CloseKeeps': WHATEVER THE INPUT: true; the input reads as it did. -/
def closeKeepsSpec : ChangeSpec := { name := "closeKeeps", fn := fun _ => fun
  | [d1, d2, d3, d4] => { results := [.lit (.bool true)], args := [d1, d2, d3, d4] }
  | _ => none }
def closeKeepsRow : OpenClaim := { program := "ytgeknojpcjadkaa", sum := "6aecb8401cc6b060c494b0d017669ae6334a23461640b59b62c2f7bac6d52b1c", func := "hasp/hasplaw.CloseKeeps", spec := "closeKeeps", unfollowed := true, recurses := true, plainKeys := false, apart := false }
def CloseKeepsSaid : Prop := closeKeepsRow.holds Try.pinned (OpenSpec.ofChange closeKeepsSpec)

/-- ITS FALSE NEIGHBOUR: 'it returns false'. Refute it at one input. -/
def closeKeepsWrong : ChangeSpec := { name := "closeKeeps", fn := fun _ => fun
  | [d1, d2, d3, d4] => { results := [.lit (.bool false)], args := [d1, d2, d3, d4] }
  | _ => none }
def CloseKeepsWrongFalsely : Prop := closeKeepsRow.holds Try.pinned (OpenSpec.ofChange closeKeepsWrong)

/-- 'hasplaw.LeanTells': WHATEVER THE INPUT: true; the input reads as it did. -/
def leanTellsSpec : ChangeSpec := { name := "leanTells", fn := fun _ => fun
  | [d1, d2] => { results := [.lit (.bool true)], args := [d1, d2] }
  | _ => none }
def leanTellsRow : OpenClaim := { program := "ytgeknojpcjadkaa", sum := "6aecb8401cc6b060c494b0d017669ae6334a23461640b59b62c2f7bac6d52b1c", func := "hasp/hasplaw.LeanTells", spec := "leanTells", unfollowed := true, recurses := true, plainKeys := false, apart := false }
def LeanTellsSaid : Prop := leanTellsRow.holds Try.pinned (OpenSpec.ofChange leanTellsSpec)

/-- ITS FALSE NEIGHBOUR: 'it returns false'. Refute it at one input. -/
def leanTellsWrong : ChangeSpec := { name := "leanTells", fn := fun _ => fun
  | [d1, d2] => { results := [.lit (.bool false)], args := [d1, d2] }
  | _ => none }
def LeanTellsWrongFalsely : Prop := leanTellsRow.holds Try.pinned (OpenSpec.ofChange leanTellsWrong)

/-- 'hasplaw.LeanTrue': WHATEVER THE INPUT: true; the input reads as it did. -/
def leanTrueSpec : ChangeSpec := { name := "leanTrue", fn := fun _ => fun
  | [d1, d2, d3] => { results := [.lit (.bool true)], args := [d1, d2, d3] }
  | _ => none }
def leanTrueRow : OpenClaim := { program := "ytgeknojpcjadkaa", sum := "6aecb8401cc6b060c494b0d017669ae6334a23461640b59b62c2f7bac6d52b1c", func := "hasp/hasplaw.LeanTrue", spec := "leanTrue", unfollowed := true, recurses := true, plainKeys := false, apart := false }
def LeanTrueSaid : Prop := leanTrueRow.holds Try.pinned (OpenSpec.ofChange leanTrueSpec)

/-- ITS FALSE NEIGHBOUR: 'it returns false'. Refute it at one input. -/
def leanTrueWrong : ChangeSpec := { name := "leanTrue", fn := fun _ => fun
  | [d1, d2, d3] => { results := [.lit (.bool false)], args := [d1, d2, d3] }
  | _ => none }
def LeanTrueWrongFalsely : Prop := leanTrueRow.holds Try.pinned (OpenSpec.ofChange leanTrueWrong)

/-- 'hasplaw.LeanMost': WHATEVER THE INPUT: true; the input reads as it did. -/
def leanMostSpec : ChangeSpec := { name := "leanMost", fn := fun _ => fun
  | [d1, d2, d3] => { results := [.lit (.bool true)], args := [d1, d2, d3] }
  | _ => none }
def leanMostRow : OpenClaim := { program := "ytgeknojpcjadkaa", sum := "6aecb8401cc6b060c494b0d017669ae6334a23461640b59b62c2f7bac6d52b1c", func := "hasp/hasplaw.LeanMost", spec := "leanMost", unfollowed := true, recurses := true, plainKeys := false, apart := false }
def LeanMostSaid : Prop := leanMostRow.holds Try.pinned (OpenSpec.ofChange leanMostSpec)

/-- ITS FALSE NEIGHBOUR: 'it returns false'. Refute it at one input. -/
def leanMostWrong : ChangeSpec := { name := "leanMost", fn := fun _ => fun
  | [d1, d2, d3] => { results := [.lit (.bool false)], args := [d1, d2, d3] }
  | _ => none }
def LeanMostWrongFalsely : Prop := leanMostRow.holds Try.pinned (OpenSpec.ofChange leanMostWrong)

/- THE SECOND FORM. 'bulk': how many values and letters a reading holds, each counted each time it is reached (what is shared counts as often as it is met; a slice's spare places count too). A statement '..UptoSaid' is the law's where the arguments, and the package variables that the reading takes, are together of bulk at most 1048576: NARROWER than '..Said'. Prove '..Said' where nothing that the law and all that it calls make is longer than what came in: it says more and counts as full. Else prove '..UptoSaid'. A law counts once. -/
mutual
def uptoBulk {H : Type} : DataW H → Nat
  | .lit (.string bytes) => bytes.length + 1
  | .lit _ => 1
  | .nil => 1
  | .ptr d => uptoBulk d + 1
  | .slice elems spare => uptoBulkAll elems + uptoBulkAll spare + 1
  | .agg parts => uptoBulkAll parts + 1
  | .iface _ d => uptoBulk d + 1
  | .map entries => uptoBulkEntries entries + 1
  | .held _ => 1
def uptoBulkAll {H : Type} : List (DataW H) → Nat
  | [] => 0
  | d :: r => uptoBulk d + uptoBulkAll r
def uptoBulkEntries {H : Type} : List (Lit × DataW H) → Nat
  | [] => 0
  | x :: r => uptoBulkEntry x + uptoBulkEntries r
def uptoBulkEntry {H : Type} : Lit × DataW H → Nat
  | (.string bytes, d) => bytes.length + uptoBulk d + 1
  | (_, d) => uptoBulk d + 1
 end
def uptoSmall : (H : Type) → List (DataW H) → Bool := fun _ ds => decide (uptoBulkAll ds ≤ 1048576)
def OpenSpec.upto (s : _root_.Go.ChangeSpec) : _root_.Go.OpenSpec := { _root_.Go.OpenSpec.ofChange s with cond := some uptoSmall }

/-- 'hasplaw.PairsModel', WHERE WHAT IT READS IS OF BULK AT MOST 1048576: true; the input reads as it did. -/
def pairsModelUptoRow : OpenClaim := { program := "ytgeknojpcjadkaa", sum := "6aecb8401cc6b060c494b0d017669ae6334a23461640b59b62c2f7bac6d52b1c", func := "hasp/hasplaw.PairsModel", spec := "pairsModel", unfollowed := true, recurses := true, plainKeys := false, apart := false, narrowed := true }
def PairsModelUptoSaid : Prop := pairsModelUptoRow.holds Try.pinned (OpenSpec.upto pairsModelSpec)

/-- 'hasplaw.JoinTrue', WHERE WHAT IT READS IS OF BULK AT MOST 1048576: true; the input reads as it did. -/
def joinTrueUptoRow : OpenClaim := { program := "ytgeknojpcjadkaa", sum := "6aecb8401cc6b060c494b0d017669ae6334a23461640b59b62c2f7bac6d52b1c", func := "hasp/hasplaw.JoinTrue", spec := "joinTrue", unfollowed := true, recurses := true, plainKeys := false, apart := false, narrowed := true }
def JoinTrueUptoSaid : Prop := joinTrueUptoRow.holds Try.pinned (OpenSpec.upto joinTrueSpec)

/-- 'hasplaw.JoinSame', WHERE WHAT IT READS IS OF BULK AT MOST 1048576: true; the input reads as it did. -/
def joinSameUptoRow : OpenClaim := { program := "ytgeknojpcjadkaa", sum := "6aecb8401cc6b060c494b0d017669ae6334a23461640b59b62c2f7bac6d52b1c", func := "hasp/hasplaw.JoinSame", spec := "joinSame", unfollowed := true, recurses := true, plainKeys := false, apart := false, narrowed := true }
def JoinSameUptoSaid : Prop := joinSameUptoRow.holds Try.pinned (OpenSpec.upto joinSameSpec)

/-- 'hasplaw.CloseTrue', WHERE WHAT IT READS IS OF BULK AT MOST 1048576: true; the input reads as it did. -/
def closeTrueUptoRow : OpenClaim := { program := "ytgeknojpcjadkaa", sum := "6aecb8401cc6b060c494b0d017669ae6334a23461640b59b62c2f7bac6d52b1c", func := "hasp/hasplaw.CloseTrue", spec := "closeTrue", unfollowed := true, recurses := true, plainKeys := false, apart := false, narrowed := true }
def CloseTrueUptoSaid : Prop := closeTrueUptoRow.holds Try.pinned (OpenSpec.upto closeTrueSpec)

/-- 'hasplaw.CloseSound', WHERE WHAT IT READS IS OF BULK AT MOST 1048576: true; the input reads as it did. -/
def closeSoundUptoRow : OpenClaim := { program := "ytgeknojpcjadkaa", sum := "6aecb8401cc6b060c494b0d017669ae6334a23461640b59b62c2f7bac6d52b1c", func := "hasp/hasplaw.CloseSound", spec := "closeSound", unfollowed := true, recurses := true, plainKeys := false, apart := false, narrowed := true }
def CloseSoundUptoSaid : Prop := closeSoundUptoRow.holds Try.pinned (OpenSpec.upto closeSoundSpec)

/-- 'hasplaw.CloseKeeps', WHERE WHAT IT READS IS OF BULK AT MOST 1048576: true; the input reads as it did. -/
def closeKeepsUptoRow : OpenClaim := { program := "ytgeknojpcjadkaa", sum := "6aecb8401cc6b060c494b0d017669ae6334a23461640b59b62c2f7bac6d52b1c", func := "hasp/hasplaw.CloseKeeps", spec := "closeKeeps", unfollowed := true, recurses := true, plainKeys := false, apart := false, narrowed := true }
def CloseKeepsUptoSaid : Prop := closeKeepsUptoRow.holds Try.pinned (OpenSpec.upto closeKeepsSpec)

/-- 'hasplaw.LeanTells', WHERE WHAT IT READS IS OF BULK AT MOST 1048576: true; the input reads as it did. -/
def leanTellsUptoRow : OpenClaim := { program := "ytgeknojpcjadkaa", sum := "6aecb8401cc6b060c494b0d017669ae6334a23461640b59b62c2f7bac6d52b1c", func := "hasp/hasplaw.LeanTells", spec := "leanTells", unfollowed := true, recurses := true, plainKeys := false, apart := false, narrowed := true }
def LeanTellsUptoSaid : Prop := leanTellsUptoRow.holds Try.pinned (OpenSpec.upto leanTellsSpec)

/-- 'hasplaw.LeanTrue', WHERE WHAT IT READS IS OF BULK AT MOST 1048576: true; the input reads as it did. -/
def leanTrueUptoRow : OpenClaim := { program := "ytgeknojpcjadkaa", sum := "6aecb8401cc6b060c494b0d017669ae6334a23461640b59b62c2f7bac6d52b1c", func := "hasp/hasplaw.LeanTrue", spec := "leanTrue", unfollowed := true, recurses := true, plainKeys := false, apart := false, narrowed := true }
def LeanTrueUptoSaid : Prop := leanTrueUptoRow.holds Try.pinned (OpenSpec.upto leanTrueSpec)

/-- 'hasplaw.LeanMost', WHERE WHAT IT READS IS OF BULK AT MOST 1048576: true; the input reads as it did. -/
def leanMostUptoRow : OpenClaim := { program := "ytgeknojpcjadkaa", sum := "6aecb8401cc6b060c494b0d017669ae6334a23461640b59b62c2f7bac6d52b1c", func := "hasp/hasplaw.LeanMost", spec := "leanMost", unfollowed := true, recurses := true, plainKeys := false, apart := false, narrowed := true }
def LeanMostUptoSaid : Prop := leanMostUptoRow.holds Try.pinned (OpenSpec.upto leanMostSpec)

end Rows
end Go.Proofs.Ytgeknojpcjadkaa
