/-
  (*sides).bySymbol.
-/
import Derived.Deep.DrawnRows
import Derived.Shelf.RegionOpen
import Derived.Test.YtgeknojpcjadkaaBln5
namespace Go.Proofs.Ytgeknojpcjadkaa
open Go.Proofs Go.RowKit Go.Shelf Go.Maps

attribute [local go_sem] Oper.semAt_some
attribute [local go_sem ↓] Go.wp_at_zero Go.wp_at_succ

/-- What holds ahead of round m of bySymbol. -/
structure OVInv (C : Sd) (w : World) (tbl : Value → Option Value) (i j m : Nat) (W : World) : Prop where
  no : Tm.ov C.rk C.za C.zb i j m = true
  sd : SdInv C w tbl (fun k l => k < i ∨ l ≤ j) i j W
  bR : Boxed W (w.heap.size + 1 + 1) 4 (.bool false)
  bT : Boxed W (w.heap.size + 1 + 1 + 1) 37 (.slice (some ⟨C.bb, C.fb, none⟩) C.zb.length C.cb)
  bK : Boxed W (w.heap.size + 1 + 1 + 1 + 1) 3 (.int .i64 (j : Int))

end Go.Proofs.Ytgeknojpcjadkaa
