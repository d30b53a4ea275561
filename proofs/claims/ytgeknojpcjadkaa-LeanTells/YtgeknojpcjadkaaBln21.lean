/-
  hasplaw.valued.
-/
import Derived.Laws.Rows
import Derived.Test.YtgeknojpcjadkaaBln20
namespace Go.Proofs.Ytgeknojpcjadkaa
open Go.Proofs Go.RowKit Go.Shelf Go.Maps

/-- What symbols are, the 26 numbers of a world being zs. -/
def mo (zs : List Int) (s : Int) (x y : Nat) : Nat := if s < 2 then chN (zs[s.toNat]?.getD 0) 3 else if s < 4 then chN (zs[2 + (s.toNat - 2) * 3 + x]?.getD 0) 3 else chN (zs[8 + (s.toNat - 4) * 9 + x * 3 + y]?.getD 0) 3
/-- A world's value; what variables are. -/
def moV (zs : List Int) : Value := .agg (zs.map (Value.int .i64)).toArray
def vaV (vs : Nat → Nat) : Value := .agg #[.int .i64 (vs 0 : Int), .int .i64 (vs 1 : Int), .int .i64 (vs 2 : Int), .int .i64 (vs 3 : Int), .int .i64 (vs 4 : Int), .int .i64 (vs 5 : Int), .int .i64 (vs 6 : Int), .int .i64 (vs 7 : Int)]
structure MoOk (zs : List Int) : Prop where
  len : zs.length = 26
  wf : ∀ i : Nat, (Lit.int .i64 (zs[i]?.getD 0)).wf = true
/-- What valued answers at a place. -/
def ValuedAt (zs : List Int) (vs : Nat → Nat) (t : List Int) (at' : Option Addr) (ct k : Nat) : Prop := ∀ w : World, Ints w.heap.size w at' t → Calls Try.prog 49 #[moV zs, .slice at' t.length ct, .int .i64 (k : Int), vaV vs] w fun e w' => e = .returned (.tuple #[.int .i64 (Tm.val (mo zs) vs (Tm.part t k) : Int), .int .i64 (Tm.endAt t k : Int)]) ∧ Below w.heap.size w w'

theorem pos_lt {t : List Int} (ht : Tm.err t = 0) {k : Nat} (hk : k < t.length) {m : Nat} (hm : m < Tm.room (t[k]?.getD 0)) : Tm.pos t k m < t.length := by
  have h1 := Tm.pos_part ht hk m (by omega)
  have h2 := Tm.pos_in (Tm.part_err ht hk) (m := m) (by rw [Tm.sym_part ht hk]; exact hm)
  rw [Tm.part_length ht hk] at h2
  have h3 := Tm.end_in ht hk
  omega
end Go.Proofs.Ytgeknojpcjadkaa
