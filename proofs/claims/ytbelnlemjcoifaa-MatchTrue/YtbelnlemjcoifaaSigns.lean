/-
  signs.Parts and signs.End: a range over a function, and the function's own iterator calls End again: by induction on how many signs lie behind the place.
-/
import Derived.RangeFuncNested
import Derived.RangeFuncBound
import Derived.RangeFuncCalls
import Derived.RangeFuncLeaves
import Derived.RangeFuncBox
import Derived.Shelf.Abstract
import Derived.Shelf.RegionOpen
import Derived.WalkKit
import Derived.OwnWalkIn
import Derived.TacticsInMore
import Derived.LoopNIn
import Derived.LoopIn
import Derived.Test.YtbelnlemjcoifaaBase
namespace Go.Proofs.Ytbelnlemjcoifaa
open Go.Proofs Go.RowKit Go.Shelf

attribute [local go_sem] Oper.semAt_some

/-- THE SLICE AT a HOLDS THE ints zs, in a block below n. -/
def Ints (n : Nat) (W : World) (a : Option Addr) (zs : List Int) : Prop :=
  ∀ j, j < zs.length → ∃ b off, a = some ⟨b, off, none⟩ ∧ b < n ∧ W.cell? ⟨b, off + j, none⟩ = some (.int .i64 (zs[j]?.getD 0))
theorem Ints.below {n : Nat} {A B : World} (h : Below n A B) {a : Option Addr} {zs : List Int} (hi : Ints n A a zs) : Ints n B a zs := fun j hj => by
  obtain ⟨b, off, e, hb, hc⟩ := hi j hj
  exact ⟨b, off, e, hb, (h.cell (p := ⟨b, off + j, none⟩) hb).trans hc⟩
theorem Ints.mono {n m : Nat} (h : n ≤ m) {W : World} {a : Option Addr} {zs : List Int} (hi : Ints n W a zs) : Ints m W a zs := fun j hj => by
  obtain ⟨b, off, e, hb, hc⟩ := hi j hj
  exact ⟨b, off, e, by omega, hc⟩
theorem Ints.at {n : Nat} {W : World} {a : Option Addr} {zs : List Int} (hi : Ints n W a zs) (h : 0 < zs.length) :
    ∃ b off, a = some ⟨b, off, none⟩ ∧ b < n ∧ ∀ j, j < zs.length → W.cell? ⟨b, off + j, none⟩ = some (.int .i64 (zs[j]?.getD 0)) := by
  obtain ⟨b, off, rfl, hb, _⟩ := hi 0 h
  refine ⟨b, off, rfl, hb, fun j hj => ?_⟩
  obtain ⟨b', off', e, _, hc⟩ := hi j hj
  cases e
  exact hc

theorem cin {F : Fence} (hF : F = Fence.wide) {n : Nat} {P : Program} {f : FuncId} {args : Array Value} {w : World} {R : Ending → World → Prop} (h : Calls P f args w R) : CallsIn F n P f args w R := by
  subst hF; exact callsIn_wide.2 h
theorem grown_of_below {W W' : World} (h : Below W.heap.size W W') : W.grownBy W' none := ⟨h.os, h.tape, h.output, h.size, fun k hk _ => h.block k hk⟩

theorem wide_facts {F : Fence} (hF : F = Fence.wide) : F.round = none ∧ (∀ f, F.fn f) ∧ (∀ k : Nat, (F.depth.isSome = true → 1 ≤ k)) ∧
    (∀ {n : Nat} {P : Program} {f : FuncId} {args : Array Value} {w : World} {R : Ending → World → Prop}, Calls P f args w R → CallsIn F n P f args w R) := by
  subst hF
  exact ⟨rfl, fun _ => trivial, fun k h => by simp [Fence.wide] at h, fun h => callsIn_wide.2 h⟩

/-- What a round keeps: all below n, and the box that holds the term. -/
def Kept (n B : Nat) (W W' : World) : Prop := Below n W W' ∧ W'.heap[B]? = W.heap[B]?

set_option maxHeartbeats 400000 in
theorem parts_in (F : Fence) (hF : F = Fence.wide) (n : Nat) (a : Option Addr) (len cap : Nat) (k : Int) (w : World) :
    CallsIn F n Try.prog 68 #[.slice a len cap, .int .i64 k] w fun e w' => e = .returned (.func (.func 84) #[] #[.pointer (some ⟨w.heap.size + 1, 0, none⟩), .pointer (some ⟨w.heap.size, 0, none⟩)]) ∧
      w' = (w.alloc (.cells #[.slice a len cap] 23)).alloc (.cells #[.int .i64 k] 3) := by
  have hro : F.round = none := by subst hF; rfl
  have hfn : F.fn 68 := by subst hF; trivial
  refine callsIn_of_wp Try.func68 rfl hfn ?_ hro
  simp only [Try.ntmps68, List.size_toArray, List.length_cons, List.length_nil, Nat.reduceAdd, Nat.reduceSub, Array.replicate_succ, Array.replicate_zero, List.push_toArray, List.append_toArray, List.nil_append, List.cons_append]
  gi_wp2
  go_ret
  exact ⟨rfl, rfl⟩

set_option maxRecDepth 100000 in
set_option maxHeartbeats 1000000 in
/-- The iterator: for every loop body that keeps what lay below n₀, and the term's box. -/
theorem parts1_in (F : Fence) (hF : F = Fence.wide) (n l Bk Bt n₀ k cap : Nat) (a : Option Addr) (zs : List Int) (hlen : zs.length ≤ 30) (hk : k < zs.length)
    (hE : ∀ (p : Nat) (W : World), k < p → p ≤ 200 → Ints n₀ W a zs → n₀ ≤ W.heap.size → Calls Try.prog 44 #[.slice a zs.length cap, .int .i64 (p : Int)] W fun e W' => e = .returned (.int .i64 (Tm.endAt zs p : Int)) ∧ Below W.heap.size W W')
    (J Jx : List (Nat × Nat) → World → Prop) (W : World) (hJ : AbidesFrom W.heap.size J)
    (hY : ∀ pre x W, J pre W → pre.length < Tm.room (zs[k]?.getD 0) → YieldAt F (n - 1) Try.prog l #[.int .i64 (x.1 : Int), .int .i64 (x.2 : Int)] W fun e W' =>
      (e = .returned (.bool true) ∧ J (pre ++ [x]) W' ∧ Kept n₀ Bt W W') ∨ (e = .returned (.bool false) ∧ Jx (pre ++ [x]) W'))
    (hn₀ : n₀ ≤ W.heap.size) (hBk : W.cell? ⟨Bk, 0, none⟩ = some (.int .i64 (k : Int))) (hBt : W.cell? ⟨Bt, 0, none⟩ = some (.slice a zs.length cap)) (hBt' : Bt < W.heap.size) (hI : Ints n₀ W a zs) (h0 : J [] W) :
    CallsIn F n Try.prog 84 #[.func (.yield l) #[] #[], .pointer (some ⟨Bk, 0, none⟩), .pointer (some ⟨Bt, 0, none⟩)] W fun e W' => (∃ v, e = .returned v) ∧
      ((∃ ys, ys = Tm.parts zs k (Tm.room (zs[k]?.getD 0)) ∧ J ys W') ∨ (∃ pre, True ∧ Jx pre W')) := by
  obtain ⟨hro, hfn, hdd, hcin⟩ := wide_facts hF
  clear hF
  have hf55 := hfn 84
  have hf56 := hfn 85
  have hf32 := hfn 44
  have hr2 := Tm.room_le (zs[k]?.getD 0)
  obtain ⟨b, off, rfl, hb, hc⟩ := hI.at (by omega)
  have hck := hc k hk
  have hkl : (k : Int) < (zs.length : Int) := by omega
  have hroom : ∀ W, CallsIn F (n - 1) Try.prog 85 #[.int .i64 (zs[k]?.getD 0)] W fun e w' => e = .returned (.int .i64 (Tm.room (zs[k]?.getD 0) : Int)) ∧ w' = W := fun W => hcin (room_any _ W)
  generalize hrdef : Tm.room (zs[k]?.getD 0) = r at *
  clear hrdef
  generalize zs[k]?.getD 0 = s at *
  have HY := show Hid _ from hY
  have HE := show Hid _ from hE
  clear hY hE hc
  refine callsIn_of_wp Try.func84 rfl hf55 ?_ hro
  simp only [Try.ntmps84, List.size_toArray, List.length_cons, List.length_nil, Nat.reduceAdd, Nat.reduceSub, Array.replicate_succ, Array.replicate_zero, List.push_toArray, List.append_toArray, List.nil_append, List.cons_append]
  gi_wp2_with ((try refine ⟨hdd _, ?_⟩); gi_at_call 85; refine (hroom _).mono ?_; rintro e W ⟨rfl, rfl⟩)
  gi_loopw [4, 13] (fun p i wr => ∃ m : Nat, m ≤ r ∧ i = .int .i64 (m : Int) ∧ p = .int .i64 (Tm.pos zs k m : Int) ∧ J (Tm.parts zs k m) wr ∧ wr.heap[Bt]? = W.heap[Bt]? ∧ Below n₀ W wr ∧ W.heap.size ≤ wr.heap.size)
    (fun _ i _ => r - (intOf i).toNat)
  case atStart => exact ⟨0, Nat.zero_le _, rfl, by rw [Tm.pos_zero]; rfl, h0, rfl, Below.refl _ _, Nat.le_refl _⟩
  case round =>
    obtain ⟨m, hm, rfl, rfl, hJs, hT, hnx, hsz⟩ := hrel
    have hbt : wr.cell? ⟨Bt, 0, none⟩ = some (.slice (some ⟨b, off, none⟩) zs.length cap) := (World.cell?_of_block (a := ⟨Bt, 0, none⟩) hT).trans hBt
    by_cases hlt : m < r
    · have hlt' : (m : Int) < (r : Int) := by omega
      have h1 := (HE.out (Tm.pos zs k m) wr (Tm.pos_gt _ _ _) (by have := Tm.pos_le zs k m; omega) (hI.below hnx) (by omega)).mono (R' := fun e W1 => e = .returned (.int .i64 (Tm.pos zs k (m + 1) : Int)) ∧ YieldAt F (n - 1) Try.prog l #[.int .i64 (Tm.pos zs k m : Int), .int .i64 (Tm.pos zs k (m + 1) : Int)] W1 fun e W' =>
          (e = .returned (.bool true) ∧ J (Tm.parts zs k (m + 1)) W' ∧ Below n₀ W W' ∧ W'.heap[Bt]? = W.heap[Bt]? ∧ W.heap.size ≤ W'.heap.size) ∨ (e = .returned (.bool false) ∧ ∃ pre, Jx pre W'))
        (fun e W1 ⟨he, hB⟩ => ⟨by rw [Tm.pos_succ]; exact he, by
          have hg := grown_of_below hB
          have hJ1 := hJ _ _ _ none hJs hg (fun r e => by cases e)
          refine YieldAt.mono (HY.out _ (Tm.pos zs k m, Tm.pos zs k (m + 1)) W1 hJ1 (by rw [Tm.parts_length]; exact hlt)) fun e W2 h => h.elim (fun ⟨he, hj, hb2, hT2⟩ => .inl ⟨he, ?_, ?_, ?_, ?_⟩) (fun ⟨he, hx⟩ => .inr ⟨he, _, hx⟩)
          · rw [Tm.parts_succ]; exact hj
          · exact (hnx.trans (hB.mono (by omega))).trans hb2
          · exact hT2.trans ((hB.block Bt (by omega)).trans hT)
          · have := hB.size; have := hb2.size; omega⟩)
      have h1' := hcin (n := n - 1) h1
      clear h1
      gi_wp2_with (first
        | ((try refine ⟨hdd _, ?_⟩); gi_at_call 44; refine h1'.mono ?_; clear h1'; rintro e W1 ⟨rfl, fn, tmps, assign, body, hy, hR⟩)
        | ((try refine ⟨hdd _, ?_⟩); refine hR.mono ?_; clear hR; rintro e W2 (⟨rfl, hJ2, hb2, hT2, hs2⟩ | ⟨rfl, hx2⟩)))
      · exact ⟨⟨m + 1, by omega, by go_num, rfl, hJ2, hT2, hb2, hs2⟩, by simp [intOf]; omega⟩
      · obtain ⟨pre, hx2⟩ := hx2
        refine bodyPost_ret (results_none rfl _ _ _) rfl ?_
        exact ⟨⟨_, rfl⟩, .inr ⟨pre, trivial, hx2⟩⟩
    · obtain rfl : m = r := by omega
      have hlt' : ¬ (m : Int) < (m : Int) := by omega
      gi_wp2
      go_end0
      exact ⟨⟨_, rfl⟩, .inl hJs⟩

/-- The iterator value's contract. -/
theorem parts_stops (F : Fence) (hF : F = Fence.wide) (n Bk Bt n₀ k cap : Nat) (a : Option Addr) (zs : List Int) (hlen : zs.length ≤ 30) (hk : k < zs.length)
    (hE : ∀ (p : Nat) (W : World), k < p → p ≤ 200 → Ints n₀ W a zs → n₀ ≤ W.heap.size → Calls Try.prog 44 #[.slice a zs.length cap, .int .i64 (p : Int)] W fun e W' => e = .returned (.int .i64 (Tm.endAt zs p : Int)) ∧ Below W.heap.size W W')
    (w : World) (hn₀ : n₀ ≤ w.heap.size) (hBk' : Bk < w.heap.size) (hBt' : Bt < w.heap.size)
    (hBk : w.cell? ⟨Bk, 0, none⟩ = some (.int .i64 (k : Int))) (hBt : w.cell? ⟨Bt, 0, none⟩ = some (.slice a zs.length cap)) (hI : Ints n₀ w a zs) :
    SeqStopsK F n Try.prog 84 #[.pointer (some ⟨Bk, 0, none⟩), .pointer (some ⟨Bt, 0, none⟩)] (fun x : Nat × Nat => #[Value.int .i64 (x.1 : Int), Value.int .i64 (x.2 : Int)]) (Kept n₀ Bt)
      (fun ys => ys = Tm.parts zs k (Tm.room (zs[k]?.getD 0))) (fun _ => True) (Tm.room (zs[k]?.getD 0)) w := fun l J Jx W hW hJ _ hY h0 =>
  parts1_in F hF n l Bk Bt n₀ k cap a zs hlen hk hE J Jx W hJ hY (by have := hW.size; omega) ((hW.cell (p := ⟨Bk, 0, none⟩) hBk').trans hBk) ((hW.cell (p := ⟨Bt, 0, none⟩) hBt').trans hBt) (by have := hW.size; omega) (hI.below (hW.mono hn₀)) h0

end Go.Proofs.Ytbelnlemjcoifaa
