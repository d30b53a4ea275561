/-
  PLAIN MATHEMATICS of terms as lists of signs: no program in it. 'run l n': how many signs n terms take up that stand at the head of l (a sign that is missing counts as one without parts). · THE SMALL FUNCTIONS: what signs.Room, signs.Known, haspref.size, haspref.within, term.hasPlace answer, for every argument. · signs.Parts and signs.End: a range over a function, and the function's own iterator calls End again: by induction on how many signs lie behind the place. · signs.End: for every list of at most 30 signs, at every place: where the next one behind the term there would begin; nothing that lay has turned. · term.Check and haspref.TermError: for every list of signs: the error's number that the document names. · haspref.TermError and haspref.PlaceError: for every list of signs, at every place. · haspref.SameTerms and haspref.PlaceError. · haspref.PlaceError, haspref.grown, haspref.endOf. · slices.Clone, term.End, term.Part; haspref.endOf, EndOf, partOf, PartOf. · term.Part; haspref.endOf, EndOf, partOf, PartOf. · slices.Grow of the nil slice; slices.Concat of slices of ints. · term.Put; haspref.put, PutOf. · term.Put whatever it is handed; haspref.put, PutOf. · haspref.PutOf; hasplaw.fxga, termBegun. · hasplaw.termBegun: it answers true. · From the frame's word on a slice of ints that came in to ours. · PLAIN MATHEMATICS: what is put at a place is part of what comes there; put back it is the term it was. · sub.Check and haspref.SubError: for every list of lists of signs. · signs.Change by what a list says (sub.become's function literal), sub.become, sub.Apply. · haspref.applied, ApplyOf. · Slices of slices in new memory; haspref.SameSubs. · sub.None, haspref.NoneOf, hasplaw.some; sub.After, haspref.AfterOf. · hasplaw.some; sub.After, haspref.AfterOf. · sub.After, haspref.AfterOf. · haspref.AfterOf. · PLAIN MATHEMATICS: variables made plain in the order in which they first stand; and the map that keeps them. · signs.Plain's function literal; signs.Change by it. · MAPS FROM ints, WHATEVER THEY HOLD: block b of the world is the map m : Int → Option Value. · PLAIN MATHEMATICS of fitting: sign by sign, what the variables of p must become.
-/
import Derived.Test.YtjaikmlbajdedacProg
import Derived.WalkKit
import Derived.WalkSpells
import Derived.RangeFuncNested
import Derived.RangeFuncBound
import Derived.RangeFuncCalls
import Derived.RangeFuncLeaves
import Derived.RangeFuncBox
import Derived.Shelf.Abstract
import Derived.Shelf.RegionOpen
import Derived.OwnWalkIn
import Derived.TacticsInMore
import Derived.LoopNIn
import Derived.LoopIn
import Derived.Deep.QuietTactic
import Derived.BigQuiet
import Derived.WalkSmall
import Derived.Laws.AppendOwnNone
import Derived.Lib.AppendZeros
import Derived.Deep.RegionWith
import Derived.Deep.DeepCutAuto
import Derived.Maps.OwnSet
import Derived.Maps.OwnOps
import Derived.Maps.OwnIn
namespace Go.Proofs.Ytjaikmlbajdedac.Tm

def room (s : Int) : Nat := if s = 2 ∨ s = 3 then 1 else if s = 4 ∨ s = 5 then 2 else 0

theorem room_le (s : Int) : room s ≤ 2 := by unfold room; split <;> (try split) <;> omega

def run : List Int → Nat → Nat
  | _, 0 => 0
  | [], n + 1 => n + 1
  | s :: l, n + 1 => 1 + run l (n + room s)

theorem run_zero (l : List Int) : run l 0 = 0 := by cases l <;> simp [run]
theorem run_nil (n : Nat) : run [] n = n := by cases n <;> simp [run]
theorem run_cons (s : Int) (l : List Int) (n : Nat) : run (s :: l) (n + 1) = 1 + run l (n + room s) := by simp [run]

theorem run_add (l : List Int) : ∀ (a b : Nat), run l (a + b) = run l a + run (l.drop (run l a)) b := by
  induction l with
  | nil => intro a b; simp [run_nil]
  | cons s l ih =>
    intro a b
    cases a with
    | zero => simp [run_zero]
    | succ a =>
      rw [show a + 1 + b = (a + b) + 1 from by omega, run_cons, run_cons, show a + b + room s = (a + room s) + b from by omega, ih,
        show 1 + run l (a + room s) = run l (a + room s) + 1 from by omega, List.drop_succ_cons]
      omega

theorem run_ge (l : List Int) : ∀ (n : Nat), n ≤ run l n := by
  induction l with
  | nil => intro n; simp [run_nil]
  | cons s l ih =>
    intro n
    cases n with
    | zero => simp
    | succ n => rw [run_cons]; have := ih (n + room s); omega

theorem run_le (l : List Int) : ∀ (n : Nat), run l n ≤ 2 * l.length + n := by
  induction l with
  | nil => intro n; simp [run_nil]
  | cons s l ih =>
    intro n
    cases n with
    | zero => simp [run_zero]
    | succ n => rw [run_cons]; have := ih (n + room s); have := room_le s; simp only [List.length_cons]; omega

/-- Where the next one behind the term at place k would begin. -/
def endAt (t : List Int) (k : Nat) : Nat := k + run (t.drop k) 1

theorem endAt_gt (t : List Int) (k : Nat) : k < endAt t k := by unfold endAt; have := run_ge (t.drop k) 1; omega
theorem endAt_le (t : List Int) (k : Nat) : endAt t k ≤ k + (2 * (t.length - k) + 1) := by
  unfold endAt; have := run_le (t.drop k) 1; rw [List.length_drop] at this; omega
theorem endAt_out (t : List Int) (k : Nat) (h : t.length ≤ k) : endAt t k = k + 1 := by
  unfold endAt; rw [List.drop_of_length_le h, run_nil]

/-- Where part i of the term at place k begins. -/
def pos (t : List Int) (k i : Nat) : Nat := k + 1 + run (t.drop (k + 1)) i

theorem pos_zero (t : List Int) (k : Nat) : pos t k 0 = k + 1 := by simp [pos, run_zero]
theorem pos_succ (t : List Int) (k i : Nat) : pos t k (i + 1) = endAt t (pos t k i) := by
  unfold pos endAt
  rw [run_add, List.drop_drop]
  omega
theorem pos_gt (t : List Int) (k i : Nat) : k < pos t k i := by unfold pos; omega
theorem pos_le (t : List Int) (k i : Nat) : pos t k i ≤ k + 1 + (2 * (t.length - (k + 1)) + i) := by
  unfold pos; have := run_le (t.drop (k + 1)) i; rw [List.length_drop] at this; omega

theorem endAt_in (t : List Int) (k : Nat) (h : k < t.length) : endAt t k = pos t k (room (t[k]?.getD 0)) := by
  unfold endAt pos
  rw [List.drop_eq_getElem_cons h, show (1 : Nat) = 0 + 1 from rfl, run_cons]
  simp [h]
  omega

/-- The parts' begins and ends, the first n of them. -/
def parts (t : List Int) (k n : Nat) : List (Nat × Nat) := (List.range n).map fun i => (pos t k i, pos t k (i + 1))
theorem parts_succ (t : List Int) (k n : Nat) : parts t k (n + 1) = parts t k n ++ [(pos t k n, pos t k (n + 1))] := by simp [parts, List.range_succ]
theorem parts_length (t : List Int) (k n : Nat) : (parts t k n).length = n := by simp [parts]

/-- What 'end' holds when 'pre' has come. -/
def lastEnd (k : Nat) (pre : List (Nat × Nat)) : Nat := (pre.getLast?.map Prod.snd).getD (k + 1)
theorem lastEnd_nil (k : Nat) : lastEnd k [] = k + 1 := rfl
theorem lastEnd_snoc (k : Nat) (pre : List (Nat × Nat)) (x : Nat × Nat) : lastEnd k (pre ++ [x]) = x.2 := by simp [lastEnd]
theorem lastEnd_parts (t : List Int) (k n : Nat) : lastEnd k (parts t k n) = pos t k n := by
  cases n with
  | zero => simp [parts, lastEnd, pos_zero]
  | succ n => rw [parts_succ, lastEnd_snoc]

/-- Is each sign a symbol or a variable? -/
def known (s : Int) : Bool := decide (-8 ≤ s) && decide (s < 6)
/-- A term's error, as a number: many 2, range 3, form 1, ok 0. -/
def err (t : List Int) : Int := if 30 < t.length then 2 else if t.all known = false then 3 else if run t 1 = t.length then 0 else 1

end Go.Proofs.Ytjaikmlbajdedac.Tm

namespace Go.Proofs.Ytjaikmlbajdedac
open Go.Proofs Go.RowKit

theorem hid {p : Prop} (h : p) : Hid p := h
theorem ret_int {k : IntKind} {a b : Int} (h : a = b) : Ending.returned (.int k a) = .returned (.int k b) := by rw [h]
theorem ret_bool {a b : Bool} (h : a = b) : Ending.returned (.bool a) = .returned (.bool b) := by rw [h]

set_option maxHeartbeats 400000 in
theorem room_any (s : Int) (w : World) : Calls Try.prog 94 #[.int .i64 s] w fun e w' => e = .returned (.int .i64 (Tm.room s : Int)) ∧ w' = w := by
  by_cases h2 : s = 2
  · subst h2; go_enter Try.func94, Try.ntmps94; go_wp2; go_ret; exact ⟨rfl, rfl⟩
  by_cases h3 : s = 3
  · subst h3; go_enter Try.func94, Try.ntmps94; go_wp2; go_ret; exact ⟨rfl, rfl⟩
  by_cases h4 : s = 4
  · subst h4; go_enter Try.func94, Try.ntmps94; go_wp2; go_ret; exact ⟨rfl, rfl⟩
  by_cases h5 : s = 5
  · subst h5; go_enter Try.func94, Try.ntmps94; go_wp2; go_ret; exact ⟨rfl, rfl⟩
  have e : Tm.room s = 0 := by simp [Tm.room, h2, h3, h4, h5]
  have b2 : (s == 2) = false := by simp [h2]
  have b3 : (s == 3) = false := by simp [h3]
  have b4 : (s == 4) = false := by simp [h4]
  have b5 : (s == 5) = false := by simp [h5]
  clear h2 h3 h4 h5
  rw [e]
  clear e
  go_enter Try.func94, Try.ntmps94
  go_wp2
  go_ret
  exact ⟨rfl, rfl⟩

set_option maxHeartbeats 400000 in
theorem known_any (s : Int) (w : World) : Calls Try.prog 44 #[.int .i64 s] w fun e w' => e = .returned (.bool (Tm.known s)) ∧ w' = w := by
  by_cases h1 : -8 ≤ s
  · by_cases h2 : s < 6
    · go_enter Try.func44, Try.ntmps44; go_wp2; go_ret; exact ⟨ret_bool (by simp [Tm.known, h1, h2]), rfl⟩
    · go_enter Try.func44, Try.ntmps44; go_wp2; go_ret; exact ⟨ret_bool (by simp [Tm.known, h1, h2]), rfl⟩
  · have h1' : decide (-8 ≤ s) = false := by simpa using h1
    go_enter Try.func44, Try.ntmps44; go_wp2; go_ret; exact ⟨ret_bool (by simp [Tm.known]; omega), rfl⟩

/-- haspref.size, of a sign below 6. -/
theorem size_any (s : Int) (w : World) (h : s < 6) : Calls Try.prog 81 #[.int .i64 s] w fun e w' => e = .returned (.int .i64 (Tm.room s : Int)) ∧ w' = w := by
  by_cases h2 : s < 2
  · have e : Tm.room s = 0 := by unfold Tm.room; rw [if_neg (by omega), if_neg (by omega)]
    rw [e]; clear e
    go_enter Try.func81, Try.ntmps81; go_wp2; go_ret; exact ⟨rfl, rfl⟩
  by_cases h4 : s < 4
  · have e : Tm.room s = 1 := by unfold Tm.room; rw [if_pos (by omega)]
    rw [e]; clear e
    go_enter Try.func81, Try.ntmps81; go_wp2; go_ret; exact ⟨rfl, rfl⟩
  · have e : Tm.room s = 2 := by unfold Tm.room; rw [if_neg (by omega), if_pos (by omega)]
    rw [e]; clear e
    go_enter Try.func81, Try.ntmps81; go_wp2; go_ret; exact ⟨rfl, rfl⟩

/-- low ≤ n ≤ high, as a Bool that the walk does not take apart. -/
def insideB (n low high : Int) : Bool := decide (low ≤ n) && decide (n ≤ high)
theorem insideB_iff (n low high : Int) : insideB n low high = true ↔ low ≤ n ∧ n ≤ high := by simp [insideB]

set_option maxHeartbeats 400000 in
theorem within_any (n low high : Int) (w : World) : Calls Try.prog 80 #[.int .i64 n, .int .i64 low, .int .i64 high] w fun e w' => e = .returned (.bool (insideB n low high)) ∧ w' = w := by
  by_cases h1 : low ≤ n
  · by_cases h2 : n ≤ high
    · go_enter Try.func80, Try.ntmps80; go_wp2; go_ret; exact ⟨ret_bool (by simp [insideB, h1, h2]), rfl⟩
    · go_enter Try.func80, Try.ntmps80; go_wp2; go_ret; exact ⟨ret_bool (by simp [insideB, h1, h2]), rfl⟩
  · have h1' : decide (low ≤ n) = false := by simpa using h1
    go_enter Try.func80, Try.ntmps80; go_wp2; go_ret; exact ⟨ret_bool (by simp [insideB]; omega), rfl⟩

set_option maxHeartbeats 400000 in
theorem hasPlace_any (a : Option Addr) (len cap : Nat) (k : Int) (w : World) : Calls Try.prog 46 #[.slice a len cap, .int .i64 k] w fun e w' => e = .returned (.bool (insideB k 0 ((len : Int) - 1))) ∧ w' = w := by
  by_cases h1 : 0 ≤ k
  · by_cases h2 : k < (len : Int)
    · go_enter Try.func46, Try.ntmps46; go_wp2; go_ret; exact ⟨ret_bool (by simp [insideB]; omega), rfl⟩
    · go_enter Try.func46, Try.ntmps46; go_wp2; go_ret; exact ⟨ret_bool (by simp [insideB]; omega), rfl⟩
  · have h1' : decide (0 ≤ k) = false := by simpa using h1
    go_enter Try.func46, Try.ntmps46; go_wp2; go_ret; exact ⟨ret_bool (by simp [insideB]; omega), rfl⟩

end Go.Proofs.Ytjaikmlbajdedac

namespace Go.Proofs.Ytjaikmlbajdedac
open Go.Proofs Go.RowKit Go.Shelf

attribute [local go_sem] Oper.semAt_some

/-- THE SLICE AT a HOLDS THE ints zs, in a block below n. -/
def Ints (n : Nat) (W : World) (a : Option Addr) (zs : List Int) : Prop :=
  ∀ j, j < zs.length → ∃ b off, a = some ⟨b, off, none⟩ ∧ b < n ∧ W.cell? ⟨b, off + j, none⟩ = some (.int .i64 (zs[j]?.getD 0))
theorem Ints.below {n : Nat} {A B : World} (h : Below n A B) {a : Option Addr} {zs : List Int} (hi : Ints n A a zs) : Ints n B a zs := fun j hj => by
  obtain ⟨b, off, e, hb, hc⟩ := hi j hj
  exact ⟨b, off, e, hb, (h.cell (p := ⟨b, off + j, none⟩) hb).trans hc⟩
theorem Ints.mono {n m : Nat} (h : n ≤ m) {W : World} {a : Option Addr} {zs : List Int} (hi : Ints n W a zs) : Ints m W a zs := fun j hj => by
  obtain ⟨b, off, e, hb, hc⟩ := hi j hj
  exact ⟨b, off, e, by omega, hc⟩
theorem Ints.at {n : Nat} {W : World} {a : Option Addr} {zs : List Int} (hi : Ints n W a zs) (h : 0 < zs.length) :
    ∃ b off, a = some ⟨b, off, none⟩ ∧ b < n ∧ ∀ j, j < zs.length → W.cell? ⟨b, off + j, none⟩ = some (.int .i64 (zs[j]?.getD 0)) := by
  obtain ⟨b, off, rfl, hb, _⟩ := hi 0 h
  refine ⟨b, off, rfl, hb, fun j hj => ?_⟩
  obtain ⟨b', off', e, _, hc⟩ := hi j hj
  cases e
  exact hc

theorem cin {F : Fence} (hF : F = Fence.wide) {n : Nat} {P : Program} {f : FuncId} {args : Array Value} {w : World} {R : Ending → World → Prop} (h : Calls P f args w R) : CallsIn F n P f args w R := by
  subst hF; exact callsIn_wide.2 h
theorem grown_of_below {W W' : World} (h : Below W.heap.size W W') : W.grownBy W' none := ⟨h.os, h.tape, h.output, h.size, fun k hk _ => h.block k hk⟩

theorem wide_facts {F : Fence} (hF : F = Fence.wide) : F.round = none ∧ (∀ f, F.fn f) ∧ (∀ k : Nat, (F.depth.isSome = true → 1 ≤ k)) ∧
    (∀ {n : Nat} {P : Program} {f : FuncId} {args : Array Value} {w : World} {R : Ending → World → Prop}, Calls P f args w R → CallsIn F n P f args w R) := by
  subst hF
  exact ⟨rfl, fun _ => trivial, fun k h => by simp [Fence.wide] at h, fun h => callsIn_wide.2 h⟩

/-- What a round keeps: all below n, and the box that holds the term. -/
def Kept (n B : Nat) (W W' : World) : Prop := Below n W W' ∧ W'.heap[B]? = W.heap[B]?

set_option maxHeartbeats 400000 in
theorem parts_in (F : Fence) (hF : F = Fence.wide) (n : Nat) (a : Option Addr) (len cap : Nat) (k : Int) (w : World) :
    CallsIn F n Try.prog 70 #[.slice a len cap, .int .i64 k] w fun e w' => e = .returned (.func (.func 93) #[] #[.pointer (some ⟨w.heap.size + 1, 0, none⟩), .pointer (some ⟨w.heap.size, 0, none⟩)]) ∧
      w' = (w.alloc (.cells #[.slice a len cap] 23)).alloc (.cells #[.int .i64 k] 3) := by
  have hro : F.round = none := by subst hF; rfl
  have hfn : F.fn 70 := by subst hF; trivial
  refine callsIn_of_wp Try.func70 rfl hfn ?_ hro
  simp only [Try.ntmps70, List.size_toArray, List.length_cons, List.length_nil, Nat.reduceAdd, Nat.reduceSub, Array.replicate_succ, Array.replicate_zero, List.push_toArray, List.append_toArray, List.nil_append, List.cons_append]
  gi_wp2
  go_ret
  exact ⟨rfl, rfl⟩

set_option maxRecDepth 100000 in
set_option maxHeartbeats 1000000 in
/-- The iterator: for every loop body that keeps what lay below n₀, and the term's box. -/
theorem parts1_in (F : Fence) (hF : F = Fence.wide) (n l Bk Bt n₀ k cap : Nat) (a : Option Addr) (zs : List Int) (hlen : zs.length ≤ 30) (hk : k < zs.length)
    (hE : ∀ (p : Nat) (W : World), k < p → p ≤ 200 → Ints n₀ W a zs → n₀ ≤ W.heap.size → Calls Try.prog 45 #[.slice a zs.length cap, .int .i64 (p : Int)] W fun e W' => e = .returned (.int .i64 (Tm.endAt zs p : Int)) ∧ Below W.heap.size W W')
    (J Jx : List (Nat × Nat) → World → Prop) (W : World) (hJ : AbidesFrom W.heap.size J)
    (hY : ∀ pre x W, J pre W → pre.length < Tm.room (zs[k]?.getD 0) → YieldAt F (n - 1) Try.prog l #[.int .i64 (x.1 : Int), .int .i64 (x.2 : Int)] W fun e W' =>
      (e = .returned (.bool true) ∧ J (pre ++ [x]) W' ∧ Kept n₀ Bt W W') ∨ (e = .returned (.bool false) ∧ Jx (pre ++ [x]) W'))
    (hn₀ : n₀ ≤ W.heap.size) (hBk : W.cell? ⟨Bk, 0, none⟩ = some (.int .i64 (k : Int))) (hBt : W.cell? ⟨Bt, 0, none⟩ = some (.slice a zs.length cap)) (hBt' : Bt < W.heap.size) (hI : Ints n₀ W a zs) (h0 : J [] W) :
    CallsIn F n Try.prog 93 #[.func (.yield l) #[] #[], .pointer (some ⟨Bk, 0, none⟩), .pointer (some ⟨Bt, 0, none⟩)] W fun e W' => (∃ v, e = .returned v) ∧
      ((∃ ys, ys = Tm.parts zs k (Tm.room (zs[k]?.getD 0)) ∧ J ys W') ∨ (∃ pre, True ∧ Jx pre W')) := by
  obtain ⟨hro, hfn, hdd, hcin⟩ := wide_facts hF
  clear hF
  have hf55 := hfn 93
  have hf56 := hfn 94
  have hf32 := hfn 45
  have hr2 := Tm.room_le (zs[k]?.getD 0)
  obtain ⟨b, off, rfl, hb, hc⟩ := hI.at (by omega)
  have hck := hc k hk
  have hkl : (k : Int) < (zs.length : Int) := by omega
  have hroom : ∀ W, CallsIn F (n - 1) Try.prog 94 #[.int .i64 (zs[k]?.getD 0)] W fun e w' => e = .returned (.int .i64 (Tm.room (zs[k]?.getD 0) : Int)) ∧ w' = W := fun W => hcin (room_any _ W)
  generalize hrdef : Tm.room (zs[k]?.getD 0) = r at *
  clear hrdef
  generalize zs[k]?.getD 0 = s at *
  have HY := show Hid _ from hY
  have HE := show Hid _ from hE
  clear hY hE hc
  refine callsIn_of_wp Try.func93 rfl hf55 ?_ hro
  simp only [Try.ntmps93, List.size_toArray, List.length_cons, List.length_nil, Nat.reduceAdd, Nat.reduceSub, Array.replicate_succ, Array.replicate_zero, List.push_toArray, List.append_toArray, List.nil_append, List.cons_append]
  gi_wp2_with ((try refine ⟨hdd _, ?_⟩); gi_at_call 94; refine (hroom _).mono ?_; rintro e W ⟨rfl, rfl⟩)
  gi_loopw [4, 13] (fun p i wr => ∃ m : Nat, m ≤ r ∧ i = .int .i64 (m : Int) ∧ p = .int .i64 (Tm.pos zs k m : Int) ∧ J (Tm.parts zs k m) wr ∧ wr.heap[Bt]? = W.heap[Bt]? ∧ Below n₀ W wr ∧ W.heap.size ≤ wr.heap.size)
    (fun _ i _ => r - (intOf i).toNat)
  case atStart => exact ⟨0, Nat.zero_le _, rfl, by rw [Tm.pos_zero]; rfl, h0, rfl, Below.refl _ _, Nat.le_refl _⟩
  case round =>
    obtain ⟨m, hm, rfl, rfl, hJs, hT, hnx, hsz⟩ := hrel
    have hbt : wr.cell? ⟨Bt, 0, none⟩ = some (.slice (some ⟨b, off, none⟩) zs.length cap) := (World.cell?_of_block (a := ⟨Bt, 0, none⟩) hT).trans hBt
    by_cases hlt : m < r
    · have hlt' : (m : Int) < (r : Int) := by omega
      have h1 := (HE.out (Tm.pos zs k m) wr (Tm.pos_gt _ _ _) (by have := Tm.pos_le zs k m; omega) (hI.below hnx) (by omega)).mono (R' := fun e W1 => e = .returned (.int .i64 (Tm.pos zs k (m + 1) : Int)) ∧ YieldAt F (n - 1) Try.prog l #[.int .i64 (Tm.pos zs k m : Int), .int .i64 (Tm.pos zs k (m + 1) : Int)] W1 fun e W' =>
          (e = .returned (.bool true) ∧ J (Tm.parts zs k (m + 1)) W' ∧ Below n₀ W W' ∧ W'.heap[Bt]? = W.heap[Bt]? ∧ W.heap.size ≤ W'.heap.size) ∨ (e = .returned (.bool false) ∧ ∃ pre, Jx pre W'))
        (fun e W1 ⟨he, hB⟩ => ⟨by rw [Tm.pos_succ]; exact he, by
          have hg := grown_of_below hB
          have hJ1 := hJ _ _ _ none hJs hg (fun r e => by cases e)
          refine YieldAt.mono (HY.out _ (Tm.pos zs k m, Tm.pos zs k (m + 1)) W1 hJ1 (by rw [Tm.parts_length]; exact hlt)) fun e W2 h => h.elim (fun ⟨he, hj, hb2, hT2⟩ => .inl ⟨he, ?_, ?_, ?_, ?_⟩) (fun ⟨he, hx⟩ => .inr ⟨he, _, hx⟩)
          · rw [Tm.parts_succ]; exact hj
          · exact (hnx.trans (hB.mono (by omega))).trans hb2
          · exact hT2.trans ((hB.block Bt (by omega)).trans hT)
          · have := hB.size; have := hb2.size; omega⟩)
      have h1' := hcin (n := n - 1) h1
      clear h1
      gi_wp2_with (first
        | ((try refine ⟨hdd _, ?_⟩); gi_at_call 45; refine h1'.mono ?_; clear h1'; rintro e W1 ⟨rfl, fn, tmps, assign, body, hy, hR⟩)
        | ((try refine ⟨hdd _, ?_⟩); refine hR.mono ?_; clear hR; rintro e W2 (⟨rfl, hJ2, hb2, hT2, hs2⟩ | ⟨rfl, hx2⟩)))
      · exact ⟨⟨m + 1, by omega, by go_num, rfl, hJ2, hT2, hb2, hs2⟩, by simp [intOf]; omega⟩
      · obtain ⟨pre, hx2⟩ := hx2
        refine bodyPost_ret (results_none rfl _ _ _) rfl ?_
        exact ⟨⟨_, rfl⟩, .inr ⟨pre, trivial, hx2⟩⟩
    · obtain rfl : m = r := by omega
      have hlt' : ¬ (m : Int) < (m : Int) := by omega
      gi_wp2
      go_end0
      exact ⟨⟨_, rfl⟩, .inl hJs⟩

/-- The iterator value's contract. -/
theorem parts_stops (F : Fence) (hF : F = Fence.wide) (n Bk Bt n₀ k cap : Nat) (a : Option Addr) (zs : List Int) (hlen : zs.length ≤ 30) (hk : k < zs.length)
    (hE : ∀ (p : Nat) (W : World), k < p → p ≤ 200 → Ints n₀ W a zs → n₀ ≤ W.heap.size → Calls Try.prog 45 #[.slice a zs.length cap, .int .i64 (p : Int)] W fun e W' => e = .returned (.int .i64 (Tm.endAt zs p : Int)) ∧ Below W.heap.size W W')
    (w : World) (hn₀ : n₀ ≤ w.heap.size) (hBk' : Bk < w.heap.size) (hBt' : Bt < w.heap.size)
    (hBk : w.cell? ⟨Bk, 0, none⟩ = some (.int .i64 (k : Int))) (hBt : w.cell? ⟨Bt, 0, none⟩ = some (.slice a zs.length cap)) (hI : Ints n₀ w a zs) :
    SeqStopsK F n Try.prog 93 #[.pointer (some ⟨Bk, 0, none⟩), .pointer (some ⟨Bt, 0, none⟩)] (fun x : Nat × Nat => #[Value.int .i64 (x.1 : Int), Value.int .i64 (x.2 : Int)]) (Kept n₀ Bt)
      (fun ys => ys = Tm.parts zs k (Tm.room (zs[k]?.getD 0))) (fun _ => True) (Tm.room (zs[k]?.getD 0)) w := fun l J Jx W hW hJ _ hY h0 =>
  parts1_in F hF n l Bk Bt n₀ k cap a zs hlen hk hE J Jx W hJ hY (by have := hW.size; omega) ((hW.cell (p := ⟨Bk, 0, none⟩) hBk').trans hBk) ((hW.cell (p := ⟨Bt, 0, none⟩) hBt').trans hBt) (by have := hW.size; omega) (hI.below (hW.mono hn₀)) h0

end Go.Proofs.Ytjaikmlbajdedac

namespace Go.Proofs.Ytjaikmlbajdedac
open Go.Proofs Go.RowKit Go.Shelf

attribute [local go_sem] Oper.semAt_some

theorem kept_t {n B : Nat} {X Y Z : World} (h : Kept n B X Y) (k : Kept n B Y Z) : Kept n B X Z := ⟨h.1.trans k.1, k.2.trans h.2⟩
theorem kept_b {n B : Nat} {w : World} (hn : n ≤ w.heap.size) (hB : B < w.heap.size) (W : World) (l : Nat) (o o' : Obj) (hl : w.heap.size ≤ l) (h : W.heap[l]? = some o) (h1 : o.isCells = false) (h2 : o.isWalk = false) : Kept n B W (W.putObj l o') :=
  ⟨belowK_b hn W l o o' hl h h1 h2, World.putObj_heap_other (by omega)⟩

set_option maxHeartbeats 400000 in
/-- At a place beyond the list. -/
theorem end_out (a : Option Addr) (len cap k : Nat) (w : World) (hk : len ≤ k) (hk2 : k ≤ 200) :
    Calls Try.prog 45 #[.slice a len cap, .int .i64 (k : Int)] w fun e w' => e = .returned (.int .i64 ((k : Int) + 1)) ∧ Below w.heap.size w w' := by
  have h1 : (len : Int) ≤ (k : Int) := by omega
  have h2 : (k : Int) ≤ 200 := by omega
  have h3 : (0 : Int) ≤ (k : Int) := by omega
  go_enter Try.func45, Try.ntmps45
  go_wp2
  go_ret
  exact ⟨rfl, (Below.refl _ _).alloc (Nat.le_refl _) _⟩

set_option maxRecDepth 100000 in
set_option maxHeartbeats 1000000 in
theorem end_step (a : Option Addr) (cap k : Nat) (zs : List Int) (w : World) (hlen : zs.length ≤ 30) (hk : k < zs.length) (hI : Ints w.heap.size w a zs)
    (hE : ∀ (p : Nat) (W : World), k < p → p ≤ 200 → Ints w.heap.size W a zs → w.heap.size ≤ W.heap.size → Calls Try.prog 45 #[.slice a zs.length cap, .int .i64 (p : Int)] W fun e W' => e = .returned (.int .i64 (Tm.endAt zs p : Int)) ∧ Below W.heap.size W W') :
    Calls Try.prog 45 #[.slice a zs.length cap, .int .i64 (k : Int)] w fun e w' => e = .returned (.int .i64 (Tm.endAt zs k : Int)) ∧ Below w.heap.size w w' := by
  obtain ⟨F, hF⟩ : ∃ F, F = Fence.wide := ⟨_, rfl⟩
  refine (callsIn_wide (n := 3)).1 ?_
  rw [← hF]
  obtain ⟨hro, hfn, hdd, hcin⟩ := wide_facts hF
  have HF : Hid (F = Fence.wide) := hF
  have HE := show Hid _ from hE
  clear hF hE
  have hf32 := hfn 45
  have hf49 := hfn 70
  have hf55 := hfn 93
  have hlt : (k : Int) < (zs.length : Int) := by omega
  have h30 : (zs.length : Int) ≤ 30 := by omega
  have hk0 : (0 : Int) ≤ (k : Int) := by omega
  rw [Tm.endAt_in zs k hk]
  refine callsIn_of_wp_marks Try.func45 rfl hf32 ?_ hro
  simp only [Try.ntmps45, List.size_toArray, List.length_cons, List.length_nil, Nat.reduceAdd, Nat.reduceSub, Array.replicate_succ, Array.replicate_zero, List.push_toArray, List.append_toArray, List.nil_append, List.cons_append]
  gi_wp2_with ((try refine ⟨hdd _, ?_⟩); gi_at_call 70; refine (parts_in F HF.out _ _ _ _ _ _).mono ?_; rintro e w' ⟨rfl, rfl⟩)
  have bE := Boxed.new w 3 (.int .i64 ((k : Int) + 1))
  have bT := Boxed.new (w.alloc (.cells #[.int .i64 ((k : Int) + 1)] 3)) 23 (.slice a zs.length cap)
  have bK := Boxed.new ((w.alloc (.cells #[.int .i64 ((k : Int) + 1)] 3)).alloc (.cells #[.slice a zs.length cap] 23)) 3 (.int .i64 (k : Int))
  rw [World.size_alloc] at bT
  rw [World.size_alloc, World.size_alloc] at bK
  have hB0 : Below w.heap.size w (((w.alloc (.cells #[.int .i64 ((k : Int) + 1)] 3)).alloc (.cells #[.slice a zs.length cap] 23)).alloc (.cells #[.int .i64 (k : Int)] 3)) := (((Below.refl _ w).alloc (Nat.le_refl _) _).alloc (by simp) _).alloc (by simp; omega) _
  refine wpIn_rangeFunc_ownG hro (by omega) (gf := 93) (lb := #[.pointer (some ⟨w.heap.size + 1 + 1, 0, none⟩), .pointer (some ⟨w.heap.size + 1, 0, none⟩)]) rfl hf55 (enters_of Try.func93 (by kernel_rfl) rfl)
    (parts_stops F HF.out _ (w.heap.size + 1 + 1) (w.heap.size + 1) w.heap.size k cap a zs hlen hk HE.out _ (by simp; omega) (by simp) (by simp) bK.cell (bT.alloc _).cell (hI.below hB0)) kept_t (kept_b (by simp; omega) (by simp)) (Below.refl _ _) (fun _ => rfl)
    (fun pre W => (W.cell? ⟨w.heap.size, 0, none⟩ = some (.int .i64 (Tm.lastEnd k pre : Int)) ∧ W.frozen? ⟨w.heap.size, 0, none⟩ = false) ∧ Below w.heap.size w W)
    (fun _ _ _ => False)
    (OwnFrom.and (Own.from (fun s X Y row hs hg hr => ⟨cell_kept hs.1 hg hr, (frozen_kept hs.1 hg hr).trans hs.2⟩) _) (ownFrom_below (Nat.le_refl _) (by simp; omega)))
    (fun _ _ _ _ _ hs _ _ => hs)
    ⟨⟨((bE.alloc _).alloc _).cell, ((bE.alloc _).alloc _).frozen⟩, hB0⟩
    (fun x => { tmps := #[.slice a zs.length cap, .int .i64 (k : Int), undef, undef, .int .i64 0, .pointer (some ⟨w.heap.size, 0, none⟩), undef, .int .i64 (x.2 : Int), .int .i64 (k : Int), .int .i64 ((k : Int) + 1), .int .i64 (k : Int), .slice a zs.length cap,
      .int .i64 (zs.length : Int), .bool false, undef, .slice a zs.length cap, .int .i64 (k : Int), .func (.func 93) #[] #[.pointer (some ⟨w.heap.size + 1 + 1, 0, none⟩), .pointer (some ⟨w.heap.size + 1, 0, none⟩)], .int .i64 (x.1 : Int), .int .i64 (x.2 : Int), undef, undef], defers := [] }) ?assign ?body ?done ?stop
  case assign =>
    intro l x W K hK
    gi_wp2
    exact hK
  case body =>
    rintro l pre x W ⟨⟨hc, hf⟩, hB⟩ _
    gi_wp2
    exact ⟨(KeepsOthers.setCell _ _ _).from _, ⟨(Below.refl w.heap.size W).setCell (p := ⟨w.heap.size, 0, none⟩) (Nat.le_refl _) _, Below.heap_setCell W ⟨w.heap.size, 0, none⟩ _ _ (by simp)⟩,
      ⟨by rw [Tm.lastEnd_snoc]; exact World.cell?_setCell_same' _ _ _ (by rw [hc]; rfl), by rw [World.frozen?_setCell]; exact hf⟩, hB.setCell (p := ⟨w.heap.size, 0, none⟩) (Nat.le_refl _) _⟩
  case done =>
    rintro D ys W hD rfl ⟨⟨hc, _⟩, hB⟩ hK
    rw [Tm.lastEnd_parts] at hc
    gi_wp2
    refine ⟨by simp, .inl ⟨_, _, rfl, run_takeDeferred hK, ?_⟩⟩
    exact ⟨_, results_tmp rfl _ _ _, by simp [hk], hB.trans (belowK_b (w := w) (Nat.le_refl _) W D _ _ (by simp at hD; omega) hK rfl rfl)⟩
  case stop =>
    rintro D c pre W _ _ h _
    exact h.elim

/-- signs.End. -/
theorem end_all (zs : List Int) (hlen : zs.length ≤ 30) (a : Option Addr) (cap : Nat) : ∀ (m k : Nat), zs.length - k ≤ m → k ≤ 200 → ∀ w : World, Ints w.heap.size w a zs →
    Calls Try.prog 45 #[.slice a zs.length cap, .int .i64 (k : Int)] w fun e w' => e = .returned (.int .i64 (Tm.endAt zs k : Int)) ∧ Below w.heap.size w w' := by
  intro m
  induction m with
  | zero =>
    intro k hm hk w hI
    rw [Tm.endAt_out zs k (by omega)]
    exact end_out a zs.length cap k w (by omega) hk
  | succ m ih =>
    intro k hm hk w hI
    by_cases hlt : k < zs.length
    · exact end_step a cap k zs w hlen hlt hI (fun p W h1 h2 h3 h4 => ih p (by omega) h2 W (h3.mono h4))
    · rw [Tm.endAt_out zs k (by omega)]
      exact end_out a zs.length cap k w (by omega) hk

theorem end_any (zs : List Int) (hlen : zs.length ≤ 30) (a : Option Addr) (cap k : Nat) (hk : k ≤ 200) (w : World) (hI : Ints w.heap.size w a zs) :
    Calls Try.prog 45 #[.slice a zs.length cap, .int .i64 (k : Int)] w fun e w' => e = .returned (.int .i64 (Tm.endAt zs k : Int)) ∧ Below w.heap.size w w' :=
  end_all zs hlen a cap _ k (Nat.le_refl _) hk w hI

end Go.Proofs.Ytjaikmlbajdedac

namespace Go.Proofs.Ytjaikmlbajdedac
open Go.Proofs Go.RowKit Go.Shelf

theorem Tm.err_many {zs : List Int} (h : 30 < zs.length) : Tm.err zs = 2 := by simp [Tm.err, h]
theorem Tm.err_range {zs : List Int} (h : zs.length ≤ 30) {k : Nat} (hk : k < zs.length) (hs : Tm.known (zs[k]?.getD 0) = false) : Tm.err zs = 3 := by
  have : zs.all Tm.known = false := by
    rw [List.all_eq_false]
    exact ⟨zs[k], List.getElem_mem hk, by simpa [hk] using hs⟩
  simp only [Tm.err, this]
  rw [if_neg (by omega)]
  rfl
theorem Tm.err_ok {zs : List Int} (h : zs.length ≤ 30) (ha : zs.all Tm.known = true) (hr : Tm.run zs 1 = zs.length) : Tm.err zs = 0 := by
  simp only [Tm.err, ha, hr]
  rw [if_neg (by omega)]
  rfl
theorem Tm.err_form {zs : List Int} (h : zs.length ≤ 30) (ha : zs.all Tm.known = true) (hr : Tm.run zs 1 ≠ zs.length) : Tm.err zs = 1 := by
  simp only [Tm.err, ha]
  rw [if_neg (by omega), if_neg (by simp), if_neg hr]
theorem Tm.all_snoc {zs : List Int} {k : Nat} (hk : k < zs.length) (h : (zs.take k).all Tm.known = true) (hs : Tm.known (zs[k]?.getD 0) = true) : (zs.take (k + 1)).all Tm.known = true := by
  rw [List.take_succ_eq_append_getElem hk, List.all_append, h]
  simpa [hk] using hs
theorem Tm.endAt_zero (zs : List Int) : Tm.endAt zs 0 = Tm.run zs 1 := by simp [Tm.endAt]

theorem end_zero (zs : List Int) (hlen : zs.length ≤ 30) (a : Option Addr) (cap : Nat) (w : World) (hI : Ints w.heap.size w a zs) :
    Calls Try.prog 45 #[.slice a zs.length cap, .int .i64 0] w fun e w' => e = .returned (.int .i64 (Tm.run zs 1 : Int)) ∧ Below w.heap.size w w' := by
  have h := end_any zs hlen a cap 0 (by omega) w hI
  rw [Tm.endAt_zero] at h
  exact h

set_option maxHeartbeats 400000 in
theorem check_many (len : Nat) (a : Option Addr) (cap : Nat) (w : World) (hlen : 30 < len) :
    Calls Try.prog 22 #[.slice a len cap] w fun e w' => e = .returned (.int .i64 2) ∧ Below w.heap.size w w' := by
  have h1 : (30 : Int) < (len : Int) := by omega
  go_enter Try.func22, Try.ntmps22
  go_wp2
  go_ret
  exact ⟨rfl, Below.refl _ _⟩

set_option maxRecDepth 100000 in
set_option maxHeartbeats 1000000 in
theorem check_few (zs : List Int) (hlen : zs.length ≤ 30) (a : Option Addr) (cap : Nat) (w : World) (hI : Ints w.heap.size w a zs) :
    Calls Try.prog 22 #[.slice a zs.length cap] w fun e w' => e = .returned (.int .i64 (Tm.err zs)) ∧ Below w.heap.size w w' := by
  have h1 : (zs.length : Int) ≤ 30 := by omega
  go_enter Try.func22, Try.ntmps22
  go_wp2
  go_loop [10] (fun i => ∃ k : Nat, k ≤ zs.length ∧ i = .int .i64 (k : Int) ∧ (zs.take k).all Tm.known = true) (fun i => zs.length - (intOf i).toNat)
  case atStart => exact ⟨0, Nat.zero_le _, rfl, by simp⟩
  case round =>
    obtain ⟨k, hk, rfl, hall⟩ := hrel
    by_cases hlt : k < zs.length
    · have hlt' : (k : Int) < (zs.length : Int) := by omega
      obtain ⟨b, off, rfl, hb, hc⟩ := hI.at (by omega)
      have hck := hc k hlt
      have hsn := Tm.all_snoc hlt hall
      have her := Tm.err_range hlen hlt
      clear hc hI hall
      generalize zs[k]?.getD 0 = s at *
      cases hkn : Tm.known s with
      | true =>
        have hsn' := show Hid _ from hsn hkn
        clear hsn her
        go_wp2_with (go_at_call 44; refine (known_any _ _).mono ?_; rw [hkn]; rintro e w ⟨rfl, rfl⟩)
        go_round
        case rel => exact ⟨k + 1, by omega, by go_num, hsn'.out⟩
        case measure => simp [intOf]; omega
      | false =>
        have her' := show Hid _ from her hkn
        clear hsn her
        go_wp2_with (go_at_call 44; refine (known_any _ _).mono ?_; rw [hkn]; rintro e w ⟨rfl, rfl⟩)
        go_ret
        exact ⟨by rw [her'.out]; rfl, Below.refl _ _⟩
    · obtain rfl : k = zs.length := by omega
      rw [List.take_length] at hall
      by_cases hr : Tm.run zs 1 = zs.length
      · have he := show Hid _ from Tm.err_ok hlen hall hr
        have hne : ((Tm.run zs 1 : Int) != (zs.length : Int)) = false := by simp [hr]
        have hE := end_zero zs hlen a cap w hI
        clear hall hr hI
        generalize Tm.run zs 1 = q at *
        go_wp2_with (go_at_call 45; refine hE.mono ?_; clear hE; rintro e w1 ⟨rfl, hB⟩)
        go_ret
        exact ⟨by rw [he.out]; rfl, hB⟩
      · have he := show Hid _ from Tm.err_form hlen hall hr
        have hne : ((Tm.run zs 1 : Int) != (zs.length : Int)) = true := by simp; omega
        have hE := end_zero zs hlen a cap w hI
        clear hall hr hI
        generalize Tm.run zs 1 = q at *
        go_wp2_with (go_at_call 45; refine hE.mono ?_; clear hE; rintro e w1 ⟨rfl, hB⟩)
        go_ret
        exact ⟨by rw [he.out]; rfl, hB⟩

/-- term.Check. -/
theorem check_any (zs : List Int) (a : Option Addr) (cap : Nat) (w : World) (hI : Ints w.heap.size w a zs) :
    Calls Try.prog 22 #[.slice a zs.length cap] w fun e w' => e = .returned (.int .i64 (Tm.err zs)) ∧ Below w.heap.size w w' := by
  by_cases h : zs.length ≤ 30
  · exact check_few zs h a cap w hI
  · rw [Tm.err_many (by omega)]
    exact check_many _ a cap w (by omega)

end Go.Proofs.Ytjaikmlbajdedac

namespace Go.Proofs.Ytjaikmlbajdedac
open Go.Proofs Go.RowKit Go.Shelf

theorem inside_known (s : Int) : insideB s (-8) 5 = Tm.known s := by
  unfold insideB Tm.known
  congr 1
  simp only [decide_eq_decide]
  omega
theorem Tm.known_lt {s : Int} (h : Tm.known s = true) : s < 6 := by simp [Tm.known] at h; omega
theorem Tm.known_ge {s : Int} (h : Tm.known s = true) : -8 ≤ s := by simp [Tm.known] at h; omega
theorem Tm.all_at {zs : List Int} (h : zs.all Tm.known = true) {k : Nat} (hk : k < zs.length) : Tm.known (zs[k]?.getD 0) = true := by
  rw [List.all_eq_true] at h
  simpa [hk] using h zs[k] (List.getElem_mem hk)
theorem Tm.run_step {zs : List Int} {k o : Nat} (hk : k < zs.length) : Tm.run (zs.drop k) (o + 1) = 1 + Tm.run (zs.drop (k + 1)) (o + Tm.room (zs[k]?.getD 0)) := by
  rw [List.drop_eq_getElem_cons hk, Tm.run_cons]
  simp [hk]

set_option maxHeartbeats 400000 in
theorem termError_many (len : Nat) (a : Option Addr) (cap : Nat) (w : World) (hlen : 30 < len) :
    Calls Try.prog 56 #[.slice a len cap] w fun e w' => e = .returned (.int .i64 2) ∧ w' = w := by
  have h1 : (30 : Int) < (len : Int) := by omega
  go_enter Try.func56, Try.ntmps56
  go_wp2
  go_ret
  exact ⟨rfl, rfl⟩

set_option maxRecDepth 100000 in
set_option maxHeartbeats 1000000 in
theorem termError_few (zs : List Int) (hlen : zs.length ≤ 30) (a : Option Addr) (cap : Nat) (w : World) (hI : Ints w.heap.size w a zs) :
    Calls Try.prog 56 #[.slice a zs.length cap] w fun e w' => e = .returned (.int .i64 (Tm.err zs)) ∧ w' = w := by
  have h1 : (zs.length : Int) ≤ 30 := by omega
  go_enter Try.func56, Try.ntmps56
  go_wp2
  go_loop [3] (fun i => ∃ k : Nat, k ≤ zs.length ∧ i = .int .i64 (k : Int) ∧ (zs.take k).all Tm.known = true) (fun i => zs.length - (intOf i).toNat)
  case atStart => exact ⟨0, Nat.zero_le _, rfl, by simp⟩
  case round =>
    obtain ⟨k, hk, rfl, hall⟩ := hrel
    by_cases hlt : k < zs.length
    · have hlt' : (k : Int) < (zs.length : Int) := by omega
      obtain ⟨b, off, rfl, hb, hc⟩ := hI.at (by omega)
      have hck := hc k hlt
      have hsn := Tm.all_snoc hlt hall
      have her := Tm.err_range hlen hlt
      clear hc hI hall
      generalize zs[k]?.getD 0 = s at *
      cases hkn : Tm.known s with
      | true =>
        have hsn' := show Hid _ from hsn hkn
        clear hsn her
        go_wp2_with (go_at_call 80; refine (within_any _ _ _ _).mono ?_; rw [inside_known, hkn]; rintro e w ⟨rfl, rfl⟩)
        go_round
        case rel => exact ⟨k + 1, by omega, by go_num, hsn'.out⟩
        case measure => simp [intOf]; omega
      | false =>
        have her' := show Hid _ from her hkn
        clear hsn her
        go_wp2_with (go_at_call 80; refine (within_any _ _ _ _).mono ?_; rw [inside_known, hkn]; rintro e w ⟨rfl, rfl⟩)
        go_ret
        exact ⟨by rw [her'.out]; rfl, rfl⟩
    · obtain rfl : k = zs.length := by omega
      rw [List.take_length] at hall
      have Hall := show Hid _ from hall
      clear hall
      go_wp2
      go_loop [4, 5] (fun o i => ∃ k n : Nat, k ≤ zs.length ∧ n ≤ k + 1 ∧ i = .int .i64 (k : Int) ∧ o = .int .i64 (n : Int) ∧ Tm.run zs 1 = k + Tm.run (zs.drop k) n) (fun _ i => zs.length - (intOf i).toNat)
      case atStart => exact ⟨0, 1, Nat.zero_le _, by omega, rfl, rfl, by simp⟩
      case round =>
        obtain ⟨k, n, hk, hn, rfl, rfl, hrun⟩ := hrel
        have Hrun := show Hid _ from hrun
        clear hrun
        by_cases hlt : k < zs.length
        · have hlt' : (k : Int) < (zs.length : Int) := by omega
          by_cases hn0 : n = 0
          · subst hn0
            have he := show Hid _ from Tm.err_form hlen Hall.out (by rw [Hrun.out, Tm.run_zero]; omega)
            clear hI
            go_wp2
            go_ret
            exact ⟨by rw [he.out]; rfl, rfl⟩
          · obtain ⟨m, rfl⟩ : ∃ m, n = m + 1 := ⟨n - 1, by omega⟩
            have hn0' : (((m + 1 : Nat) : Int) == 0) = false := by simp; omega
            obtain ⟨b, off, rfl, hb, hc⟩ := hI.at (by omega)
            have hck := hc k hlt
            have hs6 := Tm.known_lt (Tm.all_at Hall.out hlt)
            have hst := show Hid _ from Tm.run_step (o := m) hlt
            have hr2 := Tm.room_le (zs[k]?.getD 0)
            clear hc hI
            generalize zs[k]?.getD 0 = s at *
            have hsz := size_any s w hs6
            generalize Tm.room s = r at *
            go_wp2_with (go_at_call 81; refine hsz.mono ?_; clear hsz; rintro e w ⟨rfl, rfl⟩)
            go_round
            case rel => exact ⟨k + 1, m + r, by omega, by omega, by go_num, by go_num, by rw [Hrun.out, hst.out]; omega⟩
            case measure => simp [intOf]; omega
        · obtain rfl : k = zs.length := by omega
          have hrn : Tm.run zs 1 = zs.length + n := by rw [Hrun.out, List.drop_length, Tm.run_nil]
          by_cases hn0 : n = 0
          · subst hn0
            have he := show Hid _ from Tm.err_ok hlen Hall.out (by omega)
            clear hI hrn
            go_wp2
            go_ret
            exact ⟨by rw [he.out]; rfl, rfl⟩
          · have he := show Hid _ from Tm.err_form hlen Hall.out (by omega)
            have hn0' : ((n : Int) != 0) = true := by simp; omega
            clear hI hrn
            go_wp2
            go_ret
            exact ⟨by rw [he.out]; rfl, rfl⟩

/-- haspref.TermError. -/
theorem termError_any (zs : List Int) (a : Option Addr) (cap : Nat) (w : World) (hI : Ints w.heap.size w a zs) :
    Calls Try.prog 56 #[.slice a zs.length cap] w fun e w' => e = .returned (.int .i64 (Tm.err zs)) ∧ w' = w := by
  by_cases h : zs.length ≤ 30
  · exact termError_few zs h a cap w hI
  · rw [Tm.err_many (by omega)]
    exact termError_many _ a cap w (by omega)

end Go.Proofs.Ytjaikmlbajdedac

namespace Go.Proofs.Ytjaikmlbajdedac
open Go.Proofs Go.RowKit Go.Shelf

/-- Are the lists the same? (a Bool that the walk does not take apart) -/
def sameB (xs ys : List Int) : Bool := decide (xs = ys)

theorem take_snoc {zs : List Int} {k : Nat} (h : k < zs.length) : zs.take (k + 1) = zs.take k ++ [zs[k]?.getD 0] := by
  rw [List.take_succ_eq_append_getElem h]; simp [h]
theorem same_step {xs ys : List Int} {k : Nat} (hx : k < xs.length) (hy : k < ys.length) (h : xs.take k = ys.take k) (he : xs[k]?.getD 0 = ys[k]?.getD 0) : xs.take (k + 1) = ys.take (k + 1) := by
  rw [take_snoc hx, take_snoc hy, h, he]
theorem same_not {xs ys : List Int} {k : Nat} (he : xs[k]?.getD 0 ≠ ys[k]?.getD 0) : sameB xs ys = false := by
  simp only [sameB, decide_eq_false_iff_not]
  rintro rfl
  exact he rfl
theorem same_len {xs ys : List Int} (h : xs.length ≠ ys.length) : sameB xs ys = false := by
  simp only [sameB, decide_eq_false_iff_not]
  rintro rfl
  exact h rfl
theorem same_yes {xs ys : List Int} (h : xs.take xs.length = ys.take xs.length) (hl : xs.length = ys.length) : sameB xs ys = true := by
  simp only [sameB, decide_eq_true_eq]
  rw [List.take_length, hl, List.take_length] at h
  exact h

set_option maxRecDepth 100000 in
set_option maxHeartbeats 1000000 in
theorem same_any (xs ys : List Int) (a b : Option Addr) (ca cb : Nat) (w : World) (hX : Ints w.heap.size w a xs) (hY : Ints w.heap.size w b ys) (hm : xs.length ≤ maxLen) :
    Calls Try.prog 10 #[.slice a xs.length ca, .slice b ys.length cb] w fun e w' => e = .returned (.bool (sameB xs ys)) ∧ Below w.heap.size w w' := by
  unfold maxLen at hm
  by_cases hl : xs.length = ys.length
  · have hne : ((xs.length : Int) != (ys.length : Int)) = false := by simp [hl]
    have Hl : Hid (xs.length = ys.length) := hl
    clear hl
    go_enter Try.func10, Try.ntmps10
    go_wp2
    go_loopw [5] (fun i wr => ∃ k : Nat, k ≤ xs.length ∧ i = .int .i64 (k : Int) ∧ Hid (xs.take k = ys.take k) ∧ Below w.heap.size w wr) (fun i _ => xs.length - (intOf i).toNat)
    case atStart => exact ⟨0, Nat.zero_le _, rfl, by simp [Hid], Below.refl _ _⟩
    case round =>
      obtain ⟨k, hk, rfl, hsame, hB⟩ := hrel
      by_cases hlt : k < xs.length
      · have hlt' : (k : Int) < (xs.length : Int) := by omega
        have hly : k < ys.length := by have := Hl.out; omega
        have hly' : (k : Int) < (ys.length : Int) := by omega
        obtain ⟨b1, off1, rfl, hb1, hc1⟩ := (hX.below hB).at (by omega)
        obtain ⟨b2, off2, rfl, hb2, hc2⟩ := (hY.below hB).at (by omega)
        have hx := hc1 k hlt
        have hy := hc2 k hly
        have hst := show Hid _ from @same_step xs ys k hlt hly hsame.out
        have hno := show Hid _ from @same_not xs ys k
        clear hc1 hc2 hX hY hly
        generalize xs[k]?.getD 0 = s at *
        generalize ys[k]?.getD 0 = u at *
        by_cases he : s = u
        · have hn : (s != u) = false := by simp [he]
          have He : Hid (s = u) := he
          clear he hno
          go_wp2
          go_quiet (fail)
          go_wp2
          go_roundw
          case rel => exact ⟨k + 1, by omega, by go_num, hst.out He.out, below_drewN hB _⟩
          case measure => simp [intOf]; omega
        · have hn : (s != u) = true := by simp [he]
          have hf := show Hid _ from hno.out he
          clear he hno hst
          go_wp2
          go_quiet (fail)
          go_wp2
          go_ret
          exact ⟨by rw [hf.out]; rfl, below_drewN hB _⟩
      · obtain rfl : k = xs.length := by omega
        have hy := show Hid _ from same_yes hsame.out Hl.out
        clear hX hY
        go_wp2
        go_ret
        exact ⟨by rw [hy.out]; rfl, hB⟩
  · have hne : ((xs.length : Int) != (ys.length : Int)) = true := by simp; omega
    rw [same_len hl]
    clear hl hX hY
    go_enter Try.func10, Try.ntmps10
    go_wp2
    go_ret
    exact ⟨rfl, Below.refl _ _⟩

end Go.Proofs.Ytjaikmlbajdedac

namespace Go.Proofs.Ytjaikmlbajdedac
open Go.Proofs Go.RowKit Go.Shelf

/-- Check's error, and the place's. -/
def Tm.placeErr (zs : List Int) (k : Int) : Int := if Tm.err zs = 0 then (if insideB k 0 ((zs.length : Int) - 1) = true then 0 else 3) else Tm.err zs
theorem Tm.err_len {zs : List Int} (h : Tm.err zs = 0) : zs.length ≤ 30 := by
  by_cases h30 : 30 < zs.length
  · rw [Tm.err_many h30] at h; omega
  · omega
theorem Tm.err_all {zs : List Int} (h : Tm.err zs = 0) : zs.all Tm.known = true := by
  have hl := Tm.err_len h
  unfold Tm.err at h
  rw [if_neg (by omega)] at h
  by_cases ha : zs.all Tm.known = false
  · rw [if_pos ha] at h; omega
  · simpa using ha
theorem Tm.err_run {zs : List Int} (h : Tm.err zs = 0) : Tm.run zs 1 = zs.length := by
  have hl := Tm.err_len h
  have ha := Tm.err_all h
  unfold Tm.err at h
  rw [if_neg (by omega), if_neg (by simp [ha])] at h
  by_cases hr : Tm.run zs 1 = zs.length
  · exact hr
  · rw [if_neg hr] at h; omega

theorem Try.info124 : (Try.prog.info? 124).map (fun i => (i.zero, i.size, i.bytes)) = some (some (.pointer none), 1, 8) := by kernel_rfl

/-- BLOCK X IS A NODE: its sign; the slice of its parts. -/
def Node (W : World) (X : Nat) (s : Int) (v : Value) : Prop := W.heap[X]? = some (.cells #[.int .i64 s, v] 135 (0, 0))
theorem Node.cell0 {W : World} {X : Nat} {s : Int} {v : Value} (h : Node W X s v) : W.cell? ⟨X, 0, none⟩ = some (.int .i64 s) := by simp [World.cell?, show W.heap[X]? = _ from h]
theorem Node.cell1 {W : World} {X : Nat} {s : Int} {v : Value} (h : Node W X s v) : W.cell? ⟨X, 1, none⟩ = some v := by simp [World.cell?, show W.heap[X]? = _ from h]
theorem Node.frozen {W : World} {X : Nat} {s : Int} {v : Value} (h : Node W X s v) : W.frozen? ⟨X, 1, none⟩ = false := by simp [World.frozen?, show W.heap[X]? = _ from h]
theorem Node.lt {W : World} {X : Nat} {s : Int} {v : Value} (h : Node W X s v) : X < W.heap.size := (Array.getElem?_eq_some_iff.1 h).1
theorem Node.kept {W W' : World} {row : Option Nat} {X : Nat} {s : Int} {v : Value} (h : Node W X s v) (hg : W.grownBy W' row) (hne : some X ≠ row) : Node W' X s v := (hg.block X h.lt hne).trans h
theorem Node.set {W : World} {X : Nat} {s : Int} {v : Value} (v' : Value) (h : Node W X s v) : Node (W.setCell ⟨X, 1, none⟩ v') X s v' := by
  obtain ⟨hlt, hk⟩ := Array.getElem?_eq_some_iff.1 h
  show (W.heap.modify X _)[X]? = _
  rw [Array.getElem?_eq_getElem (by rw [Array.size_modify]; exact hlt), Array.getElem_modify_self, hk]
  rfl
theorem grownBy_setCell1 (W : World) (b o : Nat) (v : Value) : W.grownBy (W.setCell ⟨b, o, none⟩ v) (some b) :=
  ⟨rfl, rfl, rfl, (KeepsWalks.setCell W _ v).size, fun k _ hk => Below.heap_setCell _ _ _ k (fun e => hk (by rw [e]))⟩

theorem Node.appended {W w2 : World} {X : Nat} {s : Int} {v v' : Value} {e : TypeId} {n m : Nat} {xs ys : List Value} {tmp : Obj}
    (hN : Node W X s v) (hrow : W.ownsRow (X + 1) e 1 v n xs) (hown : w2.ownsRow (X + 1) e 1 v' m ys) (hgrow : (W.alloc tmp).grownBy w2 v.ownBlock) :
    Node w2 X s v ∧ Node (w2.setCell ⟨X, 1, none⟩ v') X s v' ∧ (w2.setCell ⟨X, 1, none⟩ v').ownsRow (X + 1) e 1 v' m ys ∧ Below X W (w2.setCell ⟨X, 1, none⟩ v') := by
  have h1 : ∀ k, v.ownBlock = some k → X + 1 ≤ k := fun k h => (hrow.lt k h).1
  have h2 : ∀ k, v'.ownBlock = some k → X + 1 ≤ k := fun k h => (hown.lt k h).1
  have hN2 : Node w2 X s v := (hN.kept (World.grownBy_alloc W tmp none) (by simp)).kept hgrow (fun e => by have := h1 X e.symm; omega)
  refine ⟨hN2, hN2.set v', hown.kept (grownBy_setCell1 w2 X 1 v') (.inr fun e => by have := h2 X e; omega), ?_⟩
  have hX := hN.lt
  exact (((Below.refl X W).alloc (by omega) tmp).grown hgrow (by simp; omega) (fun k e => by have := h1 k e; omega)).setCell (p := ⟨X, 1, none⟩) (Nat.le_refl _) v'

theorem own_form {W : World} {base : Nat} {e : TypeId} {v : Value} {n : Nat} {xs : List Value} (h : W.ownsRow base e 1 v n xs) : ∃ ao c, v = .slice ao n c := by
  rcases h.2 with ⟨rfl, rfl⟩ | ⟨g, cap, _, rfl, _⟩
  · exact ⟨_, _, rfl⟩
  · exact ⟨_, _, rfl⟩

theorem Tm.pos_mono (t : List Int) (k i j : Nat) (h : i ≤ j) : Tm.pos t k i ≤ Tm.pos t k j := by
  induction j with
  | zero => have : i = 0 := by omega
            subst this; omega
  | succ j ih =>
    by_cases e : i = j + 1
    · subst e; omega
    · have := ih (by omega); rw [Tm.pos_succ]; have := Tm.endAt_gt t (Tm.pos t k j); omega

/-- The slice at a, of zs, moved on by e: in Go's way its address stays where nothing is left of its capacity. -/
theorem Ints.drop {n : Nat} {W : World} {b off : Nat} {zs : List Int} (h : Ints n W (some ⟨b, off, none⟩) zs) (e : Nat) : Ints n W (some ⟨b, off + e, none⟩) (zs.drop e) := fun j hj => by
  rw [List.length_drop] at hj
  obtain ⟨b', off', he, hb, hc⟩ := h (e + j) (by omega)
  cases he
  refine ⟨b, off + e, rfl, hb, ?_⟩
  rw [show off + e + j = off + (e + j) from by omega, hc]
  simp
theorem Ints.nil (n : Nat) (W : World) (a : Option Addr) : Ints n W a [] := fun j hj => by simp at hj

set_option maxRecDepth 100000 in
set_option maxHeartbeats 1000000 in
theorem grown_step (zs : List Int) (a : Option Addr) (cap : Nat) (w : World) (hlen : zs.length ≤ 30) (h0 : 0 < zs.length) (hall : zs.all Tm.known = true) (hrun : Tm.run zs 1 ≤ zs.length) (hcap : zs.length ≤ cap) (hcap2 : cap ≤ maxLen)
    (hI : Ints w.heap.size w a zs)
    (ih : ∀ (e : Nat) (a' : Option Addr) (cap' : Nat) (W : World), 0 < e → e < zs.length → Tm.run (zs.drop e) 1 ≤ zs.length - e → zs.length - e ≤ cap' → cap' ≤ maxLen → Ints W.heap.size W a' (zs.drop e) →
      Calls Try.prog 102 #[.slice a' (zs.length - e) cap'] W fun r w' => ∃ p a2 c2, r = .returned (.tuple #[.pointer p, .slice a2 (zs.length - Tm.endAt zs e) c2]) ∧ Below W.heap.size W w' ∧ (∀ n X, Ints n X a' (zs.drop e) → Ints n X a2 (zs.drop (Tm.endAt zs e))) ∧ zs.length - Tm.endAt zs e ≤ c2 ∧ c2 ≤ maxLen) :
    Calls Try.prog 102 #[.slice a zs.length cap] w fun r w' => ∃ p a2 c2, r = .returned (.tuple #[.pointer p, .slice a2 (zs.length - Tm.run zs 1) c2]) ∧ Below w.heap.size w w' ∧ (∀ n X, Ints n X a zs → Ints n X a2 (zs.drop (Tm.run zs 1))) ∧ zs.length - Tm.run zs 1 ≤ c2 ∧ c2 ≤ maxLen := by
  have hcap3 : cap ≤ 9223372036854775807 := hcap2
  obtain ⟨b, off, rfl, hb, hc⟩ := hI.at h0
  have hc0 := hc 0 h0
  rw [Nat.add_zero] at hc0
  have h1 : (0 : Int) < (zs.length : Int) := by omega
  have h30 : (zs.length : Int) ≤ 30 := by omega
  have h2 : (zs.length : Int) ≤ (cap : Int) := by omega
  have hend := Tm.endAt_in zs 0 h0
  rw [Tm.endAt_zero] at hend
  rw [hend] at hrun ⊢
  have hs6 := Tm.known_lt (Tm.all_at hall h0)
  have hr2 := Tm.room_le (zs[0]?.getD 0)
  have hI' := show Hid _ from hI
  have ih' := show Hid _ from ih
  clear hc hI hend hall ih
  generalize zs[0]?.getD 0 = s at *
  have hsz : ∀ W, Calls Try.prog 81 #[.int .i64 s] W fun e w' => e = .returned (.int .i64 (Tm.room s : Int)) ∧ w' = W := fun W => size_any s W hs6
  clear hs6
  generalize Tm.room s = r at *
  obtain ⟨i0, hi, hz0, hz1, hz2⟩ := info_parts Try.info124
  have hNode : Node (w.alloc (.cells #[.int .i64 s, .slice none 0 0] 135)) w.heap.size s (.slice none 0 0) := World.alloc_heap_new w _
  have hB0 : Below w.heap.size w (w.alloc (.cells #[.int .i64 s, .slice none 0 0] 135)) := (Below.refl _ w).alloc (Nat.le_refl _) _
  obtain ⟨W0, hW0⟩ : ∃ W0, w.alloc (.cells #[.int .i64 s, .slice none 0 0] 135) = W0 := ⟨_, rfl⟩
  rw [hW0] at hNode hB0
  have HW0 : Hid (w.alloc (.cells #[.int .i64 s, .slice none 0 0] 135) = W0) := hW0
  clear hW0
  by_cases hc1 : cap = 1
  · subst hc1
    have hl1 : zs.length = 1 := by omega
    have hr0 : r = 0 := by have := Tm.pos_mono zs 0 1 r; have h := Tm.pos_succ zs 0 0; rw [Nat.zero_add] at h; have := Tm.endAt_gt zs (Tm.pos zs 0 0); have := Tm.pos_zero zs 0; omega
    subst hr0
    rw [Tm.pos_zero]
    go_enter Try.func102, Try.ntmps102
    go_wp2
    rw [HW0.out]
    have hn0 := hNode.cell0
    have HN := show Hid _ from hNode
    clear hNode hl1
    refine wp_loop_rounds 1 ?_
    rw [rounds_succ]
    go_wp2_with (go_at_call 81; refine (hsz _).mono ?_; rintro e wr ⟨rfl, rfl⟩)
    go_ret2
    refine ⟨some ⟨w.heap.size, 0, none⟩, some ⟨b, off, none⟩, 0, ?_, hB0, fun n X hX => by rw [List.drop_of_length_le (by omega)]; exact Ints.nil _ _ _, by omega, by unfold maxLen; omega⟩
    rw [show zs.length - (0 + 1) = 0 from by omega]; rfl
  · have Hc1 : Hid (¬ cap = 1) := hc1
    go_enter Try.func102, Try.ntmps102
    go_wp2
    rw [HW0.out]
    go_loopw [5, 6] (fun q i wr => ∃ (m : Nat) (a' : Option Addr) (c' : Nat) (v : Value) (xs : List Value), m ≤ r ∧ i = .int .i64 (m : Int) ∧ q = .slice a' (zs.length - Tm.pos zs 0 m) c' ∧ Hid (∀ n X, Ints n X (some ⟨b, off, none⟩) zs → Ints n X a' (zs.drop (Tm.pos zs 0 m))) ∧ zs.length - Tm.pos zs 0 m ≤ c' ∧ c' ≤ maxLen ∧
        Node wr w.heap.size s v ∧ wr.ownsRow (w.heap.size + 1) 124 1 v m xs ∧ Below w.heap.size w wr) (fun _ i _ => r - (intOf i).toNat)
    case atStart => exact ⟨0, _, _, _, [], Nat.zero_le _, rfl, by rw [Tm.pos_zero], fun n X hX => by rw [Tm.pos_zero]; exact hX.drop 1, by rw [Tm.pos_zero]; omega, by unfold maxLen; omega, hNode, World.ownsRow_nil _ _ _ _, hB0⟩
    case round =>
      obtain ⟨m, a', c', v, xs, hm, rfl, rfl, hIa, hca, hca2, hN, hown, hB⟩ := hrel
      have hn0 := hN.cell0
      by_cases hlt : m < r
      · have hlt' : (m : Int) < (r : Int) := by omega
        have hp1 := Tm.pos_gt zs 0 m
        have hp2 := Tm.pos_succ zs 0 m
        have hp3 := Tm.pos_mono zs 0 (m + 1) r (by omega)
        have hp4 := Tm.endAt_gt zs (Tm.pos zs 0 m)
        have hg := ih'.out (Tm.pos zs 0 m) a' c' wr hp1 (by omega) (by unfold Tm.endAt at hp2; omega) hca hca2 ((hIa.out _ _ (Ints.below hB hI'.out)).mono hB.size)
        rw [← hp2] at hg
        have hX := hN.lt
        have hca3 : c' ≤ 9223372036854775807 := hca2
        have Hp3 := show Hid _ from hp3
        clear hp1 hp2 hp3 hp4 hca2 hNode hB0 hcap2
        go_wp2_with (first
          | (go_at_call 81; refine (hsz _).mono ?_; rintro e wr ⟨rfl, rfl⟩)
          | (go_at_call 102; refine hg.mono ?_; clear hg; rintro e W1 ⟨p, a2, c2, rfl, hB1, hI2, hc2, hc22⟩; have hN1 := hN.kept (grown_of_below hB1) (by simp); have hown1 := hown.kept (grown_of_below hB1) (by cases h : v.ownBlock with | none => exact .inl rfl | some k => exact .inr (by simp)); obtain ⟨ao, co, rfl⟩ := own_form hown1; have hn1 := hN1.cell1; have hf1 := hN1.frozen; have HI2 := show Hid _ from hI2; clear hI2; have Hc22 := show Hid _ from hc22; clear hc22)
          | (at_builtin; go_loud (refine wpList_append_own _ rfl _ _ 133 rfl (w.heap.size + 1) 124 i0 (.pointer none) 1 8 Try.underlying133 hi hz0 hz1 hz2 rfl (by decide) _ _ _ rfl (hown1.alloc _) ⟨W1.heap.size, 0, none⟩ 1 1 [.pointer p] rfl rfl (cell_one_new _ _ _) (by simp [Value.oneCell']) (by unfold maxLen; omega) (by omega) (by have := hB1.size; simp; omega) ?_); intro v' w2 hown' hgrow _; obtain ⟨g', cap', rfl⟩ := ownsRow_succ hown'; have R := hN1.appended hown1 hown' hgrow; have hn2 := R.1.cell1; have hf2 := R.1.frozen; have HR := show Hid _ from R; clear R hown' hgrow))
        exact ⟨⟨m + 1, a2, c2, _, _, by omega, by go_num, rfl, fun n X hX => HI2.out n X (hIa.out n X hX), hc2, Hc22.out, HR.out.2.1, HR.out.2.2.1, (hB.trans (hB1.mono hB.size)).trans HR.out.2.2.2⟩, by simp [intOf]; omega⟩
      · obtain rfl : m = r := by omega
        go_wp2_with (go_at_call 81; refine (hsz _).mono ?_; rintro e wr ⟨rfl, rfl⟩)
        go_ret2
        exact ⟨_, _, _, rfl, hB, hIa, hca, hca2⟩

theorem Tm.endAt_drop (zs : List Int) (e : Nat) : Tm.endAt zs e = e + Tm.run (zs.drop e) 1 := rfl

/-- haspref.grown: of a list that begins with a term: what is behind it. -/
theorem grown_any : ∀ (m : Nat) (zs : List Int) (a : Option Addr) (cap : Nat) (w : World), zs.length ≤ m → zs.length ≤ 30 → 0 < zs.length → zs.all Tm.known = true → Tm.run zs 1 ≤ zs.length → zs.length ≤ cap → cap ≤ maxLen → Ints w.heap.size w a zs →
    Calls Try.prog 102 #[.slice a zs.length cap] w fun r w' => ∃ p a2 c2, r = .returned (.tuple #[.pointer p, .slice a2 (zs.length - Tm.run zs 1) c2]) ∧ Below w.heap.size w w' ∧ (∀ n X, Ints n X a zs → Ints n X a2 (zs.drop (Tm.run zs 1))) ∧ zs.length - Tm.run zs 1 ≤ c2 ∧ c2 ≤ maxLen := by
  intro m
  induction m with
  | zero => intro zs a cap w h1 _ h2; omega
  | succ m ih =>
    intro zs a cap w hm h30 h0 hall hrun hcap hcap2 hI
    refine grown_step zs a cap w h30 h0 hall hrun hcap hcap2 hI ?_
    intro e a' cap' W he1 he2 hr hc hc2 hIe
    have h := ih (zs.drop e) a' cap' W (by rw [List.length_drop]; omega) (by rw [List.length_drop]; omega) (by rw [List.length_drop]; omega)
      (by rw [List.all_eq_true] at hall ⊢; exact fun x hx => hall x (List.mem_of_mem_drop hx)) (by rw [List.length_drop]; exact hr) (by rw [List.length_drop]; exact hc) hc2 hIe
    simp only [List.length_drop, List.drop_drop] at h
    rw [Tm.endAt_drop, show zs.length - (e + Tm.run (zs.drop e) 1) = zs.length - e - Tm.run (zs.drop e) 1 from by omega]
    exact h

end Go.Proofs.Ytjaikmlbajdedac

namespace Go.Proofs.Ytjaikmlbajdedac
open Go.Proofs Go.RowKit Go.Shelf

theorem Tm.run_mono (l : List Int) {n m : Nat} (h : n ≤ m) : Tm.run l n ≤ Tm.run l m := by
  obtain ⟨d, rfl⟩ : ∃ d, m = n + d := ⟨m - n, by omega⟩
  rw [Tm.run_add]; omega
theorem Tm.endAt_in_run : ∀ (l : List Int) (n k : Nat), k < Tm.run l n → Tm.endAt l k ≤ Tm.run l n := by
  intro l
  induction l with
  | nil => intro n k h; rw [Tm.run_nil] at *; rw [Tm.endAt_out _ _ (by simp)]; omega
  | cons s l ih =>
    intro n k h
    cases n with
    | zero => rw [Tm.run_zero] at h; omega
    | succ n =>
      rw [Tm.run_cons] at h ⊢
      cases k with
      | zero =>
        rw [Tm.endAt_zero, show (1 : Nat) = 0 + 1 from rfl, Tm.run_cons]
        have := Tm.run_mono l (n := 0 + Tm.room s) (m := n + Tm.room s) (by omega)
        omega
      | succ k =>
        have := ih (n + Tm.room s) k (by omega)
        unfold Tm.endAt at this ⊢
        rw [List.drop_succ_cons]
        omega
theorem Tm.end_in {zs : List Int} (he : Tm.err zs = 0) {k : Nat} (hk : k < zs.length) : Tm.endAt zs k ≤ zs.length := by
  have hr := Tm.err_run he
  have := Tm.endAt_in_run zs 1 k (by omega)
  omega
/-- The term at place k. -/
def Tm.part (zs : List Int) (k : Nat) : List Int := (zs.drop k).take (Tm.endAt zs k - k)
theorem Tm.part_length {zs : List Int} (he : Tm.err zs = 0) {k : Nat} (hk : k < zs.length) : (Tm.part zs k).length = Tm.endAt zs k - k := by
  have := Tm.end_in he hk
  simp only [Tm.part, List.length_take, List.length_drop]
  omega

theorem Try.info3 : (Try.prog.info? 3).map (fun i => (i.zero, i.size, i.bytes)) = some (some (.int .i64 0), 1, 8) := by kernel_rfl

/-- v IS A SLICE IN NEW MEMORY (from block 'base' on) THAT HOLDS zs. -/
def New (base : Nat) (W : World) (v : Value) (zs : List Int) : Prop := W.ownsRow base 3 1 v zs.length (zs.map (Value.int .i64))
theorem New.ints {base : Nat} {W : World} {v : Value} {zs : List Int} (h : New base W v zs) : ∃ a cap, v = .slice a zs.length cap ∧ Ints W.heap.size W a zs ∧ zs.length ≤ cap ∧ cap ≤ maxLen := by
  rcases h.2 with ⟨rfl, hn⟩ | ⟨g, cap, cur, rfl, hb, hg, h1, h2, h3, h4⟩
  · exact ⟨none, 0, by rw [hn], fun j hj => by omega, by omega, by omega⟩
  · refine ⟨_, _, rfl, fun j hj => ⟨g, 0, rfl, (Array.getElem?_eq_some_iff.1 hg).1, ?_⟩, h1, h2⟩
    have h5 := World.ownsRow.cellAt (show W.ownsRow base 3 1 (.slice (some ⟨g, 0, none⟩) zs.length cap) zs.length (zs.map (Value.int .i64)) from h) j (by omega)
    rw [Nat.zero_add, h5]
    simp [hj]
theorem New.below {base : Nat} {W W' : World} {v : Value} {zs : List Int} (h : New base W v zs) (hB : Below W.heap.size W W') : New base W' v zs :=
  World.ownsRow.kept h (grown_of_below hB) (by cases h : v.ownBlock with | none => exact .inl rfl | some k => exact .inr (by simp))

theorem New.mono {base base' : Nat} {W : World} {v : Value} {zs : List Int} (h : New base W v zs) (hb : base' ≤ base) : New base' W v zs :=
  ⟨h.1, h.2.elim .inl (fun ⟨g, cap, cur, h1, h2, h3⟩ => .inr ⟨g, cap, cur, h1, Nat.le_trans hb h2, h3⟩)⟩
theorem New.nil (base : Nat) (W : World) : New base W (.slice none 0 0) [] := World.ownsRow_nil _ _ _ _
theorem New.lit (base : Nat) (W : World) (zs : List Int) (hb : base ≤ W.heap.size) (hm : zs.length ≤ maxLen) : New base (W.alloc (.cells (zs.map (Value.int .i64)).toArray 3)) (.slice (some ⟨W.heap.size, 0, none⟩) zs.length zs.length) zs := by
  have h := World.ownsRow_lit (base := base) (e := 3) (size := 1) W (zs.map (Value.int .i64)).toArray zs.length hb hm (by simp)
  simpa [New] using h
theorem Ints.news {n : Nat} {W : World} {ad : Addr} {zs : List Int} (h : Ints n W (some ad) zs) : ∀ j u, (zs.map (Value.int .i64))[j]? = some u → W.cell? (ad.add j) = some u := by
  intro j u hj
  have hlt : j < zs.length := by
    have := (List.getElem?_eq_some_iff.1 hj).1
    simpa using this
  obtain ⟨b, off, e, _, hc⟩ := h j hlt
  cases e
  rw [Go.WideShapes.add_plain, hc]
  simpa [hlt] using hj

/-- 'append(s, x...)' of ints, onto what the call itself made: whatever x is that can be read. -/
theorem wp_append_ints {ops : Array Oper} {rest : List Oper} {o : Oper} {a : Act} {Q : Exit → Act → World → Prop} (w : World) (hgd : o.guard = none) (s x : Operand)
    (ho : o.op = .call { callee := .builtin .append, args := #[s, x], argTypes := #[23, 23] }) (base : Nat) (v : Value) (xs : List Int) (hs : a.eval s = v) (hN : New base w v xs)
    (ao : Option Addr) (ys : List Int) (c : Nat) (hx : a.eval x = .slice ao ys.length c) (hn : ao = none → ys.length = 0 ∧ c = 0) (hI : Ints w.heap.size w ao ys) (hlen : xs.length + ys.length ≤ 1000000) (hbase : base ≤ w.heap.size)
    (h : ∀ v' w', New base w' v' (xs ++ ys) → Below base w w' → wpList Try.prog ops Q rest (a.put o.dst v') w') : wpList Try.prog ops Q (o :: rest) a w := by
  obtain ⟨i0, hi, hz0, hz1, hz2⟩ := info_parts Try.info3
  cases ao with
  | none =>
    obtain ⟨h0, rfl⟩ := hn rfl
    obtain rfl : ys = [] := List.eq_nil_of_length_eq_zero h0
    refine wpList_append_own_none hgd s x 23 ho base 3 i0 1 Try.underlying23 hi v xs.length (xs.map (Value.int .i64)) hs hN hx (h v w (by simpa using hN) (Below.refl _ _))
  | some ad =>
    refine wpList_append_own w hgd s x 23 ho base 3 i0 (.int .i64 0) 1 8 Try.underlying23 hi hz0 hz1 hz2 rfl (by decide) v xs.length (xs.map (Value.int .i64)) hs hN ad ys.length c (ys.map (Value.int .i64)) hx (by simp) hI.news
      (by intro u hu; simp at hu; obtain ⟨z, _, rfl⟩ := hu; rfl) (by unfold maxLen; omega) (by omega) hbase ?_
    intro v' w' hown hg _
    refine h v' w' (by simpa [New] using hown) ((Below.refl base w).grown hg hbase (fun k e => (World.ownsRow.lt hN k e).1))

set_option maxRecDepth 100000 in
set_option maxHeartbeats 400000 in
/-- slices.Clone, of a list that is not empty. -/
theorem clone_any (zs : List Int) (b off cap : Nat) (w : World) (h30 : zs.length ≤ 30) (hI : Ints w.heap.size w (some ⟨b, off, none⟩) zs) :
    Calls Try.prog 43 #[.slice (some ⟨b, off, none⟩) zs.length cap] w fun e w' => ∃ v, e = .returned v ∧ New w.heap.size w' v zs ∧ Below w.heap.size w w' := by
  have he : ∀ (w : World) (n c : Nat), (binOp .eql 23 (.slice (some ⟨b, off, none⟩) n c) (.slice none 0 0)).run Try.prog w = .ok (.bool false) w := fun _ _ _ => rfl
  have hl : New w.heap.size (w.alloc (.cells #[] 3)) (.slice (some ⟨w.heap.size, 0, none⟩) 0 0) [] := New.lit w.heap.size w [] (Nat.le_refl _) (by unfold maxLen; simp)
  have hB : Below w.heap.size w (w.alloc (.cells #[] 3)) := (Below.refl _ _).alloc (Nat.le_refl _) _
  have hI2 := (hI.below hB).mono hB.size
  go_enter Try.func43, Try.ntmps43
  go_wp2_with (at_builtin; go_loud (refine wp_append_ints _ rfl _ _ rfl w.heap.size _ [] rfl hl _ zs cap rfl (fun h => by cases h) hI2 (by simp; omega) (by simp) ?_); intro v' w2 hN hB2)
  obtain ⟨a', c', rfl, _⟩ := New.ints hN
  go_ret
  exact ⟨_, rfl, hN, hB.trans hB2⟩

/-- What End answers beside the error. -/
def Tm.endVal (zs : List Int) (k : Int) : Int := if Tm.placeErr zs k = 0 then (Tm.endAt zs k.toNat : Int) else 0
theorem Tm.place_ok {zs : List Int} {k : Int} (h : Tm.placeErr zs k = 0) : Tm.err zs = 0 ∧ insideB k 0 ((zs.length : Int) - 1) = true ∧ 0 ≤ k ∧ k < (zs.length : Int) := by
  unfold Tm.placeErr at h
  by_cases he : Tm.err zs = 0
  · rw [if_pos he] at h
    by_cases hp : insideB k 0 ((zs.length : Int) - 1) = true
    · have := (insideB_iff _ _ _).1 hp
      exact ⟨he, hp, by omega, by omega⟩
    · rw [if_neg hp] at h; omega
  · rw [if_neg he] at h; exact absurd h he
theorem Tm.place_of {zs : List Int} {k : Int} (he : Tm.err zs = 0) (h1 : 0 ≤ k) (h2 : k < (zs.length : Int)) : Tm.placeErr zs k = 0 := by
  unfold Tm.placeErr
  rw [if_pos he, if_pos ((insideB_iff _ _ _).2 ⟨h1, by omega⟩)]

set_option maxHeartbeats 400000 in
/-- term.End. -/
theorem termEnd_any (zs : List Int) (a : Option Addr) (cap : Nat) (k : Int) (w : World) (hI : Ints w.heap.size w a zs) :
    Calls Try.prog 42 #[.slice a zs.length cap, .int .i64 k] w fun e w' => e = .returned (.tuple #[.int .i64 (Tm.endVal zs k), .int .i64 (Tm.placeErr zs k)]) ∧ Below w.heap.size w w' := by
  have hC := check_any zs a cap w hI
  by_cases he : Tm.err zs = 0
  · rw [he] at hC
    by_cases hp : insideB k 0 ((zs.length : Int) - 1) = true
    · have hk := (insideB_iff _ _ _).1 hp
      obtain ⟨j, rfl⟩ : ∃ j : Nat, k = (j : Int) := ⟨k.toNat, by omega⟩
      have hpe : Tm.placeErr zs (j : Int) = 0 := by simp [Tm.placeErr, he, hp]
      have hev : Tm.endVal zs (j : Int) = (Tm.endAt zs j : Int) := by simp [Tm.endVal, hpe]
      have hE : ∀ W, Below w.heap.size w W → Calls Try.prog 45 #[.slice a zs.length cap, .int .i64 (j : Int)] W fun e w' => e = .returned (.int .i64 (Tm.endAt zs j : Int)) ∧ Below W.heap.size W w' :=
        fun W hW => end_any zs (Tm.err_len he) a cap j (by have := Tm.err_len he; omega) W ((hI.below hW).mono hW.size)
      have HE := show Hid _ from hE
      rw [hpe, hev]
      clear hpe hev he hI hk hE
      generalize Tm.endAt zs j = q at *
      go_enter Try.func42, Try.ntmps42
      go_wp2_with (first
        | (go_at_call 22; refine hC.mono ?_; clear hC; rintro e w1 ⟨rfl, hB1⟩)
        | (go_at_call 46; refine (hasPlace_any _ _ _ _ _).mono ?_; rw [hp]; rintro e w2 ⟨rfl, rfl⟩)
        | (go_at_call 45; refine (HE.out _ hB1).mono ?_; rintro e w3 ⟨rfl, hB3⟩))
      go_ret2
      exact ⟨rfl, hB1.trans (hB3.mono hB1.size)⟩
    · have hp' : insideB k 0 ((zs.length : Int) - 1) = false := by simpa using hp
      have hpe : Tm.placeErr zs k = 3 := by simp [Tm.placeErr, he, hp']
      have hev : Tm.endVal zs k = 0 := by simp [Tm.endVal, hpe]
      rw [hpe, hev]
      clear hpe hev he hI hp
      go_enter Try.func42, Try.ntmps42
      go_wp2_with (first
        | (go_at_call 22; refine hC.mono ?_; clear hC; rintro e w1 ⟨rfl, hB1⟩)
        | (go_at_call 46; refine (hasPlace_any _ _ _ _ _).mono ?_; rw [hp']; rintro e w2 ⟨rfl, rfl⟩))
      go_ret2
      exact ⟨rfl, hB1⟩
  · have hpe : Tm.placeErr zs k = Tm.err zs := by simp [Tm.placeErr, he]
    have hev : Tm.endVal zs k = 0 := by simp [Tm.endVal, hpe, he]
    have hne : (Tm.err zs != 0) = true := by simp [he]
    rw [hpe, hev]
    clear hpe hev he hI
    generalize Tm.err zs = q at *
    go_enter Try.func42, Try.ntmps42
    go_wp2_with (go_at_call 22; refine hC.mono ?_; clear hC; rintro e w1 ⟨rfl, hB1⟩)
    go_ret2
    exact ⟨rfl, hB1⟩

end Go.Proofs.Ytjaikmlbajdedac

namespace Go.Proofs.Ytjaikmlbajdedac
open Go.Proofs Go.RowKit Go.Shelf

def Tm.partVal (zs : List Int) (k : Int) : List Int := if Tm.placeErr zs k = 0 then Tm.part zs k.toNat else []

theorem Ints.sub {n : Nat} {W : World} {b off : Nat} {zs : List Int} (h : Ints n W (some ⟨b, off, none⟩) zs) (k m : Nat) : Ints n W (some ⟨b, off + k, none⟩) ((zs.drop k).take m) := fun j hj => by
  have hj' : j < m ∧ j < zs.length - k := by
    simp only [List.length_take, List.length_drop] at hj
    omega
  obtain ⟨b', off', he, hb, hc⟩ := (h.drop k) j (by rw [List.length_drop]; omega)
  cases he
  refine ⟨b, off + k, rfl, hb, ?_⟩
  rw [hc]
  simp [hj'.1]

set_option maxRecDepth 100000 in
set_option maxHeartbeats 400000 in
theorem termPart_any (zs : List Int) (a : Option Addr) (cap : Nat) (k : Int) (w : World) (hI : Ints w.heap.size w a zs) (hcap : zs.length ≤ cap) :
    Calls Try.prog 21 #[.slice a zs.length cap, .int .i64 k] w fun e w' => ∃ v, e = .returned (.tuple #[v, .int .i64 (Tm.placeErr zs k)]) ∧ New w.heap.size w' v (Tm.partVal zs k) ∧ Below w.heap.size w w' := by
  have hE := termEnd_any zs a cap k w hI
  by_cases hpe : Tm.placeErr zs k = 0
  · obtain ⟨he, _, hk1, hk2⟩ := Tm.place_ok hpe
    obtain ⟨j, rfl⟩ : ∃ j : Nat, k = (j : Int) := ⟨k.toNat, by omega⟩
    have hpv : Tm.partVal zs (j : Int) = Tm.part zs j := by simp [Tm.partVal, hpe]
    have hev : Tm.endVal zs (j : Int) = (Tm.endAt zs j : Int) := by simp [Tm.endVal, hpe]
    have h30 := Tm.err_len he
    have hei := Tm.end_in he (k := j) (by omega)
    have heg := Tm.endAt_gt zs j
    have hpl := Tm.part_length he (k := j) (by omega)
    obtain ⟨b, off, rfl, hb, hc⟩ := hI.at (by omega)
    have hcl : ∀ W, Below w.heap.size w W → Calls Try.prog 43 #[.slice (some ⟨b, off + j, none⟩) (Tm.endAt zs j - j) (cap - j)] W fun e w' => ∃ v, e = .returned v ∧ New W.heap.size w' v (Tm.part zs j) ∧ Below W.heap.size W w' := fun W hW => by
      rw [← hpl]
      exact clone_any (Tm.part zs j) b (off + j) (cap - j) W (by rw [hpl]; omega) (((hI.below hW).mono hW.size).sub j _)
    have HC := show Hid _ from hcl
    rw [hev, hpe] at hE
    rw [hpv, hpe]
    clear hpv hev hpe he hc hcl hpl hI
    generalize Tm.endAt zs j = q at *
    generalize Tm.part zs j = pt at *
    have h1 : (j : Int) ≤ (q : Int) := by omega
    have h2 : (q : Int) ≤ (cap : Int) := by omega
    have h3 : ¬ cap - j = 0 := by omega
    go_enter Try.func21, Try.ntmps21
    go_wp2_with (first
      | (go_at_call 42; refine hE.mono ?_; clear hE; rintro e w1 ⟨rfl, hB1⟩)
      | (go_at_call 43; refine (HC.out _ hB1).mono ?_; rintro e w2 ⟨v, rfl, hN, hB2⟩; obtain ⟨a', c', rfl, _⟩ := New.ints hN))
    go_ret2
    exact ⟨_, rfl, hN.mono hB1.size, hB1.trans (hB2.mono hB1.size)⟩
  · have hpv : Tm.partVal zs k = [] := by simp [Tm.partVal, hpe]
    have hne : (Tm.placeErr zs k != 0) = true := by simp [hpe]
    rw [hpv]
    have hev : Tm.endVal zs k = 0 := by simp [Tm.endVal, hpe]
    rw [hev] at hE
    clear hpv hpe hI hev
    generalize Tm.placeErr zs k = q at *
    go_enter Try.func21, Try.ntmps21
    go_wp2_with (go_at_call 42; refine hE.mono ?_; clear hE; rintro e w1 ⟨rfl, hB1⟩)
    go_ret2
    exact ⟨_, rfl, New.nil _ _, hB1⟩

set_option maxRecDepth 100000 in
set_option maxHeartbeats 400000 in
/-- haspref.endOf, at a place of a right term. -/
theorem endOf_any (zs : List Int) (a : Option Addr) (cap j : Nat) (w : World) (hI : Ints w.heap.size w a zs) (hcap : zs.length ≤ cap) (hcap2 : cap ≤ maxLen) (he : Tm.err zs = 0) (hj : j < zs.length) :
    Calls Try.prog 92 #[.slice a zs.length cap, .int .i64 (j : Int)] w fun e w' => e = .returned (.int .i64 (Tm.endAt zs j : Int)) ∧ Below w.heap.size w w' := by
  have h30 := Tm.err_len he
  have hei := Tm.end_in he hj
  have heg := Tm.endAt_gt zs j
  have hall := Tm.err_all he
  obtain ⟨b, off, rfl, hb, hc⟩ := hI.at (by omega)
  have hg : Calls Try.prog 102 #[.slice (some ⟨b, off + j, none⟩) (zs.length - j) (cap - j)] w fun r w' => ∃ p a2 c2, r = .returned (.tuple #[.pointer p, .slice a2 (zs.length - Tm.endAt zs j) c2]) ∧ Below w.heap.size w w' := by
    have h := grown_any (zs.drop j).length (zs.drop j) (some ⟨b, off + j, none⟩) (cap - j) w (Nat.le_refl _) (by rw [List.length_drop]; omega) (by rw [List.length_drop]; omega)
      (by rw [List.all_eq_true] at hall ⊢; exact fun x hx => hall x (List.mem_of_mem_drop hx)) (by rw [List.length_drop]; unfold Tm.endAt at hei; omega) (by rw [List.length_drop]; omega) (by omega) (hI.drop j)
    rw [List.length_drop] at h
    refine h.mono ?_
    rintro e w' ⟨p, a2, c2, rfl, hB, _⟩
    exact ⟨p, a2, c2, by rw [Tm.endAt_drop, show zs.length - (j + Tm.run (zs.drop j) 1) = zs.length - j - Tm.run (zs.drop j) 1 from by omega], hB⟩
  unfold maxLen at hcap2
  clear hall hc hI he
  generalize Tm.endAt zs j = q at *
  have h1 : (j : Int) < (zs.length : Int) := by omega
  have h2 : (zs.length : Int) ≤ 30 := by omega
  have h3 : ¬ cap - j = 0 := by omega
  have h4 : (zs.length : Int) ≤ (cap : Int) := by omega
  have h5 : ((zs.length - q : Nat) : Int) ≤ 30 := by omega
  go_enter Try.func92, Try.ntmps92
  go_wp2_with (go_at_call 102; refine hg.mono ?_; clear hg; rintro e w1 ⟨p, a2, c2, rfl, hB1⟩)
  go_ret
  exact ⟨ret_int (by omega), hB1⟩

set_option maxRecDepth 100000 in
set_option maxHeartbeats 400000 in
/-- haspref.partOf, at a place of a right term. -/
theorem partOf_any (zs : List Int) (a : Option Addr) (cap j : Nat) (w : World) (hI : Ints w.heap.size w a zs) (hcap : zs.length ≤ cap) (hcap2 : cap ≤ maxLen) (he : Tm.err zs = 0) (hj : j < zs.length) :
    Calls Try.prog 68 #[.slice a zs.length cap, .int .i64 (j : Int)] w fun e w' => ∃ v, e = .returned v ∧ New w.heap.size w' v (Tm.part zs j) ∧ Below w.heap.size w w' := by
  have h30 := Tm.err_len he
  have hei := Tm.end_in he hj
  have heg := Tm.endAt_gt zs j
  have hpl := Tm.part_length he hj
  obtain ⟨b, off, rfl, hb, hc⟩ := hI.at (by omega)
  have hB0 : Below w.heap.size w (w.alloc (.cells #[] 3)) := (Below.refl _ _).alloc (Nat.le_refl _) _
  have hl : New w.heap.size (w.alloc (.cells #[] 3)) (.slice (some ⟨w.heap.size, 0, none⟩) 0 0) [] := New.lit w.heap.size w [] (Nat.le_refl _) (by unfold maxLen; simp)
  have hE := endOf_any zs (some ⟨b, off, none⟩) cap j (w.alloc (.cells #[] 3)) ((hI.below hB0).mono hB0.size) hcap hcap2 he hj
  have hIs := hI.sub j (Tm.endAt zs j - j)
  unfold maxLen at hcap2
  clear hc hI he
  have Hpl : Hid ((Tm.part zs j).length = Tm.endAt zs j - j) := hpl
  have HIs : Hid (Ints w.heap.size w (some ⟨b, off + j, none⟩) (Tm.part zs j)) := hIs
  clear hpl hIs
  generalize Tm.part zs j = pt at *
  generalize Tm.endAt zs j = q at *
  have h1 : (j : Int) ≤ (q : Int) := by omega
  have h2 : (q : Int) ≤ (cap : Int) := by omega
  have h3 : ¬ cap - j = 0 := by omega
  go_enter Try.func68, Try.ntmps68
  go_wp2_with (first
    | (go_at_call 92; refine hE.mono ?_; clear hE; rintro e w1 ⟨rfl, hB1⟩; have hl1 := New.below hl hB1; have hB2 := hB0.trans (hB1.mono hB0.size))
    | (at_builtin; go_loud (refine wp_append_ints _ rfl _ _ rfl w.heap.size _ [] rfl hl1 (some ⟨b, off + j, none⟩) pt (cap - j) (by rw [Hpl.out]; rfl) (fun h => by cases h) ((HIs.out.below hB2).mono hB2.size) (by simp [Hpl.out]; omega) hB2.size ?_); intro v' w2 hN hB3))
  obtain ⟨a', c', rfl, _⟩ := New.ints hN
  go_ret
  exact ⟨_, rfl, hN, hB2.trans hB3⟩

end Go.Proofs.Ytjaikmlbajdedac

namespace Go.Proofs.Ytjaikmlbajdedac
open Go.Proofs Go.RowKit Go.Shelf

set_option maxRecDepth 100000 in
set_option maxHeartbeats 400000 in
/-- slices.Grow(nil, n), n from 1 on. -/
theorem grow_nil (n : Nat) (w : World) (h1 : 1 ≤ n) (h2 : n ≤ 100000) :
    Calls Try.prog 71 #[.slice none 0 0, .int .i64 (n : Int)] w fun e w' => ∃ v, e = .returned v ∧ New w.heap.size w' v [] ∧ Below w.heap.size w w' := by
  obtain ⟨i0, hi, hz0, hz1, hz2⟩ := info_parts Try.info3
  have happ := Lib.run_append_nil_zeros (P := Try.prog) w 23 3 23 3 i0 (.int .i64 0) .i64 .i64 Try.underlying23 Try.underlying3 hi hz0 n (by omega) (by omega) (by omega) (by rw [hz2]; omega)
  generalize hcap : grownCap w n 0 3 = cap2 at happ
  have hcapge : n ≤ cap2 := by rw [← hcap]; exact grownCap_ge w _ 0 3
  have hcaple : cap2 ≤ maxLen := by rw [← hcap]; exact grownCap_le_maxLen w _ 0 3 (by unfold maxLen; omega)
  generalize hZ : (Builtin.zeroCells (Value.int .i64 0).cells n ++ Builtin.zeroCells (Value.int .i64 0).cells (cap2 - n)) = Z at happ
  have hZs : Z.size = cap2 := by rw [← hZ]; simp [size_zeroCells, Value.cells]; omega
  clear hcap hZ
  have hp : (0 : Int) < (n : Int) := by omega
  have hq : (n : Int) ≤ 100000 := by omega
  have hcz : ¬ cap2 = 0 := by omega
  go_enter Try.func71, Try.ntmps71
  go_wp2_with (at_builtin; go_loud (refine Lib.wpList_append_run _ rfl _ _ _ _ rfl _ _ rfl rfl _ _ happ ?_))
  go_ret
  exact ⟨_, rfl, ⟨by simp, .inr ⟨w.heap.size, cap2, Z, rfl, Nat.le_refl _, World.alloc_heap_new w _, Nat.zero_le _, hcaple, by omega, by simp⟩⟩, ((Below.refl _ _).alloc (Nat.le_refl _) _).drew⟩

/-- The lengths' sum. -/
def lens (l : List (List Int)) : Nat := (l.map List.length).sum
theorem lens_snoc {l : List (List Int)} {k : Nat} (h : k < l.length) : lens (l.take (k + 1)) = lens (l.take k) + (l[k]?.getD []).length := by
  have e : l[k]?.getD [] = l[k] := by simp [h]
  rw [List.take_succ_eq_append_getElem h, e]
  unfold lens
  rw [List.map_append, List.sum_append]
  simp only [List.map_cons, List.map_nil, List.sum_cons, List.sum_nil, Nat.add_zero]
theorem lens_le (l : List (List Int)) (k : Nat) : lens (l.take k) ≤ lens l := by
  have h : lens l = lens (l.take k) + lens (l.drop k) := by
    unfold lens
    rw [← List.sum_append, ← List.map_append, List.take_append_drop]
  omega
theorem flat_snoc {l : List (List Int)} {k : Nat} (h : k < l.length) : (l.take (k + 1)).flatten = (l.take k).flatten ++ (l[k]?.getD []) := by
  have e : l[k]?.getD [] = l[k] := by simp [h]
  rw [List.take_succ_eq_append_getElem h, e, List.flatten_append]
  simp only [List.flatten_cons, List.flatten_nil, List.append_nil]
theorem flat_len (l : List (List Int)) : l.flatten.length = lens l := by simp [lens, List.length_flatten]

set_option maxRecDepth 100000 in
set_option maxHeartbeats 1000000 in
/-- slices.Concat: of slices that hold something. -/
theorem concat_any (zss : List (List Int)) (fa : Nat → Option Addr) (fc : Nat → Nat) (B cap : Nat) (w : World) (hl : zss.length ≤ 1000) (hsum : lens zss ≤ 1000) (hpos : 0 < lens zss) (hB : B < w.heap.size)
    (hcell : ∀ j, j < zss.length → w.cell? ⟨B, j, none⟩ = some (.slice (fa j) (zss[j]?.getD []).length (fc j))) (hI : ∀ j, j < zss.length → Ints w.heap.size w (fa j) (zss[j]?.getD []))
    (hn : ∀ j, j < zss.length → fa j = none → (zss[j]?.getD []).length = 0 ∧ fc j = 0) :
    Calls Try.prog 47 #[.slice (some ⟨B, 0, none⟩) zss.length cap] w fun e w' => ∃ v, e = .returned v ∧ New w.heap.size w' v zss.flatten ∧ Below w.heap.size w w' := by
  have h1 : (zss.length : Int) ≤ 1000 := by omega
  have Hcell := show Hid _ from hcell
  have HI := show Hid _ from hI
  have Hn := show Hid _ from hn
  clear hcell hI hn
  go_enter Try.func47, Try.ntmps47
  go_wp2
  go_loop [3, 11] (fun q i => ∃ k : Nat, k ≤ zss.length ∧ i = .int .i64 (k : Int) ∧ q = .int .i64 (lens (zss.take k) : Int)) (fun _ i => zss.length - (intOf i).toNat)
  case atStart => exact ⟨0, Nat.zero_le _, rfl, rfl⟩
  case round =>
    obtain ⟨k, hk, rfl, rfl⟩ := hrel
    have hle := lens_le zss k
    by_cases hlt : k < zss.length
    · have hlt' : (k : Int) < (zss.length : Int) := by omega
      have hck := Hcell.out k hlt
      have hsn := lens_snoc hlt
      have hle2 := lens_le zss (k + 1)
      have Hsn := show Hid _ from hsn
      rw [hsn] at hle2
      clear hsn
      generalize (zss[k]?.getD []).length = m at *
      generalize lens (zss.take k) = q at *
      have hq0 : (0 : Int) ≤ (q : Int) + (m : Int) := by omega
      have hq1 : (q : Int) + (m : Int) ≤ 1000 := by omega
      go_wp2
      go_round
      case rel => exact ⟨k + 1, by omega, by go_num, by rw [Hsn.out]; go_num⟩
      case measure => simp [intOf]; omega
    · obtain rfl : k = zss.length := by omega
      rw [List.take_length] at *
      go_wp2_with fail
      refine (grow_nil (lens zss) _ (by omega) (by omega)).mono ?_
      rintro e w1 ⟨v0, rfl, hN0, hB1⟩
      obtain ⟨a0, c0, rfl, _⟩ := New.ints hN0
      go_wp2
      go_loopw [6, 27] (fun v i wr => ∃ k : Nat, k ≤ zss.length ∧ i = .int .i64 (k : Int) ∧ New w.heap.size wr v (zss.take k).flatten ∧ Below w.heap.size w wr) (fun _ i _ => zss.length - (intOf i).toNat)
      case atStart => exact ⟨0, Nat.zero_le _, rfl, hN0, hB1⟩
      case round =>
        clear hN0 hB1
        obtain ⟨k, hk, rfl, hN, hBr⟩ := hrel
        by_cases hlt : k < zss.length
        · have hlt' : (k : Int) < (zss.length : Int) := by omega
          have hck := (hBr.cell (p := ⟨B, k, none⟩) hB).trans (Hcell.out k hlt)
          have hIk := ((HI.out k hlt).below hBr).mono hBr.size
          have hnk := show Hid _ from Hn.out k hlt
          have hfs := show Hid _ from flat_snoc hlt
          have hll : (zss.take k).flatten.length + (zss[k]?.getD []).length ≤ 1000 := by
            rw [flat_len]; have := lens_snoc hlt; have := lens_le zss (k + 1); omega
          generalize zss[k]?.getD [] = ys at *
          generalize (zss.take k).flatten = xs at *
          go_wp2_with (at_builtin; go_loud (refine wp_append_ints _ rfl _ _ rfl w.heap.size _ xs rfl hN _ ys _ rfl hnk.out hIk (by omega) hBr.size ?_); intro v' w2 hN2 hB2; obtain ⟨a2, c2, rfl, _⟩ := New.ints hN2)
          go_roundw
          case rel => exact ⟨k + 1, by omega, by go_num, by rw [hfs.out]; simpa using hN2, hBr.trans hB2⟩
          case measure => simp [intOf]; omega
        · obtain rfl : k = zss.length := by omega
          rw [List.take_length] at hN
          obtain ⟨a2, c2, rfl, _⟩ := New.ints hN
          go_wp2
          go_ret
          exact ⟨_, rfl, hN, hBr⟩

end Go.Proofs.Ytjaikmlbajdedac

namespace Go.Proofs.Ytjaikmlbajdedac
open Go.Proofs Go.RowKit Go.Shelf

/-- The term at k becomes u. -/
def Tm.put (zs : List Int) (k : Nat) (us : List Int) : List Int := zs.take k ++ us ++ zs.drop (Tm.endAt zs k)
def Tm.putErr (zs : List Int) (k : Int) (us : List Int) : Int :=
  if Tm.err zs = 0 then (if Tm.err us = 0 then (if insideB k 0 ((zs.length : Int) - 1) = true then (if 30 < (Tm.put zs k.toNat us).length then 2 else 0) else 3) else Tm.err us) else Tm.err zs
def Tm.putVal (zs : List Int) (k : Int) (us : List Int) : List Int := if Tm.putErr zs k us = 0 then Tm.put zs k.toNat us else []
theorem Tm.put_length {zs us : List Int} {k : Nat} (hk : k < zs.length) : (Tm.put zs k us).length = k + us.length + (zs.length - Tm.endAt zs k) := by
  simp only [Tm.put, List.length_append, List.length_take, List.length_drop]; omega
theorem Tm.err_pos {zs : List Int} (he : Tm.err zs = 0) : 0 < zs.length := by
  have h := Tm.err_run he
  have := Tm.run_ge zs 1
  omega

theorem Ints.some {n : Nat} {W : World} {a : Option Addr} {zs : List Int} (h : Ints n W a zs) (h0 : 0 < zs.length) : a ≠ none := by
  obtain ⟨b, off, rfl, _⟩ := h.at h0
  simp
theorem Ints.take {n : Nat} {W : World} {a : Option Addr} {zs : List Int} (h : Ints n W a zs) (k : Nat) : Ints n W a (zs.take k) := fun j hj => by
  rw [List.length_take] at hj
  obtain ⟨b, off, e, hb, hc⟩ := h j (by omega)
  refine ⟨b, off, e, hb, ?_⟩
  rw [hc]
  simp [show j < k from by omega]

theorem cell_at {W : World} {b : Nat} {cs : Array Value} {t : TypeId} {fr : Nat × Nat} (h : W.heap[b]? = some (.cells cs t fr)) (k : Nat) : W.cell? ⟨b, k, none⟩ = cs[k]? := by simp [World.cell?, h]

/-- slices.Concat of three that were just laid. -/
theorem concat3 (xs us ys : List Int) (ax au ay : Option Addr) (cx cu cy nx ny : Nat) (W : World) (hX : Ints W.heap.size W ax xs) (hU : Ints W.heap.size W au us) (hY : Ints W.heap.size W ay ys) (hnx : nx = xs.length) (hny : ny = ys.length)
    (nX : ax ≠ none) (nU : au ≠ none) (nY : ay ≠ none) (h0 : 0 < us.length) (hl : xs.length + us.length + ys.length ≤ 1000) :
    Calls Try.prog 47 #[.slice (some ⟨W.heap.size, 0, none⟩) 3 3] (W.alloc (.cells #[.slice ax nx cx, .slice au us.length cu, .slice ay ny cy] 23)) fun e w' => ∃ v, e = .returned v ∧ New W.heap.size w' v (xs ++ us ++ ys) ∧ Below W.heap.size W w' := by
  subst hnx hny
  have hB : Below W.heap.size W (W.alloc (.cells #[.slice ax xs.length cx, .slice au us.length cu, .slice ay ys.length cy] 23)) := (Below.refl _ _).alloc (Nat.le_refl _) _
  have hh := World.alloc_heap_new W (.cells #[.slice ax xs.length cx, .slice au us.length cu, .slice ay ys.length cy] 23)
  have h := concat_any [xs, us, ys] (fun j => if j = 0 then ax else if j = 1 then au else ay) (fun j => if j = 0 then cx else if j = 1 then cu else cy) W.heap.size 3 (W.alloc (.cells #[.slice ax xs.length cx, .slice au us.length cu, .slice ay ys.length cy] 23))
    (by simp) (by simp [lens]; omega) (by simp [lens]; omega) (by simp)
    (fun j hj => by
      match j, hj with
      | 0, _ => rw [cell_at hh]; rfl
      | 1, _ => rw [cell_at hh]; rfl
      | 2, _ => rw [cell_at hh]; rfl)
    (fun j hj => by
      match j, hj with
      | 0, _ => exact (hX.below hB).mono hB.size
      | 1, _ => exact (hU.below hB).mono hB.size
      | 2, _ => exact (hY.below hB).mono hB.size)
    (fun j hj e => by
      match j, hj with
      | 0, _ => exact absurd e nX
      | 1, _ => exact absurd e nU
      | 2, _ => exact absurd e nY)
  refine h.mono ?_
  rintro e w' ⟨v, rfl, hN, hB'⟩
  exact ⟨v, rfl, by simpa using hN.mono (by simp), hB.trans (hB'.mono (by simp))⟩

set_option maxRecDepth 100000 in
set_option maxHeartbeats 2000000 in
/-- term.Put, where nothing is wrong but, perhaps, the size. -/
theorem put_try (zs us : List Int) (b off : Nat) (au : Option Addr) (cap cu j : Nat) (w : World) (hI : Ints w.heap.size w (some ⟨b, off, none⟩) zs) (hU : Ints w.heap.size w au us) (hcap : zs.length ≤ cap) (hcap2 : cap ≤ maxLen) (he : Tm.err zs = 0) (hu : Tm.err us = 0) (hj : j < zs.length) :
    Calls Try.prog 23 #[.slice (some ⟨b, off, none⟩) zs.length cap, .int .i64 (j : Int), .slice au us.length cu] w fun e w' => ∃ v, e = .returned (.tuple #[v, .int .i64 (if 30 < (Tm.put zs j us).length then 2 else 0)]) ∧ New w.heap.size w' v (if 30 < (Tm.put zs j us).length then [] else Tm.put zs j us) ∧ Below w.heap.size w w' := by
  have hC1 := check_any zs (some ⟨b, off, none⟩) cap w hI
  have hC2 : ∀ W, Below w.heap.size w W → Calls Try.prog 22 #[.slice au us.length cu] W fun e w' => e = .returned (.int .i64 0) ∧ Below W.heap.size W w' := fun W hW => by
    have h := check_any us au cu W ((hU.below hW).mono hW.size); rw [hu] at h; exact h
  have HC2 := show Hid _ from hC2
  rw [he] at hC1
  have hp : insideB (j : Int) 0 ((zs.length : Int) - 1) = true := (insideB_iff _ _ _).2 ⟨by omega, by omega⟩
  have hE : ∀ W, Below w.heap.size w W → Calls Try.prog 45 #[.slice (some ⟨b, off, none⟩) zs.length cap, .int .i64 (j : Int)] W fun e w' => e = .returned (.int .i64 (Tm.endAt zs j : Int)) ∧ Below W.heap.size W w' :=
    fun W hW => end_any zs (Tm.err_len he) _ cap j (by have := Tm.err_len he; omega) W ((hI.below hW).mono hW.size)
  have HE := show Hid _ from hE
  have hei := Tm.end_in he hj
  have heg := Tm.endAt_gt zs j
  have h30 := Tm.err_len he
  have hu30 := Tm.err_len hu
  have hlen := Tm.put_length (us := us) hj
  have hcon : ∀ (W : World) (a3 : Option Addr) (n3 c3 : Nat), Below w.heap.size w W → Ints w.heap.size w a3 (zs.drop (Tm.endAt zs j)) → a3 ≠ none → n3 = zs.length - Tm.endAt zs j →
      Calls Try.prog 47 #[.slice (some ⟨W.heap.size, 0, none⟩) 3 3] (W.alloc (.cells #[.slice (some ⟨b, off, none⟩) j cap, .slice au us.length cu, .slice a3 n3 c3] 23)) fun e w' => ∃ v, e = .returned v ∧ New w.heap.size w' v (Tm.put zs j us) ∧ Below w.heap.size w w' := by
    intro W a3 n3 c3 hW hI3 hn3 hl3
    refine (concat3 (zs.take j) us (zs.drop (Tm.endAt zs j)) (some ⟨b, off, none⟩) au a3 cap cu c3 j n3 W (((hI.below hW).mono hW.size).take j) ((hU.below hW).mono hW.size) ((hI3.below hW).mono hW.size)
      (by rw [List.length_take]; omega) (by rw [List.length_drop]; omega) (by simp) (hU.some (Tm.err_pos hu)) hn3 (Tm.err_pos hu) (by rw [List.length_take, List.length_drop]; omega)).mono ?_
    rintro e w' ⟨v, rfl, hN, hB⟩
    exact ⟨v, rfl, hN.mono hW.size, hW.trans (hB.mono hW.size)⟩
  have HCo := show Hid _ from hcon
  have HI := show Hid _ from hI
  clear hC2 hE hcon hI hU
  unfold maxLen at hcap2
  generalize hq : Tm.endAt zs j = q at *
  clear hq he hu
  generalize Tm.put zs j us = pt at *
  have h1 : (j : Int) < (zs.length : Int) := by omega
  have h2 : (zs.length : Int) ≤ (cap : Int) := by omega
  have h3 : (zs.length : Int) ≤ 30 := by omega
  have h4 : (q : Int) ≤ (zs.length : Int) := by omega
  have h5 : (j : Int) ≤ (cap : Int) := by omega
  have h6 : (cap : Int) ≤ 9223372036854775807 := by omega
  have hpl : (pt.length : Int) ≤ 1000 := by omega
  have Hlen := show Hid _ from hlen
  clear hlen
  by_cases hz : cap - q = 0
  · obtain ⟨rfl, rfl⟩ : zs.length = cap ∧ q = zs.length := by omega
    by_cases hbig : 30 < pt.length
    · have hbig' : (30 : Int) < (pt.length : Int) := by omega
      rw [if_pos hbig, if_pos hbig]
      clear hbig
      go_enter Try.func23, Try.ntmps23
      go_wp2_with fail
      refine hC1.mono ?_
      rintro e w1 ⟨rfl, hB1⟩
      go_wp2_with fail
      refine (HC2.out _ hB1).mono ?_
      rintro e w2 ⟨rfl, hB2⟩
      have hB12 := hB1.trans (hB2.mono hB1.size)
      go_wp2_with (go_at_call 46; refine (hasPlace_any _ _ _ _ _).mono ?_; rw [hp]; rintro e w2 ⟨rfl, rfl⟩)
      go_region_with (first
        | (go_at_call 45; refine (HE.out _ (by exact below_drewN hB12 1)).mono ?_; rintro e w3 ⟨rfl, hB3⟩; have hB13 := (below_drewN hB12 1).trans (hB3.mono hB12.size))
        | (go_at_call 47; refine (HCo.out _ (some ⟨b, off, none⟩) _ _ hB13 (by rw [List.drop_length]; exact Ints.nil _ _ _) (by simp) (by omega)).mono ?_; rintro e w4 ⟨v, rfl, hN, hB4⟩; obtain ⟨a', c', rfl, _⟩ := New.ints hN))
      all_goals (
        go_wp2
        go_ret2
        exact ⟨_, rfl, New.nil _ _, hB4⟩)
    · have hbig' : (pt.length : Int) ≤ 30 := by omega
      rw [if_neg hbig, if_neg hbig]
      clear hbig
      go_enter Try.func23, Try.ntmps23
      go_wp2_with fail
      refine hC1.mono ?_
      rintro e w1 ⟨rfl, hB1⟩
      go_wp2_with fail
      refine (HC2.out _ hB1).mono ?_
      rintro e w2 ⟨rfl, hB2⟩
      have hB12 := hB1.trans (hB2.mono hB1.size)
      go_wp2_with (go_at_call 46; refine (hasPlace_any _ _ _ _ _).mono ?_; rw [hp]; rintro e w2 ⟨rfl, rfl⟩)
      go_region_with (first
        | (go_at_call 45; refine (HE.out _ (by exact below_drewN hB12 1)).mono ?_; rintro e w3 ⟨rfl, hB3⟩; have hB13 := (below_drewN hB12 1).trans (hB3.mono hB12.size))
        | (go_at_call 47; refine (HCo.out _ (some ⟨b, off, none⟩) _ _ hB13 (by rw [List.drop_length]; exact Ints.nil _ _ _) (by simp) (by omega)).mono ?_; rintro e w4 ⟨v, rfl, hN, hB4⟩; obtain ⟨a', c', rfl, _⟩ := New.ints hN))
      all_goals (
        go_wp2
        go_ret2
        exact ⟨_, rfl, hN, hB4⟩)
  · by_cases hbig : 30 < pt.length
    · have hbig' : (30 : Int) < (pt.length : Int) := by omega
      rw [if_pos hbig, if_pos hbig]
      clear hbig
      go_enter Try.func23, Try.ntmps23
      go_wp2_with fail
      refine hC1.mono ?_
      rintro e w1 ⟨rfl, hB1⟩
      go_wp2_with fail
      refine (HC2.out _ hB1).mono ?_
      rintro e w2 ⟨rfl, hB2⟩
      have hB12 := hB1.trans (hB2.mono hB1.size)
      go_wp2_with (go_at_call 46; refine (hasPlace_any _ _ _ _ _).mono ?_; rw [hp]; rintro e w2 ⟨rfl, rfl⟩)
      go_region_with (first
        | (go_at_call 45; refine (HE.out _ (by exact below_drewN hB12 1)).mono ?_; rintro e w3 ⟨rfl, hB3⟩; have hB13 := (below_drewN hB12 1).trans (hB3.mono hB12.size))
        | (go_at_call 47; refine (HCo.out _ (some ⟨b, off + q, none⟩) _ _ hB13 (Ints.drop HI.out q) (by simp) (by omega)).mono ?_; rintro e w4 ⟨v, rfl, hN, hB4⟩; obtain ⟨a', c', rfl, _⟩ := New.ints hN))
      all_goals (
        go_wp2
        go_ret2
        exact ⟨_, rfl, New.nil _ _, hB4⟩)
    · have hbig' : (pt.length : Int) ≤ 30 := by omega
      rw [if_neg hbig, if_neg hbig]
      clear hbig
      go_enter Try.func23, Try.ntmps23
      go_wp2_with fail
      refine hC1.mono ?_
      rintro e w1 ⟨rfl, hB1⟩
      go_wp2_with fail
      refine (HC2.out _ hB1).mono ?_
      rintro e w2 ⟨rfl, hB2⟩
      have hB12 := hB1.trans (hB2.mono hB1.size)
      go_wp2_with (go_at_call 46; refine (hasPlace_any _ _ _ _ _).mono ?_; rw [hp]; rintro e w2 ⟨rfl, rfl⟩)
      go_region_with (first
        | (go_at_call 45; refine (HE.out _ (by exact below_drewN hB12 1)).mono ?_; rintro e w3 ⟨rfl, hB3⟩; have hB13 := (below_drewN hB12 1).trans (hB3.mono hB12.size))
        | (go_at_call 47; refine (HCo.out _ (some ⟨b, off + q, none⟩) _ _ hB13 (Ints.drop HI.out q) (by simp) (by omega)).mono ?_; rintro e w4 ⟨v, rfl, hN, hB4⟩; obtain ⟨a', c', rfl, _⟩ := New.ints hN))
      all_goals (
        go_wp2
        go_ret2
        exact ⟨_, rfl, hN, hB4⟩)

end Go.Proofs.Ytjaikmlbajdedac

namespace Go.Proofs.Ytjaikmlbajdedac
open Go.Proofs Go.RowKit Go.Shelf

theorem Tm.putErr_zs {zs us : List Int} {k : Int} (he : Tm.err zs ≠ 0) : Tm.putErr zs k us = Tm.err zs := by simp [Tm.putErr, he]
theorem Tm.putErr_us {zs us : List Int} {k : Int} (he : Tm.err zs = 0) (hu : Tm.err us ≠ 0) : Tm.putErr zs k us = Tm.err us := by simp [Tm.putErr, he, hu]
theorem Tm.putErr_k {zs us : List Int} {k : Int} (he : Tm.err zs = 0) (hu : Tm.err us = 0) (hk : insideB k 0 ((zs.length : Int) - 1) = false) : Tm.putErr zs k us = 3 := by simp [Tm.putErr, he, hu, hk]
theorem Tm.putErr_in {zs us : List Int} {j : Nat} (he : Tm.err zs = 0) (hu : Tm.err us = 0) (hk : insideB (j : Int) 0 ((zs.length : Int) - 1) = true) : Tm.putErr zs (j : Int) us = if 30 < (Tm.put zs j us).length then 2 else 0 := by
  simp [Tm.putErr, he, hu, hk]
theorem Tm.putVal_in {zs us : List Int} {j : Nat} (he : Tm.err zs = 0) (hu : Tm.err us = 0) (hk : insideB (j : Int) 0 ((zs.length : Int) - 1) = true) : Tm.putVal zs (j : Int) us = if 30 < (Tm.put zs j us).length then [] else Tm.put zs j us := by
  unfold Tm.putVal
  rw [Tm.putErr_in he hu hk]
  by_cases h : 30 < (Tm.put zs j us).length <;> simp [h]
theorem Tm.putVal_out {zs us : List Int} {k : Int} (h : Tm.putErr zs k us ≠ 0) : Tm.putVal zs k us = [] := by simp [Tm.putVal, h]

theorem Tm.putVal_le (zs us : List Int) (k : Int) : (Tm.putVal zs k us).length ≤ 30 := by
  unfold Tm.putVal
  by_cases h : Tm.putErr zs k us = 0
  · rw [if_pos h]
    unfold Tm.putErr at h
    by_cases h1 : Tm.err zs = 0
    · rw [if_pos h1] at h
      by_cases h2 : Tm.err us = 0
      · rw [if_pos h2] at h
        by_cases h3 : insideB k 0 ((zs.length : Int) - 1) = true
        · rw [if_pos h3] at h
          by_cases h4 : 30 < (Tm.put zs k.toNat us).length
          · rw [if_pos h4] at h; omega
          · omega
        · rw [if_neg h3] at h; omega
      · rw [if_neg h2] at h; exact absurd h h2
    · rw [if_neg h1] at h; exact absurd h h1
  · rw [if_neg h]; exact Nat.zero_le _

set_option maxRecDepth 100000 in
set_option maxHeartbeats 400000 in
/-- term.Put. -/
theorem termPut_any (zs us : List Int) (a au : Option Addr) (cap cu : Nat) (k : Int) (w : World) (hI : Ints w.heap.size w a zs) (hU : Ints w.heap.size w au us) (hcap : zs.length ≤ cap) (hcap2 : cap ≤ maxLen) :
    Calls Try.prog 23 #[.slice a zs.length cap, .int .i64 k, .slice au us.length cu] w fun e w' => ∃ v, e = .returned (.tuple #[v, .int .i64 (Tm.putErr zs k us)]) ∧ New w.heap.size w' v (Tm.putVal zs k us) ∧ Below w.heap.size w w' := by
  have hC1 := check_any zs a cap w hI
  by_cases he : Tm.err zs = 0
  · have hC2 : ∀ W, Below w.heap.size w W → Calls Try.prog 22 #[.slice au us.length cu] W fun e w' => e = .returned (.int .i64 (Tm.err us)) ∧ Below W.heap.size W w' := fun W hW => check_any us au cu W ((hU.below hW).mono hW.size)
    have HC2 := hid (hC2)
    clear hC2
    by_cases hu : Tm.err us = 0
    · by_cases hp : insideB k 0 ((zs.length : Int) - 1) = true
      · have hk := (insideB_iff _ _ _).1 hp
        obtain ⟨j, rfl⟩ : ∃ j : Nat, k = (j : Int) := ⟨k.toNat, by omega⟩
        obtain ⟨b, off, rfl, _⟩ := hI.at (by omega)
        rw [Tm.putErr_in he hu hp, Tm.putVal_in he hu hp]
        exact put_try zs us b off au cap cu j w hI hU hcap hcap2 he hu (by omega)
      · have hp' : insideB k 0 ((zs.length : Int) - 1) = false := by simpa using hp
        have hpe := Tm.putErr_k (us := us) he hu hp'
        rw [Tm.putVal_out (by rw [hpe]; decide), hpe]
        rw [he] at hC1
        rw [hu] at HC2
        clear hpe hp he hu hI hU hcap2
        go_enter Try.func23, Try.ntmps23
        go_wp2_with fail
        refine hC1.mono ?_
        rintro e w1 ⟨rfl, hB1⟩
        go_wp2_with fail
        refine (HC2.out _ hB1).mono ?_
        rintro e w2 ⟨rfl, hB2⟩
        go_wp2_with (go_at_call 46; refine (hasPlace_any _ _ _ _ _).mono ?_; rw [hp']; rintro e w2 ⟨rfl, rfl⟩)
        go_ret2
        exact ⟨_, rfl, New.nil _ _, hB1.trans (hB2.mono hB1.size)⟩
    · have hpe := Tm.putErr_us (k := k) he hu
      rw [Tm.putVal_out (by rw [hpe]; exact hu), hpe]
      have hne : (Tm.err us != 0) = true := by simp [hu]
      rw [he] at hC1
      clear hpe he hu hI hU hcap2
      generalize Tm.err us = q at *
      go_enter Try.func23, Try.ntmps23
      go_wp2_with fail
      refine hC1.mono ?_
      rintro e w1 ⟨rfl, hB1⟩
      go_wp2_with fail
      refine (HC2.out _ hB1).mono ?_
      rintro e w2 ⟨rfl, hB2⟩
      go_wp2
      go_ret2
      exact ⟨_, rfl, New.nil _ _, hB1.trans (hB2.mono hB1.size)⟩
  · have hpe := Tm.putErr_zs (us := us) (k := k) he
    rw [Tm.putVal_out (by rw [hpe]; exact he), hpe]
    have hne : (Tm.err zs != 0) = true := by simp [he]
    clear hpe he hI hU hcap2
    generalize Tm.err zs = q at *
    go_enter Try.func23, Try.ntmps23
    go_wp2_with fail
    refine hC1.mono ?_
    rintro e w1 ⟨rfl, hB1⟩
    go_wp2
    go_ret2
    exact ⟨_, rfl, New.nil _ _, hB1⟩

set_option maxRecDepth 100000 in
set_option maxHeartbeats 400000 in
/-- haspref.put, of right ones. -/
theorem refput_any (zs us : List Int) (a au : Option Addr) (cap cu j : Nat) (w : World) (hI : Ints w.heap.size w a zs) (hU : Ints w.heap.size w au us) (hcap : zs.length ≤ cap) (hcap2 : cap ≤ maxLen) (he : Tm.err zs = 0) (hu : Tm.err us = 0) (hj : j < zs.length) :
    Calls Try.prog 83 #[.slice a zs.length cap, .int .i64 (j : Int), .slice au us.length cu] w fun e w' => ∃ v, e = .returned v ∧ New w.heap.size w' v (Tm.put zs j us) ∧ Below w.heap.size w w' := by
  have h30 := Tm.err_len he
  have hu30 := Tm.err_len hu
  have hei := Tm.end_in he hj
  have heg := Tm.endAt_gt zs j
  have hUs := hid (hU.some (Tm.err_pos hu))
  obtain ⟨b, off, rfl, hb, _⟩ := hI.at (by omega)
  have hB0 : Below w.heap.size w (w.alloc (.cells #[] 3)) := (Below.refl _ _).alloc (Nat.le_refl _) _
  have hl : New w.heap.size (w.alloc (.cells #[] 3)) (.slice (some ⟨w.heap.size, 0, none⟩) 0 0) [] := New.lit w.heap.size w [] (Nat.le_refl _) (by unfold maxLen; simp)
  have hE : ∀ W, Below w.heap.size w W → Calls Try.prog 92 #[.slice (some ⟨b, off, none⟩) zs.length cap, .int .i64 (j : Int)] W fun e w' => e = .returned (.int .i64 (Tm.endAt zs j : Int)) ∧ Below W.heap.size W w' :=
    fun W hW => endOf_any zs (some ⟨b, off, none⟩) cap j W ((hI.below hW).mono hW.size) hcap hcap2 he hj
  have HE := hid (hE)
  have HU := hid (hU)
  have HI := hid (hI)
  have hput : Tm.put zs j us = [] ++ zs.take j ++ us ++ zs.drop (Tm.endAt zs j) := by simp [Tm.put]
  rw [hput]
  have htl : (zs.take j).length = j := by rw [List.length_take]; omega
  have hdl : (zs.drop (Tm.endAt zs j)).length = zs.length - Tm.endAt zs j := by rw [List.length_drop]
  have HT := hid (hI.take j)
  have HD : Hid (∀ n X, Ints n X (some ⟨b, off, none⟩) zs → ∀ c, Ints n X (if c = 0 then some ⟨b, off, none⟩ else some ⟨b, off + Tm.endAt zs j, none⟩) (zs.drop (Tm.endAt zs j)) ∨ (c = 0 ∧ zs.drop (Tm.endAt zs j) ≠ [])) := by
    intro n X hX c
    by_cases hc : c = 0
    · by_cases hd : zs.drop (Tm.endAt zs j) = []
      · left; rw [hd]; exact Ints.nil _ _ _
      · right; exact ⟨hc, hd⟩
    · left; rw [if_neg hc]; exact hX.drop _
  have Htl := hid (htl)
  have Hdl := hid (hdl)
  unfold maxLen at hcap2
  clear hE hU hI hput htl hdl he hu
  generalize Tm.endAt zs j = q at *
  generalize hxs : zs.take j = xs at *
  generalize hys : zs.drop q = ys at *
  clear hxs hys
  have h1 : (j : Int) ≤ (cap : Int) := by omega
  have h2 : (q : Int) ≤ (zs.length : Int) := by omega
  have h3 : (zs.length : Int) ≤ (cap : Int) := by omega
  have h4 : (zs.length : Int) ≤ 30 := by omega
  by_cases hz : cap - q = 0
  · have hys0 : ys = [] := List.eq_nil_of_length_eq_zero (by rw [Hdl.out]; omega)
    obtain ⟨rfl, rfl⟩ : zs.length = cap ∧ q = zs.length := by omega
    clear HD
    go_enter Try.func83, Try.ntmps83
    go_wp2_with (first
      | (at_builtin; refine wp_append_ints _ rfl (.tmp 7) (.tmp 10) rfl w.heap.size _ [] rfl hl (some ⟨b, off, none⟩) xs zs.length (by rw [Htl.out]; rfl) (fun h => by cases h) ((HT.out.below hB0).mono hB0.size) (by rw [Htl.out]; simp; omega) hB0.size ?_; intro v1 w1 hN1 hB1; have hB01 := hB0.trans hB1; clear hB1)
      | (at_builtin; refine wp_append_ints _ rfl (.tmp 11) (.tmp 12) rfl w.heap.size _ _ rfl hN1 au us _ rfl (fun h => absurd h hUs.out) ((HU.out.below hB01).mono hB01.size) (by rw [List.length_append, Htl.out]; simp; omega) hB01.size ?_; intro v2 w2 hN2 hB2; have hB02 := hB01.trans hB2; clear hB2)
      | (go_at_call 92; refine (HE.out _ hB02).mono ?_; rintro e w3 ⟨rfl, hB3⟩; have hN3 := New.below hN2 hB3; have hB03 := hB02.trans (hB3.mono hB02.size); clear hB3)
      | (at_builtin; go_loud (refine wp_append_ints _ rfl (.tmp 13) (.tmp 18) rfl w.heap.size _ _ rfl hN3 (some ⟨b, off, none⟩) ys 0 (by rw [hys0]; rfl) (fun h => by cases h) (by rw [hys0]; exact Ints.nil _ _ _) (by rw [List.length_append, List.length_append, Htl.out, Hdl.out]; simp; omega) hB03.size ?_); intro v4 w4 hN4 hB4))
    obtain ⟨a4, c4, rfl, _⟩ := New.ints hN4
    go_ret
    exact ⟨_, rfl, hN4, hB03.trans hB4⟩
  · have HY : Hid (∀ n X, Ints n X (some ⟨b, off, none⟩) zs → Ints n X (some ⟨b, off + q, none⟩) ys) := fun n X hX => by
      rcases HD.out n X hX 1 with h | h
      · simpa using h
      · exact absurd h.1 (by decide)
    clear HD
    go_enter Try.func83, Try.ntmps83
    go_wp2_with (first
      | (at_builtin; refine wp_append_ints _ rfl (.tmp 7) (.tmp 10) rfl w.heap.size _ [] rfl hl (some ⟨b, off, none⟩) xs cap (by rw [Htl.out]; rfl) (fun h => by cases h) ((HT.out.below hB0).mono hB0.size) (by rw [Htl.out]; simp; omega) hB0.size ?_; intro v1 w1 hN1 hB1; have hB01 := hB0.trans hB1; clear hB1)
      | (at_builtin; refine wp_append_ints _ rfl (.tmp 11) (.tmp 12) rfl w.heap.size _ _ rfl hN1 au us _ rfl (fun h => absurd h hUs.out) ((HU.out.below hB01).mono hB01.size) (by rw [List.length_append, Htl.out]; simp; omega) hB01.size ?_; intro v2 w2 hN2 hB2; have hB02 := hB01.trans hB2; clear hB2)
      | (go_at_call 92; refine (HE.out _ hB02).mono ?_; rintro e w3 ⟨rfl, hB3⟩; have hN3 := New.below hN2 hB3; have hB03 := hB02.trans (hB3.mono hB02.size); clear hB3)
      | (at_builtin; go_loud (refine wp_append_ints _ rfl (.tmp 13) (.tmp 18) rfl w.heap.size _ _ rfl hN3 (some ⟨b, off + q, none⟩) ys (cap - q) (by rw [Hdl.out]; rfl) (fun h => by cases h) (HY.out _ _ ((HI.out.below hB03).mono hB03.size)) (by rw [List.length_append, List.length_append, Htl.out, Hdl.out]; simp; omega) hB03.size ?_); intro v4 w4 hN4 hB4))
    obtain ⟨a4, c4, rfl, _⟩ := New.ints hN4
    go_ret
    exact ⟨_, rfl, hN4, hB03.trans hB4⟩

end Go.Proofs.Ytjaikmlbajdedac

namespace Go.Proofs.Ytjaikmlbajdedac
open Go.Proofs Go.RowKit Go.Shelf

theorem ints_lit (W : World) (zs : List Int) (n : Nat) (hn : n = W.heap.size + 1) : Ints n (W.alloc (.cells (zs.map (Value.int .i64)).toArray 3)) (some ⟨W.heap.size, 0, none⟩) zs := by
  subst hn
  intro j hj
  refine ⟨W.heap.size, 0, rfl, by omega, ?_⟩
  rw [cell_at (World.alloc_heap_new W _)]
  simp [hj]

set_option maxHeartbeats 400000 in
theorem fxga_any (w : World) : Calls Try.prog 40 #[] w fun e w' => ∃ a, e = .returned (.slice a 4 4) ∧ Ints w'.heap.size w' a [4, -1, 2, 0] ∧ Below w.heap.size w w' := by
  have h := ints_lit w [4, -1, 2, 0] _ rfl
  simp only [List.map_cons, List.map_nil] at h
  go_enter Try.func40, Try.ntmps40
  go_wp2
  go_ret
  exact ⟨_, rfl, by simpa using h, (Below.refl _ _).alloc (Nat.le_refl _) _⟩

end Go.Proofs.Ytjaikmlbajdedac

namespace Go.Proofs.Ytjaikmlbajdedac
open Go.Proofs Go.RowKit Go.Shelf

theorem Tm.q1 : Tm.endVal [4, -1, 2, 0] 2 = 4 := by decide +kernel
theorem Tm.q2 : Tm.placeErr [4, -1, 2, 0] 2 = 0 := by decide +kernel
theorem Tm.q3 : Tm.partVal [4, -1, 2, 0] 2 = [2, 0] := by decide +kernel
theorem Tm.q4 : Tm.putErr [4, -1, 2, 0] 1 [3, 1] = 0 := by decide +kernel
theorem Tm.q5 : Tm.putVal [4, -1, 2, 0] 1 [3, 1] = [4, 3, 1, 2, 0] := by decide +kernel
theorem Tm.q6 : Tm.placeErr [4, -1, 2, 0] 4 = 3 := by decide +kernel
theorem Tm.q7 : Tm.partVal [4, -1, 2, 0] 4 = [] := by decide +kernel
theorem Tm.q8 : Tm.putErr (List.replicate 31 0) 0 [4, -1, 2, 0] = 2 := by decide +kernel
theorem Tm.q9 : Tm.putVal (List.replicate 31 0) 0 [4, -1, 2, 0] = [] := by decide +kernel
theorem Tm.q10 : Tm.err [4, -1, 2, 0] = 0 := by decide +kernel
theorem Tm.q11 : Tm.err [4, 0] = 1 := by decide +kernel
theorem Tm.q12 : Tm.err [0, 0] = 1 := by decide +kernel
theorem Tm.q13 : Tm.err [6] = 3 := by decide +kernel
theorem Tm.q14 : Tm.err [] = 1 := by decide +kernel

/-- The same contracts at the arguments that termBegun hands them. -/
theorem b_end (a : Option Addr) (w : World) (hI : Ints w.heap.size w a [4, -1, 2, 0]) : Calls Try.prog 42 #[.slice a 4 4, .int .i64 2] w fun e w' => e = .returned (.tuple #[.int .i64 4, .int .i64 0]) ∧ Below w.heap.size w w' := by
  have h := termEnd_any [4, -1, 2, 0] a 4 2 w hI
  rw [Tm.q1, Tm.q2] at h
  exact h
theorem b_part (a : Option Addr) (w : World) (hI : Ints w.heap.size w a [4, -1, 2, 0]) : Calls Try.prog 21 #[.slice a 4 4, .int .i64 2] w fun e w' => ∃ b c, e = .returned (.tuple #[.slice b 2 c, .int .i64 0]) ∧ Ints w'.heap.size w' b [2, 0] ∧ Below w.heap.size w w' := by
  have h := termPart_any [4, -1, 2, 0] a 4 2 w hI (by simp)
  rw [Tm.q3, Tm.q2] at h
  refine h.mono ?_
  rintro e w' ⟨v, rfl, hN, hB⟩
  obtain ⟨b, c, rfl, h1, _⟩ := New.ints hN
  exact ⟨b, c, rfl, h1, hB⟩
theorem b_part4 (a : Option Addr) (w : World) (hI : Ints w.heap.size w a [4, -1, 2, 0]) : Calls Try.prog 21 #[.slice a 4 4, .int .i64 4] w fun e w' => ∃ b c, e = .returned (.tuple #[.slice b 0 c, .int .i64 3]) ∧ Below w.heap.size w w' := by
  have h := termPart_any [4, -1, 2, 0] a 4 4 w hI (by simp)
  rw [Tm.q7, Tm.q6] at h
  refine h.mono ?_
  rintro e w' ⟨v, rfl, hN, hB⟩
  obtain ⟨b, c, rfl, h1, _⟩ := New.ints hN
  exact ⟨b, c, rfl, hB⟩
theorem b_put (a b : Option Addr) (w : World) (hI : Ints w.heap.size w a [4, -1, 2, 0]) (hU : Ints w.heap.size w b [3, 1]) : Calls Try.prog 23 #[.slice a 4 4, .int .i64 1, .slice b 2 2] w fun e w' => ∃ b c, e = .returned (.tuple #[.slice b 5 c, .int .i64 0]) ∧ Ints w'.heap.size w' b [4, 3, 1, 2, 0] ∧ Below w.heap.size w w' := by
  have h := termPut_any [4, -1, 2, 0] [3, 1] a b 4 2 1 w hI hU (by simp) (by unfold maxLen; omega)
  rw [Tm.q4, Tm.q5] at h
  refine h.mono ?_
  rintro e w' ⟨v, rfl, hN, hB⟩
  obtain ⟨b, c, rfl, h1, _⟩ := New.ints hN
  exact ⟨b, c, rfl, h1, hB⟩
theorem b_put31 (a b : Option Addr) (w : World) (hI : Ints w.heap.size w a (List.replicate 31 0)) (hU : Ints w.heap.size w b [4, -1, 2, 0]) : Calls Try.prog 23 #[.slice a 31 31, .int .i64 0, .slice b 4 4] w fun e w' => ∃ b c, e = .returned (.tuple #[.slice b 0 c, .int .i64 2]) ∧ Below w.heap.size w w' := by
  have h := termPut_any (List.replicate 31 0) [4, -1, 2, 0] a b 31 4 0 w hI hU (by simp) (by unfold maxLen; omega)
  rw [Tm.q8, Tm.q9] at h
  refine h.mono ?_
  rintro e w' ⟨v, rfl, hN, hB⟩
  obtain ⟨b, c, rfl, h1, _⟩ := New.ints hN
  exact ⟨b, c, rfl, hB⟩
theorem b_check (zs : List Int) (n : Nat) (q : Int) (a : Option Addr) (c : Nat) (w : World) (hn : n = zs.length) (hq : Tm.err zs = q) (hI : Ints w.heap.size w a zs) : Calls Try.prog 22 #[.slice a n c] w fun e w' => e = .returned (.int .i64 q) ∧ Below w.heap.size w w' := by
  subst hn hq
  exact check_any zs a c w hI
theorem b_same (zs : List Int) (n : Nat) (a b : Option Addr) (c d : Nat) (w : World) (hn : n = zs.length) (hm : zs.length ≤ 1000) (hI : Ints w.heap.size w a zs) (hJ : Ints w.heap.size w b zs) : Calls Try.prog 10 #[.slice a n c, .slice b n d] w fun e w' => e = .returned (.bool true) ∧ Below w.heap.size w w' := by
  subst hn
  have h := same_any zs zs a b c d w hI hJ (by unfold maxLen; omega)
  rw [show sameB zs zs = true by simp [sameB]] at h
  exact h

theorem make31 : ∃ M : Array Value, (∀ W : World, (Instr.makeSlice 23 (.int .i64 31) (.int .i64 31)).run Try.prog W = .ok (.slice (some ⟨W.heap.size, 0, none⟩) 31 31) (W.alloc (.cells M 3))) ∧
    ∀ W : World, Ints (W.alloc (.cells M 3)).heap.size (W.alloc (.cells M 3)) (some ⟨W.heap.size, 0, none⟩) (List.replicate 31 0) := by
  obtain ⟨i0, hi, hz0, hz1, hz2⟩ := info_parts Try.info3
  refine ⟨madeCells #[.int .i64 0] 31, fun W => ?_, fun W j hj => ?_⟩
  · have h := run_makeSlice (P := Try.prog) W 23 3 i0 (.int .i64 0) Try.underlying23 hi hz0 .i64 .i64 31 31 (by omega) (by omega) (by rw [hz1]; decide) (by rw [hz2]; decide) (by decide)
    rw [hz1] at h
    exact h
  · refine ⟨W.heap.size, 0, rfl, by simp, ?_⟩
    rw [cell_at (World.alloc_heap_new W _)]
    have h := toList_madeCells_one (.int .i64 0) 31
    rw [List.length_replicate] at hj
    rw [← Array.getElem?_toList, h, List.getElem?_replicate, if_pos (by omega), List.getElem?_replicate, if_pos hj]
    rfl

end Go.Proofs.Ytjaikmlbajdedac

namespace Go.Proofs.Ytjaikmlbajdedac
open Go.Proofs Go.RowKit Go.Shelf

theorem lt_of_cell {W : World} {a : Addr} {v : Value} (h : W.cell? a = some v) : a.block < W.heap.size := by
  obtain ⟨o, ho, _⟩ := not_walk_of_cell h
  exact (Array.getElem?_eq_some_iff.1 ho).1

theorem ints_of_row {w : World} {a : Option Addr} {len cap : Nat} {z : List Int}
    (h : (a = none ∧ len = 0 ∧ cap = 0 ∧ z = []) ∨ ∃ x, a = some x ∧ len ≤ cap ∧ cap ≤ maxLen ∧ z.length = cap ∧ (∀ i, i < z.length → w.cell? (x.add i) = some (.int .i64 (z.getD i 0))) ∧ ∀ n ∈ z, (Lit.int .i64 n).wf = true) :
    ∃ zs : List Int, zs.length = len ∧ Ints w.heap.size w a zs ∧ len ≤ cap ∧ cap ≤ maxLen ∧ (a = none → cap = 0) := by
  rcases h with ⟨rfl, rfl, rfl, rfl⟩ | ⟨x, rfl, h1, h2, h3, h4, _⟩
  · exact ⟨[], rfl, Ints.nil _ _ _, Nat.le_refl _, Nat.zero_le _, fun _ => rfl⟩
  · refine ⟨z.take len, by rw [List.length_take]; omega, fun j hj => ?_, h1, h2, fun h => by cases h⟩
    rw [List.length_take] at hj
    have hc := h4 j (by omega)
    have hsp := World.cell?_spot (h4 0 (by omega))
    obtain ⟨b, off, spot⟩ := x
    have hspot : spot = none := by simpa [Addr.add] using hsp
    subst hspot
    rw [Go.WideShapes.add_plain] at hc
    refine ⟨b, off, rfl, by simpa using lt_of_cell hc, ?_⟩
    rw [hc, List.getD_eq_getElem?_getD]
    simp [show j < len from by omega]

end Go.Proofs.Ytjaikmlbajdedac

namespace Go.Proofs.Ytjaikmlbajdedac
open Go.Proofs Go.RowKit Go.Shelf

theorem Tm.run_app (l : List Int) : ∀ (r : List Int) (n : Nat), Tm.run l n ≤ l.length → Tm.run (l ++ r) n = Tm.run l n := by
  induction l with
  | nil => intro r n h; rw [Tm.run_nil] at h; have : n = 0 := by simpa using h
           subst this; simp [Tm.run_zero]
  | cons s l ih =>
    intro r n h
    cases n with
    | zero => simp [Tm.run_zero]
    | succ n =>
      rw [List.cons_append, Tm.run_cons, Tm.run_cons, ih]
      rw [Tm.run_cons, List.length_cons] at h
      omega
theorem Tm.run_take (l : List Int) : ∀ (n : Nat), Tm.run l n ≤ l.length → Tm.run (l.take (Tm.run l n)) n = Tm.run l n := by
  induction l with
  | nil => intro n h; simp [Tm.run_nil]
  | cons s l ih =>
    intro n h
    cases n with
    | zero => simp [Tm.run_zero]
    | succ n =>
      rw [Tm.run_cons] at h ⊢
      rw [List.length_cons] at h
      rw [show 1 + Tm.run l (n + Tm.room s) = Tm.run l (n + Tm.room s) + 1 from by omega, List.take_succ_cons, Tm.run_cons, ih _ (by omega)]
      omega
theorem Tm.run_open (l : List Int) : ∀ (r : List Int) (n : Nat), l.length < Tm.run (l ++ r) n → ∃ m, ∀ x, Tm.run (l ++ x) n = l.length + Tm.run x (m + 1) := by
  induction l with
  | nil =>
    intro r n h
    cases n with
    | zero => simp [Tm.run_zero] at h
    | succ n => exact ⟨n, fun x => by simp⟩
  | cons s l ih =>
    intro r n h
    cases n with
    | zero => simp [Tm.run_zero] at h
    | succ n =>
      rw [List.cons_append, Tm.run_cons, List.length_cons] at h
      obtain ⟨m, hm⟩ := ih r (n + Tm.room s) (by omega)
      refine ⟨m, fun x => ?_⟩
      rw [List.cons_append, Tm.run_cons, hm, List.length_cons]
      omega

theorem Tm.split (zs : List Int) (k : Nat) : zs = zs.take k ++ (Tm.part zs k ++ zs.drop (Tm.endAt zs k)) := by
  have hg := Tm.endAt_gt zs k
  have hd : zs.drop (Tm.endAt zs k) = (zs.drop k).drop (Tm.endAt zs k - k) := by rw [List.drop_drop]; congr 1; omega
  rw [hd, Tm.part, List.take_append_drop, List.take_append_drop]

theorem Tm.part_run {zs : List Int} (he : Tm.err zs = 0) {k : Nat} (hk : k < zs.length) : Tm.run (Tm.part zs k) 1 = (Tm.part zs k).length := by
  rw [Tm.part_length he hk]
  have h1 := Tm.end_in he hk
  have h2 : Tm.endAt zs k - k = Tm.run (zs.drop k) 1 := by unfold Tm.endAt; omega
  unfold Tm.part
  rw [h2, Tm.run_take]
  rw [List.length_drop]
  omega
theorem Tm.part_all {zs : List Int} (he : Tm.err zs = 0) (k : Nat) : (Tm.part zs k).all Tm.known = true := by
  have h := Tm.err_all he
  rw [List.all_eq_true] at h ⊢
  intro x hx
  exact h x (List.mem_of_mem_drop (List.mem_of_mem_take hx))
/-- Each part is a term. -/
theorem Tm.part_err {zs : List Int} (he : Tm.err zs = 0) {k : Nat} (hk : k < zs.length) : Tm.err (Tm.part zs k) = 0 := by
  refine Tm.err_ok ?_ (Tm.part_all he k) (Tm.part_run he hk)
  rw [Tm.part_length he hk]
  have := Tm.end_in he hk
  have := Tm.err_len he
  omega

theorem Tm.put_eq (zs us : List Int) (k : Nat) : Tm.put zs k us = zs.take k ++ (us ++ zs.drop (Tm.endAt zs k)) := by unfold Tm.put; rw [List.append_assoc]

theorem Tm.put_run {zs us : List Int} (he : Tm.err zs = 0) (hu : Tm.run us 1 = us.length) {k : Nat} (hk : k < zs.length) : Tm.run (Tm.put zs k us) 1 = (Tm.put zs k us).length := by
  have hs := Tm.split zs k
  have hr := Tm.err_run he
  have hp := Tm.part_run he hk
  have htl : (zs.take k).length = k := by rw [List.length_take]; omega
  generalize hP : Tm.part zs k = P at *
  rw [Tm.put_eq]
  generalize hA : zs.take k = A at *
  generalize hB : zs.drop (Tm.endAt zs k) = B at *
  clear hP hA hB
  rw [hs] at hr
  obtain ⟨m, hm⟩ := Tm.run_open A (P ++ B) 1 (by rw [hr]; rw [← hs]; omega)
  rw [hm, show m + 1 = 1 + m from by omega, Tm.run_add, Tm.run_app P B 1 (by omega), hp, List.drop_left] at hr
  rw [hm, show m + 1 = 1 + m from by omega, Tm.run_add, Tm.run_app us B 1 (by omega), hu, List.drop_left]
  simp only [List.length_append] at hr ⊢
  omega
theorem Tm.put_all {zs us : List Int} (he : Tm.err zs = 0) (hu : us.all Tm.known = true) (k : Nat) : (Tm.put zs k us).all Tm.known = true := by
  have h := Tm.err_all he
  rw [List.all_eq_true] at h hu ⊢
  intro x hx
  unfold Tm.put at hx
  rw [List.mem_append, List.mem_append] at hx
  rcases hx with (hx | hx) | hx
  · exact h x (List.mem_of_mem_take hx)
  · exact hu x hx
  · exact h x (List.mem_of_mem_drop hx)
/-- What comes is a term. -/
theorem Tm.put_err {zs us : List Int} (he : Tm.err zs = 0) (hu : Tm.err us = 0) {k : Nat} (hk : k < zs.length) (hl : (Tm.put zs k us).length ≤ 30) : Tm.err (Tm.put zs k us) = 0 :=
  Tm.err_ok hl (Tm.put_all he (Tm.err_all hu) k) (Tm.put_run he (Tm.err_run hu) hk)
theorem Tm.put_take {zs us : List Int} {k : Nat} (hk : k < zs.length) : (Tm.put zs k us).take k = zs.take k := by
  have htl : (zs.take k).length = k := by rw [List.length_take]; omega
  rw [Tm.put_eq]
  exact List.take_left' htl
theorem Tm.put_drop {zs us : List Int} {k : Nat} (hk : k < zs.length) : (Tm.put zs k us).drop k = us ++ zs.drop (Tm.endAt zs k) := by
  have htl : (zs.take k).length = k := by rw [List.length_take]; omega
  rw [Tm.put_eq]
  exact List.drop_left' htl
theorem Tm.put_end {zs us : List Int} (hu : Tm.err us = 0) {k : Nat} (hk : k < zs.length) : Tm.endAt (Tm.put zs k us) k = k + us.length := by
  unfold Tm.endAt
  rw [Tm.put_drop hk, Tm.run_app us _ 1 (by rw [Tm.err_run hu]; exact Nat.le_refl _), Tm.err_run hu]
/-- What is put at a place is part of what comes, there. -/
theorem Tm.put_part {zs us : List Int} (hu : Tm.err us = 0) {k : Nat} (hk : k < zs.length) : Tm.part (Tm.put zs k us) k = us := by
  unfold Tm.part
  rw [Tm.put_end hu hk, Tm.put_drop hk, show k + us.length - k = us.length from by omega, List.take_left]
/-- What stood there put back, it is the term it was. -/
theorem Tm.put_back {zs us : List Int} (hu : Tm.err us = 0) {k : Nat} (hk : k < zs.length) : Tm.put (Tm.put zs k us) k (Tm.part zs k) = zs := by
  have h1 : (Tm.put zs k us).drop (k + us.length) = zs.drop (Tm.endAt zs k) := by
    rw [← List.drop_drop, Tm.put_drop hk, List.drop_left]
  rw [Tm.put_eq (Tm.put zs k us), Tm.put_end hu hk, h1, Tm.put_take hk]
  exact (Tm.split zs k).symm

end Go.Proofs.Ytjaikmlbajdedac

namespace Go.Proofs.Ytjaikmlbajdedac
open Go.Proofs Go.RowKit Go.Shelf

/-- THE SLICE OF SLICES AT a HOLDS THE LISTS ss, all below block n. -/
def Subs (n : Nat) (W : World) (a : Option Addr) (ss : List (List Int)) : Prop :=
  ∀ j, j < ss.length → ∃ b off aj cj, a = some ⟨b, off, none⟩ ∧ b < n ∧ W.cell? ⟨b, off + j, none⟩ = some (.slice aj (ss[j]?.getD []).length cj) ∧ Ints n W aj (ss[j]?.getD []) ∧ (ss[j]?.getD []).length ≤ cj ∧ cj ≤ maxLen ∧ (aj = none → cj = 0)
theorem Subs.below {n : Nat} {A B : World} (h : Below n A B) {a : Option Addr} {ss : List (List Int)} (hs : Subs n A a ss) : Subs n B a ss := fun j hj => by
  obtain ⟨b, off, aj, cj, e, hb, hc, hI, h1, h2, h3⟩ := hs j hj
  exact ⟨b, off, aj, cj, e, hb, (h.cell (p := ⟨b, off + j, none⟩) hb).trans hc, hI.below h, h1, h2, h3⟩
theorem Subs.mono {n m : Nat} (h : n ≤ m) {W : World} {a : Option Addr} {ss : List (List Int)} (hs : Subs n W a ss) : Subs m W a ss := fun j hj => by
  obtain ⟨b, off, aj, cj, e, hb, hc, hI, h1, h2, h3⟩ := hs j hj
  exact ⟨b, off, aj, cj, e, by omega, hc, hI.mono h, h1, h2, h3⟩
theorem Subs.at {n : Nat} {W : World} {a : Option Addr} {ss : List (List Int)} (hs : Subs n W a ss) (h : 0 < ss.length) :
    ∃ b off, a = some ⟨b, off, none⟩ ∧ b < n ∧ ∀ j, j < ss.length → ∃ aj cj, W.cell? ⟨b, off + j, none⟩ = some (.slice aj (ss[j]?.getD []).length cj) ∧ Ints n W aj (ss[j]?.getD []) ∧ (ss[j]?.getD []).length ≤ cj ∧ cj ≤ maxLen ∧ (aj = none → cj = 0) := by
  obtain ⟨b, off, _, _, rfl, hb, _⟩ := hs 0 h
  refine ⟨b, off, rfl, hb, fun j hj => ?_⟩
  obtain ⟨b', off', aj, cj, e, _, hc, hr⟩ := hs j hj
  cases e
  exact ⟨aj, cj, hc, hr⟩
theorem Subs.nil (n : Nat) (W : World) (a : Option Addr) : Subs n W a [] := fun j hj => by simp at hj

/-- The first error of a list of terms. -/
def Tm.firstErr : List (List Int) → Int
  | [] => 0
  | t :: l => if Tm.err t = 0 then Tm.firstErr l else Tm.err t
def Tm.subErr (ss : List (List Int)) : Int := if ss.length = 8 then Tm.firstErr ss else 1
theorem Tm.firstErr_step {ss : List (List Int)} {k : Nat} (hk : k < ss.length) (he : Tm.err (ss[k]?.getD []) = 0) : Tm.firstErr (ss.drop k) = Tm.firstErr (ss.drop (k + 1)) := by
  rw [List.drop_eq_getElem_cons hk, Tm.firstErr]
  simp only [hk, List.getElem?_eq_getElem, Option.getD_some] at he
  rw [if_pos he]
theorem Tm.firstErr_stop {ss : List (List Int)} {k : Nat} (hk : k < ss.length) (he : Tm.err (ss[k]?.getD []) ≠ 0) : Tm.firstErr (ss.drop k) = Tm.err (ss[k]?.getD []) := by
  rw [List.drop_eq_getElem_cons hk, Tm.firstErr]
  simp only [hk, List.getElem?_eq_getElem, Option.getD_some] at he ⊢
  rw [if_neg he]
theorem Tm.firstErr_all {ss : List (List Int)} (h : Tm.firstErr ss = 0) : ∀ k, k < ss.length → Tm.err (ss[k]?.getD []) = 0 := by
  induction ss with
  | nil => intro k hk; simp at hk
  | cons t l ih =>
    intro k hk
    unfold Tm.firstErr at h
    by_cases he : Tm.err t = 0
    · rw [if_pos he] at h
      cases k with
      | zero => simpa using he
      | succ k => simpa using ih h k (by simpa using hk)
    · rw [if_neg he] at h; exact absurd h he

set_option maxHeartbeats 400000 in
theorem subCheck_len (len : Nat) (a : Option Addr) (cap : Nat) (w : World) (hl : len ≠ 8) : Calls Try.prog 32 #[.slice a len cap] w fun e w' => e = .returned (.int .i64 1) ∧ Below w.heap.size w w' := by
  have h1 : ((len : Int) != 8) = true := by simp; omega
  go_enter Try.func32, Try.ntmps32
  go_wp2
  go_ret
  exact ⟨rfl, Below.refl _ _⟩

set_option maxRecDepth 100000 in
set_option maxHeartbeats 400000 in
theorem subCheck_eight (ss : List (List Int)) (hl : ss.length = 8) (a : Option Addr) (cap : Nat) (w : World) (hS : Subs w.heap.size w a ss) :
    Calls Try.prog 32 #[.slice a 8 cap] w fun e w' => e = .returned (.int .i64 (Tm.firstErr ss)) ∧ Below w.heap.size w w' := by
  obtain ⟨b, off, rfl, hb, hc⟩ := hS.at (by omega)
  have Hc := hid hc
  have Hl := hid hl
  clear hc hS hl
  go_enter Try.func32, Try.ntmps32
  go_wp2
  go_loopw [11] (fun i wr => ∃ k : Nat, k ≤ 8 ∧ i = .int .i64 (k : Int) ∧ Hid (Tm.firstErr ss = Tm.firstErr (ss.drop k)) ∧ Below w.heap.size w wr) (fun i _ => 8 - (intOf i).toNat)
  case atStart => exact ⟨0, Nat.zero_le _, rfl, rfl, Below.refl _ _⟩
  case round =>
    obtain ⟨k, hk, rfl, hf, hB⟩ := hrel
    by_cases hlt : k < 8
    · have hlt' : (k : Int) < 8 := by omega
      obtain ⟨aj, cj, hcj, hIj, _⟩ := Hc.out k (by rw [Hl.out]; exact hlt)
      have hcj' := (hB.cell (p := ⟨b, off + k, none⟩) hb).trans hcj
      have hC := check_any (ss[k]?.getD []) aj cj wr ((hIj.below hB).mono hB.size)
      have hst := hid (Tm.firstErr_step (ss := ss) (k := k) (by rw [Hl.out]; exact hlt))
      have hsp := hid (Tm.firstErr_stop (ss := ss) (k := k) (by rw [Hl.out]; exact hlt))
      clear hcj hIj
      generalize ss[k]?.getD [] = t at *
      by_cases he : Tm.err t = 0
      · have hst' := hid (hf.out.trans (hst.out he))
        rw [he] at hC
        clear hst hsp he hf
        go_wp2_with (go_at_call 22; refine hC.mono ?_; clear hC; rintro e w1 ⟨rfl, hB1⟩)
        go_roundw
        case rel => exact ⟨k + 1, by omega, by go_num, hst'.out, hB.trans (hB1.mono hB.size)⟩
        case measure => simp [intOf]; omega
      · have hsp' := hid (hf.out.trans (hsp.out he))
        have hne : (Tm.err t != 0) = true := by simp [he]
        clear hst hsp he hf
        generalize Tm.err t = q at *
        go_wp2_with (go_at_call 22; refine hC.mono ?_; clear hC; rintro e w1 ⟨rfl, hB1⟩)
        go_ret
        exact ⟨by rw [hsp'.out]; rfl, hB.trans (hB1.mono hB.size)⟩
    · obtain rfl : k = 8 := by omega
      have h0 : Hid (Tm.firstErr ss = 0) := by
        show _ = _
        rw [hf.out, ← Hl.out, List.drop_length]
        rfl
      clear hf
      go_wp2
      go_ret
      exact ⟨by rw [h0.out]; rfl, hB⟩

/-- sub.Check. -/
theorem subCheck_any (ss : List (List Int)) (a : Option Addr) (cap : Nat) (w : World) (hS : Subs w.heap.size w a ss) :
    Calls Try.prog 32 #[.slice a ss.length cap] w fun e w' => e = .returned (.int .i64 (Tm.subErr ss)) ∧ Below w.heap.size w w' := by
  unfold Tm.subErr
  by_cases hl : ss.length = 8
  · rw [if_pos hl, hl]; exact subCheck_eight ss hl a cap w hS
  · rw [if_neg hl]; exact subCheck_len _ a cap w hl

end Go.Proofs.Ytjaikmlbajdedac

namespace Go.Proofs.Ytjaikmlbajdedac
open Go.Proofs Go.RowKit Go.Shelf

/-- What a sign becomes. -/
def Tm.piece (ss : List (List Int)) (s : Int) : List Int := if s < 0 then ss[(-1 - s).toNat]?.getD [] else [s]
def Tm.applied (ss : List (List Int)) (t : List Int) : List Int := t.flatMap (Tm.piece ss)
theorem Tm.applied_snoc (ss : List (List Int)) {t : List Int} {k : Nat} (h : k < t.length) : Tm.applied ss (t.take (k + 1)) = Tm.applied ss (t.take k) ++ Tm.piece ss (t[k]?.getD 0) := by
  rw [take_snoc h]
  simp [Tm.applied, List.flatMap_append]
/-- Each list is short. -/
def Short (ss : List (List Int)) : Prop := ∀ j, j < ss.length → (ss[j]?.getD []).length ≤ 30
theorem Short.of_ok {ss : List (List Int)} (h : Tm.firstErr ss = 0) : Short ss := fun j hj => Tm.err_len (Tm.firstErr_all h j hj)
theorem Short.any {ss : List (List Int)} (h : Short ss) (j : Nat) : (ss[j]?.getD []).length ≤ 30 := by
  by_cases hj : j < ss.length
  · exact h j hj
  · rw [List.getElem?_eq_none (by omega)]; simp
theorem Tm.piece_le {ss : List (List Int)} (h : Short ss) (s : Int) : (Tm.piece ss s).length ≤ 30 := by
  unfold Tm.piece
  by_cases hs : s < 0
  · rw [if_pos hs]; exact h.any _
  · rw [if_neg hs]; simp
theorem Tm.applied_le {ss : List (List Int)} (h : Short ss) (t : List Int) : (Tm.applied ss t).length ≤ 30 * t.length := by
  induction t with
  | nil => simp [Tm.applied]
  | cons s l ih =>
    have := Tm.piece_le h s
    simp only [Tm.applied, List.flatMap_cons, List.length_append, List.length_cons] at ih ⊢
    omega

set_option maxRecDepth 100000 in
set_option maxHeartbeats 400000 in
/-- The function literal of become. -/
theorem become1_any (ss : List (List Int)) (hl : ss.length = 8) (a : Option Addr) (cap Bs : Nat) (s : Int) (h8 : -8 ≤ s) (w : World) (hB : w.cell? ⟨Bs, 0, none⟩ = some (.slice a 8 cap)) (hS : Subs w.heap.size w a ss) :
    Calls Try.prog 59 #[.int .i64 s, .pointer (some ⟨Bs, 0, none⟩)] w fun e w' => ∃ b c, e = .returned (.slice b (Tm.piece ss s).length c) ∧ Ints w'.heap.size w' b (Tm.piece ss s) ∧ (b = none → (Tm.piece ss s).length = 0 ∧ c = 0) ∧ Below w.heap.size w w' := by
  by_cases hs : s < 0
  · obtain ⟨j, rfl⟩ : ∃ j : Nat, s = -1 - (j : Int) := ⟨(-1 - s).toNat, by omega⟩
    obtain ⟨b, off, rfl, hb, hc⟩ := hS.at (by omega)
    obtain ⟨aj, cj, hcj, hIj, h1, h2, h3⟩ := hc j (by omega)
    have hpc : Tm.piece ss (-1 - (j : Int)) = ss[j]?.getD [] := by
      unfold Tm.piece
      rw [if_pos hs]
      congr 2
      omega
    rw [hpc]
    have hj8 : (j : Int) < 8 := by omega
    have H3 : Hid (aj = none → (ss[j]?.getD []).length = 0 ∧ cj = 0) := fun e => ⟨by have := h3 e; omega, h3 e⟩
    clear hpc hc hS h3 h1 h2
    generalize ss[j]?.getD [] = t at *
    have hsub : (-1 : Int) - (-1 - (j : Int)) = (j : Int) := by omega
    go_enter Try.func59, Try.ntmps59
    go_wp2
    go_ret
    exact ⟨_, _, rfl, hIj, H3.out, Below.refl _ _⟩
  · have hpc : Tm.piece ss s = [s] := by simp [Tm.piece, hs]
    have h := ints_lit w [s] _ rfl
    simp only [List.map_cons, List.map_nil] at h
    have Hp := hid hpc
    clear hpc hS
    generalize Tm.piece ss s = pc at *
    go_enter Try.func59, Try.ntmps59
    go_wp2
    go_ret
    exact ⟨some ⟨w.heap.size, 0, none⟩, 1, by rw [Hp.out]; rfl, by rw [Hp.out]; simpa using h, (fun e => by cases e), (Below.refl _ _).alloc (Nat.le_refl _) _⟩

set_option maxRecDepth 100000 in
set_option maxHeartbeats 400000 in
/-- signs.Change by it. -/
theorem change_become (ss : List (List Int)) (hl : ss.length = 8) (hsh : Short ss) (a : Option Addr) (cap Bs : Nat) (t : List Int) (at' : Option Addr) (ct : Nat) (ht : t.length ≤ 30) (h8 : ∀ k, k < t.length → -8 ≤ t[k]?.getD 0) (w : World)
    (hBs : Bs < w.heap.size) (hB : w.cell? ⟨Bs, 0, none⟩ = some (.slice a 8 cap)) (hS : Subs w.heap.size w a ss) (hT : Ints w.heap.size w at' t) :
    Calls Try.prog 58 #[.slice at' t.length ct, .func (.func 59) #[] #[.pointer (some ⟨Bs, 0, none⟩)]] w fun e w' => ∃ v, e = .returned v ∧ New w.heap.size w' v (Tm.applied ss t) ∧ Below w.heap.size w w' := by
  have hlen : (t.length : Int) ≤ 30 := by omega
  have HB := hid hB
  have HS := hid hS
  have HT := hid hT
  have H8 := hid h8
  have Hl := hid hl
  clear hB hS hT h8 hl
  go_enter Try.func58, Try.ntmps58
  go_wp2
  go_loopw [5, 10] (fun v i wr => ∃ k : Nat, k ≤ t.length ∧ i = .int .i64 (k : Int) ∧ New w.heap.size wr v (Tm.applied ss (t.take k)) ∧ Below w.heap.size w wr) (fun _ i _ => t.length - (intOf i).toNat)
  case atStart => exact ⟨0, Nat.zero_le _, rfl, New.nil _ _, Below.refl _ _⟩
  case round =>
    obtain ⟨k, hk, rfl, hN, hBr⟩ := hrel
    by_cases hlt : k < t.length
    · have hlt' : (k : Int) < (t.length : Int) := by omega
      obtain ⟨b, off, rfl, hb, hc⟩ := HT.out.at (by omega)
      have hck := (hBr.cell (p := ⟨b, off + k, none⟩) hb).trans (hc k hlt)
      have hf := become1_any ss Hl.out a cap Bs (t[k]?.getD 0) (H8.out k hlt) wr ((hBr.cell (p := ⟨Bs, 0, none⟩) hBs).trans HB.out) ((HS.out.below hBr).mono hBr.size)
      have hsn := hid (Tm.applied_snoc ss hlt)
      have hle := Tm.applied_le hsh (t.take k)
      rw [List.length_take] at hle
      have hpl := Tm.piece_le hsh (t[k]?.getD 0)
      clear hc
      generalize Tm.piece ss (t[k]?.getD 0) = pc at *
      generalize t[k]?.getD 0 = s at *
      generalize Tm.applied ss (t.take k) = xs at *
      obtain ⟨a0, c0, rfl, _⟩ := New.ints hN
      go_wp2_with (first
        | (go_at_call 59; refine hf.mono ?_; clear hf; rintro e w1 ⟨b1, c1, rfl, hI1, hn1, hB1⟩; have hN1 := New.below hN hB1; have hB2 := hBr.trans (hB1.mono hBr.size))
        | (at_builtin; go_loud (refine wp_append_ints _ rfl _ _ rfl w.heap.size _ xs rfl hN1 b1 pc c1 rfl hn1 hI1 (by omega) hB2.size ?_); intro v' w2 hN2 hB3; obtain ⟨a2, c2, rfl, _⟩ := New.ints hN2))
      go_roundw
      case rel => exact ⟨k + 1, by omega, by go_num, by rw [hsn.out]; simpa using hN2, hB2.trans hB3⟩
      case measure => simp [intOf]; omega
    · obtain rfl : k = t.length := by omega
      rw [List.take_length] at hN
      obtain ⟨a2, c2, rfl, _⟩ := New.ints hN
      go_wp2
      go_ret
      exact ⟨_, rfl, hN, hBr⟩

/-- What Apply answers beside the error, of right ones. -/
theorem become_any (ss : List (List Int)) (hl : ss.length = 8) (hsh : Short ss) (a : Option Addr) (cap : Nat) (t : List Int) (at' : Option Addr) (ct : Nat) (ht : t.length ≤ 30) (h8 : ∀ k, k < t.length → -8 ≤ t[k]?.getD 0) (w : World)
    (hS : Subs w.heap.size w a ss) (hT : Ints w.heap.size w at' t) :
    Calls Try.prog 33 #[.slice a 8 cap, .slice at' t.length ct] w fun e w' => ∃ v, e = .returned (.tuple #[v, .int .i64 (if 30 < (Tm.applied ss t).length then 2 else 0)]) ∧ New w.heap.size w' v (if 30 < (Tm.applied ss t).length then [] else Tm.applied ss t) ∧ Below w.heap.size w w' := by
  have hmf : ∀ (fn : Fn) (first cap : Array Value) (w : World), (Instr.makeFunc fn first cap).run Try.prog w = .ok (.func fn first cap) w := fun _ _ _ _ => rfl
  have bS := Boxed.new w 24 (.slice a 8 cap)
  have hB : Below w.heap.size w (w.alloc (.cells #[.slice a 8 cap] 24)) := (Below.refl _ _).alloc (Nat.le_refl _) _
  have hC := change_become ss hl hsh a cap w.heap.size t at' ct ht h8 (w.alloc (.cells #[.slice a 8 cap] 24)) (by simp) bS.cell ((hS.below hB).mono hB.size) ((hT.below hB).mono hB.size)
  have hle := Tm.applied_le hsh t
  have Hle := hid hle
  clear hle hS hT h8 bS
  generalize Tm.applied ss t = xs at *
  have hx : (xs.length : Int) ≤ 1000 := by have := Hle.out; omega
  by_cases hbig : 30 < xs.length
  · have hbig' : (30 : Int) < (xs.length : Int) := by omega
    rw [if_pos hbig, if_pos hbig]
    clear hbig
    go_enter Try.func33, Try.ntmps33
    go_wp2_with (go_at_call 58; refine hC.mono ?_; clear hC; rintro e w1 ⟨v, rfl, hN, hB1⟩; obtain ⟨a1, c1, rfl, _⟩ := New.ints hN)
    go_ret2
    exact ⟨_, rfl, New.nil _ _, hB.trans (hB1.mono hB.size)⟩
  · have hbig' : (xs.length : Int) ≤ 30 := by omega
    rw [if_neg hbig, if_neg hbig]
    clear hbig
    go_enter Try.func33, Try.ntmps33
    go_wp2_with (go_at_call 58; refine hC.mono ?_; clear hC; rintro e w1 ⟨v, rfl, hN, hB1⟩; obtain ⟨a1, c1, rfl, _⟩ := New.ints hN)
    go_ret2
    exact ⟨_, rfl, hN.mono hB.size, hB.trans (hB1.mono hB.size)⟩

def Tm.applyErr (ss : List (List Int)) (t : List Int) : Int := if Tm.subErr ss = 0 then (if Tm.err t = 0 then (if 30 < (Tm.applied ss t).length then 2 else 0) else Tm.err t) else Tm.subErr ss
def Tm.applyVal (ss : List (List Int)) (t : List Int) : List Int := if Tm.applyErr ss t = 0 then Tm.applied ss t else []
theorem Tm.subErr_ok {ss : List (List Int)} (h : Tm.subErr ss = 0) : ss.length = 8 ∧ Tm.firstErr ss = 0 := by
  unfold Tm.subErr at h
  by_cases hl : ss.length = 8
  · rw [if_pos hl] at h; exact ⟨hl, h⟩
  · rw [if_neg hl] at h; omega
theorem Tm.known8 {t : List Int} (h : Tm.err t = 0) : ∀ k, k < t.length → -8 ≤ t[k]?.getD 0 := fun _ hk => Tm.known_ge (Tm.all_at (Tm.err_all h) hk)
theorem Tm.apply_ok {ss : List (List Int)} {t : List Int} (hs : Tm.subErr ss = 0) (ht : Tm.err t = 0) :
    Tm.applyErr ss t = (if 30 < (Tm.applied ss t).length then 2 else 0) ∧ Tm.applyVal ss t = (if 30 < (Tm.applied ss t).length then [] else Tm.applied ss t) := by
  have h1 : Tm.applyErr ss t = (if 30 < (Tm.applied ss t).length then 2 else 0) := by unfold Tm.applyErr; rw [if_pos hs, if_pos ht]
  refine ⟨h1, ?_⟩
  unfold Tm.applyVal
  rw [h1]
  by_cases h : 30 < (Tm.applied ss t).length <;> simp [h]
theorem Tm.apply_t {ss : List (List Int)} {t : List Int} (hs : Tm.subErr ss = 0) (ht : Tm.err t ≠ 0) : Tm.applyErr ss t = Tm.err t ∧ Tm.applyVal ss t = [] := by
  have h1 : Tm.applyErr ss t = Tm.err t := by unfold Tm.applyErr; rw [if_pos hs, if_neg ht]
  exact ⟨h1, by unfold Tm.applyVal; rw [h1, if_neg ht]⟩
theorem Tm.apply_s {ss : List (List Int)} {t : List Int} (hs : Tm.subErr ss ≠ 0) : Tm.applyErr ss t = Tm.subErr ss ∧ Tm.applyVal ss t = [] := by
  have h1 : Tm.applyErr ss t = Tm.subErr ss := by unfold Tm.applyErr; rw [if_neg hs]
  exact ⟨h1, by unfold Tm.applyVal; rw [h1, if_neg hs]⟩

set_option maxRecDepth 100000 in
set_option maxHeartbeats 400000 in
/-- sub.Apply. -/
theorem apply_any (ss : List (List Int)) (t : List Int) (a at' : Option Addr) (cap ct : Nat) (w : World) (hS : Subs w.heap.size w a ss) (hT : Ints w.heap.size w at' t) :
    Calls Try.prog 9 #[.slice a ss.length cap, .slice at' t.length ct] w fun e w' => ∃ v, e = .returned (.tuple #[v, .int .i64 (Tm.applyErr ss t)]) ∧ New w.heap.size w' v (Tm.applyVal ss t) ∧ Below w.heap.size w w' := by
  have hC1 := subCheck_any ss a cap w hS
  by_cases hs : Tm.subErr ss = 0
  · have hC2 : ∀ W, Below w.heap.size w W → Calls Try.prog 22 #[.slice at' t.length ct] W fun e w' => e = .returned (.int .i64 (Tm.err t)) ∧ Below W.heap.size W w' := fun W hW => check_any t at' ct W ((hT.below hW).mono hW.size)
    rw [hs] at hC1
    by_cases ht : Tm.err t = 0
    · obtain ⟨e1, e2⟩ := Tm.apply_ok hs ht
      obtain ⟨hl, hf⟩ := Tm.subErr_ok hs
      have hb : ∀ W, Below w.heap.size w W → Calls Try.prog 33 #[.slice a 8 cap, .slice at' t.length ct] W fun e w' => ∃ v, e = .returned (.tuple #[v, .int .i64 (Tm.applyErr ss t)]) ∧ New W.heap.size w' v (Tm.applyVal ss t) ∧ Below W.heap.size W w' := fun W hW => by
        rw [e1, e2]
        exact become_any ss hl (Short.of_ok hf) a cap t at' ct (Tm.err_len ht) (Tm.known8 ht) W ((hS.below hW).mono hW.size) ((hT.below hW).mono hW.size)
      rw [hl] at hC1 ⊢
      rw [ht] at hC2
      have HC2 := hid hC2
      have Hb := hid hb
      clear hC2 hb hS hT hl hf e1 e2 hs ht
      generalize Tm.applyErr ss t = q at *
      generalize Tm.applyVal ss t = xs at *
      go_enter Try.func9, Try.ntmps9
      go_wp2_with (first
        | (go_at_call 32; refine hC1.mono ?_; clear hC1; rintro e w1 ⟨rfl, hB1⟩)
        | (go_at_call 22; refine (HC2.out _ hB1).mono ?_; rintro e w2 ⟨rfl, hB2⟩; have hB3 := hB1.trans (hB2.mono hB1.size))
        | (go_at_call 33; refine (Hb.out _ hB3).mono ?_; rintro e w3 ⟨v, rfl, hN, hB4⟩; obtain ⟨a1, c1, rfl, _⟩ := New.ints hN))
      go_ret2
      exact ⟨_, rfl, hN.mono hB3.size, hB3.trans (hB4.mono hB3.size)⟩
    · obtain ⟨e1, e2⟩ := Tm.apply_t hs ht
      rw [e1, e2]
      have HC2 := hid hC2
      have hne : (Tm.err t != 0) = true := by simp [ht]
      clear hC2 hS hT e1 e2 hs ht
      generalize Tm.err t = q at *
      go_enter Try.func9, Try.ntmps9
      go_wp2_with (first
        | (go_at_call 32; refine hC1.mono ?_; clear hC1; rintro e w1 ⟨rfl, hB1⟩)
        | (go_at_call 22; refine (HC2.out _ hB1).mono ?_; rintro e w2 ⟨rfl, hB2⟩; have hB3 := hB1.trans (hB2.mono hB1.size)))
      go_ret2
      exact ⟨_, rfl, New.nil _ _, hB3⟩
  · obtain ⟨e1, e2⟩ := Tm.apply_s (t := t) hs
    rw [e1, e2]
    have hne : (Tm.subErr ss != 0) = true := by simp [hs]
    clear hS hT e1 e2 hs
    generalize Tm.subErr ss = q at *
    go_enter Try.func9, Try.ntmps9
    go_wp2_with (go_at_call 32; refine hC1.mono ?_; clear hC1; rintro e w1 ⟨rfl, hB1⟩)
    go_ret2
    exact ⟨_, rfl, New.nil _ _, hB1⟩

end Go.Proofs.Ytjaikmlbajdedac

namespace Go.Proofs.Ytjaikmlbajdedac
open Go.Proofs Go.RowKit Go.Shelf

set_option maxRecDepth 100000 in
set_option maxHeartbeats 1000000 in
/-- haspref.applied, of right ones. -/
theorem applied_any (ss : List (List Int)) (hl : ss.length = 8) (hsh : Short ss) (a : Option Addr) (cap : Nat) (t : List Int) (at' : Option Addr) (ct : Nat) (ht : t.length ≤ 30) (h8 : ∀ k, k < t.length → -8 ≤ t[k]?.getD 0) (w : World)
    (hS : Subs w.heap.size w a ss) (hT : Ints w.heap.size w at' t) :
    Calls Try.prog 84 #[.slice a 8 cap, .slice at' t.length ct] w fun e w' => ∃ v, e = .returned v ∧ New w.heap.size w' v (Tm.applied ss t) ∧ Below w.heap.size w w' := by
  have hlen : (t.length : Int) ≤ 30 := by omega
  obtain ⟨bs, os, rfl, hbs, hcs⟩ := hS.at (by omega)
  have Hcs := hid hcs
  have HT := hid hT
  have H8 := hid h8
  have Hl := hid hl
  clear hcs hS hT h8 hl
  go_enter Try.func84, Try.ntmps84
  go_wp2
  go_loopw [5, 6] (fun v i wr => ∃ k : Nat, k ≤ t.length ∧ i = .int .i64 (k : Int) ∧ New w.heap.size wr v (Tm.applied ss (t.take k)) ∧ Below w.heap.size w wr) (fun _ i _ => t.length - (intOf i).toNat)
  case atStart => exact ⟨0, Nat.zero_le _, rfl, New.nil _ _, Below.refl _ _⟩
  case round =>
    obtain ⟨k, hk, rfl, hN, hBr⟩ := hrel
    by_cases hlt : k < t.length
    · have hlt' : (k : Int) < (t.length : Int) := by omega
      obtain ⟨b, off, rfl, hb, hc⟩ := HT.out.at (by omega)
      have hck := (hBr.cell (p := ⟨b, off + k, none⟩) hb).trans (hc k hlt)
      have hsn := hid (Tm.applied_snoc ss hlt)
      have hle := Tm.applied_le hsh (t.take k)
      rw [List.length_take] at hle
      have hpl := Tm.piece_le hsh (t[k]?.getD 0)
      have hs8 := H8.out k hlt
      clear hc
      obtain ⟨a0, c0, rfl, _⟩ := New.ints hN
      by_cases hneg : t[k]?.getD 0 < 0
      · obtain ⟨j, hj⟩ : ∃ j : Nat, t[k]?.getD 0 = -1 - (j : Int) := ⟨(-1 - (t[k]?.getD 0)).toNat, by omega⟩
        have hj8 : (j : Int) < 8 := by omega
        obtain ⟨aj, cj, hcj0, hIj0, h1, h2, h3⟩ := Hcs.out j (by rw [Hl.out]; omega)
        have hcj := (hBr.cell (p := ⟨bs, os + j, none⟩) hbs).trans hcj0
        have hIj := (hIj0.below hBr).mono hBr.size
        have hpc : Tm.piece ss (t[k]?.getD 0) = ss[j]?.getD [] := by
          rw [hj]
          unfold Tm.piece
          rw [if_pos (by omega)]
          congr 2
          omega
        rw [hpc] at hsn hpl
        rw [hj] at hck
        have H3 : Hid (aj = none → (ss[j]?.getD []).length = 0 ∧ cj = 0) := fun e => ⟨by have := h3 e; omega, h3 e⟩
        clear hcj0 hIj0 hpc hj hneg hs8 h3 h1 h2
        generalize ss[j]?.getD [] = pc at *
        generalize Tm.applied ss (t.take k) = xs at *
        have hn1 : (-1 - (j : Int)) < 0 := by omega
        have hn2 : -(-1 - (j : Int)) - 1 = (j : Int) := by omega
        go_wp2_with (at_builtin; go_loud (refine wp_append_ints _ rfl _ _ rfl w.heap.size _ xs rfl hN aj pc cj rfl H3.out hIj (by omega) hBr.size ?_); intro v' w2 hN2 hB3; obtain ⟨a2, c2, rfl, _⟩ := New.ints hN2)
        go_roundw
        case rel => exact ⟨k + 1, by omega, by go_num, by rw [hsn.out]; simpa using hN2, hBr.trans hB3⟩
        case measure => simp [intOf]; omega
      · have hpc : Tm.piece ss (t[k]?.getD 0) = [t[k]?.getD 0] := by unfold Tm.piece; rw [if_neg hneg]
        rw [hpc] at hsn
        clear hpc hpl hs8
        generalize t[k]?.getD 0 = s at *
        generalize Tm.applied ss (t.take k) = xs at *
        have h1 := ints_lit wr [s] _ rfl
        simp only [List.map_cons, List.map_nil] at h1
        have hA : Below wr.heap.size wr (wr.alloc (.cells #[.int .i64 s] 3)) := (Below.refl _ _).alloc (Nat.le_refl _) _
        have hNA := New.below hN hA
        have hBA := hBr.trans (hA.mono hBr.size)
        go_wp2_with (at_builtin; go_loud (refine wp_append_ints _ rfl _ _ rfl w.heap.size _ xs rfl hNA (some ⟨wr.heap.size, 0, none⟩) [s] 1 rfl (fun e => by cases e) (by simpa using h1) (by simp; omega) hBA.size ?_); intro v' w2 hN2 hB3; obtain ⟨a2, c2, rfl, _⟩ := New.ints hN2)
        go_roundw
        case rel => exact ⟨k + 1, by omega, by go_num, by rw [hsn.out]; simpa using hN2, hBA.trans hB3⟩
        case measure => simp [intOf]; omega
    · obtain rfl : k = t.length := by omega
      rw [List.take_length] at hN
      obtain ⟨a2, c2, rfl, _⟩ := New.ints hN
      go_wp2
      go_ret
      exact ⟨_, rfl, hN, hBr⟩

end Go.Proofs.Ytjaikmlbajdedac

namespace Go.Proofs.Ytjaikmlbajdedac
open Go.Proofs Go.RowKit Go.Shelf

set_option maxRecDepth 100000 in
set_option maxHeartbeats 1000000 in
/-- haspref.SameTerms: it only reads. -/
theorem same_quiet (xs ys : List Int) (a b : Option Addr) (ca cb n : Nat) (w : World) (hX : Ints n w a xs) (hY : Ints n w b ys) (hm : xs.length ≤ maxLen) :
    Calls Try.prog 10 #[.slice a xs.length ca, .slice b ys.length cb] w fun e w' => e = .returned (.bool (sameB xs ys)) ∧ ∃ m, w' = w.drewN m := by
  unfold maxLen at hm
  by_cases hl : xs.length = ys.length
  · have hne : ((xs.length : Int) != (ys.length : Int)) = false := by simp [hl]
    have Hl : Hid (xs.length = ys.length) := hl
    clear hl
    go_enter Try.func10, Try.ntmps10
    go_wp2
    go_loopw [5] (fun i wr => ∃ k d : Nat, k ≤ xs.length ∧ i = .int .i64 (k : Int) ∧ Hid (xs.take k = ys.take k) ∧ wr = w.drewN d) (fun i _ => xs.length - (intOf i).toNat)
    case atStart => exact ⟨0, 0, Nat.zero_le _, rfl, by simp [Hid], rfl⟩
    case round =>
      obtain ⟨k, d, hk, rfl, hsame, rfl⟩ := hrel
      by_cases hlt : k < xs.length
      · have hlt' : (k : Int) < (xs.length : Int) := by omega
        have hly : k < ys.length := by have := Hl.out; omega
        have hly' : (k : Int) < (ys.length : Int) := by omega
        obtain ⟨b1, off1, rfl, hb1, hc1⟩ := hX.at (by omega)
        obtain ⟨b2, off2, rfl, hb2, hc2⟩ := hY.at (by omega)
        have hx := hc1 k hlt
        have hy := hc2 k hly
        have hst := hid (@same_step xs ys k hlt hly hsame.out)
        have hno := hid (@same_not xs ys k)
        clear hc1 hc2 hX hY hly
        generalize xs[k]?.getD 0 = s at *
        generalize ys[k]?.getD 0 = u at *
        by_cases he : s = u
        · have hn : (s != u) = false := by simp [he]
          have He : Hid (s = u) := he
          clear he hno
          go_wp2
          go_quiet (fail)
          go_wp2
          go_roundw
          case rel => exact ⟨k + 1, _, by omega, by go_num, hst.out He.out, rfl⟩
          case measure => simp [intOf]; omega
        · have hn : (s != u) = true := by simp [he]
          have hf := hid (hno.out he)
          clear he hno hst
          go_wp2
          go_quiet (fail)
          go_wp2
          go_ret
          exact ⟨by rw [hf.out]; rfl, _, by rw [World.drewN_drewN]⟩
      · obtain rfl : k = xs.length := by omega
        have hy := hid (same_yes hsame.out Hl.out)
        clear hX hY
        go_wp2
        go_ret
        exact ⟨by rw [hy.out]; rfl, _, rfl⟩
  · have hne : ((xs.length : Int) != (ys.length : Int)) = true := by simp; omega
    rw [same_len hl]
    clear hl hX hY
    go_enter Try.func10, Try.ntmps10
    go_wp2
    go_ret
    exact ⟨rfl, 0, rfl⟩

theorem Try.info23 : (Try.prog.info? 23).map (fun i => (i.zero, i.size, i.bytes)) = some (some (.slice none 0 0), 1, 24) := by kernel_rfl

/-- v IS A SLICE OF SLICES IN NEW MEMORY, which are in new memory too: it holds ss. -/
def NewS (base : Nat) (W : World) (v : Value) (ss : List (List Int)) : Prop :=
  ∃ us : List Value, W.ownsRow base 23 1 v ss.length us ∧ ∀ j, j < ss.length → ∃ u, us[j]? = some u ∧ New base W u (ss[j]?.getD [])
theorem NewS.nil (base : Nat) (W : World) : NewS base W (.slice none 0 0) [] := ⟨[], World.ownsRow_nil _ _ _ _, fun j hj => by simp at hj⟩
theorem New.apart {base : Nat} {W : World} {u v : Value} {t : List Int} {n : Nat} {us : List Value} (hu : New base W u t) (hv : W.ownsRow base 23 1 v n us) : u.ownBlock = none ∨ u.ownBlock ≠ v.ownBlock := by
  rcases hu.2 with ⟨rfl, _⟩ | ⟨g, cap, cur, rfl, _, hg, _⟩
  · exact .inl rfl
  · rcases hv.2 with ⟨rfl, _⟩ | ⟨g', cap', cur', rfl, _, hg', _⟩
    · exact .inr (by simp [Value.ownBlock])
    · refine .inr fun e => ?_
      have e' : g = g' := by simpa [Value.ownBlock] using e
      subst e'
      rw [hg] at hg'
      simp at hg'
theorem NewS.below {base : Nat} {W W' : World} {v : Value} {ss : List (List Int)} (h : NewS base W v ss) (hB : Below W.heap.size W W') : NewS base W' v ss := by
  obtain ⟨us, h1, h2⟩ := h
  refine ⟨us, World.ownsRow.kept h1 (grown_of_below hB) (by cases h : v.ownBlock with | none => exact .inl rfl | some k => exact .inr (by simp)), fun j hj => ?_⟩
  obtain ⟨u, hu, hN⟩ := h2 j hj
  exact ⟨u, hu, hN.below hB⟩
theorem NewS.mono {base base' : Nat} {W : World} {v : Value} {ss : List (List Int)} (h : NewS base W v ss) (hb : base' ≤ base) : NewS base' W v ss := by
  obtain ⟨us, h1, h2⟩ := h
  refine ⟨us, ⟨h1.1, h1.2.elim .inl (fun ⟨g, cap, cur, e1, e2, e3⟩ => .inr ⟨g, cap, cur, e1, Nat.le_trans hb e2, e3⟩)⟩, fun j hj => ?_⟩
  obtain ⟨u, hu, hN⟩ := h2 j hj
  exact ⟨u, hu, hN.mono hb⟩
theorem NewS.subs {base : Nat} {W : World} {v : Value} {ss : List (List Int)} (h : NewS base W v ss) : ∃ a cap, v = .slice a ss.length cap ∧ Subs W.heap.size W a ss ∧ ss.length ≤ cap ∧ cap ≤ maxLen ∧ (a = none → cap = 0) := by
  obtain ⟨us, h1, h2⟩ := h
  rcases h1.2 with ⟨rfl, hn⟩ | ⟨g, cap, cur, rfl, hb, hg, e1, e2, e3, e4⟩
  · exact ⟨none, 0, by rw [hn], fun j hj => by omega, by omega, by omega, fun _ => rfl⟩
  · refine ⟨_, _, rfl, fun j hj => ?_, e1, e2, fun e => by cases e⟩
    obtain ⟨u, hu, hN⟩ := h2 j hj
    have h5 := World.ownsRow.cellAt h1 j (by omega)
    obtain ⟨aj, cj, rfl, hI, q1, q2⟩ := New.ints hN
    refine ⟨g, 0, aj, cj, rfl, (Array.getElem?_eq_some_iff.1 hg).1, ?_, hI, q1, q2, fun e => ?_⟩
    · rw [Nat.zero_add, h5, hu]
    · subst e
      rcases hN.2 with ⟨e, _⟩ | ⟨_, _, _, e, _⟩
      · simp only [Value.slice.injEq] at e; exact e.2.2
      · simp at e

/-- 'append(s, x)' of one list, onto what the call itself made. -/
theorem wp_append_sub {ops : Array Oper} {rest : List Oper} {o : Oper} {a : Act} {Q : Exit → Act → World → Prop} (w : World) (hgd : o.guard = none) (s x : Operand)
    (ho : o.op = .call { callee := .builtin .append, args := #[s, x], argTypes := #[24, 24] }) (base : Nat) (v : Value) (ss : List (List Int)) (hs : a.eval s = v) (hN : NewS base w v ss)
    (u : Value) (t : List Int) (B : Nat) (hx : a.eval x = .slice (some ⟨B, 0, none⟩) 1 1) (hB : w.cell? ⟨B, 0, none⟩ = some u) (hu : New base w u t) (hlen : ss.length ≤ 1000000) (hbase : base ≤ w.heap.size)
    (h : ∀ v' w', NewS base w' v' (ss ++ [t]) → Below base w w' → wpList Try.prog ops Q rest (a.put o.dst v') w') : wpList Try.prog ops Q (o :: rest) a w := by
  obtain ⟨i0, hi, hz0, hz1, hz2⟩ := info_parts Try.info23
  obtain ⟨us, h1, h2⟩ := hN
  have hul : us.length = ss.length := by have := h1.1; omega
  refine wpList_append_own w hgd s x 24 ho base 23 i0 (.slice none 0 0) 1 24 Try.underlying24 hi hz0 hz1 hz2 rfl (by decide) v ss.length us hs h1 ⟨B, 0, none⟩ 1 1 [u] hx (by simp)
    (by intro j z hj
        match j, hj with
        | 0, hj => simp at hj; subst hj; rw [Go.WideShapes.add_plain]; simpa using hB)
    (by intro z hz; simp at hz; subst hz; obtain ⟨_, _, rfl, _⟩ := New.ints hu; rfl) (by unfold maxLen; omega) (by omega) hbase ?_
  intro v' w' hown hg _
  have hkeep : ∀ (u' : Value) (t' : List Int), New base w u' t' → New base w' u' t' := fun u' t' hN' => World.ownsRow.kept hN' hg (New.apart hN' h1)
  refine h v' w' ⟨us ++ [u], by simpa using hown, fun j hj => ?_⟩ ((Below.refl base w).grown hg hbase (fun k e => (World.ownsRow.lt h1 k e).1))
  by_cases hjl : j < ss.length
  · obtain ⟨u', hu', hN'⟩ := h2 j hjl
    refine ⟨u', by rw [List.getElem?_append_left (by omega)]; exact hu', ?_⟩
    rw [List.getElem?_append_left hjl]
    exact hkeep u' _ hN'
  · have hje : j = ss.length := by simp at hj; omega
    subst hje
    refine ⟨u, by rw [List.getElem?_append_right (by omega), hul]; simp, ?_⟩
    rw [List.getElem?_append_right (by omega)]
    simpa using hkeep u t hu

def sameSB (xs ys : List (List Int)) : Bool := decide (xs = ys)
theorem sameS_len {xs ys : List (List Int)} (h : xs.length ≠ ys.length) : sameSB xs ys = false := by
  simp only [sameSB, decide_eq_false_iff_not]
  rintro rfl
  exact h rfl
theorem takeS_snoc {zs : List (List Int)} {k : Nat} (h : k < zs.length) : zs.take (k + 1) = zs.take k ++ [zs[k]?.getD []] := by
  rw [List.take_succ_eq_append_getElem h]; simp [h]
theorem sameS_step {xs ys : List (List Int)} {k : Nat} (hx : k < xs.length) (hy : k < ys.length) (h : xs.take k = ys.take k) (he : sameB (xs[k]?.getD []) (ys[k]?.getD []) = true) : xs.take (k + 1) = ys.take (k + 1) := by
  simp only [sameB, decide_eq_true_eq] at he
  rw [takeS_snoc hx, takeS_snoc hy, h, he]
theorem sameS_not {xs ys : List (List Int)} {k : Nat} (he : sameB (xs[k]?.getD []) (ys[k]?.getD []) = false) : sameSB xs ys = false := by
  simp only [sameB, decide_eq_false_iff_not] at he
  simp only [sameSB, decide_eq_false_iff_not]
  rintro rfl
  exact he rfl
theorem sameS_yes {xs ys : List (List Int)} (h : xs.take xs.length = ys.take xs.length) (hl : xs.length = ys.length) : sameSB xs ys = true := by
  simp only [sameSB, decide_eq_true_eq]
  rw [List.take_length, hl, List.take_length] at h
  exact h

set_option maxRecDepth 100000 in
set_option maxHeartbeats 1000000 in
/-- haspref.SameSubs: of lists whose terms are short. -/
theorem sameSubs_any (xs ys : List (List Int)) (a b : Option Addr) (ca cb : Nat) (w : World) (hX : Subs w.heap.size w a xs) (hY : Subs w.heap.size w b ys) (hm : xs.length ≤ 1000) :
    Calls Try.prog 14 #[.slice a xs.length ca, .slice b ys.length cb] w fun e w' => e = .returned (.bool (sameSB xs ys)) ∧ Below w.heap.size w w' := by
  by_cases hl : xs.length = ys.length
  · have hne : ((xs.length : Int) != (ys.length : Int)) = false := by simp [hl]
    have hxm : (xs.length : Int) ≤ 1000 := by omega
    have Hl : Hid (xs.length = ys.length) := hl
    have HX := hid hX
    have HY := hid hY
    clear hl hX hY
    go_enter Try.func14, Try.ntmps14
    go_wp2
    go_loopw [5] (fun i wr => ∃ k : Nat, k ≤ xs.length ∧ i = .int .i64 (k : Int) ∧ Hid (xs.take k = ys.take k) ∧ Below w.heap.size w wr) (fun i _ => xs.length - (intOf i).toNat)
    case atStart => exact ⟨0, Nat.zero_le _, rfl, by simp [Hid], Below.refl _ _⟩
    case round =>
      obtain ⟨k, hk, rfl, hsame, hB⟩ := hrel
      by_cases hlt : k < xs.length
      · have hlt' : (k : Int) < (xs.length : Int) := by omega
        have hly : k < ys.length := by have := Hl.out; omega
        have hly' : (k : Int) < (ys.length : Int) := by omega
        obtain ⟨b1, off1, rfl, hb1, hc1⟩ := (HX.out.below hB).at (by omega)
        obtain ⟨b2, off2, rfl, hb2, hc2⟩ := (HY.out.below hB).at (by omega)
        obtain ⟨ax, cx, hx, hIx, qx, qx2, _⟩ := hc1 k hlt
        obtain ⟨ay, cy, hy, hIy, _⟩ := hc2 k hly
        have hst := hid (@sameS_step xs ys k hlt hly hsame.out)
        have hno := hid (@sameS_not xs ys k)
        have hS : ∀ n : Nat, Calls Try.prog 10 #[.slice ax (xs[k]?.getD []).length cx, .slice ay (ys[k]?.getD []).length cy] (wr.drewN n) fun e w' => e = .returned (.bool (sameB (xs[k]?.getD []) (ys[k]?.getD []))) ∧ ∃ m, w' = (wr.drewN n).drewN m :=
          fun n => same_quiet _ _ ax ay cx cy w.heap.size (wr.drewN n) hIx hIy (by omega)
        have HS := hid hS
        clear hc1 hc2 hly hIx hIy qx qx2 hS
        generalize xs[k]?.getD [] = s at *
        generalize ys[k]?.getD [] = u at *
        cases hsb : sameB s u with
        | true =>
          have hst' := hid (hst.out hsb)
          rw [hsb] at HS
          clear hst hno hsb
          go_wp2
          go_quiet ((go_at_call 10; exact Calls.quiet_of (HS.out _)))
          go_wp2
          go_roundw
          case rel => exact ⟨k + 1, by omega, by go_num, hst'.out, below_drewN hB _⟩
          case measure => simp [intOf]; omega
        | false =>
          have hf := hid (hno.out hsb)
          rw [hsb] at HS
          clear hst hno hsb
          go_wp2
          go_quiet ((go_at_call 10; exact Calls.quiet_of (HS.out _)))
          go_wp2
          go_ret
          exact ⟨by rw [hf.out]; rfl, below_drewN hB _⟩
      · obtain rfl : k = xs.length := by omega
        have hy := hid (sameS_yes hsame.out Hl.out)
        go_wp2
        go_ret
        exact ⟨by rw [hy.out]; rfl, hB⟩
  · have hne : ((xs.length : Int) != (ys.length : Int)) = true := by simp; omega
    rw [sameS_len hl]
    clear hl hX hY
    go_enter Try.func14, Try.ntmps14
    go_wp2
    go_ret
    exact ⟨rfl, Below.refl _ _⟩

end Go.Proofs.Ytjaikmlbajdedac

namespace Go.Proofs.Ytjaikmlbajdedac
open Go.Proofs Go.RowKit Go.Shelf

/-- The first k variables, each itself. -/
def Tm.noneL (k : Nat) : List (List Int) := (List.range k).map fun i : Nat => [-1 - (i : Int)]
theorem Tm.noneL_succ (k : Nat) : Tm.noneL (k + 1) = Tm.noneL k ++ [[-1 - (k : Int)]] := by simp [Tm.noneL, List.range_succ]
theorem Tm.noneL_length (k : Nat) : (Tm.noneL k).length = k := by simp [Tm.noneL]

theorem NewS.alloc {base : Nat} {W : World} {v : Value} {ss : List (List Int)} (h : NewS base W v ss) (o : Obj) : NewS base (W.alloc o) v ss := h.below ((Below.refl _ _).alloc (Nat.le_refl _) _)
theorem New.alloc {base : Nat} {W : World} {v : Value} {zs : List Int} (h : New base W v zs) (o : Obj) : New base (W.alloc o) v zs := h.below ((Below.refl _ _).alloc (Nat.le_refl _) _)
theorem cell_new (W : World) (v : Value) (t : TypeId) (n : Nat) (hn : n = W.heap.size) : (W.alloc (.cells #[v] t)).cell? ⟨n, 0, none⟩ = some v := by
  subst hn
  rw [cell_at (World.alloc_heap_new W _)]
  rfl

set_option maxRecDepth 100000 in
set_option maxHeartbeats 400000 in
/-- sub.None. -/
theorem none_any (w : World) : Calls Try.prog 79 #[] w fun e w' => ∃ v, e = .returned v ∧ NewS w.heap.size w' v (Tm.noneL 8) ∧ Below w.heap.size w w' := by
  go_enter Try.func79, Try.ntmps79
  go_wp2
  go_loopw [1, 3] (fun v i wr => ∃ k : Nat, k ≤ 8 ∧ i = .int .i64 (k : Int) ∧ NewS w.heap.size wr v (Tm.noneL k) ∧ Below w.heap.size w wr) (fun _ i _ => 8 - (intOf i).toNat)
  case atStart => exact ⟨0, Nat.zero_le _, rfl, NewS.nil _ _, Below.refl _ _⟩
  case round =>
    obtain ⟨k, hk, rfl, hN, hB⟩ := hrel
    by_cases hlt : k < 8
    · have hlt' : (k : Int) < 8 := by omega
      have hsn := hid (Tm.noneL_succ k)
      have Hln := hid (Tm.noneL_length k)
      obtain ⟨a0, c0, rfl, _⟩ := NewS.subs hN
      have hu := New.lit w.heap.size wr [-1 - (k : Int)] hB.size (by unfold maxLen; simp)
      simp only [List.map_cons, List.map_nil, List.length_cons, List.length_nil, Nat.zero_add] at hu
      have hA : Below w.heap.size w (((wr.alloc (.cells #[.int .i64 (-1 - (k : Int))] 3)).alloc (.cells #[.slice (some ⟨wr.heap.size, 0, none⟩) 1 1] 23))) := (hB.alloc hB.size _).alloc (by have := hB.size; simp; omega) _
      have hN2 := (hN.alloc (.cells #[.int .i64 (-1 - (k : Int))] 3)).alloc (.cells #[.slice (some ⟨wr.heap.size, 0, none⟩) 1 1] 23)
      have hu2 := hu.alloc (.cells #[.slice (some ⟨wr.heap.size, 0, none⟩) 1 1] 23)
      have hcn := cell_new (wr.alloc (.cells #[.int .i64 (-1 - (k : Int))] 3)) (.slice (some ⟨wr.heap.size, 0, none⟩) 1 1) 23 (wr.heap.size + 1) (by simp)
      have HN2 := hid hN2
      have Hu2 := hid hu2
      have Hcn := hid hcn
      clear hu hN2 hu2 hcn
      go_wp2_with (at_builtin; go_loud (refine wp_append_sub _ rfl _ _ rfl w.heap.size _ (Tm.noneL k) rfl HN2.out (.slice (some ⟨wr.heap.size, 0, none⟩) 1 1) [-1 - (k : Int)] (wr.heap.size + 1) rfl Hcn.out Hu2.out (by rw [Hln.out]; omega) hA.size ?_); intro v' w2 hN3 hB3; obtain ⟨a2, c2, rfl, _⟩ := NewS.subs hN3)
      go_roundw
      case rel => exact ⟨k + 1, by omega, by go_num, by rw [hsn.out]; simpa using hN3, hA.trans hB3⟩
      case measure => simp [intOf]; omega
    · obtain rfl : k = 8 := by omega
      obtain ⟨a2, c2, rfl, _⟩ := NewS.subs hN
      go_wp2
      go_ret
      exact ⟨_, rfl, hN, hB⟩

set_option maxRecDepth 100000 in
set_option maxHeartbeats 400000 in
/-- haspref.NoneOf. -/
theorem noneOf_any (w : World) : Calls Try.prog 100 #[] w fun e w' => ∃ v, e = .returned v ∧ NewS w.heap.size w' v (Tm.noneL 8) ∧ Below w.heap.size w w' := by
  go_enter Try.func100, Try.ntmps100
  go_wp2
  go_loopw [1, 2] (fun v i wr => ∃ k : Nat, k ≤ 8 ∧ i = .int .i64 ((k : Int) + 1) ∧ NewS w.heap.size wr v (Tm.noneL k) ∧ Below w.heap.size w wr) (fun _ i _ => 9 - (intOf i).toNat)
  case atStart => exact ⟨0, Nat.zero_le _, rfl, NewS.nil _ _, Below.refl _ _⟩
  case round =>
    obtain ⟨k, hk, rfl, hN, hB⟩ := hrel
    by_cases hlt : k < 8
    · have hlt' : (k : Int) + 1 ≤ 8 := by omega
      have hsn : Hid (Tm.noneL (k + 1) = Tm.noneL k ++ [[-((k : Int) + 1)]]) := by
        show _ = _
        rw [Tm.noneL_succ, show (-1 : Int) - (k : Int) = -((k : Int) + 1) from by omega]
      have Hln := hid (Tm.noneL_length k)
      obtain ⟨a0, c0, rfl, _⟩ := NewS.subs hN
      have hu := New.lit w.heap.size wr [-((k : Int) + 1)] hB.size (by unfold maxLen; simp)
      simp only [List.map_cons, List.map_nil, List.length_cons, List.length_nil, Nat.zero_add] at hu
      have hA : Below w.heap.size w (((wr.alloc (.cells #[.int .i64 (-((k : Int) + 1))] 3)).alloc (.cells #[.slice (some ⟨wr.heap.size, 0, none⟩) 1 1] 23))) := (hB.alloc hB.size _).alloc (by have := hB.size; simp; omega) _
      have HN2 := hid ((hN.alloc (.cells #[.int .i64 (-((k : Int) + 1))] 3)).alloc (.cells #[.slice (some ⟨wr.heap.size, 0, none⟩) 1 1] 23))
      have Hu2 := hid (hu.alloc (.cells #[.slice (some ⟨wr.heap.size, 0, none⟩) 1 1] 23))
      have Hcn := hid (cell_new (wr.alloc (.cells #[.int .i64 (-((k : Int) + 1))] 3)) (.slice (some ⟨wr.heap.size, 0, none⟩) 1 1) 23 (wr.heap.size + 1) (by simp))
      clear hu
      go_wp2_with (at_builtin; go_loud (refine wp_append_sub _ rfl _ _ rfl w.heap.size _ (Tm.noneL k) rfl HN2.out (.slice (some ⟨wr.heap.size, 0, none⟩) 1 1) [-((k : Int) + 1)] (wr.heap.size + 1) rfl Hcn.out Hu2.out (by rw [Hln.out]; omega) hA.size ?_); intro v' w2 hN3 hB3; obtain ⟨a2, c2, rfl, _⟩ := NewS.subs hN3)
      go_roundw
      case rel => exact ⟨k + 1, by omega, by go_num, by rw [hsn.out]; simpa using hN3, hA.trans hB3⟩
      case measure => simp [intOf]; omega
    · obtain rfl : k = 8 := by omega
      obtain ⟨a2, c2, rfl, _⟩ := NewS.subs hN
      go_wp2
      go_ret
      exact ⟨_, rfl, hN, hB⟩

/-- One of the lists is stored anew. -/
theorem NewS.set {base : Nat} {W : World} {g c n : Nat} {ss : List (List Int)} (h : NewS base W (.slice (some ⟨g, 0, none⟩) n c) ss) (hn : n = ss.length) {u : Value} {t : List Int} (hu : New base W u t) (j : Nat) :
    NewS base (W.setCell ⟨g, j, none⟩ u) (.slice (some ⟨g, 0, none⟩) n c) (ss.set j t) := by
  subst hn
  obtain ⟨us, h1, h2⟩ := h
  have hul : us.length = ss.length := by have := h1.1; omega
  have hkeep : ∀ (u' : Value) (t' : List Int), New base W u' t' → New base (W.setCell ⟨g, j, none⟩ u) u' t' := fun u' t' hN' => World.ownsRow.kept hN' (grownBy_setCell1 W g j u) (by
    have := New.apart hN' h1
    simpa [Value.ownBlock] using this)
  refine ⟨us.set j u, ?_, fun i hi => ?_⟩
  · have := World.ownsRow.stored h1 j u
    rw [List.length_set]
    exact this.1
  · rw [List.length_set] at hi
    by_cases e : i = j
    · subst e
      refine ⟨u, by simp [hul, hi], ?_⟩
      simpa [hi] using hkeep u t hu
    · obtain ⟨u', hu', hN'⟩ := h2 i hi
      have e' : ¬ j = i := fun h => e h.symm
      refine ⟨u', by rw [List.getElem?_set_ne e']; exact hu', ?_⟩
      rw [List.getElem?_set_ne e']
      exact hkeep u' _ hN'

end Go.Proofs.Ytjaikmlbajdedac

namespace Go.Proofs.Ytjaikmlbajdedac
open Go.Proofs Go.RowKit Go.Shelf

def Tm.someL : List (List Int) := [[2, -2], [-1], [-3], [-4], [-5], [-6], [-7], [-8]]
theorem Tm.someL_eq : ((Tm.noneL 8).set 0 [2, -2]).set 1 [-1] = Tm.someL := by decide

end Go.Proofs.Ytjaikmlbajdedac

namespace Go.Proofs.Ytjaikmlbajdedac
open Go.Proofs Go.RowKit Go.Shelf

/-- Is what t becomes small enough? -/
def Tm.fits (us : List (List Int)) (t : List Int) : Bool := decide ((Tm.applied us t).length ≤ 30)
def Tm.afterL (ss us : List (List Int)) : List (List Int) := ss.map (Tm.applied us)
def Tm.afterErr (ss us : List (List Int)) : Int := if Tm.subErr ss = 0 then (if Tm.subErr us = 0 then (if ss.all (Tm.fits us) = true then 0 else 2) else Tm.subErr us) else Tm.subErr ss
def Tm.afterVal (ss us : List (List Int)) : List (List Int) := if Tm.afterErr ss us = 0 then Tm.afterL ss us else []
theorem Tm.after_s {ss us : List (List Int)} (h : Tm.subErr ss ≠ 0) : Tm.afterErr ss us = Tm.subErr ss ∧ Tm.afterVal ss us = [] := by
  have h1 : Tm.afterErr ss us = Tm.subErr ss := by unfold Tm.afterErr; rw [if_neg h]
  exact ⟨h1, by unfold Tm.afterVal; rw [h1, if_neg h]⟩
theorem Tm.after_u {ss us : List (List Int)} (hs : Tm.subErr ss = 0) (h : Tm.subErr us ≠ 0) : Tm.afterErr ss us = Tm.subErr us ∧ Tm.afterVal ss us = [] := by
  have h1 : Tm.afterErr ss us = Tm.subErr us := by unfold Tm.afterErr; rw [if_pos hs, if_neg h]
  exact ⟨h1, by unfold Tm.afterVal; rw [h1, if_neg h]⟩
theorem Tm.after_big {ss us : List (List Int)} (hs : Tm.subErr ss = 0) (hu : Tm.subErr us = 0) {k : Nat} (hk : k < ss.length) (h : Tm.fits us (ss[k]?.getD []) = false) : Tm.afterErr ss us = 2 ∧ Tm.afterVal ss us = [] := by
  have ha : ¬ ss.all (Tm.fits us) = true := by
    rw [List.all_eq_true]
    intro hall
    have := hall ss[k] (List.getElem_mem hk)
    simp only [hk, List.getElem?_eq_getElem, Option.getD_some] at h
    rw [h] at this
    cases this
  have h1 : Tm.afterErr ss us = 2 := by unfold Tm.afterErr; rw [if_pos hs, if_pos hu, if_neg ha]
  exact ⟨h1, by unfold Tm.afterVal; rw [h1, if_neg (by decide)]⟩
theorem Tm.after_ok {ss us : List (List Int)} (hs : Tm.subErr ss = 0) (hu : Tm.subErr us = 0) (h : ss.all (Tm.fits us) = true) : Tm.afterErr ss us = 0 ∧ Tm.afterVal ss us = Tm.afterL ss us := by
  have h1 : Tm.afterErr ss us = 0 := by unfold Tm.afterErr; rw [if_pos hs, if_pos hu, if_pos h]
  exact ⟨h1, by unfold Tm.afterVal; rw [h1, if_pos rfl]⟩
theorem Tm.fits_snoc {ss us : List (List Int)} {k : Nat} (hk : k < ss.length) (h : (ss.take k).all (Tm.fits us) = true) (hf : Tm.fits us (ss[k]?.getD []) = true) : (ss.take (k + 1)).all (Tm.fits us) = true := by
  rw [takeS_snoc hk, List.all_append, h]
  simp [hf]
theorem Tm.afterL_snoc {ss us : List (List Int)} {k : Nat} (hk : k < ss.length) : Tm.afterL (ss.take (k + 1)) us = Tm.afterL (ss.take k) us ++ [Tm.applied us (ss[k]?.getD [])] := by
  rw [takeS_snoc hk]
  simp [Tm.afterL]
theorem Tm.afterL_length {ss us : List (List Int)} : (Tm.afterL ss us).length = ss.length := by simp [Tm.afterL]

set_option maxRecDepth 100000 in
set_option maxHeartbeats 1000000 in
/-- sub.After, of right ones. -/
theorem after_right (ss us : List (List Int)) (hs : Tm.subErr ss = 0) (hu : Tm.subErr us = 0) (a b : Option Addr) (ca cb : Nat) (w : World) (hS : Subs w.heap.size w a ss) (hU : Subs w.heap.size w b us) :
    Calls Try.prog 13 #[.slice a 8 ca, .slice b 8 cb] w fun e w' => ∃ v, e = .returned (.tuple #[v, .int .i64 (Tm.afterErr ss us)]) ∧ NewS w.heap.size w' v (Tm.afterVal ss us) ∧ Below w.heap.size w w' := by
  obtain ⟨hsl, hsf⟩ := Tm.subErr_ok hs
  obtain ⟨hul, huf⟩ := Tm.subErr_ok hu
  have hC1 := subCheck_any ss a ca w hS
  rw [hs, hsl] at hC1
  have hC2 : ∀ W, Below w.heap.size w W → Calls Try.prog 32 #[.slice b 8 cb] W fun e w' => e = .returned (.int .i64 0) ∧ Below W.heap.size W w' := fun W hW => by
    have h := subCheck_any us b cb W ((hU.below hW).mono hW.size)
    rw [hu, hul] at h
    exact h
  obtain ⟨bs, os, rfl, hbs, hcs⟩ := hS.at (by omega)
  have hb : ∀ (k : Nat), k < 8 → ∀ (aj : Option Addr) (cj : Nat) (W : World), Below w.heap.size w W → Ints W.heap.size W aj (ss[k]?.getD []) → Calls Try.prog 33 #[.slice b 8 cb, .slice aj (ss[k]?.getD []).length cj] W fun e w' =>
      ∃ v, e = .returned (.tuple #[v, .int .i64 (if 30 < (Tm.applied us (ss[k]?.getD [])).length then 2 else 0)]) ∧ New W.heap.size w' v (if 30 < (Tm.applied us (ss[k]?.getD [])).length then [] else Tm.applied us (ss[k]?.getD [])) ∧ Below W.heap.size W w' := fun k hk aj cj W hW hI => by
    have he := Tm.firstErr_all hsf k (by omega)
    exact become_any us hul (Short.of_ok huf) b cb _ aj cj (Tm.err_len he) (Tm.known8 he) W ((hU.below hW).mono hW.size) hI
  have hbig : ∀ k, k < 8 → Tm.fits us (ss[k]?.getD []) = false → Tm.afterErr ss us = 2 ∧ Tm.afterVal ss us = [] := fun k hk h => Tm.after_big hs hu (by omega) h
  have hok : ss.all (Tm.fits us) = true → Tm.afterErr ss us = 0 ∧ Tm.afterVal ss us = Tm.afterL ss us := Tm.after_ok hs hu
  have HC2 := hid hC2
  have Hb := hid hb
  have Hcs := hid hcs
  have Hsl := hid hsl
  have Hbig := hid hbig
  have Hok := hid hok
  clear hC2 hb hcs hsl hbig hok hs hu hsf huf hul hS hU
  go_enter Try.func13, Try.ntmps13
  go_wp2_with fail
  refine hC1.mono ?_
  rintro e w1 ⟨rfl, hB1⟩
  clear hC1
  go_wp2_with fail
  refine (HC2.out _ hB1).mono ?_
  rintro e w2 ⟨rfl, hB2⟩
  have hB3 := hB1.trans (hB2.mono hB1.size)
  clear hB1 hB2 HC2
  go_wp2
  go_loopw [8, 25] (fun v i wr => ∃ k : Nat, k ≤ 8 ∧ i = .int .i64 (k : Int) ∧ Hid ((ss.take k).all (Tm.fits us) = true) ∧ NewS w.heap.size wr v (Tm.afterL (ss.take k) us) ∧ Below w.heap.size w wr) (fun _ i _ => 8 - (intOf i).toNat)
  case atStart => exact ⟨0, Nat.zero_le _, rfl, rfl, NewS.nil _ _, hB3⟩
  case round =>
    obtain ⟨k, hk, rfl, hall, hN, hB⟩ := hrel
    clear hB3
    by_cases hlt : k < 8
    · have hlt' : (k : Int) < 8 := by omega
      have hks : k < ss.length := by have := Hsl.out; omega
      obtain ⟨aj, cj, hcj0, hIj0, _⟩ := Hcs.out k hks
      have hcj := (hB.cell (p := ⟨bs, os + k, none⟩) hbs).trans hcj0
      have hbe := Hb.out k hlt aj cj wr hB ((hIj0.below hB).mono hB.size)
      have hsn := hid (Tm.afterL_snoc (us := us) hks)
      have hln : Hid ((Tm.afterL (ss.take k) us).length ≤ 1000000) := by
        show _ ≤ _
        rw [Tm.afterL_length, List.length_take]
        omega
      cases hfit : Tm.fits us (ss[k]?.getD []) with
      | true =>
        have hfs := hid (Tm.fits_snoc hks hall.out hfit)
        have hno : ¬ 30 < (Tm.applied us (ss[k]?.getD [])).length := by
          simp only [Tm.fits, decide_eq_true_eq] at hfit
          omega
        rw [if_neg hno, if_neg hno] at hbe
        clear hno hfit hcj0 hIj0 hks
        generalize Tm.applied us (ss[k]?.getD []) = pt at *
        generalize ss[k]?.getD [] = t at *
        generalize Tm.afterL (ss.take k) us = xs at *
        obtain ⟨a0, c0, rfl, _⟩ := NewS.subs hN
        go_wp2_with fail
        refine hbe.mono ?_
        rintro e w3 ⟨v3, rfl, hN3, hB3⟩
        obtain ⟨a3, c3, rfl, _⟩ := New.ints hN3
        have hB4 := hB.trans (hB3.mono hB.size)
        have HN4 := hid ((hN.below hB3).alloc (.cells #[.slice a3 pt.length c3] 23))
        have Hu4 := hid ((hN3.mono hB.size).alloc (.cells #[.slice a3 pt.length c3] 23))
        have Hcn := hid (cell_new w3 (.slice a3 pt.length c3) 23 w3.heap.size rfl)
        have hA : Below w.heap.size w (w3.alloc (.cells #[.slice a3 pt.length c3] 23)) := hB4.alloc hB4.size _
        clear hN hN3 hB3 hB hbe
        go_wp2_with (at_builtin; go_loud (refine wp_append_sub _ rfl _ _ rfl w.heap.size _ xs rfl HN4.out (.slice a3 pt.length c3) pt w3.heap.size rfl Hcn.out Hu4.out hln.out hA.size ?_); intro v' w5 hN5 hB5; obtain ⟨a5, c5, rfl, _⟩ := NewS.subs hN5)
        go_roundw
        case rel => exact ⟨k + 1, by omega, by go_num, hfs.out, by rw [hsn.out]; simpa using hN5, hA.trans hB5⟩
        case measure => simp [intOf]; omega
      | false =>
        obtain ⟨e1, e2⟩ := Hbig.out k hlt hfit
        have E1 := hid e1
        have E2 := hid e2
        have hyes : 30 < (Tm.applied us (ss[k]?.getD [])).length := by
          simp only [Tm.fits, decide_eq_false_iff_not] at hfit
          omega
        rw [if_pos hyes, if_pos hyes] at hbe
        clear hyes hfit hcj0 hIj0 hks e1 e2 hsn hln
        generalize ss[k]?.getD [] = t at *
        go_wp2_with fail
        refine hbe.mono ?_
        rintro e w3 ⟨v3, rfl, hN3, hB3⟩
        obtain ⟨a3, c3, rfl, _⟩ := New.ints hN3
        go_wp2
        go_ret2
        exact ⟨_, by rw [E1.out]; rfl, by rw [E2.out]; exact NewS.nil _ _, hB.trans (hB3.mono hB.size)⟩
    · obtain rfl : k = 8 := by omega
      have e8 : ss.take 8 = ss := by rw [← Hsl.out, List.take_length]
      obtain ⟨e1, e2⟩ := Hok.out (by have := hall.out; rw [e8] at this; exact this)
      have E1 := hid e1
      have E2 := hid e2
      rw [e8] at hN
      clear e1 e2 e8
      obtain ⟨a0, c0, rfl, _⟩ := NewS.subs hN
      go_wp2
      go_ret2
      exact ⟨_, by rw [E1.out]; rfl, by rw [E2.out]; exact hN, hB⟩

set_option maxRecDepth 100000 in
set_option maxHeartbeats 400000 in
/-- sub.After. -/
theorem after_any (ss us : List (List Int)) (a b : Option Addr) (ca cb : Nat) (w : World) (hS : Subs w.heap.size w a ss) (hU : Subs w.heap.size w b us) :
    Calls Try.prog 13 #[.slice a ss.length ca, .slice b us.length cb] w fun e w' => ∃ v, e = .returned (.tuple #[v, .int .i64 (Tm.afterErr ss us)]) ∧ NewS w.heap.size w' v (Tm.afterVal ss us) ∧ Below w.heap.size w w' := by
  by_cases hs : Tm.subErr ss = 0
  · by_cases hu : Tm.subErr us = 0
    · rw [(Tm.subErr_ok hs).1, (Tm.subErr_ok hu).1]
      exact after_right ss us hs hu a b ca cb w hS hU
    · obtain ⟨e1, e2⟩ := Tm.after_u hs hu
      rw [e1, e2]
      have hC1 := subCheck_any ss a ca w hS
      rw [hs] at hC1
      have hC2 : ∀ W, Below w.heap.size w W → Calls Try.prog 32 #[.slice b us.length cb] W fun e w' => e = .returned (.int .i64 (Tm.subErr us)) ∧ Below W.heap.size W w' := fun W hW => subCheck_any us b cb W ((hU.below hW).mono hW.size)
      have HC2 := hid hC2
      have hne : (Tm.subErr us != 0) = true := by simp [hu]
      clear hC2 e1 e2 hs hu hS hU
      generalize Tm.subErr us = q at *
      go_enter Try.func13, Try.ntmps13
      go_wp2_with fail
      refine hC1.mono ?_
      rintro e w1 ⟨rfl, hB1⟩
      clear hC1
      go_wp2_with fail
      refine (HC2.out _ hB1).mono ?_
      rintro e w2 ⟨rfl, hB2⟩
      go_wp2
      go_ret2
      exact ⟨_, rfl, NewS.nil _ _, hB1.trans (hB2.mono hB1.size)⟩
  · obtain ⟨e1, e2⟩ := Tm.after_s (us := us) hs
    rw [e1, e2]
    have hC1 := subCheck_any ss a ca w hS
    have hne : (Tm.subErr ss != 0) = true := by simp [hs]
    clear e1 e2 hs hS hU
    generalize Tm.subErr ss = q at *
    go_enter Try.func13, Try.ntmps13
    go_wp2_with fail
    refine hC1.mono ?_
    rintro e w1 ⟨rfl, hB1⟩
    go_wp2
    go_ret2
    exact ⟨_, rfl, NewS.nil _ _, hB1⟩

end Go.Proofs.Ytjaikmlbajdedac

namespace Go.Proofs.Ytjaikmlbajdedac
open Go.Proofs Go.RowKit Go.Shelf

end Go.Proofs.Ytjaikmlbajdedac

namespace Go.Proofs.Ytjaikmlbajdedac
open Go.Proofs Go.RowKit Go.Shelf Go.Maps

def Tm.idx (seen : List Int) (s : Int) : Nat := seen.findIdx (fun x => x == s)
def Tm.see (seen : List Int) (s : Int) : List Int := if s < 0 then (if seen.contains s = true then seen else seen ++ [s]) else seen
def Tm.name (seen : List Int) (s : Int) : Int := if s < 0 then -1 - (Tm.idx seen s : Int) else s
def Tm.seenFrom (seen : List Int) (l : List Int) : List Int := l.foldl Tm.see seen
/-- The first k signs of t made plain, where 'seen' have been seen. -/
def Tm.plainTo (seen : List Int) (t : List Int) (k : Nat) : List Int := (List.range k).map fun i : Nat => Tm.name (Tm.seenFrom seen (t.take i)) (t[i]?.getD 0)

theorem Tm.plainTo_succ (seen t : List Int) (k : Nat) : Tm.plainTo seen t (k + 1) = Tm.plainTo seen t k ++ [Tm.name (Tm.seenFrom seen (t.take k)) (t[k]?.getD 0)] := by simp [Tm.plainTo, List.range_succ]
theorem Tm.plainTo_length (seen t : List Int) (k : Nat) : (Tm.plainTo seen t k).length = k := by simp [Tm.plainTo]
theorem Tm.seen_succ (seen : List Int) {t : List Int} {k : Nat} (h : k < t.length) : Tm.seenFrom seen (t.take (k + 1)) = Tm.see (Tm.seenFrom seen (t.take k)) (t[k]?.getD 0) := by
  rw [take_snoc h]
  simp [Tm.seenFrom, List.foldl_append]
theorem Tm.idx_le (seen : List Int) (s : Int) : Tm.idx seen s ≤ seen.length := List.findIdx_le_length
theorem Tm.idx_new {seen : List Int} {s : Int} (h : seen.contains s = false) : Tm.idx seen s = seen.length := by
  unfold Tm.idx
  rw [List.findIdx_eq_length]
  intro x hx
  have : ¬ s ∈ seen := by simpa using h
  simp only [beq_eq_false_iff_ne]
  rintro rfl
  exact this hx
theorem Tm.idx_app {seen : List Int} {s : Int} (h : seen.contains s = true) (r : List Int) : Tm.idx (seen ++ r) s = Tm.idx seen s := by
  unfold Tm.idx
  rw [List.findIdx_append, if_pos]
  rw [List.findIdx_lt_length]
  exact ⟨s, by simpa using h, by simp⟩
theorem Tm.see_len (seen : List Int) (s : Int) : (Tm.see seen s).length ≤ seen.length + 1 := by
  unfold Tm.see
  split
  · split
    · omega
    · simp
  · omega
theorem Tm.seen_len (t : List Int) : ∀ seen : List Int, (Tm.seenFrom seen t).length ≤ seen.length + t.length := by
  induction t with
  | nil => intro seen; simp [Tm.seenFrom]
  | cons s l ih =>
    intro seen
    have h1 := ih (Tm.see seen s)
    have h2 := Tm.see_len seen s
    simp only [Tm.seenFrom, List.foldl_cons, List.length_cons] at h1 ⊢
    omega

/-- THE MAP D KEEPS the variables that have been seen, each with its new name. -/
structure MapIs (seen : List Int) (D : DataW Unit) : Prop where
  has : ∀ s : Int, Maps.has D (.int .i64 s) = seen.contains s
  at_ : ∀ s : Int, seen.contains s = true → D.atKey (.int .i64 s) (.lit (.int .i64 0)) = .lit (.int .i64 (-1 - (Tm.idx seen s : Int)))
  size : Maps.size D = seen.length

theorem MapIs.empty : MapIs [] (.map []) := ⟨fun _ => rfl, fun s h => by simp at h, rfl⟩
theorem MapIs.put {seen : List Int} {D : DataW Unit} (h : MapIs seen D) (hT : Tidy D) {s : Int} (hs : seen.contains s = false) :
    MapIs (seen ++ [s]) (D.put (.int .i64 s) (.lit (.int .i64 (-1 - (seen.length : Int))))) := by
  have hk : WideAt.IsKeyLit (.int .i64 s) := trivial
  have hh : Maps.has D (.int .i64 s) = false := by rw [h.has, hs]
  have hne : ¬ s ∈ seen := by simpa using hs
  refine ⟨fun x => ?_, fun x hx => ?_, ?_⟩
  · by_cases e : x = s
    · subst e
      rw [has_put_same hT.isMap hk]
      simp
    · rw [has_put_other (by simp [e]), h.has]
      simp [e]
  · by_cases e : x = s
    · subst e
      rw [atKey_put_same hT.isMap hk]
      have : Tm.idx (seen ++ [x]) x = seen.length := by
        unfold Tm.idx
        rw [List.findIdx_append, if_neg]
        · simp
        · rw [List.findIdx_lt_length]
          rintro ⟨y, hy, e⟩
          have : y = x := by simpa using e
          subst this
          exact hne hy
      rw [this]
    · rw [atKey_put_other (by simp [e])]
      have hx' : seen.contains x = true := by simpa [e] using hx
      rw [Tm.idx_app hx']
      exact h.at_ x hx'
  · rw [size_put hT, hh, h.size]
    simp

/-- Block Bf is the box of the map 'fresh', block Bm the map: it keeps 'seen'. -/
def FreshAt (W : World) (Bf Bm : Nat) (seen : List Int) : Prop :=
  W.cell? ⟨Bf, 0, none⟩ = some (.map (some Bm)) ∧ ∃ D : DataW Unit, W.ownsMap Try.prog 3 (plainElem Try.prog 3) Bm seen.length D ∧ MapIs seen D
theorem FreshAt.keep {W W' : World} {Bf Bm : Nat} {seen : List Int} (h : FreshAt W Bf Bm seen) (h1 : W'.heap[Bf]? = W.heap[Bf]?) (h2 : W'.heap[Bm]? = W.heap[Bm]?) : FreshAt W' Bf Bm seen := by
  obtain ⟨hc, D, ⟨es, clock, hb, r⟩, hM⟩ := h
  exact ⟨(World.cell?_of_block (a := ⟨Bf, 0, none⟩) h1).trans hc, D, ⟨es, clock, h2.trans hb, r⟩, hM⟩
theorem FreshAt.map {W : World} {Bf Bm : Nat} {seen : List Int} (h : FreshAt W Bf Bm seen) : ∃ es clock, W.heap[Bm]? = some (.map es clock) := by
  obtain ⟨_, D, ⟨es, clock, hb, _⟩, _⟩ := h
  exact ⟨es, clock, hb⟩
theorem FreshAt.lt {W : World} {Bf Bm : Nat} {seen : List Int} (h : FreshAt W Bf Bm seen) : Bf < W.heap.size ∧ Bm < W.heap.size := by
  obtain ⟨es, clock, hb⟩ := h.map
  exact ⟨lt_of_cell h.1, (Array.getElem?_eq_some_iff.1 hb).1⟩
theorem ne_map {W : World} {b o Bm : Nat} {v : Value} (hc : W.cell? ⟨b, o, none⟩ = some v) {es : Array (MapEntry)} {clock : Nat} (hm : W.heap[Bm]? = some (.map es clock)) : b ≠ Bm := by
  rintro rfl
  simp [World.cell?, hm] at hc

/-- w' is w below block n, but for block m. -/
structure Keep (n m : Nat) (w w' : World) : Prop where
  os : w'.os = w.os
  tape : w'.tape = w.tape
  output : w'.output = w.output
  size : w.heap.size ≤ w'.heap.size
  block : ∀ k, k < n → k ≠ m → w'.heap[k]? = w.heap[k]?
theorem Keep.refl (n m : Nat) (w : World) : Keep n m w w := ⟨rfl, rfl, rfl, Nat.le_refl _, fun _ _ _ => rfl⟩
theorem Keep.trans {n m : Nat} {a b c : World} (h : Keep n m a b) (k : Keep n m b c) : Keep n m a c :=
  ⟨k.os.trans h.os, k.tape.trans h.tape, k.output.trans h.output, Nat.le_trans h.size k.size, fun i hi hm => (k.block i hi hm).trans (h.block i hi hm)⟩
theorem Keep.of_below {n m : Nat} {a b : World} (h : Below n a b) : Keep n m a b := ⟨h.os, h.tape, h.output, h.size, fun k hk _ => h.block k hk⟩
theorem Keep.of_grown {n m : Nat} {a b : World} (h : a.grownBy b (some m)) (hn : n ≤ a.heap.size) : Keep n m a b :=
  ⟨h.os, h.tape, h.output, h.size, fun k hk hm => h.block k (by omega) (by simpa using hm)⟩
theorem Keep.mono {n n' m : Nat} {a b : World} (h : Keep n m a b) (hn : n' ≤ n) : Keep n' m a b := ⟨h.os, h.tape, h.output, h.size, fun k hk hm => h.block k (by omega) hm⟩
theorem Keep.below {n m : Nat} {a b : World} (h : Keep n m a b) (hm : n ≤ m) : Below n a b := ⟨h.os, h.tape, h.output, h.size, fun k hk => h.block k hk (by omega)⟩

end Go.Proofs.Ytjaikmlbajdedac

namespace Go.Proofs.Ytjaikmlbajdedac
open Go.Proofs Go.RowKit Go.Shelf Go.Maps

theorem lawInt : Keyed Try.prog 3 := int_keyed Try.underlying3
theorem zeroInt (w : World) : (zeroValue 3).run Try.prog w = .ok (.int .i64 0) w := by kernel_rfl
theorem wf64 {s : Int} (h1 : -1000 ≤ s) (h2 : s ≤ 1000) : (Lit.int .i64 s).wf = true := by
  simp [Lit.wf, IntKind.min, IntKind.max, IntKind.signed, IntKind.bits]
  omega

end Go.Proofs.Ytjaikmlbajdedac

namespace Go.Proofs.Ytjaikmlbajdedac
open Go.Proofs Go.RowKit Go.Shelf Go.Maps

/-- An element reads as itself. -/
def heldElem (v : Value) : Option (DataW Value × List MemPlace) := some (.held v, [])

/-- BLOCK b IS THE MAP m, of at most n entries. -/
def IntMap (W : World) (b n : Nat) (m : Int → Option Value) : Prop :=
  ∃ D : DataW Value, W.ownsMap Try.prog 3 heldElem b n D ∧ (∀ k : Int, Maps.has D (.int .i64 k) = (m k).isSome) ∧ ∀ (k : Int) (v : Value), m k = some v → ∀ z, D.atKey (.int .i64 k) z = .held v
def upd {α : Type} (m : Int → Option α) (s : Int) (v : α) : Int → Option α := fun x => if x = s then some v else m x
theorem upd_same {α : Type} (m : Int → Option α) (s : Int) (v : α) : upd m s v s = some v := by simp [upd]
theorem upd_other {α : Type} (m : Int → Option α) {s x : Int} (v : α) (h : x ≠ s) : upd m s v x = m x := by simp [upd, h]

theorem IntMap.made (w : World) : IntMap (w.alloc (.map #[] 0)) w.heap.size 0 (fun _ => none) :=
  ⟨_, World.ownsMap_made w _ _ _, fun _ => rfl, fun _ _ h => by cases h⟩
theorem IntMap.lt {W : World} {b n : Nat} {m : Int → Option Value} (h : IntMap W b n m) : b < W.heap.size := by
  obtain ⟨D, hD, _⟩ := h; exact hD.lt
theorem IntMap.keep {W W' : World} {b n : Nat} {m : Int → Option Value} (h : IntMap W b n m) (hb : W'.heap[b]? = W.heap[b]?) : IntMap W' b n m := by
  obtain ⟨D, ⟨es, clock, hes, r⟩, r2⟩ := h
  exact ⟨D, ⟨es, clock, hb.trans hes, r⟩, r2⟩
theorem IntMap.mono {W : World} {b n n' : Nat} {m : Int → Option Value} (h : IntMap W b n m) (hn : n ≤ n') : IntMap W b n' m := by
  obtain ⟨D, hD, r⟩ := h; exact ⟨D, hD.mono hn, r⟩
theorem IntMap.map {W : World} {b n : Nat} {m : Int → Option Value} (h : IntMap W b n m) : ∃ es clock, W.heap[b]? = some (.map es clock) := by
  obtain ⟨D, ⟨es, clock, hes, r⟩, r2⟩ := h; exact ⟨es, clock, hes⟩

theorem atKey_none {D : DataW Value} {k : Lit} (hD : IsMap D) (h : Maps.has D k = false) (z : DataW Value) : D.atKey k z = z := by
  cases D with
  | map es =>
    simp only [Maps.has, List.any_eq_false] at h
    simp only [DataW.atKey]
    have : es.find? (fun p => p.1.sameKey k) = none := by
      rw [List.find?_eq_none]; intro x hx; simpa using h x hx
    simp [this]
  | _ => simp [IsMap] at hD

theorem IntMap.look {w : World} {b n : Nat} {M : Int → Option Value} (h : IntMap w b n M) {t e : TypeId} (ht : Try.prog.underlying t = some (.map 3 e)) {z : Value} (hz : (zeroValue e).run Try.prog w = .ok z w) {key : Int} (hwf : (Lit.int .i64 key).wf = true) :
    (Instr.lookup t (.map (some b)) (.int .i64 key) true).run Try.prog w = .ok (.tuple #[(M key).getD z, .bool (M key).isSome]) w ∧ (Instr.lookup t (.map (some b)) (.int .i64 key) false).run Try.prog w = .ok ((M key).getD z) w := by
  obtain ⟨D, hD, hh, ha⟩ := h
  have hkey := keyOf_int_mk Try.underlying3 hwf
  have hv : ∀ v, heldElem v = some (D.atKey (.int .i64 key) (.held z), []) → v = (M key).getD z := fun v hv => by
    unfold heldElem at hv
    simp only [Option.some.injEq, Prod.mk.injEq, and_true] at hv
    cases hm : M key with
    | none =>
      rw [atKey_none (hD.tidy lawInt).isMap (by rw [hh, hm]; rfl)] at hv
      simpa using hv
    | some u =>
      rw [ha key u hm] at hv
      simpa using hv
  constructor
  · obtain ⟨v, ps, hrun, hR⟩ := hD.look_ok lawInt ht hz (R := heldElem) (zd := .held z) (zp := []) rfl hkey
    have : ps = [] := by unfold heldElem at hR; simp at hR; exact hR.2
    subst this
    rw [hrun, hv v hR, hh]
  · obtain ⟨v, ps, hrun, hR⟩ := hD.lookup lawInt ht hz (R := heldElem) (zd := .held z) (zp := []) rfl hkey
    have : ps = [] := by unfold heldElem at hR; simp at hR; exact hR.2
    subst this
    rw [hrun, hv v hR]

theorem IntMap.set {w : World} {b n : Nat} {M : Int → Option Value} (h : IntMap w b n M) {t e : TypeId} (ht : Try.prog.underlying t = some (.map 3 e)) (hn : n < maxLen) {key : Int} (hwf : (Lit.int .i64 key).wf = true) (v : Value) :
    ∃ w', (Instr.mapUpdate t (.map (some b)) (.int .i64 key) v).run Try.prog w = .ok () w' ∧ IntMap w' b (n + 1) (upd M key v) ∧ w.grownBy w' (some b) := by
  obtain ⟨D, hD, hh, ha⟩ := h
  have hkey := keyOf_int_mk Try.underlying3 hwf
  obtain ⟨w', hrun, h1, h2⟩ := hD.update (R := heldElem) lawInt ht hn hkey (val := v) (d := .held v) (ps := []) rfl
  have hk : WideAt.IsKeyLit (.int .i64 key) := trivial
  refine ⟨w', hrun, ⟨_, h1, fun x => ?_, fun x u hx z => ?_⟩, h2⟩
  · by_cases e : x = key
    · subst e; rw [has_put_same (hD.tidy lawInt).isMap hk, upd_same]; rfl
    · rw [has_put_other (by simp [e]), upd_other _ _ e, hh]
  · by_cases e : x = key
    · subst e; rw [upd_same] at hx; cases hx; exact atKey_put_same (hD.tidy lawInt).isMap hk _ _
    · rw [upd_other _ _ e] at hx; rw [atKey_put_other (by simp [e])]; exact ha x u hx z

section
variable (w : World) {ops : Array Oper} {rest : List Oper} {o : Oper} {a : Act} {Q : Exit → Act → World → Prop}
theorem wp_look_hit (hg : o.guard = none) (m x : Operand) (t : TypeId) (hop : o.op = Op.lookup t m x true) (e : TypeId) (ht : Try.prog.underlying t = some (.map 3 e)) {z : Value} (hz : (zeroValue e).run Try.prog w = .ok z w) (b n : Nat) (M : Int → Option Value)
    (hm : a.eval m = .map (some b)) (hI : IntMap w b n M) (key : Int) (hx : a.eval x = .int .i64 key) (hwf : (Lit.int .i64 key).wf = true) (v : Value) (hv : M key = some v)
    (hK : wpList Try.prog ops Q rest (a.put o.dst (.tuple #[v, .bool true])) w) : wpList Try.prog ops Q (o :: rest) a w := by
  refine wpList_plain hg fun K' hK' => ?_
  have hrun := (hI.look ht hz hwf).1
  rw [hv] at hrun
  unfold Oper.wp
  simp [execOp, hop, hm, hx, hrun, Result.andThen]
  exact hK' _ _ hK
theorem wp_look_miss (hg : o.guard = none) (m x : Operand) (t : TypeId) (hop : o.op = Op.lookup t m x true) (e : TypeId) (ht : Try.prog.underlying t = some (.map 3 e)) {z : Value} (hz : (zeroValue e).run Try.prog w = .ok z w) (b n : Nat) (M : Int → Option Value)
    (hm : a.eval m = .map (some b)) (hI : IntMap w b n M) (key : Int) (hx : a.eval x = .int .i64 key) (hwf : (Lit.int .i64 key).wf = true) (hv : M key = none)
    (hK : wpList Try.prog ops Q rest (a.put o.dst (.tuple #[z, .bool false])) w) : wpList Try.prog ops Q (o :: rest) a w := by
  refine wpList_plain hg fun K' hK' => ?_
  have hrun := (hI.look ht hz hwf).1
  rw [hv] at hrun
  unfold Oper.wp
  simp [execOp, hop, hm, hx, hrun, Result.andThen]
  exact hK' _ _ hK
theorem wp_mapset (hg : o.guard = none) (m x u : Operand) (t : TypeId) (hop : o.op = Op.mapUpdate t m x u) (e : TypeId) (ht : Try.prog.underlying t = some (.map 3 e)) (b n : Nat) (M : Int → Option Value)
    (hm : a.eval m = .map (some b)) (hI : IntMap w b n M) (hn : n < maxLen) (key : Int) (hx : a.eval x = .int .i64 key) (hwf : (Lit.int .i64 key).wf = true) (v : Value) (hv : a.eval u = v)
    (hK : ∀ w', IntMap w' b (n + 1) (upd M key v) → w.grownBy w' (some b) → wpList Try.prog ops Q rest (a.put o.dst undef) w') : wpList Try.prog ops Q (o :: rest) a w := by
  refine wpList_plain hg fun K' hK' => ?_
  obtain ⟨w', hrun, h1, h2⟩ := hI.set ht hn hwf v
  unfold Oper.wp
  simp [execOp, hop, hm, hx, hv, hrun, Result.andThen]
  exact hK' _ _ (hK w' h1 h2)
end

section
variable {F : Fence} {nF : Nat} (w : World) {ops : Array Oper} {rest : List Oper} {o : Oper} {a : Act} {Q : Exit → Act → World → Prop}
theorem wpi_look (hg : o.guard = none) (m x : Operand) (t : TypeId) (hop : o.op = Op.lookup t m x false) (e : TypeId) (ht : Try.prog.underlying t = some (.map 3 e)) {z : Value} (hz : (zeroValue e).run Try.prog w = .ok z w) (b n : Nat) (M : Int → Option Value)
    (hm : a.eval m = .map (some b)) (hI : IntMap w b n M) (key : Int) (hx : a.eval x = .int .i64 key) (hwf : (Lit.int .i64 key).wf = true) (v : Value) (hv : (M key).getD z = v)
    (hK : wpListIn F nF Try.prog ops Q rest (a.put o.dst v) w) : wpListIn F nF Try.prog ops Q (o :: rest) a w := by
  refine wpListIn_plain hg fun K' hK' => ?_
  have hrun := (hI.look ht hz hwf).2
  rw [hv] at hrun
  unfold Oper.wpIn
  refine ⟨by simp [Oper.about, hop], ?_⟩
  rw [Oper.semAt_plain F _ _ (by rw [hop]; intro c hc'; cases hc')]
  simp [execOp, hop, hm, hx, hrun, Result.andThen]
  exact hK' _ _ hK
theorem wpi_mapset (hg : o.guard = none) (m x u : Operand) (t : TypeId) (hop : o.op = Op.mapUpdate t m x u) (e : TypeId) (ht : Try.prog.underlying t = some (.map 3 e)) (b n : Nat) (M : Int → Option Value)
    (hm : a.eval m = .map (some b)) (hI : IntMap w b n M) (hn : n < maxLen) (key : Int) (hx : a.eval x = .int .i64 key) (hwf : (Lit.int .i64 key).wf = true) (v : Value) (hv : a.eval u = v)
    (hK : ∀ w', IntMap w' b (n + 1) (upd M key v) → w.grownBy w' (some b) → wpListIn F nF Try.prog ops Q rest (a.put o.dst undef) w') : wpListIn F nF Try.prog ops Q (o :: rest) a w := by
  refine wpListIn_plain hg fun K' hK' => ?_
  obtain ⟨w', hrun, h1, h2⟩ := hI.set ht hn hwf v
  unfold Oper.wpIn
  refine ⟨by simp [Oper.about, hop], ?_⟩
  rw [Oper.semAt_plain F _ _ (by rw [hop]; intro c hc'; cases hc')]
  simp [execOp, hop, hm, hx, hv, hrun, Result.andThen]
  exact hK' _ _ (hK w' h1 h2)
end

end Go.Proofs.Ytjaikmlbajdedac

namespace Go.Proofs.Ytjaikmlbajdedac
open Go.Proofs Go.RowKit Go.Shelf Go.Maps

abbrev Asg := Int → Option (List Int)
/-- From place k of t on, against the signs that are left. -/
def Tm.fitGo (t : List Int) : List Int → Nat → Asg → Option Asg
  | [], _, m => some m
  | s :: p, k, m => if s < 0 then (if (m s).isSome = true ∧ m s ≠ some (Tm.part t k) then none else Tm.fitGo t p (Tm.endAt t k) (upd m s (Tm.part t k))) else if t[k]?.getD 0 = s then Tm.fitGo t p (k + 1) m else none
def Tm.fit (p t : List Int) : Option Asg := Tm.fitGo t p 0 (fun _ => none)

theorem Tm.fitGo_nil (t : List Int) (k : Nat) (m : Asg) : Tm.fitGo t [] k m = some m := rfl
theorem Tm.fitGo_new {t p : List Int} {i k : Nat} {m : Asg} (hi : i < p.length) (hs : p[i]?.getD 0 < 0) (hm : m (p[i]?.getD 0) = none) : Tm.fitGo t (p.drop i) k m = Tm.fitGo t (p.drop (i + 1)) (Tm.endAt t k) (upd m (p[i]?.getD 0) (Tm.part t k)) := by
  rw [List.drop_eq_getElem_cons hi, Tm.fitGo]
  simp only [hi, List.getElem?_eq_getElem, Option.getD_some] at hs hm ⊢
  rw [if_pos hs, hm, if_neg (by simp)]
theorem Tm.fitGo_old {t p : List Int} {i k : Nat} {m : Asg} (hi : i < p.length) (hs : p[i]?.getD 0 < 0) (hm : m (p[i]?.getD 0) = some (Tm.part t k)) : Tm.fitGo t (p.drop i) k m = Tm.fitGo t (p.drop (i + 1)) (Tm.endAt t k) (upd m (p[i]?.getD 0) (Tm.part t k)) := by
  rw [List.drop_eq_getElem_cons hi, Tm.fitGo]
  simp only [hi, List.getElem?_eq_getElem, Option.getD_some] at hs hm ⊢
  rw [if_pos hs, if_neg (by simp [hm])]
theorem Tm.fitGo_clash {t p : List Int} {i k : Nat} {m : Asg} {zs : List Int} (hi : i < p.length) (hs : p[i]?.getD 0 < 0) (hm : m (p[i]?.getD 0) = some zs) (hne : zs ≠ Tm.part t k) : Tm.fitGo t (p.drop i) k m = none := by
  rw [List.drop_eq_getElem_cons hi, Tm.fitGo]
  simp only [hi, List.getElem?_eq_getElem, Option.getD_some] at hs hm ⊢
  rw [if_pos hs, if_pos (by simp [hm, hne])]
theorem Tm.fitGo_sym {t p : List Int} {i k : Nat} {m : Asg} (hi : i < p.length) (hs : ¬ p[i]?.getD 0 < 0) (he : t[k]?.getD 0 = p[i]?.getD 0) : Tm.fitGo t (p.drop i) k m = Tm.fitGo t (p.drop (i + 1)) (k + 1) m := by
  rw [List.drop_eq_getElem_cons hi, Tm.fitGo]
  simp only [hi, List.getElem?_eq_getElem, Option.getD_some] at hs he ⊢
  rw [if_neg hs, if_pos he]
theorem Tm.fitGo_other {t p : List Int} {i k : Nat} {m : Asg} (hi : i < p.length) (hs : ¬ p[i]?.getD 0 < 0) (he : t[k]?.getD 0 ≠ p[i]?.getD 0) : Tm.fitGo t (p.drop i) k m = none := by
  rw [List.drop_eq_getElem_cons hi, Tm.fitGo]
  simp only [hi, List.getElem?_eq_getElem, Option.getD_some] at hs he ⊢
  rw [if_neg hs, if_neg he]

/-- As many terms are left of p as of t. -/
def Against (p t : List Int) (i k : Nat) : Prop := ∃ o, Tm.run (p.drop i) o = p.length - i ∧ Tm.run (t.drop k) o = t.length - k ∧ i ≤ p.length ∧ k ≤ t.length
theorem Against.start {p t : List Int} (hp : Tm.err p = 0) (ht : Tm.err t = 0) : Against p t 0 0 := ⟨1, by simpa using Tm.err_run hp, by simpa using Tm.err_run ht, by omega, by omega⟩
theorem Against.pos {p t : List Int} {i k : Nat} (h : Against p t i k) (hi : i < p.length) : k < t.length := by
  obtain ⟨o, h1, h2, h3, h4⟩ := h
  have ho : o ≠ 0 := by rintro rfl; rw [Tm.run_zero] at h1; omega
  have := Tm.run_ge (t.drop k) o
  omega
theorem Tm.room_neg {s : Int} (h : s < 0) : Tm.room s = 0 := by unfold Tm.room; rw [if_neg (by omega), if_neg (by omega)]
theorem Against.var {p t : List Int} {i k : Nat} (h : Against p t i k) (hi : i < p.length) (hs : p[i]?.getD 0 < 0) : Against p t (i + 1) (Tm.endAt t k) := by
  have hk := h.pos hi
  obtain ⟨o, h1, h2, h3, h4⟩ := h
  have ho : o ≠ 0 := by rintro rfl; rw [Tm.run_zero] at h1; omega
  obtain ⟨o, rfl⟩ : ∃ o', o = o' + 1 := ⟨o - 1, by omega⟩
  rw [Tm.run_step hi, Tm.room_neg hs] at h1
  rw [Nat.add_comm o 1, Tm.run_add] at h2
  have hle : Tm.endAt t k ≤ t.length := by
    rw [show Tm.endAt t k = k + Tm.run (t.drop k) 1 from rfl]
    omega
  refine ⟨o, by simpa using (by omega : Tm.run (p.drop (i + 1)) (o + 0) = p.length - (i + 1)), ?_, by omega, hle⟩
  rw [List.drop_drop] at h2
  rw [show Tm.endAt t k = k + Tm.run (t.drop k) 1 from rfl] at hle ⊢
  omega
theorem Against.sym {p t : List Int} {i k : Nat} (h : Against p t i k) (hi : i < p.length) (he : t[k]?.getD 0 = p[i]?.getD 0) : Against p t (i + 1) (k + 1) := by
  have hk := h.pos hi
  obtain ⟨o, h1, h2, h3, h4⟩ := h
  have ho : o ≠ 0 := by rintro rfl; rw [Tm.run_zero] at h1; omega
  obtain ⟨o, rfl⟩ : ∃ o', o = o' + 1 := ⟨o - 1, by omega⟩
  rw [Tm.run_step hi] at h1
  rw [Tm.run_step hk, he] at h2
  exact ⟨o + Tm.room (p[i]?.getD 0), by omega, by omega, by omega, by omega⟩
theorem Against.endAt_le {p t : List Int} {i k : Nat} (h : Against p t i k) (hi : i < p.length) : Tm.endAt t k ≤ t.length := by
  obtain ⟨o, h1, h2, h3, h4⟩ := h
  have ho : o ≠ 0 := by rintro rfl; rw [Tm.run_zero] at h1; omega
  obtain ⟨o, rfl⟩ : ∃ o', o = o' + 1 := ⟨o - 1, by omega⟩
  rw [Nat.add_comm o 1, Tm.run_add] at h2
  rw [show Tm.endAt t k = k + Tm.run (t.drop k) 1 from rfl]
  omega

/-- A value that is a slice which reads zs, all below block n. -/
def Reads (n : Nat) (W : World) (v : Value) (zs : List Int) : Prop := ∃ b off c, v = .slice (some ⟨b, off, none⟩) zs.length c ∧ Ints n W (some ⟨b, off, none⟩) zs ∧ zs.length ≤ c ∧ c ≤ maxLen ∧ zs.length ≤ 30
theorem Reads.below {n : Nat} {W W' : World} {v : Value} {zs : List Int} (h : Reads n W v zs) (hB : Below n W W') : Reads n W' v zs := by
  obtain ⟨b, off, c, rfl, hI, h1⟩ := h
  exact ⟨b, off, c, rfl, hI.below hB, h1⟩
/-- BLOCK bm IS THE MAP OF WHAT VARIABLES BECOME. -/
def FitAt (n : Nat) (W : World) (bm N : Nat) (m : Asg) : Prop := ∃ M, IntMap W bm N M ∧ (∀ s, m s = none → M s = none) ∧ ∀ s zs, m s = some zs → ∃ v, M s = some v ∧ Reads n W v zs
theorem FitAt.upd {n : Nat} {W W' : World} {bm N : Nat} {m : Asg} {s : Int} {v : Value} {zs : List Int} {M : Int → Option Value} (h1 : ∀ s, m s = none → M s = none) (h2 : ∀ s zs, m s = some zs → ∃ v, M s = some v ∧ Reads n W v zs)
    (h3 : IntMap W' bm N (upd M s v)) (hB : Below n W W') (hv : Reads n W v zs) : FitAt n W' bm N (upd m s zs) := by
  refine ⟨_, h3, fun x hx => ?_, fun x ys hx => ?_⟩
  · by_cases e : x = s
    · subst e; rw [upd_same] at hx; cases hx
    · rw [upd_other _ _ e] at hx ⊢; exact h1 x hx
  · by_cases e : x = s
    · subst e; rw [upd_same] at hx; cases hx; exact ⟨v, upd_same _ _ _, hv.below hB⟩
    · rw [upd_other _ _ e] at hx
      obtain ⟨u, hu, hr⟩ := h2 x ys hx
      exact ⟨u, by rw [upd_other _ _ e]; exact hu, hr.below hB⟩

/-- What comes: what has been found for the first k variables; all others become themselves. -/
def Tm.fitL (m : Asg) (k : Nat) : List (List Int) := (List.range 8).map fun i : Nat => if i < k then (m (-1 - (i : Int))).getD [-1 - (i : Int)] else [-1 - (i : Int)]
theorem Tm.fitL_length (m : Asg) (k : Nat) : (Tm.fitL m k).length = 8 := by simp [Tm.fitL]
theorem Tm.fitL_zero (m : Asg) : Tm.fitL m 0 = Tm.noneL 8 := by simp [Tm.fitL, Tm.noneL]
theorem Tm.fitL_none {m : Asg} {k : Nat} (h : m (-1 - (k : Int)) = none) : Tm.fitL m (k + 1) = Tm.fitL m k := by
  unfold Tm.fitL
  refine List.map_congr_left fun i _ => ?_
  by_cases e : i = k
  · subst e; rw [if_pos (by omega), if_neg (by omega), h]; rfl
  · by_cases hl : i < k
    · rw [if_pos (by omega), if_pos hl]
    · rw [if_neg (by omega), if_neg hl]
theorem Tm.fitL_some {m : Asg} {k : Nat} {zs : List Int} (h : m (-1 - (k : Int)) = some zs) : Tm.fitL m (k + 1) = (Tm.fitL m k).set k zs := by
  refine List.ext_getElem (by simp [Tm.fitL]) fun i h1 h2 => ?_
  simp only [Tm.fitL, List.length_map, List.length_range] at h1
  by_cases e : i = k
  · subst e
    rw [List.getElem_set_self]
    simp [Tm.fitL, h]
  · rw [List.getElem_set_ne (by omega)]
    simp only [Tm.fitL, List.getElem_map, List.getElem_range]
    by_cases hl : i < k
    · rw [if_pos (by omega), if_pos hl]
    · rw [if_neg (by omega), if_neg hl]
def Tm.fitErr (p t : List Int) : Int := Tm.firstErr [p, t]
def Tm.fitIs (p t : List Int) : Bool := if Tm.fitErr p t = 0 then (Tm.fit p t).isSome else false
def Tm.fitOut : Option Asg → List (List Int)
  | some m => Tm.fitL m 8
  | none => []
def Tm.fitVal (p t : List Int) : List (List Int) := if Tm.fitErr p t = 0 then Tm.fitOut (Tm.fit p t) else []
theorem Tm.fitErr_ok {p t : List Int} (h : Tm.fitErr p t = 0) : Tm.err p = 0 ∧ Tm.err t = 0 := by
  have := Tm.firstErr_all h
  exact ⟨by simpa using this 0 (by simp), by simpa using this 1 (by simp)⟩
theorem Tm.fitErr_of {p t : List Int} (h1 : Tm.err p = 0) (h2 : Tm.err t = 0) : Tm.fitErr p t = 0 := by simp [Tm.fitErr, Tm.firstErr, h1, h2]
theorem Tm.fit_bad {p t : List Int} (h : Tm.fitErr p t ≠ 0) : Tm.fitIs p t = false ∧ Tm.fitVal p t = [] := by
  constructor
  · unfold Tm.fitIs; rw [if_neg h]
  · unfold Tm.fitVal; rw [if_neg h]
theorem Tm.fit_no {p t : List Int} (h : Tm.fitErr p t = 0) (hf : Tm.fit p t = none) : Tm.fitIs p t = false ∧ Tm.fitVal p t = [] := by
  constructor
  · unfold Tm.fitIs; rw [if_pos h, hf]; rfl
  · unfold Tm.fitVal; rw [if_pos h, hf]; rfl
theorem Tm.fit_yes {p t : List Int} {m : Asg} (h : Tm.fitErr p t = 0) (hf : Tm.fit p t = some m) : Tm.fitIs p t = true ∧ Tm.fitVal p t = Tm.fitL m 8 := by
  constructor
  · unfold Tm.fitIs; rw [if_pos h, hf]; rfl
  · unfold Tm.fitVal; rw [if_pos h, hf]; rfl

end Go.Proofs.Ytjaikmlbajdedac
