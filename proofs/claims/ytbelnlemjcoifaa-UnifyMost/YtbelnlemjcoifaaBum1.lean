/-
  PLAIN MATHEMATICS of terms as lists of signs: no program in it. 'run l n': how many signs n terms take up that stand at the head of l (a sign that is missing counts as one without parts). · THE SMALL FUNCTIONS: what signs.Room, signs.Known, haspref.size, haspref.within, term.hasPlace answer, for every argument. · signs.Parts and signs.End: a range over a function, and the function's own iterator calls End again: by induction on how many signs lie behind the place. · signs.End: for every list of at most 30 signs, at every place: where the next one behind the term there would begin; nothing that lay has turned. · term.Check and haspref.TermError: for every list of signs: the error's number that the document names. · haspref.TermError and haspref.PlaceError: for every list of signs, at every place. · haspref.SameTerms and haspref.PlaceError. · haspref.PlaceError, haspref.grown, haspref.endOf. · slices.Clone, term.End, term.Part; haspref.endOf, EndOf, partOf, PartOf. · term.Part; haspref.endOf, EndOf, partOf, PartOf. · slices.Grow of the nil slice; slices.Concat of slices of ints. · term.Put; haspref.put, PutOf. · term.Put whatever it is handed; haspref.put, PutOf. · haspref.PutOf; hasplaw.fxga, termBegun. · hasplaw.termBegun: it answers true. · From the frame's word on a slice of ints that came in to ours. · sub.Check and haspref.SubError: for every list of lists of signs. · signs.Change by what a list says (sub.become's function literal), sub.become, sub.Apply. · haspref.applied, ApplyOf.
-/
import Derived.Test.YtbelnlemjcoifaaProg
import Derived.WalkKit
import Derived.WalkSpells
import Derived.RangeFuncNested
import Derived.RangeFuncBound
import Derived.RangeFuncCalls
import Derived.RangeFuncLeaves
import Derived.RangeFuncBox
import Derived.Shelf.Abstract
import Derived.Shelf.RegionOpen
import Derived.OwnWalkIn
import Derived.TacticsInMore
import Derived.LoopNIn
import Derived.LoopIn
import Derived.Deep.QuietTactic
import Derived.BigQuiet
import Derived.WalkSmall
import Derived.Laws.AppendOwnNone
import Derived.Lib.AppendZeros
import Derived.Deep.RegionWith
import Derived.Deep.DeepCutAuto
namespace Go.Proofs.Ytbelnlemjcoifaa.Tm

def room (s : Int) : Nat := if s = 2 ∨ s = 3 then 1 else if s = 4 ∨ s = 5 then 2 else 0

theorem room_le (s : Int) : room s ≤ 2 := by unfold room; split <;> (try split) <;> omega

def run : List Int → Nat → Nat
  | _, 0 => 0
  | [], n + 1 => n + 1
  | s :: l, n + 1 => 1 + run l (n + room s)

theorem run_zero (l : List Int) : run l 0 = 0 := by cases l <;> simp [run]
theorem run_nil (n : Nat) : run [] n = n := by cases n <;> simp [run]
theorem run_cons (s : Int) (l : List Int) (n : Nat) : run (s :: l) (n + 1) = 1 + run l (n + room s) := by simp [run]

theorem run_add (l : List Int) : ∀ (a b : Nat), run l (a + b) = run l a + run (l.drop (run l a)) b := by
  induction l with
  | nil => intro a b; simp [run_nil]
  | cons s l ih =>
    intro a b
    cases a with
    | zero => simp [run_zero]
    | succ a =>
      rw [show a + 1 + b = (a + b) + 1 from by omega, run_cons, run_cons, show a + b + room s = (a + room s) + b from by omega, ih,
        show 1 + run l (a + room s) = run l (a + room s) + 1 from by omega, List.drop_succ_cons]
      omega

theorem run_ge (l : List Int) : ∀ (n : Nat), n ≤ run l n := by
  induction l with
  | nil => intro n; simp [run_nil]
  | cons s l ih =>
    intro n
    cases n with
    | zero => simp
    | succ n => rw [run_cons]; have := ih (n + room s); omega

theorem run_le (l : List Int) : ∀ (n : Nat), run l n ≤ 2 * l.length + n := by
  induction l with
  | nil => intro n; simp [run_nil]
  | cons s l ih =>
    intro n
    cases n with
    | zero => simp [run_zero]
    | succ n => rw [run_cons]; have := ih (n + room s); have := room_le s; simp only [List.length_cons]; omega

/-- Where the next one behind the term at place k would begin. -/
def endAt (t : List Int) (k : Nat) : Nat := k + run (t.drop k) 1

theorem endAt_gt (t : List Int) (k : Nat) : k < endAt t k := by unfold endAt; have := run_ge (t.drop k) 1; omega
theorem endAt_out (t : List Int) (k : Nat) (h : t.length ≤ k) : endAt t k = k + 1 := by
  unfold endAt; rw [List.drop_of_length_le h, run_nil]

/-- Where part i of the term at place k begins. -/
def pos (t : List Int) (k i : Nat) : Nat := k + 1 + run (t.drop (k + 1)) i

theorem pos_zero (t : List Int) (k : Nat) : pos t k 0 = k + 1 := by simp [pos, run_zero]
theorem pos_succ (t : List Int) (k i : Nat) : pos t k (i + 1) = endAt t (pos t k i) := by
  unfold pos endAt
  rw [run_add, List.drop_drop]
  omega
theorem pos_gt (t : List Int) (k i : Nat) : k < pos t k i := by unfold pos; omega
theorem pos_le (t : List Int) (k i : Nat) : pos t k i ≤ k + 1 + (2 * (t.length - (k + 1)) + i) := by
  unfold pos; have := run_le (t.drop (k + 1)) i; rw [List.length_drop] at this; omega

theorem endAt_in (t : List Int) (k : Nat) (h : k < t.length) : endAt t k = pos t k (room (t[k]?.getD 0)) := by
  unfold endAt pos
  rw [List.drop_eq_getElem_cons h, show (1 : Nat) = 0 + 1 from rfl, run_cons]
  simp [h]
  omega

/-- The parts' begins and ends, the first n of them. -/
def parts (t : List Int) (k n : Nat) : List (Nat × Nat) := (List.range n).map fun i => (pos t k i, pos t k (i + 1))
theorem parts_succ (t : List Int) (k n : Nat) : parts t k (n + 1) = parts t k n ++ [(pos t k n, pos t k (n + 1))] := by simp [parts, List.range_succ]
theorem parts_length (t : List Int) (k n : Nat) : (parts t k n).length = n := by simp [parts]

/-- What 'end' holds when 'pre' has come. -/
def lastEnd (k : Nat) (pre : List (Nat × Nat)) : Nat := (pre.getLast?.map Prod.snd).getD (k + 1)
theorem lastEnd_snoc (k : Nat) (pre : List (Nat × Nat)) (x : Nat × Nat) : lastEnd k (pre ++ [x]) = x.2 := by simp [lastEnd]
theorem lastEnd_parts (t : List Int) (k n : Nat) : lastEnd k (parts t k n) = pos t k n := by
  cases n with
  | zero => simp [parts, lastEnd, pos_zero]
  | succ n => rw [parts_succ, lastEnd_snoc]

/-- Is each sign a symbol or a variable? -/
def known (s : Int) : Bool := decide (-8 ≤ s) && decide (s < 6)
/-- A term's error, as a number: many 2, range 3, form 1, ok 0. -/
def err (t : List Int) : Int := if 30 < t.length then 2 else if t.all known = false then 3 else if run t 1 = t.length then 0 else 1

end Go.Proofs.Ytbelnlemjcoifaa.Tm

namespace Go.Proofs.Ytbelnlemjcoifaa
open Go.Proofs Go.RowKit

theorem hid {p : Prop} (h : p) : Hid p := h
theorem ret_bool {a b : Bool} (h : a = b) : Ending.returned (.bool a) = .returned (.bool b) := by rw [h]

set_option maxHeartbeats 400000 in
theorem room_any (s : Int) (w : World) : Calls Try.prog 85 #[.int .i64 s] w fun e w' => e = .returned (.int .i64 (Tm.room s : Int)) ∧ w' = w := by
  by_cases h2 : s = 2
  · subst h2; go_enter Try.func85, Try.ntmps85; go_wp2; go_ret; exact ⟨rfl, rfl⟩
  by_cases h3 : s = 3
  · subst h3; go_enter Try.func85, Try.ntmps85; go_wp2; go_ret; exact ⟨rfl, rfl⟩
  by_cases h4 : s = 4
  · subst h4; go_enter Try.func85, Try.ntmps85; go_wp2; go_ret; exact ⟨rfl, rfl⟩
  by_cases h5 : s = 5
  · subst h5; go_enter Try.func85, Try.ntmps85; go_wp2; go_ret; exact ⟨rfl, rfl⟩
  have e : Tm.room s = 0 := by simp [Tm.room, h2, h3, h4, h5]
  have b2 : (s == 2) = false := by simp [h2]
  have b3 : (s == 3) = false := by simp [h3]
  have b4 : (s == 4) = false := by simp [h4]
  have b5 : (s == 5) = false := by simp [h5]
  clear h2 h3 h4 h5
  rw [e]
  clear e
  go_enter Try.func85, Try.ntmps85
  go_wp2
  go_ret
  exact ⟨rfl, rfl⟩

set_option maxHeartbeats 400000 in
theorem known_any (s : Int) (w : World) : Calls Try.prog 50 #[.int .i64 s] w fun e w' => e = .returned (.bool (Tm.known s)) ∧ w' = w := by
  by_cases h1 : -8 ≤ s
  · by_cases h2 : s < 6
    · go_enter Try.func50, Try.ntmps50; go_wp2; go_ret; exact ⟨ret_bool (by simp [Tm.known, h1, h2]), rfl⟩
    · go_enter Try.func50, Try.ntmps50; go_wp2; go_ret; exact ⟨ret_bool (by simp [Tm.known, h1, h2]), rfl⟩
  · have h1' : decide (-8 ≤ s) = false := by simpa using h1
    go_enter Try.func50, Try.ntmps50; go_wp2; go_ret; exact ⟨ret_bool (by simp [Tm.known]; omega), rfl⟩

/-- low ≤ n ≤ high, as a Bool that the walk does not take apart. -/
def insideB (n low high : Int) : Bool := decide (low ≤ n) && decide (n ≤ high)
end Go.Proofs.Ytbelnlemjcoifaa

namespace Go.Proofs.Ytbelnlemjcoifaa
open Go.Proofs Go.RowKit Go.Shelf

attribute [local go_sem] Oper.semAt_some

/-- THE SLICE AT a HOLDS THE ints zs, in a block below n. -/
def Ints (n : Nat) (W : World) (a : Option Addr) (zs : List Int) : Prop :=
  ∀ j, j < zs.length → ∃ b off, a = some ⟨b, off, none⟩ ∧ b < n ∧ W.cell? ⟨b, off + j, none⟩ = some (.int .i64 (zs[j]?.getD 0))
theorem Ints.below {n : Nat} {A B : World} (h : Below n A B) {a : Option Addr} {zs : List Int} (hi : Ints n A a zs) : Ints n B a zs := fun j hj => by
  obtain ⟨b, off, e, hb, hc⟩ := hi j hj
  exact ⟨b, off, e, hb, (h.cell (p := ⟨b, off + j, none⟩) hb).trans hc⟩
theorem Ints.mono {n m : Nat} (h : n ≤ m) {W : World} {a : Option Addr} {zs : List Int} (hi : Ints n W a zs) : Ints m W a zs := fun j hj => by
  obtain ⟨b, off, e, hb, hc⟩ := hi j hj
  exact ⟨b, off, e, by omega, hc⟩
theorem Ints.at {n : Nat} {W : World} {a : Option Addr} {zs : List Int} (hi : Ints n W a zs) (h : 0 < zs.length) :
    ∃ b off, a = some ⟨b, off, none⟩ ∧ b < n ∧ ∀ j, j < zs.length → W.cell? ⟨b, off + j, none⟩ = some (.int .i64 (zs[j]?.getD 0)) := by
  obtain ⟨b, off, rfl, hb, _⟩ := hi 0 h
  refine ⟨b, off, rfl, hb, fun j hj => ?_⟩
  obtain ⟨b', off', e, _, hc⟩ := hi j hj
  cases e
  exact hc

theorem grown_of_below {W W' : World} (h : Below W.heap.size W W') : W.grownBy W' none := ⟨h.os, h.tape, h.output, h.size, fun k hk _ => h.block k hk⟩

theorem wide_facts {F : Fence} (hF : F = Fence.wide) : F.round = none ∧ (∀ f, F.fn f) ∧ (∀ k : Nat, (F.depth.isSome = true → 1 ≤ k)) ∧
    (∀ {n : Nat} {P : Program} {f : FuncId} {args : Array Value} {w : World} {R : Ending → World → Prop}, Calls P f args w R → CallsIn F n P f args w R) := by
  subst hF
  exact ⟨rfl, fun _ => trivial, fun k h => by simp [Fence.wide] at h, fun h => callsIn_wide.2 h⟩

/-- What a round keeps: all below n, and the box that holds the term. -/
def Kept (n B : Nat) (W W' : World) : Prop := Below n W W' ∧ W'.heap[B]? = W.heap[B]?

set_option maxHeartbeats 400000 in
theorem parts_in (F : Fence) (hF : F = Fence.wide) (n : Nat) (a : Option Addr) (len cap : Nat) (k : Int) (w : World) :
    CallsIn F n Try.prog 68 #[.slice a len cap, .int .i64 k] w fun e w' => e = .returned (.func (.func 84) #[] #[.pointer (some ⟨w.heap.size + 1, 0, none⟩), .pointer (some ⟨w.heap.size, 0, none⟩)]) ∧
      w' = (w.alloc (.cells #[.slice a len cap] 23)).alloc (.cells #[.int .i64 k] 3) := by
  have hro : F.round = none := by subst hF; rfl
  have hfn : F.fn 68 := by subst hF; trivial
  refine callsIn_of_wp Try.func68 rfl hfn ?_ hro
  simp only [Try.ntmps68, List.size_toArray, List.length_cons, List.length_nil, Nat.reduceAdd, Nat.reduceSub, Array.replicate_succ, Array.replicate_zero, List.push_toArray, List.append_toArray, List.nil_append, List.cons_append]
  gi_wp2
  go_ret
  exact ⟨rfl, rfl⟩

set_option maxRecDepth 100000 in
set_option maxHeartbeats 1000000 in
/-- The iterator: for every loop body that keeps what lay below n₀, and the term's box. -/
theorem parts1_in (F : Fence) (hF : F = Fence.wide) (n l Bk Bt n₀ k cap : Nat) (a : Option Addr) (zs : List Int) (hlen : zs.length ≤ 30) (hk : k < zs.length)
    (hE : ∀ (p : Nat) (W : World), k < p → p ≤ 200 → Ints n₀ W a zs → n₀ ≤ W.heap.size → Calls Try.prog 44 #[.slice a zs.length cap, .int .i64 (p : Int)] W fun e W' => e = .returned (.int .i64 (Tm.endAt zs p : Int)) ∧ Below W.heap.size W W')
    (J Jx : List (Nat × Nat) → World → Prop) (W : World) (hJ : AbidesFrom W.heap.size J)
    (hY : ∀ pre x W, J pre W → pre.length < Tm.room (zs[k]?.getD 0) → YieldAt F (n - 1) Try.prog l #[.int .i64 (x.1 : Int), .int .i64 (x.2 : Int)] W fun e W' =>
      (e = .returned (.bool true) ∧ J (pre ++ [x]) W' ∧ Kept n₀ Bt W W') ∨ (e = .returned (.bool false) ∧ Jx (pre ++ [x]) W'))
    (hn₀ : n₀ ≤ W.heap.size) (hBk : W.cell? ⟨Bk, 0, none⟩ = some (.int .i64 (k : Int))) (hBt : W.cell? ⟨Bt, 0, none⟩ = some (.slice a zs.length cap)) (hBt' : Bt < W.heap.size) (hI : Ints n₀ W a zs) (h0 : J [] W) :
    CallsIn F n Try.prog 84 #[.func (.yield l) #[] #[], .pointer (some ⟨Bk, 0, none⟩), .pointer (some ⟨Bt, 0, none⟩)] W fun e W' => (∃ v, e = .returned v) ∧
      ((∃ ys, ys = Tm.parts zs k (Tm.room (zs[k]?.getD 0)) ∧ J ys W') ∨ (∃ pre, True ∧ Jx pre W')) := by
  obtain ⟨hro, hfn, hdd, hcin⟩ := wide_facts hF
  clear hF
  have hf55 := hfn 84
  have hf56 := hfn 85
  have hf32 := hfn 44
  have hr2 := Tm.room_le (zs[k]?.getD 0)
  obtain ⟨b, off, rfl, hb, hc⟩ := hI.at (by omega)
  have hck := hc k hk
  have hkl : (k : Int) < (zs.length : Int) := by omega
  have hroom : ∀ W, CallsIn F (n - 1) Try.prog 85 #[.int .i64 (zs[k]?.getD 0)] W fun e w' => e = .returned (.int .i64 (Tm.room (zs[k]?.getD 0) : Int)) ∧ w' = W := fun W => hcin (room_any _ W)
  generalize hrdef : Tm.room (zs[k]?.getD 0) = r at *
  clear hrdef
  generalize zs[k]?.getD 0 = s at *
  have HY := show Hid _ from hY
  have HE := show Hid _ from hE
  clear hY hE hc
  refine callsIn_of_wp Try.func84 rfl hf55 ?_ hro
  simp only [Try.ntmps84, List.size_toArray, List.length_cons, List.length_nil, Nat.reduceAdd, Nat.reduceSub, Array.replicate_succ, Array.replicate_zero, List.push_toArray, List.append_toArray, List.nil_append, List.cons_append]
  gi_wp2_with ((try refine ⟨hdd _, ?_⟩); gi_at_call 85; refine (hroom _).mono ?_; rintro e W ⟨rfl, rfl⟩)
  gi_loopw [4, 13] (fun p i wr => ∃ m : Nat, m ≤ r ∧ i = .int .i64 (m : Int) ∧ p = .int .i64 (Tm.pos zs k m : Int) ∧ J (Tm.parts zs k m) wr ∧ wr.heap[Bt]? = W.heap[Bt]? ∧ Below n₀ W wr ∧ W.heap.size ≤ wr.heap.size)
    (fun _ i _ => r - (intOf i).toNat)
  case atStart => exact ⟨0, Nat.zero_le _, rfl, by rw [Tm.pos_zero]; rfl, h0, rfl, Below.refl _ _, Nat.le_refl _⟩
  case round =>
    obtain ⟨m, hm, rfl, rfl, hJs, hT, hnx, hsz⟩ := hrel
    have hbt : wr.cell? ⟨Bt, 0, none⟩ = some (.slice (some ⟨b, off, none⟩) zs.length cap) := (World.cell?_of_block (a := ⟨Bt, 0, none⟩) hT).trans hBt
    by_cases hlt : m < r
    · have hlt' : (m : Int) < (r : Int) := by omega
      have h1 := (HE.out (Tm.pos zs k m) wr (Tm.pos_gt _ _ _) (by have := Tm.pos_le zs k m; omega) (hI.below hnx) (by omega)).mono (R' := fun e W1 => e = .returned (.int .i64 (Tm.pos zs k (m + 1) : Int)) ∧ YieldAt F (n - 1) Try.prog l #[.int .i64 (Tm.pos zs k m : Int), .int .i64 (Tm.pos zs k (m + 1) : Int)] W1 fun e W' =>
          (e = .returned (.bool true) ∧ J (Tm.parts zs k (m + 1)) W' ∧ Below n₀ W W' ∧ W'.heap[Bt]? = W.heap[Bt]? ∧ W.heap.size ≤ W'.heap.size) ∨ (e = .returned (.bool false) ∧ ∃ pre, Jx pre W'))
        (fun e W1 ⟨he, hB⟩ => ⟨by rw [Tm.pos_succ]; exact he, by
          have hg := grown_of_below hB
          have hJ1 := hJ _ _ _ none hJs hg (fun r e => by cases e)
          refine YieldAt.mono (HY.out _ (Tm.pos zs k m, Tm.pos zs k (m + 1)) W1 hJ1 (by rw [Tm.parts_length]; exact hlt)) fun e W2 h => h.elim (fun ⟨he, hj, hb2, hT2⟩ => .inl ⟨he, ?_, ?_, ?_, ?_⟩) (fun ⟨he, hx⟩ => .inr ⟨he, _, hx⟩)
          · rw [Tm.parts_succ]; exact hj
          · exact (hnx.trans (hB.mono (by omega))).trans hb2
          · exact hT2.trans ((hB.block Bt (by omega)).trans hT)
          · have := hB.size; have := hb2.size; omega⟩)
      have h1' := hcin (n := n - 1) h1
      clear h1
      gi_wp2_with (first
        | ((try refine ⟨hdd _, ?_⟩); gi_at_call 44; refine h1'.mono ?_; clear h1'; rintro e W1 ⟨rfl, fn, tmps, assign, body, hy, hR⟩)
        | ((try refine ⟨hdd _, ?_⟩); refine hR.mono ?_; clear hR; rintro e W2 (⟨rfl, hJ2, hb2, hT2, hs2⟩ | ⟨rfl, hx2⟩)))
      · exact ⟨⟨m + 1, by omega, by go_num, rfl, hJ2, hT2, hb2, hs2⟩, by simp [intOf]; omega⟩
      · obtain ⟨pre, hx2⟩ := hx2
        refine bodyPost_ret (results_none rfl _ _ _) rfl ?_
        exact ⟨⟨_, rfl⟩, .inr ⟨pre, trivial, hx2⟩⟩
    · obtain rfl : m = r := by omega
      have hlt' : ¬ (m : Int) < (m : Int) := by omega
      gi_wp2
      go_end0
      exact ⟨⟨_, rfl⟩, .inl hJs⟩

/-- The iterator value's contract. -/
theorem parts_stops (F : Fence) (hF : F = Fence.wide) (n Bk Bt n₀ k cap : Nat) (a : Option Addr) (zs : List Int) (hlen : zs.length ≤ 30) (hk : k < zs.length)
    (hE : ∀ (p : Nat) (W : World), k < p → p ≤ 200 → Ints n₀ W a zs → n₀ ≤ W.heap.size → Calls Try.prog 44 #[.slice a zs.length cap, .int .i64 (p : Int)] W fun e W' => e = .returned (.int .i64 (Tm.endAt zs p : Int)) ∧ Below W.heap.size W W')
    (w : World) (hn₀ : n₀ ≤ w.heap.size) (hBk' : Bk < w.heap.size) (hBt' : Bt < w.heap.size)
    (hBk : w.cell? ⟨Bk, 0, none⟩ = some (.int .i64 (k : Int))) (hBt : w.cell? ⟨Bt, 0, none⟩ = some (.slice a zs.length cap)) (hI : Ints n₀ w a zs) :
    SeqStopsK F n Try.prog 84 #[.pointer (some ⟨Bk, 0, none⟩), .pointer (some ⟨Bt, 0, none⟩)] (fun x : Nat × Nat => #[Value.int .i64 (x.1 : Int), Value.int .i64 (x.2 : Int)]) (Kept n₀ Bt)
      (fun ys => ys = Tm.parts zs k (Tm.room (zs[k]?.getD 0))) (fun _ => True) (Tm.room (zs[k]?.getD 0)) w := fun l J Jx W hW hJ _ hY h0 =>
  parts1_in F hF n l Bk Bt n₀ k cap a zs hlen hk hE J Jx W hJ hY (by have := hW.size; omega) ((hW.cell (p := ⟨Bk, 0, none⟩) hBk').trans hBk) ((hW.cell (p := ⟨Bt, 0, none⟩) hBt').trans hBt) (by have := hW.size; omega) (hI.below (hW.mono hn₀)) h0

end Go.Proofs.Ytbelnlemjcoifaa

namespace Go.Proofs.Ytbelnlemjcoifaa
open Go.Proofs Go.RowKit Go.Shelf

attribute [local go_sem] Oper.semAt_some

theorem kept_t {n B : Nat} {X Y Z : World} (h : Kept n B X Y) (k : Kept n B Y Z) : Kept n B X Z := ⟨h.1.trans k.1, k.2.trans h.2⟩
theorem kept_b {n B : Nat} {w : World} (hn : n ≤ w.heap.size) (hB : B < w.heap.size) (W : World) (l : Nat) (o o' : Obj) (hl : w.heap.size ≤ l) (h : W.heap[l]? = some o) (h1 : o.isCells = false) (h2 : o.isWalk = false) : Kept n B W (W.putObj l o') :=
  ⟨belowK_b hn W l o o' hl h h1 h2, World.putObj_heap_other (by omega)⟩

set_option maxHeartbeats 400000 in
/-- At a place beyond the list. -/
theorem end_out (a : Option Addr) (len cap k : Nat) (w : World) (hk : len ≤ k) (hk2 : k ≤ 200) :
    Calls Try.prog 44 #[.slice a len cap, .int .i64 (k : Int)] w fun e w' => e = .returned (.int .i64 ((k : Int) + 1)) ∧ Below w.heap.size w w' := by
  have h1 : (len : Int) ≤ (k : Int) := by omega
  have h2 : (k : Int) ≤ 200 := by omega
  have h3 : (0 : Int) ≤ (k : Int) := by omega
  go_enter Try.func44, Try.ntmps44
  go_wp2
  go_ret
  exact ⟨rfl, (Below.refl _ _).alloc (Nat.le_refl _) _⟩

set_option maxRecDepth 100000 in
set_option maxHeartbeats 1000000 in
theorem end_step (a : Option Addr) (cap k : Nat) (zs : List Int) (w : World) (hlen : zs.length ≤ 30) (hk : k < zs.length) (hI : Ints w.heap.size w a zs)
    (hE : ∀ (p : Nat) (W : World), k < p → p ≤ 200 → Ints w.heap.size W a zs → w.heap.size ≤ W.heap.size → Calls Try.prog 44 #[.slice a zs.length cap, .int .i64 (p : Int)] W fun e W' => e = .returned (.int .i64 (Tm.endAt zs p : Int)) ∧ Below W.heap.size W W') :
    Calls Try.prog 44 #[.slice a zs.length cap, .int .i64 (k : Int)] w fun e w' => e = .returned (.int .i64 (Tm.endAt zs k : Int)) ∧ Below w.heap.size w w' := by
  obtain ⟨F, hF⟩ : ∃ F, F = Fence.wide := ⟨_, rfl⟩
  refine (callsIn_wide (n := 3)).1 ?_
  rw [← hF]
  obtain ⟨hro, hfn, hdd, hcin⟩ := wide_facts hF
  have HF : Hid (F = Fence.wide) := hF
  have HE := show Hid _ from hE
  clear hF hE
  have hf32 := hfn 44
  have hf49 := hfn 68
  have hf55 := hfn 84
  have hlt : (k : Int) < (zs.length : Int) := by omega
  have h30 : (zs.length : Int) ≤ 30 := by omega
  have hk0 : (0 : Int) ≤ (k : Int) := by omega
  rw [Tm.endAt_in zs k hk]
  refine callsIn_of_wp_marks Try.func44 rfl hf32 ?_ hro
  simp only [Try.ntmps44, List.size_toArray, List.length_cons, List.length_nil, Nat.reduceAdd, Nat.reduceSub, Array.replicate_succ, Array.replicate_zero, List.push_toArray, List.append_toArray, List.nil_append, List.cons_append]
  gi_wp2_with ((try refine ⟨hdd _, ?_⟩); gi_at_call 68; refine (parts_in F HF.out _ _ _ _ _ _).mono ?_; rintro e w' ⟨rfl, rfl⟩)
  have bE := Boxed.new w 3 (.int .i64 ((k : Int) + 1))
  have bT := Boxed.new (w.alloc (.cells #[.int .i64 ((k : Int) + 1)] 3)) 23 (.slice a zs.length cap)
  have bK := Boxed.new ((w.alloc (.cells #[.int .i64 ((k : Int) + 1)] 3)).alloc (.cells #[.slice a zs.length cap] 23)) 3 (.int .i64 (k : Int))
  rw [World.size_alloc] at bT
  rw [World.size_alloc, World.size_alloc] at bK
  have hB0 : Below w.heap.size w (((w.alloc (.cells #[.int .i64 ((k : Int) + 1)] 3)).alloc (.cells #[.slice a zs.length cap] 23)).alloc (.cells #[.int .i64 (k : Int)] 3)) := (((Below.refl _ w).alloc (Nat.le_refl _) _).alloc (by simp) _).alloc (by simp; omega) _
  refine wpIn_rangeFunc_ownG hro (by omega) (gf := 84) (lb := #[.pointer (some ⟨w.heap.size + 1 + 1, 0, none⟩), .pointer (some ⟨w.heap.size + 1, 0, none⟩)]) rfl hf55 (enters_of Try.func84 (by kernel_rfl) rfl)
    (parts_stops F HF.out _ (w.heap.size + 1 + 1) (w.heap.size + 1) w.heap.size k cap a zs hlen hk HE.out _ (by simp; omega) (by simp) (by simp) bK.cell (bT.alloc _).cell (hI.below hB0)) kept_t (kept_b (by simp; omega) (by simp)) (Below.refl _ _) (fun _ => rfl)
    (fun pre W => (W.cell? ⟨w.heap.size, 0, none⟩ = some (.int .i64 (Tm.lastEnd k pre : Int)) ∧ W.frozen? ⟨w.heap.size, 0, none⟩ = false) ∧ Below w.heap.size w W)
    (fun _ _ _ => False)
    (OwnFrom.and (Own.from (fun s X Y row hs hg hr => ⟨cell_kept hs.1 hg hr, (frozen_kept hs.1 hg hr).trans hs.2⟩) _) (ownFrom_below (Nat.le_refl _) (by simp; omega)))
    (fun _ _ _ _ _ hs _ _ => hs)
    ⟨⟨((bE.alloc _).alloc _).cell, ((bE.alloc _).alloc _).frozen⟩, hB0⟩
    (fun x => { tmps := #[.slice a zs.length cap, .int .i64 (k : Int), undef, undef, .int .i64 0, .pointer (some ⟨w.heap.size, 0, none⟩), undef, .int .i64 (x.2 : Int), .int .i64 (k : Int), .int .i64 ((k : Int) + 1), .int .i64 (k : Int), .slice a zs.length cap,
      .int .i64 (zs.length : Int), .bool false, undef, .slice a zs.length cap, .int .i64 (k : Int), .func (.func 84) #[] #[.pointer (some ⟨w.heap.size + 1 + 1, 0, none⟩), .pointer (some ⟨w.heap.size + 1, 0, none⟩)], .int .i64 (x.1 : Int), .int .i64 (x.2 : Int), undef, undef], defers := [] }) ?assign ?body ?done ?stop
  case assign =>
    intro l x W K hK
    gi_wp2
    exact hK
  case body =>
    rintro l pre x W ⟨⟨hc, hf⟩, hB⟩ _
    gi_wp2
    exact ⟨(KeepsOthers.setCell _ _ _).from _, ⟨(Below.refl w.heap.size W).setCell (p := ⟨w.heap.size, 0, none⟩) (Nat.le_refl _) _, Below.heap_setCell W ⟨w.heap.size, 0, none⟩ _ _ (by simp)⟩,
      ⟨by rw [Tm.lastEnd_snoc]; exact World.cell?_setCell_same' _ _ _ (by rw [hc]; rfl), by rw [World.frozen?_setCell]; exact hf⟩, hB.setCell (p := ⟨w.heap.size, 0, none⟩) (Nat.le_refl _) _⟩
  case done =>
    rintro D ys W hD rfl ⟨⟨hc, _⟩, hB⟩ hK
    rw [Tm.lastEnd_parts] at hc
    gi_wp2
    refine ⟨by simp, .inl ⟨_, _, rfl, run_takeDeferred hK, ?_⟩⟩
    exact ⟨_, results_tmp rfl _ _ _, by simp [hk], hB.trans (belowK_b (w := w) (Nat.le_refl _) W D _ _ (by simp at hD; omega) hK rfl rfl)⟩
  case stop =>
    rintro D c pre W _ _ h _
    exact h.elim

/-- signs.End. -/
theorem end_all (zs : List Int) (hlen : zs.length ≤ 30) (a : Option Addr) (cap : Nat) : ∀ (m k : Nat), zs.length - k ≤ m → k ≤ 200 → ∀ w : World, Ints w.heap.size w a zs →
    Calls Try.prog 44 #[.slice a zs.length cap, .int .i64 (k : Int)] w fun e w' => e = .returned (.int .i64 (Tm.endAt zs k : Int)) ∧ Below w.heap.size w w' := by
  intro m
  induction m with
  | zero =>
    intro k hm hk w hI
    rw [Tm.endAt_out zs k (by omega)]
    exact end_out a zs.length cap k w (by omega) hk
  | succ m ih =>
    intro k hm hk w hI
    by_cases hlt : k < zs.length
    · exact end_step a cap k zs w hlen hlt hI (fun p W h1 h2 h3 h4 => ih p (by omega) h2 W (h3.mono h4))
    · rw [Tm.endAt_out zs k (by omega)]
      exact end_out a zs.length cap k w (by omega) hk

theorem end_any (zs : List Int) (hlen : zs.length ≤ 30) (a : Option Addr) (cap k : Nat) (hk : k ≤ 200) (w : World) (hI : Ints w.heap.size w a zs) :
    Calls Try.prog 44 #[.slice a zs.length cap, .int .i64 (k : Int)] w fun e w' => e = .returned (.int .i64 (Tm.endAt zs k : Int)) ∧ Below w.heap.size w w' :=
  end_all zs hlen a cap _ k (Nat.le_refl _) hk w hI

end Go.Proofs.Ytbelnlemjcoifaa

namespace Go.Proofs.Ytbelnlemjcoifaa
open Go.Proofs Go.RowKit Go.Shelf

theorem Tm.err_many {zs : List Int} (h : 30 < zs.length) : Tm.err zs = 2 := by simp [Tm.err, h]
theorem Tm.err_range {zs : List Int} (h : zs.length ≤ 30) {k : Nat} (hk : k < zs.length) (hs : Tm.known (zs[k]?.getD 0) = false) : Tm.err zs = 3 := by
  have : zs.all Tm.known = false := by
    rw [List.all_eq_false]
    exact ⟨zs[k], List.getElem_mem hk, by simpa [hk] using hs⟩
  simp only [Tm.err, this]
  rw [if_neg (by omega)]
  rfl
theorem Tm.err_ok {zs : List Int} (h : zs.length ≤ 30) (ha : zs.all Tm.known = true) (hr : Tm.run zs 1 = zs.length) : Tm.err zs = 0 := by
  simp only [Tm.err, ha, hr]
  rw [if_neg (by omega)]
  rfl
theorem Tm.err_form {zs : List Int} (h : zs.length ≤ 30) (ha : zs.all Tm.known = true) (hr : Tm.run zs 1 ≠ zs.length) : Tm.err zs = 1 := by
  simp only [Tm.err, ha]
  rw [if_neg (by omega), if_neg (by simp), if_neg hr]
theorem Tm.all_snoc {zs : List Int} {k : Nat} (hk : k < zs.length) (h : (zs.take k).all Tm.known = true) (hs : Tm.known (zs[k]?.getD 0) = true) : (zs.take (k + 1)).all Tm.known = true := by
  rw [List.take_succ_eq_append_getElem hk, List.all_append, h]
  simpa [hk] using hs
theorem Tm.endAt_zero (zs : List Int) : Tm.endAt zs 0 = Tm.run zs 1 := by simp [Tm.endAt]

theorem end_zero (zs : List Int) (hlen : zs.length ≤ 30) (a : Option Addr) (cap : Nat) (w : World) (hI : Ints w.heap.size w a zs) :
    Calls Try.prog 44 #[.slice a zs.length cap, .int .i64 0] w fun e w' => e = .returned (.int .i64 (Tm.run zs 1 : Int)) ∧ Below w.heap.size w w' := by
  have h := end_any zs hlen a cap 0 (by omega) w hI
  rw [Tm.endAt_zero] at h
  exact h

set_option maxHeartbeats 400000 in
theorem check_many (len : Nat) (a : Option Addr) (cap : Nat) (w : World) (hlen : 30 < len) :
    Calls Try.prog 19 #[.slice a len cap] w fun e w' => e = .returned (.int .i64 2) ∧ Below w.heap.size w w' := by
  have h1 : (30 : Int) < (len : Int) := by omega
  go_enter Try.func19, Try.ntmps19
  go_wp2
  go_ret
  exact ⟨rfl, Below.refl _ _⟩

set_option maxRecDepth 100000 in
set_option maxHeartbeats 1000000 in
theorem check_few (zs : List Int) (hlen : zs.length ≤ 30) (a : Option Addr) (cap : Nat) (w : World) (hI : Ints w.heap.size w a zs) :
    Calls Try.prog 19 #[.slice a zs.length cap] w fun e w' => e = .returned (.int .i64 (Tm.err zs)) ∧ Below w.heap.size w w' := by
  have h1 : (zs.length : Int) ≤ 30 := by omega
  go_enter Try.func19, Try.ntmps19
  go_wp2
  go_loop [10] (fun i => ∃ k : Nat, k ≤ zs.length ∧ i = .int .i64 (k : Int) ∧ (zs.take k).all Tm.known = true) (fun i => zs.length - (intOf i).toNat)
  case atStart => exact ⟨0, Nat.zero_le _, rfl, by simp⟩
  case round =>
    obtain ⟨k, hk, rfl, hall⟩ := hrel
    by_cases hlt : k < zs.length
    · have hlt' : (k : Int) < (zs.length : Int) := by omega
      obtain ⟨b, off, rfl, hb, hc⟩ := hI.at (by omega)
      have hck := hc k hlt
      have hsn := Tm.all_snoc hlt hall
      have her := Tm.err_range hlen hlt
      clear hc hI hall
      generalize zs[k]?.getD 0 = s at *
      cases hkn : Tm.known s with
      | true =>
        have hsn' := show Hid _ from hsn hkn
        clear hsn her
        go_wp2_with (go_at_call 50; refine (known_any _ _).mono ?_; rw [hkn]; rintro e w ⟨rfl, rfl⟩)
        go_round
        case rel => exact ⟨k + 1, by omega, by go_num, hsn'.out⟩
        case measure => simp [intOf]; omega
      | false =>
        have her' := show Hid _ from her hkn
        clear hsn her
        go_wp2_with (go_at_call 50; refine (known_any _ _).mono ?_; rw [hkn]; rintro e w ⟨rfl, rfl⟩)
        go_ret
        exact ⟨by rw [her'.out]; rfl, Below.refl _ _⟩
    · obtain rfl : k = zs.length := by omega
      rw [List.take_length] at hall
      by_cases hr : Tm.run zs 1 = zs.length
      · have he := show Hid _ from Tm.err_ok hlen hall hr
        have hne : ((Tm.run zs 1 : Int) != (zs.length : Int)) = false := by simp [hr]
        have hE := end_zero zs hlen a cap w hI
        clear hall hr hI
        generalize Tm.run zs 1 = q at *
        go_wp2_with (go_at_call 44; refine hE.mono ?_; clear hE; rintro e w1 ⟨rfl, hB⟩)
        go_ret
        exact ⟨by rw [he.out]; rfl, hB⟩
      · have he := show Hid _ from Tm.err_form hlen hall hr
        have hne : ((Tm.run zs 1 : Int) != (zs.length : Int)) = true := by simp; omega
        have hE := end_zero zs hlen a cap w hI
        clear hall hr hI
        generalize Tm.run zs 1 = q at *
        go_wp2_with (go_at_call 44; refine hE.mono ?_; clear hE; rintro e w1 ⟨rfl, hB⟩)
        go_ret
        exact ⟨by rw [he.out]; rfl, hB⟩

/-- term.Check. -/
theorem check_any (zs : List Int) (a : Option Addr) (cap : Nat) (w : World) (hI : Ints w.heap.size w a zs) :
    Calls Try.prog 19 #[.slice a zs.length cap] w fun e w' => e = .returned (.int .i64 (Tm.err zs)) ∧ Below w.heap.size w w' := by
  by_cases h : zs.length ≤ 30
  · exact check_few zs h a cap w hI
  · rw [Tm.err_many (by omega)]
    exact check_many _ a cap w (by omega)

end Go.Proofs.Ytbelnlemjcoifaa

namespace Go.Proofs.Ytbelnlemjcoifaa
open Go.Proofs Go.RowKit Go.Shelf

theorem Tm.known_lt {s : Int} (h : Tm.known s = true) : s < 6 := by simp [Tm.known] at h; omega
theorem Tm.known_ge {s : Int} (h : Tm.known s = true) : -8 ≤ s := by simp [Tm.known] at h; omega
theorem Tm.all_at {zs : List Int} (h : zs.all Tm.known = true) {k : Nat} (hk : k < zs.length) : Tm.known (zs[k]?.getD 0) = true := by
  rw [List.all_eq_true] at h
  simpa [hk] using h zs[k] (List.getElem_mem hk)
theorem Tm.run_step {zs : List Int} {k o : Nat} (hk : k < zs.length) : Tm.run (zs.drop k) (o + 1) = 1 + Tm.run (zs.drop (k + 1)) (o + Tm.room (zs[k]?.getD 0)) := by
  rw [List.drop_eq_getElem_cons hk, Tm.run_cons]
  simp [hk]

end Go.Proofs.Ytbelnlemjcoifaa

namespace Go.Proofs.Ytbelnlemjcoifaa
open Go.Proofs Go.RowKit Go.Shelf

/-- Are the lists the same? (a Bool that the walk does not take apart) -/
def sameB (xs ys : List Int) : Bool := decide (xs = ys)

theorem take_snoc {zs : List Int} {k : Nat} (h : k < zs.length) : zs.take (k + 1) = zs.take k ++ [zs[k]?.getD 0] := by
  rw [List.take_succ_eq_append_getElem h]; simp [h]
theorem same_step {xs ys : List Int} {k : Nat} (hx : k < xs.length) (hy : k < ys.length) (h : xs.take k = ys.take k) (he : xs[k]?.getD 0 = ys[k]?.getD 0) : xs.take (k + 1) = ys.take (k + 1) := by
  rw [take_snoc hx, take_snoc hy, h, he]
theorem same_not {xs ys : List Int} {k : Nat} (he : xs[k]?.getD 0 ≠ ys[k]?.getD 0) : sameB xs ys = false := by
  simp only [sameB, decide_eq_false_iff_not]
  rintro rfl
  exact he rfl
theorem same_len {xs ys : List Int} (h : xs.length ≠ ys.length) : sameB xs ys = false := by
  simp only [sameB, decide_eq_false_iff_not]
  rintro rfl
  exact h rfl
theorem same_yes {xs ys : List Int} (h : xs.take xs.length = ys.take xs.length) (hl : xs.length = ys.length) : sameB xs ys = true := by
  simp only [sameB, decide_eq_true_eq]
  rw [List.take_length, hl, List.take_length] at h
  exact h

set_option maxRecDepth 100000 in
set_option maxHeartbeats 1000000 in
theorem same_any (xs ys : List Int) (a b : Option Addr) (ca cb : Nat) (w : World) (hX : Ints w.heap.size w a xs) (hY : Ints w.heap.size w b ys) (hm : xs.length ≤ maxLen) :
    Calls Try.prog 21 #[.slice a xs.length ca, .slice b ys.length cb] w fun e w' => e = .returned (.bool (sameB xs ys)) ∧ Below w.heap.size w w' := by
  unfold maxLen at hm
  by_cases hl : xs.length = ys.length
  · have hne : ((xs.length : Int) != (ys.length : Int)) = false := by simp [hl]
    have Hl : Hid (xs.length = ys.length) := hl
    clear hl
    go_enter Try.func21, Try.ntmps21
    go_wp2
    go_loopw [5] (fun i wr => ∃ k : Nat, k ≤ xs.length ∧ i = .int .i64 (k : Int) ∧ Hid (xs.take k = ys.take k) ∧ Below w.heap.size w wr) (fun i _ => xs.length - (intOf i).toNat)
    case atStart => exact ⟨0, Nat.zero_le _, rfl, by simp [Hid], Below.refl _ _⟩
    case round =>
      obtain ⟨k, hk, rfl, hsame, hB⟩ := hrel
      by_cases hlt : k < xs.length
      · have hlt' : (k : Int) < (xs.length : Int) := by omega
        have hly : k < ys.length := by have := Hl.out; omega
        have hly' : (k : Int) < (ys.length : Int) := by omega
        obtain ⟨b1, off1, rfl, hb1, hc1⟩ := (hX.below hB).at (by omega)
        obtain ⟨b2, off2, rfl, hb2, hc2⟩ := (hY.below hB).at (by omega)
        have hx := hc1 k hlt
        have hy := hc2 k hly
        have hst := show Hid _ from @same_step xs ys k hlt hly hsame.out
        have hno := show Hid _ from @same_not xs ys k
        clear hc1 hc2 hX hY hly
        generalize xs[k]?.getD 0 = s at *
        generalize ys[k]?.getD 0 = u at *
        by_cases he : s = u
        · have hn : (s != u) = false := by simp [he]
          have He : Hid (s = u) := he
          clear he hno
          go_wp2
          go_quiet (fail)
          go_wp2
          go_roundw
          case rel => exact ⟨k + 1, by omega, by go_num, hst.out He.out, below_drewN hB _⟩
          case measure => simp [intOf]; omega
        · have hn : (s != u) = true := by simp [he]
          have hf := show Hid _ from hno.out he
          clear he hno hst
          go_wp2
          go_quiet (fail)
          go_wp2
          go_ret
          exact ⟨by rw [hf.out]; rfl, below_drewN hB _⟩
      · obtain rfl : k = xs.length := by omega
        have hy := show Hid _ from same_yes hsame.out Hl.out
        clear hX hY
        go_wp2
        go_ret
        exact ⟨by rw [hy.out]; rfl, hB⟩
  · have hne : ((xs.length : Int) != (ys.length : Int)) = true := by simp; omega
    rw [same_len hl]
    clear hl hX hY
    go_enter Try.func21, Try.ntmps21
    go_wp2
    go_ret
    exact ⟨rfl, Below.refl _ _⟩

end Go.Proofs.Ytbelnlemjcoifaa

namespace Go.Proofs.Ytbelnlemjcoifaa
open Go.Proofs Go.RowKit Go.Shelf

/-- Check's error, and the place's. -/
def Tm.placeErr (zs : List Int) (k : Int) : Int := if Tm.err zs = 0 then (if insideB k 0 ((zs.length : Int) - 1) = true then 0 else 3) else Tm.err zs
theorem Tm.err_len {zs : List Int} (h : Tm.err zs = 0) : zs.length ≤ 30 := by
  by_cases h30 : 30 < zs.length
  · rw [Tm.err_many h30] at h; omega
  · omega
theorem Tm.err_all {zs : List Int} (h : Tm.err zs = 0) : zs.all Tm.known = true := by
  have hl := Tm.err_len h
  unfold Tm.err at h
  rw [if_neg (by omega)] at h
  by_cases ha : zs.all Tm.known = false
  · rw [if_pos ha] at h; omega
  · simpa using ha
theorem Tm.err_run {zs : List Int} (h : Tm.err zs = 0) : Tm.run zs 1 = zs.length := by
  have hl := Tm.err_len h
  have ha := Tm.err_all h
  unfold Tm.err at h
  rw [if_neg (by omega), if_neg (by simp [ha])] at h
  by_cases hr : Tm.run zs 1 = zs.length
  · exact hr
  · rw [if_neg hr] at h; omega

/-- BLOCK X IS A NODE: its sign; the slice of its parts. -/
def Node (W : World) (X : Nat) (s : Int) (v : Value) : Prop := W.heap[X]? = some (.cells #[.int .i64 s, v] 99 (0, 0))
theorem Node.cell0 {W : World} {X : Nat} {s : Int} {v : Value} (h : Node W X s v) : W.cell? ⟨X, 0, none⟩ = some (.int .i64 s) := by simp [World.cell?, show W.heap[X]? = _ from h]
theorem Node.cell1 {W : World} {X : Nat} {s : Int} {v : Value} (h : Node W X s v) : W.cell? ⟨X, 1, none⟩ = some v := by simp [World.cell?, show W.heap[X]? = _ from h]
theorem Node.frozen {W : World} {X : Nat} {s : Int} {v : Value} (h : Node W X s v) : W.frozen? ⟨X, 1, none⟩ = false := by simp [World.frozen?, show W.heap[X]? = _ from h]
theorem Node.lt {W : World} {X : Nat} {s : Int} {v : Value} (h : Node W X s v) : X < W.heap.size := (Array.getElem?_eq_some_iff.1 h).1
theorem Node.kept {W W' : World} {row : Option Nat} {X : Nat} {s : Int} {v : Value} (h : Node W X s v) (hg : W.grownBy W' row) (hne : some X ≠ row) : Node W' X s v := (hg.block X h.lt hne).trans h
theorem Node.set {W : World} {X : Nat} {s : Int} {v : Value} (v' : Value) (h : Node W X s v) : Node (W.setCell ⟨X, 1, none⟩ v') X s v' := by
  obtain ⟨hlt, hk⟩ := Array.getElem?_eq_some_iff.1 h
  show (W.heap.modify X _)[X]? = _
  rw [Array.getElem?_eq_getElem (by rw [Array.size_modify]; exact hlt), Array.getElem_modify_self, hk]
  rfl
theorem grownBy_setCell1 (W : World) (b o : Nat) (v : Value) : W.grownBy (W.setCell ⟨b, o, none⟩ v) (some b) :=
  ⟨rfl, rfl, rfl, (KeepsWalks.setCell W _ v).size, fun k _ hk => Below.heap_setCell _ _ _ k (fun e => hk (by rw [e]))⟩

theorem Node.appended {W w2 : World} {X : Nat} {s : Int} {v v' : Value} {e : TypeId} {n m : Nat} {xs ys : List Value} {tmp : Obj}
    (hN : Node W X s v) (hrow : W.ownsRow (X + 1) e 1 v n xs) (hown : w2.ownsRow (X + 1) e 1 v' m ys) (hgrow : (W.alloc tmp).grownBy w2 v.ownBlock) :
    Node w2 X s v ∧ Node (w2.setCell ⟨X, 1, none⟩ v') X s v' ∧ (w2.setCell ⟨X, 1, none⟩ v').ownsRow (X + 1) e 1 v' m ys ∧ Below X W (w2.setCell ⟨X, 1, none⟩ v') := by
  have h1 : ∀ k, v.ownBlock = some k → X + 1 ≤ k := fun k h => (hrow.lt k h).1
  have h2 : ∀ k, v'.ownBlock = some k → X + 1 ≤ k := fun k h => (hown.lt k h).1
  have hN2 : Node w2 X s v := (hN.kept (World.grownBy_alloc W tmp none) (by simp)).kept hgrow (fun e => by have := h1 X e.symm; omega)
  refine ⟨hN2, hN2.set v', hown.kept (grownBy_setCell1 w2 X 1 v') (.inr fun e => by have := h2 X e; omega), ?_⟩
  have hX := hN.lt
  exact (((Below.refl X W).alloc (by omega) tmp).grown hgrow (by simp; omega) (fun k e => by have := h1 k e; omega)).setCell (p := ⟨X, 1, none⟩) (Nat.le_refl _) v'

theorem Tm.pos_mono (t : List Int) (k i j : Nat) (h : i ≤ j) : Tm.pos t k i ≤ Tm.pos t k j := by
  induction j with
  | zero => have : i = 0 := by omega
            subst this; omega
  | succ j ih =>
    by_cases e : i = j + 1
    · subst e; omega
    · have := ih (by omega); rw [Tm.pos_succ]; have := Tm.endAt_gt t (Tm.pos t k j); omega

/-- The slice at a, of zs, moved on by e: in Go's way its address stays where nothing is left of its capacity. -/
theorem Ints.drop {n : Nat} {W : World} {b off : Nat} {zs : List Int} (h : Ints n W (some ⟨b, off, none⟩) zs) (e : Nat) : Ints n W (some ⟨b, off + e, none⟩) (zs.drop e) := fun j hj => by
  rw [List.length_drop] at hj
  obtain ⟨b', off', he, hb, hc⟩ := h (e + j) (by omega)
  cases he
  refine ⟨b, off + e, rfl, hb, ?_⟩
  rw [show off + e + j = off + (e + j) from by omega, hc]
  simp
theorem Ints.nil (n : Nat) (W : World) (a : Option Addr) : Ints n W a [] := fun j hj => by simp at hj

end Go.Proofs.Ytbelnlemjcoifaa

namespace Go.Proofs.Ytbelnlemjcoifaa
open Go.Proofs Go.RowKit Go.Shelf

theorem Tm.run_mono (l : List Int) {n m : Nat} (h : n ≤ m) : Tm.run l n ≤ Tm.run l m := by
  obtain ⟨d, rfl⟩ : ∃ d, m = n + d := ⟨m - n, by omega⟩
  rw [Tm.run_add]; omega
theorem Tm.endAt_in_run : ∀ (l : List Int) (n k : Nat), k < Tm.run l n → Tm.endAt l k ≤ Tm.run l n := by
  intro l
  induction l with
  | nil => intro n k h; rw [Tm.run_nil] at *; rw [Tm.endAt_out _ _ (by simp)]; omega
  | cons s l ih =>
    intro n k h
    cases n with
    | zero => rw [Tm.run_zero] at h; omega
    | succ n =>
      rw [Tm.run_cons] at h ⊢
      cases k with
      | zero =>
        rw [Tm.endAt_zero, show (1 : Nat) = 0 + 1 from rfl, Tm.run_cons]
        have := Tm.run_mono l (n := 0 + Tm.room s) (m := n + Tm.room s) (by omega)
        omega
      | succ k =>
        have := ih (n + Tm.room s) k (by omega)
        unfold Tm.endAt at this ⊢
        rw [List.drop_succ_cons]
        omega
theorem Tm.end_in {zs : List Int} (he : Tm.err zs = 0) {k : Nat} (hk : k < zs.length) : Tm.endAt zs k ≤ zs.length := by
  have hr := Tm.err_run he
  have := Tm.endAt_in_run zs 1 k (by omega)
  omega
/-- The term at place k. -/
def Tm.part (zs : List Int) (k : Nat) : List Int := (zs.drop k).take (Tm.endAt zs k - k)
theorem Try.info3 : (Try.prog.info? 3).map (fun i => (i.zero, i.size, i.bytes)) = some (some (.int .i64 0), 1, 8) := by kernel_rfl

/-- v IS A SLICE IN NEW MEMORY (from block 'base' on) THAT HOLDS zs. -/
def New (base : Nat) (W : World) (v : Value) (zs : List Int) : Prop := W.ownsRow base 3 1 v zs.length (zs.map (Value.int .i64))
theorem New.ints {base : Nat} {W : World} {v : Value} {zs : List Int} (h : New base W v zs) : ∃ a cap, v = .slice a zs.length cap ∧ Ints W.heap.size W a zs ∧ zs.length ≤ cap ∧ cap ≤ maxLen := by
  rcases h.2 with ⟨rfl, hn⟩ | ⟨g, cap, cur, rfl, hb, hg, h1, h2, h3, h4⟩
  · exact ⟨none, 0, by rw [hn], fun j hj => by omega, by omega, by omega⟩
  · refine ⟨_, _, rfl, fun j hj => ⟨g, 0, rfl, (Array.getElem?_eq_some_iff.1 hg).1, ?_⟩, h1, h2⟩
    have h5 := World.ownsRow.cellAt (show W.ownsRow base 3 1 (.slice (some ⟨g, 0, none⟩) zs.length cap) zs.length (zs.map (Value.int .i64)) from h) j (by omega)
    rw [Nat.zero_add, h5]
    simp [hj]
theorem New.below {base : Nat} {W W' : World} {v : Value} {zs : List Int} (h : New base W v zs) (hB : Below W.heap.size W W') : New base W' v zs :=
  World.ownsRow.kept h (grown_of_below hB) (by cases h : v.ownBlock with | none => exact .inl rfl | some k => exact .inr (by simp))

theorem New.mono {base base' : Nat} {W : World} {v : Value} {zs : List Int} (h : New base W v zs) (hb : base' ≤ base) : New base' W v zs :=
  ⟨h.1, h.2.elim .inl (fun ⟨g, cap, cur, h1, h2, h3⟩ => .inr ⟨g, cap, cur, h1, Nat.le_trans hb h2, h3⟩)⟩
theorem New.nil (base : Nat) (W : World) : New base W (.slice none 0 0) [] := World.ownsRow_nil _ _ _ _
theorem New.lit (base : Nat) (W : World) (zs : List Int) (hb : base ≤ W.heap.size) (hm : zs.length ≤ maxLen) : New base (W.alloc (.cells (zs.map (Value.int .i64)).toArray 3)) (.slice (some ⟨W.heap.size, 0, none⟩) zs.length zs.length) zs := by
  have h := World.ownsRow_lit (base := base) (e := 3) (size := 1) W (zs.map (Value.int .i64)).toArray zs.length hb hm (by simp)
  simpa [New] using h
theorem Ints.news {n : Nat} {W : World} {ad : Addr} {zs : List Int} (h : Ints n W (some ad) zs) : ∀ j u, (zs.map (Value.int .i64))[j]? = some u → W.cell? (ad.add j) = some u := by
  intro j u hj
  have hlt : j < zs.length := by
    have := (List.getElem?_eq_some_iff.1 hj).1
    simpa using this
  obtain ⟨b, off, e, _, hc⟩ := h j hlt
  cases e
  rw [Go.WideShapes.add_plain, hc]
  simpa [hlt] using hj

/-- 'append(s, x...)' of ints, onto what the call itself made: whatever x is that can be read. -/
theorem wp_append_ints {ops : Array Oper} {rest : List Oper} {o : Oper} {a : Act} {Q : Exit → Act → World → Prop} (w : World) (hgd : o.guard = none) (s x : Operand)
    (ho : o.op = .call { callee := .builtin .append, args := #[s, x], argTypes := #[23, 23] }) (base : Nat) (v : Value) (xs : List Int) (hs : a.eval s = v) (hN : New base w v xs)
    (ao : Option Addr) (ys : List Int) (c : Nat) (hx : a.eval x = .slice ao ys.length c) (hn : ao = none → ys.length = 0 ∧ c = 0) (hI : Ints w.heap.size w ao ys) (hlen : xs.length + ys.length ≤ 1000000) (hbase : base ≤ w.heap.size)
    (h : ∀ v' w', New base w' v' (xs ++ ys) → Below base w w' → wpList Try.prog ops Q rest (a.put o.dst v') w') : wpList Try.prog ops Q (o :: rest) a w := by
  obtain ⟨i0, hi, hz0, hz1, hz2⟩ := info_parts Try.info3
  cases ao with
  | none =>
    obtain ⟨h0, rfl⟩ := hn rfl
    obtain rfl : ys = [] := List.eq_nil_of_length_eq_zero h0
    refine wpList_append_own_none hgd s x 23 ho base 3 i0 1 Try.underlying23 hi v xs.length (xs.map (Value.int .i64)) hs hN hx (h v w (by simpa using hN) (Below.refl _ _))
  | some ad =>
    refine wpList_append_own w hgd s x 23 ho base 3 i0 (.int .i64 0) 1 8 Try.underlying23 hi hz0 hz1 hz2 rfl (by decide) v xs.length (xs.map (Value.int .i64)) hs hN ad ys.length c (ys.map (Value.int .i64)) hx (by simp) hI.news
      (by intro u hu; simp at hu; obtain ⟨z, _, rfl⟩ := hu; rfl) (by unfold maxLen; omega) (by omega) hbase ?_
    intro v' w' hown hg _
    refine h v' w' (by simpa [New] using hown) ((Below.refl base w).grown hg hbase (fun k e => (World.ownsRow.lt hN k e).1))

/-- What End answers beside the error. -/
def Tm.endVal (zs : List Int) (k : Int) : Int := if Tm.placeErr zs k = 0 then (Tm.endAt zs k.toNat : Int) else 0
end Go.Proofs.Ytbelnlemjcoifaa

namespace Go.Proofs.Ytbelnlemjcoifaa
open Go.Proofs Go.RowKit Go.Shelf

def Tm.partVal (zs : List Int) (k : Int) : List Int := if Tm.placeErr zs k = 0 then Tm.part zs k.toNat else []

theorem Ints.sub {n : Nat} {W : World} {b off : Nat} {zs : List Int} (h : Ints n W (some ⟨b, off, none⟩) zs) (k m : Nat) : Ints n W (some ⟨b, off + k, none⟩) ((zs.drop k).take m) := fun j hj => by
  have hj' : j < m ∧ j < zs.length - k := by
    simp only [List.length_take, List.length_drop] at hj
    omega
  obtain ⟨b', off', he, hb, hc⟩ := (h.drop k) j (by rw [List.length_drop]; omega)
  cases he
  refine ⟨b, off + k, rfl, hb, ?_⟩
  rw [hc]
  simp [hj'.1]

end Go.Proofs.Ytbelnlemjcoifaa

namespace Go.Proofs.Ytbelnlemjcoifaa
open Go.Proofs Go.RowKit Go.Shelf

/-- The lengths' sum. -/
def lens (l : List (List Int)) : Nat := (l.map List.length).sum
end Go.Proofs.Ytbelnlemjcoifaa

namespace Go.Proofs.Ytbelnlemjcoifaa
open Go.Proofs Go.RowKit Go.Shelf

/-- The term at k becomes u. -/
def Tm.put (zs : List Int) (k : Nat) (us : List Int) : List Int := zs.take k ++ us ++ zs.drop (Tm.endAt zs k)
def Tm.putErr (zs : List Int) (k : Int) (us : List Int) : Int :=
  if Tm.err zs = 0 then (if Tm.err us = 0 then (if insideB k 0 ((zs.length : Int) - 1) = true then (if 30 < (Tm.put zs k.toNat us).length then 2 else 0) else 3) else Tm.err us) else Tm.err zs
def Tm.putVal (zs : List Int) (k : Int) (us : List Int) : List Int := if Tm.putErr zs k us = 0 then Tm.put zs k.toNat us else []
theorem Tm.err_pos {zs : List Int} (he : Tm.err zs = 0) : 0 < zs.length := by
  have h := Tm.err_run he
  have := Tm.run_ge zs 1
  omega

theorem Ints.some {n : Nat} {W : World} {a : Option Addr} {zs : List Int} (h : Ints n W a zs) (h0 : 0 < zs.length) : a ≠ none := by
  obtain ⟨b, off, rfl, _⟩ := h.at h0
  simp
theorem Ints.take {n : Nat} {W : World} {a : Option Addr} {zs : List Int} (h : Ints n W a zs) (k : Nat) : Ints n W a (zs.take k) := fun j hj => by
  rw [List.length_take] at hj
  obtain ⟨b, off, e, hb, hc⟩ := h j (by omega)
  refine ⟨b, off, e, hb, ?_⟩
  rw [hc]
  simp [show j < k from by omega]

theorem cell_at {W : World} {b : Nat} {cs : Array Value} {t : TypeId} {fr : Nat × Nat} (h : W.heap[b]? = some (.cells cs t fr)) (k : Nat) : W.cell? ⟨b, k, none⟩ = cs[k]? := by simp [World.cell?, h]

end Go.Proofs.Ytbelnlemjcoifaa

namespace Go.Proofs.Ytbelnlemjcoifaa
open Go.Proofs Go.RowKit Go.Shelf

end Go.Proofs.Ytbelnlemjcoifaa

namespace Go.Proofs.Ytbelnlemjcoifaa
open Go.Proofs Go.RowKit Go.Shelf

theorem ints_lit (W : World) (zs : List Int) (n : Nat) (hn : n = W.heap.size + 1) : Ints n (W.alloc (.cells (zs.map (Value.int .i64)).toArray 3)) (some ⟨W.heap.size, 0, none⟩) zs := by
  subst hn
  intro j hj
  refine ⟨W.heap.size, 0, rfl, by omega, ?_⟩
  rw [cell_at (World.alloc_heap_new W _)]
  simp [hj]

end Go.Proofs.Ytbelnlemjcoifaa

namespace Go.Proofs.Ytbelnlemjcoifaa
open Go.Proofs Go.RowKit Go.Shelf

theorem Tm.q1 : Tm.endVal [4, -1, 2, 0] 2 = 4 := by decide +kernel
theorem Tm.q2 : Tm.placeErr [4, -1, 2, 0] 2 = 0 := by decide +kernel
theorem Tm.q3 : Tm.partVal [4, -1, 2, 0] 2 = [2, 0] := by decide +kernel
theorem Tm.q5 : Tm.putVal [4, -1, 2, 0] 1 [3, 1] = [4, 3, 1, 2, 0] := by decide +kernel
theorem Tm.q6 : Tm.placeErr [4, -1, 2, 0] 4 = 3 := by decide +kernel
end Go.Proofs.Ytbelnlemjcoifaa

namespace Go.Proofs.Ytbelnlemjcoifaa
open Go.Proofs Go.RowKit Go.Shelf

theorem lt_of_cell {W : World} {a : Addr} {v : Value} (h : W.cell? a = some v) : a.block < W.heap.size := by
  obtain ⟨o, ho, _⟩ := not_walk_of_cell h
  exact (Array.getElem?_eq_some_iff.1 ho).1

theorem ints_of_row {w : World} {a : Option Addr} {len cap : Nat} {z : List Int}
    (h : (a = none ∧ len = 0 ∧ cap = 0 ∧ z = []) ∨ ∃ x, a = some x ∧ len ≤ cap ∧ cap ≤ maxLen ∧ z.length = cap ∧ (∀ i, i < z.length → w.cell? (x.add i) = some (.int .i64 (z.getD i 0))) ∧ ∀ n ∈ z, (Lit.int .i64 n).wf = true) :
    ∃ zs : List Int, zs.length = len ∧ Ints w.heap.size w a zs ∧ len ≤ cap ∧ cap ≤ maxLen ∧ (a = none → cap = 0) := by
  rcases h with ⟨rfl, rfl, rfl, rfl⟩ | ⟨x, rfl, h1, h2, h3, h4, _⟩
  · exact ⟨[], rfl, Ints.nil _ _ _, Nat.le_refl _, Nat.zero_le _, fun _ => rfl⟩
  · refine ⟨z.take len, by rw [List.length_take]; omega, fun j hj => ?_, h1, h2, fun h => by cases h⟩
    rw [List.length_take] at hj
    have hc := h4 j (by omega)
    have hsp := World.cell?_spot (h4 0 (by omega))
    obtain ⟨b, off, spot⟩ := x
    have hspot : spot = none := by simpa [Addr.add] using hsp
    subst hspot
    rw [Go.WideShapes.add_plain] at hc
    refine ⟨b, off, rfl, by simpa using lt_of_cell hc, ?_⟩
    rw [hc, List.getD_eq_getElem?_getD]
    simp [show j < len from by omega]

end Go.Proofs.Ytbelnlemjcoifaa

namespace Go.Proofs.Ytbelnlemjcoifaa
open Go.Proofs Go.RowKit Go.Shelf

/-- THE SLICE OF SLICES AT a HOLDS THE LISTS ss, all below block n. -/
def Subs (n : Nat) (W : World) (a : Option Addr) (ss : List (List Int)) : Prop :=
  ∀ j, j < ss.length → ∃ b off aj cj, a = some ⟨b, off, none⟩ ∧ b < n ∧ W.cell? ⟨b, off + j, none⟩ = some (.slice aj (ss[j]?.getD []).length cj) ∧ Ints n W aj (ss[j]?.getD []) ∧ (ss[j]?.getD []).length ≤ cj ∧ cj ≤ maxLen ∧ (aj = none → cj = 0)
theorem Subs.below {n : Nat} {A B : World} (h : Below n A B) {a : Option Addr} {ss : List (List Int)} (hs : Subs n A a ss) : Subs n B a ss := fun j hj => by
  obtain ⟨b, off, aj, cj, e, hb, hc, hI, h1, h2, h3⟩ := hs j hj
  exact ⟨b, off, aj, cj, e, hb, (h.cell (p := ⟨b, off + j, none⟩) hb).trans hc, hI.below h, h1, h2, h3⟩
theorem Subs.mono {n m : Nat} (h : n ≤ m) {W : World} {a : Option Addr} {ss : List (List Int)} (hs : Subs n W a ss) : Subs m W a ss := fun j hj => by
  obtain ⟨b, off, aj, cj, e, hb, hc, hI, h1, h2, h3⟩ := hs j hj
  exact ⟨b, off, aj, cj, e, by omega, hc, hI.mono h, h1, h2, h3⟩
theorem Subs.at {n : Nat} {W : World} {a : Option Addr} {ss : List (List Int)} (hs : Subs n W a ss) (h : 0 < ss.length) :
    ∃ b off, a = some ⟨b, off, none⟩ ∧ b < n ∧ ∀ j, j < ss.length → ∃ aj cj, W.cell? ⟨b, off + j, none⟩ = some (.slice aj (ss[j]?.getD []).length cj) ∧ Ints n W aj (ss[j]?.getD []) ∧ (ss[j]?.getD []).length ≤ cj ∧ cj ≤ maxLen ∧ (aj = none → cj = 0) := by
  obtain ⟨b, off, _, _, rfl, hb, _⟩ := hs 0 h
  refine ⟨b, off, rfl, hb, fun j hj => ?_⟩
  obtain ⟨b', off', aj, cj, e, _, hc, hr⟩ := hs j hj
  cases e
  exact ⟨aj, cj, hc, hr⟩
theorem Subs.nil (n : Nat) (W : World) (a : Option Addr) : Subs n W a [] := fun j hj => by simp at hj

/-- The first error of a list of terms. -/
def Tm.firstErr : List (List Int) → Int
  | [] => 0
  | t :: l => if Tm.err t = 0 then Tm.firstErr l else Tm.err t
def Tm.subErr (ss : List (List Int)) : Int := if ss.length = 8 then Tm.firstErr ss else 1
theorem Tm.firstErr_step {ss : List (List Int)} {k : Nat} (hk : k < ss.length) (he : Tm.err (ss[k]?.getD []) = 0) : Tm.firstErr (ss.drop k) = Tm.firstErr (ss.drop (k + 1)) := by
  rw [List.drop_eq_getElem_cons hk, Tm.firstErr]
  simp only [hk, List.getElem?_eq_getElem, Option.getD_some] at he
  rw [if_pos he]
theorem Tm.firstErr_stop {ss : List (List Int)} {k : Nat} (hk : k < ss.length) (he : Tm.err (ss[k]?.getD []) ≠ 0) : Tm.firstErr (ss.drop k) = Tm.err (ss[k]?.getD []) := by
  rw [List.drop_eq_getElem_cons hk, Tm.firstErr]
  simp only [hk, List.getElem?_eq_getElem, Option.getD_some] at he ⊢
  rw [if_neg he]
theorem Tm.firstErr_all {ss : List (List Int)} (h : Tm.firstErr ss = 0) : ∀ k, k < ss.length → Tm.err (ss[k]?.getD []) = 0 := by
  induction ss with
  | nil => intro k hk; simp at hk
  | cons t l ih =>
    intro k hk
    unfold Tm.firstErr at h
    by_cases he : Tm.err t = 0
    · rw [if_pos he] at h
      cases k with
      | zero => simpa using he
      | succ k => simpa using ih h k (by simpa using hk)
    · rw [if_neg he] at h; exact absurd h he

set_option maxHeartbeats 400000 in
theorem subCheck_len (len : Nat) (a : Option Addr) (cap : Nat) (w : World) (hl : len ≠ 8) : Calls Try.prog 28 #[.slice a len cap] w fun e w' => e = .returned (.int .i64 1) ∧ Below w.heap.size w w' := by
  have h1 : ((len : Int) != 8) = true := by simp; omega
  go_enter Try.func28, Try.ntmps28
  go_wp2
  go_ret
  exact ⟨rfl, Below.refl _ _⟩

set_option maxRecDepth 100000 in
set_option maxHeartbeats 400000 in
theorem subCheck_eight (ss : List (List Int)) (hl : ss.length = 8) (a : Option Addr) (cap : Nat) (w : World) (hS : Subs w.heap.size w a ss) :
    Calls Try.prog 28 #[.slice a 8 cap] w fun e w' => e = .returned (.int .i64 (Tm.firstErr ss)) ∧ Below w.heap.size w w' := by
  obtain ⟨b, off, rfl, hb, hc⟩ := hS.at (by omega)
  have Hc := hid hc
  have Hl := hid hl
  clear hc hS hl
  go_enter Try.func28, Try.ntmps28
  go_wp2
  go_loopw [11] (fun i wr => ∃ k : Nat, k ≤ 8 ∧ i = .int .i64 (k : Int) ∧ Hid (Tm.firstErr ss = Tm.firstErr (ss.drop k)) ∧ Below w.heap.size w wr) (fun i _ => 8 - (intOf i).toNat)
  case atStart => exact ⟨0, Nat.zero_le _, rfl, rfl, Below.refl _ _⟩
  case round =>
    obtain ⟨k, hk, rfl, hf, hB⟩ := hrel
    by_cases hlt : k < 8
    · have hlt' : (k : Int) < 8 := by omega
      obtain ⟨aj, cj, hcj, hIj, _⟩ := Hc.out k (by rw [Hl.out]; exact hlt)
      have hcj' := (hB.cell (p := ⟨b, off + k, none⟩) hb).trans hcj
      have hC := check_any (ss[k]?.getD []) aj cj wr ((hIj.below hB).mono hB.size)
      have hst := hid (Tm.firstErr_step (ss := ss) (k := k) (by rw [Hl.out]; exact hlt))
      have hsp := hid (Tm.firstErr_stop (ss := ss) (k := k) (by rw [Hl.out]; exact hlt))
      clear hcj hIj
      generalize ss[k]?.getD [] = t at *
      by_cases he : Tm.err t = 0
      · have hst' := hid (hf.out.trans (hst.out he))
        rw [he] at hC
        clear hst hsp he hf
        go_wp2_with (go_at_call 19; refine hC.mono ?_; clear hC; rintro e w1 ⟨rfl, hB1⟩)
        go_roundw
        case rel => exact ⟨k + 1, by omega, by go_num, hst'.out, hB.trans (hB1.mono hB.size)⟩
        case measure => simp [intOf]; omega
      · have hsp' := hid (hf.out.trans (hsp.out he))
        have hne : (Tm.err t != 0) = true := by simp [he]
        clear hst hsp he hf
        generalize Tm.err t = q at *
        go_wp2_with (go_at_call 19; refine hC.mono ?_; clear hC; rintro e w1 ⟨rfl, hB1⟩)
        go_ret
        exact ⟨by rw [hsp'.out]; rfl, hB.trans (hB1.mono hB.size)⟩
    · obtain rfl : k = 8 := by omega
      have h0 : Hid (Tm.firstErr ss = 0) := by
        show _ = _
        rw [hf.out, ← Hl.out, List.drop_length]
        rfl
      clear hf
      go_wp2
      go_ret
      exact ⟨by rw [h0.out]; rfl, hB⟩

/-- sub.Check. -/
theorem subCheck_any (ss : List (List Int)) (a : Option Addr) (cap : Nat) (w : World) (hS : Subs w.heap.size w a ss) :
    Calls Try.prog 28 #[.slice a ss.length cap] w fun e w' => e = .returned (.int .i64 (Tm.subErr ss)) ∧ Below w.heap.size w w' := by
  unfold Tm.subErr
  by_cases hl : ss.length = 8
  · rw [if_pos hl, hl]; exact subCheck_eight ss hl a cap w hS
  · rw [if_neg hl]; exact subCheck_len _ a cap w hl

end Go.Proofs.Ytbelnlemjcoifaa

namespace Go.Proofs.Ytbelnlemjcoifaa
open Go.Proofs Go.RowKit Go.Shelf

/-- What a sign becomes. -/
def Tm.piece (ss : List (List Int)) (s : Int) : List Int := if s < 0 then ss[(-1 - s).toNat]?.getD [] else [s]
def Tm.applied (ss : List (List Int)) (t : List Int) : List Int := t.flatMap (Tm.piece ss)
theorem Tm.applied_snoc (ss : List (List Int)) {t : List Int} {k : Nat} (h : k < t.length) : Tm.applied ss (t.take (k + 1)) = Tm.applied ss (t.take k) ++ Tm.piece ss (t[k]?.getD 0) := by
  rw [take_snoc h]
  simp [Tm.applied, List.flatMap_append]
/-- Each list is short. -/
def Short (ss : List (List Int)) : Prop := ∀ j, j < ss.length → (ss[j]?.getD []).length ≤ 30
theorem Short.of_ok {ss : List (List Int)} (h : Tm.firstErr ss = 0) : Short ss := fun j hj => Tm.err_len (Tm.firstErr_all h j hj)
theorem Short.any {ss : List (List Int)} (h : Short ss) (j : Nat) : (ss[j]?.getD []).length ≤ 30 := by
  by_cases hj : j < ss.length
  · exact h j hj
  · rw [List.getElem?_eq_none (by omega)]; simp
theorem Tm.piece_le {ss : List (List Int)} (h : Short ss) (s : Int) : (Tm.piece ss s).length ≤ 30 := by
  unfold Tm.piece
  by_cases hs : s < 0
  · rw [if_pos hs]; exact h.any _
  · rw [if_neg hs]; simp
theorem Tm.applied_le {ss : List (List Int)} (h : Short ss) (t : List Int) : (Tm.applied ss t).length ≤ 30 * t.length := by
  induction t with
  | nil => simp [Tm.applied]
  | cons s l ih =>
    have := Tm.piece_le h s
    simp only [Tm.applied, List.flatMap_cons, List.length_append, List.length_cons] at ih ⊢
    omega

set_option maxRecDepth 100000 in
set_option maxHeartbeats 400000 in
/-- The function literal of become. -/
theorem become1_any (ss : List (List Int)) (hl : ss.length = 8) (a : Option Addr) (cap Bs : Nat) (s : Int) (h8 : -8 ≤ s) (w : World) (hB : w.cell? ⟨Bs, 0, none⟩ = some (.slice a 8 cap)) (hS : Subs w.heap.size w a ss) :
    Calls Try.prog 72 #[.int .i64 s, .pointer (some ⟨Bs, 0, none⟩)] w fun e w' => ∃ b c, e = .returned (.slice b (Tm.piece ss s).length c) ∧ Ints w'.heap.size w' b (Tm.piece ss s) ∧ (b = none → (Tm.piece ss s).length = 0 ∧ c = 0) ∧ Below w.heap.size w w' := by
  by_cases hs : s < 0
  · obtain ⟨j, rfl⟩ : ∃ j : Nat, s = -1 - (j : Int) := ⟨(-1 - s).toNat, by omega⟩
    obtain ⟨b, off, rfl, hb, hc⟩ := hS.at (by omega)
    obtain ⟨aj, cj, hcj, hIj, h1, h2, h3⟩ := hc j (by omega)
    have hpc : Tm.piece ss (-1 - (j : Int)) = ss[j]?.getD [] := by
      unfold Tm.piece
      rw [if_pos hs]
      congr 2
      omega
    rw [hpc]
    have hj8 : (j : Int) < 8 := by omega
    have H3 : Hid (aj = none → (ss[j]?.getD []).length = 0 ∧ cj = 0) := fun e => ⟨by have := h3 e; omega, h3 e⟩
    clear hpc hc hS h3 h1 h2
    generalize ss[j]?.getD [] = t at *
    have hsub : (-1 : Int) - (-1 - (j : Int)) = (j : Int) := by omega
    go_enter Try.func72, Try.ntmps72
    go_wp2
    go_ret
    exact ⟨_, _, rfl, hIj, H3.out, Below.refl _ _⟩
  · have hpc : Tm.piece ss s = [s] := by simp [Tm.piece, hs]
    have h := ints_lit w [s] _ rfl
    simp only [List.map_cons, List.map_nil] at h
    have Hp := hid hpc
    clear hpc hS
    generalize Tm.piece ss s = pc at *
    go_enter Try.func72, Try.ntmps72
    go_wp2
    go_ret
    exact ⟨some ⟨w.heap.size, 0, none⟩, 1, by rw [Hp.out]; rfl, by rw [Hp.out]; simpa using h, (fun e => by cases e), (Below.refl _ _).alloc (Nat.le_refl _) _⟩

set_option maxRecDepth 100000 in
set_option maxHeartbeats 400000 in
/-- signs.Change by it. -/
theorem change_become (ss : List (List Int)) (hl : ss.length = 8) (hsh : Short ss) (a : Option Addr) (cap Bs : Nat) (t : List Int) (at' : Option Addr) (ct : Nat) (ht : t.length ≤ 30) (h8 : ∀ k, k < t.length → -8 ≤ t[k]?.getD 0) (w : World)
    (hBs : Bs < w.heap.size) (hB : w.cell? ⟨Bs, 0, none⟩ = some (.slice a 8 cap)) (hS : Subs w.heap.size w a ss) (hT : Ints w.heap.size w at' t) :
    Calls Try.prog 71 #[.slice at' t.length ct, .func (.func 72) #[] #[.pointer (some ⟨Bs, 0, none⟩)]] w fun e w' => ∃ v, e = .returned v ∧ New w.heap.size w' v (Tm.applied ss t) ∧ Below w.heap.size w w' := by
  have hlen : (t.length : Int) ≤ 30 := by omega
  have HB := hid hB
  have HS := hid hS
  have HT := hid hT
  have H8 := hid h8
  have Hl := hid hl
  clear hB hS hT h8 hl
  go_enter Try.func71, Try.ntmps71
  go_wp2
  go_loopw [5, 10] (fun v i wr => ∃ k : Nat, k ≤ t.length ∧ i = .int .i64 (k : Int) ∧ New w.heap.size wr v (Tm.applied ss (t.take k)) ∧ Below w.heap.size w wr) (fun _ i _ => t.length - (intOf i).toNat)
  case atStart => exact ⟨0, Nat.zero_le _, rfl, New.nil _ _, Below.refl _ _⟩
  case round =>
    obtain ⟨k, hk, rfl, hN, hBr⟩ := hrel
    by_cases hlt : k < t.length
    · have hlt' : (k : Int) < (t.length : Int) := by omega
      obtain ⟨b, off, rfl, hb, hc⟩ := HT.out.at (by omega)
      have hck := (hBr.cell (p := ⟨b, off + k, none⟩) hb).trans (hc k hlt)
      have hf := become1_any ss Hl.out a cap Bs (t[k]?.getD 0) (H8.out k hlt) wr ((hBr.cell (p := ⟨Bs, 0, none⟩) hBs).trans HB.out) ((HS.out.below hBr).mono hBr.size)
      have hsn := hid (Tm.applied_snoc ss hlt)
      have hle := Tm.applied_le hsh (t.take k)
      rw [List.length_take] at hle
      have hpl := Tm.piece_le hsh (t[k]?.getD 0)
      clear hc
      generalize Tm.piece ss (t[k]?.getD 0) = pc at *
      generalize t[k]?.getD 0 = s at *
      generalize Tm.applied ss (t.take k) = xs at *
      obtain ⟨a0, c0, rfl, _⟩ := New.ints hN
      go_wp2_with (first
        | (go_at_call 72; refine hf.mono ?_; clear hf; rintro e w1 ⟨b1, c1, rfl, hI1, hn1, hB1⟩; have hN1 := New.below hN hB1; have hB2 := hBr.trans (hB1.mono hBr.size))
        | (at_builtin; go_loud (refine wp_append_ints _ rfl _ _ rfl w.heap.size _ xs rfl hN1 b1 pc c1 rfl hn1 hI1 (by omega) hB2.size ?_); intro v' w2 hN2 hB3; obtain ⟨a2, c2, rfl, _⟩ := New.ints hN2))
      go_roundw
      case rel => exact ⟨k + 1, by omega, by go_num, by rw [hsn.out]; simpa using hN2, hB2.trans hB3⟩
      case measure => simp [intOf]; omega
    · obtain rfl : k = t.length := by omega
      rw [List.take_length] at hN
      obtain ⟨a2, c2, rfl, _⟩ := New.ints hN
      go_wp2
      go_ret
      exact ⟨_, rfl, hN, hBr⟩

/-- What Apply answers beside the error, of right ones. -/
theorem become_any (ss : List (List Int)) (hl : ss.length = 8) (hsh : Short ss) (a : Option Addr) (cap : Nat) (t : List Int) (at' : Option Addr) (ct : Nat) (ht : t.length ≤ 30) (h8 : ∀ k, k < t.length → -8 ≤ t[k]?.getD 0) (w : World)
    (hS : Subs w.heap.size w a ss) (hT : Ints w.heap.size w at' t) :
    Calls Try.prog 55 #[.slice a 8 cap, .slice at' t.length ct] w fun e w' => ∃ v, e = .returned (.tuple #[v, .int .i64 (if 30 < (Tm.applied ss t).length then 2 else 0)]) ∧ New w.heap.size w' v (if 30 < (Tm.applied ss t).length then [] else Tm.applied ss t) ∧ Below w.heap.size w w' := by
  have hmf : ∀ (fn : Fn) (first cap : Array Value) (w : World), (Instr.makeFunc fn first cap).run Try.prog w = .ok (.func fn first cap) w := fun _ _ _ _ => rfl
  have bS := Boxed.new w 36 (.slice a 8 cap)
  have hB : Below w.heap.size w (w.alloc (.cells #[.slice a 8 cap] 36)) := (Below.refl _ _).alloc (Nat.le_refl _) _
  have hC := change_become ss hl hsh a cap w.heap.size t at' ct ht h8 (w.alloc (.cells #[.slice a 8 cap] 36)) (by simp) bS.cell ((hS.below hB).mono hB.size) ((hT.below hB).mono hB.size)
  have hle := Tm.applied_le hsh t
  have Hle := hid hle
  clear hle hS hT h8 bS
  generalize Tm.applied ss t = xs at *
  have hx : (xs.length : Int) ≤ 1000 := by have := Hle.out; omega
  by_cases hbig : 30 < xs.length
  · have hbig' : (30 : Int) < (xs.length : Int) := by omega
    rw [if_pos hbig, if_pos hbig]
    clear hbig
    go_enter Try.func55, Try.ntmps55
    go_wp2_with (go_at_call 71; refine hC.mono ?_; clear hC; rintro e w1 ⟨v, rfl, hN, hB1⟩; obtain ⟨a1, c1, rfl, _⟩ := New.ints hN)
    go_ret2
    exact ⟨_, rfl, New.nil _ _, hB.trans (hB1.mono hB.size)⟩
  · have hbig' : (xs.length : Int) ≤ 30 := by omega
    rw [if_neg hbig, if_neg hbig]
    clear hbig
    go_enter Try.func55, Try.ntmps55
    go_wp2_with (go_at_call 71; refine hC.mono ?_; clear hC; rintro e w1 ⟨v, rfl, hN, hB1⟩; obtain ⟨a1, c1, rfl, _⟩ := New.ints hN)
    go_ret2
    exact ⟨_, rfl, hN.mono hB.size, hB.trans (hB1.mono hB.size)⟩

def Tm.applyErr (ss : List (List Int)) (t : List Int) : Int := if Tm.subErr ss = 0 then (if Tm.err t = 0 then (if 30 < (Tm.applied ss t).length then 2 else 0) else Tm.err t) else Tm.subErr ss
def Tm.applyVal (ss : List (List Int)) (t : List Int) : List Int := if Tm.applyErr ss t = 0 then Tm.applied ss t else []
theorem Tm.subErr_ok {ss : List (List Int)} (h : Tm.subErr ss = 0) : ss.length = 8 ∧ Tm.firstErr ss = 0 := by
  unfold Tm.subErr at h
  by_cases hl : ss.length = 8
  · rw [if_pos hl] at h; exact ⟨hl, h⟩
  · rw [if_neg hl] at h; omega
theorem Tm.known8 {t : List Int} (h : Tm.err t = 0) : ∀ k, k < t.length → -8 ≤ t[k]?.getD 0 := fun _ hk => Tm.known_ge (Tm.all_at (Tm.err_all h) hk)
theorem Tm.apply_ok {ss : List (List Int)} {t : List Int} (hs : Tm.subErr ss = 0) (ht : Tm.err t = 0) :
    Tm.applyErr ss t = (if 30 < (Tm.applied ss t).length then 2 else 0) ∧ Tm.applyVal ss t = (if 30 < (Tm.applied ss t).length then [] else Tm.applied ss t) := by
  have h1 : Tm.applyErr ss t = (if 30 < (Tm.applied ss t).length then 2 else 0) := by unfold Tm.applyErr; rw [if_pos hs, if_pos ht]
  refine ⟨h1, ?_⟩
  unfold Tm.applyVal
  rw [h1]
  by_cases h : 30 < (Tm.applied ss t).length <;> simp [h]
theorem Tm.apply_t {ss : List (List Int)} {t : List Int} (hs : Tm.subErr ss = 0) (ht : Tm.err t ≠ 0) : Tm.applyErr ss t = Tm.err t ∧ Tm.applyVal ss t = [] := by
  have h1 : Tm.applyErr ss t = Tm.err t := by unfold Tm.applyErr; rw [if_pos hs, if_neg ht]
  exact ⟨h1, by unfold Tm.applyVal; rw [h1, if_neg ht]⟩
theorem Tm.apply_s {ss : List (List Int)} {t : List Int} (hs : Tm.subErr ss ≠ 0) : Tm.applyErr ss t = Tm.subErr ss ∧ Tm.applyVal ss t = [] := by
  have h1 : Tm.applyErr ss t = Tm.subErr ss := by unfold Tm.applyErr; rw [if_neg hs]
  exact ⟨h1, by unfold Tm.applyVal; rw [h1, if_neg hs]⟩

set_option maxRecDepth 100000 in
set_option maxHeartbeats 400000 in
/-- sub.Apply. -/
theorem apply_any (ss : List (List Int)) (t : List Int) (a at' : Option Addr) (cap ct : Nat) (w : World) (hS : Subs w.heap.size w a ss) (hT : Ints w.heap.size w at' t) :
    Calls Try.prog 25 #[.slice a ss.length cap, .slice at' t.length ct] w fun e w' => ∃ v, e = .returned (.tuple #[v, .int .i64 (Tm.applyErr ss t)]) ∧ New w.heap.size w' v (Tm.applyVal ss t) ∧ Below w.heap.size w w' := by
  have hC1 := subCheck_any ss a cap w hS
  by_cases hs : Tm.subErr ss = 0
  · have hC2 : ∀ W, Below w.heap.size w W → Calls Try.prog 19 #[.slice at' t.length ct] W fun e w' => e = .returned (.int .i64 (Tm.err t)) ∧ Below W.heap.size W w' := fun W hW => check_any t at' ct W ((hT.below hW).mono hW.size)
    rw [hs] at hC1
    by_cases ht : Tm.err t = 0
    · obtain ⟨e1, e2⟩ := Tm.apply_ok hs ht
      obtain ⟨hl, hf⟩ := Tm.subErr_ok hs
      have hb : ∀ W, Below w.heap.size w W → Calls Try.prog 55 #[.slice a 8 cap, .slice at' t.length ct] W fun e w' => ∃ v, e = .returned (.tuple #[v, .int .i64 (Tm.applyErr ss t)]) ∧ New W.heap.size w' v (Tm.applyVal ss t) ∧ Below W.heap.size W w' := fun W hW => by
        rw [e1, e2]
        exact become_any ss hl (Short.of_ok hf) a cap t at' ct (Tm.err_len ht) (Tm.known8 ht) W ((hS.below hW).mono hW.size) ((hT.below hW).mono hW.size)
      rw [hl] at hC1 ⊢
      rw [ht] at hC2
      have HC2 := hid hC2
      have Hb := hid hb
      clear hC2 hb hS hT hl hf e1 e2 hs ht
      generalize Tm.applyErr ss t = q at *
      generalize Tm.applyVal ss t = xs at *
      go_enter Try.func25, Try.ntmps25
      go_wp2_with (first
        | (go_at_call 28; refine hC1.mono ?_; clear hC1; rintro e w1 ⟨rfl, hB1⟩)
        | (go_at_call 19; refine (HC2.out _ hB1).mono ?_; rintro e w2 ⟨rfl, hB2⟩; have hB3 := hB1.trans (hB2.mono hB1.size))
        | (go_at_call 55; refine (Hb.out _ hB3).mono ?_; rintro e w3 ⟨v, rfl, hN, hB4⟩; obtain ⟨a1, c1, rfl, _⟩ := New.ints hN))
      go_ret2
      exact ⟨_, rfl, hN.mono hB3.size, hB3.trans (hB4.mono hB3.size)⟩
    · obtain ⟨e1, e2⟩ := Tm.apply_t hs ht
      rw [e1, e2]
      have HC2 := hid hC2
      have hne : (Tm.err t != 0) = true := by simp [ht]
      clear hC2 hS hT e1 e2 hs ht
      generalize Tm.err t = q at *
      go_enter Try.func25, Try.ntmps25
      go_wp2_with (first
        | (go_at_call 28; refine hC1.mono ?_; clear hC1; rintro e w1 ⟨rfl, hB1⟩)
        | (go_at_call 19; refine (HC2.out _ hB1).mono ?_; rintro e w2 ⟨rfl, hB2⟩; have hB3 := hB1.trans (hB2.mono hB1.size)))
      go_ret2
      exact ⟨_, rfl, New.nil _ _, hB3⟩
  · obtain ⟨e1, e2⟩ := Tm.apply_s (t := t) hs
    rw [e1, e2]
    have hne : (Tm.subErr ss != 0) = true := by simp [hs]
    clear hS hT e1 e2 hs
    generalize Tm.subErr ss = q at *
    go_enter Try.func25, Try.ntmps25
    go_wp2_with (go_at_call 28; refine hC1.mono ?_; clear hC1; rintro e w1 ⟨rfl, hB1⟩)
    go_ret2
    exact ⟨_, rfl, New.nil _ _, hB1⟩

end Go.Proofs.Ytbelnlemjcoifaa

namespace Go.Proofs.Ytbelnlemjcoifaa
open Go.Proofs Go.RowKit Go.Shelf

end Go.Proofs.Ytbelnlemjcoifaa
