/-
  signs.Room, signs.Parts, signs.End within a fence that holds all functions that there are; lists of up to 5000 signs. · signs.End, of lists of up to 5000 signs, within the fence. · signs.End, of lists of up to 5000 signs, at every place. · A REGION THAT DRAWS ITS ORDER, WITHIN A ROUND: it runs there as it runs outside of it, if nothing is deferred in it: so the laws that take an operation first (which want that no round is at hand) serve there, too. · The library's contracts that the walks lean on, laid over this translation. · text.shown: the parts of a term are shown, and joined. · text.shown. · The reader's parts: the next byte, a mark, the sign of a letter.
-/
import Derived.Test.YtcgljcbpcchcjaaBtx4
import Derived.OwnWalkIn
import Derived.OrdersIn
import Derived.Shelf.RegionOpen
import Derived.RangeFuncCalls
import Derived.Shelf.Strings.Builder1
import Derived.Shelf.Strings.Builder2
import Derived.Shelf.Strings.OnBuilder
import Derived.Shelf.Small.Strs
import Derived.Shelf.Strings.BuilderF
import Derived.Shelf.Strings.BuilderK
import Derived.Shelf.Strings.Builder2Cap
import Derived.Shelf.Strings.Search1
import Derived.Shelf.Strings.BuilderCap
import Derived.Test.YtcgljcbpcchcjaaProg
import Derived.RangeFuncBox
import Derived.Deep.RegionHeld3
import Derived.Test.YtcgljcbpcchcjaaBtx1
import Derived.OwnWalk
namespace Go.Proofs.Ytcgljcbpcchcjaa
open Go.Proofs Go.RowKit Go.Shelf

attribute [local go_sem] Oper.semAt_some

/-- The fence of all functions that there are. -/
def Fx : Fence := { fn := fun f => ∃ fn, Try.prog.funcs[f]? = some fn, depth := none, alive := false }
/-- A fence that bars nothing. -/
def Pl (F : Fence) : Prop := F.round = none ∧ (∀ f fn, Try.prog.funcs[f]? = some fn → F.fn f) ∧ F.depth = none
theorem wide_pl : Pl Fence.wide := ⟨rfl, fun _ _ _ => trivial, rfl⟩
theorem fx_facts {F : Fence} (hF : Pl F) : F.round = none ∧ (∀ f fn, Try.prog.funcs[f]? = some fn → F.fn f) ∧ ∀ k : Nat, (F.depth.isSome = true → 1 ≤ k) := by
  obtain ⟨h1, h2, h3⟩ := hF
  exact ⟨h1, h2, fun k h => by rw [h3] at h; simp at h⟩
set_option maxHeartbeats 400000 in
theorem room_in (F : Fence) (hF : Pl F) (n : Nat) (s : Int) (w : World) : CallsIn F n Try.prog 31 #[.int .i64 s] w fun e w' => e = .returned (.int .i64 (Tm.room s : Int)) ∧ w' = w := by
  obtain ⟨hro, hfn, hdd⟩ := fx_facts hF
  have hf := hfn _ _ Try.func31
  clear hF hfn
  by_cases h2 : s = 2
  · subst h2; refine callsIn_of_wp Try.func31 rfl hf ?_ hro; simp only [Try.ntmps31, List.size_toArray, List.length_cons, List.length_nil, Nat.reduceAdd, Nat.reduceSub, Array.replicate_succ, Array.replicate_zero, List.push_toArray, List.append_toArray, List.nil_append, List.cons_append]; gi_wp2; go_ret; exact ⟨rfl, rfl⟩
  by_cases h3 : s = 3
  · subst h3; refine callsIn_of_wp Try.func31 rfl hf ?_ hro; simp only [Try.ntmps31, List.size_toArray, List.length_cons, List.length_nil, Nat.reduceAdd, Nat.reduceSub, Array.replicate_succ, Array.replicate_zero, List.push_toArray, List.append_toArray, List.nil_append, List.cons_append]; gi_wp2; go_ret; exact ⟨rfl, rfl⟩
  by_cases h4 : s = 4
  · subst h4; refine callsIn_of_wp Try.func31 rfl hf ?_ hro; simp only [Try.ntmps31, List.size_toArray, List.length_cons, List.length_nil, Nat.reduceAdd, Nat.reduceSub, Array.replicate_succ, Array.replicate_zero, List.push_toArray, List.append_toArray, List.nil_append, List.cons_append]; gi_wp2; go_ret; exact ⟨rfl, rfl⟩
  by_cases h5 : s = 5
  · subst h5; refine callsIn_of_wp Try.func31 rfl hf ?_ hro; simp only [Try.ntmps31, List.size_toArray, List.length_cons, List.length_nil, Nat.reduceAdd, Nat.reduceSub, Array.replicate_succ, Array.replicate_zero, List.push_toArray, List.append_toArray, List.nil_append, List.cons_append]; gi_wp2; go_ret; exact ⟨rfl, rfl⟩
  have e : Tm.room s = 0 := by simp [Tm.room, h2, h3, h4, h5]
  have b2 : (s == 2) = false := by simp [h2]
  have b3 : (s == 3) = false := by simp [h3]
  have b4 : (s == 4) = false := by simp [h4]
  have b5 : (s == 5) = false := by simp [h5]
  clear h2 h3 h4 h5
  rw [e]
  clear e
  refine callsIn_of_wp Try.func31 rfl hf ?_ hro; simp only [Try.ntmps31, List.size_toArray, List.length_cons, List.length_nil, Nat.reduceAdd, Nat.reduceSub, Array.replicate_succ, Array.replicate_zero, List.push_toArray, List.append_toArray, List.nil_append, List.cons_append]
  gi_wp2
  go_ret
  exact ⟨rfl, rfl⟩

set_option maxHeartbeats 400000 in
theorem partsx_in (F : Fence) (hF : Pl F) (n : Nat) (a : Option Addr) (len cap : Nat) (k : Int) (w : World) :
    CallsIn F n Try.prog 23 #[.slice a len cap, .int .i64 k] w fun e w' => e = .returned (.func (.func 30) #[] #[.pointer (some ⟨w.heap.size + 1, 0, none⟩), .pointer (some ⟨w.heap.size, 0, none⟩)]) ∧
      w' = (w.alloc (.cells #[.slice a len cap] 23)).alloc (.cells #[.int .i64 k] 3) := by
  obtain ⟨hro, hfn, hdd⟩ := fx_facts hF
  have hf := hfn _ _ Try.func23
  clear hF hfn
  refine callsIn_of_wp Try.func23 rfl hf ?_ hro
  simp only [Try.ntmps23, List.size_toArray, List.length_cons, List.length_nil, Nat.reduceAdd, Nat.reduceSub, Array.replicate_succ, Array.replicate_zero, List.push_toArray, List.append_toArray, List.nil_append, List.cons_append]
  gi_wp2
  go_ret
  exact ⟨rfl, rfl⟩

def encPart (zs : List Int) (k i : Nat) : Array Value := #[.int .i64 (Tm.pos zs k i : Int), .int .i64 (Tm.pos zs k (i + 1) : Int)]
/-- What the iterator reads. -/
def PartsRd (Bk Bt k cap : Nat) (a : Option Addr) (zs : List Int) (W : World) : Prop := W.cell? ⟨Bk, 0, none⟩ = some (.int .i64 (k : Int)) ∧ W.cell? ⟨Bt, 0, none⟩ = some (.slice a zs.length cap) ∧ Ints W.heap.size W a zs

/-- signs.End at places beyond k. -/
def EndsBeyond (F : Fence) (a : Option Addr) (cap : Nat) (zs : List Int) (k : Nat) : Prop :=
  ∀ (n p : Nat) (W : World), k < p → p ≤ 20000 → Ints W.heap.size W a zs → CallsIn F n Try.prog 22 #[.slice a zs.length cap, .int .i64 (p : Int)] W fun e W' => e = .returned (.int .i64 (Tm.endAt zs p : Int)) ∧ Below W.heap.size W W'

set_option maxRecDepth 100000 in
set_option maxHeartbeats 1000000 in
theorem parts_steps (F : Fence) (hF : Pl F) (n Bk Bt k cap : Nat) (a : Option Addr) (zs : List Int) (hlen : zs.length ≤ 5000) (hk : k < zs.length) (hE : EndsBeyond F a cap zs k) :
    SeqSteps F n Try.prog 30 #[.pointer (some ⟨Bk, 0, none⟩), .pointer (some ⟨Bt, 0, none⟩)] (encPart zs k) (Tm.room (zs[k]?.getD 0)) (PartsRd Bk Bt k cap a zs) := by
  intro l J Jx Jp W hJ hR hY h0
  obtain ⟨hro, hfn, hdd⟩ := fx_facts hF
  have hroom : ∀ n W, CallsIn F n Try.prog 31 #[.int .i64 (zs[k]?.getD 0)] W fun e w' => e = .returned (.int .i64 (Tm.room (zs[k]?.getD 0) : Int)) ∧ w' = W := fun n W => room_in F hF n _ W
  clear hF
  have hf55 := hfn _ _ Try.func30
  have hf56 := hfn _ _ Try.func31
  have hf32 := hfn _ _ Try.func22
  have hr2 := Tm.room_le (zs[k]?.getD 0)
  obtain ⟨hbk, hbt, hI⟩ := hR 0 W h0
  obtain ⟨b, off, rfl, hb, hc⟩ := hI.at (by omega)
  have hck := hc k hk
  have hkl : (k : Int) < (zs.length : Int) := by omega
  have hl5 : (zs.length : Int) ≤ 5000 := by omega
  generalize hrdef : Tm.room (zs[k]?.getD 0) = r at *
  clear hrdef
  generalize zs[k]?.getD 0 = s at *
  have HY := hid hY
  have HE := hid hE
  have HRm := hid hroom
  have HR := hid hR
  clear hY hE hc hI hroom hR
  refine callsIn_of_wp Try.func30 rfl hf55 ?_ hro
  simp only [Try.ntmps30, List.size_toArray, List.length_cons, List.length_nil, Nat.reduceAdd, Nat.reduceSub, Array.replicate_succ, Array.replicate_zero, List.push_toArray, List.append_toArray, List.nil_append, List.cons_append]
  gi_wp2_with ((try refine ⟨hdd _, ?_⟩); gi_at_call 31; refine (HRm.out _ _).mono ?_; rintro e W ⟨rfl, rfl⟩)
  gi_loopw [4, 13] (fun p i wr => ∃ m : Nat, m ≤ r ∧ i = .int .i64 (m : Int) ∧ p = .int .i64 (Tm.pos zs k m : Int) ∧ J m wr)
    (fun _ i _ => r - (intOf i).toNat)
  case atStart => exact ⟨0, Nat.zero_le _, rfl, by rw [Tm.pos_zero]; rfl, h0⟩
  case round =>
    obtain ⟨m, hm, rfl, rfl, hJs⟩ := hrel
    obtain ⟨_, hbt', hI'⟩ := HR.out m wr hJs
    by_cases hlt : m < r
    · have hlt' : (m : Int) < (r : Int) := by omega
      have h1' := (HE.out (n - 1) (Tm.pos zs k m) wr (Tm.pos_gt _ _ _) (by have := Tm.pos_le zs k m; omega) hI').mono (R' := fun e W1 => e = .returned (.int .i64 (Tm.pos zs k (m + 1) : Int)) ∧ YieldAt F (n - 1) Try.prog l #[.int .i64 (Tm.pos zs k m : Int), .int .i64 (Tm.pos zs k (m + 1) : Int)] W1 fun e W' =>
          (e = .returned (.bool true) ∧ J (m + 1) W') ∨ (e = .returned (.bool false) ∧ Jx W') ∨ ∃ ch, e = .panicked ch ∧ Jp ch W')
        (fun e W1 ⟨he, hB⟩ => ⟨by rw [Tm.pos_succ]; exact he, by
          have hJ1 := hJ _ _ _ none hJs (grown_of_below hB) (fun r e => by cases e)
          refine YieldAt.mono (HY.out m W1 hJ1 hlt) fun e W2 h => ?_
          exact h⟩)
      gi_wp2_with (first
        | ((try refine ⟨hdd _, ?_⟩); gi_at_call 22; refine h1'.mono ?_; clear h1'; rintro e W1 ⟨rfl, fn, tmps, assign, body, hy, hR⟩)
        | ((try refine ⟨hdd _, ?_⟩); refine hR.mono ?_; clear hR; rintro e W2 (⟨rfl, hJ2⟩ | ⟨rfl, hx2⟩ | ⟨ch, rfl, hp2⟩)))
      · exact ⟨⟨m + 1, by omega, by go_num, rfl, hJ2⟩, by simp [intOf]; omega⟩
      · refine bodyPost_ret (results_none rfl _ _ _) rfl ?_
        exact .inl ⟨⟨_, rfl⟩, .inr hx2⟩
      · exact ⟨rfl, .inr ⟨ch, rfl, hp2⟩⟩
    · obtain rfl : m = r := by omega
      have hlt' : ¬ (m : Int) < (m : Int) := by omega
      gi_wp2
      go_end0
      exact .inl ⟨⟨_, rfl⟩, .inl hJs⟩

end Go.Proofs.Ytcgljcbpcchcjaa

namespace Go.Proofs.Ytcgljcbpcchcjaa
open Go.Proofs Go.RowKit Go.Shelf

attribute [local go_sem] Oper.semAt_some

set_option maxHeartbeats 400000 in
theorem endx_out (F : Fence) (hF : Pl F) (n : Nat) (a : Option Addr) (len cap k : Nat) (w : World) (hk : len ≤ k) (hk2 : k ≤ 20000) :
    CallsIn F n Try.prog 22 #[.slice a len cap, .int .i64 (k : Int)] w fun e w' => e = .returned (.int .i64 ((k : Int) + 1)) ∧ Below w.heap.size w w' := by
  have h1 : (len : Int) ≤ (k : Int) := by omega
  have h2 : (k : Int) ≤ 20000 := by omega
  have h3 : (0 : Int) ≤ (k : Int) := by omega
  obtain ⟨hro, hfn, hdd⟩ := fx_facts hF
  have hf := hfn _ _ Try.func22
  clear hF hfn
  refine callsIn_of_wp Try.func22 rfl hf ?_ hro
  simp only [Try.ntmps22, List.size_toArray, List.length_cons, List.length_nil, Nat.reduceAdd, Nat.reduceSub, Array.replicate_succ, Array.replicate_zero, List.push_toArray, List.append_toArray, List.nil_append, List.cons_append]
  gi_wp2
  go_ret
  exact ⟨rfl, (Below.refl _ _).alloc (Nat.le_refl _) _⟩

theorem partsRd_of {Bk Bt k cap : Nat} {a : Option Addr} {zs : List Int} {w W : World} (hk : Boxed W Bk 3 (.int .i64 (k : Int))) (ht : Boxed W Bt 23 (.slice a zs.length cap)) (hI : Ints w.heap.size w a zs) (hB : Below w.heap.size w W) : PartsRd Bk Bt k cap a zs W :=
  ⟨hk.cell, ht.cell, (hI.below hB).mono hB.size⟩

set_option maxRecDepth 100000 in
set_option maxHeartbeats 1000000 in
theorem endx_step (F : Fence) (hF : Pl F) (n : Nat) (a : Option Addr) (cap k : Nat) (zs : List Int) (w : World) (hn : 3 ≤ n) (hlen : zs.length ≤ 5000) (hk : k < zs.length) (hI : Ints w.heap.size w a zs) (hE : EndsBeyond F a cap zs k) :
    CallsIn F n Try.prog 22 #[.slice a zs.length cap, .int .i64 (k : Int)] w fun e w' => e = .returned (.int .i64 (Tm.endAt zs k : Int)) ∧ Below w.heap.size w w' := by
  obtain ⟨hro, hfn, hdd⟩ := fx_facts hF
  have HF : Hid (Pl F) := hF
  have HE := hid hE
  clear hF hE
  have hf32 := hfn _ _ Try.func22
  have hf49 := hfn _ _ Try.func23
  have hf55 := hfn _ _ Try.func30
  clear hfn
  have hlt : (k : Int) < (zs.length : Int) := by omega
  have h30 : (zs.length : Int) ≤ 5000 := by omega
  have hk0 : (0 : Int) ≤ (k : Int) := by omega
  rw [Tm.endAt_in zs k hk]
  refine callsIn_of_wp_marks Try.func22 rfl hf32 ?_ hro
  simp only [Try.ntmps22, List.size_toArray, List.length_cons, List.length_nil, Nat.reduceAdd, Nat.reduceSub, Array.replicate_succ, Array.replicate_zero, List.push_toArray, List.append_toArray, List.nil_append, List.cons_append]
  gi_wp2_with ((try refine ⟨hdd _, ?_⟩); gi_at_call 23; refine (partsx_in F HF.out _ _ _ _ _ _).mono ?_; rintro e w' ⟨rfl, rfl⟩)
  have bE := ((Boxed.new w 3 (.int .i64 ((k : Int) + 1))).alloc (.cells #[.slice a zs.length cap] 23)).alloc (.cells #[.int .i64 (k : Int)] 3)
  have bT := (Boxed.new (w.alloc (.cells #[.int .i64 ((k : Int) + 1)] 3)) 23 (.slice a zs.length cap)).alloc (.cells #[.int .i64 (k : Int)] 3)
  have bK := Boxed.new ((w.alloc (.cells #[.int .i64 ((k : Int) + 1)] 3)).alloc (.cells #[.slice a zs.length cap] 23)) 3 (.int .i64 (k : Int))
  rw [World.size_alloc] at bT
  rw [World.size_alloc, World.size_alloc] at bK
  have hB0 : Below w.heap.size w (((w.alloc (.cells #[.int .i64 ((k : Int) + 1)] 3)).alloc (.cells #[.slice a zs.length cap] 23)).alloc (.cells #[.int .i64 (k : Int)] 3)) := (((Below.refl _ w).alloc (Nat.le_refl _) _).alloc (by simp) _).alloc (by simp; omega) _
  refine wpIn_rangeSteps hro (by omega) (gf := 30) (lb := #[.pointer (some ⟨w.heap.size + 1 + 1, 0, none⟩), .pointer (some ⟨w.heap.size + 1, 0, none⟩)]) rfl hf55 (enters_of Try.func30 (by kernel_rfl) rfl)
    (parts_steps F HF.out _ (w.heap.size + 1 + 1) (w.heap.size + 1) k cap a zs hlen hk HE.out) (fun _ => rfl)
    (fun i W => Boxed W w.heap.size 3 (.int .i64 (Tm.pos zs k i : Int)) ∧ Boxed W (w.heap.size + 1 + 1) 3 (.int .i64 (k : Int)) ∧ Boxed W (w.heap.size + 1) 23 (.slice a zs.length cap) ∧ Below w.heap.size w W)
    (fun _ _ => False) (fun _ _ => False) (.inl fun _ _ h => h)
    (OwnFrom.and ((boxed_own w.heap.size 3 (fun i => .int .i64 (Tm.pos zs k i : Int))).from _) (OwnFrom.and ((boxed_own (w.heap.size + 1 + 1) 3 (fun _ => .int .i64 (k : Int))).from _) (OwnFrom.and ((boxed_own (w.heap.size + 1) 23 (fun _ => .slice a zs.length cap)).from _) (ownFrom_below (Nat.le_refl _) (by simp; omega)))))
    (fun _ _ _ _ h _ _ => h)
    (fun i W h => partsRd_of h.2.1 h.2.2.1 hI h.2.2.2)
    ⟨by rw [Tm.pos_zero]; exact bE, bK, bT, hB0⟩
    (fun i => { tmps := #[.slice a zs.length cap, .int .i64 (k : Int), undef, undef, .int .i64 0, .pointer (some ⟨w.heap.size, 0, none⟩), undef, .int .i64 (Tm.pos zs k (i + 1) : Int), .int .i64 (k : Int), .int .i64 ((k : Int) + 1), .int .i64 (k : Int), .slice a zs.length cap,
      .int .i64 (zs.length : Int), .bool false, undef, .slice a zs.length cap, .int .i64 (k : Int), .func (.func 30) #[] #[.pointer (some ⟨w.heap.size + 1 + 1, 0, none⟩), .pointer (some ⟨w.heap.size + 1, 0, none⟩)], .int .i64 (Tm.pos zs k i : Int), .int .i64 (Tm.pos zs k (i + 1) : Int), undef, undef], defers := [] }) ?assign ?body ?done ?stop ?panic
  case assign =>
    intro l i W K hK
    simp only [encPart]
    gi_wp2
    exact hK
  case body =>
    rintro l i W ⟨hE, hK, hT, hB⟩ _
    have hc := hE.cell
    have hf := hE.frozen
    gi_wp2
    exact ⟨(KeepsOthers.setCell _ _ _).from _, hE.set _, hK.other (by omega) _, hT.other (by omega) _, hB.setCell (p := ⟨w.heap.size, 0, none⟩) (Nat.le_refl _) _⟩
  case done =>
    rintro D W hD ⟨hE, _, _, hB⟩ hK
    have hc := hE.cell
    gi_wp2
    refine ⟨by simp, .inl ⟨_, _, rfl, run_takeDeferred hK, ?_⟩⟩
    exact ⟨_, results_tmp rfl _ _ _, by simp [hk], hB.trans (belowK_b (w := w) (Nat.le_refl _) W D _ _ (by simp at hD; omega) hK rfl rfl)⟩
  case stop => exact fun _ _ _ _ h => h.elim
  case panic => exact fun _ _ _ _ h => h.elim

end Go.Proofs.Ytcgljcbpcchcjaa

namespace Go.Proofs.Ytcgljcbpcchcjaa
open Go.Proofs Go.RowKit Go.Shelf

theorem fx_any {F : Fence} (hF : Pl F) {n m : Nat} {P : Program} {f : FuncId} {args : Array Value} {w : World} {R : Ending → World → Prop} (h : CallsIn F n P f args w R) : CallsIn F m P f args w R :=
  ⟨h.1, fun cs _ => h.2 cs (fun d hd => by rw [hF.2.2] at hd; cases hd)⟩

theorem endx_all (F : Fence) (hF : Pl F) (zs : List Int) (hlen : zs.length ≤ 5000) (a : Option Addr) (cap : Nat) : ∀ (m k n : Nat), zs.length - k ≤ m → k ≤ 20000 → ∀ w : World, Ints w.heap.size w a zs →
    CallsIn F n Try.prog 22 #[.slice a zs.length cap, .int .i64 (k : Int)] w fun e w' => e = .returned (.int .i64 (Tm.endAt zs k : Int)) ∧ Below w.heap.size w w' := by
  intro m
  induction m with
  | zero =>
    intro k n hm hk w hI
    rw [Tm.endAt_out zs k (by omega)]
    exact endx_out F hF n a zs.length cap k w (by omega) hk
  | succ m ih =>
    intro k n hm hk w hI
    by_cases hlt : k < zs.length
    · exact fx_any hF (endx_step F hF 3 a cap k zs w (by omega) hlen hlt hI (fun n p W h1 h2 h3 => ih p n (by omega) h2 W h3))
    · rw [Tm.endAt_out zs k (by omega)]
      exact endx_out F hF n a zs.length cap k w (by omega) hk
theorem ends_beyond (F : Fence) (hF : Pl F) (zs : List Int) (hlen : zs.length ≤ 5000) (a : Option Addr) (cap k : Nat) : EndsBeyond F a cap zs k :=
  fun n p W _ h2 h3 => endx_all F hF zs hlen a cap _ p n (Nat.le_refl _) h2 W h3

end Go.Proofs.Ytcgljcbpcchcjaa

namespace Go.Proofs.Ytcgljcbpcchcjaa
open Go.Proofs Go.RowKit Go.Shelf

theorem upon_round {F : Fence} {n l : Nat} {P : Program} {o : Oper} {a : Act} {next next' : Act → World → Prop} {Q : Exit → Act → World → Prop} (hm : ∀ a w, next a w → next' a w) (r : Result Next) (h : o.uponIn F n P a next Q r) : o.uponIn (F.inRound l) n P a next' Q r := by
  cases r with
  | ok x w' =>
    cases x with
    | value v => exact hm _ _ h
    | skip => exact hm _ _ h
    | defer d => exact hm _ _ h
    | enter f args =>
      refine ⟨h.1, (CallsIn.inRound l h.2).mono fun e w'' he => ?_⟩
      cases e with
      | returned v => exact hm _ _ he
      | panicked c => exact he
      | outgrown => exact he
    | row row args => exact ⟨h.1, RowsIn.mono (show RowsIn (F.inRound l) (n - 1) P row args w' _ from h.2) fun v w'' he => hm _ _ he⟩
    | round l' f tmps assign body =>
      refine ⟨h.1, RoundIn.mono (show RoundIn (F.inRound l) (n - 1) P l' f tmps assign body w' _ from h.2) fun e w'' he => ?_⟩
      cases e with
      | returned v => exact hm _ _ he
      | panicked c => exact he
      | outgrown => exact he
    | _ => exact h
  | halt x w' => cases x <;> exact h

theorem ops_round {F : Fence} {n l : Nat} {P : Program} {ops : Array Oper} {Q : Exit → Act → World → Prop} (hro : F.round = none) (hnd : ∀ (j : Nat) (o : Oper) (c : Call), ops[j]? = some o → o.op ≠ .defer c) :
    ∀ (order : List Nat) (a : Act) (w : World), wpOpsIn F n P ops Q order a w → wpOpsIn (F.inRound l) n P ops Q order a w := by
  intro order
  induction order with
  | nil => exact fun _ _ h => h
  | cons i rest ih =>
    intro a w h
    unfold wpOpsIn at h ⊢
    cases ho : ops[i]? with
    | none => rw [ho] at h; exact ih a w h
    | some o =>
      rw [ho] at h
      by_cases hw : Region.wanted o (yielded ops a.tmps) = true
      · simp only [hw, if_true] at h ⊢
        refine ⟨h.1, ?_⟩
        have h2 := h.2
        rw [hro, Oper.semAt_none] at h2
        rw [show (F.inRound l).round = some l from rfl, Oper.semAt_some l _ _ (fun c => hnd i o c ho)]
        exact upon_round ih _ h2
      · simp only [hw] at h ⊢
        exact ⟨h.1, ih _ _ h.2⟩

/-- Is no operation one that defers? -/
def noDefer (ops : Array Oper) : Bool := ops.all fun o => match o.op with | .defer _ => false | _ => true
theorem noDefer_spec {ops : Array Oper} (h : noDefer ops = true) : ∀ (j : Nat) (o : Oper) (c : Call), ops[j]? = some o → o.op ≠ .defer c := by
  intro j o c hj e
  unfold noDefer at h
  rw [Array.all_eq_true] at h
  obtain ⟨hlt, hx⟩ := Array.getElem?_eq_some_iff.1 hj
  have := h j hlt
  rw [hx, e] at this
  simp at this

/-- Within a round: from the walk over all orders outside of it. -/
theorem wpIn_region_round {F : Fence} {n l id : Nat} {P : Program} {ops : Array Oper} {Q : Exit → Act → World → Prop} {a : Act} {w : World} (hro : F.round = none) (hnd : noDefer ops = true) (hm : P.follows .mixedOrders = true)
    (h : wpAnyIn F n P .any ops Q ops.size (Array.replicate ops.size false) a w.drew) : (Code.region id ops true).wpIn (F.inRound l) n P Q a w :=
  wpIn_region_draw fun t => by
    simp only [Region.schedule, hm, Bool.true_or, if_true]
    exact ops_round hro (noDefer_spec hnd) _ _ _ (wpAnyIn_sound ops.size t _ a _ h)

end Go.Proofs.Ytcgljcbpcchcjaa

namespace Go.Proofs
open Go.Shelf
def Try.lays156_ren : Go.Shelf.Ren := ⟨fun | 156 => 25 | 165 => 32 | 166 => 33 | 169 => 34 | 240 => 38 | 241 => 39 | 276 => 41 | 277 => 42 | n => n, fun | 31 => 47 | 9 => 9 | 3 => 3 | 4 => 4 | 0 => 0 | 20 => 20 | 72 => 66 | 76 => 70 | 70 => 64 | 37 => 57 | 75 => 69 | 127 => 76 | 164 => 78 | 5 => 5 | 80 => 72 | n => n, fun | n => n⟩
theorem Try.lays156 : Go.Proofs.Lays.n156 Try.prog Try.lays156_ren := {
  mixed := by kernel_rfl
  f156 := Try.func25.trans (congrArg some (by kernel_rfl))
  f165 := Try.func32.trans (congrArg some (by kernel_rfl))
  f166 := Try.func33.trans (congrArg some (by kernel_rfl))
  f169 := Try.func34.trans (congrArg some (by kernel_rfl))
  f240 := Try.func38.trans (congrArg some (by kernel_rfl))
  f241 := Try.func39.trans (congrArg some (by kernel_rfl))
  f276 := Try.func41.trans (congrArg some (by kernel_rfl))
  f277 := Try.func42.trans (congrArg some (by kernel_rfl))
  t0 := Try.underlying0
  a0 := Try.isAgg0
  z0 := Try.sizeOf0
  v0 := Try.zeroValue0
  t3 := Try.underlying3
  a3 := Try.isAgg3
  z3 := Try.sizeOf3
  v3 := Try.zeroValue3
  t4 := Try.underlying4
  a4 := Try.isAgg4
  z4 := Try.sizeOf4
  v4 := Try.zeroValue4
  t9 := Try.underlying9
  a9 := Try.isAgg9
  z9 := Try.sizeOf9
  v9 := Try.zeroValue9
  t20 := Try.underlying20
  a20 := Try.isAgg20
  z20 := Try.sizeOf20
  v20 := Try.zeroValue20
  t31 := Try.underlying47
  a31 := Try.isAgg47
  z31 := Try.sizeOf47
  v31 := Try.zeroValue47
  t37 := Try.underlying57
  a37 := Try.isAgg57
  z37 := Try.sizeOf57
  v37 := Try.zeroValue57
  t70 := Try.underlying64
  a70 := Try.isAgg64
  z70 := Try.sizeOf64
  v70 := Try.zeroValue64
  t72 := Try.underlying66
  a72 := Try.isAgg66
  z72 := Try.sizeOf66
  v72 := Try.zeroValue66
  t75 := Try.underlying69
  a75 := Try.isAgg69
  z75 := Try.sizeOf69
  v75 := Try.zeroValue69
  t76 := Try.underlying70
  a76 := Try.isAgg70
  z76 := Try.sizeOf70
  v76 := Try.zeroValue70
  t127 := Try.underlying76
  a127 := Try.isAgg76
  z127 := Try.sizeOf76
  v127 := Try.zeroValue76
  t164 := Try.underlying78
  a164 := Try.isAgg78
  z164 := Try.sizeOf78
  v164 := Try.zeroValue78 }
theorem Try.Builder_Extra_156 : Builder.Extra Try.prog Try.lays156_ren := {
  sizeBuilder := by kernel_rfl
  liesBuilder := by kernel_rfl
  t5 := Try.underlying5
  a5 := Try.isAgg5
  z5 := Try.sizeOf5
  v5 := Try.zeroValue5
  infoByte := by kernel_rfl
  cellsByte := by kernel_rfl
  sizeByte := by kernel_rfl
  neB5 := by decide }
open Go.RowKit in
theorem Try.strings_Join (bk o c : Nat) (xs : List ByteArray) (sep : ByteArray) (w : World) (hcells : ∀ (j : Nat) x, xs[j]? = some x → w.cell? ⟨bk, o + j, none⟩ = some (.string x)) (hbk : bk < w.heap.size) (hN : xs.length ≤ 140737488355328) (hcap : xs.length ≤ c) (hlen : (Lib.join (xs.map (·.data.toList)) sep.data.toList).length ≤ 140737488355328) :
    Calls Try.prog 25 #[.slice (some ⟨bk, o, none⟩) xs.length c, .string sep] w fun e w' => e = .returned (.string ⟨(Lib.join (xs.map (·.data.toList)) sep.data.toList).toArray⟩) ∧ Below w.heap.size w w' := Any.strings_Join Try.lays156 Try.Builder_Extra_156 bk o c xs sep w hcells hbk hN hcap hlen
def Try.lays137_ren : Go.Shelf.Ren := ⟨fun | 137 => 40 | 217 => 43 | 266 => 44 | n => n, fun | 9 => 9 | 5 => 5 | 3 => 3 | n => n, fun | n => n⟩
theorem Try.lays137 : Go.Proofs.Lays.n137 Try.prog Try.lays137_ren := {
  mixed := by kernel_rfl
  f137 := Try.func40.trans (congrArg some (by kernel_rfl))
  f217 := Try.func43.trans (congrArg some (by kernel_rfl))
  f266 := Try.func44.trans (congrArg some (by kernel_rfl))
  t3 := Try.underlying3
  a3 := Try.isAgg3
  z3 := Try.sizeOf3
  v3 := Try.zeroValue3
  t5 := Try.underlying5
  a5 := Try.isAgg5
  z5 := Try.sizeOf5
  v5 := Try.zeroValue5
  t9 := Try.underlying9
  a9 := Try.isAgg9
  z9 := Try.sizeOf9
  v9 := Try.zeroValue9 }
open Go.RowKit in
theorem Try.strings_IndexByte (s : ByteArray) (c : Int) (w : World) :
    Calls Try.prog 40 #[.string s, .int .u8 c] w fun e w' => e = .returned (.int .i64 (Lib.indexByte s.data.toList c.toNat.toUInt8)) ∧ w' = w := Any.strings_IndexByte Try.lays137 s c w
end Go.Proofs

namespace Go.Proofs.Ytcgljcbpcchcjaa
open Go.Proofs Go.RowKit Go.Shelf Go.Maps

/-- A slice of texts in new memory. -/
def NewStr (base : Nat) (W : World) (v : Value) (ss : List (List UInt8)) : Prop := W.ownsRow base 9 1 v ss.length (ss.map sv)
theorem NewStr.nil (base : Nat) (W : World) : NewStr base W (.slice none 0 0) [] := World.ownsRow_nil _ _ _ _
theorem NewStr.slice {base : Nat} {W : World} {v : Value} {ss : List (List UInt8)} (h : NewStr base W v ss) : ∃ a c, v = .slice a ss.length c := by
  rcases h.2 with ⟨rfl, h0⟩ | ⟨g, cap, cur, rfl, _⟩
  · exact ⟨none, 0, by rw [h0]⟩
  · exact ⟨_, _, rfl⟩
theorem NewStr.at {base : Nat} {W : World} {v : Value} {ss : List (List UInt8)} (h : NewStr base W v ss) (hp : 0 < ss.length) : ∃ g c, v = .slice (some ⟨g, 0, none⟩) ss.length c ∧ ss.length ≤ c ∧ g < W.heap.size ∧ ∀ j x, (ss.map fun l => (⟨l.toArray⟩ : ByteArray))[j]? = some x → W.cell? ⟨g, 0 + j, none⟩ = some (.string x) := by
  rcases h.2 with ⟨rfl, h0⟩ | ⟨g, cap, cur, rfl, hb, hg, h1, h2, h3, h4⟩
  · omega
  · refine ⟨g, cap, rfl, h1, (Array.getElem?_eq_some_iff.1 hg).1, fun j x hj => ?_⟩
    have hj' : j < ss.length := by
      have := (List.getElem?_eq_some_iff.1 hj).1
      simpa using this
    have h5 := World.ownsRow.cellAt (show W.ownsRow base 9 1 (.slice (some ⟨g, 0, none⟩) ss.length cap) ss.length (ss.map sv) from h) j (by omega)
    rw [Nat.zero_add, h5]
    rw [List.getElem?_map, List.getElem?_eq_getElem hj'] at hj
    simp only [Option.map_some, Option.some.injEq] at hj
    subst hj
    rw [List.getElem?_map, List.getElem?_eq_getElem hj']
    rfl
theorem bx_own {X Y : World} {row : Option Nat} {B C : Nat} {cs : Array Value} {t : TypeId} {p : Nat × Nat} (h : X.heap[C]? = some (.cells cs t p)) (hg : X.grownBy Y row) (hr : ∀ r, row = some r → B ≤ r ∧ ∃ o : Obj, X.heap[r]? = some o ∧ o.isCells = false) : Y.heap[C]? = some (.cells cs t p) :=
  (hg.block C (Array.getElem?_eq_some_iff.1 h).1 (fun e => by
    obtain ⟨_, o, ho, hc⟩ := hr C e.symm
    rw [h] at ho
    cases ho
    simp [Obj.isCells] at hc)).trans h
theorem NewStr.kept {base : Nat} {W W' : World} {v : Value} {ss : List (List UInt8)} {row : Option Nat} (h : NewStr base W v ss) (hg : W.grownBy W' row) (hr : ∀ k, row = some k → ∀ cs p, W.heap[k]? ≠ some (.cells cs 9 p)) : NewStr base W' v ss := by
  refine World.ownsRow.kept h hg ?_
  rcases h.2 with ⟨rfl, _⟩ | ⟨g, cap, cur, rfl, _, hgb, _⟩
  · exact .inl rfl
  · exact .inr fun e' => hr g (by rw [← e']; rfl) _ _ hgb
theorem NewStr.block {base : Nat} {W : World} {v : Value} {ss : List (List UInt8)} (h : NewStr base W v ss) {k : Nat} (hk : v.ownBlock = some k) : base ≤ k ∧ ∃ cs p, W.heap[k]? = some (.cells cs 9 p) := by
  rcases h.2 with ⟨rfl, _⟩ | ⟨g, cap, cur, rfl, hb, hgb, _⟩
  · cases hk
  · obtain rfl : g = k := by simpa [Value.ownBlock] using hk
    exact ⟨hb, _, _, hgb⟩
theorem NewStr.below {base : Nat} {W W' : World} {v : Value} {ss : List (List UInt8)} (h : NewStr base W v ss) (hB : Below W.heap.size W W') : NewStr base W' v ss :=
  h.kept (grown_of_below hB) (fun k e => by cases e)
theorem bx_ne {W : World} {B : Nat} {t e : TypeId} {x : Value} (h : Boxed W B t x) (hte : t ≠ e) (cs : Array Value) (p : Nat × Nat) : W.heap[B]? ≠ some (.cells cs e p) := by
  rw [show W.heap[B]? = _ from h]
  intro h'
  simp only [Option.some.injEq, Obj.cells.injEq] at h'
  exact hte h'.2.1

theorem Try.info9 : (Try.prog.info? 9).map (fun i => (i.zero, i.size, i.bytes)) = some (some (.string ⟨#[]⟩), 1, 16) := by kernel_rfl
theorem run_append_str (w : World) (ty : TypeId) (base : Nat) (v : Value) (ss : List (List UInt8)) (hN : NewStr base w v ss) (B : Nat) (y : List UInt8) (hB : w.cell? ⟨B, 0, none⟩ = some (sv y)) (hlen : ss.length ≤ 1000000) (hbase : base ≤ w.heap.size) :
    ∃ v' w', (Builtin.append_ #[47, 47] ty #[v, .slice (some ⟨B, 0, none⟩) 1 1]).run Try.prog w = .ok v' w' ∧ NewStr base w' v' (ss ++ [y]) ∧ w.grownBy w' v.ownBlock := by
  obtain ⟨i0, hi, hz0, hz1, hz2⟩ := info_parts Try.info9
  have hc : ∀ j u, [sv y][j]? = some u → w.cell? ((⟨B, 0, none⟩ : Addr).add j) = some u := by
    intro j z hj
    match j, hj with
    | 0, hj => simp at hj; subst hj; rw [Go.WideShapes.add_plain]; simpa using hB
  have h1 : ∀ u ∈ [sv y], u.oneCell' = true := by intro z hz; simp at hz; subst hz; rfl
  obtain ⟨v', w', hr, r1, r2, _⟩ := run_append_own (P := Try.prog) w base 47 ty 9 i0 (.string ⟨#[]⟩) 1 16 Try.underlying47 hi hz0 hz1 hz2 rfl (by decide) v ss.length (ss.map sv) hN ⟨B, 0, none⟩ 1 1 [sv y] (by simp) hc h1 (by unfold maxLen; omega) (by omega) hbase
  exact ⟨v', w', hr, by simpa [NewStr] using r1, r2⟩
theorem opi_append_str {F : Fence} {n : Nat} {o : Oper} {a : Act} {K : Act → World → Prop} {Q : Exit → Act → World → Prop} (w : World) (s x : Operand)
    (ho : o.op = .call { callee := .builtin .append, args := #[s, x], argTypes := #[47, 47] }) (base : Nat) (v : Value) (ss : List (List UInt8)) (hs : a.eval s = v) (hN : NewStr base w v ss)
    (B : Nat) (y : List UInt8) (hx : a.eval x = .slice (some ⟨B, 0, none⟩) 1 1) (hB : w.cell? ⟨B, 0, none⟩ = some (sv y)) (hlen : ss.length ≤ 1000000) (hbase : base ≤ w.heap.size)
    (h : ∀ v' w', NewStr base w' v' (ss ++ [y]) → w.grownBy w' v.ownBlock → K (a.put o.dst v') w') : Oper.wpIn F n Try.prog o a w K Q := by
  obtain ⟨v', w', hrun, r1, r2⟩ := run_append_str w o.type base v ss hN B y hB hlen hbase
  unfold Oper.wpIn
  refine ⟨?_, ?_⟩
  · simp [Oper.about, ho, resolve, Target.leads, Sem.run_pure]
  · rw [Oper.semAt_plain F _ _ (by rw [ho]; intro c hc'; cases hc')]
    simp [execOp, ho, resolve, invoke, builtin, hs, hx, hrun, Result.andThen]
    exact h v' w' r1 r2

/-- What stands while parts are shown. -/
structure ShInv (w : World) (n : Nat) (tv : Value) (k : Nat) (ss : List (List UInt8)) (W : World) : Prop where
  bT : Boxed W n 23 tv
  out : ∃ v, Boxed W (n + 1) 47 v ∧ NewStr n W v ss
  bP : Boxed W (n + 1 + 1) 23 tv
  bK : Boxed W (n + 1 + 1 + 1) 3 (.int .i64 (k : Int))
  kp : Below n w W
theorem ShInv.own {w X Y : World} {n D k : Nat} {tv : Value} {ss : List (List UInt8)} {row : Option Nat} (hn : n ≤ w.heap.size) (hD : n ≤ D) (h : ShInv w n tv k ss X) (hg : X.grownBy Y row) (hr : ∀ r, row = some r → D ≤ r ∧ ∃ o : Obj, X.heap[r]? = some o ∧ o.isCells = false) : ShInv w n tv k ss Y := by
  obtain ⟨bT, ⟨v, hv, hN⟩, bP, bK, kp⟩ := h
  refine ⟨bx_own bT hg hr, ⟨v, bx_own hv hg hr, hN.kept hg fun q e cs p h' => ?_⟩, bx_own bP hg hr, bx_own bK hg hr, ⟨hg.os.trans kp.os, hg.tape.trans kp.tape, hg.output.trans kp.output, Nat.le_trans kp.size hg.size, fun q hq => (hg.block q (by have := kp.size; omega) (fun e => by have := (hr q e.symm).1; omega)).trans (kp.block q hq)⟩⟩
  obtain ⟨_, o, ho, hc⟩ := hr q e
  rw [ho] at h'
  cases h'
  simp [Obj.isCells] at hc
theorem ShInv.below {w W W' : World} {n k : Nat} {tv : Value} {ss : List (List UInt8)} (hn : n ≤ w.heap.size) (h : ShInv w n tv k ss W) (hb : Below W.heap.size W W') : ShInv w n tv k ss W' := by
  obtain ⟨bT, ⟨v, hv, hN⟩, bP, bK, kp⟩ := h
  exact ⟨(hb.block _ bT.lt).trans bT, ⟨v, (hb.block _ hv.lt).trans hv, hN.below hb⟩, (hb.block _ bP.lt).trans bP, (hb.block _ bK.lt).trans bK, kp.trans (hb.mono (Nat.le_trans hn kp.size))⟩
theorem sh_append {w W w' : World} {n k C : Nat} {tv v v' : Value} {ss : List (List UInt8)} {y : List UInt8} (hn : n ≤ w.heap.size) (bT : Boxed W n 23 tv) (hv : Boxed W (n + 1) 47 v) (hN : NewStr n W v ss) (bP : Boxed W (n + 1 + 1) 23 tv) (bK : Boxed W (n + 1 + 1 + 1) 3 (.int .i64 (k : Int))) (kp : Below n w W)
    (hN' : NewStr n w' v' (ss ++ [y])) (hg : W.grownBy w' v.ownBlock) : Boxed w' (n + 1) 47 v ∧ ShInv w n tv k (ss ++ [y]) (w'.setCell ⟨n + 1, 0, none⟩ v') ∧ KeepsFrom C W (w'.setCell ⟨n + 1, 0, none⟩ v') := by
  have hne : ∀ {D : Nat} {e : TypeId} {z : Value}, Boxed W D e z → e ≠ 9 → some D ≠ v.ownBlock := fun hb he e' => by
    obtain ⟨_, cs, p, h⟩ := hN.block e'.symm
    exact bx_ne hb he cs p h
  have hnW : n ≤ W.heap.size := Nat.le_trans hn kp.size
  have bT1 := bT.kept hg (hne bT (by decide))
  have hv1 := hv.kept hg (hne hv (by decide))
  have bP1 := bP.kept hg (hne bP (by decide))
  have bK1 := bK.kept hg (hne bK (by decide))
  refine ⟨hv1, ⟨bT1.other (by omega) v', ⟨v', hv1.set v', hN'.kept (grownBy_setCell' w' (n + 1) v') fun q e cs p => ?_⟩, bP1.other (by omega) v', bK1.other (by omega) v', kp.trans ?_⟩, ?_⟩
  · cases e
    exact bx_ne hv1 (by decide) cs p
  · exact ((Below.refl n W).grown hg hnW fun j ej => (hN.block ej).1).setCell (p := ⟨n + 1, 0, none⟩) (by show n ≤ n + 1; omega) v'
  · refine KeepsOthers.from ((KeepsOthers.of_grownBy hg fun j o ej hj => ?_).trans (KeepsOthers.setCell _ _ _)) C
    obtain ⟨_, cs, p, h⟩ := hN.block ej
    rw [h] at hj
    cases hj
    rfl

end Go.Proofs.Ytcgljcbpcchcjaa

namespace Go.Proofs.Ytcgljcbpcchcjaa
open Go.Proofs Go.RowKit Go.Shelf Go.Maps

theorem Tr.kids_show (x : Tr) : x.show = Tm.letr x.sy :: (if x.kids = [] then [] else 40 :: (Lib.join (x.kids.map Tr.show) [44] ++ [41])) := by
  cases x with
  | leaf s => simp [Tr.show, Tr.sy, Tr.kids]
  | one s a => simp [Tr.show, Tr.sy, Tr.kids, Lib.join]
  | two s a b => simp [Tr.show, Tr.sy, Tr.kids, Lib.join]

theorem Tm.part_whole {zs : List Int} (he : Tm.err zs = 0) : Tm.part zs 0 = zs := by
  have h := Tm.err_run he
  unfold Tm.part
  rw [Tm.endAt_zero, h]
  simp
theorem join_any {base : Nat} {W : World} {v : Value} {ss : List (List UInt8)} (h : NewStr base W v ss) (hp : 0 < ss.length) (hl : ss.length ≤ 1000) (hj : (Lib.join ss [44]).length ≤ 1000000) :
    Calls Try.prog 25 #[v, .string ⟨#[44]⟩] W fun e w' => e = .returned (sv (Lib.join ss [44])) ∧ Below W.heap.size W w' := by
  obtain ⟨g, c, rfl, h1, h2, h3⟩ := h.at hp
  have e : (ss.map fun l => (⟨l.toArray⟩ : ByteArray)).map (·.data.toList) = ss := by
    rw [List.map_map]
    conv => rhs; rw [← List.map_id ss]
    exact List.map_congr_left fun x _ => rfl
  have hJ := Try.strings_Join g 0 c (ss.map fun l => (⟨l.toArray⟩ : ByteArray)) ⟨#[44]⟩ W h3 h2 (by rw [List.length_map]; omega) (by rw [List.length_map]; omega) (by rw [e]; exact Nat.le_trans hj (by omega))
  rw [e, List.length_map] at hJ
  exact hJ

attribute [local go_sem] Oper.semAt_some

theorem keepsF_below {C : Nat} {W W' : World} (hb : Below W.heap.size W W') : KeepsFrom C W W' := ⟨hb.size, fun k _ _ ho _ => (hb.block k (Array.getElem?_eq_some_iff.1 ho).1).trans ho⟩

set_option maxRecDepth 100000 in
set_option maxHeartbeats 1000000 in
theorem shown_step (zs : List Int) (a : Option Addr) (cap k : Nat) (w : World) (he : Tm.err zs = 0) (hk : k < zs.length) (hI : Ints w.heap.size w a zs) (x : Tr) (hx : x.ok) (hxk : x.knows) (hxf : x.flat = Tm.part zs k)
    (ih : ∀ (p : Nat) (W : World) (y : Tr), k < p → p < zs.length → y.ok → y.knows → y.flat = Tm.part zs p → Ints W.heap.size W a zs → Calls Try.prog 13 #[.slice a zs.length cap, .int .i64 (p : Int)] W fun e W' => e = .returned (sv y.show) ∧ Below W.heap.size W W') :
    Calls Try.prog 13 #[.slice a zs.length cap, .int .i64 (k : Int)] w fun e w' => e = .returned (sv x.show) ∧ Below w.heap.size w w' := by
  obtain ⟨F, hF⟩ : ∃ F, F = Fence.wide := ⟨_, rfl⟩
  refine (callsIn_wide (n := 3)).1 ?_
  rw [← hF]
  obtain ⟨hro, hfn, hdd, hcin⟩ := wide_facts hF
  have HPl : Hid (Pl F) := by rw [hF]; exact wide_pl
  have HF := hid hF
  clear hF
  have hf1 := hfn 13
  have hf2 := hfn 23
  have hf3 := hfn 30
  have hf4 := hfn 24
  have hf5 := hfn 25
  clear hfn
  have l30 := Tm.err_len he
  have l30' : (zs.length : Int) ≤ 30 := by omega
  have hk' : (k : Int) < (zs.length : Int) := by omega
  have hsy : x.sy = zs[k]?.getD 0 := by rw [← Tr.sym x, hxf, Tm.sym_part he hk]
  have hrm : Tm.room (zs[k]?.getD 0) = x.kids.length := by rw [← hsy]; exact Tr.room hx
  have hkid : ∀ m (hm : m < x.kids.length), (x.kids[m]).ok ∧ (x.kids[m]).knows ∧ (x.kids[m]).flat = Tm.part zs (Tm.pos zs k m) ∧ k < Tm.pos zs k m ∧ Tm.pos zs k m < zs.length := fun m hm => by
    have e1 := Tr.kid hx (m := m) (c := x.kids[m]) (List.getElem?_eq_getElem hm)
    have hm' : m < Tm.room (zs[k]?.getD 0) := by rw [hrm]; exact hm
    rw [hxf, Tm.kid_part he hk hm'] at e1
    refine ⟨Tr.kids_ok hx _ (List.getElem_mem hm), ?_, e1.symm, Tm.pos_gt _ _ _, ?_⟩
    · intro s hs
      refine hxk s ?_
      rw [Tr.flat_kids x]
      refine List.mem_cons_of_mem _ (List.mem_flatten.2 ⟨_, List.mem_map.2 ⟨_, List.getElem_mem hm, rfl⟩, hs⟩)
    · have h1 := Tm.pos_part he hk m (by omega)
      have h2 := Tm.pos_in (Tm.part_err he hk) (m := m) (by rw [Tm.sym_part he hk]; exact hm')
      rw [Tm.part_length he hk] at h2
      have h3 := Tm.end_in he hk
      omega
  have hks : Tm.known x.sy = true := hxk _ (by rw [Tr.flat_kids x]; exact List.mem_cons_self)
  have hk2 : x.kids.length ≤ 2 := by rw [← hrm]; exact Tm.room_le _
  have HI := hid hI
  have Hkid := hid hkid
  have IH := hid ih
  obtain ⟨W4, hW4⟩ : ∃ W4, (((w.alloc (.cells #[.slice a zs.length cap] 23)).alloc (.cells #[.slice none 0 0] 47)).alloc (.cells #[.slice a zs.length cap] 23)).alloc (.cells #[.int .i64 (k : Int)] 3) = W4 := ⟨_, rfl⟩
  have hs4 : W4.heap.size = w.heap.size + 1 + 1 + 1 + 1 := by rw [← hW4]; simp
  have I0 : ShInv w w.heap.size (.slice a zs.length cap) k [] W4 := by
    rw [← hW4]
    have b1 := Boxed.new w 23 (.slice a zs.length cap)
    have b2 := Boxed.new (w.alloc (.cells #[.slice a zs.length cap] 23)) 47 (.slice none 0 0)
    have b3 := Boxed.new ((w.alloc (.cells #[.slice a zs.length cap] 23)).alloc (.cells #[.slice none 0 0] 47)) 23 (.slice a zs.length cap)
    have b4 := Boxed.new (((w.alloc (.cells #[.slice a zs.length cap] 23)).alloc (.cells #[.slice none 0 0] 47)).alloc (.cells #[.slice a zs.length cap] 23)) 3 (.int .i64 (k : Int))
    simp only [World.size_alloc] at b2 b3 b4
    exact ⟨((b1.alloc _).alloc _).alloc _, ⟨_, (b2.alloc _).alloc _, NewStr.nil _ _⟩, b3.alloc _, b4, ((((Below.refl _ w).alloc (Nat.le_refl _) _).alloc (by simp) _).alloc (by simp; omega) _).alloc (by simp; omega) _⟩
  have HI0 := hid I0
  have HW4 := hid hW4
  have cT0 := (Boxed.new w 23 (.slice a zs.length cap)).alloc (.cells #[.slice none 0 0] 47) |>.cell
  clear hI hkid ih I0 hW4
  refine callsIn_of_wp_marks Try.func13 rfl hf1 ?_ hro
  simp only [Try.ntmps13, List.size_toArray, List.length_cons, List.length_nil, Nat.reduceAdd, Nat.reduceSub, Array.replicate_succ, Array.replicate_zero, List.push_toArray, List.append_toArray, List.nil_append, List.cons_append]
  gi_wp2_with ((try refine ⟨hdd _, ?_⟩); gi_at_call 23; refine (partsx_in F HPl.out _ _ _ _ _ _).mono ?_; rintro e w' ⟨rfl, rfl⟩)
  rw [HW4.out]
  clear cT0
  refine wpIn_rangeSteps hro (by omega) (gf := 30) (lb := #[.pointer (some ⟨w.heap.size + 1 + 1 + 1, 0, none⟩), .pointer (some ⟨w.heap.size + 1 + 1, 0, none⟩)]) rfl hf3 (enters_of Try.func30 (by kernel_rfl) rfl)
    (parts_steps F HPl.out _ (w.heap.size + 1 + 1 + 1) (w.heap.size + 1 + 1) k cap a zs (by omega) hk (ends_beyond F HPl.out zs (by omega) _ cap k)) (fun _ => rfl)
    (fun m W => ShInv w w.heap.size (.slice a zs.length cap) k ((x.kids.take m).map Tr.show) W) (fun _ _ => False) (fun _ _ => False) (.inl fun _ _ h => h)
    (by
      rintro m X Y row hi hg hr
      exact hi.own (Nat.le_refl _) (by omega) hg hr)
    (by
      rintro c X Y row hi hg hr
      exact hi)
    (fun m W hi => ⟨hi.bK.cell, hi.bP.cell, (HI.out.below hi.kp).mono hi.kp.size⟩)
    (by simpa using HI0.out)
    (fun m => { tmps := #[.slice a zs.length cap, .int .i64 (k : Int), .pointer (some ⟨w.heap.size, 0, none⟩), undef, .string ⟨#[]⟩, .pointer (some ⟨w.heap.size + 1, 0, none⟩), .int .i64 (Tm.pos zs k m : Int), .slice a zs.length cap, .int .i64 (k : Int), .func (.func 30) #[] #[.pointer (some ⟨w.heap.size + 1 + 1 + 1, 0, none⟩), .pointer (some ⟨w.heap.size + 1 + 1, 0, none⟩)], .int .i64 (Tm.pos zs k m : Int), .int .i64 (Tm.pos zs k (m + 1) : Int),
      undef, undef, undef, undef, undef, undef, undef, undef, undef, undef, undef, undef, undef, undef, undef, undef, undef, undef, undef, undef, undef, undef, undef, undef], defers := [] }) ?assign ?body ?done ?stop ?panic
  case assign =>
    intro l m W K hK
    simp only [encPart]
    gi_wp2
    exact hK
  case body =>
    rintro l m W hi hm
    rw [hrm] at hm
    obtain ⟨y1, y2, y3, y4, y5⟩ := Hkid.out m hm
    have hsn : (x.kids.take (m + 1)).map Tr.show = (x.kids.take m).map Tr.show ++ [(x.kids[m]).show] := by
      rw [List.take_succ_eq_append_getElem hm, List.map_append]; rfl
    have hsl : ((x.kids.take m).map Tr.show).length ≤ 2 := by rw [List.length_map, List.length_take]; omega
    have Hsn := hid hsn
    have hBd : Below W.heap.size W W.drew := below_drewN (Below.refl _ W) 1
    have Hc := hid (CallsIn.inRound l (hcin (n := 0) (IH.out (Tm.pos zs k m) W.drew (x.kids[m]) y4 y5 y1 y2 y3 (by have hb := hi.kp.trans (hBd.mono hi.kp.size); exact (HI.out.below hb).mono hb.size))))
    obtain ⟨bT, ⟨v, hv, hN⟩, bP, bK, kp⟩ := hi
    obtain ⟨va, vc, rfl⟩ := hN.slice
    generalize (x.kids.take m).map Tr.show = ss at *
    generalize (x.kids[m]).show = ys at *
    generalize Tm.pos zs k m = pm at *
    have e1 := hv.cell
    have e2 := bT.cell
    have Hcell := hid (fun W1 (hB1 : Below W.drew.heap.size W.drew W1) => show W1.cell? ⟨w.heap.size + 1, 0, none⟩ = some (.slice va ss.length vc) ∧ ∀ o, (W1.alloc o).cell? ⟨w.heap.size + 1, 0, none⟩ = some (.slice va ss.length vc) from
      ⟨(hB1.cell (p := ⟨w.heap.size + 1, 0, none⟩) hv.lt).trans e1, fun o => (World.cell?_of_block (a := ⟨w.heap.size + 1, 0, none⟩) (Below.heap_alloc W1 o (w.heap.size + 1) (Nat.lt_of_lt_of_le hv.lt hB1.size))).trans ((hB1.cell (p := ⟨w.heap.size + 1, 0, none⟩) hv.lt).trans e1)⟩)
    have hbo : ∀ W1 (hB1 : Below W.drew.heap.size W.drew W1) (o : Obj), Below W.heap.size W (W1.alloc o) := fun W1 hB1 o => (hBd.trans (hB1.mono hBd.size)).alloc (by have h := hB1.size; exact h) o
    have Hst := hid (fun W1 (hB1 : Below W.drew.heap.size W.drew W1) => hN.below (hbo W1 hB1 (.cells #[sv ys] 9)))
    have hnW := hid (show w.heap.size ≤ W.drew.heap.size from kp.size)
    have Hap := hid (fun W1 (hB1 : Below W.drew.heap.size W.drew W1) v' W2 (hN2 : NewStr w.heap.size W2 v' (ss ++ [ys])) (hg2 : (W1.alloc (.cells #[sv ys] 9)).grownBy W2 (Value.slice va ss.length vc).ownBlock) => by
      have hb := hbo W1 hB1 (.cells #[sv ys] 9)
      have hb2 : Below w.heap.size w (W1.alloc (.cells #[sv ys] 9)) := kp.trans (hb.mono kp.size)
      have h := sh_append (C := W4.heap.size) (Nat.le_refl _) ((hb.block _ bT.lt).trans bT) ((hb.block _ hv.lt).trans hv) (hN.below hb) ((hb.block _ bP.lt).trans bP) ((hb.block _ bK.lt).trans bK) hb2 hN2 hg2
      exact (show Boxed W2 (w.heap.size + 1) 47 (.slice va ss.length vc) ∧ ShInv w w.heap.size (.slice a zs.length cap) k (ss ++ [ys]) (W2.setCell ⟨w.heap.size + 1, 0, none⟩ v') ∧ KeepsFrom W4.heap.size W (W2.setCell ⟨w.heap.size + 1, 0, none⟩ v') from ⟨h.1, h.2.1, (keepsF_below hb).trans h.2.2⟩))
    have mixed : Try.prog.follows .mixedOrders = true := by kernel_rfl
    clear y1 y2 y3 y4 y5 hsn bT hv hN bP bK kp hbo Hkid IH HI0
    gi_wp2_with fail
    refine wpIn_region_round hro (by kernel_rfl) mixed ?_
    show wpAnyIn F _ _ _ _ _ 7 (Array.replicate 7 false) _ _
    refine wpAnyIn_take (i := 2) (v := .int .i64 (pm : Int)) hro rfl (by kernel_rfl) (by kernel_rfl) (by kernel_rfl) (fun _ _ _ h => h.2.2.elim) ⟨Or.inl ⟨by rfl, fun w => by go_simp⟩, fun _ => rfl⟩ ?_
    refine wpAnyIn_ready (rs := [0, 1]) (by kernel_rfl) (by simp) ?_
    refine AllReadyIn.cons rfl (fun K hK => ?_) (AllReadyIn.cons rfl (fun K hK => ?_) AllReadyIn.nil)
    · go_simp
      refine hK _ _ ?_
      clear hK K
      refine wpAnyIn_ready (rs := [1]) (by kernel_rfl) (by simp) ?_
      refine AllReadyIn.cons rfl (fun K hK => ?_) AllReadyIn.nil
      go_simp
      refine hK _ _ ?_
      clear hK K
      refine wpAnyIn_ready (rs := [3]) (by kernel_rfl) (by simp) ?_
      refine AllReadyIn.cons rfl (fun K hK => ?_) AllReadyIn.nil
      go_simp
      gi_wp2_with (first | ((try refine ⟨hdd _, ?_⟩); gi_at_call 13; refine Hc.out.mono ?_; rintro e W1 ⟨rfl, hB1⟩; have c1 := (Hcell.out W1 hB1).1; have c2 := (Hcell.out W1 hB1).2))
      refine wpAnyIn_ready (rs := [4]) (by kernel_rfl) (by simp) ?_
      refine AllReadyIn.cons rfl (fun K hK => ?_) AllReadyIn.nil
      go_simp
      refine hK _ _ ?_
      clear hK K
      refine wpAnyIn_ready (rs := [5]) (by kernel_rfl) (by simp) ?_
      refine AllReadyIn.cons rfl (fun K hK => ?_) AllReadyIn.nil
      rw [if_pos (by rfl)]
      refine opi_append_str _ _ _ rfl w.heap.size _ ss rfl (Hst.out W1 hB1) W1.heap.size ys rfl (cell_new _ _ _ _ rfl) (by omega) (by have := hnW.out; have := hB1.size; simp; omega) ?_
      intro v' W2 hN2 hg2
      refine hK _ _ ?_
      clear hK K
      obtain ⟨hb2, hv2, hk2⟩ := Hap.out W1 hB1 v' W2 hN2 hg2
      have f1 := hb2.cell
      have f2 := hb2.frozen
      obtain ⟨a2, c2, rfl⟩ := hN2.slice
      simp only [List.length_append, List.length_cons, List.length_nil, Nat.zero_add] at hk2 hv2
      refine wpAnyIn_ready (rs := [6]) (by kernel_rfl) (by simp) ?_
      refine AllReadyIn.cons rfl (fun K hK => ?_) AllReadyIn.nil
      go_simp
      refine hK _ _ ?_
      clear hK K
      refine wpAnyIn_done (by kernel_rfl) ?_ _
      exact ⟨hk2, by show ShInv w w.heap.size (.slice a zs.length cap) k ((x.kids.take (m + 1)).map Tr.show) _; rw [Hsn.out]; exact hv2⟩
    · go_simp
      refine hK _ _ ?_
      clear hK K
      refine wpAnyIn_ready (rs := [0, 3]) (by kernel_rfl) (by simp) ?_
      refine AllReadyIn.cons rfl (fun K hK => ?_) (AllReadyIn.cons rfl (fun K hK => ?_) AllReadyIn.nil)
      · go_simp
        refine hK _ _ ?_
        clear hK K
        refine wpAnyIn_ready (rs := [3]) (by kernel_rfl) (by simp) ?_
        refine AllReadyIn.cons rfl (fun K hK => ?_) AllReadyIn.nil
        go_simp
        gi_wp2_with (first | ((try refine ⟨hdd _, ?_⟩); gi_at_call 13; refine Hc.out.mono ?_; rintro e W1 ⟨rfl, hB1⟩; have c1 := (Hcell.out W1 hB1).1; have c2 := (Hcell.out W1 hB1).2))
        refine wpAnyIn_ready (rs := [4]) (by kernel_rfl) (by simp) ?_
        refine AllReadyIn.cons rfl (fun K hK => ?_) AllReadyIn.nil
        go_simp
        refine hK _ _ ?_
        clear hK K
        refine wpAnyIn_ready (rs := [5]) (by kernel_rfl) (by simp) ?_
        refine AllReadyIn.cons rfl (fun K hK => ?_) AllReadyIn.nil
        rw [if_pos (by rfl)]
        refine opi_append_str _ _ _ rfl w.heap.size _ ss rfl (Hst.out W1 hB1) W1.heap.size ys rfl (cell_new _ _ _ _ rfl) (by omega) (by have := hnW.out; have := hB1.size; simp; omega) ?_
        intro v' W2 hN2 hg2
        refine hK _ _ ?_
        clear hK K
        obtain ⟨hb2, hv2, hk2⟩ := Hap.out W1 hB1 v' W2 hN2 hg2
        have f1 := hb2.cell
        have f2 := hb2.frozen
        obtain ⟨a2, c2, rfl⟩ := hN2.slice
        simp only [List.length_append, List.length_cons, List.length_nil, Nat.zero_add] at hk2 hv2
        refine wpAnyIn_ready (rs := [6]) (by kernel_rfl) (by simp) ?_
        refine AllReadyIn.cons rfl (fun K hK => ?_) AllReadyIn.nil
        go_simp
        refine hK _ _ ?_
        clear hK K
        refine wpAnyIn_done (by kernel_rfl) ?_ _
        exact ⟨hk2, by show ShInv w w.heap.size (.slice a zs.length cap) k ((x.kids.take (m + 1)).map Tr.show) _; rw [Hsn.out]; exact hv2⟩
      · go_simp
        gi_wp2_with (first | ((try refine ⟨hdd _, ?_⟩); gi_at_call 13; refine Hc.out.mono ?_; rintro e W1 ⟨rfl, hB1⟩; have c1 := (Hcell.out W1 hB1).1; have c2 := (Hcell.out W1 hB1).2))
        refine wpAnyIn_ready (rs := [0, 4]) (by kernel_rfl) (by simp) ?_
        refine AllReadyIn.cons rfl (fun K hK => ?_) (AllReadyIn.cons rfl (fun K hK => ?_) AllReadyIn.nil)
        · go_simp
          refine hK _ _ ?_
          clear hK K
          refine wpAnyIn_ready (rs := [4]) (by kernel_rfl) (by simp) ?_
          refine AllReadyIn.cons rfl (fun K hK => ?_) AllReadyIn.nil
          go_simp
          refine hK _ _ ?_
          clear hK K
          refine wpAnyIn_ready (rs := [5]) (by kernel_rfl) (by simp) ?_
          refine AllReadyIn.cons rfl (fun K hK => ?_) AllReadyIn.nil
          rw [if_pos (by rfl)]
          refine opi_append_str _ _ _ rfl w.heap.size _ ss rfl (Hst.out W1 hB1) W1.heap.size ys rfl (cell_new _ _ _ _ rfl) (by omega) (by have := hnW.out; have := hB1.size; simp; omega) ?_
          intro v' W2 hN2 hg2
          refine hK _ _ ?_
          clear hK K
          obtain ⟨hb2, hv2, hk2⟩ := Hap.out W1 hB1 v' W2 hN2 hg2
          have f1 := hb2.cell
          have f2 := hb2.frozen
          obtain ⟨a2, c2, rfl⟩ := hN2.slice
          simp only [List.length_append, List.length_cons, List.length_nil, Nat.zero_add] at hk2 hv2
          refine wpAnyIn_ready (rs := [6]) (by kernel_rfl) (by simp) ?_
          refine AllReadyIn.cons rfl (fun K hK => ?_) AllReadyIn.nil
          go_simp
          refine hK _ _ ?_
          clear hK K
          refine wpAnyIn_done (by kernel_rfl) ?_ _
          exact ⟨hk2, by show ShInv w w.heap.size (.slice a zs.length cap) k ((x.kids.take (m + 1)).map Tr.show) _; rw [Hsn.out]; exact hv2⟩
        · go_simp
          refine hK _ _ ?_
          clear hK K
          refine wpAnyIn_ready (rs := [0]) (by kernel_rfl) (by simp) ?_
          refine AllReadyIn.cons rfl (fun K hK => ?_) AllReadyIn.nil
          go_simp
          refine hK _ _ ?_
          clear hK K
          refine wpAnyIn_ready (rs := [5]) (by kernel_rfl) (by simp) ?_
          refine AllReadyIn.cons rfl (fun K hK => ?_) AllReadyIn.nil
          rw [if_pos (by rfl)]
          refine opi_append_str _ _ _ rfl w.heap.size _ ss rfl (Hst.out W1 hB1) W1.heap.size ys rfl (cell_new _ _ _ _ rfl) (by omega) (by have := hnW.out; have := hB1.size; simp; omega) ?_
          intro v' W2 hN2 hg2
          refine hK _ _ ?_
          clear hK K
          obtain ⟨hb2, hv2, hk2⟩ := Hap.out W1 hB1 v' W2 hN2 hg2
          have f1 := hb2.cell
          have f2 := hb2.frozen
          obtain ⟨a2, c2, rfl⟩ := hN2.slice
          simp only [List.length_append, List.length_cons, List.length_nil, Nat.zero_add] at hk2 hv2
          refine wpAnyIn_ready (rs := [6]) (by kernel_rfl) (by simp) ?_
          refine AllReadyIn.cons rfl (fun K hK => ?_) AllReadyIn.nil
          go_simp
          refine hK _ _ ?_
          clear hK K
          refine wpAnyIn_done (by kernel_rfl) ?_ _
          exact ⟨hk2, by show ShInv w w.heap.size (.slice a zs.length cap) k ((x.kids.take (m + 1)).map Tr.show) _; rw [Hsn.out]; exact hv2⟩
  case done =>
    rintro D W hD hi hDd
    have hi' : ShInv w w.heap.size (.slice a zs.length cap) k (x.kids.map Tr.show) W := by
      have h : ShInv w w.heap.size (.slice a zs.length cap) k ((x.kids.take (Tm.room (zs[k]?.getD 0))).map Tr.show) W := hi
      rw [hrm, List.take_length] at h
      exact h
    clear hi
    have hsh := Tr.kids_show x
    have hxl := Tr.show_len x
    have hxl2 : x.flat.length ≤ 30 := by rw [hxf, Tm.part_length he hk]; have := Tm.end_in he hk; omega
    obtain ⟨b, off, rfl, hb, hc⟩ := ((HI.out.below hi'.kp).mono hi'.kp.size).at (by omega)
    have hck := hc k hk
    have hCl := hid (fun V n => hcin (n := n) (letter_any x.sy V hks))
    rw [← hsy] at hck
    obtain ⟨bT, ⟨v, hv, hN⟩, bP, bK, kp⟩ := hi'
    have cT := bT.cell
    have cV := hv.cell
    by_cases hnil : x.kids = []
    · rw [hnil, List.map_nil] at hN
      obtain ⟨va, vc, rfl⟩ := hN.slice
      rw [if_pos hnil] at hsh
      have Hsh := hid hsh
      have Hkp := hid kp
      clear hc hN bT hv bP bK Hkid IH HI0 HI kp hsh hxl hnil hks hsy hrm hxf hxl2
      gi_wp2_with ((try refine ⟨hdd _, ?_⟩); gi_at_call 24; refine (hCl.out _ _).mono ?_; rintro e W ⟨rfl, rfl⟩)
      refine ⟨by simp, .inl ⟨_, _, rfl, run_takeDeferred hDd, ?_⟩⟩
      refine ⟨_, results_tmp rfl _ _ _, ?_, Hkp.out.trans (belowK_b (w := w) (Nat.le_refl _) W D _ _ (by omega) hDd rfl rfl)⟩
      rw [Hsh.out]
      rfl
    · rw [if_neg hnil] at hsh
      have hkp : 0 < (x.kids.map Tr.show).length := by
        rw [List.length_map]
        exact List.length_pos_iff.2 hnil
      have hkl : (x.kids.map Tr.show).length ≤ 2 := by rw [List.length_map]; exact hk2
      have hjl : (Lib.join (x.kids.map Tr.show) [44]).length ≤ 200 := by
        rw [hsh] at hxl
        simp only [List.length_cons, List.length_append, List.length_nil] at hxl
        omega
      obtain ⟨va, vc, ev, _⟩ := hN.at hkp
      subst ev
      have Hsh := hid hsh
      have Hkp := hid kp
      have hnz : (((x.kids.map Tr.show).length : Int) == 0) = false := by rw [beq_eq_false_iff_ne]; omega
      have hCj := hid (fun V (hV : Below W.heap.size W V) => join_any (hN.below hV) hkp (by omega) (by omega))
      have hS := hid (fun V (hV : Below W.heap.size W V) => (show V.cell? ⟨w.heap.size, 0, none⟩ = some (.slice (some ⟨b, off, none⟩) zs.length cap) ∧ V.cell? ⟨w.heap.size + 1, 0, none⟩ = some (.slice (some ⟨va, 0, none⟩) (x.kids.map Tr.show).length vc) ∧ V.cell? ⟨b, off + k, none⟩ = some (.int .i64 x.sy) from
        ⟨(hV.cell (p := ⟨w.heap.size, 0, none⟩) bT.lt).trans cT, (hV.cell (p := ⟨w.heap.size + 1, 0, none⟩) hv.lt).trans cV, (hV.cell (p := ⟨b, off + k, none⟩) (by simpa using lt_of_cell hck)).trans hck⟩))
      have hCl2 := hid (fun V => letter_any x.sy V hks)
      clear hc hN bT hv bP bK Hkid IH HI0 HI kp hsh hxl hnil hks hkp hCl hsy hrm hxf hxl2
      generalize Tm.letr x.sy = bl at *
      generalize x.sy = s at *
      generalize Lib.join (x.kids.map Tr.show) [44] = jj at *
      generalize (x.kids.map Tr.show).length = nl at *
      gi_wp2_with fail
      rw [HF.out]
      refine wpIn_wide.2 ?_
      have q8 : ¬ 9223372036854775807 < 2 + jj.length := by omega
      have q9 : ¬ 9223372036854775807 < 2 + jj.length + 1 := by omega
      have hBd : Below W.heap.size W W.drew := below_drewN (Below.refl _ W) 1
      have hS0 := hS.out W (Below.refl _ W)
      have hSd := hS.out W.drew hBd
      go_region_held3 (fun w' => w'.cell? ⟨w.heap.size, 0, none⟩ = some (.slice (some ⟨b, off, none⟩) zs.length cap) ∧ w'.cell? ⟨w.heap.size + 1, 0, none⟩ = some (.slice (some ⟨va, 0, none⟩) nl vc) ∧ w'.cell? ⟨b, off + k, none⟩ = some (.int .i64 s)) (first | assumption | exact hS0 | exact hSd | exact hS1) (first
        | (go_at_call 24; refine (hCl2.out W.drew).mono ?_; rintro e w' ⟨rfl, rfl⟩)
        | (go_at_call 25; refine (hCj.out W.drew hBd).mono ?_; rintro e W1 ⟨rfl, hB1⟩; have hB1' := hBd.trans (hB1.mono hBd.size); have hS1 := hS.out W1 hB1'))
      gi_wp2
      have hDd2 : W1.heap[D]? = some (.deferred (some [])) := (hB1'.block D (Array.getElem?_eq_some_iff.1 hDd).1).trans hDd
      refine ⟨by simp, .inl ⟨_, _, rfl, run_takeDeferred hDd2, ?_⟩⟩
      refine ⟨_, results_tmp rfl _ _ _, ?_, (Hkp.out.trans (hB1'.mono Hkp.out.size)).trans (belowK_b (w := w) (Nat.le_refl _) W1 D _ _ (by omega) hDd2 rfl rfl)⟩
      rw [Hsh.out]
      simp only [sv_cat]
      simp
  case stop =>
    rintro D c W _ h _
    exact h.elim
  case panic => exact fun _ _ _ _ h => h.elim

theorem shown_all (zs : List Int) (a : Option Addr) (cap : Nat) (he : Tm.err zs = 0) : ∀ (m k : Nat) (x : Tr) (w : World), zs.length - k ≤ m → k < zs.length → x.ok → x.knows → x.flat = Tm.part zs k → Ints w.heap.size w a zs →
    Calls Try.prog 13 #[.slice a zs.length cap, .int .i64 (k : Int)] w fun e w' => e = .returned (sv x.show) ∧ Below w.heap.size w w' := by
  intro m
  induction m with
  | zero => intro k x w h1 h2; omega
  | succ m ih =>
    intro k x w h1 h2 h3 h4 h5 h6
    exact shown_step zs a cap k w he h2 h6 x h3 h4 h5 (fun p W y g1 g2 g3 g4 g5 g6 => ih p y W (by omega) g2 g3 g4 g5 g6)

/-- What text.Show answers. -/
def Tm.ShowSays (t : List Int) (l : List UInt8) (e : Int) : Prop := (e = 0 ∧ Tm.err t = 0 ∧ ∃ x : Tr, x.ok ∧ x.knows ∧ x.flat = t ∧ x.flat.length ≤ 30 ∧ l = x.show) ∨ (e ≠ 0 ∧ e = Tm.err t ∧ l = [])
set_option maxRecDepth 100000 in
set_option maxHeartbeats 1000000 in
theorem show_any (t : List Int) (a : Option Addr) (cap : Nat) (w : World) (hI : Ints w.heap.size w a t) :
    Calls Try.prog 5 #[.slice a t.length cap] w fun e w' => ∃ l er, Tm.ShowSays t l er ∧ e = .returned (.tuple #[sv l, .int .i64 er]) ∧ Below w.heap.size w w' := by
  have hC := hid (check_any t a cap w hI)
  by_cases he : Tm.err t = 0
  · obtain ⟨x, x1, x2, x3, x4⟩ := Tr.of_right he
    have hS := hid (fun W (hW : Below w.heap.size w W) => shown_all t a cap he t.length 0 x W (by omega) (Tm.err_pos he) x1 x2 (by rw [x3, Tm.part_whole he]) ((hI.below hW).mono hW.size))
    have Hsay : Hid (Tm.ShowSays t x.show 0) := .inl ⟨rfl, he, x, x1, x2, x3, x4, rfl⟩
    rw [he] at hC
    clear he x1 x2 x3 x4 hI
    generalize x.show = l at *
    go_enter Try.func5, Try.ntmps5
    go_wp2_with fail
    refine hC.out.mono ?_
    rintro e w1 ⟨rfl, b1⟩
    go_wp2_with fail
    refine (hS.out w1 b1).mono ?_
    rintro e w2 ⟨rfl, b2⟩
    go_wp2
    go_ret2
    exact ⟨l, 0, Hsay.out, rfl, b1.trans (b2.mono b1.size)⟩
  · have Hsay : Hid (Tm.ShowSays t [] (Tm.err t)) := .inr ⟨he, rfl, rfl⟩
    have hne : (Tm.err t != 0) = true := by simpa using he
    clear he hI
    generalize Tm.err t = q at *
    go_enter Try.func5, Try.ntmps5
    go_wp2_with fail
    refine hC.out.mono ?_
    rintro e w1 ⟨rfl, b1⟩
    go_wp2
    go_ret2
    exact ⟨[], q, Hsay.out, rfl, b1⟩

end Go.Proofs.Ytcgljcbpcchcjaa

namespace Go.Proofs.Ytcgljcbpcchcjaa
open Go.Proofs Go.RowKit Go.Shelf Go.Maps

/-- The reader in memory: what is left of the text, and the signs so far. -/
def Rd2 (W : World) (R : Nat) (x y : Value) : Prop := W.heap[R]? = some (.cells #[x, y] 62 (0, 0))
theorem Rd2.lt {W : World} {R : Nat} {x y : Value} (h : Rd2 W R x y) : R < W.heap.size := (Array.getElem?_eq_some_iff.1 h).1
theorem Rd2.cell0 {W : World} {R : Nat} {x y : Value} (h : Rd2 W R x y) : W.cell? ⟨R, 0, none⟩ = some x := by simp [World.cell?, show W.heap[R]? = _ from h]
theorem Rd2.cell1 {W : World} {R : Nat} {x y : Value} (h : Rd2 W R x y) : W.cell? ⟨R, 1, none⟩ = some y := by simp [World.cell?, show W.heap[R]? = _ from h]
theorem Rd2.frozen {W : World} {R : Nat} {x y : Value} (h : Rd2 W R x y) (i : Nat) : W.frozen? ⟨R, i, none⟩ = false := by simp [World.frozen?, show W.heap[R]? = _ from h]
theorem Rd2.new (W : World) (x y : Value) : Rd2 (W.alloc (.cells #[x, y] 62)) W.heap.size x y := World.alloc_heap_new W _
theorem Rd2.kept {W W' : World} {row : Option Nat} {R : Nat} {x y : Value} (h : Rd2 W R x y) (hg : W.grownBy W' row) (hne : some R ≠ row) : Rd2 W' R x y := (hg.block R h.lt hne).trans h
theorem Rd2.set0 {W : World} {R : Nat} {x y : Value} (h : Rd2 W R x y) (v : Value) : Rd2 (W.setCell ⟨R, 0, none⟩ v) R v y := by
  obtain ⟨hlt, hx⟩ := Array.getElem?_eq_some_iff.1 h
  show (W.heap.modify R _)[R]? = _
  rw [Array.getElem?_eq_getElem (by rw [Array.size_modify]; exact hlt), Array.getElem_modify_self, hx]
  rfl
theorem Rd2.set1 {W : World} {R : Nat} {x y : Value} (h : Rd2 W R x y) (v : Value) : Rd2 (W.setCell ⟨R, 1, none⟩ v) R x v := by
  obtain ⟨hlt, hx⟩ := Array.getElem?_eq_some_iff.1 h
  show (W.heap.modify R _)[R]? = _
  rw [Array.getElem?_eq_getElem (by rw [Array.size_modify]; exact hlt), Array.getElem_modify_self, hx]
  rfl

/-- What a reader leaves by. -/
def formChain : List PanicEntry := [{ v := .iface 24 (.int .i64 1), recovered := false }]

set_option maxRecDepth 100000 in
set_option maxHeartbeats 1000000 in
theorem next_nil (R : Nat) (y : Value) (w : World) (h : Rd2 w R (sv []) y) : Calls Try.prog 36 #[.pointer (some ⟨R, 0, none⟩)] w fun e w' => e = .panicked formChain ∧ w' = w := by
  have c0 := h.cell0
  clear h
  go_enter Try.func36, Try.ntmps36
  go_wp2
  exact ⟨rfl, rfl, rfl⟩

theorem sv_tail (b : UInt8) (l : List UInt8) : (⟨(b :: l).toArray⟩ : ByteArray).extract 1 (l.length + 1) = ⟨l.toArray⟩ := by
  apply ByteArray.ext
  rw [ByteArray.data_extract]
  simp

set_option maxRecDepth 100000 in
set_option maxHeartbeats 1000000 in
theorem next_cons (R : Nat) (b : UInt8) (l : List UInt8) (y : Value) (w : World) (hl : l.length ≤ 5000) (h : Rd2 w R (sv (b :: l)) y) : Calls Try.prog 36 #[.pointer (some ⟨R, 0, none⟩)] w fun e w' => e = .returned (.int .u8 (b.toNat : Int)) ∧ w' = w.setCell ⟨R, 0, none⟩ (sv l) := by
  have c0 := h.cell0
  have f0 := h.frozen 0
  clear h
  go_enter Try.func36, Try.ntmps36
  go_wp2
  go_ret
  exact ⟨rfl, by rw [sv_tail]⟩

set_option maxRecDepth 100000 in
set_option maxHeartbeats 1000000 in
theorem mark_yes (R : Nat) (b : UInt8) (l : List UInt8) (y : Value) (w : World) (hl : l.length ≤ 5000) (h : Rd2 w R (sv (b :: l)) y) : Calls Try.prog 37 #[.pointer (some ⟨R, 0, none⟩), .int .u8 (b.toNat : Int)] w fun e w' => e = .returned (.tuple #[]) ∧ w' = w.setCell ⟨R, 0, none⟩ (sv l) := by
  have hC := hid (next_cons R b l y w hl h)
  have hbb : ((b.toNat : Int) != (b.toNat : Int)) = false := by simp
  clear h
  go_enter Try.func37, Try.ntmps37
  go_wp2_with (go_at_call 36; refine hC.out.mono ?_; rintro e w1 ⟨rfl, rfl⟩)
  go_end0
  exact ⟨rfl, rfl⟩
set_option maxRecDepth 100000 in
set_option maxHeartbeats 1000000 in
theorem mark_no (R : Nat) (c : UInt8) (l : List UInt8) (y : Value) (w : World) (hl : l.length ≤ 5000) (h : Rd2 w R (sv l) y) (hm : Tm.mark c l = none) : Calls Try.prog 37 #[.pointer (some ⟨R, 0, none⟩), .int .u8 (c.toNat : Int)] w fun e w' => e = .panicked formChain ∧ Below R w w' := by
  cases l with
  | nil =>
    have hC := hid (next_nil R y w h)
    clear h
    go_enter Try.func37, Try.ntmps37
    go_wp2_with (go_at_call 36; refine hC.out.mono ?_; rintro e w1 ⟨rfl, rfl⟩)
    exact ⟨rfl, rfl, Below.refl _ _⟩
  | cons b l =>
    have hC := hid (next_cons R b l y w (by simp at hl; omega) h)
    have hbb : ((b.toNat : Int) != (c.toNat : Int)) = true := by
      rw [bne_iff_ne]
      intro e
      rw [Tm.mark, if_pos (UInt8.toNat_inj.1 (by omega))] at hm
      cases hm
    clear h hm
    go_enter Try.func37, Try.ntmps37
    go_wp2_with (go_at_call 36; refine hC.out.mono ?_; rintro e w1 ⟨rfl, rfl⟩)
    exact ⟨rfl, rfl, (Below.refl _ _).setCell (p := ⟨R, 0, none⟩) (Nat.le_refl _) _⟩

theorem Tm.sgn_index (b : UInt8) : (0 ≤ Lib.indexByte Tm.symL b ∧ Tm.sgn b = some (Lib.indexByte Tm.symL b)) ∨ (Lib.indexByte Tm.symL b = -1 ∧ ((0 ≤ Lib.indexByte Tm.varL b ∧ Lib.indexByte Tm.varL b ≤ 7 ∧ Tm.sgn b = some (-1 - Lib.indexByte Tm.varL b)) ∨ (Lib.indexByte Tm.varL b = -1 ∧ Tm.sgn b = none))) :=
  byte_all (p := fun b => (0 ≤ Lib.indexByte Tm.symL b ∧ Tm.sgn b = some (Lib.indexByte Tm.symL b)) ∨ (Lib.indexByte Tm.symL b = -1 ∧ ((0 ≤ Lib.indexByte Tm.varL b ∧ Lib.indexByte Tm.varL b ≤ 7 ∧ Tm.sgn b = some (-1 - Lib.indexByte Tm.varL b)) ∨ (Lib.indexByte Tm.varL b = -1 ∧ Tm.sgn b = none)))) (by decide +kernel) b
theorem index_any (s : ByteArray) (b : UInt8) (w : World) : Calls Try.prog 40 #[.string s, .int .u8 (b.toNat : Int)] w fun e w' => e = .returned (.int .i64 (Lib.indexByte s.data.toList b)) ∧ w' = w := by
  have h := Try.strings_IndexByte s (b.toNat : Int) w
  rw [show (b.toNat : Int).toNat.toUInt8 = b by simp] at h
  exact h
set_option maxRecDepth 100000 in
set_option maxHeartbeats 1000000 in
theorem signOf_any (b : UInt8) (w : World) : Calls Try.prog 35 #[.int .u8 (b.toNat : Int)] w fun e w' => w' = w ∧ ((∃ s, Tm.sgn b = some s ∧ e = .returned (.int .i64 s)) ∨ (Tm.sgn b = none ∧ e = .panicked formChain)) := by
  have h1 := hid (fun W => index_any ⟨#[97, 98, 103, 104, 102, 107]⟩ b W)
  have h2 := hid (fun W => index_any ⟨#[120, 121, 122, 119, 112, 113, 114, 115]⟩ b W)
  rw [show (⟨#[97, 98, 103, 104, 102, 107]⟩ : ByteArray).data.toList = Tm.symL from rfl] at h1
  rw [show (⟨#[120, 121, 122, 119, 112, 113, 114, 115]⟩ : ByteArray).data.toList = Tm.varL from rfl] at h2
  have hc := Tm.sgn_index b
  generalize Tm.sgn b = q at *
  generalize Lib.indexByte Tm.symL b = i1 at *
  generalize Lib.indexByte Tm.varL b = i2 at *
  rcases hc with ⟨g1, rfl⟩ | ⟨rfl, ⟨g1, g2, rfl⟩ | ⟨rfl, rfl⟩⟩
  · go_enter Try.func35, Try.ntmps35
    go_wp2_with (go_at_call 40; refine (h1.out w).mono ?_; rintro e w ⟨rfl, rfl⟩)
    go_ret
    exact ⟨rfl, .inl ⟨_, rfl, rfl⟩⟩
  · go_enter Try.func35, Try.ntmps35
    go_wp2_with fail
    refine (h1.out w).mono ?_
    rintro e w ⟨rfl, rfl⟩
    go_wp2_with fail
    refine (h2.out w).mono ?_
    rintro e w ⟨rfl, rfl⟩
    go_wp2
    go_ret
    exact ⟨rfl, .inl ⟨_, rfl, rfl⟩⟩
  · go_enter Try.func35, Try.ntmps35
    go_wp2_with fail
    refine (h1.out w).mono ?_
    rintro e w ⟨rfl, rfl⟩
    go_wp2_with fail
    refine (h2.out w).mono ?_
    rintro e w ⟨rfl, rfl⟩
    go_wp2
    exact ⟨rfl, rfl, .inr ⟨trivial, rfl⟩⟩

end Go.Proofs.Ytcgljcbpcchcjaa
