/-
  signs.Room, signs.Parts, signs.End within a fence that holds all functions that there are; lists of up to 5000 signs. · signs.End, of lists of up to 5000 signs, within the fence. · signs.End, of lists of up to 5000 signs, at every place. · PLAIN MATHEMATICS of the order at places of two terms; a map whose keys are two numbers. · (*sides).same; what stands while it is asked which is above. · (*sides).same. · (*sides).above, one step. · (*sides).byPart. · (*sides).byFirstThatDiffers.
-/
import Derived.Test.YtloealnfbpegnabBun6
import Derived.DeepKeys4
import Derived.Deep.RegionHeld3
import Derived.Deep.QuietTactic
import Derived.BigQuiet
import Derived.Deep.DrawnRows
import Derived.Shelf.RegionOpen
namespace Go.Proofs.Ytloealnfbpegnab
open Go.Proofs Go.RowKit Go.Shelf

attribute [local go_sem] Oper.semAt_some

/-- The fence of all functions that there are. -/
def Fx : Fence := { fn := fun f => ∃ fn, Try.prog.funcs[f]? = some fn, depth := none, alive := false }
/-- A fence that bars nothing. -/
def Pl (F : Fence) : Prop := F.round = none ∧ (∀ f fn, Try.prog.funcs[f]? = some fn → F.fn f) ∧ F.depth = none
theorem fx_pl : Pl Fx := ⟨rfl, fun _ fn h => ⟨fn, h⟩, rfl⟩
theorem wide_pl : Pl Fence.wide := ⟨rfl, fun _ _ _ => trivial, rfl⟩
theorem fx_all : ∀ fn, Fx.fn fn → ∃ f, Try.prog.funcs[fn]? = some f := fun _ h => h
theorem fx_facts {F : Fence} (hF : Pl F) : F.round = none ∧ (∀ f fn, Try.prog.funcs[f]? = some fn → F.fn f) ∧ ∀ k : Nat, (F.depth.isSome = true → 1 ≤ k) := by
  obtain ⟨h1, h2, h3⟩ := hF
  exact ⟨h1, h2, fun k h => by rw [h3] at h; simp at h⟩
theorem fx_calls {n : Nat} {f : FuncId} {args : Array Value} {w : World} {R : Ending → World → Prop} (h : CallsIn Fx n Try.prog f args w R) : Calls Try.prog f args w R := h.calls (fun k d hd => by simp [Fx] at hd)

set_option maxHeartbeats 400000 in
theorem room_in (F : Fence) (hF : Pl F) (n : Nat) (s : Int) (w : World) : CallsIn F n Try.prog 70 #[.int .i64 s] w fun e w' => e = .returned (.int .i64 (Tm.room s : Int)) ∧ w' = w := by
  obtain ⟨hro, hfn, hdd⟩ := fx_facts hF
  have hf := hfn _ _ Try.func70
  clear hF hfn
  by_cases h2 : s = 2
  · subst h2; refine callsIn_of_wp Try.func70 rfl hf ?_ hro; simp only [Try.ntmps70, List.size_toArray, List.length_cons, List.length_nil, Nat.reduceAdd, Nat.reduceSub, Array.replicate_succ, Array.replicate_zero, List.push_toArray, List.append_toArray, List.nil_append, List.cons_append]; gi_wp2; go_ret; exact ⟨rfl, rfl⟩
  by_cases h3 : s = 3
  · subst h3; refine callsIn_of_wp Try.func70 rfl hf ?_ hro; simp only [Try.ntmps70, List.size_toArray, List.length_cons, List.length_nil, Nat.reduceAdd, Nat.reduceSub, Array.replicate_succ, Array.replicate_zero, List.push_toArray, List.append_toArray, List.nil_append, List.cons_append]; gi_wp2; go_ret; exact ⟨rfl, rfl⟩
  by_cases h4 : s = 4
  · subst h4; refine callsIn_of_wp Try.func70 rfl hf ?_ hro; simp only [Try.ntmps70, List.size_toArray, List.length_cons, List.length_nil, Nat.reduceAdd, Nat.reduceSub, Array.replicate_succ, Array.replicate_zero, List.push_toArray, List.append_toArray, List.nil_append, List.cons_append]; gi_wp2; go_ret; exact ⟨rfl, rfl⟩
  by_cases h5 : s = 5
  · subst h5; refine callsIn_of_wp Try.func70 rfl hf ?_ hro; simp only [Try.ntmps70, List.size_toArray, List.length_cons, List.length_nil, Nat.reduceAdd, Nat.reduceSub, Array.replicate_succ, Array.replicate_zero, List.push_toArray, List.append_toArray, List.nil_append, List.cons_append]; gi_wp2; go_ret; exact ⟨rfl, rfl⟩
  have e : Tm.room s = 0 := by simp [Tm.room, h2, h3, h4, h5]
  have b2 : (s == 2) = false := by simp [h2]
  have b3 : (s == 3) = false := by simp [h3]
  have b4 : (s == 4) = false := by simp [h4]
  have b5 : (s == 5) = false := by simp [h5]
  clear h2 h3 h4 h5
  rw [e]
  clear e
  refine callsIn_of_wp Try.func70 rfl hf ?_ hro; simp only [Try.ntmps70, List.size_toArray, List.length_cons, List.length_nil, Nat.reduceAdd, Nat.reduceSub, Array.replicate_succ, Array.replicate_zero, List.push_toArray, List.append_toArray, List.nil_append, List.cons_append]
  gi_wp2
  go_ret
  exact ⟨rfl, rfl⟩

set_option maxHeartbeats 400000 in
theorem partsx_in (F : Fence) (hF : Pl F) (n : Nat) (a : Option Addr) (len cap : Nat) (k : Int) (w : World) :
    CallsIn F n Try.prog 59 #[.slice a len cap, .int .i64 k] w fun e w' => e = .returned (.func (.func 69) #[] #[.pointer (some ⟨w.heap.size + 1, 0, none⟩), .pointer (some ⟨w.heap.size, 0, none⟩)]) ∧
      w' = (w.alloc (.cells #[.slice a len cap] 23)).alloc (.cells #[.int .i64 k] 3) := by
  obtain ⟨hro, hfn, hdd⟩ := fx_facts hF
  have hf := hfn _ _ Try.func59
  clear hF hfn
  refine callsIn_of_wp Try.func59 rfl hf ?_ hro
  simp only [Try.ntmps59, List.size_toArray, List.length_cons, List.length_nil, Nat.reduceAdd, Nat.reduceSub, Array.replicate_succ, Array.replicate_zero, List.push_toArray, List.append_toArray, List.nil_append, List.cons_append]
  gi_wp2
  go_ret
  exact ⟨rfl, rfl⟩

def encPart (zs : List Int) (k i : Nat) : Array Value := #[.int .i64 (Tm.pos zs k i : Int), .int .i64 (Tm.pos zs k (i + 1) : Int)]
/-- What the iterator reads. -/
def PartsRd (Bk Bt k cap : Nat) (a : Option Addr) (zs : List Int) (W : World) : Prop := W.cell? ⟨Bk, 0, none⟩ = some (.int .i64 (k : Int)) ∧ W.cell? ⟨Bt, 0, none⟩ = some (.slice a zs.length cap) ∧ Ints W.heap.size W a zs

/-- signs.End at places beyond k. -/
def EndsBeyond (F : Fence) (a : Option Addr) (cap : Nat) (zs : List Int) (k : Nat) : Prop :=
  ∀ (n p : Nat) (W : World), k < p → p ≤ 20000 → Ints W.heap.size W a zs → CallsIn F n Try.prog 37 #[.slice a zs.length cap, .int .i64 (p : Int)] W fun e W' => e = .returned (.int .i64 (Tm.endAt zs p : Int)) ∧ Below W.heap.size W W'

set_option maxRecDepth 100000 in
set_option maxHeartbeats 1000000 in
theorem parts_steps (F : Fence) (hF : Pl F) (n Bk Bt k cap : Nat) (a : Option Addr) (zs : List Int) (hlen : zs.length ≤ 5000) (hk : k < zs.length) (hE : EndsBeyond F a cap zs k) :
    SeqSteps F n Try.prog 69 #[.pointer (some ⟨Bk, 0, none⟩), .pointer (some ⟨Bt, 0, none⟩)] (encPart zs k) (Tm.room (zs[k]?.getD 0)) (PartsRd Bk Bt k cap a zs) := by
  intro l J Jx Jp W hJ hR hY h0
  obtain ⟨hro, hfn, hdd⟩ := fx_facts hF
  have hroom : ∀ n W, CallsIn F n Try.prog 70 #[.int .i64 (zs[k]?.getD 0)] W fun e w' => e = .returned (.int .i64 (Tm.room (zs[k]?.getD 0) : Int)) ∧ w' = W := fun n W => room_in F hF n _ W
  clear hF
  have hf55 := hfn _ _ Try.func69
  have hf56 := hfn _ _ Try.func70
  have hf32 := hfn _ _ Try.func37
  have hr2 := Tm.room_le (zs[k]?.getD 0)
  obtain ⟨hbk, hbt, hI⟩ := hR 0 W h0
  obtain ⟨b, off, rfl, hb, hc⟩ := hI.at (by omega)
  have hck := hc k hk
  have hkl : (k : Int) < (zs.length : Int) := by omega
  have hl5 : (zs.length : Int) ≤ 5000 := by omega
  generalize hrdef : Tm.room (zs[k]?.getD 0) = r at *
  clear hrdef
  generalize zs[k]?.getD 0 = s at *
  have HY := hid hY
  have HE := hid hE
  have HRm := hid hroom
  have HR := hid hR
  clear hY hE hc hI hroom hR
  refine callsIn_of_wp Try.func69 rfl hf55 ?_ hro
  simp only [Try.ntmps69, List.size_toArray, List.length_cons, List.length_nil, Nat.reduceAdd, Nat.reduceSub, Array.replicate_succ, Array.replicate_zero, List.push_toArray, List.append_toArray, List.nil_append, List.cons_append]
  gi_wp2_with ((try refine ⟨hdd _, ?_⟩); gi_at_call 70; refine (HRm.out _ _).mono ?_; rintro e W ⟨rfl, rfl⟩)
  gi_loopw [4, 13] (fun p i wr => ∃ m : Nat, m ≤ r ∧ i = .int .i64 (m : Int) ∧ p = .int .i64 (Tm.pos zs k m : Int) ∧ J m wr)
    (fun _ i _ => r - (intOf i).toNat)
  case atStart => exact ⟨0, Nat.zero_le _, rfl, by rw [Tm.pos_zero]; rfl, h0⟩
  case round =>
    obtain ⟨m, hm, rfl, rfl, hJs⟩ := hrel
    obtain ⟨_, hbt', hI'⟩ := HR.out m wr hJs
    by_cases hlt : m < r
    · have hlt' : (m : Int) < (r : Int) := by omega
      have h1' := (HE.out (n - 1) (Tm.pos zs k m) wr (Tm.pos_gt _ _ _) (by have := Tm.pos_le zs k m; omega) hI').mono (R' := fun e W1 => e = .returned (.int .i64 (Tm.pos zs k (m + 1) : Int)) ∧ YieldAt F (n - 1) Try.prog l #[.int .i64 (Tm.pos zs k m : Int), .int .i64 (Tm.pos zs k (m + 1) : Int)] W1 fun e W' =>
          (e = .returned (.bool true) ∧ J (m + 1) W') ∨ (e = .returned (.bool false) ∧ Jx W') ∨ ∃ ch, e = .panicked ch ∧ Jp ch W')
        (fun e W1 ⟨he, hB⟩ => ⟨by rw [Tm.pos_succ]; exact he, by
          have hJ1 := hJ _ _ _ none hJs (grown_of_below hB) (fun r e => by cases e)
          refine YieldAt.mono (HY.out m W1 hJ1 hlt) fun e W2 h => ?_
          exact h⟩)
      gi_wp2_with (first
        | ((try refine ⟨hdd _, ?_⟩); gi_at_call 37; refine h1'.mono ?_; clear h1'; rintro e W1 ⟨rfl, fn, tmps, assign, body, hy, hR⟩)
        | ((try refine ⟨hdd _, ?_⟩); refine hR.mono ?_; clear hR; rintro e W2 (⟨rfl, hJ2⟩ | ⟨rfl, hx2⟩ | ⟨ch, rfl, hp2⟩)))
      · exact ⟨⟨m + 1, by omega, by go_num, rfl, hJ2⟩, by simp [intOf]; omega⟩
      · refine bodyPost_ret (results_none rfl _ _ _) rfl ?_
        exact .inl ⟨⟨_, rfl⟩, .inr hx2⟩
      · exact ⟨rfl, .inr ⟨ch, rfl, hp2⟩⟩
    · obtain rfl : m = r := by omega
      have hlt' : ¬ (m : Int) < (m : Int) := by omega
      gi_wp2
      go_end0
      exact .inl ⟨⟨_, rfl⟩, .inl hJs⟩

end Go.Proofs.Ytloealnfbpegnab

namespace Go.Proofs.Ytloealnfbpegnab
open Go.Proofs Go.RowKit Go.Shelf

attribute [local go_sem] Oper.semAt_some

set_option maxHeartbeats 400000 in
theorem endx_out (F : Fence) (hF : Pl F) (n : Nat) (a : Option Addr) (len cap k : Nat) (w : World) (hk : len ≤ k) (hk2 : k ≤ 20000) :
    CallsIn F n Try.prog 37 #[.slice a len cap, .int .i64 (k : Int)] w fun e w' => e = .returned (.int .i64 ((k : Int) + 1)) ∧ Below w.heap.size w w' := by
  have h1 : (len : Int) ≤ (k : Int) := by omega
  have h2 : (k : Int) ≤ 20000 := by omega
  have h3 : (0 : Int) ≤ (k : Int) := by omega
  obtain ⟨hro, hfn, hdd⟩ := fx_facts hF
  have hf := hfn _ _ Try.func37
  clear hF hfn
  refine callsIn_of_wp Try.func37 rfl hf ?_ hro
  simp only [Try.ntmps37, List.size_toArray, List.length_cons, List.length_nil, Nat.reduceAdd, Nat.reduceSub, Array.replicate_succ, Array.replicate_zero, List.push_toArray, List.append_toArray, List.nil_append, List.cons_append]
  gi_wp2
  go_ret
  exact ⟨rfl, (Below.refl _ _).alloc (Nat.le_refl _) _⟩

theorem partsRd_of {Bk Bt k cap : Nat} {a : Option Addr} {zs : List Int} {w W : World} (hk : Boxed W Bk 3 (.int .i64 (k : Int))) (ht : Boxed W Bt 23 (.slice a zs.length cap)) (hI : Ints w.heap.size w a zs) (hB : Below w.heap.size w W) : PartsRd Bk Bt k cap a zs W :=
  ⟨hk.cell, ht.cell, (hI.below hB).mono hB.size⟩

set_option maxRecDepth 100000 in
set_option maxHeartbeats 1000000 in
theorem endx_step (F : Fence) (hF : Pl F) (n : Nat) (a : Option Addr) (cap k : Nat) (zs : List Int) (w : World) (hn : 3 ≤ n) (hlen : zs.length ≤ 5000) (hk : k < zs.length) (hI : Ints w.heap.size w a zs) (hE : EndsBeyond F a cap zs k) :
    CallsIn F n Try.prog 37 #[.slice a zs.length cap, .int .i64 (k : Int)] w fun e w' => e = .returned (.int .i64 (Tm.endAt zs k : Int)) ∧ Below w.heap.size w w' := by
  obtain ⟨hro, hfn, hdd⟩ := fx_facts hF
  have HF : Hid (Pl F) := hF
  have HE := hid hE
  clear hF hE
  have hf32 := hfn _ _ Try.func37
  have hf49 := hfn _ _ Try.func59
  have hf55 := hfn _ _ Try.func69
  clear hfn
  have hlt : (k : Int) < (zs.length : Int) := by omega
  have h30 : (zs.length : Int) ≤ 5000 := by omega
  have hk0 : (0 : Int) ≤ (k : Int) := by omega
  rw [Tm.endAt_in zs k hk]
  refine callsIn_of_wp_marks Try.func37 rfl hf32 ?_ hro
  simp only [Try.ntmps37, List.size_toArray, List.length_cons, List.length_nil, Nat.reduceAdd, Nat.reduceSub, Array.replicate_succ, Array.replicate_zero, List.push_toArray, List.append_toArray, List.nil_append, List.cons_append]
  gi_wp2_with ((try refine ⟨hdd _, ?_⟩); gi_at_call 59; refine (partsx_in F HF.out _ _ _ _ _ _).mono ?_; rintro e w' ⟨rfl, rfl⟩)
  have bE := ((Boxed.new w 3 (.int .i64 ((k : Int) + 1))).alloc (.cells #[.slice a zs.length cap] 23)).alloc (.cells #[.int .i64 (k : Int)] 3)
  have bT := (Boxed.new (w.alloc (.cells #[.int .i64 ((k : Int) + 1)] 3)) 23 (.slice a zs.length cap)).alloc (.cells #[.int .i64 (k : Int)] 3)
  have bK := Boxed.new ((w.alloc (.cells #[.int .i64 ((k : Int) + 1)] 3)).alloc (.cells #[.slice a zs.length cap] 23)) 3 (.int .i64 (k : Int))
  rw [World.size_alloc] at bT
  rw [World.size_alloc, World.size_alloc] at bK
  have hB0 : Below w.heap.size w (((w.alloc (.cells #[.int .i64 ((k : Int) + 1)] 3)).alloc (.cells #[.slice a zs.length cap] 23)).alloc (.cells #[.int .i64 (k : Int)] 3)) := (((Below.refl _ w).alloc (Nat.le_refl _) _).alloc (by simp) _).alloc (by simp; omega) _
  refine wpIn_rangeSteps hro (by omega) (gf := 69) (lb := #[.pointer (some ⟨w.heap.size + 1 + 1, 0, none⟩), .pointer (some ⟨w.heap.size + 1, 0, none⟩)]) rfl hf55 (enters_of Try.func69 (by kernel_rfl) rfl)
    (parts_steps F HF.out _ (w.heap.size + 1 + 1) (w.heap.size + 1) k cap a zs hlen hk HE.out) (fun _ => rfl)
    (fun i W => Boxed W w.heap.size 3 (.int .i64 (Tm.pos zs k i : Int)) ∧ Boxed W (w.heap.size + 1 + 1) 3 (.int .i64 (k : Int)) ∧ Boxed W (w.heap.size + 1) 23 (.slice a zs.length cap) ∧ Below w.heap.size w W)
    (fun _ _ => False) (fun _ _ => False) (.inl fun _ _ h => h)
    (OwnFrom.and ((boxed_own w.heap.size 3 (fun i => .int .i64 (Tm.pos zs k i : Int))).from _) (OwnFrom.and ((boxed_own (w.heap.size + 1 + 1) 3 (fun _ => .int .i64 (k : Int))).from _) (OwnFrom.and ((boxed_own (w.heap.size + 1) 23 (fun _ => .slice a zs.length cap)).from _) (ownFrom_below (Nat.le_refl _) (by simp; omega)))))
    (fun _ _ _ _ h _ _ => h)
    (fun i W h => partsRd_of h.2.1 h.2.2.1 hI h.2.2.2)
    ⟨by rw [Tm.pos_zero]; exact bE, bK, bT, hB0⟩
    (fun i => { tmps := #[.slice a zs.length cap, .int .i64 (k : Int), undef, undef, .int .i64 0, .pointer (some ⟨w.heap.size, 0, none⟩), undef, .int .i64 (Tm.pos zs k (i + 1) : Int), .int .i64 (k : Int), .int .i64 ((k : Int) + 1), .int .i64 (k : Int), .slice a zs.length cap,
      .int .i64 (zs.length : Int), .bool false, undef, .slice a zs.length cap, .int .i64 (k : Int), .func (.func 69) #[] #[.pointer (some ⟨w.heap.size + 1 + 1, 0, none⟩), .pointer (some ⟨w.heap.size + 1, 0, none⟩)], .int .i64 (Tm.pos zs k i : Int), .int .i64 (Tm.pos zs k (i + 1) : Int), undef, undef], defers := [] }) ?assign ?body ?done ?stop ?panic
  case assign =>
    intro l i W K hK
    simp only [encPart]
    gi_wp2
    exact hK
  case body =>
    rintro l i W ⟨hE, hK, hT, hB⟩ _
    have hc := hE.cell
    have hf := hE.frozen
    gi_wp2
    exact ⟨(KeepsOthers.setCell _ _ _).from _, hE.set _, hK.other (by omega) _, hT.other (by omega) _, hB.setCell (p := ⟨w.heap.size, 0, none⟩) (Nat.le_refl _) _⟩
  case done =>
    rintro D W hD ⟨hE, _, _, hB⟩ hK
    have hc := hE.cell
    gi_wp2
    refine ⟨by simp, .inl ⟨_, _, rfl, run_takeDeferred hK, ?_⟩⟩
    exact ⟨_, results_tmp rfl _ _ _, by simp [hk], hB.trans (belowK_b (w := w) (Nat.le_refl _) W D _ _ (by simp at hD; omega) hK rfl rfl)⟩
  case stop => exact fun _ _ _ _ h => h.elim
  case panic => exact fun _ _ _ _ h => h.elim

end Go.Proofs.Ytloealnfbpegnab

namespace Go.Proofs.Ytloealnfbpegnab
open Go.Proofs Go.RowKit Go.Shelf

theorem fx_any {F : Fence} (hF : Pl F) {n m : Nat} {P : Program} {f : FuncId} {args : Array Value} {w : World} {R : Ending → World → Prop} (h : CallsIn F n P f args w R) : CallsIn F m P f args w R :=
  ⟨h.1, fun cs _ => h.2 cs (fun d hd => by rw [hF.2.2] at hd; cases hd)⟩

theorem endx_all (F : Fence) (hF : Pl F) (zs : List Int) (hlen : zs.length ≤ 5000) (a : Option Addr) (cap : Nat) : ∀ (m k n : Nat), zs.length - k ≤ m → k ≤ 20000 → ∀ w : World, Ints w.heap.size w a zs →
    CallsIn F n Try.prog 37 #[.slice a zs.length cap, .int .i64 (k : Int)] w fun e w' => e = .returned (.int .i64 (Tm.endAt zs k : Int)) ∧ Below w.heap.size w w' := by
  intro m
  induction m with
  | zero =>
    intro k n hm hk w hI
    rw [Tm.endAt_out zs k (by omega)]
    exact endx_out F hF n a zs.length cap k w (by omega) hk
  | succ m ih =>
    intro k n hm hk w hI
    by_cases hlt : k < zs.length
    · exact fx_any hF (endx_step F hF 3 a cap k zs w (by omega) hlen hlt hI (fun n p W h1 h2 h3 => ih p n (by omega) h2 W h3))
    · rw [Tm.endAt_out zs k (by omega)]
      exact endx_out F hF n a zs.length cap k w (by omega) hk
theorem ends_beyond (F : Fence) (hF : Pl F) (zs : List Int) (hlen : zs.length ≤ 5000) (a : Option Addr) (cap k : Nat) : EndsBeyond F a cap zs k :=
  fun n p W _ h2 h3 => endx_all F hF zs hlen a cap _ p n (Nat.le_refl _) h2 W h3

end Go.Proofs.Ytloealnfbpegnab

namespace Go.Proofs.Ytloealnfbpegnab
open Go.Proofs Go.RowKit Go.Shelf Go.Maps

/-- E2, reckoned. -/
def Tm.gtB (r : Int → Int) : Nat → List Int → List Int → Bool
  | 0, _, _ => false
  | n + 1, a, b => ((List.range (Tm.room (Tm.sym a))).any fun m => decide (Tm.kid a m = b) || Tm.gtB r n (Tm.kid a m) b) ||
    (decide (0 ≤ Tm.sym a) && (decide (0 ≤ Tm.sym b) && (((List.range (Tm.room (Tm.sym b))).all fun m => Tm.gtB r n a (Tm.kid b m)) && ((decide (Tm.sym a ≠ Tm.sym b) && decide (r (Tm.sym b) < r (Tm.sym a))) ||
      (decide (Tm.sym a = Tm.sym b) && (List.range (Tm.room (Tm.sym a))).any fun m => ((List.range m).all fun l => decide (Tm.kid a l = Tm.kid b l)) && Tm.gtB r n (Tm.kid a m) (Tm.kid b m))))))
theorem Tm.gtB_iff {r : Int → Int} : ∀ (n : Nat) (a b : List Int), a.length + b.length < n → (Tm.gtB r n a b = true ↔ Tm.Gt r a b) := by
  intro n
  induction n with
  | zero => intro a b h; omega
  | succ n ih =>
    intro a b hn
    have i1 : ∀ m, m < Tm.room (Tm.sym a) → (Tm.gtB r n (Tm.kid a m) b = true ↔ Tm.Gt r (Tm.kid a m) b) := fun m hm => ih _ _ (by have := Tm.kid_short hm; omega)
    have i2 : ∀ m, m < Tm.room (Tm.sym b) → (Tm.gtB r n a (Tm.kid b m) = true ↔ Tm.Gt r a (Tm.kid b m)) := fun m hm => ih _ _ (by have := Tm.kid_short hm; omega)
    have i3 : Tm.sym a = Tm.sym b → ∀ m, m < Tm.room (Tm.sym a) → (Tm.gtB r n (Tm.kid a m) (Tm.kid b m) = true ↔ Tm.Gt r (Tm.kid a m) (Tm.kid b m)) := fun e m hm => ih _ _ (by have := Tm.kid_short hm; have := Tm.kid_short (x := b) (m := m) (by rw [← e]; exact hm); omega)
    rw [Tm.Gt.iff]
    simp only [Tm.gtB, Bool.or_eq_true, Bool.and_eq_true, List.any_eq_true, List.all_eq_true, List.mem_range, decide_eq_true_eq]
    refine or_congr (exists_congr fun m => and_congr_right fun hm => or_congr Iff.rfl (i1 m hm)) (and_congr_right fun _ => and_congr_right fun _ => and_congr (forall_congr' fun m => forall_congr' fun hm => i2 m hm) (or_congr Iff.rfl (and_congr_right fun e => exists_congr fun m => and_congr_right fun hm => and_congr_right fun _ => i3 e m hm)))
def Tm.above (r : Int → Int) (a b : List Int) : Bool := Tm.gtB r (a.length + b.length + 1) a b
theorem Tm.above_iff {r : Int → Int} {a b : List Int} : Tm.above r a b = true ↔ Tm.Gt r a b := Tm.gtB_iff _ a b (Nat.lt_succ_self _)

/-- The ranks that a list tells. -/
def Tm.rankOf (rk : List Int) (s : Int) : Int := rk[s.toNat]?.getD 0
/-- At places. -/
def Tm.ab (rk za zb : List Int) (i j : Nat) : Bool := Tm.above (Tm.rankOf rk) (Tm.part za i) (Tm.part zb j)
def Tm.sm (za zb : List Int) (i j : Nat) : Bool := decide (Tm.part za i = Tm.part zb j)
/-- By a part, the first n parts held. -/
def Tm.bp (rk za zb : List Int) (i j n : Nat) : Bool := (List.range n).any fun m => Tm.sm za zb (Tm.pos za i m) j || Tm.ab rk za zb (Tm.pos za i m) j
/-- Above the first n parts. -/
def Tm.ov (rk za zb : List Int) (i j n : Nat) : Bool := (List.range n).all fun m => Tm.ab rk za zb i (Tm.pos zb j m)
/-- The first n parts are the same. -/
def Tm.sms (za zb : List Int) (i j n : Nat) : Bool := (List.range n).all fun m => Tm.sm za zb (Tm.pos za i m) (Tm.pos zb j m)
/-- By the first parts that differ. -/
def Tm.fd (rk za zb : List Int) (i j n : Nat) : Bool := (List.range n).any fun m => Tm.sms za zb i j m && Tm.ab rk za zb (Tm.pos za i m) (Tm.pos zb j m)
/-- By the symbol. -/
def Tm.sy (rk za zb : List Int) (i j : Nat) : Bool :=
  decide (0 ≤ za[i]?.getD 0) && (decide (0 ≤ zb[j]?.getD 0) && (Tm.ov rk za zb i j (Tm.room (zb[j]?.getD 0)) && (if za[i]?.getD 0 = zb[j]?.getD 0 then Tm.fd rk za zb i j (Tm.room (za[i]?.getD 0)) else decide (Tm.rankOf rk (zb[j]?.getD 0) < Tm.rankOf rk (za[i]?.getD 0)))))
theorem Tm.bp_succ (rk za zb : List Int) (i j n : Nat) : Tm.bp rk za zb i j (n + 1) = (Tm.bp rk za zb i j n || (Tm.sm za zb (Tm.pos za i n) j || Tm.ab rk za zb (Tm.pos za i n) j)) := by simp [Tm.bp, List.range_succ]
theorem Tm.ov_succ (rk za zb : List Int) (i j n : Nat) : Tm.ov rk za zb i j (n + 1) = (Tm.ov rk za zb i j n && Tm.ab rk za zb i (Tm.pos zb j n)) := by simp [Tm.ov, List.range_succ]
theorem Tm.sms_succ (za zb : List Int) (i j n : Nat) : Tm.sms za zb i j (n + 1) = (Tm.sms za zb i j n && Tm.sm za zb (Tm.pos za i n) (Tm.pos zb j n)) := by simp [Tm.sms, List.range_succ]
theorem Tm.ab_same {rk za zb : List Int} {i j : Nat} (h : Tm.sm za zb i j = true) : Tm.ab rk za zb i j = false := by
  simp only [Tm.sm, decide_eq_true_eq] at h
  unfold Tm.ab
  rw [h]
  rw [Bool.eq_false_iff]
  exact fun e => Tm.Gt.self _ (Tm.above_iff.1 e)
theorem Tm.sms_mono {za zb : List Int} {i j n m : Nat} (h : m ≤ n) (hn : Tm.sms za zb i j n = true) : Tm.sms za zb i j m = true := by
  simp only [Tm.sms, List.all_eq_true, List.mem_range] at *
  exact fun l hl => hn l (by omega)
/-- All are the same as far as m: nothing is above. -/
theorem Tm.fd_same {rk za zb : List Int} {i j n : Nat} (h : Tm.sms za zb i j n = true) : Tm.fd rk za zb i j n = false := by
  rw [Bool.eq_false_iff]
  intro e
  simp only [Tm.fd, List.any_eq_true, List.mem_range, Bool.and_eq_true] at e
  obtain ⟨m, hm, _, ha⟩ := e
  have : Tm.sm za zb (Tm.pos za i m) (Tm.pos zb j m) = true := by
    simp only [Tm.sms, List.all_eq_true, List.mem_range] at h
    exact h m hm
  rw [Tm.ab_same this] at ha
  cases ha
/-- At the first that differ. -/
theorem Tm.fd_at {rk za zb : List Int} {i j n m : Nat} (hm : m < n) (h : Tm.sms za zb i j m = true) (hd : Tm.sm za zb (Tm.pos za i m) (Tm.pos zb j m) = false) : Tm.fd rk za zb i j n = Tm.ab rk za zb (Tm.pos za i m) (Tm.pos zb j m) := by
  rw [Bool.eq_iff_iff]
  constructor
  · intro e
    simp only [Tm.fd, List.any_eq_true, List.mem_range, Bool.and_eq_true] at e
    obtain ⟨l, hl, hs, ha⟩ := e
    rcases Nat.lt_trichotomy l m with h1 | h1 | h1
    · have h2 := Tm.sms_mono (m := l + 1) (by omega) h
      rw [Tm.sms_succ, Bool.and_eq_true] at h2
      rw [Tm.ab_same h2.2] at ha
      cases ha
    · rw [h1] at ha; exact ha
    · have h2 := Tm.sms_mono (m := m + 1) (by omega) hs
      rw [Tm.sms_succ, Bool.and_eq_true, hd] at h2
      cases h2.2
  · intro e
    simp only [Tm.fd, List.any_eq_true, List.mem_range, Bool.and_eq_true]
    exact ⟨m, hm, h, e⟩
theorem Tm.ab_eq {rk za zb : List Int} (ha : Tm.err za = 0) (hb : Tm.err zb = 0) {i j : Nat} (hi : i < za.length) (hj : j < zb.length) : Tm.ab rk za zb i j = (Tm.bp rk za zb i j (Tm.room (za[i]?.getD 0)) || Tm.sy rk za zb i j) := by
  rw [Bool.eq_iff_iff]
  have s1 := Tm.sym_part ha hi
  have s2 := Tm.sym_part hb hj
  have k1 := fun m (hm : m < Tm.room (za[i]?.getD 0)) => Tm.kid_part ha hi hm
  have k2 := fun m (hm : m < Tm.room (zb[j]?.getD 0)) => Tm.kid_part hb hj hm
  have e1 : ∀ p q, Tm.ab rk za zb p q = true ↔ Tm.Gt (Tm.rankOf rk) (Tm.part za p) (Tm.part zb q) := fun p q => Tm.above_iff
  rw [e1, Tm.Gt.iff, s1, s2, Bool.or_eq_true]
  refine or_congr ?_ ?_
  · simp only [Tm.bp, List.any_eq_true, List.mem_range, Bool.or_eq_true, e1, Tm.sm, decide_eq_true_eq]
    exact exists_congr fun m => and_congr_right fun hm => by rw [k1 m hm]
  · simp only [Tm.sy, Bool.and_eq_true, decide_eq_true_eq]
    refine and_congr_right fun _ => and_congr_right fun _ => and_congr ?_ ?_
    · simp only [Tm.ov, List.all_eq_true, List.mem_range, e1]
      exact forall_congr' fun m => forall_congr' fun hm => by rw [k2 m hm]
    · by_cases e : za[i]?.getD 0 = zb[j]?.getD 0
      · rw [if_pos e]
        simp only [Tm.fd, List.any_eq_true, List.mem_range, Bool.and_eq_true, Tm.sms, List.all_eq_true, e1, Tm.sm, decide_eq_true_eq]
        constructor
        · rintro (⟨h, _⟩ | ⟨_, m, hm, hl, hk⟩)
          · exact absurd e h
          · exact ⟨m, hm, fun l hlm => by rw [← k1 l (by omega), ← k2 l (by rw [← e]; omega)]; exact hl l hlm, by rw [← k1 m hm, ← k2 m (by rw [← e]; exact hm)]; exact hk⟩
        · rintro ⟨m, hm, hl, hk⟩
          exact .inr ⟨e, m, hm, fun l hlm => by rw [k1 l (by omega), k2 l (by rw [← e]; omega)]; exact hl l hlm, by rw [k1 m hm, k2 m (by rw [← e]; exact hm)]; exact hk⟩
      · rw [if_neg e, decide_eq_true_eq]
        constructor
        · rintro (⟨_, h⟩ | ⟨h, _⟩)
          · exact h
          · exact absurd h e
        · exact fun h => .inl ⟨e, h⟩

/-- BLOCK b IS THE MAP M, from keys of type K. -/
def KMap (K : TypeId) (W : World) (b n : Nat) (M : Value → Option Value) : Prop :=
  ∃ D : DataW Value, W.ownsMap Try.prog K heldElem b n D ∧ ∀ (v : Value) (l : Lit), keyOf Try.prog K v = some l → Maps.has D l = (M v).isSome ∧ ∀ u, M v = some u → ∀ z, D.atKey l z = .held u
theorem KMap.made (K : TypeId) (w : World) : KMap K (w.alloc (.map #[] 0)) w.heap.size 0 (fun _ => none) :=
  ⟨_, World.ownsMap_made w _ _ _, fun _ _ _ => ⟨rfl, fun _ h => by cases h⟩⟩
theorem KMap.lt {K : TypeId} {W : World} {b n : Nat} {m : Value → Option Value} (h : KMap K W b n m) : b < W.heap.size := by
  obtain ⟨D, hD, _⟩ := h; exact hD.lt
theorem KMap.keep {K : TypeId} {W W' : World} {b n : Nat} {m : Value → Option Value} (h : KMap K W b n m) (hb : W'.heap[b]? = W.heap[b]?) : KMap K W' b n m := by
  obtain ⟨D, ⟨es, clock, hes, r⟩, r2⟩ := h
  exact ⟨D, ⟨es, clock, hb.trans hes, r⟩, r2⟩
theorem KMap.map {K : TypeId} {W : World} {b n : Nat} {m : Value → Option Value} (h : KMap K W b n m) : ∃ es clock, W.heap[b]? = some (.map es clock) := by
  obtain ⟨D, ⟨es, clock, hes, r⟩, r2⟩ := h; exact ⟨es, clock, hes⟩
theorem KMap.look {K : TypeId} (law : Keyed Try.prog K) {w : World} {b n : Nat} {M : Value → Option Value} (h : KMap K w b n M) {t e : TypeId} (ht : Try.prog.underlying t = some (.map K e)) {z : Value} (hz : (zeroValue e).run Try.prog w = .ok z w) {key : Value} {l : Lit} (hkey : keyOf Try.prog K key = some l) :
    (Instr.lookup t (.map (some b)) key true).run Try.prog w = .ok (.tuple #[(M key).getD z, .bool (M key).isSome]) w := by
  obtain ⟨D, hD, hh⟩ := h
  obtain ⟨h1, h2⟩ := hh key l hkey
  have hv : ∀ v, heldElem v = some (D.atKey l (.held z), []) → v = (M key).getD z := fun v hv => by
    unfold heldElem at hv
    simp only [Option.some.injEq, Prod.mk.injEq, and_true] at hv
    cases hm : M key with
    | none =>
      rw [atKey_none (hD.tidy law).isMap (by rw [h1, hm]; rfl)] at hv
      simpa using hv
    | some u =>
      rw [h2 u hm] at hv
      simpa using hv
  obtain ⟨v, ps, hrun, hR⟩ := hD.look_ok law ht hz (R := heldElem) (zd := .held z) (zp := []) rfl hkey
  have : ps = [] := by unfold heldElem at hR; simp at hR; exact hR.2
  subst this
  rw [hrun, hv v hR, h1]
theorem KMap.set {K : TypeId} (law : Keyed Try.prog K) {w : World} {b n : Nat} {M : Value → Option Value} (h : KMap K w b n M) {t e : TypeId} (ht : Try.prog.underlying t = some (.map K e)) (hn : n < maxLen) {key : Value} {l : Lit} (hkey : keyOf Try.prog K key = some l) (v : Value) :
    ∃ w' M', (Instr.mapUpdate t (.map (some b)) key v).run Try.prog w = .ok () w' ∧ KMap K w' b (n + 1) M' ∧ M' key = some v ∧ (∀ x, x ≠ key → M' x = M x) ∧ w.grownBy w' (some b) := by
  classical
  obtain ⟨D, hD, hh⟩ := h
  obtain ⟨w', hrun, h1, h2⟩ := hD.update (R := heldElem) law ht hn hkey (val := v) (d := .held v) (ps := []) rfl
  have hk : WideAt.IsKeyLit l := law.key hkey
  refine ⟨w', fun x => if x = key then some v else M x, hrun, ⟨_, h1, fun x lx hx => ?_⟩, by simp, fun x hx => by simp [hx], h2⟩
  by_cases e : x = key
  · subst e
    rw [hkey] at hx
    cases hx
    simp only [if_true]
    exact ⟨has_put_same (hD.tidy law).isMap hk _, fun u hu z => by cases hu; exact atKey_put_same (hD.tidy law).isMap hk _ _⟩
  · have hne : lx ≠ l := fun el => e (law.inj (by rw [el] at hx; exact hx) hkey)
    simp only [e, if_false]
    exact ⟨by rw [has_put_other hne]; exact (hh x lx hx).1, fun u hu z => by rw [atKey_put_other hne]; exact (hh x lx hx).2 u hu z⟩

section
variable (w : World) {ops : Array Oper} {rest : List Oper} {o : Oper} {a : Act} {Q : Exit → Act → World → Prop}
theorem wp_klook {K : TypeId} (law : Keyed Try.prog K) (hg : o.guard = none) (m x : Operand) (t : TypeId) (hop : o.op = Op.lookup t m x true) (e : TypeId) (ht : Try.prog.underlying t = some (.map K e)) {z : Value} (hz : (zeroValue e).run Try.prog w = .ok z w) (b n : Nat) (M : Value → Option Value)
    (hm : a.eval m = .map (some b)) (hI : KMap K w b n M) (key : Value) (l : Lit) (hx : a.eval x = key) (hkey : keyOf Try.prog K key = some l) (v : Value) (q : Bool) (hv : (M key).getD z = v) (hq : (M key).isSome = q)
    (hK : wpList Try.prog ops Q rest (a.put o.dst (.tuple #[v, .bool q])) w) : wpList Try.prog ops Q (o :: rest) a w := by
  refine wpList_plain hg fun K' hK' => ?_
  have hrun := hI.look law ht hz hkey
  rw [hv, hq] at hrun
  unfold Oper.wp
  simp [execOp, hop, hm, hx, hrun, Result.andThen]
  exact hK' _ _ hK
theorem wp_kset {K : TypeId} (law : Keyed Try.prog K) (hg : o.guard = none) (m x u : Operand) (t : TypeId) (hop : o.op = Op.mapUpdate t m x u) (e : TypeId) (ht : Try.prog.underlying t = some (.map K e)) (b n : Nat) (M : Value → Option Value)
    (hm : a.eval m = .map (some b)) (hI : KMap K w b n M) (hn : n < maxLen) (key : Value) (l : Lit) (hx : a.eval x = key) (hkey : keyOf Try.prog K key = some l) (v : Value) (hv : a.eval u = v)
    (hK : ∀ w' M', KMap K w' b (n + 1) M' → M' key = some v → (∀ x, x ≠ key → M' x = M x) → w.grownBy w' (some b) → wpList Try.prog ops Q rest (a.put o.dst undef) w') : wpList Try.prog ops Q (o :: rest) a w := by
  refine wpList_plain hg fun K' hK' => ?_
  obtain ⟨w', M', hrun, h1, h2, h3, h4⟩ := hI.set law ht hn hkey v
  unfold Oper.wp
  simp [execOp, hop, hm, hx, hv, hrun, Result.andThen]
  exact hK' _ _ (hK w' M' h1 h2 h3 h4)
end

/-- How many of the first N a test holds of. -/
theorem countP_more {p q : Nat → Bool} {x : Nat} (hp : p x = false) (hq : q x = true) (ho : ∀ y, y ≠ x → q y = p y) : ∀ N, x < N → (List.range N).countP q = (List.range N).countP p + 1 := by
  have key : ∀ N, N ≤ x → (List.range N).countP q = (List.range N).countP p := by
    intro N hN
    refine List.countP_congr fun y hy => ?_
    rw [ho y (by have := List.mem_range.1 hy; omega)]
  intro N
  induction N with
  | zero => intro h; omega
  | succ N ih =>
    intro h
    rw [List.range_succ, List.countP_append, List.countP_append]
    by_cases e : N = x
    · subst e; rw [key N (Nat.le_refl _)]; simp [hp, hq]
    · rw [ih (by omega)]; simp [ho N e]; omega

end Go.Proofs.Ytloealnfbpegnab
namespace Go.Proofs.Ytloealnfbpegnab
open Go.Proofs Go.RowKit Go.Shelf Go.Maps

end Go.Proofs.Ytloealnfbpegnab

namespace Go.Proofs.Ytloealnfbpegnab
open Go.Proofs Go.RowKit Go.Shelf Go.Maps

attribute [local go_sem ↓] Go.wp_at_zero Go.wp_at_succ

end Go.Proofs.Ytloealnfbpegnab

namespace Go.Proofs.Ytloealnfbpegnab
open Go.Proofs Go.RowKit Go.Shelf Go.Maps

attribute [local go_sem ↓] Go.wp_at_zero Go.wp_at_succ

end Go.Proofs.Ytloealnfbpegnab

namespace Go.Proofs.Ytloealnfbpegnab
open Go.Proofs Go.RowKit Go.Shelf Go.Maps

attribute [local go_sem] Oper.semAt_some
attribute [local go_sem ↓] Go.wp_at_zero Go.wp_at_succ

theorem results_boxO {fn : Func} {tmps : Array Value} {w : World} {a B : Nat} {v : Bool} (h : fn.results = #[.cell a 4]) (ht : tmps.getD a undef = .pointer (some ⟨B, 0, none⟩)) (hc : w.cell? ⟨B, 0, none⟩ = some (.bool v)) : (results fn tmps).run Try.prog w = .ok (.bool v) w := by
  have ht' : tmps[a]?.getD undef = .pointer (some ⟨B, 0, none⟩) := by rw [← ht]; simp
  simp only [results, h]
  simp [go_sem, ht', hc]
theorem cells_own {X Y : World} {row : Option Nat} {B C : Nat} {cs : Array Value} {t : TypeId} {p : Nat × Nat} (h : X.heap[C]? = some (.cells cs t p)) (hg : X.grownBy Y row) (hr : ∀ r, row = some r → B ≤ r ∧ ∃ o : Obj, X.heap[r]? = some o ∧ o.isCells = false) : Y.heap[C]? = some (.cells cs t p) :=
  (hg.block C (Array.getElem?_eq_some_iff.1 h).1 (fun e => by
    obtain ⟨_, o, ho, hc⟩ := hr C e.symm
    rw [h] at ho
    cases ho
    simp [Obj.isCells] at hc)).trans h
theorem keep_ownO {n m B : Nat} {w X Y : World} {row : Option Nat} (hn : n ≤ w.heap.size) (hB : n ≤ B) (h : Keep n m w X) (hg : X.grownBy Y row) (hr : ∀ r, row = some r → B ≤ r ∧ ∃ o : Obj, X.heap[r]? = some o ∧ o.isCells = false) : Keep n m w Y :=
  ⟨hg.os.trans h.os, hg.tape.trans h.tape, hg.output.trans h.output, Nat.le_trans h.size hg.size, fun k hk hm => (hg.block k (by have := h.size; omega) (fun e => by have := (hr k e.symm).1; omega)).trans (h.block k hk hm)⟩

end Go.Proofs.Ytloealnfbpegnab

namespace Go.Proofs.Ytloealnfbpegnab
open Go.Proofs Go.RowKit Go.Shelf Go.Maps

attribute [local go_sem] Oper.semAt_some
attribute [local go_sem ↓] Go.wp_at_zero Go.wp_at_succ

end Go.Proofs.Ytloealnfbpegnab
