/-
  signs.End, of lists of up to 5000 signs, within the fence. · signs.End, of lists of up to 5000 signs, at every place. · signs.Places: the rounds are numbered; the body may leave, or panic. · A REGION THAT DRAWS ITS ORDER, WITHIN A ROUND: it runs there as it runs outside of it, if nothing is deferred in it: so the laws that take an operation first (which want that no round is at hand) serve there, too. · PLAIN MATHEMATICS of the order: 'Gt r a b': by the ranks r the term a is above b. It is an order: who is above who is above is above; nothing is above itself. · PLAIN MATHEMATICS of the order: a term is its symbol and its parts; who is above stays above, whatever variables become, and wherever both stand; without variables one of two that differ is above. · PLAIN MATHEMATICS of the order at places of two terms; a map whose keys are two numbers. · (*sides).same; what stands while it is asked which is above. · (*sides).same.
-/
import Derived.Test.YtjaikmlbajdedadBun7
import Derived.OwnWalkIn
import Derived.OrdersIn
import Derived.Shelf.RegionOpen
import Derived.RangeFuncCalls
import Derived.Test.YtjaikmlbajdedadBun4
import Derived.DeepKeys4
import Derived.Deep.RegionHeld3
import Derived.Deep.QuietTactic
import Derived.BigQuiet
import Derived.Deep.DrawnRows
namespace Go.Proofs.Ytjaikmlbajdedad
open Go.Proofs Go.RowKit Go.Shelf

attribute [local go_sem] Oper.semAt_some

set_option maxHeartbeats 400000 in
theorem endx_out (F : Fence) (hF : Pl F) (n : Nat) (a : Option Addr) (len cap k : Nat) (w : World) (hk : len ≤ k) (hk2 : k ≤ 20000) :
    CallsIn F n Try.prog 60 #[.slice a len cap, .int .i64 (k : Int)] w fun e w' => e = .returned (.int .i64 ((k : Int) + 1)) ∧ Below w.heap.size w w' := by
  have h1 : (len : Int) ≤ (k : Int) := by omega
  have h2 : (k : Int) ≤ 20000 := by omega
  have h3 : (0 : Int) ≤ (k : Int) := by omega
  obtain ⟨hro, hfn, hdd⟩ := fx_facts hF
  have hf := hfn _ _ Try.func60
  clear hF hfn
  refine callsIn_of_wp Try.func60 rfl hf ?_ hro
  simp only [Try.ntmps60, List.size_toArray, List.length_cons, List.length_nil, Nat.reduceAdd, Nat.reduceSub, Array.replicate_succ, Array.replicate_zero, List.push_toArray, List.append_toArray, List.nil_append, List.cons_append]
  gi_wp2
  go_ret
  exact ⟨rfl, (Below.refl _ _).alloc (Nat.le_refl _) _⟩

theorem partsRd_of {Bk Bt k cap : Nat} {a : Option Addr} {zs : List Int} {w W : World} (hk : Boxed W Bk 3 (.int .i64 (k : Int))) (ht : Boxed W Bt 24 (.slice a zs.length cap)) (hI : Ints w.heap.size w a zs) (hB : Below w.heap.size w W) : PartsRd Bk Bt k cap a zs W :=
  ⟨hk.cell, ht.cell, (hI.below hB).mono hB.size⟩

set_option maxRecDepth 100000 in
set_option maxHeartbeats 1000000 in
theorem endx_step (F : Fence) (hF : Pl F) (n : Nat) (a : Option Addr) (cap k : Nat) (zs : List Int) (w : World) (hn : 3 ≤ n) (hlen : zs.length ≤ 5000) (hk : k < zs.length) (hI : Ints w.heap.size w a zs) (hE : EndsBeyond F a cap zs k) :
    CallsIn F n Try.prog 60 #[.slice a zs.length cap, .int .i64 (k : Int)] w fun e w' => e = .returned (.int .i64 (Tm.endAt zs k : Int)) ∧ Below w.heap.size w w' := by
  obtain ⟨hro, hfn, hdd⟩ := fx_facts hF
  have HF : Hid (Pl F) := hF
  have HE := hid hE
  clear hF hE
  have hf32 := hfn _ _ Try.func60
  have hf49 := hfn _ _ Try.func84
  have hf55 := hfn _ _ Try.func104
  clear hfn
  have hlt : (k : Int) < (zs.length : Int) := by omega
  have h30 : (zs.length : Int) ≤ 5000 := by omega
  have hk0 : (0 : Int) ≤ (k : Int) := by omega
  rw [Tm.endAt_in zs k hk]
  refine callsIn_of_wp_marks Try.func60 rfl hf32 ?_ hro
  simp only [Try.ntmps60, List.size_toArray, List.length_cons, List.length_nil, Nat.reduceAdd, Nat.reduceSub, Array.replicate_succ, Array.replicate_zero, List.push_toArray, List.append_toArray, List.nil_append, List.cons_append]
  gi_wp2_with ((try refine ⟨hdd _, ?_⟩); gi_at_call 84; refine (partsx_in F HF.out _ _ _ _ _ _).mono ?_; rintro e w' ⟨rfl, rfl⟩)
  have bE := ((Boxed.new w 3 (.int .i64 ((k : Int) + 1))).alloc (.cells #[.slice a zs.length cap] 24)).alloc (.cells #[.int .i64 (k : Int)] 3)
  have bT := (Boxed.new (w.alloc (.cells #[.int .i64 ((k : Int) + 1)] 3)) 24 (.slice a zs.length cap)).alloc (.cells #[.int .i64 (k : Int)] 3)
  have bK := Boxed.new ((w.alloc (.cells #[.int .i64 ((k : Int) + 1)] 3)).alloc (.cells #[.slice a zs.length cap] 24)) 3 (.int .i64 (k : Int))
  rw [World.size_alloc] at bT
  rw [World.size_alloc, World.size_alloc] at bK
  have hB0 : Below w.heap.size w (((w.alloc (.cells #[.int .i64 ((k : Int) + 1)] 3)).alloc (.cells #[.slice a zs.length cap] 24)).alloc (.cells #[.int .i64 (k : Int)] 3)) := (((Below.refl _ w).alloc (Nat.le_refl _) _).alloc (by simp) _).alloc (by simp; omega) _
  refine wpIn_rangeSteps hro (by omega) (gf := 104) (lb := #[.pointer (some ⟨w.heap.size + 1 + 1, 0, none⟩), .pointer (some ⟨w.heap.size + 1, 0, none⟩)]) rfl hf55 (enters_of Try.func104 (by kernel_rfl) rfl)
    (parts_steps F HF.out _ (w.heap.size + 1 + 1) (w.heap.size + 1) k cap a zs hlen hk HE.out) (fun _ => rfl)
    (fun i W => Boxed W w.heap.size 3 (.int .i64 (Tm.pos zs k i : Int)) ∧ Boxed W (w.heap.size + 1 + 1) 3 (.int .i64 (k : Int)) ∧ Boxed W (w.heap.size + 1) 24 (.slice a zs.length cap) ∧ Below w.heap.size w W)
    (fun _ _ => False) (fun _ _ => False) (.inl fun _ _ h => h)
    (OwnFrom.and ((boxed_own w.heap.size 3 (fun i => .int .i64 (Tm.pos zs k i : Int))).from _) (OwnFrom.and ((boxed_own (w.heap.size + 1 + 1) 3 (fun _ => .int .i64 (k : Int))).from _) (OwnFrom.and ((boxed_own (w.heap.size + 1) 24 (fun _ => .slice a zs.length cap)).from _) (ownFrom_below (Nat.le_refl _) (by simp; omega)))))
    (fun _ _ _ _ h _ _ => h)
    (fun i W h => partsRd_of h.2.1 h.2.2.1 hI h.2.2.2)
    ⟨by rw [Tm.pos_zero]; exact bE, bK, bT, hB0⟩
    (fun i => { tmps := #[.slice a zs.length cap, .int .i64 (k : Int), undef, undef, .int .i64 0, .pointer (some ⟨w.heap.size, 0, none⟩), undef, .int .i64 (Tm.pos zs k (i + 1) : Int), .int .i64 (k : Int), .int .i64 ((k : Int) + 1), .int .i64 (k : Int), .slice a zs.length cap,
      .int .i64 (zs.length : Int), .bool false, undef, .slice a zs.length cap, .int .i64 (k : Int), .func (.func 104) #[] #[.pointer (some ⟨w.heap.size + 1 + 1, 0, none⟩), .pointer (some ⟨w.heap.size + 1, 0, none⟩)], .int .i64 (Tm.pos zs k i : Int), .int .i64 (Tm.pos zs k (i + 1) : Int), undef, undef], defers := [] }) ?assign ?body ?done ?stop ?panic
  case assign =>
    intro l i W K hK
    simp only [encPart]
    gi_wp2
    exact hK
  case body =>
    rintro l i W ⟨hE, hK, hT, hB⟩ _
    have hc := hE.cell
    have hf := hE.frozen
    gi_wp2
    exact ⟨(KeepsOthers.setCell _ _ _).from _, hE.set _, hK.other (by omega) _, hT.other (by omega) _, hB.setCell (p := ⟨w.heap.size, 0, none⟩) (Nat.le_refl _) _⟩
  case done =>
    rintro D W hD ⟨hE, _, _, hB⟩ hK
    have hc := hE.cell
    gi_wp2
    refine ⟨by simp, .inl ⟨_, _, rfl, run_takeDeferred hK, ?_⟩⟩
    exact ⟨_, results_tmp rfl _ _ _, by simp [hk], hB.trans (belowK_b (w := w) (Nat.le_refl _) W D _ _ (by simp at hD; omega) hK rfl rfl)⟩
  case stop => exact fun _ _ _ _ h => h.elim
  case panic => exact fun _ _ _ _ h => h.elim

end Go.Proofs.Ytjaikmlbajdedad

namespace Go.Proofs.Ytjaikmlbajdedad
open Go.Proofs Go.RowKit Go.Shelf

theorem fx_any {F : Fence} (hF : Pl F) {n m : Nat} {P : Program} {f : FuncId} {args : Array Value} {w : World} {R : Ending → World → Prop} (h : CallsIn F n P f args w R) : CallsIn F m P f args w R :=
  ⟨h.1, fun cs _ => h.2 cs (fun d hd => by rw [hF.2.2] at hd; cases hd)⟩

theorem endx_all (F : Fence) (hF : Pl F) (zs : List Int) (hlen : zs.length ≤ 5000) (a : Option Addr) (cap : Nat) : ∀ (m k n : Nat), zs.length - k ≤ m → k ≤ 20000 → ∀ w : World, Ints w.heap.size w a zs →
    CallsIn F n Try.prog 60 #[.slice a zs.length cap, .int .i64 (k : Int)] w fun e w' => e = .returned (.int .i64 (Tm.endAt zs k : Int)) ∧ Below w.heap.size w w' := by
  intro m
  induction m with
  | zero =>
    intro k n hm hk w hI
    rw [Tm.endAt_out zs k (by omega)]
    exact endx_out F hF n a zs.length cap k w (by omega) hk
  | succ m ih =>
    intro k n hm hk w hI
    by_cases hlt : k < zs.length
    · exact fx_any hF (endx_step F hF 3 a cap k zs w (by omega) hlen hlt hI (fun n p W h1 h2 h3 => ih p n (by omega) h2 W h3))
    · rw [Tm.endAt_out zs k (by omega)]
      exact endx_out F hF n a zs.length cap k w (by omega) hk
theorem ends_beyond (F : Fence) (hF : Pl F) (zs : List Int) (hlen : zs.length ≤ 5000) (a : Option Addr) (cap k : Nat) : EndsBeyond F a cap zs k :=
  fun n p W _ h2 h3 => endx_all F hF zs hlen a cap _ p n (Nat.le_refl _) h2 W h3

end Go.Proofs.Ytjaikmlbajdedad

namespace Go.Proofs.Ytjaikmlbajdedad
open Go.Proofs Go.RowKit Go.Shelf

attribute [local go_sem] Oper.semAt_some

set_option maxHeartbeats 400000 in
theorem placesx_in (F : Fence) (hF : Pl F) (n : Nat) (a : Option Addr) (len cap : Nat) (w : World) :
    CallsIn F n Try.prog 32 #[.slice a len cap] w fun e w' => e = .returned (.func (.func 61) #[] #[.pointer (some ⟨w.heap.size, 0, none⟩)]) ∧
      w' = w.alloc (.cells #[.slice a len cap] 24) := by
  obtain ⟨hro, hfn, hdd⟩ := fx_facts hF
  have hf := hfn _ _ Try.func32
  clear hF hfn
  refine callsIn_of_wp Try.func32 rfl hf ?_ hro
  simp only [Try.ntmps32, List.size_toArray, List.length_cons, List.length_nil, Nat.reduceAdd, Nat.reduceSub, Array.replicate_succ, Array.replicate_zero, List.push_toArray, List.append_toArray, List.nil_append, List.cons_append]
  gi_wp2
  go_ret
  exact ⟨rfl, rfl⟩

def encPl (zs : List Int) (i : Nat) : Array Value := #[.int .i64 (i : Int), .int .i64 (Tm.endAt zs i : Int)]
/-- What the iterator reads. -/
def PlacesRd (Bt cap : Nat) (a : Option Addr) (zs : List Int) (W : World) : Prop := W.cell? ⟨Bt, 0, none⟩ = some (.slice a zs.length cap) ∧ Ints W.heap.size W a zs

set_option maxRecDepth 100000 in
set_option maxHeartbeats 1000000 in
theorem places_steps (F : Fence) (hF : Pl F) (n Bt cap : Nat) (a : Option Addr) (zs : List Int) (hlen : zs.length ≤ 5000) :
    SeqSteps F n Try.prog 61 #[.pointer (some ⟨Bt, 0, none⟩)] (encPl zs) zs.length (PlacesRd Bt cap a zs) := by
  intro l J Jx Jp W hJ hR hY h0
  obtain ⟨hro, hfn, hdd⟩ := fx_facts hF
  have HE := hid (fun n p W h2 h3 => endx_all F hF zs hlen a cap _ p n (Nat.le_refl _) h2 W h3)
  clear hF
  have hf55 := hfn _ _ Try.func61
  have hf32 := hfn _ _ Try.func60
  obtain ⟨hbt, _⟩ := hR 0 W h0
  have hl5 : (zs.length : Int) ≤ 5000 := by omega
  have HY := hid hY
  have HR := hid hR
  clear hY hR
  refine callsIn_of_wp Try.func61 rfl hf55 ?_ hro
  simp only [Try.ntmps61, List.size_toArray, List.length_cons, List.length_nil, Nat.reduceAdd, Nat.reduceSub, Array.replicate_succ, Array.replicate_zero, List.push_toArray, List.append_toArray, List.nil_append, List.cons_append]
  gi_wp2
  gi_loopw [6] (fun i wr => ∃ m : Nat, m ≤ zs.length ∧ i = .int .i64 (m : Int) ∧ J m wr) (fun i _ => zs.length - (intOf i).toNat)
  case atStart => exact ⟨0, Nat.zero_le _, rfl, h0⟩
  case round =>
    obtain ⟨m, hm, rfl, hJs⟩ := hrel
    obtain ⟨hbt', hI'⟩ := HR.out m wr hJs
    by_cases hlt : m < zs.length
    · have hlt' : (m : Int) < (zs.length : Int) := by omega
      have h1' := (HE.out (n - 1) m wr (by omega) hI').mono (R' := fun e W1 => e = .returned (.int .i64 (Tm.endAt zs m : Int)) ∧ YieldAt F (n - 1) Try.prog l #[.int .i64 (m : Int), .int .i64 (Tm.endAt zs m : Int)] W1 fun e W' =>
          (e = .returned (.bool true) ∧ J (m + 1) W') ∨ (e = .returned (.bool false) ∧ Jx W') ∨ ∃ ch, e = .panicked ch ∧ Jp ch W')
        (fun e W1 ⟨he, hB⟩ => ⟨he, by
          have hJ1 := hJ _ _ _ none hJs (grown_of_below hB) (fun r e => by cases e)
          refine YieldAt.mono (HY.out m W1 hJ1 hlt) fun e W2 h => ?_
          exact h⟩)
      gi_wp2_with (first
        | ((try refine ⟨hdd _, ?_⟩); gi_at_call 60; refine h1'.mono ?_; clear h1'; rintro e W1 ⟨rfl, fn, tmps, assign, body, hy, hR⟩)
        | ((try refine ⟨hdd _, ?_⟩); refine hR.mono ?_; clear hR; rintro e W2 (⟨rfl, hJ2⟩ | ⟨rfl, hx2⟩ | ⟨ch, rfl, hp2⟩)))
      · exact ⟨⟨m + 1, by omega, by go_num, hJ2⟩, by simp [intOf]; omega⟩
      · refine bodyPost_ret (results_none rfl _ _ _) rfl ?_
        exact .inl ⟨⟨_, rfl⟩, .inr hx2⟩
      · exact ⟨rfl, .inr ⟨ch, rfl, hp2⟩⟩
    · obtain rfl : m = zs.length := by omega
      have hlt' : ¬ (zs.length : Int) < (zs.length : Int) := by omega
      gi_wp2
      go_end0
      exact .inl ⟨⟨_, rfl⟩, .inl hJs⟩

end Go.Proofs.Ytjaikmlbajdedad

namespace Go.Proofs.Ytjaikmlbajdedad
open Go.Proofs Go.RowKit Go.Shelf

theorem upon_round {F : Fence} {n l : Nat} {P : Program} {o : Oper} {a : Act} {next next' : Act → World → Prop} {Q : Exit → Act → World → Prop} (hm : ∀ a w, next a w → next' a w) (r : Result Next) (h : o.uponIn F n P a next Q r) : o.uponIn (F.inRound l) n P a next' Q r := by
  cases r with
  | ok x w' =>
    cases x with
    | value v => exact hm _ _ h
    | skip => exact hm _ _ h
    | defer d => exact hm _ _ h
    | enter f args =>
      refine ⟨h.1, (CallsIn.inRound l h.2).mono fun e w'' he => ?_⟩
      cases e with
      | returned v => exact hm _ _ he
      | panicked c => exact he
      | outgrown => exact he
    | row row args => exact ⟨h.1, RowsIn.mono (show RowsIn (F.inRound l) (n - 1) P row args w' _ from h.2) fun v w'' he => hm _ _ he⟩
    | round l' f tmps assign body =>
      refine ⟨h.1, RoundIn.mono (show RoundIn (F.inRound l) (n - 1) P l' f tmps assign body w' _ from h.2) fun e w'' he => ?_⟩
      cases e with
      | returned v => exact hm _ _ he
      | panicked c => exact he
      | outgrown => exact he
    | _ => exact h
  | halt x w' => cases x <;> exact h

theorem ops_round {F : Fence} {n l : Nat} {P : Program} {ops : Array Oper} {Q : Exit → Act → World → Prop} (hro : F.round = none) (hnd : ∀ (j : Nat) (o : Oper) (c : Call), ops[j]? = some o → o.op ≠ .defer c) :
    ∀ (order : List Nat) (a : Act) (w : World), wpOpsIn F n P ops Q order a w → wpOpsIn (F.inRound l) n P ops Q order a w := by
  intro order
  induction order with
  | nil => exact fun _ _ h => h
  | cons i rest ih =>
    intro a w h
    unfold wpOpsIn at h ⊢
    cases ho : ops[i]? with
    | none => rw [ho] at h; exact ih a w h
    | some o =>
      rw [ho] at h
      by_cases hw : Region.wanted o (yielded ops a.tmps) = true
      · simp only [hw, if_true] at h ⊢
        refine ⟨h.1, ?_⟩
        have h2 := h.2
        rw [hro, Oper.semAt_none] at h2
        rw [show (F.inRound l).round = some l from rfl, Oper.semAt_some l _ _ (fun c => hnd i o c ho)]
        exact upon_round ih _ h2
      · simp only [hw] at h ⊢
        exact ⟨h.1, ih _ _ h.2⟩

/-- Is no operation one that defers? -/
def noDefer (ops : Array Oper) : Bool := ops.all fun o => match o.op with | .defer _ => false | _ => true
theorem noDefer_spec {ops : Array Oper} (h : noDefer ops = true) : ∀ (j : Nat) (o : Oper) (c : Call), ops[j]? = some o → o.op ≠ .defer c := by
  intro j o c hj e
  unfold noDefer at h
  rw [Array.all_eq_true] at h
  obtain ⟨hlt, hx⟩ := Array.getElem?_eq_some_iff.1 hj
  have := h j hlt
  rw [hx, e] at this
  simp at this

/-- Within a round: from the walk over all orders outside of it. -/
theorem wpIn_region_round {F : Fence} {n l id : Nat} {P : Program} {ops : Array Oper} {Q : Exit → Act → World → Prop} {a : Act} {w : World} (hro : F.round = none) (hnd : noDefer ops = true) (hm : P.follows .mixedOrders = true)
    (h : wpAnyIn F n P .any ops Q ops.size (Array.replicate ops.size false) a w.drew) : (Code.region id ops true).wpIn (F.inRound l) n P Q a w :=
  wpIn_region_draw fun t => by
    simp only [Region.schedule, hm, Bool.true_or, if_true]
    exact ops_round hro (noDefer_spec hnd) _ _ _ (wpAnyIn_sound ops.size t _ a _ h)

end Go.Proofs.Ytjaikmlbajdedad

namespace Go.Proofs.Ytjaikmlbajdedad
open Go.Proofs Go.RowKit Go.Shelf

/-- The first sign of a term; its part m. -/
def Tm.sym (x : List Int) : Int := x[0]?.getD 0
def Tm.kid (x : List Int) (m : Nat) : List Int := Tm.part x (Tm.pos x 0 m)

theorem Tm.kid_short {x : List Int} {m : Nat} (h : m < Tm.room (Tm.sym x)) : (Tm.kid x m).length < x.length := by
  cases x with
  | nil => simp [Tm.sym, Tm.room] at h
  | cons s l =>
    have := Tm.pos_gt (s :: l) 0 m
    simp only [Tm.kid, Tm.part, List.length_take, List.length_drop, List.length_cons]
    omega

/-- E2. -/
inductive Tm.Gt (r : Int → Int) : List Int → List Int → Prop
  | eq (a b : List Int) (m : Nat) : m < Tm.room (Tm.sym a) → Tm.kid a m = b → Tm.Gt r a b
  | sub (a b : List Int) (m : Nat) : m < Tm.room (Tm.sym a) → Tm.Gt r (Tm.kid a m) b → Tm.Gt r a b
  | rk (a b : List Int) : 0 ≤ Tm.sym a → 0 ≤ Tm.sym b → (∀ m, m < Tm.room (Tm.sym b) → Tm.Gt r a (Tm.kid b m)) → Tm.sym a ≠ Tm.sym b → r (Tm.sym b) < r (Tm.sym a) → Tm.Gt r a b
  | lex (a b : List Int) (m : Nat) : 0 ≤ Tm.sym a → Tm.sym a = Tm.sym b → (∀ m, m < Tm.room (Tm.sym b) → Tm.Gt r a (Tm.kid b m)) → m < Tm.room (Tm.sym a) → (∀ l, l < m → Tm.kid a l = Tm.kid b l) → Tm.Gt r (Tm.kid a m) (Tm.kid b m) → Tm.Gt r a b

theorem Tm.Gt.pos {r : Int → Int} {a b : List Int} (h : Tm.Gt r a b) : 0 ≤ Tm.sym a := by
  have key : ∀ m, m < Tm.room (Tm.sym a) → 0 ≤ Tm.sym a := fun m hm => by unfold Tm.room at hm; split at hm <;> (try split at hm) <;> omega
  cases h with
  | eq _ _ m hm _ => exact key m hm
  | sub _ _ m hm _ => exact key m hm
  | rk _ _ h0 _ _ _ _ => exact h0
  | lex _ _ _ h0 _ _ _ _ _ => exact h0

theorem Tm.Gt.trans_n {r : Int → Int} : ∀ (n : Nat) (a b c : List Int), a.length + b.length + c.length < n → Tm.Gt r a b → Tm.Gt r b c → Tm.Gt r a c := by
  intro n
  induction n with
  | zero => intro a b c hn; omega
  | succ n ih =>
    intro a b c hn hab hbc
    have main : (∀ m, m < Tm.room (Tm.sym b) → Tm.Gt r a (Tm.kid b m)) → 0 ≤ Tm.sym a → ((Tm.sym a ≠ Tm.sym b ∧ r (Tm.sym b) < r (Tm.sym a)) ∨ (Tm.sym a = Tm.sym b ∧ ∃ m, m < Tm.room (Tm.sym a) ∧ (∀ l, l < m → Tm.kid a l = Tm.kid b l) ∧ Tm.Gt r (Tm.kid a m) (Tm.kid b m))) → Tm.Gt r a c := by
      intro hall ha0 how
      cases hbc with
      | eq _ _ m hm e => rw [← e]; exact hall m hm
      | sub _ _ m hm h => exact ih a (Tm.kid b m) c (by have := Tm.kid_short hm; omega) (hall m hm) h
      | rk _ _ hb0 hc0 hcs hne hr =>
        have hall2 : ∀ m, m < Tm.room (Tm.sym c) → Tm.Gt r a (Tm.kid c m) := fun m hm => ih a b (Tm.kid c m) (by have := Tm.kid_short hm; omega) hab (hcs m hm)
        rcases how with ⟨h1, h2⟩ | ⟨h1, _⟩
        · refine .rk a c ha0 hc0 hall2 (fun e => ?_) (by omega)
          rw [e] at h2; omega
        · exact .rk a c ha0 hc0 hall2 (by rw [h1]; exact hne) (by rw [h1]; exact hr)
      | lex _ _ m hb0 hs hcs hm hl hk =>
        have hall2 : ∀ m, m < Tm.room (Tm.sym c) → Tm.Gt r a (Tm.kid c m) := fun m hm => ih a b (Tm.kid c m) (by have := Tm.kid_short hm; omega) hab (hcs m hm)
        rcases how with ⟨h1, h2⟩ | ⟨h1, m', hm', hl', hk'⟩
        · exact .rk a c ha0 (by omega) hall2 (by rw [← hs]; exact h1) (by rw [← hs]; exact h2)
        · rcases Nat.lt_trichotomy m m' with hlt | heq | hgt
          · exact .lex a c m ha0 (h1.trans hs) hall2 (by omega) (fun l hlm => (hl' l (by omega)).trans (hl l hlm)) (by rw [hl' m hlt]; exact hk)
          · subst heq
            refine .lex a c m ha0 (h1.trans hs) hall2 hm' (fun l hlm => (hl' l hlm).trans (hl l hlm)) (ih _ _ _ ?_ hk' hk)
            have e1 := Tm.kid_short (x := a) hm'
            have e2 := Tm.kid_short (x := b) hm
            have e3 := Tm.kid_short (x := c) (m := m) (by rw [← hs]; exact hm)
            omega
          · exact .lex a c m' ha0 (h1.trans hs) hall2 hm' (fun l hlm => (hl' l hlm).trans (hl l (by omega))) (by rw [← hl m' hgt]; exact hk')
    cases hab with
    | eq _ _ m hm e => exact .sub a c m hm (by rw [e]; exact hbc)
    | sub _ _ m hm h => exact .sub a c m hm (ih _ b c (by have := Tm.kid_short hm; omega) h hbc)
    | rk _ _ ha0 hb0 hall hne hr => exact main hall ha0 (.inl ⟨hne, hr⟩)
    | lex _ _ m ha0 hs hall hm hl hk => exact main hall ha0 (.inr ⟨hs, m, hm, hl, hk⟩)
theorem Tm.Gt.trans {r : Int → Int} {a b c : List Int} (h : Tm.Gt r a b) (h' : Tm.Gt r b c) : Tm.Gt r a c := Tm.Gt.trans_n _ a b c (Nat.lt_succ_self _) h h'

theorem Tm.Gt.irrefl {r : Int → Int} : ∀ (n : Nat) (a : List Int), a.length < n → ¬ Tm.Gt r a a := by
  intro n
  induction n with
  | zero => intro a h; omega
  | succ n ih =>
    intro a hn h
    cases h with
    | eq _ _ m hm e => have := Tm.kid_short hm; rw [e] at this; omega
    | sub _ _ m hm h => exact ih (Tm.kid a m) (by have := Tm.kid_short hm; omega) (h.trans (.eq a _ m hm rfl))
    | rk _ _ _ _ _ hne _ => exact hne rfl
    | lex _ _ m _ _ _ hm _ hk => exact ih (Tm.kid a m) (by have := Tm.kid_short hm; omega) hk
theorem Tm.Gt.self {r : Int → Int} (a : List Int) : ¬ Tm.Gt r a a := Tm.Gt.irrefl _ a (Nat.lt_succ_self _)
theorem Tm.Gt.ne {r : Int → Int} {a b : List Int} (h : Tm.Gt r a b) : a ≠ b := fun e => Tm.Gt.self a (by rw [← e] at h; exact h)

/-- By a part; by the symbol, as far as parts are above; by the first parts that differ. -/
theorem Tm.Gt.iff {r : Int → Int} (a b : List Int) : Tm.Gt r a b ↔ (∃ m, m < Tm.room (Tm.sym a) ∧ (Tm.kid a m = b ∨ Tm.Gt r (Tm.kid a m) b)) ∨
    (0 ≤ Tm.sym a ∧ 0 ≤ Tm.sym b ∧ (∀ m, m < Tm.room (Tm.sym b) → Tm.Gt r a (Tm.kid b m)) ∧ ((Tm.sym a ≠ Tm.sym b ∧ r (Tm.sym b) < r (Tm.sym a)) ∨ (Tm.sym a = Tm.sym b ∧ ∃ m, m < Tm.room (Tm.sym a) ∧ (∀ l, l < m → Tm.kid a l = Tm.kid b l) ∧ Tm.Gt r (Tm.kid a m) (Tm.kid b m)))) := by
  constructor
  · intro h
    cases h with
    | eq _ _ m hm e => exact .inl ⟨m, hm, .inl e⟩
    | sub _ _ m hm h => exact .inl ⟨m, hm, .inr h⟩
    | rk _ _ ha hb hall hne hr => exact .inr ⟨ha, hb, hall, .inl ⟨hne, hr⟩⟩
    | lex _ _ m ha hs hall hm hl hk => exact .inr ⟨ha, by omega, hall, .inr ⟨hs, m, hm, hl, hk⟩⟩
  · rintro (⟨m, hm, e | h⟩ | ⟨ha, hb, hall, ⟨hne, hr⟩ | ⟨hs, m, hm, hl, hk⟩⟩)
    · exact .eq a b m hm e
    · exact .sub a b m hm h
    · exact .rk a b ha hb hall hne hr
    · exact .lex a b m ha hs hall hm hl hk

end Go.Proofs.Ytjaikmlbajdedad

namespace Go.Proofs.Ytjaikmlbajdedad
open Go.Proofs Go.RowKit Go.Shelf

theorem Tm.pos_flat {s : Int} {zss : List (List Int)} (hz : ∀ j, j < zss.length → Tm.run (zss[j]?.getD []) 1 = (zss[j]?.getD []).length) : ∀ m, m ≤ zss.length → Tm.pos (s :: zss.flatten) 0 m = (s :: (zss.take m).flatten).length := by
  intro m
  induction m with
  | zero => intro _; simp [Tm.pos_zero]
  | succ m ih =>
    intro hm
    rw [Tm.pos_succ, ih (by omega)]
    have e : s :: zss.flatten = (s :: (zss.take m).flatten) ++ (zss[m]?.getD [] ++ (zss.drop (m + 1)).flatten) := by rw [List.cons_append, ← split_flatten (by omega)]
    rw [e, Tm.endAt_front (hz m (by omega)), List.length_cons, List.length_cons, flatten_snoc (by omega), List.length_append]
    omega
theorem Tm.kid_flat {s : Int} {zss : List (List Int)} (hz : ∀ j, j < zss.length → Tm.run (zss[j]?.getD []) 1 = (zss[j]?.getD []).length) {m : Nat} (hm : m < zss.length) : Tm.kid (s :: zss.flatten) m = zss[m]?.getD [] := by
  unfold Tm.kid
  rw [Tm.pos_flat hz m (by omega)]
  have e : s :: zss.flatten = (s :: (zss.take m).flatten) ++ (zss[m]?.getD [] ++ (zss.drop (m + 1)).flatten) := by rw [List.cons_append, ← split_flatten (by omega)]
  rw [e, Tm.part_front (hz m hm)]

def Tm.kids (x : List Int) (n : Nat) : List (List Int) := (List.range n).map (Tm.kid x)
theorem Tm.kids_len (x : List Int) (n : Nat) : (Tm.kids x n).length = n := by simp [Tm.kids]
theorem Tm.kids_at (x : List Int) {n m : Nat} (h : m < n) : (Tm.kids x n)[m]?.getD [] = Tm.kid x m := by simp [Tm.kids, h]
theorem Tm.kids_succ (x : List Int) (n : Nat) : Tm.kids x (n + 1) = Tm.kids x n ++ [Tm.kid x n] := by simp [Tm.kids, List.range_succ]
theorem Tm.take_end (x : List Int) (k : Nat) : x.take (Tm.endAt x k) = x.take k ++ Tm.part x k := by
  have := Tm.endAt_gt x k
  unfold Tm.part
  rw [show Tm.endAt x k = k + (Tm.endAt x k - k) from by omega, List.take_add, show k + (Tm.endAt x k - k) - k = Tm.endAt x k - k from by omega]
theorem Tm.take_pos {x : List Int} (h : 0 < x.length) : ∀ n, x.take (Tm.pos x 0 n) = Tm.sym x :: (Tm.kids x n).flatten := by
  intro n
  induction n with
  | zero =>
    obtain ⟨s, l, rfl⟩ : ∃ s l, x = s :: l := by cases x with | nil => simp at h | cons s l => exact ⟨s, l, rfl⟩
    simp [Tm.pos_zero, Tm.sym, Tm.kids]
  | succ n ih =>
    rw [Tm.pos_succ, Tm.take_end, ih, Tm.kids_succ, List.flatten_append, List.cons_append]
    simp [Tm.kid]
theorem Tm.pos_last {x : List Int} (h : Tm.err x = 0) : Tm.pos x 0 (Tm.room (Tm.sym x)) = x.length := by
  have h1 := Tm.endAt_in x 0 (Tm.err_pos h)
  rw [Tm.endAt_zero, Tm.err_run h] at h1
  exact h1.symm
/-- A term is its symbol and its parts. -/
theorem Tm.view {x : List Int} (h : Tm.err x = 0) : x = Tm.sym x :: (Tm.kids x (Tm.room (Tm.sym x))).flatten := by
  rw [← Tm.take_pos (Tm.err_pos h), Tm.pos_last h, List.take_length]
theorem Tm.pos_step (x : List Int) (k m : Nat) : Tm.pos x k m < Tm.pos x k (m + 1) := by rw [Tm.pos_succ]; exact Tm.endAt_gt _ _
theorem Tm.pos_in {x : List Int} (h : Tm.err x = 0) {m : Nat} (hm : m < Tm.room (Tm.sym x)) : Tm.pos x 0 m < x.length := by
  have h1 := Tm.pos_step x 0 m
  have h2 := Tm.pos_mono x 0 (m + 1) (Tm.room (Tm.sym x)) (by omega)
  rw [Tm.pos_last h] at h2
  omega
theorem Tm.kid_err {x : List Int} (h : Tm.err x = 0) {m : Nat} (hm : m < Tm.room (Tm.sym x)) : Tm.err (Tm.kid x m) = 0 := Tm.part_err h (Tm.pos_in h hm)
theorem Tm.kids_run {x : List Int} (h : Tm.err x = 0) : ∀ j, j < (Tm.kids x (Tm.room (Tm.sym x))).length → Tm.run ((Tm.kids x (Tm.room (Tm.sym x)))[j]?.getD []) 1 = ((Tm.kids x (Tm.room (Tm.sym x)))[j]?.getD []).length := by
  intro j hj
  rw [Tm.kids_len] at hj
  rw [Tm.kids_at x hj]
  exact Tm.err_run (Tm.kid_err h hj)
theorem Tm.view_ext {a b : List Int} (ha : Tm.err a = 0) (hb : Tm.err b = 0) (hs : Tm.sym a = Tm.sym b) (hk : ∀ m, m < Tm.room (Tm.sym a) → Tm.kid a m = Tm.kid b m) : a = b := by
  rw [Tm.view ha, Tm.view hb, ← hs]
  congr 2
  exact List.map_congr_left (fun m hm => hk m (List.mem_range.1 hm))

/-- The parts of a term that stands in another one. -/
theorem Tm.sym_part {zs : List Int} (he : Tm.err zs = 0) {i : Nat} (hi : i < zs.length) : Tm.sym (Tm.part zs i) = zs[i]?.getD 0 := by
  have hl := Tm.part_length he hi
  have hg := Tm.endAt_gt zs i
  unfold Tm.sym Tm.part
  rw [List.getElem?_take_of_lt (by omega), List.getElem?_drop]
  simp
theorem Tm.pos_part {zs : List Int} (he : Tm.err zs = 0) {i : Nat} (hi : i < zs.length) : ∀ m, m ≤ Tm.room (zs[i]?.getD 0) → Tm.pos zs i m = i + Tm.pos (Tm.part zs i) 0 m := by
  have hp := Tm.part_err he hi
  have hs := Tm.sym_part he hi
  have hsp := Tm.split zs i
  have hti : (zs.take i).length = i := by simp; omega
  intro m
  induction m with
  | zero => intro _; simp [Tm.pos_zero]
  | succ m ih =>
    intro hm
    have hin := Tm.pos_in hp (m := m) (by rw [hs]; omega)
    rw [Tm.pos_succ, Tm.pos_succ, ih (by omega)]
    have h := Tm.endAt_mid (pre := zs.take i) (t := Tm.part zs i) (post := zs.drop (Tm.endAt zs i)) (k := Tm.pos (Tm.part zs i) 0 m) (by omega) (Tm.end_in hp hin)
    rw [← hsp, hti] at h
    exact h
theorem Tm.kid_part {zs : List Int} (he : Tm.err zs = 0) {i : Nat} (hi : i < zs.length) {m : Nat} (hm : m < Tm.room (zs[i]?.getD 0)) : Tm.kid (Tm.part zs i) m = Tm.part zs (Tm.pos zs i m) := by
  have hp := Tm.part_err he hi
  have hs := Tm.sym_part he hi
  have hsp := Tm.split zs i
  have hti : (zs.take i).length = i := by simp; omega
  have hin := Tm.pos_in hp (m := m) (by rw [hs]; omega)
  have h := Tm.part_mid (pre := zs.take i) (t := Tm.part zs i) (post := zs.drop (Tm.endAt zs i)) (k := Tm.pos (Tm.part zs i) 0 m) (by omega) (Tm.end_in hp hin)
  rw [← hsp, hti] at h
  rw [Tm.pos_part he hi m (by omega), h]
  rfl

/-- Who is above stays above, whatever variables become. -/
theorem Tm.applied_flatten (ss : List (List Int)) (zss : List (List Int)) : Tm.applied ss zss.flatten = (zss.map (Tm.applied ss)).flatten := by
  induction zss with
  | nil => simp [Tm.applied]
  | cons z l ih => rw [List.flatten_cons, List.map_cons, List.flatten_cons, ← ih]; simp [Tm.applied]
theorem Tm.applied_view {ss : List (List Int)} (hss : Terms ss) {a : List Int} (ha : Tm.err a = 0) (h0 : 0 ≤ Tm.sym a) : Tm.sym (Tm.applied ss a) = Tm.sym a ∧ ∀ m, m < Tm.room (Tm.sym a) → Tm.kid (Tm.applied ss a) m = Tm.applied ss (Tm.kid a m) := by
  have e : Tm.applied ss a = Tm.sym a :: ((Tm.kids a (Tm.room (Tm.sym a))).map (Tm.applied ss)).flatten := by
    conv => lhs; rw [Tm.view ha]
    rw [Tm.applied_cons, Tm.piece_pos h0, Tm.applied_flatten]; rfl
  have hr : ∀ j, j < ((Tm.kids a (Tm.room (Tm.sym a))).map (Tm.applied ss)).length → Tm.run (((Tm.kids a (Tm.room (Tm.sym a))).map (Tm.applied ss))[j]?.getD []) 1 = (((Tm.kids a (Tm.room (Tm.sym a))).map (Tm.applied ss))[j]?.getD []).length := by
    intro j hj
    rw [List.length_map, Tm.kids_len] at hj
    have ek : ((Tm.kids a (Tm.room (Tm.sym a))).map (Tm.applied ss))[j]?.getD [] = Tm.applied ss (Tm.kid a j) := by simp [Tm.kids, hj]
    rw [ek]
    have hk := Tm.kid_err ha hj
    exact Tm.run_applied hss _ 1 (Tm.err_all hk) (Tm.err_run hk)
  constructor
  · rw [e]; simp [Tm.sym]
  · intro m hm
    rw [e, Tm.kid_flat hr (by rw [List.length_map, Tm.kids_len]; exact hm)]
    simp [Tm.kids, hm]
theorem Tm.Gt.stays {r : Int → Int} {ss : List (List Int)} (hss : Terms ss) {a b : List Int} (h : Tm.Gt r a b) : Tm.err a = 0 → Tm.err b = 0 → Tm.Gt r (Tm.applied ss a) (Tm.applied ss b) := by
  induction h with
  | eq a b m hm e =>
    intro ha hb
    obtain ⟨h1, h2⟩ := Tm.applied_view hss ha (Tm.Gt.pos (r := r) (.eq a b m hm e))
    exact .eq _ _ m (by rw [h1]; exact hm) (by rw [h2 m hm, e])
  | sub a b m hm h ih =>
    intro ha hb
    obtain ⟨h1, h2⟩ := Tm.applied_view hss ha (Tm.Gt.pos (.sub a b m hm h))
    exact .sub _ _ m (by rw [h1]; exact hm) (by rw [h2 m hm]; exact ih (Tm.kid_err ha hm) hb)
  | rk a b ha0 hb0 hall hne hr ih =>
    intro ha hb
    obtain ⟨h1, h2⟩ := Tm.applied_view hss ha ha0
    obtain ⟨k1, k2⟩ := Tm.applied_view hss hb hb0
    exact .rk _ _ (by rw [h1]; exact ha0) (by rw [k1]; exact hb0) (fun m hm => by rw [k1] at hm; rw [k2 m hm]; exact ih m hm ha (Tm.kid_err hb hm)) (by rw [h1, k1]; exact hne) (by rw [h1, k1]; exact hr)
  | lex a b m ha0 hs hall hm hl hk ih ihk =>
    intro ha hb
    obtain ⟨h1, h2⟩ := Tm.applied_view hss ha ha0
    obtain ⟨k1, k2⟩ := Tm.applied_view hss hb (by omega)
    exact .lex _ _ m (by rw [h1]; exact ha0) (by rw [h1, k1]; exact hs) (fun m hm => by rw [k1] at hm; rw [k2 m hm]; exact ih m hm ha (Tm.kid_err hb hm)) (by rw [h1]; exact hm)
      (fun l hlm => by rw [h2 l (by omega), k2 l (by rw [← hs]; omega), hl l hlm]) (by rw [h2 m hm, k2 m (by rw [← hs]; exact hm)]; exact ihk (Tm.kid_err ha hm) (Tm.kid_err hb (by rw [← hs]; exact hm)))

/-- A place that is not the first lies in a part. -/
theorem Tm.place_kid {x : List Int} (h : Tm.err x = 0) {k : Nat} (h0 : 0 < k) (hk : k < x.length) : ∃ m, m < Tm.room (Tm.sym x) ∧ Tm.pos x 0 m ≤ k ∧ k < Tm.pos x 0 (m + 1) := by
  have key : ∀ n, k < Tm.pos x 0 n → ∃ m, m < n ∧ Tm.pos x 0 m ≤ k ∧ k < Tm.pos x 0 (m + 1) := by
    intro n
    induction n with
    | zero => intro hn; rw [Tm.pos_zero] at hn; omega
    | succ n ih =>
      intro hn
      by_cases hc : k < Tm.pos x 0 n
      · obtain ⟨m, h1, h2⟩ := ih hc; exact ⟨m, by omega, h2⟩
      · exact ⟨n, by omega, by omega, hn⟩
  exact key _ (by rw [Tm.pos_last h]; exact hk)
/-- What is put at a place of a part. -/
theorem Tm.put_view {x u : List Int} (h : Tm.err x = 0) (hu : Tm.err u = 0) {k m : Nat} (hm : m < Tm.room (Tm.sym x)) (h1 : Tm.pos x 0 m ≤ k) (h2 : k < Tm.pos x 0 (m + 1)) :
    Tm.sym (Tm.put x k u) = Tm.sym x ∧ k - Tm.pos x 0 m < (Tm.kid x m).length ∧ ∀ l, l < Tm.room (Tm.sym x) → Tm.kid (Tm.put x k u) l = if l = m then Tm.put (Tm.kid x m) (k - Tm.pos x 0 m) u else Tm.kid x l := by
  have hpi := Tm.pos_in h hm
  have hkl : (Tm.kid x m).length = Tm.pos x 0 (m + 1) - Tm.pos x 0 m := by rw [Tm.pos_succ]; exact Tm.part_length h hpi
  have hke := Tm.kid_err h hm
  have hk' : k - Tm.pos x 0 m < (Tm.kid x m).length := by omega
  have hml : m < (Tm.kids x (Tm.room (Tm.sym x))).length := by rw [Tm.kids_len]; exact hm
  obtain ⟨zss, hz⟩ : ∃ zss, Tm.kids x (Tm.room (Tm.sym x)) = zss := ⟨_, rfl⟩
  have hrun := Tm.kids_run h
  have hv := Tm.view h
  have hat := fun l (hl : l < Tm.room (Tm.sym x)) => Tm.kids_at x hl
  have hlen := Tm.kids_len x (Tm.room (Tm.sym x))
  rw [hz] at hml hrun hv hat hlen
  have hpos := Tm.pos_flat (s := Tm.sym x) hrun m (by omega)
  rw [← hv] at hpos
  have e : x = (Tm.sym x :: (zss.take m).flatten) ++ (Tm.kid x m ++ (zss.drop (m + 1)).flatten) := by rw [← hat m hm, List.cons_append, ← split_flatten hml]; exact hv
  have hput : Tm.put x k u = Tm.sym x :: (zss.set m (Tm.put (Tm.kid x m) (k - Tm.pos x 0 m) u)).flatten := by
    have hend := Tm.endAt_mid (pre := Tm.sym x :: (zss.take m).flatten) (t := Tm.kid x m) (post := (zss.drop (m + 1)).flatten) (k := k - Tm.pos x 0 m) (by omega) (Tm.end_in hke hk')
    rw [← e, ← hpos, show Tm.pos x 0 m + (k - Tm.pos x 0 m) = k from by omega] at hend
    have hset : (zss.set m (Tm.put (Tm.kid x m) (k - Tm.pos x 0 m) u)).flatten = (zss.take m).flatten ++ (Tm.put (Tm.kid x m) (k - Tm.pos x 0 m) u ++ (zss.drop (m + 1)).flatten) := by
      rw [List.set_eq_take_append_cons_drop, if_pos hml, List.flatten_append, List.flatten_cons]
    have hee := Tm.end_in hke hk'
    rw [hset, Tm.put_eq, Tm.put_eq, hend]
    have t1 : x.take k = (Tm.sym x :: (zss.take m).flatten) ++ (Tm.kid x m).take (k - Tm.pos x 0 m) := by
      conv => lhs; rw [e]
      rw [List.take_append, ← hpos, List.take_of_length_le (by rw [← hpos]; omega), List.take_append_of_le_length (by omega)]
    have t2 : ∀ q, q = Tm.pos x 0 m + Tm.endAt (Tm.kid x m) (k - Tm.pos x 0 m) → x.drop q = (Tm.kid x m).drop (Tm.endAt (Tm.kid x m) (k - Tm.pos x 0 m)) ++ (zss.drop (m + 1)).flatten := by
      intro q hq
      have hq2 : q - (Tm.sym x :: (zss.take m).flatten).length = Tm.endAt (Tm.kid x m) (k - Tm.pos x 0 m) := by omega
      conv => lhs; rw [e]
      rw [List.drop_append, List.drop_of_length_le (by omega), List.nil_append, hq2, List.drop_append_of_le_length hee]
    rw [t1, t2 _ rfl]
    simp
  have hrun2 : ∀ j, j < (zss.set m (Tm.put (Tm.kid x m) (k - Tm.pos x 0 m) u)).length → Tm.run ((zss.set m (Tm.put (Tm.kid x m) (k - Tm.pos x 0 m) u))[j]?.getD []) 1 = ((zss.set m (Tm.put (Tm.kid x m) (k - Tm.pos x 0 m) u))[j]?.getD []).length := by
    intro j hj
    rw [List.length_set] at hj
    by_cases ej : j = m
    · subst ej; rw [List.getElem?_set_self hj]; exact Tm.put_run hke (Tm.err_run hu) hk'
    · rw [List.getElem?_set_ne (by omega)]; exact hrun j hj
  refine ⟨by rw [hput]; simp [Tm.sym], hk', fun l hl => ?_⟩
  rw [hput, Tm.kid_flat hrun2 (by rw [List.length_set]; omega)]
  by_cases el : l = m
  · subst el; rw [if_pos rfl, List.getElem?_set_self hml]; rfl
  · rw [if_neg el, List.getElem?_set_ne (by omega)]; exact hat l hl

theorem Tm.put_zero {x u : List Int} (h : Tm.err x = 0) : Tm.put x 0 u = u := by
  rw [Tm.put_eq, Tm.endAt_zero, Tm.err_run h]; simp
/-- Who is above stays above, wherever both stand. -/
theorem Tm.Gt.within {r : Int → Int} {a b : List Int} (hab : Tm.Gt r a b) (ha : Tm.err a = 0) (hb : Tm.err b = 0) : ∀ (n : Nat) (t : List Int) (k : Nat), t.length < n → Tm.err t = 0 → k < t.length → Tm.Gt r (Tm.put t k a) (Tm.put t k b) := by
  intro n
  induction n with
  | zero => intro t k h; omega
  | succ n ih =>
    intro t k hn ht hk
    by_cases h0 : k = 0
    · subst h0; rw [Tm.put_zero ht, Tm.put_zero ht]; exact hab
    obtain ⟨m, hm, h1, h2⟩ := Tm.place_kid ht (by omega) hk
    obtain ⟨sa, hkl, ka⟩ := Tm.put_view ht ha hm h1 h2
    obtain ⟨sb, _, kb⟩ := Tm.put_view ht hb hm h1 h2
    have hs0 : 0 ≤ Tm.sym t := Tm.Gt.pos (r := r) (.eq t _ m hm rfl)
    have hsub := ih (Tm.kid t m) (k - Tm.pos t 0 m) (by have := Tm.kid_short hm; omega) (Tm.kid_err ht hm) hkl
    have hkm : Tm.Gt r (Tm.kid (Tm.put t k a) m) (Tm.kid (Tm.put t k b) m) := by rw [ka m hm, kb m hm, if_pos rfl, if_pos rfl]; exact hsub
    refine .lex _ _ m (by rw [sa]; exact hs0) (by rw [sa, sb]) (fun l hl => ?_) (by rw [sa]; exact hm) (fun l hl => by rw [ka l (by omega), kb l (by omega), if_neg (by omega), if_neg (by omega)]) hkm
    rw [sb] at hl
    by_cases el : l = m
    · subst el; exact .sub _ _ l (by rw [sa]; exact hl) hkm
    · refine .eq _ _ l (by rw [sa]; exact hl) ?_
      rw [ka l hl, kb l hl, if_neg el, if_neg el]

/-- Each is above its parts. -/
theorem Tm.Gt.parts {r : Int → Int} : ∀ (n : Nat) (t : List Int) (k : Nat), t.length < n → Tm.err t = 0 → 0 < k → k < t.length → Tm.Gt r t (Tm.part t k) := by
  intro n
  induction n with
  | zero => intro t k h; omega
  | succ n ih =>
    intro t k hn ht h0 hk
    obtain ⟨m, hm, h1, h2⟩ := Tm.place_kid ht h0 hk
    have hpi := Tm.pos_in ht hm
    have hke := Tm.kid_err ht hm
    have hkl : (Tm.kid t m).length = Tm.pos t 0 (m + 1) - Tm.pos t 0 m := by rw [Tm.pos_succ]; exact Tm.part_length ht hpi
    have hti : (t.take (Tm.pos t 0 m)).length = Tm.pos t 0 m := by simp; omega
    have hk' : k - Tm.pos t 0 m < (Tm.kid t m).length := by omega
    have hpk : Tm.part t k = Tm.part (Tm.kid t m) (k - Tm.pos t 0 m) := by
      have h := Tm.part_mid (pre := t.take (Tm.pos t 0 m)) (t := Tm.kid t m) (post := t.drop (Tm.endAt t (Tm.pos t 0 m))) (k := k - Tm.pos t 0 m) (by omega) (Tm.end_in hke hk')
      have hs := Tm.split t (Tm.pos t 0 m)
      rw [show Tm.part t (Tm.pos t 0 m) = Tm.kid t m from rfl] at hs
      rw [← hs, hti, show Tm.pos t 0 m + (k - Tm.pos t 0 m) = k from by omega] at h
      exact h
    rw [hpk]
    by_cases e : k - Tm.pos t 0 m = 0
    · rw [e, Tm.part_all0 (Tm.err_run hke)]; exact .eq _ _ m hm rfl
    · exact .sub _ _ m hm (ih _ _ (by have := Tm.kid_short hm; omega) hke (by omega) hk')

/-- Without variables one of two that differ is above. -/
theorem Tm.kid_ground {x : List Int} (h : ∀ s ∈ x, 0 ≤ s) (m : Nat) : ∀ s ∈ Tm.kid x m, 0 ≤ s := fun s hs => h s (List.mem_of_mem_drop (List.mem_of_mem_take hs))
theorem Tm.sym_mem {x : List Int} (h : 0 < x.length) : Tm.sym x ∈ x := by
  cases x with
  | nil => simp at h
  | cons s l => simp [Tm.sym]
theorem Tm.Gt.total {r : Int → Int} (hr : ∀ s t : Int, 0 ≤ s → s < 6 → 0 ≤ t → t < 6 → r s = r t → s = t) : ∀ (n : Nat) (a b : List Int), a.length + b.length < n → Tm.err a = 0 → Tm.err b = 0 → (∀ s ∈ a, 0 ≤ s) → (∀ s ∈ b, 0 ≤ s) → a = b ∨ Tm.Gt r a b ∨ Tm.Gt r b a := by
  intro n
  induction n with
  | zero => intro a b h; omega
  | succ n ih =>
    intro a b hn ha hb ga gb
    have sa := Tm.sym_mem (Tm.err_pos ha)
    have sb := Tm.sym_mem (Tm.err_pos hb)
    have a0 := ga _ sa
    have b0 := gb _ sb
    have a6 : Tm.sym a < 6 := Tm.known_lt (by have := Tm.err_all ha; rw [List.all_eq_true] at this; exact this _ sa)
    have b6 : Tm.sym b < 6 := Tm.known_lt (by have := Tm.err_all hb; rw [List.all_eq_true] at this; exact this _ sb)
    by_cases c1 : ∃ m, m < Tm.room (Tm.sym a) ∧ (Tm.kid a m = b ∨ Tm.Gt r (Tm.kid a m) b)
    · exact .inr (.inl ((Tm.Gt.iff a b).2 (.inl c1)))
    by_cases c2 : ∃ m, m < Tm.room (Tm.sym b) ∧ (Tm.kid b m = a ∨ Tm.Gt r (Tm.kid b m) a)
    · exact .inr (.inr ((Tm.Gt.iff b a).2 (.inl c2)))
    have d1 : ∀ m, m < Tm.room (Tm.sym a) → Tm.Gt r b (Tm.kid a m) := fun m hm => by
      have hs := Tm.kid_short hm
      rcases ih (Tm.kid a m) b (by omega) (Tm.kid_err ha hm) hb (Tm.kid_ground ga m) gb with h | h | h
      · exact absurd ⟨m, hm, .inl h⟩ c1
      · exact absurd ⟨m, hm, .inr h⟩ c1
      · exact h
    have d2 : ∀ m, m < Tm.room (Tm.sym b) → Tm.Gt r a (Tm.kid b m) := fun m hm => by
      have hs := Tm.kid_short hm
      rcases ih (Tm.kid b m) a (by omega) (Tm.kid_err hb hm) ha (Tm.kid_ground gb m) ga with h | h | h
      · exact absurd ⟨m, hm, .inl h⟩ c2
      · exact absurd ⟨m, hm, .inr h⟩ c2
      · exact h
    by_cases hs : Tm.sym a = Tm.sym b
    · have key : ∀ n, n ≤ Tm.room (Tm.sym a) → (∀ l, l < n → Tm.kid a l = Tm.kid b l) ∨ Tm.Gt r a b ∨ Tm.Gt r b a := by
        intro n
        induction n with
        | zero => intro _; exact .inl fun l hl => by omega
        | succ n ihn =>
          intro hn'
          rcases ihn (by omega) with h | h
          · have s1 := Tm.kid_short (x := a) (m := n) (by omega)
            have s2 := Tm.kid_short (x := b) (m := n) (by rw [← hs]; omega)
            rcases ih (Tm.kid a n) (Tm.kid b n) (by omega) (Tm.kid_err ha (by omega)) (Tm.kid_err hb (by rw [← hs]; omega)) (Tm.kid_ground ga n) (Tm.kid_ground gb n) with e | g | g
            · refine .inl fun l hl => ?_
              by_cases el : l = n
              · rw [el]; exact e
              · exact h l (by omega)
            · exact .inr (.inl (.lex a b n a0 hs d2 (by omega) h g))
            · exact .inr (.inr (.lex b a n b0 hs.symm d1 (by rw [← hs]; omega) (fun l hl => (h l hl).symm) g))
          · exact .inr h
      rcases key _ (Nat.le_refl _) with h | h
      · exact .inl (Tm.view_ext ha hb hs h)
      · exact .inr h
    · rcases Int.lt_trichotomy (r (Tm.sym a)) (r (Tm.sym b)) with h | h | h
      · exact .inr (.inr (.rk b a b0 a0 d1 (fun e => hs e.symm) h))
      · exact absurd (hr _ _ a0 a6 b0 b6 h) hs
      · exact .inr (.inl (.rk a b a0 b0 d2 hs h))

end Go.Proofs.Ytjaikmlbajdedad

namespace Go.Proofs.Ytjaikmlbajdedad
open Go.Proofs Go.RowKit Go.Shelf Go.Maps

/-- E2, reckoned. -/
def Tm.gtB (r : Int → Int) : Nat → List Int → List Int → Bool
  | 0, _, _ => false
  | n + 1, a, b => ((List.range (Tm.room (Tm.sym a))).any fun m => decide (Tm.kid a m = b) || Tm.gtB r n (Tm.kid a m) b) ||
    (decide (0 ≤ Tm.sym a) && (decide (0 ≤ Tm.sym b) && (((List.range (Tm.room (Tm.sym b))).all fun m => Tm.gtB r n a (Tm.kid b m)) && ((decide (Tm.sym a ≠ Tm.sym b) && decide (r (Tm.sym b) < r (Tm.sym a))) ||
      (decide (Tm.sym a = Tm.sym b) && (List.range (Tm.room (Tm.sym a))).any fun m => ((List.range m).all fun l => decide (Tm.kid a l = Tm.kid b l)) && Tm.gtB r n (Tm.kid a m) (Tm.kid b m))))))
theorem Tm.gtB_iff {r : Int → Int} : ∀ (n : Nat) (a b : List Int), a.length + b.length < n → (Tm.gtB r n a b = true ↔ Tm.Gt r a b) := by
  intro n
  induction n with
  | zero => intro a b h; omega
  | succ n ih =>
    intro a b hn
    have i1 : ∀ m, m < Tm.room (Tm.sym a) → (Tm.gtB r n (Tm.kid a m) b = true ↔ Tm.Gt r (Tm.kid a m) b) := fun m hm => ih _ _ (by have := Tm.kid_short hm; omega)
    have i2 : ∀ m, m < Tm.room (Tm.sym b) → (Tm.gtB r n a (Tm.kid b m) = true ↔ Tm.Gt r a (Tm.kid b m)) := fun m hm => ih _ _ (by have := Tm.kid_short hm; omega)
    have i3 : Tm.sym a = Tm.sym b → ∀ m, m < Tm.room (Tm.sym a) → (Tm.gtB r n (Tm.kid a m) (Tm.kid b m) = true ↔ Tm.Gt r (Tm.kid a m) (Tm.kid b m)) := fun e m hm => ih _ _ (by have := Tm.kid_short hm; have := Tm.kid_short (x := b) (m := m) (by rw [← e]; exact hm); omega)
    rw [Tm.Gt.iff]
    simp only [Tm.gtB, Bool.or_eq_true, Bool.and_eq_true, List.any_eq_true, List.all_eq_true, List.mem_range, decide_eq_true_eq]
    refine or_congr (exists_congr fun m => and_congr_right fun hm => or_congr Iff.rfl (i1 m hm)) (and_congr_right fun _ => and_congr_right fun _ => and_congr (forall_congr' fun m => forall_congr' fun hm => i2 m hm) (or_congr Iff.rfl (and_congr_right fun e => exists_congr fun m => and_congr_right fun hm => and_congr_right fun _ => i3 e m hm)))
def Tm.above (r : Int → Int) (a b : List Int) : Bool := Tm.gtB r (a.length + b.length + 1) a b
theorem Tm.above_iff {r : Int → Int} {a b : List Int} : Tm.above r a b = true ↔ Tm.Gt r a b := Tm.gtB_iff _ a b (Nat.lt_succ_self _)

/-- The ranks that a list tells. -/
def Tm.rankOf (rk : List Int) (s : Int) : Int := rk[s.toNat]?.getD 0
/-- At places. -/
def Tm.ab (rk za zb : List Int) (i j : Nat) : Bool := Tm.above (Tm.rankOf rk) (Tm.part za i) (Tm.part zb j)
def Tm.sm (za zb : List Int) (i j : Nat) : Bool := decide (Tm.part za i = Tm.part zb j)
/-- By a part, the first n parts held. -/
def Tm.bp (rk za zb : List Int) (i j n : Nat) : Bool := (List.range n).any fun m => Tm.sm za zb (Tm.pos za i m) j || Tm.ab rk za zb (Tm.pos za i m) j
/-- Above the first n parts. -/
def Tm.ov (rk za zb : List Int) (i j n : Nat) : Bool := (List.range n).all fun m => Tm.ab rk za zb i (Tm.pos zb j m)
/-- The first n parts are the same. -/
def Tm.sms (za zb : List Int) (i j n : Nat) : Bool := (List.range n).all fun m => Tm.sm za zb (Tm.pos za i m) (Tm.pos zb j m)
/-- By the first parts that differ. -/
def Tm.fd (rk za zb : List Int) (i j n : Nat) : Bool := (List.range n).any fun m => Tm.sms za zb i j m && Tm.ab rk za zb (Tm.pos za i m) (Tm.pos zb j m)
/-- By the symbol. -/
def Tm.sy (rk za zb : List Int) (i j : Nat) : Bool :=
  decide (0 ≤ za[i]?.getD 0) && (decide (0 ≤ zb[j]?.getD 0) && (Tm.ov rk za zb i j (Tm.room (zb[j]?.getD 0)) && (if za[i]?.getD 0 = zb[j]?.getD 0 then Tm.fd rk za zb i j (Tm.room (za[i]?.getD 0)) else decide (Tm.rankOf rk (zb[j]?.getD 0) < Tm.rankOf rk (za[i]?.getD 0)))))
theorem Tm.bp_succ (rk za zb : List Int) (i j n : Nat) : Tm.bp rk za zb i j (n + 1) = (Tm.bp rk za zb i j n || (Tm.sm za zb (Tm.pos za i n) j || Tm.ab rk za zb (Tm.pos za i n) j)) := by simp [Tm.bp, List.range_succ]
theorem Tm.ov_succ (rk za zb : List Int) (i j n : Nat) : Tm.ov rk za zb i j (n + 1) = (Tm.ov rk za zb i j n && Tm.ab rk za zb i (Tm.pos zb j n)) := by simp [Tm.ov, List.range_succ]
theorem Tm.sms_succ (za zb : List Int) (i j n : Nat) : Tm.sms za zb i j (n + 1) = (Tm.sms za zb i j n && Tm.sm za zb (Tm.pos za i n) (Tm.pos zb j n)) := by simp [Tm.sms, List.range_succ]
theorem Tm.ab_same {rk za zb : List Int} {i j : Nat} (h : Tm.sm za zb i j = true) : Tm.ab rk za zb i j = false := by
  simp only [Tm.sm, decide_eq_true_eq] at h
  unfold Tm.ab
  rw [h]
  rw [Bool.eq_false_iff]
  exact fun e => Tm.Gt.self _ (Tm.above_iff.1 e)
theorem Tm.sms_mono {za zb : List Int} {i j n m : Nat} (h : m ≤ n) (hn : Tm.sms za zb i j n = true) : Tm.sms za zb i j m = true := by
  simp only [Tm.sms, List.all_eq_true, List.mem_range] at *
  exact fun l hl => hn l (by omega)
/-- All are the same as far as m: nothing is above. -/
theorem Tm.fd_same {rk za zb : List Int} {i j n : Nat} (h : Tm.sms za zb i j n = true) : Tm.fd rk za zb i j n = false := by
  rw [Bool.eq_false_iff]
  intro e
  simp only [Tm.fd, List.any_eq_true, List.mem_range, Bool.and_eq_true] at e
  obtain ⟨m, hm, _, ha⟩ := e
  have : Tm.sm za zb (Tm.pos za i m) (Tm.pos zb j m) = true := by
    simp only [Tm.sms, List.all_eq_true, List.mem_range] at h
    exact h m hm
  rw [Tm.ab_same this] at ha
  cases ha
/-- At the first that differ. -/
theorem Tm.fd_at {rk za zb : List Int} {i j n m : Nat} (hm : m < n) (h : Tm.sms za zb i j m = true) (hd : Tm.sm za zb (Tm.pos za i m) (Tm.pos zb j m) = false) : Tm.fd rk za zb i j n = Tm.ab rk za zb (Tm.pos za i m) (Tm.pos zb j m) := by
  rw [Bool.eq_iff_iff]
  constructor
  · intro e
    simp only [Tm.fd, List.any_eq_true, List.mem_range, Bool.and_eq_true] at e
    obtain ⟨l, hl, hs, ha⟩ := e
    rcases Nat.lt_trichotomy l m with h1 | h1 | h1
    · have h2 := Tm.sms_mono (m := l + 1) (by omega) h
      rw [Tm.sms_succ, Bool.and_eq_true] at h2
      rw [Tm.ab_same h2.2] at ha
      cases ha
    · rw [h1] at ha; exact ha
    · have h2 := Tm.sms_mono (m := m + 1) (by omega) hs
      rw [Tm.sms_succ, Bool.and_eq_true, hd] at h2
      cases h2.2
  · intro e
    simp only [Tm.fd, List.any_eq_true, List.mem_range, Bool.and_eq_true]
    exact ⟨m, hm, h, e⟩
theorem Tm.ab_eq {rk za zb : List Int} (ha : Tm.err za = 0) (hb : Tm.err zb = 0) {i j : Nat} (hi : i < za.length) (hj : j < zb.length) : Tm.ab rk za zb i j = (Tm.bp rk za zb i j (Tm.room (za[i]?.getD 0)) || Tm.sy rk za zb i j) := by
  rw [Bool.eq_iff_iff]
  have s1 := Tm.sym_part ha hi
  have s2 := Tm.sym_part hb hj
  have k1 := fun m (hm : m < Tm.room (za[i]?.getD 0)) => Tm.kid_part ha hi hm
  have k2 := fun m (hm : m < Tm.room (zb[j]?.getD 0)) => Tm.kid_part hb hj hm
  have e1 : ∀ p q, Tm.ab rk za zb p q = true ↔ Tm.Gt (Tm.rankOf rk) (Tm.part za p) (Tm.part zb q) := fun p q => Tm.above_iff
  rw [e1, Tm.Gt.iff, s1, s2, Bool.or_eq_true]
  refine or_congr ?_ ?_
  · simp only [Tm.bp, List.any_eq_true, List.mem_range, Bool.or_eq_true, e1, Tm.sm, decide_eq_true_eq]
    exact exists_congr fun m => and_congr_right fun hm => by rw [k1 m hm]
  · simp only [Tm.sy, Bool.and_eq_true, decide_eq_true_eq]
    refine and_congr_right fun _ => and_congr_right fun _ => and_congr ?_ ?_
    · simp only [Tm.ov, List.all_eq_true, List.mem_range, e1]
      exact forall_congr' fun m => forall_congr' fun hm => by rw [k2 m hm]
    · by_cases e : za[i]?.getD 0 = zb[j]?.getD 0
      · rw [if_pos e]
        simp only [Tm.fd, List.any_eq_true, List.mem_range, Bool.and_eq_true, Tm.sms, List.all_eq_true, e1, Tm.sm, decide_eq_true_eq]
        constructor
        · rintro (⟨h, _⟩ | ⟨_, m, hm, hl, hk⟩)
          · exact absurd e h
          · exact ⟨m, hm, fun l hlm => by rw [← k1 l (by omega), ← k2 l (by rw [← e]; omega)]; exact hl l hlm, by rw [← k1 m hm, ← k2 m (by rw [← e]; exact hm)]; exact hk⟩
        · rintro ⟨m, hm, hl, hk⟩
          exact .inr ⟨e, m, hm, fun l hlm => by rw [k1 l (by omega), k2 l (by rw [← e]; omega)]; exact hl l hlm, by rw [k1 m hm, k2 m (by rw [← e]; exact hm)]; exact hk⟩
      · rw [if_neg e, decide_eq_true_eq]
        constructor
        · rintro (⟨_, h⟩ | ⟨h, _⟩)
          · exact h
          · exact absurd h e
        · exact fun h => .inl ⟨e, h⟩

/-- BLOCK b IS THE MAP M, from keys of type K. -/
def KMap (K : TypeId) (W : World) (b n : Nat) (M : Value → Option Value) : Prop :=
  ∃ D : DataW Value, W.ownsMap Try.prog K heldElem b n D ∧ ∀ (v : Value) (l : Lit), keyOf Try.prog K v = some l → Maps.has D l = (M v).isSome ∧ ∀ u, M v = some u → ∀ z, D.atKey l z = .held u
theorem KMap.made (K : TypeId) (w : World) : KMap K (w.alloc (.map #[] 0)) w.heap.size 0 (fun _ => none) :=
  ⟨_, World.ownsMap_made w _ _ _, fun _ _ _ => ⟨rfl, fun _ h => by cases h⟩⟩
theorem KMap.lt {K : TypeId} {W : World} {b n : Nat} {m : Value → Option Value} (h : KMap K W b n m) : b < W.heap.size := by
  obtain ⟨D, hD, _⟩ := h; exact hD.lt
theorem KMap.keep {K : TypeId} {W W' : World} {b n : Nat} {m : Value → Option Value} (h : KMap K W b n m) (hb : W'.heap[b]? = W.heap[b]?) : KMap K W' b n m := by
  obtain ⟨D, ⟨es, clock, hes, r⟩, r2⟩ := h
  exact ⟨D, ⟨es, clock, hb.trans hes, r⟩, r2⟩
theorem KMap.map {K : TypeId} {W : World} {b n : Nat} {m : Value → Option Value} (h : KMap K W b n m) : ∃ es clock, W.heap[b]? = some (.map es clock) := by
  obtain ⟨D, ⟨es, clock, hes, r⟩, r2⟩ := h; exact ⟨es, clock, hes⟩
theorem KMap.look {K : TypeId} (law : Keyed Try.prog K) {w : World} {b n : Nat} {M : Value → Option Value} (h : KMap K w b n M) {t e : TypeId} (ht : Try.prog.underlying t = some (.map K e)) {z : Value} (hz : (zeroValue e).run Try.prog w = .ok z w) {key : Value} {l : Lit} (hkey : keyOf Try.prog K key = some l) :
    (Instr.lookup t (.map (some b)) key true).run Try.prog w = .ok (.tuple #[(M key).getD z, .bool (M key).isSome]) w := by
  obtain ⟨D, hD, hh⟩ := h
  obtain ⟨h1, h2⟩ := hh key l hkey
  have hv : ∀ v, heldElem v = some (D.atKey l (.held z), []) → v = (M key).getD z := fun v hv => by
    unfold heldElem at hv
    simp only [Option.some.injEq, Prod.mk.injEq, and_true] at hv
    cases hm : M key with
    | none =>
      rw [atKey_none (hD.tidy law).isMap (by rw [h1, hm]; rfl)] at hv
      simpa using hv
    | some u =>
      rw [h2 u hm] at hv
      simpa using hv
  obtain ⟨v, ps, hrun, hR⟩ := hD.look_ok law ht hz (R := heldElem) (zd := .held z) (zp := []) rfl hkey
  have : ps = [] := by unfold heldElem at hR; simp at hR; exact hR.2
  subst this
  rw [hrun, hv v hR, h1]
theorem KMap.set {K : TypeId} (law : Keyed Try.prog K) {w : World} {b n : Nat} {M : Value → Option Value} (h : KMap K w b n M) {t e : TypeId} (ht : Try.prog.underlying t = some (.map K e)) (hn : n < maxLen) {key : Value} {l : Lit} (hkey : keyOf Try.prog K key = some l) (v : Value) :
    ∃ w' M', (Instr.mapUpdate t (.map (some b)) key v).run Try.prog w = .ok () w' ∧ KMap K w' b (n + 1) M' ∧ M' key = some v ∧ (∀ x, x ≠ key → M' x = M x) ∧ w.grownBy w' (some b) := by
  classical
  obtain ⟨D, hD, hh⟩ := h
  obtain ⟨w', hrun, h1, h2⟩ := hD.update (R := heldElem) law ht hn hkey (val := v) (d := .held v) (ps := []) rfl
  have hk : WideAt.IsKeyLit l := law.key hkey
  refine ⟨w', fun x => if x = key then some v else M x, hrun, ⟨_, h1, fun x lx hx => ?_⟩, by simp, fun x hx => by simp [hx], h2⟩
  by_cases e : x = key
  · subst e
    rw [hkey] at hx
    cases hx
    simp only [if_true]
    exact ⟨has_put_same (hD.tidy law).isMap hk _, fun u hu z => by cases hu; exact atKey_put_same (hD.tidy law).isMap hk _ _⟩
  · have hne : lx ≠ l := fun el => e (law.inj (by rw [el] at hx; exact hx) hkey)
    simp only [e, if_false]
    exact ⟨by rw [has_put_other hne]; exact (hh x lx hx).1, fun u hu z => by rw [atKey_put_other hne]; exact (hh x lx hx).2 u hu z⟩

section
variable (w : World) {ops : Array Oper} {rest : List Oper} {o : Oper} {a : Act} {Q : Exit → Act → World → Prop}
theorem wp_klook {K : TypeId} (law : Keyed Try.prog K) (hg : o.guard = none) (m x : Operand) (t : TypeId) (hop : o.op = Op.lookup t m x true) (e : TypeId) (ht : Try.prog.underlying t = some (.map K e)) {z : Value} (hz : (zeroValue e).run Try.prog w = .ok z w) (b n : Nat) (M : Value → Option Value)
    (hm : a.eval m = .map (some b)) (hI : KMap K w b n M) (key : Value) (l : Lit) (hx : a.eval x = key) (hkey : keyOf Try.prog K key = some l) (v : Value) (q : Bool) (hv : (M key).getD z = v) (hq : (M key).isSome = q)
    (hK : wpList Try.prog ops Q rest (a.put o.dst (.tuple #[v, .bool q])) w) : wpList Try.prog ops Q (o :: rest) a w := by
  refine wpList_plain hg fun K' hK' => ?_
  have hrun := hI.look law ht hz hkey
  rw [hv, hq] at hrun
  unfold Oper.wp
  simp [execOp, hop, hm, hx, hrun, Result.andThen]
  exact hK' _ _ hK
theorem wp_kset {K : TypeId} (law : Keyed Try.prog K) (hg : o.guard = none) (m x u : Operand) (t : TypeId) (hop : o.op = Op.mapUpdate t m x u) (e : TypeId) (ht : Try.prog.underlying t = some (.map K e)) (b n : Nat) (M : Value → Option Value)
    (hm : a.eval m = .map (some b)) (hI : KMap K w b n M) (hn : n < maxLen) (key : Value) (l : Lit) (hx : a.eval x = key) (hkey : keyOf Try.prog K key = some l) (v : Value) (hv : a.eval u = v)
    (hK : ∀ w' M', KMap K w' b (n + 1) M' → M' key = some v → (∀ x, x ≠ key → M' x = M x) → w.grownBy w' (some b) → wpList Try.prog ops Q rest (a.put o.dst undef) w') : wpList Try.prog ops Q (o :: rest) a w := by
  refine wpList_plain hg fun K' hK' => ?_
  obtain ⟨w', M', hrun, h1, h2, h3, h4⟩ := hI.set law ht hn hkey v
  unfold Oper.wp
  simp [execOp, hop, hm, hx, hv, hrun, Result.andThen]
  exact hK' _ _ (hK w' M' h1 h2 h3 h4)
end

/-- How many of the first N a test holds of. -/
theorem countP_more {p q : Nat → Bool} {x : Nat} (hp : p x = false) (hq : q x = true) (ho : ∀ y, y ≠ x → q y = p y) : ∀ N, x < N → (List.range N).countP q = (List.range N).countP p + 1 := by
  have key : ∀ N, N ≤ x → (List.range N).countP q = (List.range N).countP p := by
    intro N hN
    refine List.countP_congr fun y hy => ?_
    rw [ho y (by have := List.mem_range.1 hy; omega)]
  intro N
  induction N with
  | zero => intro h; omega
  | succ N ih =>
    intro h
    rw [List.range_succ, List.countP_append, List.countP_append]
    by_cases e : N = x
    · subst e; rw [key N (Nat.le_refl _)]; simp [hp, hq]
    · rw [ih (by omega)]; simp [ho N e]; omega

/-- The keys: two places. -/
def pk (i j : Nat) : Value := .agg #[.int .i64 (i : Int), .int .i64 (j : Int)]
theorem pk_inj {i j k l : Nat} (h : pk i j = pk k l) : i = k ∧ j = l := by simp [pk] at h; omega
theorem placesLaid : laidOutB Try.prog = true := by kernel_rfl
theorem placesRow : (85 : TypeId) < Try.prog.types.size := of_decide_eq_true (by kernel_rfl)
theorem placesKey : Try.prog.keyTypeAt 3 85 = true := by kernel_rfl
theorem lawPlaces : Keyed Try.prog 85 := Keyed.of_law (deep_law_laid placesLaid (m := 3) (by omega) placesRow placesKey (by rw [Try.underlying85]))
theorem placesType : Try.prog.keyType 85 = true := by kernel_rfl
theorem placesCells : Try.prog.cellsOf 85 = 2 := by kernel_rfl
theorem placesDeep : ∃ d, Try.prog.types.size + 1 = d + 2 := ⟨Try.prog.types.size - 1, by have h : 0 < Try.prog.types.size := Nat.lt_of_le_of_lt (Nat.zero_le _) placesRow; omega⟩
theorem intCells : Try.prog.cellsOf 3 = 1 := by kernel_rfl
theorem wf_small {n : Nat} (h : n ≤ 100000) : (Lit.int .i64 (n : Int)).wf = true := by
  simp [Lit.wf, IntKind.min, IntKind.max, IntKind.signed, IntKind.bits]
  omega
theorem pk_key {i j : Nat} (hi : i ≤ 100000) (hj : j ≤ 100000) : ∃ l, keyOf Try.prog 85 (pk i j) = some l := by
  obtain ⟨d, hd⟩ := placesDeep
  have h1 := wf_small hi
  have h2 := wf_small hj
  unfold keyOf pk
  rw [Try.underlying85, hd]
  simp [placesType, Value.formed, Try.underlying85, placesCells, Program.keyLits, Value.cells, intCells, Try.underlying3, h1, h2]
end Go.Proofs.Ytjaikmlbajdedad

namespace Go.Proofs.Ytjaikmlbajdedad
open Go.Proofs Go.RowKit Go.Shelf Go.Maps

/-- Where all lies, and what it is. -/
structure Sd where
  (S M br fr cr ba fa ca bb fb cb : Nat)
  (rk za zb : List Int)
/-- What was found is so. -/
def Found (C : Sd) (W : World) (tbl : Value → Option Value) : Prop := ∃ (n : Nat), KMap 85 W C.M n tbl ∧ (∀ i j v, tbl (pk i j) = some v → v = .agg #[.bool (Tm.ab C.rk C.za C.zb i j)]) ∧ n ≤ (List.range 900).countP fun x => (tbl (pk (x / 30) (x % 30))).isSome
structure Sides (C : Sd) (W : World) (tbl : Value → Option Value) : Prop where
  blk : W.heap[C.S]? = some (.cells #[.slice (some ⟨C.br, C.fr, none⟩) C.rk.length C.cr, .slice (some ⟨C.ba, C.fa, none⟩) C.za.length C.ca, .slice (some ⟨C.bb, C.fb, none⟩) C.zb.length C.cb, .map (some C.M)] 82 (0, 0))
  ir : Ints W.heap.size W (some ⟨C.br, C.fr, none⟩) C.rk
  ia : Ints W.heap.size W (some ⟨C.ba, C.fa, none⟩) C.za
  ib : Ints W.heap.size W (some ⟨C.bb, C.fb, none⟩) C.zb
  fnd : Found C W tbl
/-- What is asked of the two terms. -/
structure SdOk (C : Sd) : Prop where
  ea : Tm.err C.za = 0
  eb : Tm.err C.zb = 0
  er : C.rk.length = 6
  ca : C.za.length ≤ C.ca
  cb : C.zb.length ≤ C.cb
  ca' : C.ca ≤ maxLen
  cb' : C.cb ≤ maxLen
theorem Sides.c0 {C : Sd} {W : World} {tbl : Value → Option Value} (h : Sides C W tbl) : W.cell? ⟨C.S, 0, none⟩ = some (.slice (some ⟨C.br, C.fr, none⟩) C.rk.length C.cr) := by simp [World.cell?, h.blk]
theorem Sides.c1 {C : Sd} {W : World} {tbl : Value → Option Value} (h : Sides C W tbl) : W.cell? ⟨C.S, 1, none⟩ = some (.slice (some ⟨C.ba, C.fa, none⟩) C.za.length C.ca) := by simp [World.cell?, h.blk]
theorem Sides.c2 {C : Sd} {W : World} {tbl : Value → Option Value} (h : Sides C W tbl) : W.cell? ⟨C.S, 2, none⟩ = some (.slice (some ⟨C.bb, C.fb, none⟩) C.zb.length C.cb) := by simp [World.cell?, h.blk]
theorem Sides.c3 {C : Sd} {W : World} {tbl : Value → Option Value} (h : Sides C W tbl) : W.cell? ⟨C.S, 3, none⟩ = some (.map (some C.M)) := by simp [World.cell?, h.blk]
theorem Sides.lt {C : Sd} {W : World} {tbl : Value → Option Value} (h : Sides C W tbl) : C.S < W.heap.size := (Array.getElem?_eq_some_iff.1 h.blk).1
theorem Sides.ltM {C : Sd} {W : World} {tbl : Value → Option Value} (h : Sides C W tbl) : C.M < W.heap.size := by
  obtain ⟨n, hK, _⟩ := h.fnd; exact hK.lt
theorem Found.keep {C : Sd} {W W' : World} {tbl : Value → Option Value} (h : Found C W tbl) (hb : W'.heap[C.M]? = W.heap[C.M]?) : Found C W' tbl := by
  obtain ⟨n, hK, r⟩ := h; exact ⟨n, hK.keep hb, r⟩
theorem Sides.below {C : Sd} {W W' : World} {tbl : Value → Option Value} (h : Sides C W tbl) (hB : Below W.heap.size W W') : Sides C W' tbl :=
  ⟨(hB.block _ h.lt).trans h.blk, (h.ir.below hB).mono hB.size, (h.ia.below hB).mono hB.size, (h.ib.below hB).mono hB.size, h.fnd.keep (hB.block _ h.ltM)⟩
theorem Sides.neM {C : Sd} {W : World} {tbl : Value → Option Value} (h : Sides C W tbl) : C.S ≠ C.M := by
  obtain ⟨n, hK, _⟩ := h.fnd
  obtain ⟨es, cl, hm⟩ := hK.map
  exact ne_map h.c0 hm
theorem ints_keepM {n m : Nat} {W W' : World} {a : Option Addr} {zs : List Int} (h : Ints n W a zs) (hK : Keep n m W W') {es : Array MapEntry} {cl : Nat} (hm : W.heap[m]? = some (Obj.map es cl)) : Ints n W' a zs := fun j hj => by
  obtain ⟨b, off, e, hb, hc⟩ := h j hj
  exact ⟨b, off, e, hb, (hK.cell (p := ⟨b, off + j, none⟩) hb (ne_map hc hm)).trans hc⟩
/-- All but what was found. -/
theorem Sides.keep {C : Sd} {W W' : World} {tbl tbl' : Value → Option Value} (h : Sides C W tbl) (hK : Keep W.heap.size C.M W W') (hf : Found C W' tbl') : Sides C W' tbl' := by
  obtain ⟨n, hKM, _⟩ := h.fnd
  obtain ⟨es, cl, hm⟩ := hKM.map
  exact ⟨(hK.block _ h.lt h.neM).trans h.blk, (ints_keepM h.ir hK hm).mono hK.size, (ints_keepM h.ia hK hm).mono hK.size, (ints_keepM h.ib hK hm).mono hK.size, hf⟩
/-- What was found is noted. -/
theorem Found.note {C : Sd} {W' : World} {tbl tbl' : Value → Option Value} {n i j : Nat} (hi : i < 30) (hj : j < 30) (htb : ∀ i j v, tbl (pk i j) = some v → v = .agg #[.bool (Tm.ab C.rk C.za C.zb i j)]) (hn : n ≤ (List.range 900).countP fun x => (tbl (pk (x / 30) (x % 30))).isSome) (h0 : tbl (pk i j) = none)
    (hK : KMap 85 W' C.M (n + 1) tbl') (h1 : tbl' (pk i j) = some (.agg #[.bool (Tm.ab C.rk C.za C.zb i j)])) (h2 : ∀ x, x ≠ pk i j → tbl' x = tbl x) : Found C W' tbl' := by
  refine ⟨n + 1, hK, fun k l v hv => ?_, ?_⟩
  · by_cases e : pk k l = pk i j
    · obtain ⟨rfl, rfl⟩ := pk_inj e
      rw [h1] at hv
      cases hv; rfl
    · rw [h2 _ e] at hv; exact htb k l v hv
  · rw [countP_more (p := fun x => (tbl (pk (x / 30) (x % 30))).isSome) (q := fun x => (tbl' (pk (x / 30) (x % 30))).isSome) (x := i * 30 + j) ?_ ?_ ?_ 900 (by omega)]
    · omega
    · rw [show (i * 30 + j) / 30 = i from by omega, show (i * 30 + j) % 30 = j from by omega, h0]; rfl
    · rw [show (i * 30 + j) / 30 = i from by omega, show (i * 30 + j) % 30 = j from by omega, h1]; rfl
    · intro y hy
      have : pk (y / 30) (y % 30) ≠ pk i j := fun e => by
        obtain ⟨e1, e2⟩ := pk_inj e
        exact hy (by omega)
      simp only [h2 _ this]
theorem Found.small {n : Nat} {tbl : Value → Option Value} (hn : n ≤ (List.range 900).countP fun x => (tbl (pk (x / 30) (x % 30))).isSome) : n ≤ 900 := by
  have := List.countP_le_length (p := fun x => (tbl (pk (x / 30) (x % 30))).isSome) (l := List.range 900)
  rw [List.length_range] at this
  omega
/-- HOW above AND ITS LIKE ANSWER: q; what was found of the places dom is as it was. -/
def AboveAns (C : Sd) (q : Bool) (dom : Nat → Nat → Prop) (tbl : Value → Option Value) (w : World) (e : Ending) (w' : World) : Prop :=
  e = .returned (.bool q) ∧ Keep w.heap.size C.M w w' ∧ ∃ tbl', Sides C w' tbl' ∧ ∀ i j, dom i j → tbl' (pk i j) = tbl (pk i j)
def AboveAt (C : Sd) (f : Nat) (i j : Nat) (q : Bool) (dom : Nat → Nat → Prop) : Prop :=
  ∀ (W : World) (tbl : Value → Option Value), Sides C W tbl → Calls Try.prog f #[.pointer (some ⟨C.S, 0, none⟩), .agg #[.int .i64 (i : Int), .int .i64 (j : Int)]] W (AboveAns C q dom tbl W)

end Go.Proofs.Ytjaikmlbajdedad

namespace Go.Proofs.Ytjaikmlbajdedad
open Go.Proofs Go.RowKit Go.Shelf Go.Maps

attribute [local go_sem ↓] Go.wp_at_zero Go.wp_at_succ

set_option maxRecDepth 100000 in
set_option maxHeartbeats 2000000 in
theorem sidesSame_any (C : Sd) (O : SdOk C) (i j : Nat) (hi : i < C.za.length) (hj : j < C.zb.length) (w : World) (tbl : Value → Option Value) (H : Sides C w tbl) :
    Calls Try.prog 89 #[.pointer (some ⟨C.S, 0, none⟩), pk i j] w fun e w' => e = .returned (.bool (Tm.sm C.za C.zb i j)) ∧ Below w.heap.size w w' := by
  have hB0 : Below w.heap.size w (w.alloc (.cells #[.int .i64 (i : Int), .int .i64 (j : Int)] 85)) := (Below.refl _ w).alloc (Nat.le_refl _) _
  have H1 := H.below hB0
  obtain ⟨w1, hw1⟩ : ∃ w1, w.alloc (.cells #[.int .i64 (i : Int), .int .i64 (j : Int)] 85) = w1 := ⟨_, rfl⟩
  have hblk : w1.heap[w.heap.size]? = some (.cells #[.int .i64 (i : Int), .int .i64 (j : Int)] 85 (0, 0)) := by rw [← hw1]; exact World.alloc_heap_new w _
  have HW := hid hw1
  rw [hw1] at hB0 H1
  clear hw1
  have d0 : w1.cell? ⟨w.heap.size, 0, none⟩ = some (.int .i64 (i : Int)) := by simp [World.cell?, hblk]
  have d1 : w1.cell? ⟨w.heap.size, 1, none⟩ = some (.int .i64 (j : Int)) := by simp [World.cell?, hblk]
  have hlt : w.heap.size < w1.heap.size := (Array.getElem?_eq_some_iff.1 hblk).1
  have c1 := H1.c1
  have c2 := H1.c2
  have hS := hid (fun w' (hB : Below w1.heap.size w1 w') => (show w'.cell? ⟨C.S, 1, none⟩ = some (.slice (some ⟨C.ba, C.fa, none⟩) C.za.length C.ca) ∧ w'.cell? ⟨C.S, 2, none⟩ = some (.slice (some ⟨C.bb, C.fb, none⟩) C.zb.length C.cb) ∧ w'.cell? ⟨w.heap.size, 0, none⟩ = some (.int .i64 (i : Int)) ∧ w'.cell? ⟨w.heap.size, 1, none⟩ = some (.int .i64 (j : Int)) from
    ⟨(hB.cell H1.lt).trans c1, (hB.cell H1.lt).trans c2, (hB.cell hlt).trans d0, (hB.cell hlt).trans d1⟩))
  have la := Tm.err_len O.ea
  have lb := Tm.err_len O.eb
  have ea := Tm.end_in O.ea hi
  have eb := Tm.end_in O.eb hj
  have ga := Tm.endAt_gt C.za i
  have gb := Tm.endAt_gt C.zb j
  have Ea := hid (fun w' (hB : Below w1.heap.size w1 w') => end_any C.za la (some ⟨C.ba, C.fa, none⟩) C.ca i (by omega) w' (H1.below hB).ia)
  have Eb := hid (fun w' (hB : Below w1.heap.size w1 w') => end_any C.zb lb (some ⟨C.bb, C.fb, none⟩) C.cb j (by omega) w' (H1.below hB).ib)
  have pla := Tm.part_length O.ea hi
  have plb := Tm.part_length O.eb hj
  have Eq := hid (fun w' (hB : Below w1.heap.size w1 w') => equal_any (Tm.part C.za i) (Tm.part C.zb j) (some ⟨C.ba, C.fa + i, none⟩) (some ⟨C.bb, C.fb + j, none⟩) (C.ca - i) (C.cb - j) w' ((H1.below hB).ia.sub i _) ((H1.below hB).ib.sub j _) (by unfold maxLen; omega))
  rw [pla, plb] at Eq
  have hca := O.ca
  have hcb := O.cb
  have hca' := O.ca'
  have hcb' := O.cb'
  unfold maxLen at hca' hcb'
  have q1 : (Tm.endAt C.za i : Int) ≤ (C.ca : Int) := by omega
  have q2 : (Tm.endAt C.zb j : Int) ≤ (C.cb : Int) := by omega
  have q3 : (i : Int) ≤ (Tm.endAt C.za i : Int) := by omega
  have q4 : (j : Int) ≤ (Tm.endAt C.zb j : Int) := by omega
  have na : C.ca ≠ i := by omega
  have nb : C.cb ≠ j := by omega
  have Hq : Hid (sameB (Tm.part C.za i) (Tm.part C.zb j) = Tm.sm C.za C.zb i j) := rfl
  rw [Hq.out] at Eq
  generalize Tm.sm C.za C.zb i j = q at *
  generalize Tm.endAt C.za i = p1 at *
  generalize Tm.endAt C.zb j = p2 at *
  have HB0 := hid hB0
  clear H H1 O c1 c2 d0 d1 pla plb hblk hB0 Hq
  unfold pk
  go_enter Try.func89, Try.ntmps89
  go_wp2_with fail
  rw [HW.out]
  have hS0 := hS.out _ (Below.refl _ w1)
  go_region_held3 (fun w' => w'.cell? ⟨C.S, 1, none⟩ = some (.slice (some ⟨C.ba, C.fa, none⟩) C.za.length C.ca) ∧ w'.cell? ⟨C.S, 2, none⟩ = some (.slice (some ⟨C.bb, C.fb, none⟩) C.zb.length C.cb) ∧ w'.cell? ⟨w.heap.size, 0, none⟩ = some (.int .i64 (i : Int)) ∧ w'.cell? ⟨w.heap.size, 1, none⟩ = some (.int .i64 (j : Int))) (first | assumption | exact hS0) (first
    | (go_at_call_of 60 (Value.slice (some ⟨C.ba, C.fa, none⟩) C.za.length C.ca); refine (Ea.out _ (below_drewN (Below.refl _ w1) 1)).mono ?_; rintro e w2 ⟨rfl, hB1⟩; have hB2 : Below w1.heap.size w1 w2 := (below_drewN (Below.refl _ w1) 1).trans (hB1.mono (by exact Nat.le_refl _)); have hS1 := hS.out _ hB2)
    | (go_at_call_of 60 (Value.slice (some ⟨C.bb, C.fb, none⟩) C.zb.length C.cb); refine (Eb.out _ hB2).mono ?_; rintro e w3 ⟨rfl, hB3⟩; have hB4 : Below w1.heap.size w1 w3 := hB2.trans (hB3.mono hB2.size); have hS2 := hS.out _ hB4)
    | (go_at_call 65; refine (Eq.out _ hB4).mono ?_; rintro e w4 ⟨rfl, hB5⟩; have hB6 : Below w1.heap.size w1 w4 := hB4.trans (hB5.mono hB4.size); have hS3 := hS.out _ hB6))
  all_goals (
    go_wp2
    go_ret
    exact ⟨rfl, HB0.out.trans (hB6.mono HB0.out.size)⟩)

end Go.Proofs.Ytjaikmlbajdedad
