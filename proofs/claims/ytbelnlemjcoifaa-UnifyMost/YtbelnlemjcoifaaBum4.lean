/-
  haspref.OverOf. · hasplaw.matchBegun. · PLAIN MATHEMATICS of what variables become: first by one list, then by another, is by After of both. · PLAIN MATHEMATICS of fitting: by what fits the one becomes the other; what was made of it fits. · PLAIN MATHEMATICS of fitting: what comes is a list of terms; by it the one becomes the other, without an error. · A RANGE OVER signs.Parts, WHOSE BODY MAY PANIC: the rounds are numbered; what the body panics with goes up. · THE STATEMENT 'for .. := range it', whose rounds are numbered, whose body may leave, or panic. · signs.Room, signs.Parts, signs.End within a fence that holds all functions that there are; lists of up to 5000 signs. · signs.End, of lists of up to 5000 signs, within the fence. · signs.End, of lists of up to 5000 signs, at every place. · PLAIN MATHEMATICS of places that are tied: which place stands for which. · THE WEB IN MEMORY; (*web).head. · PLAIN MATHEMATICS: what places hold, what becomes of it, and what tying does. · PLAIN MATHEMATICS: what one tie does.
-/
import Derived.Test.YtbelnlemjcoifaaBum3
import Derived.Test.YtbelnlemjcoifaaBum2
namespace Go.Proofs.Ytbelnlemjcoifaa
open Go.Proofs Go.RowKit Go.Shelf Go.Maps

end Go.Proofs.Ytbelnlemjcoifaa

namespace Go.Proofs.Ytbelnlemjcoifaa
open Go.Proofs Go.RowKit Go.Shelf Go.Maps

end Go.Proofs.Ytbelnlemjcoifaa

namespace Go.Proofs.Ytbelnlemjcoifaa
open Go.Proofs Go.RowKit Go.Shelf

theorem Tm.applied_cons (ss : List (List Int)) (s : Int) (l : List Int) : Tm.applied ss (s :: l) = Tm.piece ss s ++ Tm.applied ss l := by simp [Tm.applied]
/-- Each list is a term. -/
def Terms (ss : List (List Int)) : Prop := ∀ j, j < 8 → Tm.err (ss[j]?.getD []) = 0
theorem Terms.of {ss : List (List Int)} (h : Tm.subErr ss = 0) : Terms ss := fun j hj => Tm.firstErr_all (Tm.subErr_ok h).2 j (by rw [(Tm.subErr_ok h).1]; exact hj)
end Go.Proofs.Ytbelnlemjcoifaa

namespace Go.Proofs.Ytbelnlemjcoifaa
open Go.Proofs Go.RowKit Go.Shelf

/-- What a sign becomes by what was found. -/
def Tm.found (m : Asg) (s : Int) : List Int := if s < 0 then (m s).getD [s] else [s]
end Go.Proofs.Ytbelnlemjcoifaa

namespace Go.Proofs.Ytbelnlemjcoifaa
open Go.Proofs Go.RowKit Go.Shelf

theorem Tm.apply_zero {ss : List (List Int)} {p : List Int} (h : Tm.applyErr ss p = 0) : Tm.subErr ss = 0 ∧ Tm.err p = 0 ∧ (Tm.applied ss p).length ≤ 30 ∧ Tm.applyVal ss p = Tm.applied ss p := by
  by_cases hs : Tm.subErr ss = 0
  · by_cases hp : Tm.err p = 0
    · obtain ⟨e1, e2⟩ := Tm.apply_ok hs hp
      rw [h] at e1
      by_cases hl : 30 < (Tm.applied ss p).length
      · rw [if_pos hl] at e1; omega
      · rw [if_neg hl] at e2; exact ⟨hs, hp, by omega, e2⟩
    · rw [(Tm.apply_t hs hp).1] at h; exact absurd h hp
  · rw [(Tm.apply_s hs).1] at h; exact absurd h hs

end Go.Proofs.Ytbelnlemjcoifaa

namespace Go.Proofs.Ytbelnlemjcoifaa
open Go.Proofs Go.RowKit Go.Shelf

/-- How a round may be left; a panic goes up as it is. -/
def roundPostP (P : Program) (l : Nat) (R : Ending → World → Prop) : Exit → Act → World → Prop
  | .panic chain, a, w => a.defers = [] ∧ R (.panicked chain) w
  | e, a, w => roundPost P l R e a w

/-- One round out of its body's walk, a panic too. -/
theorem roundIn_panics {F : Fence} {n : Nat} {P : Program} {l : Nat} {f : FuncId} {tmps : Array Value} {assign body : Code} {w : World} {R : Ending → World → Prop} (hF : F.fn f) (hf : (∀ ch W, ¬ R (.panicked ch) W) ∨ ∃ fn, P.funcs[f]? = some fn)
    (h : assign.wpIn (F.inRound l) n P (Exit.then (fun a₁ w₁ => ∃ w₂, (Instr.beginRound l).run P w₁ = .ok () w₂ ∧ body.wpIn (F.inRound l) n P (roundPostP P l R) a₁ w₂) (fun _ _ _ => False)) { tmps := tmps, defers := [] } w) :
    RoundIn F n P l f tmps assign body w R := by
  refine ⟨hF, fun c cs hr => ?_⟩
  obtain ⟨b, hb⟩ : ∃ b : Frame, b = { (default : Frame) with fn := f, kind := .normal, roundOf := some l } := ⟨_, rfl⟩
  have hb0 : Frame.round l f tmps assign body .normal = b.atR { tmps := tmps, defers := [] } [.code assign, .beginRound, .code body] := by rw [hb]; simp [Frame.round, Frame.atR]
  have hbr : b.roundOf = some l := by rw [hb]
  have hbk : b.kind = .normal := by rw [hb]
  have hbf : b.fn = f := by rw [hb]
  have hr' : (F.inRound l).room ((c :: cs).length + 1 + n) := hr
  have hF' : (F.inRound l).fn b.fn := by rw [hbf]; exact hF
  obtain ⟨e, a₁, w₁, hq, harr⟩ := h b [.beginRound, .code body] (c :: cs) (by rw [hbr]; rfl) hF' hr'
  rw [← hb0] at harr
  cases e with
  | normal =>
    obtain ⟨w₂, hbeg, hbody⟩ := hq
    have s1 : StepsIn (Machine.fenced P (F.inRound l)) P (lone (b.atR a₁ [.beginRound, .code body]) (c :: cs) w₁) (lone (b.atR a₁ [.code body]) (c :: cs) w₂) :=
      .one (fenced_calm (fr := b.atR a₁ [.beginRound, .code body]) hF' hr' rfl) (stepR_beginRound hbr hbeg)
    obtain ⟨e₂, a₂, w₃, hq₂, harr₂⟩ := hbody b [] (c :: cs) (by rw [hbr]; rfl) hF' hr'
    have s2 := StepsIn.trans harr s1
    cases e₂ with
    | normal =>
      obtain ⟨v, w₄, hend, hR⟩ := hq₂
      exact ⟨.returned v, w₄, hR, s2.trans (StepsIn.trans harr₂ (.one (fenced_calm (fr := b.atR a₂ []) hF' hr' rfl) (stepR_round_end hbr hbk hend)))⟩
    | ret =>
      obtain ⟨v, w₄, hend, hR⟩ := hq₂
      obtain ⟨k₁, hs⟩ := harr₂.2 (by rw [hbr]; rfl)
      exact ⟨.returned v, w₄, hR, s2.trans (StepsIn.trans hs (.one (fenced_calm (fr := b.atR a₂ (.code .ret :: k₁)) hF' hr' rfl) (stepR_round_ret hbr hbk hend)))⟩
    | exit id =>
      obtain ⟨v, w₄, hend, hR⟩ := hq₂
      obtain ⟨k₁, hk, hs⟩ := harr₂.2 (by rw [hbr]; rfl) rfl
      exact ⟨.returned v, w₄, hR, s2.trans (StepsIn.trans hs (.one (fenced_calm (fr := b.atR a₂ (.code (.exit id) :: k₁)) hF' hr' rfl) (stepR_round_exit hbr hbk hk hend)))⟩
    | goto t =>
      obtain ⟨v, w₄, hend, hR⟩ := hq₂
      obtain ⟨k₁, hk, hs⟩ := harr₂.2 (by rw [hbr]; rfl) rfl
      exact ⟨.returned v, w₄, hR, s2.trans (StepsIn.trans hs (.one (fenced_calm (fr := b.atR a₂ (.code (.goto t) :: k₁)) hF' hr' rfl) (stepR_round_goto hbr hbk hk hend)))⟩
    | panic chain =>
      obtain ⟨hd, hR⟩ := hq₂
      obtain ⟨todo, hs⟩ := harr₂
      have hf' := hf.resolve_left (fun h => h _ _ hR)
      have hl : ({ b.atR a₂ todo with mode := .panicking chain } : Frame).leaving P w₃ (.panicked chain) := ⟨rfl, hd, by rw [← hbf] at hf'; exact hf'⟩
      exact ⟨.panicked chain, w₃, hR, s2.trans (StepsIn.trans hs (.one (fenced_leaving (F := F.inRound l) hF' hr' hl) (step_leave_panicked hl)))⟩
    | outgrown => exact hq₂.elim
  | exit id => exact hq.elim
  | goto t => exact hq.elim
  | ret => exact hq.elim
  | panic chain => exact hq.elim
  | outgrown => exact hq.elim

end Go.Proofs.Ytbelnlemjcoifaa

namespace Go.Proofs.Ytbelnlemjcoifaa
open Go.Proofs Go.RowKit Go.Shelf

/-- THE ITERATOR GIVES encs 0, encs 1, .. up to r, as long as what it reads ('rd') stands; ahead of each it turns the world by 'set'. -/
def SeqSets (F : Fence) (n : Nat) (P : Program) (g : Nat) (lb : Array Value) (encs : Nat → Array Value) (r : Nat) (rd : Nat → World → Prop) (set : Nat → World → World) : Prop :=
  ∀ (l : Nat) (J : Nat → World → Prop) (Jx : World → Prop) (Jp : List PanicEntry → World → Prop) (W : World), AbidesFrom W.heap.size J → (∀ i W, J i W → rd i W) →
    (∀ i W1, J i W1 → i < r → YieldAt F (n - 1) P l (encs i) (set i W1) fun e W' => (e = .returned (.bool true) ∧ J (i + 1) W') ∨ (e = .returned (.bool false) ∧ Jx W') ∨ ∃ ch, e = .panicked ch ∧ Jp ch W') →
    J 0 W → CallsIn F n P g (#[.func (.yield l) #[] #[]] ++ lb) W fun e W' => ((∃ v, e = .returned v) ∧ (J r W' ∨ Jx W')) ∨ ∃ ch, e = .panicked ch ∧ Jp ch W'

def SeqSteps (F : Fence) (n : Nat) (P : Program) (g : Nat) (lb : Array Value) (encs : Nat → Array Value) (r : Nat) (rd : World → Prop) : Prop := SeqSets F n P g lb encs r (fun _ => rd) (fun _ W => W)

/-- How the body of a round may be left. -/
def stepPost (B : Nat) (I : Nat → World → Prop) (Ix : Code → World → Prop) (Ip : List PanicEntry → World → Prop) (i : Nat) (W : World) : Exit → Act → World → Prop
  | .normal, _, W' => KeepsFrom B W W' ∧ I i W'
  | .ret, _, W' => KeepsFrom B W W' ∧ Ix .ret W'
  | .exit id, _, W' => KeepsFrom B W W' ∧ Ix (.exit id) W'
  | .goto t, _, W' => KeepsFrom B W W' ∧ Ix (.goto t) W'
  | .panic ch, a, W' => a.defers = [] ∧ KeepsFrom B W W' ∧ Ip ch W'
  | .outgrown, _, _ => False

theorem wpIn_rangeSets {F : Fence} {n : Nat} {P : Program} {g : Operand} {ps : Array Tmp} {assign body : Code} {Q : Exit → Act → World → Prop} {a : Act} {w : World}
    (hro : F.round = none) (h1 : 1 ≤ n) {gf : Nat} {lb : Array Value} (hg : a.eval g = .func (.func gf) #[] lb) (hFg : F.fn gf) (eg : ∀ args w, (callFunc gf args).run P w = .ok (.enter gf args) w)     {encs : Nat → Array Value} {r : Nat} {rd : Nat → World → Prop} {set : Nat → World → World} (hseq : SeqSets F (n - 1) P gf lb encs r rd set) (hps : ∀ i, (encs i).size = ps.size)
    (I Iy : Nat → World → Prop) (Ix : Code → World → Prop) (Ip : List PanicEntry → World → Prop) (hfs : (∀ ch W, ¬ Ip ch W) ∨ ∀ fn, F.fn fn → ∃ f, P.funcs[fn]? = some f) (hI : OwnFrom w.heap.size I) (hIy : OwnFrom w.heap.size Iy) (hset : ∀ i W, I i W → i < r → Iy i (set i W) ∧ ∀ (k : Nat) (o : Obj), W.heap[k]? = some o → o.isCells = false → (set i W).heap[k]? = some o) (hIx : OwnFrom w.heap.size Ix) (hrd : ∀ i W, I i W → rd i W) (h0 : I 0 w) (a₁ : Nat → Act)
    (hassign : ∀ (l i : Nat) (W : World) (K : Act → World → Prop), K (a₁ i) W →
      assign.wpIn (F.inRound l) (n - 1 - 1) P (Exit.then K (fun _ _ _ => False)) { tmps := (ps.zip (encs i)).foldl (fun t (p, v) => t.setIfInBounds p v) a.tmps, defers := [] } W)
    (hbody : ∀ (l i : Nat) (W : World), Iy i W → i < r → body.wpIn (F.inRound l) (n - 1 - 1) P (stepPost w.heap.size I Ix Ip (i + 1) W) (a₁ i) W)
    (hdone : ∀ (D : Nat) (W : World), w.heap.size ≤ D → I r W → W.heap[D]? = some (.deferred (some [])) → Q .normal { a with defers := { target := .collected D, args := #[] } :: a.defers } W)
    (hstop : ∀ (D : Nat) (c : Code) (W : World), w.heap.size ≤ D → Ix c W → W.heap[D]? = some (.deferred (some [])) → c.wpIn F n P Q { a with defers := { target := .collected D, args := #[] } :: a.defers } W)
    (hpanic : ∀ (D : Nat) (ch : List PanicEntry) (W : World), w.heap.size ≤ D → Ip ch W → W.heap[D]? = some (.deferred (some [])) → Q (.panic ch) { a with defers := { target := .collected D, args := #[] } :: a.defers } W) :
    (Code.rangeFunc g ps assign body).wpIn F n P Q a w := by
  refine wpIn_rangeFunc fun fn hfn => ?_
  rw [hro]
  obtain ⟨rec, hrec⟩ : ∃ rec : LoopState → Option Code → Loop, rec = fun st pe => { state := st, pending := pe, fn, tmps := a.tmps, params := ps, assign, body, defers := w.heap.size } := ⟨_, rfl⟩
  obtain ⟨W1, hW1⟩ : ∃ W1, (w.alloc (.deferred (some []))).alloc (.loop (rec .ready none)) = W1 := ⟨_, rfl⟩
  have hL1 : W1.heap[w.heap.size + 1]? = some (.loop (rec .ready none)) := by
    have := World.alloc_heap_new (w.alloc (.deferred (some []))) (.loop (rec .ready none))
    rw [World.size_alloc, hW1] at this
    exact this
  have hD1 : W1.heap[w.heap.size]? = some (.deferred (some [])) := by rw [← hW1]; exact (Below.heap_alloc _ _ _ (by simp)).trans (World.alloc_heap_new w _)
  have hS1 : w.heap.size ≤ W1.heap.size := by rw [← hW1]; simp; omega
  have hI1 : I 0 W1 := by rw [← hW1]; exact hI.alloc _ (hI.alloc _ h0)
  refine ⟨w.heap.size + 1, [{ target := .collected w.heap.size, args := #[] }], W1, { target := .fn (.func gf) lb, args := #[.func (.yield (w.heap.size + 1)) #[] #[]] }, W1, gf, #[.func (.yield (w.heap.size + 1)) #[] #[]] ++ lb, W1,
    by rw [← hW1, hrec]; exact run_enterLoop_outer _ _ _ _ _, by simp only [resolve, hg]; simp [go_sem], fun f' hf' => by simp [Target.leads] at hf'; subst hf'; exact hFg, by simp [invoke, go_sem, eg], fun _ => h1, ?_⟩
  have hcells : ∀ {A : World} {row : Option Nat}, (∀ r, row = some r → W1.heap.size ≤ r ∧ ∃ o : Obj, A.heap[r]? = some o ∧ o.isWalk = true) → ∀ r, row = some r → w.heap.size ≤ r ∧ ∃ o : Obj, A.heap[r]? = some o ∧ o.isCells = false := fun hr q e => by
    obtain ⟨hB, o, ho, hw⟩ := hr q e
    exact ⟨by omega, o, ho, Obj.not_cells_of_walk hw⟩
  refine (hseq (w.heap.size + 1) (fun i W => I i W ∧ W.heap[w.heap.size + 1]? = some (.loop (rec .ready none)) ∧ W.heap[w.heap.size]? = some (.deferred (some [])))
    (fun W => ∃ c, Ix c W ∧ W.heap[w.heap.size + 1]? = some (.loop (rec .done (some c))) ∧ W.heap[w.heap.size]? = some (.deferred (some [])))
    (fun ch W => Ip ch W ∧ W.heap[w.heap.size]? = some (.deferred (some []))) W1
    (fun i A B row hs hgr hr => ⟨hI i A B row hs.1 hgr (hcells hr), (grownBy_keeps hgr (fun q e => (hr q e).2) hs.2.1 rfl).trans hs.2.1, (grownBy_keeps hgr (fun q e => (hr q e).2) hs.2.2 rfl).trans hs.2.2⟩)
    (fun i W h => hrd i W h.1) ?_ ⟨hI1, hL1, hD1⟩).mono ?_
  · rintro i W0 ⟨hi0, hl0, hk0⟩ hlen
    obtain ⟨hi, hkp⟩ := hset i W0 hi0 hlen
    have hl := hkp _ _ hl0 rfl
    have hk := hkp _ _ hk0 rfl
    generalize set i W0 = W at hi hl hk ⊢
    have hlt : w.heap.size + 1 < W.heap.size := (Array.getElem?_eq_some_iff.1 hl).1
    have hy := run_yield (P := P) (args := encs i) hl (by rw [hrec]; exact hps i)
    rw [hrec] at hy
    refine ⟨fn, _, assign, body, hy, roundIn_panics hfn (hfs.elim (fun h => .inl fun ch W hr => by rcases hr with ⟨e, _⟩ | ⟨e, _⟩ | ⟨c, _, hp, _⟩ <;> first | cases e | exact h _ _ hp) (fun h => .inr (h fn hfn))) (hassign _ i W _ ⟨_, run_beginRound hl (by rw [hrec]), ?_⟩)⟩
    obtain ⟨W2, hW2⟩ : ∃ W2, W.putObj (w.heap.size + 1) (.loop { rec .ready none with state := .busy }) = W2 := ⟨_, rfl⟩
    have hl2 : W2.heap[w.heap.size + 1]? = some (.loop { rec .ready none with state := .busy }) := by rw [← hW2]; exact World.putObj_heap_same hlt
    have hk2 : W2.heap[w.heap.size]? = some (.deferred (some [])) := by rw [← hW2]; exact (World.putObj_heap_other (by omega)).trans hk
    have hi2 : Iy i W2 := by rw [← hW2]; exact hIy.putObj _ hi (by omega) hl rfl
    have hgo : (W.putObj (w.heap.size + 1) (.loop { rec .ready none with state := .busy })) = W2 := hW2
    rw [hgo]
    refine wpIn_mono (hbody _ i W2 hi2 hlen) ?_
    have fin : ∀ (jump : Option Code) (W3 : World), KeepsFrom w.heap.size W2 W3 →
        (Instr.endRound (w.heap.size + 1) jump).run P W3 = .ok (.bool jump.isNone) (W3.putObj (w.heap.size + 1) (.loop (rec (if jump.isNone then .ready else .done) jump))) ∧
        W3.heap[w.heap.size + 1]? = some (.loop { rec .ready none with state := .busy }) ∧
        (W3.putObj (w.heap.size + 1) (.loop (rec (if jump.isNone then .ready else .done) jump))).heap[w.heap.size + 1]? = some (.loop (rec (if jump.isNone then .ready else .done) jump)) ∧
        (W3.putObj (w.heap.size + 1) (.loop (rec (if jump.isNone then .ready else .done) jump))).heap[w.heap.size]? = some (.deferred (some [])) := fun jump W3 hk3 => by
      have hl3 := hk3.same _ _ (by omega) hl2 rfl
      have hend := run_endRound (P := P) jump hl3
      have hk4 := (World.putObj_heap_other (w := W3) (o := .loop (rec (if jump.isNone then .ready else .done) jump)) (show w.heap.size ≠ w.heap.size + 1 by omega)).trans (hk3.same _ _ (Nat.le_refl _) hk2 rfl)
      refine ⟨?_, hl3, World.putObj_heap_same (Array.getElem?_eq_some_iff.1 hl3).1, hk4⟩
      rw [hrec] at hend ⊢
      exact hend
    intro e a3 W3 hp
    cases e with
    | normal =>
      obtain ⟨hr, hl3, hl4, hk4⟩ := fin none W3 hp.1
      exact ⟨_, _, hr, .inl ⟨rfl, hI.putObj _ hp.2 (by omega) hl3 rfl, hl4, hk4⟩⟩
    | ret =>
      obtain ⟨hr, hl3, hl4, hk4⟩ := fin (some .ret) W3 hp.1
      exact ⟨_, _, hr, .inr (.inl ⟨rfl, _, hIx.putObj _ hp.2 (by omega) hl3 rfl, hl4, hk4⟩)⟩
    | exit id =>
      obtain ⟨hr, hl3, hl4, hk4⟩ := fin (some (.exit id)) W3 hp.1
      exact ⟨_, _, hr, .inr (.inl ⟨rfl, _, hIx.putObj _ hp.2 (by omega) hl3 rfl, hl4, hk4⟩)⟩
    | goto t =>
      obtain ⟨hr, hl3, hl4, hk4⟩ := fin (some (.goto t)) W3 hp.1
      exact ⟨_, _, hr, .inr (.inl ⟨rfl, _, hIx.putObj _ hp.2 (by omega) hl3 rfl, hl4, hk4⟩)⟩
    | panic ch => exact ⟨hp.1, .inr (.inr ⟨ch, rfl, hp.2.2, hp.2.1.same _ _ (Nat.le_refl _) hk2 rfl⟩)⟩
    | outgrown => exact hp.elim
  · rintro e W2 (⟨⟨v, rfl⟩, (⟨hi, hl, hk⟩ | ⟨c, hi, hl, hk⟩)⟩ | ⟨ch, rfl, hi, hk⟩)
    · refine ⟨none, _, by have := run_endLoop (P := P) hl (by rw [hrec]; simp); rw [hrec] at this; exact this, hdone _ _ (Nat.le_refl _) (hI.putObj _ hi (by omega) hl rfl) ((World.putObj_heap_other (by omega)).trans hk)⟩
    · refine ⟨some c, _, by have := run_endLoop (P := P) hl (by rw [hrec]; simp); rw [hrec] at this; exact this, hstop _ c _ (Nat.le_refl _) (hIx.putObj _ hi (by omega) hl rfl) ((World.putObj_heap_other (by omega)).trans hk)⟩
    · exact hpanic _ ch _ (Nat.le_refl _) hi hk
theorem wpIn_rangeSteps {F : Fence} {n : Nat} {P : Program} {g : Operand} {ps : Array Tmp} {assign body : Code} {Q : Exit → Act → World → Prop} {a : Act} {w : World}
    (hro : F.round = none) (h1 : 1 ≤ n) {gf : Nat} {lb : Array Value} (hg : a.eval g = .func (.func gf) #[] lb) (hFg : F.fn gf) (eg : ∀ args w, (callFunc gf args).run P w = .ok (.enter gf args) w)     {encs : Nat → Array Value} {r : Nat} {rd : World → Prop} (hseq : SeqSteps F (n - 1) P gf lb encs r rd) (hps : ∀ i, (encs i).size = ps.size)
    (I : Nat → World → Prop) (Ix : Code → World → Prop) (Ip : List PanicEntry → World → Prop) (hfs : (∀ ch W, ¬ Ip ch W) ∨ ∀ fn, F.fn fn → ∃ f, P.funcs[fn]? = some f) (hI : OwnFrom w.heap.size I) (hIx : OwnFrom w.heap.size Ix) (hrd : ∀ i W, I i W → rd W) (h0 : I 0 w) (a₁ : Nat → Act)
    (hassign : ∀ (l i : Nat) (W : World) (K : Act → World → Prop), K (a₁ i) W →
      assign.wpIn (F.inRound l) (n - 1 - 1) P (Exit.then K (fun _ _ _ => False)) { tmps := (ps.zip (encs i)).foldl (fun t (p, v) => t.setIfInBounds p v) a.tmps, defers := [] } W)
    (hbody : ∀ (l i : Nat) (W : World), I i W → i < r → body.wpIn (F.inRound l) (n - 1 - 1) P (stepPost w.heap.size I Ix Ip (i + 1) W) (a₁ i) W)
    (hdone : ∀ (D : Nat) (W : World), w.heap.size ≤ D → I r W → W.heap[D]? = some (.deferred (some [])) → Q .normal { a with defers := { target := .collected D, args := #[] } :: a.defers } W)
    (hstop : ∀ (D : Nat) (c : Code) (W : World), w.heap.size ≤ D → Ix c W → W.heap[D]? = some (.deferred (some [])) → c.wpIn F n P Q { a with defers := { target := .collected D, args := #[] } :: a.defers } W)
    (hpanic : ∀ (D : Nat) (ch : List PanicEntry) (W : World), w.heap.size ≤ D → Ip ch W → W.heap[D]? = some (.deferred (some [])) → Q (.panic ch) { a with defers := { target := .collected D, args := #[] } :: a.defers } W) :
    (Code.rangeFunc g ps assign body).wpIn F n P Q a w :=
  wpIn_rangeSets hro h1 hg hFg eg hseq hps I I Ix Ip hfs hI hI (fun _ _ h _ => ⟨h, fun _ _ h _ => h⟩) hIx hrd h0 a₁ hassign hbody hdone hstop hpanic

end Go.Proofs.Ytbelnlemjcoifaa

namespace Go.Proofs.Ytbelnlemjcoifaa
open Go.Proofs Go.RowKit Go.Shelf

attribute [local go_sem] Oper.semAt_some

/-- The fence of all functions that there are. -/
def Fx : Fence := { fn := fun f => ∃ fn, Try.prog.funcs[f]? = some fn, depth := none, alive := false }
/-- A fence that bars nothing. -/
def Pl (F : Fence) : Prop := F.round = none ∧ (∀ f fn, Try.prog.funcs[f]? = some fn → F.fn f) ∧ F.depth = none
theorem fx_pl : Pl Fx := ⟨rfl, fun _ fn h => ⟨fn, h⟩, rfl⟩
theorem wide_pl : Pl Fence.wide := ⟨rfl, fun _ _ _ => trivial, rfl⟩
theorem fx_all : ∀ fn, Fx.fn fn → ∃ f, Try.prog.funcs[fn]? = some f := fun _ h => h
theorem fx_facts {F : Fence} (hF : Pl F) : F.round = none ∧ (∀ f fn, Try.prog.funcs[f]? = some fn → F.fn f) ∧ ∀ k : Nat, (F.depth.isSome = true → 1 ≤ k) := by
  obtain ⟨h1, h2, h3⟩ := hF
  exact ⟨h1, h2, fun k h => by rw [h3] at h; simp at h⟩
theorem fx_calls {n : Nat} {f : FuncId} {args : Array Value} {w : World} {R : Ending → World → Prop} (h : CallsIn Fx n Try.prog f args w R) : Calls Try.prog f args w R := h.calls (fun k d hd => by simp [Fx] at hd)

set_option maxHeartbeats 400000 in
theorem room_in (F : Fence) (hF : Pl F) (n : Nat) (s : Int) (w : World) : CallsIn F n Try.prog 85 #[.int .i64 s] w fun e w' => e = .returned (.int .i64 (Tm.room s : Int)) ∧ w' = w := by
  obtain ⟨hro, hfn, hdd⟩ := fx_facts hF
  have hf := hfn _ _ Try.func85
  clear hF hfn
  by_cases h2 : s = 2
  · subst h2; refine callsIn_of_wp Try.func85 rfl hf ?_ hro; simp only [Try.ntmps85, List.size_toArray, List.length_cons, List.length_nil, Nat.reduceAdd, Nat.reduceSub, Array.replicate_succ, Array.replicate_zero, List.push_toArray, List.append_toArray, List.nil_append, List.cons_append]; gi_wp2; go_ret; exact ⟨rfl, rfl⟩
  by_cases h3 : s = 3
  · subst h3; refine callsIn_of_wp Try.func85 rfl hf ?_ hro; simp only [Try.ntmps85, List.size_toArray, List.length_cons, List.length_nil, Nat.reduceAdd, Nat.reduceSub, Array.replicate_succ, Array.replicate_zero, List.push_toArray, List.append_toArray, List.nil_append, List.cons_append]; gi_wp2; go_ret; exact ⟨rfl, rfl⟩
  by_cases h4 : s = 4
  · subst h4; refine callsIn_of_wp Try.func85 rfl hf ?_ hro; simp only [Try.ntmps85, List.size_toArray, List.length_cons, List.length_nil, Nat.reduceAdd, Nat.reduceSub, Array.replicate_succ, Array.replicate_zero, List.push_toArray, List.append_toArray, List.nil_append, List.cons_append]; gi_wp2; go_ret; exact ⟨rfl, rfl⟩
  by_cases h5 : s = 5
  · subst h5; refine callsIn_of_wp Try.func85 rfl hf ?_ hro; simp only [Try.ntmps85, List.size_toArray, List.length_cons, List.length_nil, Nat.reduceAdd, Nat.reduceSub, Array.replicate_succ, Array.replicate_zero, List.push_toArray, List.append_toArray, List.nil_append, List.cons_append]; gi_wp2; go_ret; exact ⟨rfl, rfl⟩
  have e : Tm.room s = 0 := by simp [Tm.room, h2, h3, h4, h5]
  have b2 : (s == 2) = false := by simp [h2]
  have b3 : (s == 3) = false := by simp [h3]
  have b4 : (s == 4) = false := by simp [h4]
  have b5 : (s == 5) = false := by simp [h5]
  clear h2 h3 h4 h5
  rw [e]
  clear e
  refine callsIn_of_wp Try.func85 rfl hf ?_ hro; simp only [Try.ntmps85, List.size_toArray, List.length_cons, List.length_nil, Nat.reduceAdd, Nat.reduceSub, Array.replicate_succ, Array.replicate_zero, List.push_toArray, List.append_toArray, List.nil_append, List.cons_append]
  gi_wp2
  go_ret
  exact ⟨rfl, rfl⟩

set_option maxHeartbeats 400000 in
theorem partsx_in (F : Fence) (hF : Pl F) (n : Nat) (a : Option Addr) (len cap : Nat) (k : Int) (w : World) :
    CallsIn F n Try.prog 68 #[.slice a len cap, .int .i64 k] w fun e w' => e = .returned (.func (.func 84) #[] #[.pointer (some ⟨w.heap.size + 1, 0, none⟩), .pointer (some ⟨w.heap.size, 0, none⟩)]) ∧
      w' = (w.alloc (.cells #[.slice a len cap] 23)).alloc (.cells #[.int .i64 k] 3) := by
  obtain ⟨hro, hfn, hdd⟩ := fx_facts hF
  have hf := hfn _ _ Try.func68
  clear hF hfn
  refine callsIn_of_wp Try.func68 rfl hf ?_ hro
  simp only [Try.ntmps68, List.size_toArray, List.length_cons, List.length_nil, Nat.reduceAdd, Nat.reduceSub, Array.replicate_succ, Array.replicate_zero, List.push_toArray, List.append_toArray, List.nil_append, List.cons_append]
  gi_wp2
  go_ret
  exact ⟨rfl, rfl⟩

def encPart (zs : List Int) (k i : Nat) : Array Value := #[.int .i64 (Tm.pos zs k i : Int), .int .i64 (Tm.pos zs k (i + 1) : Int)]
/-- What the iterator reads. -/
def PartsRd (Bk Bt k cap : Nat) (a : Option Addr) (zs : List Int) (W : World) : Prop := W.cell? ⟨Bk, 0, none⟩ = some (.int .i64 (k : Int)) ∧ W.cell? ⟨Bt, 0, none⟩ = some (.slice a zs.length cap) ∧ Ints W.heap.size W a zs

/-- signs.End at places beyond k. -/
def EndsBeyond (F : Fence) (a : Option Addr) (cap : Nat) (zs : List Int) (k : Nat) : Prop :=
  ∀ (n p : Nat) (W : World), k < p → p ≤ 20000 → Ints W.heap.size W a zs → CallsIn F n Try.prog 44 #[.slice a zs.length cap, .int .i64 (p : Int)] W fun e W' => e = .returned (.int .i64 (Tm.endAt zs p : Int)) ∧ Below W.heap.size W W'

set_option maxRecDepth 100000 in
set_option maxHeartbeats 1000000 in
theorem parts_steps (F : Fence) (hF : Pl F) (n Bk Bt k cap : Nat) (a : Option Addr) (zs : List Int) (hlen : zs.length ≤ 5000) (hk : k < zs.length) (hE : EndsBeyond F a cap zs k) :
    SeqSteps F n Try.prog 84 #[.pointer (some ⟨Bk, 0, none⟩), .pointer (some ⟨Bt, 0, none⟩)] (encPart zs k) (Tm.room (zs[k]?.getD 0)) (PartsRd Bk Bt k cap a zs) := by
  intro l J Jx Jp W hJ hR hY h0
  obtain ⟨hro, hfn, hdd⟩ := fx_facts hF
  have hroom : ∀ n W, CallsIn F n Try.prog 85 #[.int .i64 (zs[k]?.getD 0)] W fun e w' => e = .returned (.int .i64 (Tm.room (zs[k]?.getD 0) : Int)) ∧ w' = W := fun n W => room_in F hF n _ W
  clear hF
  have hf55 := hfn _ _ Try.func84
  have hf56 := hfn _ _ Try.func85
  have hf32 := hfn _ _ Try.func44
  have hr2 := Tm.room_le (zs[k]?.getD 0)
  obtain ⟨hbk, hbt, hI⟩ := hR 0 W h0
  obtain ⟨b, off, rfl, hb, hc⟩ := hI.at (by omega)
  have hck := hc k hk
  have hkl : (k : Int) < (zs.length : Int) := by omega
  have hl5 : (zs.length : Int) ≤ 5000 := by omega
  generalize hrdef : Tm.room (zs[k]?.getD 0) = r at *
  clear hrdef
  generalize zs[k]?.getD 0 = s at *
  have HY := hid hY
  have HE := hid hE
  have HRm := hid hroom
  have HR := hid hR
  clear hY hE hc hI hroom hR
  refine callsIn_of_wp Try.func84 rfl hf55 ?_ hro
  simp only [Try.ntmps84, List.size_toArray, List.length_cons, List.length_nil, Nat.reduceAdd, Nat.reduceSub, Array.replicate_succ, Array.replicate_zero, List.push_toArray, List.append_toArray, List.nil_append, List.cons_append]
  gi_wp2_with ((try refine ⟨hdd _, ?_⟩); gi_at_call 85; refine (HRm.out _ _).mono ?_; rintro e W ⟨rfl, rfl⟩)
  gi_loopw [4, 13] (fun p i wr => ∃ m : Nat, m ≤ r ∧ i = .int .i64 (m : Int) ∧ p = .int .i64 (Tm.pos zs k m : Int) ∧ J m wr)
    (fun _ i _ => r - (intOf i).toNat)
  case atStart => exact ⟨0, Nat.zero_le _, rfl, by rw [Tm.pos_zero]; rfl, h0⟩
  case round =>
    obtain ⟨m, hm, rfl, rfl, hJs⟩ := hrel
    obtain ⟨_, hbt', hI'⟩ := HR.out m wr hJs
    by_cases hlt : m < r
    · have hlt' : (m : Int) < (r : Int) := by omega
      have h1' := (HE.out (n - 1) (Tm.pos zs k m) wr (Tm.pos_gt _ _ _) (by have := Tm.pos_le zs k m; omega) hI').mono (R' := fun e W1 => e = .returned (.int .i64 (Tm.pos zs k (m + 1) : Int)) ∧ YieldAt F (n - 1) Try.prog l #[.int .i64 (Tm.pos zs k m : Int), .int .i64 (Tm.pos zs k (m + 1) : Int)] W1 fun e W' =>
          (e = .returned (.bool true) ∧ J (m + 1) W') ∨ (e = .returned (.bool false) ∧ Jx W') ∨ ∃ ch, e = .panicked ch ∧ Jp ch W')
        (fun e W1 ⟨he, hB⟩ => ⟨by rw [Tm.pos_succ]; exact he, by
          have hJ1 := hJ _ _ _ none hJs (grown_of_below hB) (fun r e => by cases e)
          refine YieldAt.mono (HY.out m W1 hJ1 hlt) fun e W2 h => ?_
          exact h⟩)
      gi_wp2_with (first
        | ((try refine ⟨hdd _, ?_⟩); gi_at_call 44; refine h1'.mono ?_; clear h1'; rintro e W1 ⟨rfl, fn, tmps, assign, body, hy, hR⟩)
        | ((try refine ⟨hdd _, ?_⟩); refine hR.mono ?_; clear hR; rintro e W2 (⟨rfl, hJ2⟩ | ⟨rfl, hx2⟩ | ⟨ch, rfl, hp2⟩)))
      · exact ⟨⟨m + 1, by omega, by go_num, rfl, hJ2⟩, by simp [intOf]; omega⟩
      · refine bodyPost_ret (results_none rfl _ _ _) rfl ?_
        exact .inl ⟨⟨_, rfl⟩, .inr hx2⟩
      · exact ⟨rfl, .inr ⟨ch, rfl, hp2⟩⟩
    · obtain rfl : m = r := by omega
      have hlt' : ¬ (m : Int) < (m : Int) := by omega
      gi_wp2
      go_end0
      exact .inl ⟨⟨_, rfl⟩, .inl hJs⟩

end Go.Proofs.Ytbelnlemjcoifaa

namespace Go.Proofs.Ytbelnlemjcoifaa
open Go.Proofs Go.RowKit Go.Shelf

attribute [local go_sem] Oper.semAt_some

set_option maxHeartbeats 400000 in
theorem endx_out (F : Fence) (hF : Pl F) (n : Nat) (a : Option Addr) (len cap k : Nat) (w : World) (hk : len ≤ k) (hk2 : k ≤ 20000) :
    CallsIn F n Try.prog 44 #[.slice a len cap, .int .i64 (k : Int)] w fun e w' => e = .returned (.int .i64 ((k : Int) + 1)) ∧ Below w.heap.size w w' := by
  have h1 : (len : Int) ≤ (k : Int) := by omega
  have h2 : (k : Int) ≤ 20000 := by omega
  have h3 : (0 : Int) ≤ (k : Int) := by omega
  obtain ⟨hro, hfn, hdd⟩ := fx_facts hF
  have hf := hfn _ _ Try.func44
  clear hF hfn
  refine callsIn_of_wp Try.func44 rfl hf ?_ hro
  simp only [Try.ntmps44, List.size_toArray, List.length_cons, List.length_nil, Nat.reduceAdd, Nat.reduceSub, Array.replicate_succ, Array.replicate_zero, List.push_toArray, List.append_toArray, List.nil_append, List.cons_append]
  gi_wp2
  go_ret
  exact ⟨rfl, (Below.refl _ _).alloc (Nat.le_refl _) _⟩

theorem partsRd_of {Bk Bt k cap : Nat} {a : Option Addr} {zs : List Int} {w W : World} (hk : Boxed W Bk 3 (.int .i64 (k : Int))) (ht : Boxed W Bt 23 (.slice a zs.length cap)) (hI : Ints w.heap.size w a zs) (hB : Below w.heap.size w W) : PartsRd Bk Bt k cap a zs W :=
  ⟨hk.cell, ht.cell, (hI.below hB).mono hB.size⟩

set_option maxRecDepth 100000 in
set_option maxHeartbeats 1000000 in
theorem endx_step (F : Fence) (hF : Pl F) (n : Nat) (a : Option Addr) (cap k : Nat) (zs : List Int) (w : World) (hn : 3 ≤ n) (hlen : zs.length ≤ 5000) (hk : k < zs.length) (hI : Ints w.heap.size w a zs) (hE : EndsBeyond F a cap zs k) :
    CallsIn F n Try.prog 44 #[.slice a zs.length cap, .int .i64 (k : Int)] w fun e w' => e = .returned (.int .i64 (Tm.endAt zs k : Int)) ∧ Below w.heap.size w w' := by
  obtain ⟨hro, hfn, hdd⟩ := fx_facts hF
  have HF : Hid (Pl F) := hF
  have HE := hid hE
  clear hF hE
  have hf32 := hfn _ _ Try.func44
  have hf49 := hfn _ _ Try.func68
  have hf55 := hfn _ _ Try.func84
  clear hfn
  have hlt : (k : Int) < (zs.length : Int) := by omega
  have h30 : (zs.length : Int) ≤ 5000 := by omega
  have hk0 : (0 : Int) ≤ (k : Int) := by omega
  rw [Tm.endAt_in zs k hk]
  refine callsIn_of_wp_marks Try.func44 rfl hf32 ?_ hro
  simp only [Try.ntmps44, List.size_toArray, List.length_cons, List.length_nil, Nat.reduceAdd, Nat.reduceSub, Array.replicate_succ, Array.replicate_zero, List.push_toArray, List.append_toArray, List.nil_append, List.cons_append]
  gi_wp2_with ((try refine ⟨hdd _, ?_⟩); gi_at_call 68; refine (partsx_in F HF.out _ _ _ _ _ _).mono ?_; rintro e w' ⟨rfl, rfl⟩)
  have bE := ((Boxed.new w 3 (.int .i64 ((k : Int) + 1))).alloc (.cells #[.slice a zs.length cap] 23)).alloc (.cells #[.int .i64 (k : Int)] 3)
  have bT := (Boxed.new (w.alloc (.cells #[.int .i64 ((k : Int) + 1)] 3)) 23 (.slice a zs.length cap)).alloc (.cells #[.int .i64 (k : Int)] 3)
  have bK := Boxed.new ((w.alloc (.cells #[.int .i64 ((k : Int) + 1)] 3)).alloc (.cells #[.slice a zs.length cap] 23)) 3 (.int .i64 (k : Int))
  rw [World.size_alloc] at bT
  rw [World.size_alloc, World.size_alloc] at bK
  have hB0 : Below w.heap.size w (((w.alloc (.cells #[.int .i64 ((k : Int) + 1)] 3)).alloc (.cells #[.slice a zs.length cap] 23)).alloc (.cells #[.int .i64 (k : Int)] 3)) := (((Below.refl _ w).alloc (Nat.le_refl _) _).alloc (by simp) _).alloc (by simp; omega) _
  refine wpIn_rangeSteps hro (by omega) (gf := 84) (lb := #[.pointer (some ⟨w.heap.size + 1 + 1, 0, none⟩), .pointer (some ⟨w.heap.size + 1, 0, none⟩)]) rfl hf55 (enters_of Try.func84 (by kernel_rfl) rfl)
    (parts_steps F HF.out _ (w.heap.size + 1 + 1) (w.heap.size + 1) k cap a zs hlen hk HE.out) (fun _ => rfl)
    (fun i W => Boxed W w.heap.size 3 (.int .i64 (Tm.pos zs k i : Int)) ∧ Boxed W (w.heap.size + 1 + 1) 3 (.int .i64 (k : Int)) ∧ Boxed W (w.heap.size + 1) 23 (.slice a zs.length cap) ∧ Below w.heap.size w W)
    (fun _ _ => False) (fun _ _ => False) (.inl fun _ _ h => h)
    (OwnFrom.and ((boxed_own w.heap.size 3 (fun i => .int .i64 (Tm.pos zs k i : Int))).from _) (OwnFrom.and ((boxed_own (w.heap.size + 1 + 1) 3 (fun _ => .int .i64 (k : Int))).from _) (OwnFrom.and ((boxed_own (w.heap.size + 1) 23 (fun _ => .slice a zs.length cap)).from _) (ownFrom_below (Nat.le_refl _) (by simp; omega)))))
    (fun _ _ _ _ h _ _ => h)
    (fun i W h => partsRd_of h.2.1 h.2.2.1 hI h.2.2.2)
    ⟨by rw [Tm.pos_zero]; exact bE, bK, bT, hB0⟩
    (fun i => { tmps := #[.slice a zs.length cap, .int .i64 (k : Int), undef, undef, .int .i64 0, .pointer (some ⟨w.heap.size, 0, none⟩), undef, .int .i64 (Tm.pos zs k (i + 1) : Int), .int .i64 (k : Int), .int .i64 ((k : Int) + 1), .int .i64 (k : Int), .slice a zs.length cap,
      .int .i64 (zs.length : Int), .bool false, undef, .slice a zs.length cap, .int .i64 (k : Int), .func (.func 84) #[] #[.pointer (some ⟨w.heap.size + 1 + 1, 0, none⟩), .pointer (some ⟨w.heap.size + 1, 0, none⟩)], .int .i64 (Tm.pos zs k i : Int), .int .i64 (Tm.pos zs k (i + 1) : Int), undef, undef], defers := [] }) ?assign ?body ?done ?stop ?panic
  case assign =>
    intro l i W K hK
    simp only [encPart]
    gi_wp2
    exact hK
  case body =>
    rintro l i W ⟨hE, hK, hT, hB⟩ _
    have hc := hE.cell
    have hf := hE.frozen
    gi_wp2
    exact ⟨(KeepsOthers.setCell _ _ _).from _, hE.set _, hK.other (by omega) _, hT.other (by omega) _, hB.setCell (p := ⟨w.heap.size, 0, none⟩) (Nat.le_refl _) _⟩
  case done =>
    rintro D W hD ⟨hE, _, _, hB⟩ hK
    have hc := hE.cell
    gi_wp2
    refine ⟨by simp, .inl ⟨_, _, rfl, run_takeDeferred hK, ?_⟩⟩
    exact ⟨_, results_tmp rfl _ _ _, by simp [hk], hB.trans (belowK_b (w := w) (Nat.le_refl _) W D _ _ (by simp at hD; omega) hK rfl rfl)⟩
  case stop => exact fun _ _ _ _ h => h.elim
  case panic => exact fun _ _ _ _ h => h.elim

end Go.Proofs.Ytbelnlemjcoifaa

namespace Go.Proofs.Ytbelnlemjcoifaa
open Go.Proofs Go.RowKit Go.Shelf

theorem fx_any {F : Fence} (hF : Pl F) {n m : Nat} {P : Program} {f : FuncId} {args : Array Value} {w : World} {R : Ending → World → Prop} (h : CallsIn F n P f args w R) : CallsIn F m P f args w R :=
  ⟨h.1, fun cs _ => h.2 cs (fun d hd => by rw [hF.2.2] at hd; cases hd)⟩

theorem endx_all (F : Fence) (hF : Pl F) (zs : List Int) (hlen : zs.length ≤ 5000) (a : Option Addr) (cap : Nat) : ∀ (m k n : Nat), zs.length - k ≤ m → k ≤ 20000 → ∀ w : World, Ints w.heap.size w a zs →
    CallsIn F n Try.prog 44 #[.slice a zs.length cap, .int .i64 (k : Int)] w fun e w' => e = .returned (.int .i64 (Tm.endAt zs k : Int)) ∧ Below w.heap.size w w' := by
  intro m
  induction m with
  | zero =>
    intro k n hm hk w hI
    rw [Tm.endAt_out zs k (by omega)]
    exact endx_out F hF n a zs.length cap k w (by omega) hk
  | succ m ih =>
    intro k n hm hk w hI
    by_cases hlt : k < zs.length
    · exact fx_any hF (endx_step F hF 3 a cap k zs w (by omega) hlen hlt hI (fun n p W h1 h2 h3 => ih p n (by omega) h2 W h3))
    · rw [Tm.endAt_out zs k (by omega)]
      exact endx_out F hF n a zs.length cap k w (by omega) hk
theorem ends_beyond (F : Fence) (hF : Pl F) (zs : List Int) (hlen : zs.length ≤ 5000) (a : Option Addr) (cap k : Nat) : EndsBeyond F a cap zs k :=
  fun n p W _ h2 h3 => endx_all F hF zs hlen a cap _ p n (Nat.le_refl _) h2 W h3

end Go.Proofs.Ytbelnlemjcoifaa

namespace Go.Proofs.Ytbelnlemjcoifaa
open Go.Proofs Go.RowKit Go.Shelf

namespace Wb
def sg (zs : List Int) (p : Nat) : Int := zs[p]?.getD 0
/-- Each variable stands at its own place first of all; behind them terms. -/
structure Good (zs : List Int) : Prop where
  len : zs.length ≤ 5000
  eight : 8 ≤ zs.length
  known : ∀ p, p < zs.length → -8 ≤ sg zs p ∧ sg zs p < 6
  vars : ∀ i, i < 8 → sg zs i = -1 - (i : Int)
  ends : ∀ p, p < zs.length → Tm.endAt zs p ≤ zs.length
/-- The place that a place is looked up at. -/
def can (zs : List Int) (p : Nat) : Nat := if sg zs p < 0 then (-1 - sg zs p).toNat else p
theorem can_pos {zs : List Int} {p : Nat} (h : 0 ≤ sg zs p) : can zs p = p := by unfold can; rw [if_neg (by omega)]
theorem can_lt {zs : List Int} (G : Good zs) {p : Nat} (h : p < zs.length) : can zs p < zs.length := by
  have := G.known p h
  have := G.eight
  unfold can
  split <;> omega
theorem sg_can {zs : List Int} (G : Good zs) {p : Nat} (h : p < zs.length) : sg zs (can zs p) = sg zs p := by
  by_cases hs : sg zs p < 0
  · unfold can
    rw [if_pos hs]
    have := G.known p h
    rw [G.vars _ (by omega)]
    omega
  · rw [can_pos (by omega)]
theorem can_can {zs : List Int} (G : Good zs) {p : Nat} (h : p < zs.length) : can zs (can zs p) = can zs p := by
  have e := sg_can G h
  by_cases hs : sg zs p < 0
  · rw [show can zs (can zs p) = (-1 - sg zs (can zs p)).toNat from by conv => lhs; rw [can]
                                                                       rw [if_pos (by rw [e]; exact hs)], e]
    unfold can; rw [if_pos hs]
  · rw [can_pos (p := can zs p) (by rw [e]; omega)]

/-- T: which place each is tied to; h: which place stands for each (of places that are looked up at). -/
structure St (zs : List Int) (T : Nat → Option Nat) (h : Nat → Nat) : Prop where
  root : ∀ p, p < zs.length → can zs p = p → h p < zs.length ∧ can zs (h p) = h p ∧ h (h p) = h p
  free : ∀ p, p < zs.length → can zs p = p → (T p = none ↔ h p = p)
  next : ∀ p q, p < zs.length → can zs p = p → T p = some q → q < zs.length ∧ can zs q = q ∧ h q = h p
  down : ∃ st : Nat → Nat, ∀ p q, p < zs.length → can zs p = p → T p = some q → st q < st p
  up : ∀ p, p < zs.length → can zs p = p → sg zs p ≤ sg zs (h p)
  out : ∀ p, zs.length ≤ p → h p = p ∧ T p = none
theorem St.start (zs : List Int) : St zs (fun _ => none) (fun p => p) :=
  ⟨fun p h1 h2 => ⟨h1, h2, rfl⟩, fun p _ _ => by simp, fun p q _ _ h => by simp at h, ⟨fun _ => 0, fun p q _ _ h => by simp at h⟩, fun p _ _ => Int.le_refl _, fun _ _ => ⟨rfl, rfl⟩⟩
def updN (T : Nat → Option Nat) (o n : Nat) : Nat → Option Nat := fun p => if p = o then some n else T p
def mg (h : Nat → Nat) (o n : Nat) : Nat → Nat := fun p => if h p = o then n else h p
theorem St.merge {zs : List Int} {T : Nat → Option Nat} {h : Nat → Nat} (S : St zs T h) {o n : Nat} (ho : o < zs.length) (hn : n < zs.length) (co : can zs o = o) (cn : can zs n = n) (ro : h o = o) (rn : h n = n) (hne : o ≠ n) (hs : sg zs o ≤ sg zs n) :
    St zs (updN T o n) (mg h o n) := by
  have hmn : mg h o n n = n := by unfold mg; rw [rn, if_neg (fun e => hne e.symm)]
  have hmo : mg h o n o = n := by unfold mg; rw [if_pos ro]
  refine ⟨fun p h1 h2 => ?_, fun p h1 h2 => ?_, fun p q h1 h2 h3 => ?_, ?_, fun p h1 h2 => ?_, fun p hp => ?_⟩
  · obtain ⟨a, b, c⟩ := S.root p h1 h2
    by_cases e : h p = o
    · have : mg h o n p = n := by unfold mg; rw [if_pos e]
      rw [this]; exact ⟨hn, cn, hmn⟩
    · have : mg h o n p = h p := by unfold mg; rw [if_neg e]
      rw [this]
      refine ⟨a, b, ?_⟩
      unfold mg; rw [c, if_neg e]
  · by_cases e : p = o
    · subst e
      rw [hmo]
      simp [updN]
      exact fun e => hne e.symm
    · have hT : updN T o n p = T p := by simp [updN, e]
      rw [hT, S.free p h1 h2]
      unfold mg
      by_cases e2 : h p = o
      · rw [if_pos e2]
        constructor
        · intro e3; exact absurd (e3.symm.trans e2) e
        · intro e3; subst e3; rw [rn] at e2; exact absurd e2.symm hne
      · rw [if_neg e2]
  · by_cases e : p = o
    · subst e
      simp [updN] at h3
      subst h3
      exact ⟨hn, cn, by rw [hmn, hmo]⟩
    · have hT : updN T o n p = T p := by simp [updN, e]
      rw [hT] at h3
      obtain ⟨a, b, c⟩ := S.next p q h1 h2 h3
      exact ⟨a, b, by unfold mg; rw [c]⟩
  · obtain ⟨st, hst⟩ := S.down
    refine ⟨fun p => if h p = o then st p + (st n + 1) else st p, fun p q h1 h2 h3 => ?_⟩
    show (if h q = o then st q + (st n + 1) else st q) < (if h p = o then st p + (st n + 1) else st p)
    by_cases e : p = o
    · subst e
      simp [updN] at h3
      subst h3
      rw [if_neg (by rw [rn]; exact fun e => hne e.symm), if_pos ro]
      omega
    · have hT : updN T o n p = T p := by simp [updN, e]
      rw [hT] at h3
      have hc := (S.next p q h1 h2 h3).2.2
      have hl := hst p q h1 h2 h3
      rw [hc]
      by_cases e2 : h p = o
      · rw [if_pos e2, if_pos e2]; omega
      · rw [if_neg e2, if_neg e2]; exact hl
  · have := S.up p h1 h2
    unfold mg
    by_cases e : h p = o
    · rw [if_pos e]; rw [e] at this; omega
    · rw [if_neg e]; exact this
  · obtain ⟨e1, e2⟩ := S.out p hp
    refine ⟨by unfold mg; rw [e1, if_neg (by omega)], ?_⟩
    unfold updN
    rw [if_neg (by omega)]
    exact e2
/-- How many places stand for themselves. -/
def rt (zs : List Int) (h : Nat → Nat) : Nat := ((List.range zs.length).filter fun p => decide (can zs p = p ∧ h p = p)).length
theorem filter_lt {α : Type} (l : List α) (f g : α → Bool) (hle : ∀ x ∈ l, f x = true → g x = true) (x : α) (hx : x ∈ l) (h1 : f x = false) (h2 : g x = true) : (l.filter f).length < (l.filter g).length := by
  have hmono : ∀ (l : List α), (∀ x ∈ l, f x = true → g x = true) → (l.filter f).length ≤ (l.filter g).length := by
    intro l
    induction l with
    | nil => intro _; simp
    | cons y l ih =>
      intro h
      have := ih (fun x hx => h x (by simp [hx]))
      rw [List.filter_cons, List.filter_cons]
      by_cases hf : f y = true
      · rw [if_pos hf, if_pos (h y (by simp) hf)]; simp; omega
      · rw [if_neg hf]; split <;> (try simp) <;> omega
  induction l with
  | nil => simp at hx
  | cons y l ih =>
    rw [List.filter_cons, List.filter_cons]
    rcases List.mem_cons.1 hx with e | hm
    · subst e
      have := hmono l (fun x hx => hle x (by simp [hx]))
      rw [if_neg (by rw [h1]; decide), if_pos h2]
      simp; omega
    · have := ih (fun x hx => hle x (by simp [hx])) hm
      by_cases hf : f y = true
      · rw [if_pos hf, if_pos (hle y (by simp) hf)]; simp; omega
      · rw [if_neg hf]; split <;> (try simp) <;> omega
theorem rt_merge {zs : List Int} {h : Nat → Nat} {o n : Nat} (ho : o < zs.length) (co : can zs o = o) (ro : h o = o) (rn : h n = n) (hne : o ≠ n) : rt zs (mg h o n) < rt zs h := by
  refine filter_lt _ _ _ (fun p _ hp => ?_) o (List.mem_range.2 ho) ?_ ?_
  · simp only [decide_eq_true_eq] at hp ⊢
    refine ⟨hp.1, ?_⟩
    have h2 := hp.2
    unfold mg at h2
    by_cases e : h p = o
    · rw [if_pos e] at h2; subst h2; exact rn
    · rw [if_neg e] at h2; exact h2
  · simp only [decide_eq_false_iff_not]
    rintro ⟨_, h2⟩
    unfold mg at h2
    rw [if_pos ro] at h2
    exact hne h2.symm
  · simp [co, ro]

/-- Which place stands for a place. -/
def hd (zs : List Int) (h : Nat → Nat) (p : Nat) : Nat := h (can zs p)
theorem hd_lt {zs : List Int} (G : Good zs) {T : Nat → Option Nat} {h : Nat → Nat} (S : St zs T h) {p : Nat} (hp : p < zs.length) : hd zs h p < zs.length ∧ can zs (hd zs h p) = hd zs h p ∧ h (hd zs h p) = hd zs h p :=
  S.root _ (can_lt G hp) (can_can G hp)
theorem hd_up {zs : List Int} (G : Good zs) {T : Nat → Option Nat} {h : Nat → Nat} (S : St zs T h) {p : Nat} (hp : p < zs.length) : sg zs p ≤ sg zs (hd zs h p) := by
  have := S.up _ (can_lt G hp) (can_can G hp)
  rw [sg_can G hp] at this
  exact this
end Wb

end Go.Proofs.Ytbelnlemjcoifaa

namespace Go.Proofs.Ytbelnlemjcoifaa
open Go.Proofs Go.RowKit Go.Shelf Go.Maps

section
variable {F : Fence} {nF : Nat} (w : World) {ops : Array Oper} {rest : List Oper} {o : Oper} {a : Act} {Q : Exit → Act → World → Prop}
theorem wpi_look_ok (hg : o.guard = none) (m x : Operand) (t : TypeId) (hop : o.op = Op.lookup t m x true) (e : TypeId) (ht : Try.prog.underlying t = some (.map 3 e)) {z : Value} (hz : (zeroValue e).run Try.prog w = .ok z w) (b n : Nat) (M : Int → Option Value)
    (hm : a.eval m = .map (some b)) (hI : IntMap w b n M) (key : Int) (hx : a.eval x = .int .i64 key) (hwf : (Lit.int .i64 key).wf = true) (v : Value) (q : Bool) (hv : (M key).getD z = v) (hq : (M key).isSome = q)
    (hK : wpListIn F nF Try.prog ops Q rest (a.put o.dst (.tuple #[v, .bool q])) w) : wpListIn F nF Try.prog ops Q (o :: rest) a w := by
  refine wpListIn_plain hg fun K' hK' => ?_
  have hrun := (hI.look ht hz hwf).1
  rw [hv, hq] at hrun
  unfold Oper.wpIn
  refine ⟨by simp [Oper.about, hop], ?_⟩
  rw [Oper.semAt_plain F _ _ (by rw [hop]; intro c hc'; cases hc')]
  simp [execOp, hop, hm, hx, hrun, Result.andThen]
  exact hK' _ _ hK
end

/-- BLOCK Bw IS A WEB: its signs zs at a, its ties T in block Bm. -/
structure WebAt (W : World) (Bw Bm : Nat) (a : Option Addr) (cap : Nat) (zs : List Int) (N : Nat) (T : Nat → Option Nat) : Prop where
  web : W.heap[Bw]? = some (.cells #[.slice a zs.length cap, .map (some Bm)] 101 (0, 0))
  ints : Ints W.heap.size W a zs
  ties : ∃ M, IntMap W Bm N M ∧ ∀ p : Nat, M (p : Int) = (T p).map fun q => .int .i64 (q : Int)
theorem WebAt.cell0 {W : World} {Bw Bm : Nat} {a : Option Addr} {cap : Nat} {zs : List Int} {N : Nat} {T : Nat → Option Nat} (h : WebAt W Bw Bm a cap zs N T) : W.cell? ⟨Bw, 0, none⟩ = some (.slice a zs.length cap) := (cell_at h.web 0).trans rfl
theorem WebAt.cell1 {W : World} {Bw Bm : Nat} {a : Option Addr} {cap : Nat} {zs : List Int} {N : Nat} {T : Nat → Option Nat} (h : WebAt W Bw Bm a cap zs N T) : W.cell? ⟨Bw, 1, none⟩ = some (.map (some Bm)) := (cell_at h.web 1).trans rfl
theorem WebAt.below {W W' : World} {Bw Bm : Nat} {a : Option Addr} {cap : Nat} {zs : List Int} {N : Nat} {T : Nat → Option Nat} (h : WebAt W Bw Bm a cap zs N T) (hB : Below W.heap.size W W') : WebAt W' Bw Bm a cap zs N T := by
  refine ⟨(hB.block Bw (Array.getElem?_eq_some_iff.1 h.web).1).trans h.web, (h.ints.below hB).mono hB.size, ?_⟩
  obtain ⟨M, hM, hT⟩ := h.ties
  exact ⟨M, hM.keep (hB.block Bm hM.lt), hT⟩
theorem WebAt.lt {W : World} {Bw Bm : Nat} {a : Option Addr} {cap : Nat} {zs : List Int} {N : Nat} {T : Nat → Option Nat} (h : WebAt W Bw Bm a cap zs N T) : Bw < W.heap.size ∧ Bm < W.heap.size := by
  obtain ⟨M, hM, hT⟩ := h.ties
  exact ⟨(Array.getElem?_eq_some_iff.1 h.web).1, hM.lt⟩
theorem wfN {n : Nat} (h : n ≤ 100000) : (Lit.int .i64 (n : Int)).wf = true := by
  simp [Lit.wf, IntKind.min, IntKind.max, IntKind.signed, IntKind.bits]
  omega

attribute [local go_sem] Oper.semAt_some

set_option maxRecDepth 100000 in
set_option maxHeartbeats 1000000 in
/-- (*web).head. -/
theorem head_in (F : Fence) (hF : Pl F) (n : Nat) (zs : List Int) (T : Nat → Option Nat) (h : Nat → Nat) (G : Wb.Good zs) (S : Wb.St zs T h) (Bw Bm : Nat) (a : Option Addr) (cap N p : Nat) (hp : p < zs.length) (w : World) (hW : WebAt w Bw Bm a cap zs N T) :
    CallsIn F n Try.prog 86 #[.pointer (some ⟨Bw, 0, none⟩), .int .i64 (p : Int)] w fun e w' => e = .returned (.int .i64 (Wb.hd zs h p : Int)) ∧ w' = w := by
  obtain ⟨hro, hfn, hdd⟩ := fx_facts hF
  have hf := hfn _ _ Try.func86
  clear hF hfn
  have hl5 := G.len
  have hl5' : (zs.length : Int) ≤ 5000 := by omega
  have hp' : (p : Int) < (zs.length : Int) := by omega
  have hw0 := hW.cell0
  have hw1 := hW.cell1
  obtain ⟨M, hM, hT⟩ := hW.ties
  obtain ⟨b, off, rfl, hb, hc⟩ := hW.ints.at (by omega)
  have hcp : w.cell? ⟨b, off + p, none⟩ = some (.int .i64 (Wb.sg zs p)) := hc p hp
  obtain ⟨st, hst⟩ := S.down
  have hcl := Wb.can_lt G hp
  have hcc := Wb.can_can G hp
  have hkn := G.known p hp
  have HS := hid S
  have Hst := hid hst
  have HM := hid hM
  have HT := hid hT
  have hcan : Hid (Wb.can zs p = if Wb.sg zs p < 0 then (-1 - Wb.sg zs p).toNat else p) := rfl
  have hhd : Hid (Wb.hd zs h p = h (Wb.can zs p)) := rfl
  clear S hst hM hT hc hW G
  generalize Wb.hd zs h p = r at *
  generalize Wb.sg zs p = s at *
  generalize Wb.can zs p = c at *
  by_cases hs : s < 0
  · have hce : (-1 : Int) - s = (c : Int) := by rw [hcan.out, if_pos hs]; omega
    refine callsIn_of_wp Try.func86 rfl hf ?_ hro
    simp only [Try.ntmps86, List.size_toArray, List.length_cons, List.length_nil, Nat.reduceAdd, Nat.reduceSub, Array.replicate_succ, Array.replicate_zero, List.push_toArray, List.append_toArray, List.nil_append, List.cons_append]
    gi_wp2
    gi_loopw [1] (fun x wr => ∃ q : Nat, x = .int .i64 (q : Int) ∧ q < zs.length ∧ Wb.can zs q = q ∧ Hid (h q = h c) ∧ wr = w) (fun x _ => st (intOf x).toNat)
    case atStart => exact ⟨c, by rw [← hce], hcl, hcc, rfl, rfl⟩
    case round =>
      obtain ⟨q, rfl, hq, hcq, hhq, rfl⟩ := hrel
      have hwf := wfN (n := q) (by omega)
      cases hTq : T q with
      | none =>
        have hMq : (M (q : Int)) = none := by rw [HT.out, hTq]; rfl
        have hroot := hid ((HS.out.free q hq hcq).1 hTq)
        clear hTq
        gi_wp2_with (gi_at_lookup; (refine wpi_look_ok _ rfl _ _ 85 rfl 3 Try.underlying85 (zeroInt _) Bm N M rfl HM.out (q : Int) rfl hwf (.int .i64 0) false (by rw [hMq]; rfl) (by rw [hMq]; rfl) ?_))
        go_ret
        exact ⟨by rw [hhd.out, ← hhq.out, hroot.out]; rfl, rfl⟩
      | some q2 =>
        have hMq : (M (q : Int)) = some (.int .i64 (q2 : Int)) := by rw [HT.out, hTq]; rfl
        obtain ⟨g1, g2, g3⟩ := HS.out.next q q2 hq hcq hTq
        have hlt := Hst.out q q2 hq hcq hTq
        have g3' := hid (g3.trans hhq.out)
        clear hTq g3
        gi_wp2_with (gi_at_lookup; (refine wpi_look_ok _ rfl _ _ 85 rfl 3 Try.underlying85 (zeroInt _) Bm N M rfl HM.out (q : Int) rfl hwf (.int .i64 (q2 : Int)) true (by rw [hMq]; rfl) (by rw [hMq]; rfl) ?_))
        exact ⟨⟨q2, rfl, g1, g2, g3', by first | rfl | trivial⟩, by simpa [intOf] using hlt⟩
  · have hce : Hid ((p : Int) = (c : Int)) := by show _ = _; rw [hcan.out, if_neg hs]
    have hs0 : (0 : Int) ≤ s := by omega
    have hsd : decide (s < 0) = false := by simpa using hs
    clear hs
    refine callsIn_of_wp Try.func86 rfl hf ?_ hro
    simp only [Try.ntmps86, List.size_toArray, List.length_cons, List.length_nil, Nat.reduceAdd, Nat.reduceSub, Array.replicate_succ, Array.replicate_zero, List.push_toArray, List.append_toArray, List.nil_append, List.cons_append]
    gi_wp2
    gi_loopw [1] (fun x wr => ∃ q : Nat, x = .int .i64 (q : Int) ∧ q < zs.length ∧ Wb.can zs q = q ∧ Hid (h q = h c) ∧ wr = w) (fun x _ => st (intOf x).toNat)
    case atStart => exact ⟨c, by rw [← hce.out], hcl, hcc, rfl, rfl⟩
    case round =>
      obtain ⟨q, rfl, hq, hcq, hhq, rfl⟩ := hrel
      have hwf := wfN (n := q) (by omega)
      cases hTq : T q with
      | none =>
        have hMq : (M (q : Int)) = none := by rw [HT.out, hTq]; rfl
        have hroot := hid ((HS.out.free q hq hcq).1 hTq)
        clear hTq
        gi_wp2_with (gi_at_lookup; (refine wpi_look_ok _ rfl _ _ 85 rfl 3 Try.underlying85 (zeroInt _) Bm N M rfl HM.out (q : Int) rfl hwf (.int .i64 0) false (by rw [hMq]; rfl) (by rw [hMq]; rfl) ?_))
        go_ret
        exact ⟨by rw [hhd.out, ← hhq.out, hroot.out]; rfl, rfl⟩
      | some q2 =>
        have hMq : (M (q : Int)) = some (.int .i64 (q2 : Int)) := by rw [HT.out, hTq]; rfl
        obtain ⟨g1, g2, g3⟩ := HS.out.next q q2 hq hcq hTq
        have hlt := Hst.out q q2 hq hcq hTq
        have g3' := hid (g3.trans hhq.out)
        clear hTq g3
        gi_wp2_with (gi_at_lookup; (refine wpi_look_ok _ rfl _ _ 85 rfl 3 Try.underlying85 (zeroInt _) Bm N M rfl HM.out (q : Int) rfl hwf (.int .i64 (q2 : Int)) true (by rw [hMq]; rfl) (by rw [hMq]; rfl) ?_))
        exact ⟨⟨q2, rfl, g1, g2, g3', by first | rfl | trivial⟩, by simpa [intOf] using hlt⟩

end Go.Proofs.Ytbelnlemjcoifaa

namespace Go.Proofs.Ytbelnlemjcoifaa
open Go.Proofs Go.RowKit Go.Shelf

namespace Wb
abbrev Sb := Int → List Int
def App (θ : Sb) (t : List Int) : List Int := t.flatMap fun s => if s < 0 then θ s else [s]
/-- Each variable becomes a term. -/
def TermSb (θ : Sb) : Prop := ∀ s, s < 0 → Tm.run (θ s) 1 = (θ s).length
theorem App_nil (θ : Sb) : App θ [] = [] := rfl
theorem App_cons (θ : Sb) (s : Int) (l : List Int) : App θ (s :: l) = (if s < 0 then θ s else [s]) ++ App θ l := by simp [App]
theorem App_append (θ : Sb) (l r : List Int) : App θ (l ++ r) = App θ l ++ App θ r := by simp [App]
theorem App_flatten (θ : Sb) (l : List (List Int)) : App θ l.flatten = (l.map (App θ)).flatten := by
  induction l with
  | nil => rfl
  | cons x l ih => rw [List.flatten_cons, App_append, ih, List.map_cons, List.flatten_cons]
theorem room_var {s : Int} (h : s < 0) : Tm.room s = 0 := by unfold Tm.room; rw [if_neg (by omega), if_neg (by omega)]
theorem App_run {θ : Sb} (hθ : TermSb θ) : ∀ (t : List Int) (n : Nat), Tm.run t n = t.length → Tm.run (App θ t) n = (App θ t).length := by
  intro t
  induction t with
  | nil => intro n hr; rw [Tm.run_nil] at hr; subst hr; rw [List.length_nil, Tm.run_zero]; rfl
  | cons s l ih =>
    intro n hr
    cases n with
    | zero => rw [Tm.run_zero, List.length_cons] at hr; omega
    | succ n =>
      rw [Tm.run_cons, List.length_cons] at hr
      rw [App_cons]
      by_cases hs : s < 0
      · rw [room_var hs, Nat.add_zero] at hr
        rw [if_pos hs, show n + 1 = 1 + n from by omega, Tm.run_add, Tm.run_app _ _ 1 (by rw [hθ s hs]; omega), hθ s hs, List.drop_left, ih n (by omega), List.length_append]
      · rw [if_neg hs, List.singleton_append, Tm.run_cons, List.length_cons, ih _ (by omega)]
        omega

/-- What stands at a place; the places of its parts. -/
def cont (zs : List Int) (p : Nat) : List Int := Tm.part zs p
def kids (zs : List Int) (p : Nat) : List Nat := (List.range (Tm.room (sg zs p))).map (Tm.pos zs p)
theorem kids_length (zs : List Int) (p : Nat) : (kids zs p).length = Tm.room (sg zs p) := by simp [kids]
theorem pos_end {zs : List Int} {p : Nat} (hp : p < zs.length) : Tm.endAt zs p = Tm.pos zs p (Tm.room (sg zs p)) := Tm.endAt_in zs p hp
theorem pos_lt {zs : List Int} (k : Nat) {i j : Nat} (h : i < j) : Tm.pos zs k i < Tm.pos zs k j := by
  have h1 := Tm.pos_mono zs k (i + 1) j h
  have h2 := Tm.pos_succ zs k i
  have h3 := Tm.endAt_gt zs (Tm.pos zs k i)
  omega
theorem kid_lt {zs : List Int} (G : Good zs) {p i : Nat} (hp : p < zs.length) (hi : i < Tm.room (sg zs p)) : Tm.pos zs p i < zs.length := by
  have h1 := G.ends p hp
  rw [pos_end hp] at h1
  have := pos_lt (zs := zs) p hi
  omega
theorem kids_flat {zs : List Int} {p : Nat} : ∀ m, Tm.pos zs p m ≤ zs.length → (zs.drop (p + 1)).take (Tm.pos zs p m - (p + 1)) = (((List.range m).map (Tm.pos zs p)).map (cont zs)).flatten := by
  intro m
  induction m with
  | zero => intro _; rw [Tm.pos_zero]; simp
  | succ m ih =>
    intro h
    have h1 := Tm.pos_succ zs p m
    have h2 := Tm.pos_gt zs p m
    have h3 := Tm.endAt_gt zs (Tm.pos zs p m)
    rw [List.range_succ, List.map_append, List.map_append, List.flatten_append, ← ih (by omega)]
    simp only [List.map_cons, List.map_nil, List.flatten_cons, List.flatten_nil, List.append_nil]
    unfold cont Tm.part
    rw [h1, show Tm.endAt zs (Tm.pos zs p m) - (p + 1) = (Tm.pos zs p m - (p + 1)) + (Tm.endAt zs (Tm.pos zs p m) - Tm.pos zs p m) from by omega, List.take_add, List.drop_drop, show p + 1 + (Tm.pos zs p m - (p + 1)) = Tm.pos zs p m from by omega]
theorem cont_eq {zs : List Int} (G : Good zs) {p : Nat} (hp : p < zs.length) : cont zs p = sg zs p :: ((kids zs p).map (cont zs)).flatten := by
  have h1 := G.ends p hp
  have h2 := Tm.endAt_gt zs p
  rw [show ((kids zs p).map (cont zs)).flatten = (zs.drop (p + 1)).take (Tm.pos zs p (Tm.room (sg zs p)) - (p + 1)) from (kids_flat _ (by rw [← pos_end hp]; exact h1)).symm, ← pos_end hp]
  unfold cont Tm.part
  rw [show Tm.endAt zs p - p = (Tm.endAt zs p - (p + 1)) + 1 from by omega, List.drop_eq_getElem_cons hp, List.take_succ_cons]
  congr 1
  simp [sg, hp]
theorem cont_run {zs : List Int} (G : Good zs) {p : Nat} (hp : p < zs.length) : Tm.run (cont zs p) 1 = (cont zs p).length := by
  have h1 := G.ends p hp
  unfold Tm.endAt at h1
  have hl : Tm.run (zs.drop p) 1 ≤ (zs.drop p).length := by rw [List.length_drop]; omega
  have := Tm.run_take (zs.drop p) 1 hl
  unfold cont Tm.part Tm.endAt
  rw [show p + Tm.run (zs.drop p) 1 - p = Tm.run (zs.drop p) 1 from by omega, this, List.length_take]
  omega
theorem cont_var {zs : List Int} (G : Good zs) {p : Nat} (hp : p < zs.length) (hs : sg zs p < 0) : cont zs p = [sg zs p] := by
  rw [cont_eq G hp, show kids zs p = [] from by unfold kids; rw [room_var hs]; rfl]; rfl
theorem cont_can {zs : List Int} (G : Good zs) {p : Nat} (hp : p < zs.length) : cont zs (can zs p) = cont zs p := by
  by_cases hs : sg zs p < 0
  · rw [cont_var G hp hs, cont_var G (can_lt G hp) (by rw [sg_can G hp]; exact hs), sg_can G hp]
  · rw [can_pos (by omega)]

theorem flatten_inj : ∀ (l l' : List (List Int)), (∀ x ∈ l, Tm.run x 1 = x.length) → (∀ x ∈ l', Tm.run x 1 = x.length) → l.length = l'.length → l.flatten = l'.flatten → l = l' := by
  intro l
  induction l with
  | nil => intro l' _ _ h _; cases l' with
    | nil => rfl
    | cons x l' => simp at h
  | cons x l ih =>
    intro l' h1 h2 h3 h4
    cases l' with
    | nil => simp at h3
    | cons y l' =>
      rw [List.flatten_cons, List.flatten_cons] at h4
      have hx := h1 x (by simp)
      have hy := h2 y (by simp)
      have e1 := Tm.run_app x l.flatten 1 (by omega)
      have e2 := Tm.run_app y l'.flatten 1 (by omega)
      rw [h4, e2] at e1
      obtain ⟨a, b⟩ := List.append_inj h4 (by omega)
      subst a
      rw [ih l' (fun z hz => h1 z (by simp [hz])) (fun z hz => h2 z (by simp [hz])) (by simpa using h3) b]

theorem App_cont {zs : List Int} (G : Good zs) (θ : Sb) {p : Nat} (hp : p < zs.length) (hs : 0 ≤ sg zs p) : App θ (cont zs p) = sg zs p :: ((kids zs p).map fun k => App θ (cont zs k)).flatten := by
  rw [cont_eq G hp, App_cons, if_neg (by omega), App_flatten, List.map_map]
  rfl
theorem kids_get {zs : List Int} {p i : Nat} (hi : i < Tm.room (sg zs p)) : (kids zs p)[i]? = some (Tm.pos zs p i) := by simp [kids, hi]
/-- What becomes the same of two symbols has the same symbol, and parts that become the same. -/
theorem kids_eq {zs : List Int} (G : Good zs) {θ : Sb} (hθ : TermSb θ) {p q : Nat} (hp : p < zs.length) (hq : q < zs.length) (sp : 0 ≤ sg zs p) (sq : 0 ≤ sg zs q) (h : App θ (cont zs p) = App θ (cont zs q)) :
    sg zs p = sg zs q ∧ ∀ i, i < Tm.room (sg zs p) → App θ (cont zs (Tm.pos zs p i)) = App θ (cont zs (Tm.pos zs q i)) := by
  rw [App_cont G θ hp sp, App_cont G θ hq sq] at h
  obtain ⟨e, h2⟩ := List.cons.inj h
  have hrun : ∀ r, r < zs.length → ∀ x ∈ (kids zs r).map (fun k => App θ (cont zs k)), Tm.run x 1 = x.length := fun r hr x hx => by
    rw [List.mem_map] at hx
    obtain ⟨k, hk, rfl⟩ := hx
    unfold kids at hk
    rw [List.mem_map] at hk
    obtain ⟨i, hi, rfl⟩ := hk
    exact App_run hθ _ 1 (cont_run G (kid_lt G hr (List.mem_range.1 hi)))
  have h3 := flatten_inj _ _ (hrun p hp) (hrun q hq) (by simp [kids, e]) h2
  refine ⟨e, fun i hi => ?_⟩
  have h4 := congrArg (fun l => l[i]?) h3
  simp only [List.getElem?_map] at h4
  rw [kids_get hi, kids_get (by rw [← e]; exact hi)] at h4
  simpa using h4
/-- What a list makes the same of all that is tied. -/
def Resp (zs : List Int) (h : Nat → Nat) (θ : Sb) : Prop := ∀ p, p < zs.length → can zs p = p → App θ (cont zs p) = App θ (cont zs (h p))
theorem Resp.hd {zs : List Int} (G : Good zs) {h : Nat → Nat} {θ : Sb} (R : Resp zs h θ) {p : Nat} (hp : p < zs.length) : App θ (cont zs p) = App θ (cont zs (hd zs h p)) := by
  rw [← cont_can G hp]
  exact R _ (can_lt G hp) (can_can G hp)
/-- What is the same by ties and by pairs. -/
inductive Eqv (zs : List Int) (h : Nat → Nat) (P : List (Nat × Nat)) : Nat → Nat → Prop
  | base (p q : Nat) : p < zs.length → q < zs.length → hd zs h p = hd zs h q → Eqv zs h P p q
  | pair (p q : Nat) : (p, q) ∈ P → Eqv zs h P p q
  | symm (p q : Nat) : Eqv zs h P p q → Eqv zs h P q p
  | trans (p q r : Nat) : Eqv zs h P p q → Eqv zs h P q r → Eqv zs h P p r
def Closed (zs : List Int) (h : Nat → Nat) (P : List (Nat × Nat)) : Prop :=
  ∀ p q, p < zs.length → q < zs.length → 0 ≤ sg zs p → 0 ≤ sg zs q → h p = h q → sg zs p = sg zs q ∧ ∀ i, i < Tm.room (sg zs p) → Eqv zs h P (Tm.pos zs p i) (Tm.pos zs q i)
theorem Eqv.move {zs : List Int} {h h' : Nat → Nat} {P P' : List (Nat × Nat)} (hc : ∀ p q, p < zs.length → q < zs.length → hd zs h p = hd zs h q → hd zs h' p = hd zs h' q) (hP : ∀ p q, (p, q) ∈ P → Eqv zs h' P' p q) {p q : Nat} (e : Eqv zs h P p q) : Eqv zs h' P' p q := by
  induction e with
  | base p q h1 h2 h3 => exact .base p q h1 h2 (hc p q h1 h2 h3)
  | pair p q h1 => exact hP p q h1
  | symm p q _ ih => exact .symm _ _ ih
  | trans p q r _ _ i1 i2 => exact .trans _ _ _ i1 i2

/-- What tying pairs has done. -/
structure TieL (zs : List Int) (h h' : Nat → Nat) (ps : List (Nat × Nat)) : Prop where
  coarse : ∀ p q, p < zs.length → q < zs.length → hd zs h p = hd zs h q → hd zs h' p = hd zs h' q
  sound : ∀ θ, TermSb θ → Resp zs h θ → (∀ p q, (p, q) ∈ ps → App θ (cont zs p) = App θ (cont zs q)) → Resp zs h' θ
  tied : ∀ p q, (p, q) ∈ ps → hd zs h' p = hd zs h' q
  close : ∀ P, Closed zs h (ps ++ P) → Closed zs h' P
theorem TieL.nil (zs : List Int) (h : Nat → Nat) : TieL zs h h [] := ⟨fun _ _ _ _ h => h, fun _ _ R _ => R, fun p q h => by simp at h, fun _ h => h⟩
theorem TieL.snoc {zs : List Int} {h h1 h2 : Nat → Nat} {ps : List (Nat × Nat)} {a b : Nat} (A : TieL zs h h1 ps) (B : TieL zs h1 h2 [(a, b)]) (hps : ∀ p q, (p, q) ∈ ps → p < zs.length ∧ q < zs.length) : TieL zs h h2 (ps ++ [(a, b)]) := by
  refine ⟨fun p q hp hq e => B.coarse p q hp hq (A.coarse p q hp hq e), fun θ hθ R hq => ?_, fun p q hm => ?_, fun P hC => ?_⟩
  · exact B.sound θ hθ (A.sound θ hθ R fun p q hm => hq p q (List.mem_append_left _ hm)) fun p q hm => hq p q (List.mem_append_right _ hm)
  · rcases List.mem_append.1 hm with hm | hm
    · exact B.coarse p q (hps p q hm).1 (hps p q hm).2 (A.tied p q hm)
    · exact B.tied p q hm
  · exact B.close P (A.close ([(a, b)] ++ P) (by rw [← List.append_assoc]; exact hC))

theorem TieL.same {zs : List Int} {h : Nat → Nat} {a b : Nat} (ha : a < zs.length) (hb : b < zs.length) (e : hd zs h a = hd zs h b) : TieL zs h h [(a, b)] := by
  refine ⟨fun _ _ _ _ h => h, fun _ _ R _ => R, fun p q hm => by simp at hm; obtain ⟨rfl, rfl⟩ := hm; exact e, fun P hC p q hp hq sp sq ep => ?_⟩
  obtain ⟨e1, e2⟩ := hC p q hp hq sp sq ep
  refine ⟨e1, fun i hi => (e2 i hi).move (fun _ _ _ _ h => h) fun x y hm => ?_⟩
  simp at hm
  rcases hm with ⟨rfl, rfl⟩ | hm
  · exact .base _ _ ha hb e
  · exact .pair _ _ hm
end Wb

end Go.Proofs.Ytbelnlemjcoifaa

namespace Go.Proofs.Ytbelnlemjcoifaa
open Go.Proofs Go.RowKit Go.Shelf

namespace Wb
theorem hd_mg (zs : List Int) (h : Nat → Nat) (o n p : Nat) : hd zs (mg h o n) p = if hd zs h p = o then n else hd zs h p := rfl
theorem mg_coarse (zs : List Int) (h : Nat → Nat) (o n : Nat) : ∀ p q, p < zs.length → q < zs.length → hd zs h p = hd zs h q → hd zs (mg h o n) p = hd zs (mg h o n) q := fun p q _ _ e => by rw [hd_mg, hd_mg, e]
/-- o and n stand for a and b, one for each. -/
def Ends (zs : List Int) (h : Nat → Nat) (a b o n : Nat) : Prop := (hd zs h a = n ∧ hd zs h b = o) ∨ (hd zs h a = o ∧ hd zs h b = n)
theorem Ends.tied {zs : List Int} {h : Nat → Nat} {a b o n : Nat} (E : Ends zs h a b o n) (hne : o ≠ n) : hd zs (mg h o n) a = hd zs (mg h o n) b := by
  rw [hd_mg, hd_mg]
  rcases E with ⟨e1, e2⟩ | ⟨e1, e2⟩
  · rw [e1, e2, if_pos rfl, if_neg (fun e => hne e.symm)]
  · rw [e1, e2, if_pos rfl, if_neg (fun e => hne e.symm)]
theorem Ends.app {zs : List Int} (G : Good zs) {h : Nat → Nat} {a b o n : Nat} (E : Ends zs h a b o n) (ha : a < zs.length) (hb : b < zs.length) {θ : Sb} (R : Resp zs h θ) (e : App θ (cont zs a) = App θ (cont zs b)) : App θ (cont zs o) = App θ (cont zs n) := by
  have h1 := R.hd G ha
  have h2 := R.hd G hb
  rcases E with ⟨e1, e2⟩ | ⟨e1, e2⟩
  · rw [e1] at h1; rw [e2] at h2; rw [← h2, ← h1, e]
  · rw [e1] at h1; rw [e2] at h2; rw [← h1, ← h2, e]
theorem Resp.mg {zs : List Int} {h : Nat → Nat} {o n : Nat} {θ : Sb} (R : Resp zs h θ) (e : App θ (cont zs o) = App θ (cont zs n)) : Resp zs (mg h o n) θ := fun p hp cp => by
  have := R p hp cp
  unfold Wb.mg
  by_cases ep : h p = o
  · rw [if_pos ep, this, ep, e]
  · rw [if_neg ep, this]
/-- A variable is tied. -/
theorem TieL.var {zs : List Int} (G : Good zs) {T : Nat → Option Nat} {h : Nat → Nat} (S : St zs T h) {a b o n : Nat} (ha : a < zs.length) (hb : b < zs.length) (E : Ends zs h a b o n) (hne : o ≠ n) (ov : sg zs o < 0) : TieL zs h (Wb.mg h o n) [(a, b)] := by
  refine ⟨mg_coarse zs h o n, fun θ _ R hq => R.mg (E.app G ha hb R (hq a b (by simp))), fun p q hm => by simp at hm; obtain ⟨rfl, rfl⟩ := hm; exact E.tied hne, fun P hC p q hp hq sp sq e => ?_⟩
  have hno : ∀ x, x < zs.length → 0 ≤ sg zs x → h x ≠ o := fun x hx sx ex => by
    have := S.up x hx (can_pos sx)
    rw [ex] at this
    omega
  have e' : h p = h q := by
    unfold Wb.mg at e
    rw [if_neg (hno p hp sp), if_neg (hno q hq sq)] at e
    exact e
  obtain ⟨e1, e2⟩ := hC p q hp hq sp sq e'
  refine ⟨e1, fun i hi => (e2 i hi).move (mg_coarse zs h o n) fun x y hm => ?_⟩
  simp at hm
  rcases hm with ⟨rfl, rfl⟩ | hm
  · exact .base _ _ ha hb (E.tied hne)
  · exact .pair _ _ hm
/-- The parts of two places, one against the other. -/
def pairsTo (zs : List Int) (n o : Nat) (m : Nat) : List (Nat × Nat) := (List.range m).map fun i => (Tm.pos zs n i, Tm.pos zs o i)
theorem pairsTo_succ (zs : List Int) (n o m : Nat) : pairsTo zs n o (m + 1) = pairsTo zs n o m ++ [(Tm.pos zs n m, Tm.pos zs o m)] := by simp [pairsTo, List.range_succ]
theorem mem_pairsTo {zs : List Int} {n o m p q : Nat} (h : (p, q) ∈ pairsTo zs n o m) : ∃ i, i < m ∧ p = Tm.pos zs n i ∧ q = Tm.pos zs o i := by
  unfold pairsTo at h
  rw [List.mem_map] at h
  obtain ⟨i, hi, e⟩ := h
  cases e
  exact ⟨i, List.mem_range.1 hi, rfl, rfl⟩
theorem pairsTo_mem {zs : List Int} {n o m i : Nat} (h : i < m) : (Tm.pos zs n i, Tm.pos zs o i) ∈ pairsTo zs n o m := by
  unfold pairsTo
  rw [List.mem_map]
  exact ⟨i, List.mem_range.2 h, rfl⟩
/-- Two symbols are tied, and their parts behind that. -/
theorem TieL.sym {zs : List Int} (G : Good zs) {h h2 : Nat → Nat} {a b o n : Nat} (ha : a < zs.length) (hb : b < zs.length) (E : Ends zs h a b o n) (hne : o ≠ n) (ho : o < zs.length) (hn : n < zs.length) (ro : h o = o) (rn : h n = n) (so : 0 ≤ sg zs o)
    (es : sg zs o = sg zs n) (K : TieL zs (Wb.mg h o n) h2 (pairsTo zs n o (Tm.room (sg zs n)))) : TieL zs h h2 [(a, b)] := by
  refine ⟨fun p q hp hq e => K.coarse p q hp hq (mg_coarse zs h o n p q hp hq e), fun θ hθ R hq => ?_, fun p q hm => by simp at hm; obtain ⟨rfl, rfl⟩ := hm; exact K.coarse _ _ ha hb (E.tied hne), fun P hC => K.close P fun p q hp hq sp sq e => ?_⟩
  · have e := E.app G ha hb R (hq a b (by simp))
    refine K.sound θ hθ (R.mg e) fun p q hm => ?_
    obtain ⟨i, hi, rfl, rfl⟩ := mem_pairsTo hm
    exact (kids_eq G hθ hn ho (by omega) so e.symm).2 i hi
  · have mv : ∀ x y, Eqv zs h ([(a, b)] ++ P) x y → Eqv zs (Wb.mg h o n) (pairsTo zs n o (Tm.room (sg zs n)) ++ P) x y := fun x y hxy => hxy.move (mg_coarse zs h o n) fun u v hm => by
      simp at hm
      rcases hm with ⟨rfl, rfl⟩ | hm
      · exact .base _ _ ha hb (E.tied hne)
      · exact .pair _ _ (List.mem_append_right _ hm)
    have on : ∀ i, i < Tm.room (sg zs n) → Eqv zs (Wb.mg h o n) (pairsTo zs n o (Tm.room (sg zs n)) ++ P) (Tm.pos zs o i) (Tm.pos zs n i) := fun i hi => .symm _ _ (.pair _ _ (List.mem_append_left _ (pairsTo_mem hi)))
    have cross : ∀ x y, x < zs.length → y < zs.length → 0 ≤ sg zs x → 0 ≤ sg zs y → h x = o → h y = n → sg zs x = sg zs y ∧ ∀ i, i < Tm.room (sg zs x) → Eqv zs (Wb.mg h o n) (pairsTo zs n o (Tm.room (sg zs n)) ++ P) (Tm.pos zs x i) (Tm.pos zs y i) := fun x y hx hy sx sy ex ey => by
      obtain ⟨e1, e2⟩ := hC x o hx ho sx so (by rw [ex, ro])
      obtain ⟨e3, e4⟩ := hC y n hy hn sy (by omega) (by rw [ey, rn])
      refine ⟨by omega, fun i hi => ?_⟩
      exact .trans _ _ _ (mv _ _ (e2 i hi)) (.trans _ _ _ (on i (by rw [← es, ← e1]; exact hi)) (.symm _ _ (mv _ _ (e4 i (by rw [e3, ← es, ← e1]; exact hi)))))
    have same : h p = h q → sg zs p = sg zs q ∧ ∀ i, i < Tm.room (sg zs p) → Eqv zs (Wb.mg h o n) (pairsTo zs n o (Tm.room (sg zs n)) ++ P) (Tm.pos zs p i) (Tm.pos zs q i) := fun e' => by
      obtain ⟨e1, e2⟩ := hC p q hp hq sp sq e'
      exact ⟨e1, fun i hi => mv _ _ (e2 i hi)⟩
    unfold Wb.mg at e
    by_cases ep : h p = o
    · by_cases eq : h q = o
      · exact same (by rw [ep, eq])
      · rw [if_pos ep, if_neg eq] at e
        exact cross p q hp hq sp sq ep e.symm
    · by_cases eq : h q = o
      · rw [if_neg ep, if_pos eq] at e
        obtain ⟨e1, e2⟩ := cross q p hq hp sq sp eq e
        exact ⟨e1.symm, fun i hi => .symm _ _ (e2 i (by rw [e1]; exact hi))⟩
      · rw [if_neg ep, if_neg eq] at e
        exact same e

/-- Nothing that respects the ties makes them the same. -/
def No (zs : List Int) (h : Nat → Nat) (ps : List (Nat × Nat)) : Prop := ∀ θ, TermSb θ → Resp zs h θ → (∀ p q, (p, q) ∈ ps → App θ (cont zs p) = App θ (cont zs q)) → False
theorem No.clash {zs : List Int} (G : Good zs) {h : Nat → Nat} {a b o n : Nat} (ha : a < zs.length) (hb : b < zs.length) (E : Ends zs h a b o n) (ho : o < zs.length) (hn : n < zs.length) (so : 0 ≤ sg zs o) (sn : 0 ≤ sg zs n) (es : sg zs o ≠ sg zs n) : No zs h [(a, b)] := fun θ hθ R hq =>
  es (kids_eq G hθ ho hn so sn (E.app G ha hb R (hq a b (by simp)))).1
theorem No.sym {zs : List Int} (G : Good zs) {h : Nat → Nat} {a b o n : Nat} (ha : a < zs.length) (hb : b < zs.length) (E : Ends zs h a b o n) (ho : o < zs.length) (hn : n < zs.length) (so : 0 ≤ sg zs o) (sn : 0 ≤ sg zs n)
    (K : No zs (Wb.mg h o n) (pairsTo zs n o (Tm.room (sg zs n)))) : No zs h [(a, b)] := fun θ hθ R hq => by
  have e := E.app G ha hb R (hq a b (by simp))
  refine K θ hθ (R.mg e) fun p q hm => ?_
  obtain ⟨i, hi, rfl, rfl⟩ := mem_pairsTo hm
  exact (kids_eq G hθ hn ho sn so e.symm).2 i hi
theorem No.later {zs : List Int} {h h1 : Nat → Nat} {ps qs rs : List (Nat × Nat)} (A : TieL zs h h1 ps) (B : No zs h1 qs) (hs : ∀ x, x ∈ ps → x ∈ rs) (ht : ∀ x, x ∈ qs → x ∈ rs) : No zs h rs := fun θ hθ R hq =>
  B θ hθ (A.sound θ hθ R fun p q hm => hq p q (hs _ hm)) fun p q hm => hq p q (ht _ hm)
end Wb

end Go.Proofs.Ytbelnlemjcoifaa
