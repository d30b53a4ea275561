/-
  A REGION THAT DRAWS ITS ORDER, WITHIN A ROUND: it runs there as it runs outside of it, if nothing is deferred in it: so the laws that take an operation first (which want that no round is at hand) serve there, too.
-/
import Derived.OwnWalkIn
import Derived.OrdersIn
import Derived.Shelf.RegionOpen
import Derived.RangeFuncCalls
import Derived.Test.YtgeknojpcjadkaaBjt5
namespace Go.Proofs.Ytgeknojpcjadkaa
open Go.Proofs Go.RowKit Go.Shelf

theorem upon_round {F : Fence} {n l : Nat} {P : Program} {o : Oper} {a : Act} {next next' : Act → World → Prop} {Q : Exit → Act → World → Prop} (hm : ∀ a w, next a w → next' a w) (r : Result Next) (h : o.uponIn F n P a next Q r) : o.uponIn (F.inRound l) n P a next' Q r := by
  cases r with
  | ok x w' =>
    cases x with
    | value v => exact hm _ _ h
    | skip => exact hm _ _ h
    | defer d => exact hm _ _ h
    | enter f args =>
      refine ⟨h.1, (CallsIn.inRound l h.2).mono fun e w'' he => ?_⟩
      cases e with
      | returned v => exact hm _ _ he
      | panicked c => exact he
      | outgrown => exact he
    | row row args => exact ⟨h.1, RowsIn.mono (show RowsIn (F.inRound l) (n - 1) P row args w' _ from h.2) fun v w'' he => hm _ _ he⟩
    | round l' f tmps assign body =>
      refine ⟨h.1, RoundIn.mono (show RoundIn (F.inRound l) (n - 1) P l' f tmps assign body w' _ from h.2) fun e w'' he => ?_⟩
      cases e with
      | returned v => exact hm _ _ he
      | panicked c => exact he
      | outgrown => exact he
    | _ => exact h
  | halt x w' => cases x <;> exact h

theorem ops_round {F : Fence} {n l : Nat} {P : Program} {ops : Array Oper} {Q : Exit → Act → World → Prop} (hro : F.round = none) (hnd : ∀ (j : Nat) (o : Oper) (c : Call), ops[j]? = some o → o.op ≠ .defer c) :
    ∀ (order : List Nat) (a : Act) (w : World), wpOpsIn F n P ops Q order a w → wpOpsIn (F.inRound l) n P ops Q order a w := by
  intro order
  induction order with
  | nil => exact fun _ _ h => h
  | cons i rest ih =>
    intro a w h
    unfold wpOpsIn at h ⊢
    cases ho : ops[i]? with
    | none => rw [ho] at h; exact ih a w h
    | some o =>
      rw [ho] at h
      by_cases hw : Region.wanted o (yielded ops a.tmps) = true
      · simp only [hw, if_true] at h ⊢
        refine ⟨h.1, ?_⟩
        have h2 := h.2
        rw [hro, Oper.semAt_none] at h2
        rw [show (F.inRound l).round = some l from rfl, Oper.semAt_some l _ _ (fun c => hnd i o c ho)]
        exact upon_round ih _ h2
      · simp only [hw] at h ⊢
        exact ⟨h.1, ih _ _ h.2⟩

/-- Is no operation one that defers? -/
def noDefer (ops : Array Oper) : Bool := ops.all fun o => match o.op with | .defer _ => false | _ => true
theorem noDefer_spec {ops : Array Oper} (h : noDefer ops = true) : ∀ (j : Nat) (o : Oper) (c : Call), ops[j]? = some o → o.op ≠ .defer c := by
  intro j o c hj e
  unfold noDefer at h
  rw [Array.all_eq_true] at h
  obtain ⟨hlt, hx⟩ := Array.getElem?_eq_some_iff.1 hj
  have := h j hlt
  rw [hx, e] at this
  simp at this

/-- Within a round: from the walk over all orders outside of it. -/
theorem wpIn_region_round {F : Fence} {n l id : Nat} {P : Program} {ops : Array Oper} {Q : Exit → Act → World → Prop} {a : Act} {w : World} (hro : F.round = none) (hnd : noDefer ops = true) (hm : P.follows .mixedOrders = true)
    (h : wpAnyIn F n P .any ops Q ops.size (Array.replicate ops.size false) a w.drew) : (Code.region id ops true).wpIn (F.inRound l) n P Q a w :=
  wpIn_region_draw fun t => by
    simp only [Region.schedule, hm, Bool.true_or, if_true]
    exact ops_round hro (noDefer_spec hnd) _ _ _ (wpAnyIn_sound ops.size t _ a _ h)

end Go.Proofs.Ytgeknojpcjadkaa
