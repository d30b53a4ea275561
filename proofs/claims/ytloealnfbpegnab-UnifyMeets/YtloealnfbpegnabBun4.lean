/-
  THE WEB IN MEMORY; (*web).head. · PLAIN MATHEMATICS: what places hold, what becomes of it, and what tying does. · PLAIN MATHEMATICS: what one tie does. · PLAIN MATHEMATICS of fitting: sign by sign, what the variables of p must become. · slices.Equal; match.fit. · match.firstError, match.Fit. · TREES IN MEMORY: haspref.grown and haspref.treeOf make a tree that holds the term's signs.
-/
import Derived.Test.YtloealnfbpegnabBun3
import Derived.Maps.AppendAt
namespace Go.Proofs.Ytloealnfbpegnab
open Go.Proofs Go.RowKit Go.Shelf Go.Maps

section
variable {F : Fence} {nF : Nat} (w : World) {ops : Array Oper} {rest : List Oper} {o : Oper} {a : Act} {Q : Exit → Act → World → Prop}
theorem wpi_look_ok (hg : o.guard = none) (m x : Operand) (t : TypeId) (hop : o.op = Op.lookup t m x true) (e : TypeId) (ht : Try.prog.underlying t = some (.map 3 e)) {z : Value} (hz : (zeroValue e).run Try.prog w = .ok z w) (b n : Nat) (M : Int → Option Value)
    (hm : a.eval m = .map (some b)) (hI : IntMap w b n M) (key : Int) (hx : a.eval x = .int .i64 key) (hwf : (Lit.int .i64 key).wf = true) (v : Value) (q : Bool) (hv : (M key).getD z = v) (hq : (M key).isSome = q)
    (hK : wpListIn F nF Try.prog ops Q rest (a.put o.dst (.tuple #[v, .bool q])) w) : wpListIn F nF Try.prog ops Q (o :: rest) a w := by
  refine wpListIn_plain hg fun K' hK' => ?_
  have hrun := (hI.look ht hz hwf).1
  rw [hv, hq] at hrun
  unfold Oper.wpIn
  refine ⟨by simp [Oper.about, hop], ?_⟩
  rw [Oper.semAt_plain F _ _ (by rw [hop]; intro c hc'; cases hc')]
  simp [execOp, hop, hm, hx, hrun, Result.andThen]
  exact hK' _ _ hK
end

/-- BLOCK Bw IS A WEB: its signs zs at a, its ties T in block Bm. -/
structure WebAt (W : World) (Bw Bm : Nat) (a : Option Addr) (cap : Nat) (zs : List Int) (N : Nat) (T : Nat → Option Nat) : Prop where
  web : W.heap[Bw]? = some (.cells #[.slice a zs.length cap, .map (some Bm)] 91 (0, 0))
  ints : Ints W.heap.size W a zs
  ties : ∃ M, IntMap W Bm N M ∧ ∀ p : Nat, M (p : Int) = (T p).map fun q => .int .i64 (q : Int)
theorem WebAt.cell0 {W : World} {Bw Bm : Nat} {a : Option Addr} {cap : Nat} {zs : List Int} {N : Nat} {T : Nat → Option Nat} (h : WebAt W Bw Bm a cap zs N T) : W.cell? ⟨Bw, 0, none⟩ = some (.slice a zs.length cap) := (cell_at h.web 0).trans rfl
theorem WebAt.cell1 {W : World} {Bw Bm : Nat} {a : Option Addr} {cap : Nat} {zs : List Int} {N : Nat} {T : Nat → Option Nat} (h : WebAt W Bw Bm a cap zs N T) : W.cell? ⟨Bw, 1, none⟩ = some (.map (some Bm)) := (cell_at h.web 1).trans rfl
theorem WebAt.below {W W' : World} {Bw Bm : Nat} {a : Option Addr} {cap : Nat} {zs : List Int} {N : Nat} {T : Nat → Option Nat} (h : WebAt W Bw Bm a cap zs N T) (hB : Below W.heap.size W W') : WebAt W' Bw Bm a cap zs N T := by
  refine ⟨(hB.block Bw (Array.getElem?_eq_some_iff.1 h.web).1).trans h.web, (h.ints.below hB).mono hB.size, ?_⟩
  obtain ⟨M, hM, hT⟩ := h.ties
  exact ⟨M, hM.keep (hB.block Bm hM.lt), hT⟩
theorem WebAt.lt {W : World} {Bw Bm : Nat} {a : Option Addr} {cap : Nat} {zs : List Int} {N : Nat} {T : Nat → Option Nat} (h : WebAt W Bw Bm a cap zs N T) : Bw < W.heap.size ∧ Bm < W.heap.size := by
  obtain ⟨M, hM, hT⟩ := h.ties
  exact ⟨(Array.getElem?_eq_some_iff.1 h.web).1, hM.lt⟩
theorem wfN {n : Nat} (h : n ≤ 100000) : (Lit.int .i64 (n : Int)).wf = true := by
  simp [Lit.wf, IntKind.min, IntKind.max, IntKind.signed, IntKind.bits]
  omega

attribute [local go_sem] Oper.semAt_some

set_option maxRecDepth 100000 in
set_option maxHeartbeats 1000000 in
/-- (*web).head. -/
theorem head_in (F : Fence) (hF : Pl F) (n : Nat) (zs : List Int) (T : Nat → Option Nat) (h : Nat → Nat) (G : Wb.Good zs) (S : Wb.St zs T h) (Bw Bm : Nat) (a : Option Addr) (cap N p : Nat) (hp : p < zs.length) (w : World) (hW : WebAt w Bw Bm a cap zs N T) :
    CallsIn F n Try.prog 63 #[.pointer (some ⟨Bw, 0, none⟩), .int .i64 (p : Int)] w fun e w' => e = .returned (.int .i64 (Wb.hd zs h p : Int)) ∧ w' = w := by
  obtain ⟨hro, hfn, hdd⟩ := fx_facts hF
  have hf := hfn _ _ Try.func63
  clear hF hfn
  have hl5 := G.len
  have hl5' : (zs.length : Int) ≤ 5000 := by omega
  have hp' : (p : Int) < (zs.length : Int) := by omega
  have hw0 := hW.cell0
  have hw1 := hW.cell1
  obtain ⟨M, hM, hT⟩ := hW.ties
  obtain ⟨b, off, rfl, hb, hc⟩ := hW.ints.at (by omega)
  have hcp : w.cell? ⟨b, off + p, none⟩ = some (.int .i64 (Wb.sg zs p)) := hc p hp
  obtain ⟨st, hst⟩ := S.down
  have hcl := Wb.can_lt G hp
  have hcc := Wb.can_can G hp
  have hkn := G.known p hp
  have HS := hid S
  have Hst := hid hst
  have HM := hid hM
  have HT := hid hT
  have hcan : Hid (Wb.can zs p = if Wb.sg zs p < 0 then (-1 - Wb.sg zs p).toNat else p) := rfl
  have hhd : Hid (Wb.hd zs h p = h (Wb.can zs p)) := rfl
  clear S hst hM hT hc hW G
  generalize Wb.hd zs h p = r at *
  generalize Wb.sg zs p = s at *
  generalize Wb.can zs p = c at *
  by_cases hs : s < 0
  · have hce : (-1 : Int) - s = (c : Int) := by rw [hcan.out, if_pos hs]; omega
    refine callsIn_of_wp Try.func63 rfl hf ?_ hro
    simp only [Try.ntmps63, List.size_toArray, List.length_cons, List.length_nil, Nat.reduceAdd, Nat.reduceSub, Array.replicate_succ, Array.replicate_zero, List.push_toArray, List.append_toArray, List.nil_append, List.cons_append]
    gi_wp2
    gi_loopw [1] (fun x wr => ∃ q : Nat, x = .int .i64 (q : Int) ∧ q < zs.length ∧ Wb.can zs q = q ∧ Hid (h q = h c) ∧ wr = w) (fun x _ => st (intOf x).toNat)
    case atStart => exact ⟨c, by rw [← hce], hcl, hcc, rfl, rfl⟩
    case round =>
      obtain ⟨q, rfl, hq, hcq, hhq, rfl⟩ := hrel
      have hwf := wfN (n := q) (by omega)
      cases hTq : T q with
      | none =>
        have hMq : (M (q : Int)) = none := by rw [HT.out, hTq]; rfl
        have hroot := hid ((HS.out.free q hq hcq).1 hTq)
        clear hTq
        gi_wp2_with (gi_at_lookup; (refine wpi_look_ok _ rfl _ _ 89 rfl 3 Try.underlying89 (zeroInt _) Bm N M rfl HM.out (q : Int) rfl hwf (.int .i64 0) false (by rw [hMq]; rfl) (by rw [hMq]; rfl) ?_))
        go_ret
        exact ⟨by rw [hhd.out, ← hhq.out, hroot.out]; rfl, rfl⟩
      | some q2 =>
        have hMq : (M (q : Int)) = some (.int .i64 (q2 : Int)) := by rw [HT.out, hTq]; rfl
        obtain ⟨g1, g2, g3⟩ := HS.out.next q q2 hq hcq hTq
        have hlt := Hst.out q q2 hq hcq hTq
        have g3' := hid (g3.trans hhq.out)
        clear hTq g3
        gi_wp2_with (gi_at_lookup; (refine wpi_look_ok _ rfl _ _ 89 rfl 3 Try.underlying89 (zeroInt _) Bm N M rfl HM.out (q : Int) rfl hwf (.int .i64 (q2 : Int)) true (by rw [hMq]; rfl) (by rw [hMq]; rfl) ?_))
        exact ⟨⟨q2, rfl, g1, g2, g3', by first | rfl | trivial⟩, by simpa [intOf] using hlt⟩
  · have hce : Hid ((p : Int) = (c : Int)) := by show _ = _; rw [hcan.out, if_neg hs]
    have hs0 : (0 : Int) ≤ s := by omega
    have hsd : decide (s < 0) = false := by simpa using hs
    clear hs
    refine callsIn_of_wp Try.func63 rfl hf ?_ hro
    simp only [Try.ntmps63, List.size_toArray, List.length_cons, List.length_nil, Nat.reduceAdd, Nat.reduceSub, Array.replicate_succ, Array.replicate_zero, List.push_toArray, List.append_toArray, List.nil_append, List.cons_append]
    gi_wp2
    gi_loopw [1] (fun x wr => ∃ q : Nat, x = .int .i64 (q : Int) ∧ q < zs.length ∧ Wb.can zs q = q ∧ Hid (h q = h c) ∧ wr = w) (fun x _ => st (intOf x).toNat)
    case atStart => exact ⟨c, by rw [← hce.out], hcl, hcc, rfl, rfl⟩
    case round =>
      obtain ⟨q, rfl, hq, hcq, hhq, rfl⟩ := hrel
      have hwf := wfN (n := q) (by omega)
      cases hTq : T q with
      | none =>
        have hMq : (M (q : Int)) = none := by rw [HT.out, hTq]; rfl
        have hroot := hid ((HS.out.free q hq hcq).1 hTq)
        clear hTq
        gi_wp2_with (gi_at_lookup; (refine wpi_look_ok _ rfl _ _ 89 rfl 3 Try.underlying89 (zeroInt _) Bm N M rfl HM.out (q : Int) rfl hwf (.int .i64 0) false (by rw [hMq]; rfl) (by rw [hMq]; rfl) ?_))
        go_ret
        exact ⟨by rw [hhd.out, ← hhq.out, hroot.out]; rfl, rfl⟩
      | some q2 =>
        have hMq : (M (q : Int)) = some (.int .i64 (q2 : Int)) := by rw [HT.out, hTq]; rfl
        obtain ⟨g1, g2, g3⟩ := HS.out.next q q2 hq hcq hTq
        have hlt := Hst.out q q2 hq hcq hTq
        have g3' := hid (g3.trans hhq.out)
        clear hTq g3
        gi_wp2_with (gi_at_lookup; (refine wpi_look_ok _ rfl _ _ 89 rfl 3 Try.underlying89 (zeroInt _) Bm N M rfl HM.out (q : Int) rfl hwf (.int .i64 (q2 : Int)) true (by rw [hMq]; rfl) (by rw [hMq]; rfl) ?_))
        exact ⟨⟨q2, rfl, g1, g2, g3', by first | rfl | trivial⟩, by simpa [intOf] using hlt⟩

end Go.Proofs.Ytloealnfbpegnab

namespace Go.Proofs.Ytloealnfbpegnab
open Go.Proofs Go.RowKit Go.Shelf

namespace Wb
abbrev Sb := Int → List Int
def App (θ : Sb) (t : List Int) : List Int := t.flatMap fun s => if s < 0 then θ s else [s]
/-- Each variable becomes a term. -/
def TermSb (θ : Sb) : Prop := ∀ s, s < 0 → Tm.run (θ s) 1 = (θ s).length
theorem App_nil (θ : Sb) : App θ [] = [] := rfl
theorem App_cons (θ : Sb) (s : Int) (l : List Int) : App θ (s :: l) = (if s < 0 then θ s else [s]) ++ App θ l := by simp [App]
theorem App_append (θ : Sb) (l r : List Int) : App θ (l ++ r) = App θ l ++ App θ r := by simp [App]
theorem App_flatten (θ : Sb) (l : List (List Int)) : App θ l.flatten = (l.map (App θ)).flatten := by
  induction l with
  | nil => rfl
  | cons x l ih => rw [List.flatten_cons, App_append, ih, List.map_cons, List.flatten_cons]
theorem room_var {s : Int} (h : s < 0) : Tm.room s = 0 := by unfold Tm.room; rw [if_neg (by omega), if_neg (by omega)]
theorem App_run {θ : Sb} (hθ : TermSb θ) : ∀ (t : List Int) (n : Nat), Tm.run t n = t.length → Tm.run (App θ t) n = (App θ t).length := by
  intro t
  induction t with
  | nil => intro n hr; rw [Tm.run_nil] at hr; subst hr; rw [List.length_nil, Tm.run_zero]; rfl
  | cons s l ih =>
    intro n hr
    cases n with
    | zero => rw [Tm.run_zero, List.length_cons] at hr; omega
    | succ n =>
      rw [Tm.run_cons, List.length_cons] at hr
      rw [App_cons]
      by_cases hs : s < 0
      · rw [room_var hs, Nat.add_zero] at hr
        rw [if_pos hs, show n + 1 = 1 + n from by omega, Tm.run_add, Tm.run_app _ _ 1 (by rw [hθ s hs]; omega), hθ s hs, List.drop_left, ih n (by omega), List.length_append]
      · rw [if_neg hs, List.singleton_append, Tm.run_cons, List.length_cons, ih _ (by omega)]
        omega

/-- What stands at a place; the places of its parts. -/
def cont (zs : List Int) (p : Nat) : List Int := Tm.part zs p
def kids (zs : List Int) (p : Nat) : List Nat := (List.range (Tm.room (sg zs p))).map (Tm.pos zs p)
theorem kids_length (zs : List Int) (p : Nat) : (kids zs p).length = Tm.room (sg zs p) := by simp [kids]
theorem pos_end {zs : List Int} {p : Nat} (hp : p < zs.length) : Tm.endAt zs p = Tm.pos zs p (Tm.room (sg zs p)) := Tm.endAt_in zs p hp
theorem pos_lt {zs : List Int} (k : Nat) {i j : Nat} (h : i < j) : Tm.pos zs k i < Tm.pos zs k j := by
  have h1 := Tm.pos_mono zs k (i + 1) j h
  have h2 := Tm.pos_succ zs k i
  have h3 := Tm.endAt_gt zs (Tm.pos zs k i)
  omega
theorem kid_lt {zs : List Int} (G : Good zs) {p i : Nat} (hp : p < zs.length) (hi : i < Tm.room (sg zs p)) : Tm.pos zs p i < zs.length := by
  have h1 := G.ends p hp
  rw [pos_end hp] at h1
  have := pos_lt (zs := zs) p hi
  omega
theorem kids_flat {zs : List Int} {p : Nat} : ∀ m, Tm.pos zs p m ≤ zs.length → (zs.drop (p + 1)).take (Tm.pos zs p m - (p + 1)) = (((List.range m).map (Tm.pos zs p)).map (cont zs)).flatten := by
  intro m
  induction m with
  | zero => intro _; rw [Tm.pos_zero]; simp
  | succ m ih =>
    intro h
    have h1 := Tm.pos_succ zs p m
    have h2 := Tm.pos_gt zs p m
    have h3 := Tm.endAt_gt zs (Tm.pos zs p m)
    rw [List.range_succ, List.map_append, List.map_append, List.flatten_append, ← ih (by omega)]
    simp only [List.map_cons, List.map_nil, List.flatten_cons, List.flatten_nil, List.append_nil]
    unfold cont Tm.part
    rw [h1, show Tm.endAt zs (Tm.pos zs p m) - (p + 1) = (Tm.pos zs p m - (p + 1)) + (Tm.endAt zs (Tm.pos zs p m) - Tm.pos zs p m) from by omega, List.take_add, List.drop_drop, show p + 1 + (Tm.pos zs p m - (p + 1)) = Tm.pos zs p m from by omega]
theorem cont_eq {zs : List Int} (G : Good zs) {p : Nat} (hp : p < zs.length) : cont zs p = sg zs p :: ((kids zs p).map (cont zs)).flatten := by
  have h1 := G.ends p hp
  have h2 := Tm.endAt_gt zs p
  rw [show ((kids zs p).map (cont zs)).flatten = (zs.drop (p + 1)).take (Tm.pos zs p (Tm.room (sg zs p)) - (p + 1)) from (kids_flat _ (by rw [← pos_end hp]; exact h1)).symm, ← pos_end hp]
  unfold cont Tm.part
  rw [show Tm.endAt zs p - p = (Tm.endAt zs p - (p + 1)) + 1 from by omega, List.drop_eq_getElem_cons hp, List.take_succ_cons]
  congr 1
  simp [sg, hp]
theorem cont_run {zs : List Int} (G : Good zs) {p : Nat} (hp : p < zs.length) : Tm.run (cont zs p) 1 = (cont zs p).length := by
  have h1 := G.ends p hp
  unfold Tm.endAt at h1
  have hl : Tm.run (zs.drop p) 1 ≤ (zs.drop p).length := by rw [List.length_drop]; omega
  have := Tm.run_take (zs.drop p) 1 hl
  unfold cont Tm.part Tm.endAt
  rw [show p + Tm.run (zs.drop p) 1 - p = Tm.run (zs.drop p) 1 from by omega, this, List.length_take]
  omega
theorem cont_var {zs : List Int} (G : Good zs) {p : Nat} (hp : p < zs.length) (hs : sg zs p < 0) : cont zs p = [sg zs p] := by
  rw [cont_eq G hp, show kids zs p = [] from by unfold kids; rw [room_var hs]; rfl]; rfl
theorem cont_can {zs : List Int} (G : Good zs) {p : Nat} (hp : p < zs.length) : cont zs (can zs p) = cont zs p := by
  by_cases hs : sg zs p < 0
  · rw [cont_var G hp hs, cont_var G (can_lt G hp) (by rw [sg_can G hp]; exact hs), sg_can G hp]
  · rw [can_pos (by omega)]

theorem flatten_inj : ∀ (l l' : List (List Int)), (∀ x ∈ l, Tm.run x 1 = x.length) → (∀ x ∈ l', Tm.run x 1 = x.length) → l.length = l'.length → l.flatten = l'.flatten → l = l' := by
  intro l
  induction l with
  | nil => intro l' _ _ h _; cases l' with
    | nil => rfl
    | cons x l' => simp at h
  | cons x l ih =>
    intro l' h1 h2 h3 h4
    cases l' with
    | nil => simp at h3
    | cons y l' =>
      rw [List.flatten_cons, List.flatten_cons] at h4
      have hx := h1 x (by simp)
      have hy := h2 y (by simp)
      have e1 := Tm.run_app x l.flatten 1 (by omega)
      have e2 := Tm.run_app y l'.flatten 1 (by omega)
      rw [h4, e2] at e1
      obtain ⟨a, b⟩ := List.append_inj h4 (by omega)
      subst a
      rw [ih l' (fun z hz => h1 z (by simp [hz])) (fun z hz => h2 z (by simp [hz])) (by simpa using h3) b]

theorem App_cont {zs : List Int} (G : Good zs) (θ : Sb) {p : Nat} (hp : p < zs.length) (hs : 0 ≤ sg zs p) : App θ (cont zs p) = sg zs p :: ((kids zs p).map fun k => App θ (cont zs k)).flatten := by
  rw [cont_eq G hp, App_cons, if_neg (by omega), App_flatten, List.map_map]
  rfl
theorem kids_get {zs : List Int} {p i : Nat} (hi : i < Tm.room (sg zs p)) : (kids zs p)[i]? = some (Tm.pos zs p i) := by simp [kids, hi]
/-- What becomes the same of two symbols has the same symbol, and parts that become the same. -/
theorem kids_eq {zs : List Int} (G : Good zs) {θ : Sb} (hθ : TermSb θ) {p q : Nat} (hp : p < zs.length) (hq : q < zs.length) (sp : 0 ≤ sg zs p) (sq : 0 ≤ sg zs q) (h : App θ (cont zs p) = App θ (cont zs q)) :
    sg zs p = sg zs q ∧ ∀ i, i < Tm.room (sg zs p) → App θ (cont zs (Tm.pos zs p i)) = App θ (cont zs (Tm.pos zs q i)) := by
  rw [App_cont G θ hp sp, App_cont G θ hq sq] at h
  obtain ⟨e, h2⟩ := List.cons.inj h
  have hrun : ∀ r, r < zs.length → ∀ x ∈ (kids zs r).map (fun k => App θ (cont zs k)), Tm.run x 1 = x.length := fun r hr x hx => by
    rw [List.mem_map] at hx
    obtain ⟨k, hk, rfl⟩ := hx
    unfold kids at hk
    rw [List.mem_map] at hk
    obtain ⟨i, hi, rfl⟩ := hk
    exact App_run hθ _ 1 (cont_run G (kid_lt G hr (List.mem_range.1 hi)))
  have h3 := flatten_inj _ _ (hrun p hp) (hrun q hq) (by simp [kids, e]) h2
  refine ⟨e, fun i hi => ?_⟩
  have h4 := congrArg (fun l => l[i]?) h3
  simp only [List.getElem?_map] at h4
  rw [kids_get hi, kids_get (by rw [← e]; exact hi)] at h4
  simpa using h4
theorem kids_make {zs : List Int} (G : Good zs) (θ : Sb) {p q : Nat} (hp : p < zs.length) (hq : q < zs.length) (sp : 0 ≤ sg zs p) (e : sg zs p = sg zs q) (h : ∀ i, i < Tm.room (sg zs p) → App θ (cont zs (Tm.pos zs p i)) = App θ (cont zs (Tm.pos zs q i))) :
    App θ (cont zs p) = App θ (cont zs q) := by
  rw [App_cont G θ hp sp, App_cont G θ hq (by omega), e]
  congr 2
  unfold kids
  rw [← e, List.map_map, List.map_map]
  exact List.map_congr_left fun i hi => h i (List.mem_range.1 hi)

/-- What a list makes the same of all that is tied. -/
def Resp (zs : List Int) (h : Nat → Nat) (θ : Sb) : Prop := ∀ p, p < zs.length → can zs p = p → App θ (cont zs p) = App θ (cont zs (h p))
theorem Resp.hd {zs : List Int} (G : Good zs) {h : Nat → Nat} {θ : Sb} (R : Resp zs h θ) {p : Nat} (hp : p < zs.length) : App θ (cont zs p) = App θ (cont zs (hd zs h p)) := by
  rw [← cont_can G hp]
  exact R _ (can_lt G hp) (can_can G hp)
/-- What is the same by ties and by pairs. -/
inductive Eqv (zs : List Int) (h : Nat → Nat) (P : List (Nat × Nat)) : Nat → Nat → Prop
  | base (p q : Nat) : p < zs.length → q < zs.length → hd zs h p = hd zs h q → Eqv zs h P p q
  | pair (p q : Nat) : (p, q) ∈ P → Eqv zs h P p q
  | symm (p q : Nat) : Eqv zs h P p q → Eqv zs h P q p
  | trans (p q r : Nat) : Eqv zs h P p q → Eqv zs h P q r → Eqv zs h P p r
def Closed (zs : List Int) (h : Nat → Nat) (P : List (Nat × Nat)) : Prop :=
  ∀ p q, p < zs.length → q < zs.length → 0 ≤ sg zs p → 0 ≤ sg zs q → h p = h q → sg zs p = sg zs q ∧ ∀ i, i < Tm.room (sg zs p) → Eqv zs h P (Tm.pos zs p i) (Tm.pos zs q i)
theorem Eqv.move {zs : List Int} {h h' : Nat → Nat} {P P' : List (Nat × Nat)} (hc : ∀ p q, p < zs.length → q < zs.length → hd zs h p = hd zs h q → hd zs h' p = hd zs h' q) (hP : ∀ p q, (p, q) ∈ P → Eqv zs h' P' p q) {p q : Nat} (e : Eqv zs h P p q) : Eqv zs h' P' p q := by
  induction e with
  | base p q h1 h2 h3 => exact .base p q h1 h2 (hc p q h1 h2 h3)
  | pair p q h1 => exact hP p q h1
  | symm p q _ ih => exact .symm _ _ ih
  | trans p q r _ _ i1 i2 => exact .trans _ _ _ i1 i2

/-- What tying pairs has done. -/
structure TieL (zs : List Int) (h h' : Nat → Nat) (ps : List (Nat × Nat)) : Prop where
  coarse : ∀ p q, p < zs.length → q < zs.length → hd zs h p = hd zs h q → hd zs h' p = hd zs h' q
  sound : ∀ θ, TermSb θ → Resp zs h θ → (∀ p q, (p, q) ∈ ps → App θ (cont zs p) = App θ (cont zs q)) → Resp zs h' θ
  tied : ∀ p q, (p, q) ∈ ps → hd zs h' p = hd zs h' q
  close : ∀ P, Closed zs h (ps ++ P) → Closed zs h' P
theorem TieL.nil (zs : List Int) (h : Nat → Nat) : TieL zs h h [] := ⟨fun _ _ _ _ h => h, fun _ _ R _ => R, fun p q h => by simp at h, fun _ h => h⟩
theorem TieL.snoc {zs : List Int} {h h1 h2 : Nat → Nat} {ps : List (Nat × Nat)} {a b : Nat} (A : TieL zs h h1 ps) (B : TieL zs h1 h2 [(a, b)]) (hps : ∀ p q, (p, q) ∈ ps → p < zs.length ∧ q < zs.length) : TieL zs h h2 (ps ++ [(a, b)]) := by
  refine ⟨fun p q hp hq e => B.coarse p q hp hq (A.coarse p q hp hq e), fun θ hθ R hq => ?_, fun p q hm => ?_, fun P hC => ?_⟩
  · exact B.sound θ hθ (A.sound θ hθ R fun p q hm => hq p q (List.mem_append_left _ hm)) fun p q hm => hq p q (List.mem_append_right _ hm)
  · rcases List.mem_append.1 hm with hm | hm
    · exact B.coarse p q (hps p q hm).1 (hps p q hm).2 (A.tied p q hm)
    · exact B.tied p q hm
  · exact B.close P (A.close ([(a, b)] ++ P) (by rw [← List.append_assoc]; exact hC))

theorem TieL.same {zs : List Int} {h : Nat → Nat} {a b : Nat} (ha : a < zs.length) (hb : b < zs.length) (e : hd zs h a = hd zs h b) : TieL zs h h [(a, b)] := by
  refine ⟨fun _ _ _ _ h => h, fun _ _ R _ => R, fun p q hm => by simp at hm; obtain ⟨rfl, rfl⟩ := hm; exact e, fun P hC p q hp hq sp sq ep => ?_⟩
  obtain ⟨e1, e2⟩ := hC p q hp hq sp sq ep
  refine ⟨e1, fun i hi => (e2 i hi).move (fun _ _ _ _ h => h) fun x y hm => ?_⟩
  simp at hm
  rcases hm with ⟨rfl, rfl⟩ | hm
  · exact .base _ _ ha hb e
  · exact .pair _ _ hm
end Wb

end Go.Proofs.Ytloealnfbpegnab

namespace Go.Proofs.Ytloealnfbpegnab
open Go.Proofs Go.RowKit Go.Shelf

namespace Wb
theorem hd_mg (zs : List Int) (h : Nat → Nat) (o n p : Nat) : hd zs (mg h o n) p = if hd zs h p = o then n else hd zs h p := rfl
theorem mg_coarse (zs : List Int) (h : Nat → Nat) (o n : Nat) : ∀ p q, p < zs.length → q < zs.length → hd zs h p = hd zs h q → hd zs (mg h o n) p = hd zs (mg h o n) q := fun p q _ _ e => by rw [hd_mg, hd_mg, e]
/-- o and n stand for a and b, one for each. -/
def Ends (zs : List Int) (h : Nat → Nat) (a b o n : Nat) : Prop := (hd zs h a = n ∧ hd zs h b = o) ∨ (hd zs h a = o ∧ hd zs h b = n)
theorem Ends.tied {zs : List Int} {h : Nat → Nat} {a b o n : Nat} (E : Ends zs h a b o n) (hne : o ≠ n) : hd zs (mg h o n) a = hd zs (mg h o n) b := by
  rw [hd_mg, hd_mg]
  rcases E with ⟨e1, e2⟩ | ⟨e1, e2⟩
  · rw [e1, e2, if_pos rfl, if_neg (fun e => hne e.symm)]
  · rw [e1, e2, if_pos rfl, if_neg (fun e => hne e.symm)]
theorem Ends.app {zs : List Int} (G : Good zs) {h : Nat → Nat} {a b o n : Nat} (E : Ends zs h a b o n) (ha : a < zs.length) (hb : b < zs.length) {θ : Sb} (R : Resp zs h θ) (e : App θ (cont zs a) = App θ (cont zs b)) : App θ (cont zs o) = App θ (cont zs n) := by
  have h1 := R.hd G ha
  have h2 := R.hd G hb
  rcases E with ⟨e1, e2⟩ | ⟨e1, e2⟩
  · rw [e1] at h1; rw [e2] at h2; rw [← h2, ← h1, e]
  · rw [e1] at h1; rw [e2] at h2; rw [← h1, ← h2, e]
theorem Resp.mg {zs : List Int} {h : Nat → Nat} {o n : Nat} {θ : Sb} (R : Resp zs h θ) (e : App θ (cont zs o) = App θ (cont zs n)) : Resp zs (mg h o n) θ := fun p hp cp => by
  have := R p hp cp
  unfold Wb.mg
  by_cases ep : h p = o
  · rw [if_pos ep, this, ep, e]
  · rw [if_neg ep, this]
/-- A variable is tied. -/
theorem TieL.var {zs : List Int} (G : Good zs) {T : Nat → Option Nat} {h : Nat → Nat} (S : St zs T h) {a b o n : Nat} (ha : a < zs.length) (hb : b < zs.length) (E : Ends zs h a b o n) (hne : o ≠ n) (ov : sg zs o < 0) : TieL zs h (Wb.mg h o n) [(a, b)] := by
  refine ⟨mg_coarse zs h o n, fun θ _ R hq => R.mg (E.app G ha hb R (hq a b (by simp))), fun p q hm => by simp at hm; obtain ⟨rfl, rfl⟩ := hm; exact E.tied hne, fun P hC p q hp hq sp sq e => ?_⟩
  have hno : ∀ x, x < zs.length → 0 ≤ sg zs x → h x ≠ o := fun x hx sx ex => by
    have := S.up x hx (can_pos sx)
    rw [ex] at this
    omega
  have e' : h p = h q := by
    unfold Wb.mg at e
    rw [if_neg (hno p hp sp), if_neg (hno q hq sq)] at e
    exact e
  obtain ⟨e1, e2⟩ := hC p q hp hq sp sq e'
  refine ⟨e1, fun i hi => (e2 i hi).move (mg_coarse zs h o n) fun x y hm => ?_⟩
  simp at hm
  rcases hm with ⟨rfl, rfl⟩ | hm
  · exact .base _ _ ha hb (E.tied hne)
  · exact .pair _ _ hm
/-- The parts of two places, one against the other. -/
def pairsTo (zs : List Int) (n o : Nat) (m : Nat) : List (Nat × Nat) := (List.range m).map fun i => (Tm.pos zs n i, Tm.pos zs o i)
theorem pairsTo_succ (zs : List Int) (n o m : Nat) : pairsTo zs n o (m + 1) = pairsTo zs n o m ++ [(Tm.pos zs n m, Tm.pos zs o m)] := by simp [pairsTo, List.range_succ]
theorem mem_pairsTo {zs : List Int} {n o m p q : Nat} (h : (p, q) ∈ pairsTo zs n o m) : ∃ i, i < m ∧ p = Tm.pos zs n i ∧ q = Tm.pos zs o i := by
  unfold pairsTo at h
  rw [List.mem_map] at h
  obtain ⟨i, hi, e⟩ := h
  cases e
  exact ⟨i, List.mem_range.1 hi, rfl, rfl⟩
theorem pairsTo_mem {zs : List Int} {n o m i : Nat} (h : i < m) : (Tm.pos zs n i, Tm.pos zs o i) ∈ pairsTo zs n o m := by
  unfold pairsTo
  rw [List.mem_map]
  exact ⟨i, List.mem_range.2 h, rfl⟩
/-- Two symbols are tied, and their parts behind that. -/
theorem TieL.sym {zs : List Int} (G : Good zs) {h h2 : Nat → Nat} {a b o n : Nat} (ha : a < zs.length) (hb : b < zs.length) (E : Ends zs h a b o n) (hne : o ≠ n) (ho : o < zs.length) (hn : n < zs.length) (ro : h o = o) (rn : h n = n) (so : 0 ≤ sg zs o)
    (es : sg zs o = sg zs n) (K : TieL zs (Wb.mg h o n) h2 (pairsTo zs n o (Tm.room (sg zs n)))) : TieL zs h h2 [(a, b)] := by
  refine ⟨fun p q hp hq e => K.coarse p q hp hq (mg_coarse zs h o n p q hp hq e), fun θ hθ R hq => ?_, fun p q hm => by simp at hm; obtain ⟨rfl, rfl⟩ := hm; exact K.coarse _ _ ha hb (E.tied hne), fun P hC => K.close P fun p q hp hq sp sq e => ?_⟩
  · have e := E.app G ha hb R (hq a b (by simp))
    refine K.sound θ hθ (R.mg e) fun p q hm => ?_
    obtain ⟨i, hi, rfl, rfl⟩ := mem_pairsTo hm
    exact (kids_eq G hθ hn ho (by omega) so e.symm).2 i hi
  · have mv : ∀ x y, Eqv zs h ([(a, b)] ++ P) x y → Eqv zs (Wb.mg h o n) (pairsTo zs n o (Tm.room (sg zs n)) ++ P) x y := fun x y hxy => hxy.move (mg_coarse zs h o n) fun u v hm => by
      simp at hm
      rcases hm with ⟨rfl, rfl⟩ | hm
      · exact .base _ _ ha hb (E.tied hne)
      · exact .pair _ _ (List.mem_append_right _ hm)
    have on : ∀ i, i < Tm.room (sg zs n) → Eqv zs (Wb.mg h o n) (pairsTo zs n o (Tm.room (sg zs n)) ++ P) (Tm.pos zs o i) (Tm.pos zs n i) := fun i hi => .symm _ _ (.pair _ _ (List.mem_append_left _ (pairsTo_mem hi)))
    have cross : ∀ x y, x < zs.length → y < zs.length → 0 ≤ sg zs x → 0 ≤ sg zs y → h x = o → h y = n → sg zs x = sg zs y ∧ ∀ i, i < Tm.room (sg zs x) → Eqv zs (Wb.mg h o n) (pairsTo zs n o (Tm.room (sg zs n)) ++ P) (Tm.pos zs x i) (Tm.pos zs y i) := fun x y hx hy sx sy ex ey => by
      obtain ⟨e1, e2⟩ := hC x o hx ho sx so (by rw [ex, ro])
      obtain ⟨e3, e4⟩ := hC y n hy hn sy (by omega) (by rw [ey, rn])
      refine ⟨by omega, fun i hi => ?_⟩
      exact .trans _ _ _ (mv _ _ (e2 i hi)) (.trans _ _ _ (on i (by rw [← es, ← e1]; exact hi)) (.symm _ _ (mv _ _ (e4 i (by rw [e3, ← es, ← e1]; exact hi)))))
    have same : h p = h q → sg zs p = sg zs q ∧ ∀ i, i < Tm.room (sg zs p) → Eqv zs (Wb.mg h o n) (pairsTo zs n o (Tm.room (sg zs n)) ++ P) (Tm.pos zs p i) (Tm.pos zs q i) := fun e' => by
      obtain ⟨e1, e2⟩ := hC p q hp hq sp sq e'
      exact ⟨e1, fun i hi => mv _ _ (e2 i hi)⟩
    unfold Wb.mg at e
    by_cases ep : h p = o
    · by_cases eq : h q = o
      · exact same (by rw [ep, eq])
      · rw [if_pos ep, if_neg eq] at e
        exact cross p q hp hq sp sq ep e.symm
    · by_cases eq : h q = o
      · rw [if_neg ep, if_pos eq] at e
        obtain ⟨e1, e2⟩ := cross q p hq hp sq sp eq e
        exact ⟨e1.symm, fun i hi => .symm _ _ (e2 i (by rw [e1]; exact hi))⟩
      · rw [if_neg ep, if_neg eq] at e
        exact same e

/-- Nothing that respects the ties makes them the same. -/
def No (zs : List Int) (h : Nat → Nat) (ps : List (Nat × Nat)) : Prop := ∀ θ, TermSb θ → Resp zs h θ → (∀ p q, (p, q) ∈ ps → App θ (cont zs p) = App θ (cont zs q)) → False
theorem No.clash {zs : List Int} (G : Good zs) {h : Nat → Nat} {a b o n : Nat} (ha : a < zs.length) (hb : b < zs.length) (E : Ends zs h a b o n) (ho : o < zs.length) (hn : n < zs.length) (so : 0 ≤ sg zs o) (sn : 0 ≤ sg zs n) (es : sg zs o ≠ sg zs n) : No zs h [(a, b)] := fun θ hθ R hq =>
  es (kids_eq G hθ ho hn so sn (E.app G ha hb R (hq a b (by simp)))).1
theorem No.sym {zs : List Int} (G : Good zs) {h : Nat → Nat} {a b o n : Nat} (ha : a < zs.length) (hb : b < zs.length) (E : Ends zs h a b o n) (ho : o < zs.length) (hn : n < zs.length) (so : 0 ≤ sg zs o) (sn : 0 ≤ sg zs n)
    (K : No zs (Wb.mg h o n) (pairsTo zs n o (Tm.room (sg zs n)))) : No zs h [(a, b)] := fun θ hθ R hq => by
  have e := E.app G ha hb R (hq a b (by simp))
  refine K θ hθ (R.mg e) fun p q hm => ?_
  obtain ⟨i, hi, rfl, rfl⟩ := mem_pairsTo hm
  exact (kids_eq G hθ hn ho sn so e.symm).2 i hi
theorem No.later {zs : List Int} {h h1 : Nat → Nat} {ps qs rs : List (Nat × Nat)} (A : TieL zs h h1 ps) (B : No zs h1 qs) (hs : ∀ x, x ∈ ps → x ∈ rs) (ht : ∀ x, x ∈ qs → x ∈ rs) : No zs h rs := fun θ hθ R hq =>
  B θ hθ (A.sound θ hθ R fun p q hm => hq p q (hs _ hm)) fun p q hm => hq p q (ht _ hm)
end Wb

end Go.Proofs.Ytloealnfbpegnab

namespace Go.Proofs.Ytloealnfbpegnab
open Go.Proofs Go.RowKit Go.Shelf Go.Maps

abbrev Asg := Int → Option (List Int)
/-- From place k of t on, against the signs that are left. -/
def Tm.fitGo (t : List Int) : List Int → Nat → Asg → Option Asg
  | [], _, m => some m
  | s :: p, k, m => if s < 0 then (if (m s).isSome = true ∧ m s ≠ some (Tm.part t k) then none else Tm.fitGo t p (Tm.endAt t k) (upd m s (Tm.part t k))) else if t[k]?.getD 0 = s then Tm.fitGo t p (k + 1) m else none
def Tm.fit (p t : List Int) : Option Asg := Tm.fitGo t p 0 (fun _ => none)

theorem Tm.fitGo_nil (t : List Int) (k : Nat) (m : Asg) : Tm.fitGo t [] k m = some m := rfl
theorem Tm.fitGo_new {t p : List Int} {i k : Nat} {m : Asg} (hi : i < p.length) (hs : p[i]?.getD 0 < 0) (hm : m (p[i]?.getD 0) = none) : Tm.fitGo t (p.drop i) k m = Tm.fitGo t (p.drop (i + 1)) (Tm.endAt t k) (upd m (p[i]?.getD 0) (Tm.part t k)) := by
  rw [List.drop_eq_getElem_cons hi, Tm.fitGo]
  simp only [hi, List.getElem?_eq_getElem, Option.getD_some] at hs hm ⊢
  rw [if_pos hs, hm, if_neg (by simp)]
theorem Tm.fitGo_old {t p : List Int} {i k : Nat} {m : Asg} (hi : i < p.length) (hs : p[i]?.getD 0 < 0) (hm : m (p[i]?.getD 0) = some (Tm.part t k)) : Tm.fitGo t (p.drop i) k m = Tm.fitGo t (p.drop (i + 1)) (Tm.endAt t k) (upd m (p[i]?.getD 0) (Tm.part t k)) := by
  rw [List.drop_eq_getElem_cons hi, Tm.fitGo]
  simp only [hi, List.getElem?_eq_getElem, Option.getD_some] at hs hm ⊢
  rw [if_pos hs, if_neg (by simp [hm])]
theorem Tm.fitGo_clash {t p : List Int} {i k : Nat} {m : Asg} {zs : List Int} (hi : i < p.length) (hs : p[i]?.getD 0 < 0) (hm : m (p[i]?.getD 0) = some zs) (hne : zs ≠ Tm.part t k) : Tm.fitGo t (p.drop i) k m = none := by
  rw [List.drop_eq_getElem_cons hi, Tm.fitGo]
  simp only [hi, List.getElem?_eq_getElem, Option.getD_some] at hs hm ⊢
  rw [if_pos hs, if_pos (by simp [hm, hne])]
theorem Tm.fitGo_sym {t p : List Int} {i k : Nat} {m : Asg} (hi : i < p.length) (hs : ¬ p[i]?.getD 0 < 0) (he : t[k]?.getD 0 = p[i]?.getD 0) : Tm.fitGo t (p.drop i) k m = Tm.fitGo t (p.drop (i + 1)) (k + 1) m := by
  rw [List.drop_eq_getElem_cons hi, Tm.fitGo]
  simp only [hi, List.getElem?_eq_getElem, Option.getD_some] at hs he ⊢
  rw [if_neg hs, if_pos he]
theorem Tm.fitGo_other {t p : List Int} {i k : Nat} {m : Asg} (hi : i < p.length) (hs : ¬ p[i]?.getD 0 < 0) (he : t[k]?.getD 0 ≠ p[i]?.getD 0) : Tm.fitGo t (p.drop i) k m = none := by
  rw [List.drop_eq_getElem_cons hi, Tm.fitGo]
  simp only [hi, List.getElem?_eq_getElem, Option.getD_some] at hs he ⊢
  rw [if_neg hs, if_neg he]

/-- As many terms are left of p as of t. -/
def Against (p t : List Int) (i k : Nat) : Prop := ∃ o, Tm.run (p.drop i) o = p.length - i ∧ Tm.run (t.drop k) o = t.length - k ∧ i ≤ p.length ∧ k ≤ t.length
theorem Against.start {p t : List Int} (hp : Tm.err p = 0) (ht : Tm.err t = 0) : Against p t 0 0 := ⟨1, by simpa using Tm.err_run hp, by simpa using Tm.err_run ht, by omega, by omega⟩
theorem Against.pos {p t : List Int} {i k : Nat} (h : Against p t i k) (hi : i < p.length) : k < t.length := by
  obtain ⟨o, h1, h2, h3, h4⟩ := h
  have ho : o ≠ 0 := by rintro rfl; rw [Tm.run_zero] at h1; omega
  have := Tm.run_ge (t.drop k) o
  omega
theorem Tm.room_neg {s : Int} (h : s < 0) : Tm.room s = 0 := by unfold Tm.room; rw [if_neg (by omega), if_neg (by omega)]
theorem Against.var {p t : List Int} {i k : Nat} (h : Against p t i k) (hi : i < p.length) (hs : p[i]?.getD 0 < 0) : Against p t (i + 1) (Tm.endAt t k) := by
  have hk := h.pos hi
  obtain ⟨o, h1, h2, h3, h4⟩ := h
  have ho : o ≠ 0 := by rintro rfl; rw [Tm.run_zero] at h1; omega
  obtain ⟨o, rfl⟩ : ∃ o', o = o' + 1 := ⟨o - 1, by omega⟩
  rw [Tm.run_step hi, Tm.room_neg hs] at h1
  rw [Nat.add_comm o 1, Tm.run_add] at h2
  have hle : Tm.endAt t k ≤ t.length := by
    rw [show Tm.endAt t k = k + Tm.run (t.drop k) 1 from rfl]
    omega
  refine ⟨o, by simpa using (by omega : Tm.run (p.drop (i + 1)) (o + 0) = p.length - (i + 1)), ?_, by omega, hle⟩
  rw [List.drop_drop] at h2
  rw [show Tm.endAt t k = k + Tm.run (t.drop k) 1 from rfl] at hle ⊢
  omega
theorem Against.sym {p t : List Int} {i k : Nat} (h : Against p t i k) (hi : i < p.length) (he : t[k]?.getD 0 = p[i]?.getD 0) : Against p t (i + 1) (k + 1) := by
  have hk := h.pos hi
  obtain ⟨o, h1, h2, h3, h4⟩ := h
  have ho : o ≠ 0 := by rintro rfl; rw [Tm.run_zero] at h1; omega
  obtain ⟨o, rfl⟩ : ∃ o', o = o' + 1 := ⟨o - 1, by omega⟩
  rw [Tm.run_step hi] at h1
  rw [Tm.run_step hk, he] at h2
  exact ⟨o + Tm.room (p[i]?.getD 0), by omega, by omega, by omega, by omega⟩
theorem Against.endAt_le {p t : List Int} {i k : Nat} (h : Against p t i k) (hi : i < p.length) : Tm.endAt t k ≤ t.length := by
  obtain ⟨o, h1, h2, h3, h4⟩ := h
  have ho : o ≠ 0 := by rintro rfl; rw [Tm.run_zero] at h1; omega
  obtain ⟨o, rfl⟩ : ∃ o', o = o' + 1 := ⟨o - 1, by omega⟩
  rw [Nat.add_comm o 1, Tm.run_add] at h2
  rw [show Tm.endAt t k = k + Tm.run (t.drop k) 1 from rfl]
  omega

/-- A value that is a slice which reads zs, all below block n. -/
def Reads (n : Nat) (W : World) (v : Value) (zs : List Int) : Prop := ∃ b off c, v = .slice (some ⟨b, off, none⟩) zs.length c ∧ Ints n W (some ⟨b, off, none⟩) zs ∧ zs.length ≤ c ∧ c ≤ maxLen ∧ zs.length ≤ 30
theorem Reads.below {n : Nat} {W W' : World} {v : Value} {zs : List Int} (h : Reads n W v zs) (hB : Below n W W') : Reads n W' v zs := by
  obtain ⟨b, off, c, rfl, hI, h1⟩ := h
  exact ⟨b, off, c, rfl, hI.below hB, h1⟩
/-- BLOCK bm IS THE MAP OF WHAT VARIABLES BECOME. -/
def FitAt (n : Nat) (W : World) (bm N : Nat) (m : Asg) : Prop := ∃ M, IntMap W bm N M ∧ (∀ s, m s = none → M s = none) ∧ ∀ s zs, m s = some zs → ∃ v, M s = some v ∧ Reads n W v zs
theorem FitAt.upd {n : Nat} {W W' : World} {bm N : Nat} {m : Asg} {s : Int} {v : Value} {zs : List Int} {M : Int → Option Value} (h1 : ∀ s, m s = none → M s = none) (h2 : ∀ s zs, m s = some zs → ∃ v, M s = some v ∧ Reads n W v zs)
    (h3 : IntMap W' bm N (upd M s v)) (hB : Below n W W') (hv : Reads n W v zs) : FitAt n W' bm N (upd m s zs) := by
  refine ⟨_, h3, fun x hx => ?_, fun x ys hx => ?_⟩
  · by_cases e : x = s
    · subst e; rw [upd_same] at hx; cases hx
    · rw [upd_other _ _ e] at hx ⊢; exact h1 x hx
  · by_cases e : x = s
    · subst e; rw [upd_same] at hx; cases hx; exact ⟨v, upd_same _ _ _, hv.below hB⟩
    · rw [upd_other _ _ e] at hx
      obtain ⟨u, hu, hr⟩ := h2 x ys hx
      exact ⟨u, by rw [upd_other _ _ e]; exact hu, hr.below hB⟩

/-- What comes: what has been found for the first k variables; all others become themselves. -/
def Tm.fitL (m : Asg) (k : Nat) : List (List Int) := (List.range 8).map fun i : Nat => if i < k then (m (-1 - (i : Int))).getD [-1 - (i : Int)] else [-1 - (i : Int)]
theorem Tm.fitL_length (m : Asg) (k : Nat) : (Tm.fitL m k).length = 8 := by simp [Tm.fitL]
theorem Tm.fitL_zero (m : Asg) : Tm.fitL m 0 = Tm.noneL 8 := by simp [Tm.fitL, Tm.noneL]
theorem Tm.fitL_none {m : Asg} {k : Nat} (h : m (-1 - (k : Int)) = none) : Tm.fitL m (k + 1) = Tm.fitL m k := by
  unfold Tm.fitL
  refine List.map_congr_left fun i _ => ?_
  by_cases e : i = k
  · subst e; rw [if_pos (by omega), if_neg (by omega), h]; rfl
  · by_cases hl : i < k
    · rw [if_pos (by omega), if_pos hl]
    · rw [if_neg (by omega), if_neg hl]
theorem Tm.fitL_some {m : Asg} {k : Nat} {zs : List Int} (h : m (-1 - (k : Int)) = some zs) : Tm.fitL m (k + 1) = (Tm.fitL m k).set k zs := by
  refine List.ext_getElem (by simp [Tm.fitL]) fun i h1 h2 => ?_
  simp only [Tm.fitL, List.length_map, List.length_range] at h1
  by_cases e : i = k
  · subst e
    rw [List.getElem_set_self]
    simp [Tm.fitL, h]
  · rw [List.getElem_set_ne (by omega)]
    simp only [Tm.fitL, List.getElem_map, List.getElem_range]
    by_cases hl : i < k
    · rw [if_pos (by omega), if_pos hl]
    · rw [if_neg (by omega), if_neg hl]
def Tm.fitErr (p t : List Int) : Int := Tm.firstErr [p, t]
def Tm.fitIs (p t : List Int) : Bool := if Tm.fitErr p t = 0 then (Tm.fit p t).isSome else false
def Tm.fitOut : Option Asg → List (List Int)
  | some m => Tm.fitL m 8
  | none => []
def Tm.fitVal (p t : List Int) : List (List Int) := if Tm.fitErr p t = 0 then Tm.fitOut (Tm.fit p t) else []
theorem Tm.fitErr_ok {p t : List Int} (h : Tm.fitErr p t = 0) : Tm.err p = 0 ∧ Tm.err t = 0 := by
  have := Tm.firstErr_all h
  exact ⟨by simpa using this 0 (by simp), by simpa using this 1 (by simp)⟩
theorem Tm.fitErr_of {p t : List Int} (h1 : Tm.err p = 0) (h2 : Tm.err t = 0) : Tm.fitErr p t = 0 := by simp [Tm.fitErr, Tm.firstErr, h1, h2]
theorem Tm.fit_bad {p t : List Int} (h : Tm.fitErr p t ≠ 0) : Tm.fitIs p t = false ∧ Tm.fitVal p t = [] := by
  constructor
  · unfold Tm.fitIs; rw [if_neg h]
  · unfold Tm.fitVal; rw [if_neg h]
theorem Tm.fit_no {p t : List Int} (h : Tm.fitErr p t = 0) (hf : Tm.fit p t = none) : Tm.fitIs p t = false ∧ Tm.fitVal p t = [] := by
  constructor
  · unfold Tm.fitIs; rw [if_pos h, hf]; rfl
  · unfold Tm.fitVal; rw [if_pos h, hf]; rfl
theorem Tm.fit_yes {p t : List Int} {m : Asg} (h : Tm.fitErr p t = 0) (hf : Tm.fit p t = some m) : Tm.fitIs p t = true ∧ Tm.fitVal p t = Tm.fitL m 8 := by
  constructor
  · unfold Tm.fitIs; rw [if_pos h, hf]; rfl
  · unfold Tm.fitVal; rw [if_pos h, hf]; rfl

end Go.Proofs.Ytloealnfbpegnab

namespace Go.Proofs.Ytloealnfbpegnab
open Go.Proofs Go.RowKit Go.Shelf Go.Maps

set_option maxRecDepth 100000 in
set_option maxHeartbeats 1000000 in
theorem equal_any (xs ys : List Int) (a b : Option Addr) (ca cb : Nat) (w : World) (hX : Ints w.heap.size w a xs) (hY : Ints w.heap.size w b ys) (hm : xs.length ≤ maxLen) :
    Calls Try.prog 38 #[.slice a xs.length ca, .slice b ys.length cb] w fun e w' => e = .returned (.bool (sameB xs ys)) ∧ Below w.heap.size w w' := by
  unfold maxLen at hm
  by_cases hl : xs.length = ys.length
  · have hne : ((xs.length : Int) != (ys.length : Int)) = false := by simp [hl]
    have Hl : Hid (xs.length = ys.length) := hl
    clear hl
    go_enter Try.func38, Try.ntmps38
    go_wp2
    go_loopw [13] (fun i wr => ∃ k : Nat, k ≤ xs.length ∧ i = .int .i64 (k : Int) ∧ Hid (xs.take k = ys.take k) ∧ Below w.heap.size w wr) (fun i _ => xs.length - (intOf i).toNat)
    case atStart => exact ⟨0, Nat.zero_le _, rfl, by simp [Hid], Below.refl _ _⟩
    case round =>
      obtain ⟨k, hk, rfl, hsame, hB⟩ := hrel
      by_cases hlt : k < xs.length
      · have hlt' : (k : Int) < (xs.length : Int) := by omega
        have hly : k < ys.length := by have := Hl.out; omega
        have hly' : (k : Int) < (ys.length : Int) := by omega
        obtain ⟨b1, off1, rfl, hb1, hc1⟩ := (hX.below hB).at (by omega)
        obtain ⟨b2, off2, rfl, hb2, hc2⟩ := (hY.below hB).at (by omega)
        have hx := hc1 k hlt
        have hy := hc2 k hly
        have hst := show Hid _ from @same_step xs ys k hlt hly hsame.out
        have hno := show Hid _ from @same_not xs ys k
        clear hc1 hc2 hX hY hly
        generalize xs[k]?.getD 0 = s at *
        generalize ys[k]?.getD 0 = u at *
        by_cases he : s = u
        · have hn : (s != u) = false := by simp [he]
          have He : Hid (s = u) := he
          clear he hno
          go_wp2
          go_quiet (fail)
          go_wp2
          go_roundw
          case rel => exact ⟨k + 1, by omega, by go_num, hst.out He.out, below_drewN hB _⟩
          case measure => simp [intOf]; omega
        · have hn : (s != u) = true := by simp [he]
          have hf := show Hid _ from hno.out he
          clear he hno hst
          go_wp2
          go_quiet (fail)
          go_wp2
          go_ret
          exact ⟨by rw [hf.out]; rfl, below_drewN hB _⟩
      · obtain rfl : k = xs.length := by omega
        have hy := show Hid _ from same_yes hsame.out Hl.out
        clear hX hY
        go_wp2
        go_ret
        exact ⟨by rw [hy.out]; rfl, hB⟩
  · have hne : ((xs.length : Int) != (ys.length : Int)) = true := by simp; omega
    rw [same_len hl]
    clear hl hX hY
    go_enter Try.func38, Try.ntmps38
    go_wp2
    go_ret
    exact ⟨rfl, Below.refl _ _⟩

theorem zeroTerm (w : World) : (zeroValue 23).run Try.prog w = .ok (.slice none 0 0) w := by kernel_rfl

/-- What fit answers. -/
def FitAns (w w' : World) (e : Ending) : Option Asg → Prop
  | none => e = .returned (.tuple #[.map none, .bool false])
  | some m => ∃ bm N, e = .returned (.tuple #[.map (some bm), .bool true]) ∧ w.heap.size ≤ bm ∧ FitAt w.heap.size w' bm N m

set_option maxRecDepth 100000 in
set_option maxHeartbeats 1000000 in
theorem fit_any (p t : List Int) (ap at' : Option Addr) (cp ct : Nat) (w : World) (hp : Tm.err p = 0) (ht : Tm.err t = 0) (hP : Ints w.heap.size w ap p) (hT : Ints w.heap.size w at' t) (hct : t.length ≤ ct) (hct2 : ct ≤ maxLen) :
    Calls Try.prog 24 #[.slice ap p.length cp, .slice at' t.length ct] w fun e w' => Below w.heap.size w w' ∧ FitAns w w' e (Tm.fit p t) := by
  have hp30 := Tm.err_len hp
  have ht30 := Tm.err_len ht
  have h8 := Tm.known8 hp
  have h6 := fun k (hk : k < p.length) => Tm.known_lt (Tm.all_at (Tm.err_all hp) hk)
  have hAg := hid (Against.start hp ht)
  obtain ⟨b, off, rfl, hb, hc⟩ := hT.at (Tm.err_pos ht)
  obtain ⟨b2, off2, rfl, hb2, hc2⟩ := hP.at (Tm.err_pos hp)
  have hmm := @run_makeMap Try.prog
  have hct3 : ct ≤ 9223372036854775807 := hct2
  have HT := hid hT
  have Hc := hid hc
  have Hc2 := hid hc2
  have H8 := hid h8
  have H6 := hid h6
  have hl1 : (p.length : Int) ≤ 30 := by omega
  have hl2 : (t.length : Int) ≤ 30 := by omega
  clear hT hP hc hc2 h8 h6 hp ht
  go_enter Try.func24, Try.ntmps24
  go_wp2
  go_loopw [7, 16] (fun q i wr => ∃ (j k : Nat) (m : Asg), j ≤ p.length ∧ k ≤ t.length ∧ i = .int .i64 (j : Int) ∧ q = .int .i64 (k : Int) ∧ Hid (Tm.fit p t = Tm.fitGo t (p.drop j) k m) ∧ Hid (Against p t j k) ∧ Below w.heap.size w wr ∧ Hid (FitAt w.heap.size wr w.heap.size j m)) (fun _ i _ => p.length - (intOf i).toNat)
  case atStart => exact ⟨0, 0, fun _ => none, Nat.zero_le _, Nat.zero_le _, rfl, rfl, by simp [Hid, Tm.fit], hAg, (Below.refl _ _).alloc (Nat.le_refl _) _, ⟨_, IntMap.made w, fun _ _ => rfl, fun _ _ h => by cases h⟩⟩
  case round =>
    obtain ⟨j, k, m, hj, hk, rfl, rfl, hfit, hag, hB, hF⟩ := hrel
    by_cases hlt : j < p.length
    · have hlt' : (j : Int) < (p.length : Int) := by omega
      have hkt := hag.out.pos hlt
      have hkt' : (k : Int) < (t.length : Int) := by omega
      have hcj := (hB.cell (p := ⟨b2, off2 + j, none⟩) hb2).trans (Hc2.out j hlt)
      have hck := (hB.cell (p := ⟨b, off + k, none⟩) hb).trans (Hc.out k hkt)
      by_cases hs : p[j]?.getD 0 < 0
      · have hE := end_any t ht30 (some ⟨b, off, none⟩) ct k (by omega) wr ((HT.out.below hB).mono hB.size)
        have hle := hag.out.endAt_le hlt
        have hgt := Tm.endAt_gt t k
        have hag2 := hid (hag.out.var hlt hs)
        have Hpl : Hid ((Tm.part t k).length = Tm.endAt t k - k) := by show _ = _; simp only [Tm.part, List.length_take, List.length_drop]; omega
        have HIs := hid (HT.out.sub k (Tm.endAt t k - k))
        have hnew := hid (fun h => hfit.out.trans (Tm.fitGo_new (t := t) (k := k) (m := m) hlt hs h))
        have hold := hid (fun h => hfit.out.trans (Tm.fitGo_old (t := t) (k := k) (m := m) hlt hs h))
        have hcl := hid (fun zs h1 h2 => hfit.out.trans (Tm.fitGo_clash (t := t) (k := k) (m := m) (zs := zs) hlt hs h1 h2))
        have hwf := hid (wf64 (s := p[j]?.getD 0) (by have := H8.out j hlt; omega) (by have := H6.out j hlt; omega))
        have HIs' : Hid (Ints w.heap.size w (some ⟨b, off + k, none⟩) (Tm.part t k)) := HIs
        clear hck HIs hfit hag
        generalize p[j]?.getD 0 = s at *
        generalize Tm.part t k = pt at *
        generalize Tm.endAt t k = q at *
        have h1 : (k : Int) ≤ (q : Int) := by omega
        have h2 : (q : Int) ≤ (ct : Int) := by omega
        have h3 : ¬ ct - k = 0 := by omega
        have Hq : Hid (q = k + pt.length) := by have := Hpl.out; show _ = _; omega
        obtain ⟨M, hM, hn, hso⟩ := hF.out
        have hrd : Hid (Reads w.heap.size w (.slice (some ⟨b, off + k, none⟩) (q - k) (ct - k)) pt) := ⟨b, off + k, ct - k, by rw [Hpl.out], HIs'.out, by have := Hpl.out; omega, by omega, by have := Hpl.out; omega⟩
        clear hF
        cases hms : m s with
        | none =>
          have hMs := hid (hn s hms)
          have hst := hid (hnew.out hms)
          have Hn := hid hn
          have Hso := hid hso
          have HM := hid hM
          clear hnew hold hcl hms hn hso hM
          go_wp2_with (first
            | (go_at_call 37; refine hE.mono ?_; clear hE; rintro e w1 ⟨rfl, hB1⟩; have hM1 := hid (HM.out.keep (hB1.block _ HM.out.lt)); have hB2 := hB.trans (hB1.mono hB.size))
            | (at_lookup; go_loud (refine wp_look_miss _ rfl _ _ 42 rfl 23 Try.underlying42 (zeroTerm _) w.heap.size j M rfl hM1.out s rfl hwf.out hMs.out ?_))
            | (at_mapUpdate; go_loud (refine wp_mapset _ rfl _ _ _ 42 rfl 23 Try.underlying42 w.heap.size j M rfl hM1.out (by unfold maxLen; omega) s rfl hwf.out _ rfl ?_); intro w2 hM2 hg2))
          have hB3 : Below w.heap.size w w2 := hB2.grown hg2 hB2.size (fun x e => by simp at e; omega)
          go_roundw
          case rel => exact ⟨j + 1, q, _, by omega, by omega, by go_num, rfl, hst, hag2, hB3, FitAt.upd Hn.out (fun x zs h => by obtain ⟨v, h1, h2⟩ := Hso.out x zs h; exact ⟨v, h1, h2.below (hB1.mono hB.size)⟩) hM2 (Below.grown (Below.refl _ _) hg2 hB2.size (fun x e => by simp at e; omega)) (hrd.out.below hB2)⟩
          case measure => simp [intOf]; omega
        | some zs =>
          obtain ⟨v, hMs, b3, off3, c3, rfl, hI3, hc3, hc4, _⟩ := hso s zs hms
          have hEq : ∀ W, Below wr.heap.size wr W → Calls Try.prog 38 #[.slice (some ⟨b3, off3, none⟩) zs.length c3, .slice (some ⟨b, off + k, none⟩) (q - k) (ct - k)] W fun e w' => e = .returned (.bool (sameB zs pt)) ∧ Below W.heap.size W w' := fun W hW => by
            rw [← Hpl.out]
            exact equal_any zs pt _ _ c3 (ct - k) W (((hI3.below (hW.mono hB.size)).mono (by have := hW.size; have := hB.size; omega))) (((HIs'.out.below hB).below (hW.mono hB.size)).mono (by have := hW.size; have := hB.size; omega)) (by omega)
          have HEq := hid hEq
          have HMs := hid hMs
          have Hn := hid hn
          have Hso := hid hso
          have HM := hid hM
          clear hEq hMs hn hso hM hI3
          by_cases he : zs = pt
          · subst he
            have hsb : sameB zs zs = true := by simp [sameB]
            have hst := hid (hold.out hms)
            clear hnew hold hcl hms
            go_wp2_with (first
              | (go_at_call 37; refine hE.mono ?_; clear hE; rintro e w1 ⟨rfl, hB1⟩; have hM1 := hid (HM.out.keep (hB1.block _ HM.out.lt)); have hB2 := hB.trans (hB1.mono hB.size))
              | (at_lookup; go_loud (refine wp_look_hit _ rfl _ _ 42 rfl 23 Try.underlying42 (zeroTerm _) w.heap.size j M rfl hM1.out s rfl hwf.out _ HMs.out ?_))
              | (go_at_call 38; refine (HEq.out _ hB1).mono ?_; rw [hsb]; rintro e w3 ⟨rfl, hB3⟩; have hM3 := hid (hM1.out.keep (hB3.block _ hM1.out.lt)); have hB4 := hB2.trans (hB3.mono hB2.size))
              | (at_mapUpdate; go_loud (refine wp_mapset _ rfl _ _ _ 42 rfl 23 Try.underlying42 w.heap.size j M rfl hM3.out (by unfold maxLen; omega) s rfl hwf.out _ rfl ?_); intro w2 hM2 hg2))
            have hB5 : Below w.heap.size w w2 := hB4.grown hg2 hB4.size (fun x e => by simp at e; omega)
            go_roundw
            case rel => exact ⟨j + 1, q, _, by omega, by omega, by go_num, rfl, hst, hag2, hB5, FitAt.upd Hn.out (fun x zs h => by obtain ⟨v, h1, h2⟩ := Hso.out x zs h; exact ⟨v, h1, (h2.below (hB1.mono hB.size)).below (hB3.mono hB2.size)⟩) hM2 (Below.grown (Below.refl _ _) hg2 hB4.size (fun x e => by simp at e; omega)) (hrd.out.below hB4)⟩
            case measure => simp [intOf]; omega
          · have hsb : sameB zs pt = false := by simp [sameB, he]
            have hst := hid (hcl.out zs hms he)
            clear hnew hold hcl hms he
            go_wp2_with (first
              | (go_at_call 37; refine hE.mono ?_; clear hE; rintro e w1 ⟨rfl, hB1⟩; have hM1 := hid (HM.out.keep (hB1.block _ HM.out.lt)); have hB2 := hB.trans (hB1.mono hB.size))
              | (at_lookup; go_loud (refine wp_look_hit _ rfl _ _ 42 rfl 23 Try.underlying42 (zeroTerm _) w.heap.size j M rfl hM1.out s rfl hwf.out _ HMs.out ?_))
              | (go_at_call 38; refine (HEq.out _ hB1).mono ?_; rw [hsb]; rintro e w3 ⟨rfl, hB3⟩; have hM3 := hid (hM1.out.keep (hB3.block _ hM1.out.lt)); have hB4 := hB2.trans (hB3.mono hB2.size)))
            go_ret2
            exact ⟨hB4, by rw [hst.out]; rfl⟩
      · have hsy := hid (fun h => hfit.out.trans (Tm.fitGo_sym (t := t) (k := k) (m := m) hlt hs h))
        have hot := hid (fun h => hfit.out.trans (Tm.fitGo_other (t := t) (k := k) (m := m) hlt hs h))
        have hag2 := hid (fun h => hag.out.sym hlt h)
        clear hfit hag
        generalize p[j]?.getD 0 = s at *
        generalize t[k]?.getD 0 = u at *
        by_cases he : u = s
        · have hn : (u != s) = false := by simp [he]
          have hst := hid (hsy.out he)
          have hag3 := hid (hag2.out he)
          clear hsy hot he hag2
          go_wp2
          go_roundw
          case rel => exact ⟨j + 1, k + 1, m, by omega, by omega, by go_num, by go_num, hst, hag3, hB, by obtain ⟨M, h1, h2⟩ := hF.out; exact ⟨M, h1.mono (by omega), h2⟩⟩
          case measure => simp [intOf]; omega
        · have hn : (u != s) = true := by simp [he]
          have hst := hid (hot.out he)
          clear hsy hot he hag2
          go_wp2
          go_ret2
          exact ⟨hB, by rw [hst.out]; rfl⟩
    · obtain rfl : j = p.length := by omega
      go_wp2
      go_ret2
      exact ⟨hB, by rw [hfit.out, List.drop_length, Tm.fitGo_nil]; exact ⟨_, _, rfl, Nat.le_refl _, hF.out⟩⟩

end Go.Proofs.Ytloealnfbpegnab

namespace Go.Proofs.Ytloealnfbpegnab
open Go.Proofs Go.RowKit Go.Shelf Go.Maps

set_option maxRecDepth 100000 in
set_option maxHeartbeats 400000 in
theorem firstError_any (ss : List (List Int)) (hl : ss.length ≤ 1000) (a : Option Addr) (cap : Nat) (w : World) (hS : Subs w.heap.size w a ss) :
    Calls Try.prog 23 #[.slice a ss.length cap] w fun e w' => e = .returned (.int .i64 (Tm.firstErr ss)) ∧ Below w.heap.size w w' := by
  have HS := hid hS
  have hl' : (ss.length : Int) ≤ 1000 := by omega
  clear hS
  go_enter Try.func23, Try.ntmps23
  go_wp2
  go_loopw [8] (fun i wr => ∃ k : Nat, k ≤ ss.length ∧ i = .int .i64 (k : Int) ∧ Hid (Tm.firstErr ss = Tm.firstErr (ss.drop k)) ∧ Below w.heap.size w wr) (fun i _ => ss.length - (intOf i).toNat)
  case atStart => exact ⟨0, Nat.zero_le _, rfl, rfl, Below.refl _ _⟩
  case round =>
    obtain ⟨k, hk, rfl, hf, hB⟩ := hrel
    by_cases hlt : k < ss.length
    · have hlt' : (k : Int) < (ss.length : Int) := by omega
      obtain ⟨b, off, rfl, hb, hc⟩ := HS.out.at (by omega)
      obtain ⟨aj, cj, hcj, hIj, _⟩ := hc k hlt
      have hcj' := (hB.cell (p := ⟨b, off + k, none⟩) hb).trans hcj
      have hC := check_any (ss[k]?.getD []) aj cj wr ((hIj.below hB).mono hB.size)
      have hst := hid (Tm.firstErr_step (ss := ss) (k := k) hlt)
      have hsp := hid (Tm.firstErr_stop (ss := ss) (k := k) hlt)
      clear hcj hIj hc
      generalize ss[k]?.getD [] = t at *
      by_cases he : Tm.err t = 0
      · have hst' := hid (hf.out.trans (hst.out he))
        rw [he] at hC
        clear hst hsp he hf
        go_wp2_with (go_at_call 33; refine hC.mono ?_; clear hC; rintro e w1 ⟨rfl, hB1⟩)
        go_roundw
        case rel => exact ⟨k + 1, by omega, by go_num, hst'.out, hB.trans (hB1.mono hB.size)⟩
        case measure => simp [intOf]; omega
      · have hsp' := hid (hf.out.trans (hsp.out he))
        have hne : (Tm.err t != 0) = true := by simp [he]
        clear hst hsp he hf
        generalize Tm.err t = q at *
        go_wp2_with (go_at_call 33; refine hC.mono ?_; clear hC; rintro e w1 ⟨rfl, hB1⟩)
        go_ret
        exact ⟨by rw [hsp'.out]; rfl, hB.trans (hB1.mono hB.size)⟩
    · obtain rfl : k = ss.length := by omega
      have h0 : Hid (Tm.firstErr ss = 0) := by
        show _ = _
        rw [hf.out, List.drop_length]
        rfl
      clear hf
      go_wp2
      go_ret
      exact ⟨by rw [h0.out]; rfl, hB⟩

theorem subs_two (W : World) (p t : List Int) (ap at' : Option Addr) (cp ct n : Nat) (hn : n = W.heap.size + 1) (hP : Ints W.heap.size W ap p) (hT : Ints W.heap.size W at' t) (h1 : p.length ≤ cp ∧ cp ≤ maxLen ∧ (ap = none → cp = 0)) (h2 : t.length ≤ ct ∧ ct ≤ maxLen ∧ (at' = none → ct = 0)) :
    Subs n (W.alloc (.cells #[.slice ap p.length cp, .slice at' t.length ct] 23)) (some ⟨W.heap.size, 0, none⟩) [p, t] := by
  have hB : Below W.heap.size W (W.alloc (.cells #[.slice ap p.length cp, .slice at' t.length ct] 23)) := (Below.refl _ _).alloc (Nat.le_refl _) _
  have hnew := World.alloc_heap_new W (.cells #[.slice ap p.length cp, .slice at' t.length ct] 23)
  intro j hj
  simp only [List.length_cons, List.length_nil] at hj
  match j, hj with
  | 0, _ => exact ⟨W.heap.size, 0, ap, cp, rfl, by omega, (cell_at hnew 0).trans rfl, (hP.below hB).mono (by omega), h1⟩
  | 1, _ => exact ⟨W.heap.size, 0, at', ct, rfl, by omega, (cell_at hnew 1).trans rfl, (hT.below hB).mono (by omega), h2⟩

theorem first_two (p t : List Int) (ap at' : Option Addr) (cp ct : Nat) (W : World) (hP : Ints W.heap.size W ap p) (hT : Ints W.heap.size W at' t) (h1 : p.length ≤ cp ∧ cp ≤ maxLen ∧ (ap = none → cp = 0)) (h2 : t.length ≤ ct ∧ ct ≤ maxLen ∧ (at' = none → ct = 0)) :
    Calls Try.prog 23 #[.slice (some ⟨W.heap.size, 0, none⟩) 2 2] (W.alloc (.cells #[.slice ap p.length cp, .slice at' t.length ct] 23)) fun e w' => e = .returned (.int .i64 (Tm.fitErr p t)) ∧ Below W.heap.size W w' :=
  (firstError_any [p, t] (by simp) _ 2 _ (subs_two W p t ap at' cp ct _ (by simp) hP hT h1 h2)).mono fun e w' ⟨h, hB⟩ => ⟨h, ((Below.refl _ _).alloc (Nat.le_refl _) _).trans (hB.mono (by simp))⟩

theorem newS_cell {base : Nat} {W : World} {g c : Nat} {ss : List (List Int)} (h : NewS base W (.slice (some ⟨g, 0, none⟩) 8 c) ss) (hl : ss.length = 8) {k : Nat} (hk : k < 8) :
    base ≤ g ∧ ∃ x, W.cell? ⟨g, k, none⟩ = some x ∧ W.frozen? ⟨g, k, none⟩ = false := by
  obtain ⟨us, h1, _⟩ := h
  rw [hl] at h1
  have hus : us.length = 8 := by have := h1.1; omega
  have c0 := World.ownsRow.cellAt h1 k (by omega)
  rw [List.getElem?_eq_getElem (by omega)] at c0
  exact ⟨(World.ownsRow.lt h1 g rfl).1, _, c0, World.ownsRow.frozenAt h1 k⟩

set_option maxRecDepth 100000 in
set_option maxHeartbeats 1000000 in
/-- match.Fit. -/
theorem Fit_any (p t : List Int) (ap at' : Option Addr) (cp ct : Nat) (w : World) (hP : Ints w.heap.size w ap p) (hT : Ints w.heap.size w at' t) (h1 : p.length ≤ cp ∧ cp ≤ maxLen ∧ (ap = none → cp = 0)) (h2 : t.length ≤ ct ∧ ct ≤ maxLen ∧ (at' = none → ct = 0)) :
    Calls Try.prog 9 #[.slice ap p.length cp, .slice at' t.length ct] w fun e w' => ∃ v, e = .returned (.tuple #[v, .bool (Tm.fitIs p t), .int .i64 (Tm.fitErr p t)]) ∧ NewS w.heap.size w' v (Tm.fitVal p t) ∧ Below w.heap.size w w' := by
  have hC := first_two p t ap at' cp ct w hP hT h1 h2
  by_cases he : Tm.fitErr p t = 0
  · obtain ⟨hp, ht⟩ := Tm.fitErr_ok he
    have hfit : ∀ W, Below w.heap.size w W → Calls Try.prog 24 #[.slice ap p.length cp, .slice at' t.length ct] W fun e w' => Below W.heap.size W w' ∧ FitAns W w' e (Tm.fit p t) := fun W hW =>
      fit_any p t ap at' cp ct W hp ht ((hP.below hW).mono hW.size) ((hT.below hW).mono hW.size) h2.1 h2.2.1
    cases hf : Tm.fit p t with
    | none =>
      obtain ⟨e1, e2⟩ := Tm.fit_no he hf
      rw [hf] at hfit
      rw [e1, e2, he]
      rw [he] at hC
      have HF := hid hfit
      clear hfit hf e1 e2 hp ht he hP hT h1 h2
      go_enter Try.func9, Try.ntmps9
      go_wp2_with (first
        | (go_at_call 23; refine hC.mono ?_; clear hC; rintro e w1 ⟨rfl, hB1⟩)
        | (go_at_call 24; refine (HF.out _ hB1).mono ?_; rintro e w2 ⟨hB2, rfl⟩; have hB3 := hB1.trans (hB2.mono hB1.size)))
      go_ret3
      exact ⟨_, rfl, NewS.nil _ _, hB3⟩
    | some m =>
      obtain ⟨e1, e2⟩ := Tm.fit_yes he hf
      rw [hf] at hfit
      rw [e1, e2, he]
      rw [he] at hC
      have HF := hid hfit
      clear hfit hf e1 e2 hp ht he hP hT h1 h2
      go_enter Try.func9, Try.ntmps9
      go_wp2_with (first
        | (go_at_call 23; refine hC.mono ?_; clear hC; rintro e w1 ⟨rfl, hB1⟩)
        | (go_at_call 24; refine (HF.out _ hB1).mono ?_; rintro e w2 ⟨hB2, bm, N, rfl, hbm, M, hM, hMn, hMs⟩; have hB3 := hB1.trans (hB2.mono hB1.size); have HMn := hid hMn; have HMs := hid hMs; have HM := hid hM; clear hMn hMs hM)
        | (go_at_call 25; refine (none_any _).mono ?_; rintro e w3 ⟨v, rfl, hN, hB4⟩; have hB5 := hB3.trans (hB4.mono hB3.size); have hlen : (Tm.noneL 8).length = 8 := Tm.noneL_length 8; obtain ⟨g, c, rfl⟩ : ∃ g c, v = .slice (some ⟨g, 0, none⟩) 8 c := (by obtain ⟨us, h1, _⟩ := hN; rw [hlen] at h1; exact ownsRow_succ h1)))
      have hM3 := hid (HM.out.keep (hB4.block _ HM.out.lt))
      have hgm : g ≠ bm := by
        obtain ⟨us, h1, _⟩ := hN
        have := (World.ownsRow.lt h1 g rfl).1
        have := HM.out.lt
        omega
      have hg2 : w2.heap.size ≤ g := by
        obtain ⟨us, h1, _⟩ := hN
        exact (World.ownsRow.lt h1 g rfl).1
      have HN := hid hN
      clear hN HM hlen
      go_loopw [32] (fun i wr => ∃ k : Nat, k ≤ 8 ∧ i = .int .i64 (k : Int) ∧ Hid (NewS w.heap.size wr (.slice (some ⟨g, 0, none⟩) 8 c) (Tm.fitL m k)) ∧ Hid (IntMap wr bm N M) ∧ Below w1.heap.size w2 wr) (fun i _ => 8 - (intOf i).toNat)
      case atStart => exact ⟨0, Nat.zero_le _, rfl, by rw [Tm.fitL_zero]; exact HN.out.mono hB3.size, hM3, hB4.mono hB2.size⟩
      case round =>
        obtain ⟨k, hk, rfl, hNk, hMk, hBk⟩ := hrel
        by_cases hlt : k < 8
        · have hlt' : (k : Int) < 8 := by omega
          have hk0 : (0 : Int) ≤ (k : Int) := by omega
          have hwf := hid (wf64 (s := -1 - (k : Int)) (by omega) (by omega))
          cases hm : m (-1 - (k : Int)) with
          | none =>
            have hMs := hid (HMn.out _ hm)
            have hst := hid (Tm.fitL_none hm)
            clear hm
            go_wp2_with (first
              | (at_lookup; go_loud (refine wp_look_miss _ rfl _ _ 42 rfl 23 Try.underlying42 (zeroTerm _) bm N M rfl hMk.out (-1 - (k : Int)) rfl hwf.out hMs.out ?_)))
            go_roundw
            case rel => exact ⟨k + 1, by omega, by go_num, by rw [hst.out]; exact hNk.out, hMk, hBk⟩
            case measure => simp [intOf]; omega
          | some zs =>
            obtain ⟨v, hMs, b3, off3, c3, rfl, hI3, _, _, h30⟩ := HMs.out _ zs hm
            have hst := hid (Tm.fitL_some hm)
            have HMv := hid hMs
            have hs12 := hB2.size
            have hCl := clone_any zs b3 off3 c3 wr h30 ((hI3.below hBk).mono (by have := hBk.size; omega))
            clear hm hMs hI3
            go_wp2_with (first
              | (at_lookup; go_loud (refine wp_look_hit _ rfl _ _ 42 rfl 23 Try.underlying42 (zeroTerm _) bm N M rfl hMk.out (-1 - (k : Int)) rfl hwf.out _ HMv.out ?_))
              | (go_at_call 26; refine hCl.mono ?_; clear hCl; rintro e w5 ⟨u, rfl, hNu, hBu⟩; obtain ⟨au, cu, rfl, _⟩ := New.ints hNu; have hN5 := hid (hNk.out.below hBu); obtain ⟨hg5, x5, hc5, hf5⟩ := newS_cell hN5.out (Tm.fitL_length m k) hlt))
            have hBs : Below w.heap.size w wr := hB1.trans ((hB2.trans hBk).mono hB1.size)
            go_roundw
            case rel =>
              refine ⟨k + 1, by omega, by go_num, ?_, ?_, ?_⟩
              · rw [hst.out]
                exact hN5.out.set (Tm.fitL_length m k).symm (hNu.mono hBs.size) k
              · exact (hMk.out.keep (hBu.block _ hMk.out.lt)).keep (Below.heap_setCell _ _ _ _ (fun e => hgm e.symm))
              · exact (hBk.trans (hBu.mono (by have := hBk.size; omega))).setCell (p := ⟨g, k, none⟩) (show w1.heap.size ≤ g by omega) _
            case measure => simp [intOf]; omega
        · obtain rfl : k = 8 := by omega
          go_wp2
          go_ret3
          exact ⟨_, rfl, hNk.out, hB1.trans ((hB2.trans hBk).mono hB1.size)⟩
  · obtain ⟨e1, e2⟩ := Tm.fit_bad he
    rw [e1, e2]
    have hne : (Tm.fitErr p t != 0) = true := by simp [he]
    clear hP hT e1 e2 he h1 h2
    generalize Tm.fitErr p t = q at *
    go_enter Try.func9, Try.ntmps9
    go_wp2_with (first
      | (go_at_call 23; refine hC.mono ?_; clear hC; rintro e w1 ⟨rfl, hB1⟩))
    go_ret3
    exact ⟨_, rfl, NewS.nil _ _, hB1⟩

end Go.Proofs.Ytloealnfbpegnab

namespace Go.Proofs.Ytloealnfbpegnab
open Go.Proofs Go.RowKit Go.Shelf Go.Maps

abbrev ptr (X : Nat) : Value := .pointer (some ⟨X, 0, none⟩)
/-- v is a slice of the pointers to Xs, its cells in blocks from lo to hi. -/
def PartsAt (lo hi : Nat) (W : World) (v : Value) (Xs : List Nat) : Prop := ∃ a c, v = .slice a Xs.length c ∧ ∀ j, j < Xs.length → ∃ b off, a = some ⟨b, off, none⟩ ∧ lo ≤ b ∧ b < hi ∧ W.cell? ⟨b, off + j, none⟩ = some (ptr (Xs[j]?.getD 0))
/-- BLOCK X IS A TREE, all of it in blocks from lo to hi, whose signs are zs. -/
inductive TreeIn (lo hi : Nat) (W : World) : Nat → List Int → Prop
  | mk (X : Nat) (s : Int) (v : Value) (Xs : List Nat) (zss : List (List Int)) : lo ≤ X → X < hi → Node W X s v → PartsAt lo hi W v Xs → Xs.length = Tm.room s → zss.length = Xs.length →
      (∀ j, j < Xs.length → TreeIn lo hi W (Xs[j]?.getD 0) (zss[j]?.getD [])) → TreeIn lo hi W X (s :: zss.flatten)

theorem PartsAt.keep {lo hi lo' hi' : Nat} {W W' : World} {v : Value} {Xs : List Nat} (h : PartsAt lo hi W v Xs) (h1 : lo' ≤ lo) (h2 : hi ≤ hi') (hk : ∀ k, lo ≤ k → k < hi → W'.heap[k]? = W.heap[k]?) : PartsAt lo' hi' W' v Xs := by
  obtain ⟨a, c, rfl, hc⟩ := h
  refine ⟨a, c, rfl, fun j hj => ?_⟩
  obtain ⟨b, off, e, hb1, hb2, hcell⟩ := hc j hj
  exact ⟨b, off, e, by omega, by omega, (World.cell?_of_block (a := ⟨b, off + j, none⟩) (hk b hb1 hb2)).trans hcell⟩
theorem TreeIn.keep {lo hi lo' hi' : Nat} {W W' : World} {X : Nat} {zs : List Int} (h : TreeIn lo hi W X zs) (h1 : lo' ≤ lo) (h2 : hi ≤ hi') (hk : ∀ k, lo ≤ k → k < hi → W'.heap[k]? = W.heap[k]?) : TreeIn lo' hi' W' X zs := by
  induction h with
  | mk X s v Xs zss hX1 hX2 hN hP hr hl _ ih =>
    exact TreeIn.mk X s v Xs zss (by omega) (by omega) ((hk X hX1 hX2).trans hN) (hP.keep h1 h2 hk) hr hl ih
theorem TreeIn.under {lo hi n : Nat} {W W' : World} {X : Nat} {zs : List Int} (h : TreeIn lo hi W X zs) (hB : Below n W W') (hn : hi ≤ n) : TreeIn lo hi W' X zs :=
  h.keep (Nat.le_refl _) (Nat.le_refl _) fun k _ hk => hB.block k (by omega)
theorem TreeIn.wide {lo hi lo' hi' : Nat} {W : World} {X : Nat} {zs : List Int} (h : TreeIn lo hi W X zs) (h1 : lo' ≤ lo) (h2 : hi ≤ hi') : TreeIn lo' hi' W X zs := h.keep h1 h2 fun _ _ _ => rfl

/-- The first m parts, one behind the other. -/
theorem Tm.parts_flat {zs : List Int} {m : Nat} (hm : Tm.pos zs 0 (m + 1) ≤ zs.length) : (zs.take (Tm.pos zs 0 (m + 1))).drop 1 = (zs.take (Tm.pos zs 0 m)).drop 1 ++ (zs.drop (Tm.pos zs 0 m)).take (Tm.pos zs 0 (m + 1) - Tm.pos zs 0 m) := by
  have h1 := Tm.pos_mono zs 0 m (m + 1) (by omega)
  have h0 : 1 ≤ Tm.pos zs 0 m := Tm.pos_gt zs 0 m
  rw [show zs.take (Tm.pos zs 0 (m + 1)) = zs.take (Tm.pos zs 0 m) ++ (zs.drop (Tm.pos zs 0 m)).take (Tm.pos zs 0 (m + 1) - Tm.pos zs 0 m) from by
    rw [← List.take_add]; congr 1; omega]
  rw [List.drop_append_of_le_length]
  simp only [List.length_take]
  omega

/-- The state of grown's loop: m parts are there. -/
def GrownSt (base : Nat) (wr : World) (zs : List Int) (m : Nat) (v : Value) (xs : List Value) : Prop :=
  ∃ (Xs : List Nat) (zss : List (List Int)), Xs.length = m ∧ zss.length = m ∧ xs = Xs.map ptr ∧ zss.flatten = (zs.take (Tm.pos zs 0 m)).drop 1 ∧
    ∀ j, j < m → ∃ lo hi, base < lo ∧ hi ≤ wr.heap.size ∧ TreeIn lo hi wr (Xs[j]?.getD 0) (zss[j]?.getD []) ∧ ∀ k, v.ownBlock = some k → k < lo ∨ hi ≤ k
theorem GrownSt.start (base : Nat) (wr : World) (zs : List Int) (v : Value) (xs : List Value) (h : xs = []) : GrownSt base wr zs 0 v xs :=
  ⟨[], [], rfl, rfl, by rw [h]; rfl, by rw [Tm.pos_zero]; simp, fun j hj => by omega⟩
/-- One part more: made between sizes lo and hi; then appended. -/
theorem GrownSt.step {base lo hi : Nat} {wr w2 w3 : World} {zs pt : List Int} {m : Nat} {v v' : Value} {xs : List Value} {p : Nat} (h : GrownSt base wr zs m v xs) (hlo : lo = wr.heap.size) (hb : base < lo) (hlo2 : lo ≤ hi) (hB1 : ∀ k, k < lo → w2.heap[k]? = wr.heap[k]?)
    (hT : TreeIn lo hi w2 p pt) (hown : ∀ k, v.ownBlock = some k → k < lo) (hown' : v'.ownBlock = v.ownBlock ∨ ∃ q, v'.ownBlock = some q ∧ hi ≤ q) (hs3 : hi ≤ w3.heap.size)
    (hk : ∀ k, base < k → k < hi → (∀ q, v.ownBlock = some q → k ≠ q) → w3.heap[k]? = w2.heap[k]?)
    (hpt : pt = (zs.drop (Tm.pos zs 0 m)).take (Tm.pos zs 0 (m + 1) - Tm.pos zs 0 m)) (hle : Tm.pos zs 0 (m + 1) ≤ zs.length) : GrownSt base w3 zs (m + 1) v' (xs ++ [ptr p]) := by
  obtain ⟨Xs, zss, h1, h2, h3, h4, h5⟩ := h
  refine ⟨Xs ++ [p], zss ++ [pt], by simp [h1], by simp [h2], by simp [h3], by rw [List.flatten_append, h4, Tm.parts_flat hle, hpt]; simp, fun j hj => ?_⟩
  by_cases hjm : j < m
  · obtain ⟨l, h, e1, e2, hTj, e3⟩ := h5 j hjm
    refine ⟨l, h, e1, by omega, ?_, ?_⟩
    · rw [List.getElem?_append_left (by omega), List.getElem?_append_left (by omega)]
      refine hTj.keep (Nat.le_refl _) (Nat.le_refl _) fun k hk1 hk2 => ?_
      rw [hk k (by omega) (by omega) (fun q hq => by have := e3 q hq; omega), hB1 k (by omega)]
    · intro k hk'
      rcases hown' with e | ⟨q, e, hq⟩
      · exact e3 k (by rw [← e]; exact hk')
      · rw [e] at hk'
        have : q = k := by simpa using hk'
        exact .inr (by omega)
  · obtain rfl : j = m := by omega
    refine ⟨lo, hi, hb, hs3, ?_, ?_⟩
    · rw [List.getElem?_append_right (by omega), List.getElem?_append_right (by omega), h1, h2]
      simp only [Nat.sub_self, List.getElem?_cons_zero, Option.getD_some]
      refine hT.keep (Nat.le_refl _) (Nat.le_refl _) fun k hk1 hk2 => hk k (by omega) hk2 (fun q hq => by have := hown q hq; omega)
    · intro k hk'
      rcases hown' with e | ⟨q, e, hq⟩
      · exact .inl (hown k (by rw [← e]; exact hk'))
      · rw [e] at hk'
        have : q = k := by simpa using hk'
        exact .inr (by omega)
/-- All parts are there. -/
theorem GrownSt.done {base r : Nat} {wr : World} {zs : List Int} {s : Int} {v : Value} {xs : List Value} (h : GrownSt base wr zs r v xs) (hN : Node wr base s v) (hown : wr.ownsRow (base + 1) 62 1 v r xs) (hr : r = Tm.room s) (hs : zs[0]?.getD 0 = s) (h0 : 0 < zs.length) :
    TreeIn base wr.heap.size wr base (zs.take (Tm.pos zs 0 r)) := by
  obtain ⟨Xs, zss, h1, h2, h3, h4, h5⟩ := h
  have hz : zs.take (Tm.pos zs 0 r) = s :: zss.flatten := by
    rw [h4]
    have hp : 0 < Tm.pos zs 0 r := Tm.pos_gt zs 0 r
    cases zs with
    | nil => simp at h0
    | cons a l =>
      simp at hs
      subst hs
      obtain ⟨q, hq⟩ : ∃ q, Tm.pos (a :: l) 0 r = q + 1 := ⟨Tm.pos (a :: l) 0 r - 1, by omega⟩
      rw [hq]
      simp
  rw [hz]
  refine TreeIn.mk base s v Xs zss (Nat.le_refl _) hN.lt hN ?_ (by omega) (by omega) (fun j hj => ?_)
  · rcases hown.2 with ⟨rfl, hn⟩ | ⟨g, cap, cur, rfl, hb, hg, _⟩
    · exact ⟨none, 0, by rw [h1, hn], fun j hj => by omega⟩
    · refine ⟨_, cap, by rw [h1], fun j hj => ⟨g, 0, rfl, by omega, (Array.getElem?_eq_some_iff.1 hg).1, ?_⟩⟩
      have h5 := World.ownsRow.cellAt hown j (by omega)
      rw [Nat.zero_add, h5, h3]
      simp [hj]
  · obtain ⟨lo, hi, e1, e2, hT, _⟩ := h5 j (by omega)
    exact hT.wide (by omega) e2

end Go.Proofs.Ytloealnfbpegnab
