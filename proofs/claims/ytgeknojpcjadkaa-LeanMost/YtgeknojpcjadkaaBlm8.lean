/-
  Parts of the proof: Web2, Web3, Web4, Web5, Web6a, Web6.
-/
import Derived.Test.YtgeknojpcjadkaaBlm7
import Derived.Deep.RegionHeld3
import Derived.Deep.QuietTactic
import Derived.BigQuiet
import Derived.Test.YtgeknojpcjadkaaBlm3
namespace Go.Proofs.Ytgeknojpcjadkaa
open Go.Proofs Go.RowKit Go.Shelf Go.Maps
section
variable {F : Fence} {nF : Nat} (w : World) {ops : Array Oper} {rest : List Oper} {o : Oper} {a : Act} {Q : Exit → Act → World → Prop}
theorem wpi_look_ok (hg : o.guard = none) (m x : Operand) (t : TypeId) (hop : o.op = Op.lookup t m x true) (e : TypeId) (ht : Try.prog.underlying t = some (.map 3 e)) {z : Value} (hz : (zeroValue e).run Try.prog w = .ok z w) (b n : Nat) (M : Int → Option Value)
    (hm : a.eval m = .map (some b)) (hI : IntMap w b n M) (key : Int) (hx : a.eval x = .int .i64 key) (hwf : (Lit.int .i64 key).wf = true) (v : Value) (q : Bool) (hv : (M key).getD z = v) (hq : (M key).isSome = q)
    (hK : wpListIn F nF Try.prog ops Q rest (a.put o.dst (.tuple #[v, .bool q])) w) : wpListIn F nF Try.prog ops Q (o :: rest) a w := by
  refine wpListIn_plain hg fun K' hK' => ?_
  have hrun := (hI.look ht hz hwf).1
  rw [hv, hq] at hrun
  unfold Oper.wpIn
  refine ⟨by simp [Oper.about, hop], ?_⟩
  rw [Oper.semAt_plain F _ _ (by rw [hop]; intro c hc'; cases hc')]
  simp [execOp, hop, hm, hx, hrun, Result.andThen]
  exact hK' _ _ hK
end
structure WebAt (W : World) (Bw Bm : Nat) (a : Option Addr) (cap : Nat) (zs : List Int) (N : Nat) (T : Nat → Option Nat) : Prop where
  web : W.heap[Bw]? = some (.cells #[.slice a zs.length cap, .map (some Bm)] 202 (0, 0))
  ints : Ints W.heap.size W a zs
  ties : ∃ M, IntMap W Bm N M ∧ ∀ p : Nat, M (p : Int) = (T p).map fun q => .int .i64 (q : Int)
theorem WebAt.cell0 {W : World} {Bw Bm : Nat} {a : Option Addr} {cap : Nat} {zs : List Int} {N : Nat} {T : Nat → Option Nat} (h : WebAt W Bw Bm a cap zs N T) : W.cell? ⟨Bw, 0, none⟩ = some (.slice a zs.length cap) := (cell_at h.web 0).trans rfl
theorem WebAt.cell1 {W : World} {Bw Bm : Nat} {a : Option Addr} {cap : Nat} {zs : List Int} {N : Nat} {T : Nat → Option Nat} (h : WebAt W Bw Bm a cap zs N T) : W.cell? ⟨Bw, 1, none⟩ = some (.map (some Bm)) := (cell_at h.web 1).trans rfl
theorem WebAt.below {W W' : World} {Bw Bm : Nat} {a : Option Addr} {cap : Nat} {zs : List Int} {N : Nat} {T : Nat → Option Nat} (h : WebAt W Bw Bm a cap zs N T) (hB : Below W.heap.size W W') : WebAt W' Bw Bm a cap zs N T := by
  refine ⟨(hB.block Bw (Array.getElem?_eq_some_iff.1 h.web).1).trans h.web, (h.ints.below hB).mono hB.size, ?_⟩
  obtain ⟨M, hM, hT⟩ := h.ties
  exact ⟨M, hM.keep (hB.block Bm hM.lt), hT⟩
theorem WebAt.lt {W : World} {Bw Bm : Nat} {a : Option Addr} {cap : Nat} {zs : List Int} {N : Nat} {T : Nat → Option Nat} (h : WebAt W Bw Bm a cap zs N T) : Bw < W.heap.size ∧ Bm < W.heap.size := by
  obtain ⟨M, hM, hT⟩ := h.ties
  exact ⟨(Array.getElem?_eq_some_iff.1 h.web).1, hM.lt⟩
theorem wfN {n : Nat} (h : n ≤ 100000) : (Lit.int .i64 (n : Int)).wf = true := by
  simp [Lit.wf, IntKind.min, IntKind.max, IntKind.signed, IntKind.bits]
  omega
attribute [local go_sem] Oper.semAt_some
set_option maxRecDepth 100000 in
set_option maxHeartbeats 1000000 in
theorem head_in (F : Fence) (hF : Pl F) (n : Nat) (zs : List Int) (T : Nat → Option Nat) (h : Nat → Nat) (G : Wb.Good zs) (S : Wb.St zs T h) (Bw Bm : Nat) (a : Option Addr) (cap N p : Nat) (hp : p < zs.length) (w : World) (hW : WebAt w Bw Bm a cap zs N T) :
    CallsIn F n Try.prog 155 #[.pointer (some ⟨Bw, 0, none⟩), .int .i64 (p : Int)] w fun e w' => e = .returned (.int .i64 (Wb.hd zs h p : Int)) ∧ w' = w := by
  obtain ⟨hro, hfn, hdd⟩ := fx_facts hF
  have hf := hfn _ _ Try.func155
  clear hF hfn
  have hl5 := G.len
  have hl5' : (zs.length : Int) ≤ 5000 := by omega
  have hp' : (p : Int) < (zs.length : Int) := by omega
  have hw0 := hW.cell0
  have hw1 := hW.cell1
  obtain ⟨M, hM, hT⟩ := hW.ties
  obtain ⟨b, off, rfl, hb, hc⟩ := hW.ints.at (by omega)
  have hcp : w.cell? ⟨b, off + p, none⟩ = some (.int .i64 (Wb.sg zs p)) := hc p hp
  obtain ⟨st, hst⟩ := S.down
  have hcl := Wb.can_lt G hp
  have hcc := Wb.can_can G hp
  have hkn := G.known p hp
  have HS := hid S
  have Hst := hid hst
  have HM := hid hM
  have HT := hid hT
  have hcan : Hid (Wb.can zs p = if Wb.sg zs p < 0 then (-1 - Wb.sg zs p).toNat else p) := rfl
  have hhd : Hid (Wb.hd zs h p = h (Wb.can zs p)) := rfl
  clear S hst hM hT hc hW G
  generalize Wb.hd zs h p = r at *
  generalize Wb.sg zs p = s at *
  generalize Wb.can zs p = c at *
  by_cases hs : s < 0
  · have hce : (-1 : Int) - s = (c : Int) := by rw [hcan.out, if_pos hs]; omega
    refine callsIn_of_wp Try.func155 rfl hf ?_ hro
    simp only [Try.ntmps155, List.size_toArray, List.length_cons, List.length_nil, Nat.reduceAdd, Nat.reduceSub, Array.replicate_succ, Array.replicate_zero, List.push_toArray, List.append_toArray, List.nil_append, List.cons_append]
    gi_wp2
    gi_loopw [1] (fun x wr => ∃ q : Nat, x = .int .i64 (q : Int) ∧ q < zs.length ∧ Wb.can zs q = q ∧ Hid (h q = h c) ∧ wr = w) (fun x _ => st (intOf x).toNat)
    case atStart => exact ⟨c, by rw [← hce], hcl, hcc, rfl, rfl⟩
    case round =>
      obtain ⟨q, rfl, hq, hcq, hhq, rfl⟩ := hrel
      have hwf := wfN (n := q) (by omega)
      cases hTq : T q with
      | none =>
        have hMq : (M (q : Int)) = none := by rw [HT.out, hTq]; rfl
        have hroot := hid ((HS.out.free q hq hcq).1 hTq)
        clear hTq
        gi_wp2_with (gi_at_lookup; (refine wpi_look_ok _ rfl _ _ 194 rfl 3 Try.underlying194 (zeroInt _) Bm N M rfl HM.out (q : Int) rfl hwf (.int .i64 0) false (by rw [hMq]; rfl) (by rw [hMq]; rfl) ?_))
        go_ret
        exact ⟨by rw [hhd.out, ← hhq.out, hroot.out]; rfl, rfl⟩
      | some q2 =>
        have hMq : (M (q : Int)) = some (.int .i64 (q2 : Int)) := by rw [HT.out, hTq]; rfl
        obtain ⟨g1, g2, g3⟩ := HS.out.next q q2 hq hcq hTq
        have hlt := Hst.out q q2 hq hcq hTq
        have g3' := hid (g3.trans hhq.out)
        clear hTq g3
        gi_wp2_with (gi_at_lookup; (refine wpi_look_ok _ rfl _ _ 194 rfl 3 Try.underlying194 (zeroInt _) Bm N M rfl HM.out (q : Int) rfl hwf (.int .i64 (q2 : Int)) true (by rw [hMq]; rfl) (by rw [hMq]; rfl) ?_))
        exact ⟨⟨q2, rfl, g1, g2, g3', by first | rfl | trivial⟩, by simpa [intOf] using hlt⟩
  · have hce : Hid ((p : Int) = (c : Int)) := by show _ = _; rw [hcan.out, if_neg hs]
    have hs0 : (0 : Int) ≤ s := by omega
    have hsd : decide (s < 0) = false := by simpa using hs
    clear hs
    refine callsIn_of_wp Try.func155 rfl hf ?_ hro
    simp only [Try.ntmps155, List.size_toArray, List.length_cons, List.length_nil, Nat.reduceAdd, Nat.reduceSub, Array.replicate_succ, Array.replicate_zero, List.push_toArray, List.append_toArray, List.nil_append, List.cons_append]
    gi_wp2
    gi_loopw [1] (fun x wr => ∃ q : Nat, x = .int .i64 (q : Int) ∧ q < zs.length ∧ Wb.can zs q = q ∧ Hid (h q = h c) ∧ wr = w) (fun x _ => st (intOf x).toNat)
    case atStart => exact ⟨c, by rw [← hce.out], hcl, hcc, rfl, rfl⟩
    case round =>
      obtain ⟨q, rfl, hq, hcq, hhq, rfl⟩ := hrel
      have hwf := wfN (n := q) (by omega)
      cases hTq : T q with
      | none =>
        have hMq : (M (q : Int)) = none := by rw [HT.out, hTq]; rfl
        have hroot := hid ((HS.out.free q hq hcq).1 hTq)
        clear hTq
        gi_wp2_with (gi_at_lookup; (refine wpi_look_ok _ rfl _ _ 194 rfl 3 Try.underlying194 (zeroInt _) Bm N M rfl HM.out (q : Int) rfl hwf (.int .i64 0) false (by rw [hMq]; rfl) (by rw [hMq]; rfl) ?_))
        go_ret
        exact ⟨by rw [hhd.out, ← hhq.out, hroot.out]; rfl, rfl⟩
      | some q2 =>
        have hMq : (M (q : Int)) = some (.int .i64 (q2 : Int)) := by rw [HT.out, hTq]; rfl
        obtain ⟨g1, g2, g3⟩ := HS.out.next q q2 hq hcq hTq
        have hlt := Hst.out q q2 hq hcq hTq
        have g3' := hid (g3.trans hhq.out)
        clear hTq g3
        gi_wp2_with (gi_at_lookup; (refine wpi_look_ok _ rfl _ _ 194 rfl 3 Try.underlying194 (zeroInt _) Bm N M rfl HM.out (q : Int) rfl hwf (.int .i64 (q2 : Int)) true (by rw [hMq]; rfl) (by rw [hMq]; rfl) ?_))
        exact ⟨⟨q2, rfl, g1, g2, g3', by first | rfl | trivial⟩, by simpa [intOf] using hlt⟩
end Go.Proofs.Ytgeknojpcjadkaa
namespace Go.Proofs.Ytgeknojpcjadkaa
open Go.Proofs Go.RowKit Go.Shelf
namespace Wb
abbrev Sb := Int → List Int
def App (θ : Sb) (t : List Int) : List Int := t.flatMap fun s => if s < 0 then θ s else [s]
def TermSb (θ : Sb) : Prop := ∀ s, s < 0 → Tm.run (θ s) 1 = (θ s).length
theorem App_nil (θ : Sb) : App θ [] = [] := rfl
theorem App_cons (θ : Sb) (s : Int) (l : List Int) : App θ (s :: l) = (if s < 0 then θ s else [s]) ++ App θ l := by simp [App]
theorem App_append (θ : Sb) (l r : List Int) : App θ (l ++ r) = App θ l ++ App θ r := by simp [App]
theorem App_flatten (θ : Sb) (l : List (List Int)) : App θ l.flatten = (l.map (App θ)).flatten := by
  induction l with
  | nil => rfl
  | cons x l ih => rw [List.flatten_cons, App_append, ih, List.map_cons, List.flatten_cons]
theorem room_var {s : Int} (h : s < 0) : Tm.room s = 0 := by unfold Tm.room; rw [if_neg (by omega), if_neg (by omega)]
theorem App_run {θ : Sb} (hθ : TermSb θ) : ∀ (t : List Int) (n : Nat), Tm.run t n = t.length → Tm.run (App θ t) n = (App θ t).length := by
  intro t
  induction t with
  | nil => intro n hr; rw [Tm.run_nil] at hr; subst hr; rw [List.length_nil, Tm.run_zero]; rfl
  | cons s l ih =>
    intro n hr
    cases n with
    | zero => rw [Tm.run_zero, List.length_cons] at hr; omega
    | succ n =>
      rw [Tm.run_cons, List.length_cons] at hr
      rw [App_cons]
      by_cases hs : s < 0
      · rw [room_var hs, Nat.add_zero] at hr
        rw [if_pos hs, show n + 1 = 1 + n from by omega, Tm.run_add, Tm.run_app _ _ 1 (by rw [hθ s hs]; omega), hθ s hs, List.drop_left, ih n (by omega), List.length_append]
      · rw [if_neg hs, List.singleton_append, Tm.run_cons, List.length_cons, ih _ (by omega)]
        omega
def cont (zs : List Int) (p : Nat) : List Int := Tm.part zs p
def kids (zs : List Int) (p : Nat) : List Nat := (List.range (Tm.room (sg zs p))).map (Tm.pos zs p)
theorem kids_length (zs : List Int) (p : Nat) : (kids zs p).length = Tm.room (sg zs p) := by simp [kids]
theorem pos_end {zs : List Int} {p : Nat} (hp : p < zs.length) : Tm.endAt zs p = Tm.pos zs p (Tm.room (sg zs p)) := Tm.endAt_in zs p hp
theorem pos_lt {zs : List Int} (k : Nat) {i j : Nat} (h : i < j) : Tm.pos zs k i < Tm.pos zs k j := by
  have h1 := Tm.pos_mono zs k (i + 1) j h
  have h2 := Tm.pos_succ zs k i
  have h3 := Tm.endAt_gt zs (Tm.pos zs k i)
  omega
theorem kid_lt {zs : List Int} (G : Good zs) {p i : Nat} (hp : p < zs.length) (hi : i < Tm.room (sg zs p)) : Tm.pos zs p i < zs.length := by
  have h1 := G.ends p hp
  rw [pos_end hp] at h1
  have := pos_lt (zs := zs) p hi
  omega
theorem kids_flat {zs : List Int} {p : Nat} : ∀ m, Tm.pos zs p m ≤ zs.length → (zs.drop (p + 1)).take (Tm.pos zs p m - (p + 1)) = (((List.range m).map (Tm.pos zs p)).map (cont zs)).flatten := by
  intro m
  induction m with
  | zero => intro _; rw [Tm.pos_zero]; simp
  | succ m ih =>
    intro h
    have h1 := Tm.pos_succ zs p m
    have h2 := Tm.pos_gt zs p m
    have h3 := Tm.endAt_gt zs (Tm.pos zs p m)
    rw [List.range_succ, List.map_append, List.map_append, List.flatten_append, ← ih (by omega)]
    simp only [List.map_cons, List.map_nil, List.flatten_cons, List.flatten_nil, List.append_nil]
    unfold cont Tm.part
    rw [h1, show Tm.endAt zs (Tm.pos zs p m) - (p + 1) = (Tm.pos zs p m - (p + 1)) + (Tm.endAt zs (Tm.pos zs p m) - Tm.pos zs p m) from by omega, List.take_add, List.drop_drop, show p + 1 + (Tm.pos zs p m - (p + 1)) = Tm.pos zs p m from by omega]
theorem cont_eq {zs : List Int} (G : Good zs) {p : Nat} (hp : p < zs.length) : cont zs p = sg zs p :: ((kids zs p).map (cont zs)).flatten := by
  have h1 := G.ends p hp
  have h2 := Tm.endAt_gt zs p
  rw [show ((kids zs p).map (cont zs)).flatten = (zs.drop (p + 1)).take (Tm.pos zs p (Tm.room (sg zs p)) - (p + 1)) from (kids_flat _ (by rw [← pos_end hp]; exact h1)).symm, ← pos_end hp]
  unfold cont Tm.part
  rw [show Tm.endAt zs p - p = (Tm.endAt zs p - (p + 1)) + 1 from by omega, List.drop_eq_getElem_cons hp, List.take_succ_cons]
  congr 1
  simp [sg, hp]
theorem cont_run {zs : List Int} (G : Good zs) {p : Nat} (hp : p < zs.length) : Tm.run (cont zs p) 1 = (cont zs p).length := by
  have h1 := G.ends p hp
  unfold Tm.endAt at h1
  have hl : Tm.run (zs.drop p) 1 ≤ (zs.drop p).length := by rw [List.length_drop]; omega
  have := Tm.run_take (zs.drop p) 1 hl
  unfold cont Tm.part Tm.endAt
  rw [show p + Tm.run (zs.drop p) 1 - p = Tm.run (zs.drop p) 1 from by omega, this, List.length_take]
  omega
theorem cont_var {zs : List Int} (G : Good zs) {p : Nat} (hp : p < zs.length) (hs : sg zs p < 0) : cont zs p = [sg zs p] := by
  rw [cont_eq G hp, show kids zs p = [] from by unfold kids; rw [room_var hs]; rfl]; rfl
theorem cont_can {zs : List Int} (G : Good zs) {p : Nat} (hp : p < zs.length) : cont zs (can zs p) = cont zs p := by
  by_cases hs : sg zs p < 0
  · rw [cont_var G hp hs, cont_var G (can_lt G hp) (by rw [sg_can G hp]; exact hs), sg_can G hp]
  · rw [can_pos (by omega)]
theorem flatten_inj : ∀ (l l' : List (List Int)), (∀ x ∈ l, Tm.run x 1 = x.length) → (∀ x ∈ l', Tm.run x 1 = x.length) → l.length = l'.length → l.flatten = l'.flatten → l = l' := by
  intro l
  induction l with
  | nil => intro l' _ _ h _; cases l' with
    | nil => rfl
    | cons x l' => simp at h
  | cons x l ih =>
    intro l' h1 h2 h3 h4
    cases l' with
    | nil => simp at h3
    | cons y l' =>
      rw [List.flatten_cons, List.flatten_cons] at h4
      have hx := h1 x (by simp)
      have hy := h2 y (by simp)
      have e1 := Tm.run_app x l.flatten 1 (by omega)
      have e2 := Tm.run_app y l'.flatten 1 (by omega)
      rw [h4, e2] at e1
      obtain ⟨a, b⟩ := List.append_inj h4 (by omega)
      subst a
      rw [ih l' (fun z hz => h1 z (by simp [hz])) (fun z hz => h2 z (by simp [hz])) (by simpa using h3) b]
theorem App_cont {zs : List Int} (G : Good zs) (θ : Sb) {p : Nat} (hp : p < zs.length) (hs : 0 ≤ sg zs p) : App θ (cont zs p) = sg zs p :: ((kids zs p).map fun k => App θ (cont zs k)).flatten := by
  rw [cont_eq G hp, App_cons, if_neg (by omega), App_flatten, List.map_map]
  rfl
theorem kids_get {zs : List Int} {p i : Nat} (hi : i < Tm.room (sg zs p)) : (kids zs p)[i]? = some (Tm.pos zs p i) := by simp [kids, hi]
theorem kids_eq {zs : List Int} (G : Good zs) {θ : Sb} (hθ : TermSb θ) {p q : Nat} (hp : p < zs.length) (hq : q < zs.length) (sp : 0 ≤ sg zs p) (sq : 0 ≤ sg zs q) (h : App θ (cont zs p) = App θ (cont zs q)) :
    sg zs p = sg zs q ∧ ∀ i, i < Tm.room (sg zs p) → App θ (cont zs (Tm.pos zs p i)) = App θ (cont zs (Tm.pos zs q i)) := by
  rw [App_cont G θ hp sp, App_cont G θ hq sq] at h
  obtain ⟨e, h2⟩ := List.cons.inj h
  have hrun : ∀ r, r < zs.length → ∀ x ∈ (kids zs r).map (fun k => App θ (cont zs k)), Tm.run x 1 = x.length := fun r hr x hx => by
    rw [List.mem_map] at hx
    obtain ⟨k, hk, rfl⟩ := hx
    unfold kids at hk
    rw [List.mem_map] at hk
    obtain ⟨i, hi, rfl⟩ := hk
    exact App_run hθ _ 1 (cont_run G (kid_lt G hr (List.mem_range.1 hi)))
  have h3 := flatten_inj _ _ (hrun p hp) (hrun q hq) (by simp [kids, e]) h2
  refine ⟨e, fun i hi => ?_⟩
  have h4 := congrArg (fun l => l[i]?) h3
  simp only [List.getElem?_map] at h4
  rw [kids_get hi, kids_get (by rw [← e]; exact hi)] at h4
  simpa using h4
def Resp (zs : List Int) (h : Nat → Nat) (θ : Sb) : Prop := ∀ p, p < zs.length → can zs p = p → App θ (cont zs p) = App θ (cont zs (h p))
theorem Resp.hd {zs : List Int} (G : Good zs) {h : Nat → Nat} {θ : Sb} (R : Resp zs h θ) {p : Nat} (hp : p < zs.length) : App θ (cont zs p) = App θ (cont zs (hd zs h p)) := by
  rw [← cont_can G hp]
  exact R _ (can_lt G hp) (can_can G hp)
inductive Eqv (zs : List Int) (h : Nat → Nat) (P : List (Nat × Nat)) : Nat → Nat → Prop
  | base (p q : Nat) : p < zs.length → q < zs.length → hd zs h p = hd zs h q → Eqv zs h P p q
  | pair (p q : Nat) : (p, q) ∈ P → Eqv zs h P p q
  | symm (p q : Nat) : Eqv zs h P p q → Eqv zs h P q p
  | trans (p q r : Nat) : Eqv zs h P p q → Eqv zs h P q r → Eqv zs h P p r
def Closed (zs : List Int) (h : Nat → Nat) (P : List (Nat × Nat)) : Prop :=
  ∀ p q, p < zs.length → q < zs.length → 0 ≤ sg zs p → 0 ≤ sg zs q → h p = h q → sg zs p = sg zs q ∧ ∀ i, i < Tm.room (sg zs p) → Eqv zs h P (Tm.pos zs p i) (Tm.pos zs q i)
theorem Eqv.move {zs : List Int} {h h' : Nat → Nat} {P P' : List (Nat × Nat)} (hc : ∀ p q, p < zs.length → q < zs.length → hd zs h p = hd zs h q → hd zs h' p = hd zs h' q) (hP : ∀ p q, (p, q) ∈ P → Eqv zs h' P' p q) {p q : Nat} (e : Eqv zs h P p q) : Eqv zs h' P' p q := by
  induction e with
  | base p q h1 h2 h3 => exact .base p q h1 h2 (hc p q h1 h2 h3)
  | pair p q h1 => exact hP p q h1
  | symm p q _ ih => exact .symm _ _ ih
  | trans p q r _ _ i1 i2 => exact .trans _ _ _ i1 i2
structure TieL (zs : List Int) (h h' : Nat → Nat) (ps : List (Nat × Nat)) : Prop where
  coarse : ∀ p q, p < zs.length → q < zs.length → hd zs h p = hd zs h q → hd zs h' p = hd zs h' q
  sound : ∀ θ, TermSb θ → Resp zs h θ → (∀ p q, (p, q) ∈ ps → App θ (cont zs p) = App θ (cont zs q)) → Resp zs h' θ
  tied : ∀ p q, (p, q) ∈ ps → hd zs h' p = hd zs h' q
  close : ∀ P, Closed zs h (ps ++ P) → Closed zs h' P
theorem TieL.nil (zs : List Int) (h : Nat → Nat) : TieL zs h h [] := ⟨fun _ _ _ _ h => h, fun _ _ R _ => R, fun p q h => by simp at h, fun _ h => h⟩
theorem TieL.snoc {zs : List Int} {h h1 h2 : Nat → Nat} {ps : List (Nat × Nat)} {a b : Nat} (A : TieL zs h h1 ps) (B : TieL zs h1 h2 [(a, b)]) (hps : ∀ p q, (p, q) ∈ ps → p < zs.length ∧ q < zs.length) : TieL zs h h2 (ps ++ [(a, b)]) := by
  refine ⟨fun p q hp hq e => B.coarse p q hp hq (A.coarse p q hp hq e), fun θ hθ R hq => ?_, fun p q hm => ?_, fun P hC => ?_⟩
  · exact B.sound θ hθ (A.sound θ hθ R fun p q hm => hq p q (List.mem_append_left _ hm)) fun p q hm => hq p q (List.mem_append_right _ hm)
  · rcases List.mem_append.1 hm with hm | hm
    · exact B.coarse p q (hps p q hm).1 (hps p q hm).2 (A.tied p q hm)
    · exact B.tied p q hm
  · exact B.close P (A.close ([(a, b)] ++ P) (by rw [← List.append_assoc]; exact hC))
theorem TieL.same {zs : List Int} {h : Nat → Nat} {a b : Nat} (ha : a < zs.length) (hb : b < zs.length) (e : hd zs h a = hd zs h b) : TieL zs h h [(a, b)] := by
  refine ⟨fun _ _ _ _ h => h, fun _ _ R _ => R, fun p q hm => by simp at hm; obtain ⟨rfl, rfl⟩ := hm; exact e, fun P hC p q hp hq sp sq ep => ?_⟩
  obtain ⟨e1, e2⟩ := hC p q hp hq sp sq ep
  refine ⟨e1, fun i hi => (e2 i hi).move (fun _ _ _ _ h => h) fun x y hm => ?_⟩
  simp at hm
  rcases hm with ⟨rfl, rfl⟩ | hm
  · exact .base _ _ ha hb e
  · exact .pair _ _ hm
theorem hd_mg (zs : List Int) (h : Nat → Nat) (o n p : Nat) : hd zs (mg h o n) p = if hd zs h p = o then n else hd zs h p := rfl
theorem mg_coarse (zs : List Int) (h : Nat → Nat) (o n : Nat) : ∀ p q, p < zs.length → q < zs.length → hd zs h p = hd zs h q → hd zs (mg h o n) p = hd zs (mg h o n) q := fun p q _ _ e => by rw [hd_mg, hd_mg, e]
def Ends (zs : List Int) (h : Nat → Nat) (a b o n : Nat) : Prop := (hd zs h a = n ∧ hd zs h b = o) ∨ (hd zs h a = o ∧ hd zs h b = n)
theorem Ends.tied {zs : List Int} {h : Nat → Nat} {a b o n : Nat} (E : Ends zs h a b o n) (hne : o ≠ n) : hd zs (mg h o n) a = hd zs (mg h o n) b := by
  rw [hd_mg, hd_mg]
  rcases E with ⟨e1, e2⟩ | ⟨e1, e2⟩
  · rw [e1, e2, if_pos rfl, if_neg (fun e => hne e.symm)]
  · rw [e1, e2, if_pos rfl, if_neg (fun e => hne e.symm)]
theorem Ends.app {zs : List Int} (G : Good zs) {h : Nat → Nat} {a b o n : Nat} (E : Ends zs h a b o n) (ha : a < zs.length) (hb : b < zs.length) {θ : Sb} (R : Resp zs h θ) (e : App θ (cont zs a) = App θ (cont zs b)) : App θ (cont zs o) = App θ (cont zs n) := by
  have h1 := R.hd G ha
  have h2 := R.hd G hb
  rcases E with ⟨e1, e2⟩ | ⟨e1, e2⟩
  · rw [e1] at h1; rw [e2] at h2; rw [← h2, ← h1, e]
  · rw [e1] at h1; rw [e2] at h2; rw [← h1, ← h2, e]
theorem Resp.mg {zs : List Int} {h : Nat → Nat} {o n : Nat} {θ : Sb} (R : Resp zs h θ) (e : App θ (cont zs o) = App θ (cont zs n)) : Resp zs (mg h o n) θ := fun p hp cp => by
  have := R p hp cp
  unfold Wb.mg
  by_cases ep : h p = o
  · rw [if_pos ep, this, ep, e]
  · rw [if_neg ep, this]
theorem TieL.var {zs : List Int} (G : Good zs) {T : Nat → Option Nat} {h : Nat → Nat} (S : St zs T h) {a b o n : Nat} (ha : a < zs.length) (hb : b < zs.length) (E : Ends zs h a b o n) (hne : o ≠ n) (ov : sg zs o < 0) : TieL zs h (Wb.mg h o n) [(a, b)] := by
  refine ⟨mg_coarse zs h o n, fun θ _ R hq => R.mg (E.app G ha hb R (hq a b (by simp))), fun p q hm => by simp at hm; obtain ⟨rfl, rfl⟩ := hm; exact E.tied hne, fun P hC p q hp hq sp sq e => ?_⟩
  have hno : ∀ x, x < zs.length → 0 ≤ sg zs x → h x ≠ o := fun x hx sx ex => by
    have := S.up x hx (can_pos sx)
    rw [ex] at this
    omega
  have e' : h p = h q := by
    unfold Wb.mg at e
    rw [if_neg (hno p hp sp), if_neg (hno q hq sq)] at e
    exact e
  obtain ⟨e1, e2⟩ := hC p q hp hq sp sq e'
  refine ⟨e1, fun i hi => (e2 i hi).move (mg_coarse zs h o n) fun x y hm => ?_⟩
  simp at hm
  rcases hm with ⟨rfl, rfl⟩ | hm
  · exact .base _ _ ha hb (E.tied hne)
  · exact .pair _ _ hm
def pairsTo (zs : List Int) (n o : Nat) (m : Nat) : List (Nat × Nat) := (List.range m).map fun i => (Tm.pos zs n i, Tm.pos zs o i)
theorem pairsTo_succ (zs : List Int) (n o m : Nat) : pairsTo zs n o (m + 1) = pairsTo zs n o m ++ [(Tm.pos zs n m, Tm.pos zs o m)] := by simp [pairsTo, List.range_succ]
theorem mem_pairsTo {zs : List Int} {n o m p q : Nat} (h : (p, q) ∈ pairsTo zs n o m) : ∃ i, i < m ∧ p = Tm.pos zs n i ∧ q = Tm.pos zs o i := by
  unfold pairsTo at h
  rw [List.mem_map] at h
  obtain ⟨i, hi, e⟩ := h
  cases e
  exact ⟨i, List.mem_range.1 hi, rfl, rfl⟩
theorem pairsTo_mem {zs : List Int} {n o m i : Nat} (h : i < m) : (Tm.pos zs n i, Tm.pos zs o i) ∈ pairsTo zs n o m := by
  unfold pairsTo
  rw [List.mem_map]
  exact ⟨i, List.mem_range.2 h, rfl⟩
theorem TieL.sym {zs : List Int} (G : Good zs) {h h2 : Nat → Nat} {a b o n : Nat} (ha : a < zs.length) (hb : b < zs.length) (E : Ends zs h a b o n) (hne : o ≠ n) (ho : o < zs.length) (hn : n < zs.length) (ro : h o = o) (rn : h n = n) (so : 0 ≤ sg zs o)
    (es : sg zs o = sg zs n) (K : TieL zs (Wb.mg h o n) h2 (pairsTo zs n o (Tm.room (sg zs n)))) : TieL zs h h2 [(a, b)] := by
  refine ⟨fun p q hp hq e => K.coarse p q hp hq (mg_coarse zs h o n p q hp hq e), fun θ hθ R hq => ?_, fun p q hm => by simp at hm; obtain ⟨rfl, rfl⟩ := hm; exact K.coarse _ _ ha hb (E.tied hne), fun P hC => K.close P fun p q hp hq sp sq e => ?_⟩
  · have e := E.app G ha hb R (hq a b (by simp))
    refine K.sound θ hθ (R.mg e) fun p q hm => ?_
    obtain ⟨i, hi, rfl, rfl⟩ := mem_pairsTo hm
    exact (kids_eq G hθ hn ho (by omega) so e.symm).2 i hi
  · have mv : ∀ x y, Eqv zs h ([(a, b)] ++ P) x y → Eqv zs (Wb.mg h o n) (pairsTo zs n o (Tm.room (sg zs n)) ++ P) x y := fun x y hxy => hxy.move (mg_coarse zs h o n) fun u v hm => by
      simp at hm
      rcases hm with ⟨rfl, rfl⟩ | hm
      · exact .base _ _ ha hb (E.tied hne)
      · exact .pair _ _ (List.mem_append_right _ hm)
    have on : ∀ i, i < Tm.room (sg zs n) → Eqv zs (Wb.mg h o n) (pairsTo zs n o (Tm.room (sg zs n)) ++ P) (Tm.pos zs o i) (Tm.pos zs n i) := fun i hi => .symm _ _ (.pair _ _ (List.mem_append_left _ (pairsTo_mem hi)))
    have cross : ∀ x y, x < zs.length → y < zs.length → 0 ≤ sg zs x → 0 ≤ sg zs y → h x = o → h y = n → sg zs x = sg zs y ∧ ∀ i, i < Tm.room (sg zs x) → Eqv zs (Wb.mg h o n) (pairsTo zs n o (Tm.room (sg zs n)) ++ P) (Tm.pos zs x i) (Tm.pos zs y i) := fun x y hx hy sx sy ex ey => by
      obtain ⟨e1, e2⟩ := hC x o hx ho sx so (by rw [ex, ro])
      obtain ⟨e3, e4⟩ := hC y n hy hn sy (by omega) (by rw [ey, rn])
      refine ⟨by omega, fun i hi => ?_⟩
      exact .trans _ _ _ (mv _ _ (e2 i hi)) (.trans _ _ _ (on i (by rw [← es, ← e1]; exact hi)) (.symm _ _ (mv _ _ (e4 i (by rw [e3, ← es, ← e1]; exact hi)))))
    have same : h p = h q → sg zs p = sg zs q ∧ ∀ i, i < Tm.room (sg zs p) → Eqv zs (Wb.mg h o n) (pairsTo zs n o (Tm.room (sg zs n)) ++ P) (Tm.pos zs p i) (Tm.pos zs q i) := fun e' => by
      obtain ⟨e1, e2⟩ := hC p q hp hq sp sq e'
      exact ⟨e1, fun i hi => mv _ _ (e2 i hi)⟩
    unfold Wb.mg at e
    by_cases ep : h p = o
    · by_cases eq : h q = o
      · exact same (by rw [ep, eq])
      · rw [if_pos ep, if_neg eq] at e
        exact cross p q hp hq sp sq ep e.symm
    · by_cases eq : h q = o
      · rw [if_neg ep, if_pos eq] at e
        obtain ⟨e1, e2⟩ := cross q p hq hp sq sp eq e
        exact ⟨e1.symm, fun i hi => .symm _ _ (e2 i (by rw [e1]; exact hi))⟩
      · rw [if_neg ep, if_neg eq] at e
        exact same e
def No (zs : List Int) (h : Nat → Nat) (ps : List (Nat × Nat)) : Prop := ∀ θ, TermSb θ → Resp zs h θ → (∀ p q, (p, q) ∈ ps → App θ (cont zs p) = App θ (cont zs q)) → False
theorem No.clash {zs : List Int} (G : Good zs) {h : Nat → Nat} {a b o n : Nat} (ha : a < zs.length) (hb : b < zs.length) (E : Ends zs h a b o n) (ho : o < zs.length) (hn : n < zs.length) (so : 0 ≤ sg zs o) (sn : 0 ≤ sg zs n) (es : sg zs o ≠ sg zs n) : No zs h [(a, b)] := fun θ hθ R hq =>
  es (kids_eq G hθ ho hn so sn (E.app G ha hb R (hq a b (by simp)))).1
theorem No.sym {zs : List Int} (G : Good zs) {h : Nat → Nat} {a b o n : Nat} (ha : a < zs.length) (hb : b < zs.length) (E : Ends zs h a b o n) (ho : o < zs.length) (hn : n < zs.length) (so : 0 ≤ sg zs o) (sn : 0 ≤ sg zs n)
    (K : No zs (Wb.mg h o n) (pairsTo zs n o (Tm.room (sg zs n)))) : No zs h [(a, b)] := fun θ hθ R hq => by
  have e := E.app G ha hb R (hq a b (by simp))
  refine K θ hθ (R.mg e) fun p q hm => ?_
  obtain ⟨i, hi, rfl, rfl⟩ := mem_pairsTo hm
  exact (kids_eq G hθ hn ho sn so e.symm).2 i hi
theorem No.later {zs : List Int} {h h1 : Nat → Nat} {ps qs rs : List (Nat × Nat)} (A : TieL zs h h1 ps) (B : No zs h1 qs) (hs : ∀ x, x ∈ ps → x ∈ rs) (ht : ∀ x, x ∈ qs → x ∈ rs) : No zs h rs := fun θ hθ R hq =>
  B θ hθ (A.sound θ hθ R fun p q hm => hq p q (hs _ hm)) fun p q hm => hq p q (ht _ hm)
end Wb
end Go.Proofs.Ytgeknojpcjadkaa
namespace Go.Proofs.Ytgeknojpcjadkaa
open Go.Proofs Go.RowKit Go.Shelf Go.Maps
theorem WebAt.sgn {W : World} {Bw Bm : Nat} {b off : Nat} {cap : Nat} {zs : List Int} {N : Nat} {T : Nat → Option Nat} (h : WebAt W Bw Bm (some ⟨b, off, none⟩) cap zs N T) {p : Nat} (hp : p < zs.length) : W.cell? ⟨b, off + p, none⟩ = some (.int .i64 (Wb.sg zs p)) := by
  obtain ⟨b', off', e, _, hc⟩ := h.ints p hp
  cases e
  exact hc
theorem WebAt.set {W W1 : World} {Bw Bm : Nat} {a : Option Addr} {cap : Nat} {zs : List Int} {N o n : Nat} {T : Nat → Option Nat} {M : Int → Option Value} (h : WebAt W Bw Bm a cap zs N T) (hM : IntMap W Bm N M) (hMT : ∀ p : Nat, M (p : Int) = (T p).map fun q => .int .i64 (q : Int))
    (h1 : IntMap W1 Bm (N + 1) (upd M (o : Int) (.int .i64 (n : Int)))) (hg : W.grownBy W1 (some Bm)) : WebAt W1 Bw Bm a cap zs (N + 1) (Wb.updN T o n) := by
  obtain ⟨es, clock, hmap⟩ := hM.map
  have hk : ∀ k, k < W.heap.size → k ≠ Bm → W1.heap[k]? = W.heap[k]? := fun k hk hne => hg.block k hk (by simpa using hne)
  have hne : Bw ≠ Bm := ne_map h.cell0 hmap
  refine ⟨(hk Bw h.lt.1 hne).trans h.web, fun j hj => ?_, ⟨_, h1, fun p => ?_⟩⟩
  · obtain ⟨b, off, e, hb, hc⟩ := h.ints j hj
    exact ⟨b, off, e, by have := hg.size; omega, (World.cell?_of_block (a := ⟨b, off + j, none⟩) (hk b hb (ne_map hc hmap))).trans hc⟩
  · by_cases e : p = o
    · subst e; rw [upd_same]; simp [Wb.updN]
    · rw [upd_other _ _ (by omega), hMT]; simp [Wb.updN, e]
theorem IntMap.drewN {W : World} {b n : Nat} {m : Int → Option Value} (h : IntMap W b n m) (d : Nat) : IntMap (W.drewN d) b n m := h.keep rfl
theorem grown_drew {w w1 : World} {row : Option Nat} {d : Nat} (h : (w.drewN d).grownBy w1 row) : w.grownBy w1 row := ⟨h.os, h.tape, h.output, h.size, h.block⟩
def WSt (W : World) (Bw Bm : Nat) (a : Option Addr) (cap : Nat) (zs : List Int) (h : Nat → Nat) : Prop := ∃ T N, Wb.St zs T h ∧ WebAt W Bw Bm a cap zs N T ∧ N + Wb.rt zs h ≤ zs.length
def TieAns (W' : World) (e : Ending) (Bw Bm : Nat) (a : Option Addr) (cap : Nat) (zs : List Int) (h : Nat → Nat) (ps : List (Nat × Nat)) : Prop :=
  (e = .returned (.bool true) ∧ ∃ h', Wb.TieL zs h h' ps ∧ WSt W' Bw Bm a cap zs h' ∧ Wb.rt zs h' ≤ Wb.rt zs h) ∨ (e = .returned (.bool false) ∧ Wb.No zs h ps)
theorem keepDrew {n m d : Nat} {a b : World} (h : Keep n m (a.drewN d) b) : Keep n m a b := ⟨h.os, h.tape, h.output, h.size, h.block⟩
theorem tieQ {f : Nat} {args : Array Value} {W : World} {m Bw Bm : Nat} {a : Option Addr} {cap : Nat} {zs : List Int} {h : Nat → Nat} {ps : List (Nat × Nat)} (H : Calls Try.prog f args W fun e W' => Keep m Bm W W' ∧ TieAns W' e Bw Bm a cap zs h ps) :
    Calls Try.prog f args W fun e W' => ∃ q, e = .returned (.bool q) ∧ Keep m Bm W W' ∧ ((q = true ∧ ∃ h', Wb.TieL zs h h' ps ∧ WSt W' Bw Bm a cap zs h' ∧ Wb.rt zs h' ≤ Wb.rt zs h) ∨ (q = false ∧ Wb.No zs h ps)) :=
  H.mono fun _ _ ⟨hK, hA⟩ => hA.elim (fun ⟨he, r⟩ => ⟨true, he, hK, .inl ⟨rfl, r⟩⟩) (fun ⟨he, r⟩ => ⟨false, he, hK, .inr ⟨rfl, r⟩⟩)
set_option maxRecDepth 100000 in
set_option maxHeartbeats 2000000 in
theorem tie_step (zs : List Int) (G : Wb.Good zs) (h : Nat → Nat) (Bw Bm : Nat) (a : Option Addr) (cap one other : Nat) (w : World) (hw : WSt w Bw Bm a cap zs h) (h1 : one < zs.length) (h2 : other < zs.length)
    (hP : ∀ (h' : Nat → Nat) (n o : Nat) (W : World), Wb.rt zs h' < Wb.rt zs h → n < zs.length → o < zs.length → 0 ≤ Wb.sg zs n → Wb.sg zs o = Wb.sg zs n → WSt W Bw Bm a cap zs h' →
      Calls Try.prog 156 #[.pointer (some ⟨Bw, 0, none⟩), .int .i64 (n : Int), .int .i64 (o : Int)] W fun e W' => Keep W.heap.size Bm W W' ∧ TieAns W' e Bw Bm a cap zs h' (Wb.pairsTo zs n o (Tm.room (Wb.sg zs n)))) :
    Calls Try.prog 140 #[.pointer (some ⟨Bw, 0, none⟩), .int .i64 (one : Int), .int .i64 (other : Int)] w fun e w' => Keep w.heap.size Bm w w' ∧ TieAns w' e Bw Bm a cap zs h [(one, other)] := by
  obtain ⟨T, N, S, hW, hN⟩ := hw
  have hH1 := callsIn_wide.1 (head_in Fence.wide wide_pl 0 zs T h G S Bw Bm a cap N one h1 w hW)
  have hH2 := callsIn_wide.1 (head_in Fence.wide wide_pl 0 zs T h G S Bw Bm a cap N other h2 w hW)
  have hl5 := G.len
  have hl5' : (zs.length : Int) ≤ 5000 := by omega
  by_cases he : Wb.hd zs h one = Wb.hd zs h other
  · have hT := hid (Wb.TieL.same h1 h2 he)
    have hSt : Hid (WSt w Bw Bm a cap zs h) := ⟨T, N, S, hW, hN⟩
    rw [he] at hH1
    clear he hW S hP
    generalize Wb.hd zs h other = y at *
    go_enter Try.func140, Try.ntmps140
    go_wp2_with (first
      | (go_at_call_of 155 (Value.int .i64 (one : Int)); refine hH1.mono ?_; clear hH1; rintro e w ⟨rfl, rfl⟩)
      | (go_at_call_of 155 (Value.int .i64 (other : Int)); refine hH2.mono ?_; clear hH2; rintro e w ⟨rfl, rfl⟩))
    go_ret
    exact ⟨Keep.refl _ _ _, .inl ⟨rfl, h, hT.out, hSt.out, Nat.le_refl _⟩⟩
  · obtain ⟨l1, c1, r1⟩ := Wb.hd_lt G S h1
    obtain ⟨l2, c2, r2⟩ := Wb.hd_lt G S h2
    obtain ⟨b, off, rfl, hb, hc⟩ := hW.ints.at (by omega)
    have hcx : w.cell? ⟨b, off + Wb.hd zs h one, none⟩ = some (.int .i64 (Wb.sg zs (Wb.hd zs h one))) := hc _ l1
    have hcy : w.cell? ⟨b, off + Wb.hd zs h other, none⟩ = some (.int .i64 (Wb.sg zs (Wb.hd zs h other))) := hc _ l2
    have hw0 := hW.cell0
    have hw1 := hW.cell1
    clear hc
    by_cases hlt : Wb.sg zs (Wb.hd zs h one) < Wb.sg zs (Wb.hd zs h other)
    · have hEnds : Wb.Ends zs h one other (Wb.hd zs h one) (Wb.hd zs h other) := .inr ⟨rfl, rfl⟩
      generalize hx : Wb.hd zs h one = x at *
      generalize hy : Wb.hd zs h other = y at *
      clear hx hy
      have hne : x ≠ y := he
      have hneb : ((x : Int) == (y : Int)) = false := by simp; omega
      have hxl : (x : Int) < (zs.length : Int) := by omega
      have hyl : (y : Int) < (zs.length : Int) := by omega
      obtain ⟨ho, hn, co, cn, ro, rn, hsg⟩ : x < zs.length ∧ y < zs.length ∧ Wb.can zs x = x ∧ Wb.can zs y = y ∧ h x = x ∧ h y = y ∧ Wb.sg zs x ≤ Wb.sg zs y := ⟨l1, l2, c1, c2, r1, r2, by omega⟩
      go_enter Try.func140, Try.ntmps140
      obtain ⟨M, hM, hMT⟩ := hW.ties
      have hwfo := wfN (n := x) (by omega)
      have hset := hid (fun w1 (h1 : IntMap w1 Bm (N + 1) (upd M (x : Int) (.int .i64 (y : Int)))) h2 => hW.set hM hMT (o := x) (n := y) h1 h2)
      have HM := hid hM
      have hSt := hid (S.merge ho hn co cn ro rn hne hsg)
      have hrt := Wb.rt_merge ho co ro rn hne
      by_cases hov : Wb.sg zs x < 0
      · have hTie := hid (Wb.TieL.var G S h1 h2 hEnds hne hov)
        clear hM hMT S hne ro rn
        go_wp2_with (first
          | (go_at_call_of 155 (Value.int .i64 (one : Int)); refine hH1.mono ?_; clear hH1; rintro e w ⟨rfl, rfl⟩)
          | (go_at_call_of 155 (Value.int .i64 (other : Int)); refine hH2.mono ?_; clear hH2; rintro e w ⟨rfl, rfl⟩))
        go_quiet (fail)
        go_wp2_with (first
          | (at_mapUpdate; go_loud (refine wp_mapset _ rfl _ _ _ 194 rfl 3 Try.underlying194 Bm N M rfl (HM.out.drewN _) (by unfold maxLen; omega) (x : Int) rfl hwfo _ rfl ?_); intro w1 hM1 hg0; have hg1 := grown_drew hg0; have hW1 := hset.out w1 hM1 hg1; have hw10 := hW1.cell0; have hc1o := WebAt.sgn hW1 ho))
        go_ret
        exact ⟨Keep.of_grown hg1 (Nat.le_refl _), .inl ⟨rfl, _, hTie.out, ⟨_, _, hSt.out, hW1, by omega⟩, by omega⟩⟩
      · have hov0 : 0 ≤ Wb.sg zs x := by omega
        have hovd : decide (Wb.sg zs x < 0) = false := by simpa using hov
        by_cases hes : Wb.sg zs x = Wb.sg zs y
        · have hTie := hid (fun h2' K => Wb.TieL.sym (h2 := h2') G h1 h2 hEnds hne ho hn ro rn hov0 hes K)
          have hNo := hid (fun K => Wb.No.sym G h1 h2 hEnds ho hn hov0 (by omega) K)
          have hwf1 : ∀ w1, WebAt w1 Bw Bm (some ⟨b, off, none⟩) cap zs (N + 1) (Wb.updN T x y) → WSt w1 Bw Bm (some ⟨b, off, none⟩) cap zs (Wb.mg h x y) := fun w1 hw1 => ⟨_, _, hSt.out, hw1, by omega⟩
          have hcall := hid (fun w1 (hw1 : WebAt w1 Bw Bm (some ⟨b, off, none⟩) cap zs (N + 1) (Wb.updN T x y)) => tieQ (hP (Wb.mg h x y) y  x (w1.drewN 1) hrt hn ho (by omega) hes (hwf1 _ ⟨hw1.web, hw1.ints, hw1.ties⟩)))
          have heqb : (Wb.sg zs y == Wb.sg zs x) = true := by simp [hes]
          have hsn0 : 0 ≤ Wb.sg zs y := by omega
          clear hM hMT S hne ro rn hP hwf1 hes
          go_wp2_with (first
            | (go_at_call_of 155 (Value.int .i64 (one : Int)); refine hH1.mono ?_; clear hH1; rintro e w ⟨rfl, rfl⟩)
            | (go_at_call_of 155 (Value.int .i64 (other : Int)); refine hH2.mono ?_; clear hH2; rintro e w ⟨rfl, rfl⟩))
          go_quiet (fail)
          go_wp2_with (first
            | (at_mapUpdate; go_loud (refine wp_mapset _ rfl _ _ _ 194 rfl 3 Try.underlying194 Bm N M rfl (HM.out.drewN _) (by unfold maxLen; omega) (x : Int) rfl hwfo _ rfl ?_); intro w1 hM1 hg0; have hg1 := grown_drew hg0; have hW1 := hset.out w1 hM1 hg1; have hw10 := hW1.cell0; have hc1o := WebAt.sgn hW1 ho; have hc1n := WebAt.sgn hW1 hn))
          have hC := hcall.out w1 hW1
          clear hcall
          obtain ⟨es, clock, hmap⟩ := HM.out.map
          have hmap1 : ∃ es clock, w1.heap[Bm]? = some (.map es clock) := hM1.map
          obtain ⟨es1, clock1, hmap1⟩ := hmap1
          have hlw := hW1.lt.1
          have hlb : b < w1.heap.size := lt_of_cell hc1o
          have hnb : b ≠ Bm := ne_map hc1o hmap1
          have hnw : Bw ≠ Bm := ne_map hw10 hmap1
          go_region_held3 (fun w' => w'.cell? ⟨Bw, 0, none⟩ = some (.slice (some ⟨b, off, none⟩) zs.length cap) ∧ w'.cell? ⟨b, off + y, none⟩ = some (.int .i64 (Wb.sg zs y)) ∧ w'.cell? ⟨b, off + x, none⟩ = some (.int .i64 (Wb.sg zs x))) (first | assumption | exact ⟨hw10, hc1n, hc1o⟩) (first
            | (go_at_call 156; refine hC.mono ?_; clear hC; rintro e w2 ⟨q, rfl, hK2, hq2⟩; have hS2 : w2.cell? ⟨Bw, 0, none⟩ = some (.slice (some ⟨b, off, none⟩) zs.length cap) ∧ w2.cell? ⟨b, off + y, none⟩ = some (.int .i64 (Wb.sg zs y)) ∧ w2.cell? ⟨b, off + x, none⟩ = some (.int .i64 (Wb.sg zs x)) := ⟨(hK2.cell (p := ⟨Bw, 0, none⟩) hlw hnw).trans hw10, (hK2.cell (p := ⟨b, off + y, none⟩) hlb hnb).trans hc1n, (hK2.cell (p := ⟨b, off + x, none⟩) hlb hnb).trans hc1o⟩))
          all_goals (
            go_wp2
            go_ret
            refine ⟨(Keep.of_grown hg1 (Nat.le_refl _)).trans (Keep.mono (keepDrew hK2) hg1.size), ?_⟩
            rcases hq2 with ⟨rfl, h', hL, hS', hr'⟩ | ⟨rfl, hN'⟩
            · exact .inl ⟨rfl, h', hTie.out h' hL, hS', by omega⟩
            · exact .inr ⟨rfl, hNo.out hN'⟩)
        · have hNo := hid (Wb.No.clash G h1 h2 hEnds ho hn hov0 (by omega) hes)
          have hneq : (Wb.sg zs y == Wb.sg zs x) = false := by simp; exact fun e => hes e.symm
          clear hM hMT S hne ro rn hP hes
          go_wp2_with (first
            | (go_at_call_of 155 (Value.int .i64 (one : Int)); refine hH1.mono ?_; clear hH1; rintro e w ⟨rfl, rfl⟩)
            | (go_at_call_of 155 (Value.int .i64 (other : Int)); refine hH2.mono ?_; clear hH2; rintro e w ⟨rfl, rfl⟩))
          go_quiet (fail)
          go_wp2_with (first
            | (at_mapUpdate; go_loud (refine wp_mapset _ rfl _ _ _ 194 rfl 3 Try.underlying194 Bm N M rfl (HM.out.drewN _) (by unfold maxLen; omega) (x : Int) rfl hwfo _ rfl ?_); intro w1 hM1 hg0; have hg1 := grown_drew hg0; have hW1 := hset.out w1 hM1 hg1; have hw10 := hW1.cell0; have hc1o := WebAt.sgn hW1 ho; have hc1n := WebAt.sgn hW1 hn))
          go_quiet (fail)
          go_wp2
          go_ret
          exact ⟨keep_drewN (Keep.of_grown hg1 (Nat.le_refl _)) _, .inr ⟨rfl, hNo.out⟩⟩

    · have hEnds : Wb.Ends zs h one other (Wb.hd zs h other) (Wb.hd zs h one) := .inl ⟨rfl, rfl⟩
      generalize hx : Wb.hd zs h one = x at *
      generalize hy : Wb.hd zs h other = y at *
      clear hx hy
      have hne : y ≠ x := fun e => he e.symm
      have hltd : decide (Wb.sg zs x < Wb.sg zs y) = false := by simpa using hlt
      have hneb : ((x : Int) == (y : Int)) = false := by simp; omega
      have hxl : (x : Int) < (zs.length : Int) := by omega
      have hyl : (y : Int) < (zs.length : Int) := by omega
      obtain ⟨ho, hn, co, cn, ro, rn, hsg⟩ : y < zs.length ∧ x < zs.length ∧ Wb.can zs y = y ∧ Wb.can zs x = x ∧ h y = y ∧ h x = x ∧ Wb.sg zs y ≤ Wb.sg zs x := ⟨l2, l1, c2, c1, r2, r1, by omega⟩
      go_enter Try.func140, Try.ntmps140
      obtain ⟨M, hM, hMT⟩ := hW.ties
      have hwfo := wfN (n := y) (by omega)
      have hset := hid (fun w1 (h1 : IntMap w1 Bm (N + 1) (upd M (y : Int) (.int .i64 (x : Int)))) h2 => hW.set hM hMT (o := y) (n := x) h1 h2)
      have HM := hid hM
      have hSt := hid (S.merge ho hn co cn ro rn hne hsg)
      have hrt := Wb.rt_merge ho co ro rn hne
      by_cases hov : Wb.sg zs y < 0
      · have hTie := hid (Wb.TieL.var G S h1 h2 hEnds hne hov)
        clear hM hMT S hne ro rn
        go_wp2_with (first
          | (go_at_call_of 155 (Value.int .i64 (one : Int)); refine hH1.mono ?_; clear hH1; rintro e w ⟨rfl, rfl⟩)
          | (go_at_call_of 155 (Value.int .i64 (other : Int)); refine hH2.mono ?_; clear hH2; rintro e w ⟨rfl, rfl⟩))
        go_quiet (fail)
        go_wp2_with (first
          | (at_mapUpdate; go_loud (refine wp_mapset _ rfl _ _ _ 194 rfl 3 Try.underlying194 Bm N M rfl (HM.out.drewN _) (by unfold maxLen; omega) (y : Int) rfl hwfo _ rfl ?_); intro w1 hM1 hg0; have hg1 := grown_drew hg0; have hW1 := hset.out w1 hM1 hg1; have hw10 := hW1.cell0; have hc1o := WebAt.sgn hW1 ho))
        go_ret
        exact ⟨Keep.of_grown hg1 (Nat.le_refl _), .inl ⟨rfl, _, hTie.out, ⟨_, _, hSt.out, hW1, by omega⟩, by omega⟩⟩
      · have hov0 : 0 ≤ Wb.sg zs y := by omega
        have hovd : decide (Wb.sg zs y < 0) = false := by simpa using hov
        by_cases hes : Wb.sg zs y = Wb.sg zs x
        · have hTie := hid (fun h2' K => Wb.TieL.sym (h2 := h2') G h1 h2 hEnds hne ho hn ro rn hov0 hes K)
          have hNo := hid (fun K => Wb.No.sym G h1 h2 hEnds ho hn hov0 (by omega) K)
          have hwf1 : ∀ w1, WebAt w1 Bw Bm (some ⟨b, off, none⟩) cap zs (N + 1) (Wb.updN T y x) → WSt w1 Bw Bm (some ⟨b, off, none⟩) cap zs (Wb.mg h y x) := fun w1 hw1 => ⟨_, _, hSt.out, hw1, by omega⟩
          have hcall := hid (fun w1 (hw1 : WebAt w1 Bw Bm (some ⟨b, off, none⟩) cap zs (N + 1) (Wb.updN T y x)) => tieQ (hP (Wb.mg h y x) x  y (w1.drewN 1) hrt hn ho (by omega) hes (hwf1 _ ⟨hw1.web, hw1.ints, hw1.ties⟩)))
          have heqb : (Wb.sg zs x == Wb.sg zs y) = true := by simp [hes]
          have hsn0 : 0 ≤ Wb.sg zs x := by omega
          clear hM hMT S hne ro rn hP hwf1 hes
          go_wp2_with (first
            | (go_at_call_of 155 (Value.int .i64 (one : Int)); refine hH1.mono ?_; clear hH1; rintro e w ⟨rfl, rfl⟩)
            | (go_at_call_of 155 (Value.int .i64 (other : Int)); refine hH2.mono ?_; clear hH2; rintro e w ⟨rfl, rfl⟩))
          go_quiet (fail)
          go_wp2_with (first
            | (at_mapUpdate; go_loud (refine wp_mapset _ rfl _ _ _ 194 rfl 3 Try.underlying194 Bm N M rfl (HM.out.drewN _) (by unfold maxLen; omega) (y : Int) rfl hwfo _ rfl ?_); intro w1 hM1 hg0; have hg1 := grown_drew hg0; have hW1 := hset.out w1 hM1 hg1; have hw10 := hW1.cell0; have hc1o := WebAt.sgn hW1 ho; have hc1n := WebAt.sgn hW1 hn))
          have hC := hcall.out w1 hW1
          clear hcall
          obtain ⟨es, clock, hmap⟩ := HM.out.map
          have hmap1 : ∃ es clock, w1.heap[Bm]? = some (.map es clock) := hM1.map
          obtain ⟨es1, clock1, hmap1⟩ := hmap1
          have hlw := hW1.lt.1
          have hlb : b < w1.heap.size := lt_of_cell hc1o
          have hnb : b ≠ Bm := ne_map hc1o hmap1
          have hnw : Bw ≠ Bm := ne_map hw10 hmap1
          go_region_held3 (fun w' => w'.cell? ⟨Bw, 0, none⟩ = some (.slice (some ⟨b, off, none⟩) zs.length cap) ∧ w'.cell? ⟨b, off + x, none⟩ = some (.int .i64 (Wb.sg zs x)) ∧ w'.cell? ⟨b, off + y, none⟩ = some (.int .i64 (Wb.sg zs y))) (first | assumption | exact ⟨hw10, hc1n, hc1o⟩) (first
            | (go_at_call 156; refine hC.mono ?_; clear hC; rintro e w2 ⟨q, rfl, hK2, hq2⟩; have hS2 : w2.cell? ⟨Bw, 0, none⟩ = some (.slice (some ⟨b, off, none⟩) zs.length cap) ∧ w2.cell? ⟨b, off + x, none⟩ = some (.int .i64 (Wb.sg zs x)) ∧ w2.cell? ⟨b, off + y, none⟩ = some (.int .i64 (Wb.sg zs y)) := ⟨(hK2.cell (p := ⟨Bw, 0, none⟩) hlw hnw).trans hw10, (hK2.cell (p := ⟨b, off + x, none⟩) hlb hnb).trans hc1n, (hK2.cell (p := ⟨b, off + y, none⟩) hlb hnb).trans hc1o⟩))
          all_goals (
            go_wp2
            go_ret
            refine ⟨(Keep.of_grown hg1 (Nat.le_refl _)).trans (Keep.mono (keepDrew hK2) hg1.size), ?_⟩
            rcases hq2 with ⟨rfl, h', hL, hS', hr'⟩ | ⟨rfl, hN'⟩
            · exact .inl ⟨rfl, h', hTie.out h' hL, hS', by omega⟩
            · exact .inr ⟨rfl, hNo.out hN'⟩)
        · have hNo := hid (Wb.No.clash G h1 h2 hEnds ho hn hov0 (by omega) hes)
          have hneq : (Wb.sg zs x == Wb.sg zs y) = false := by simp; exact fun e => hes e.symm
          clear hM hMT S hne ro rn hP hes
          go_wp2_with (first
            | (go_at_call_of 155 (Value.int .i64 (one : Int)); refine hH1.mono ?_; clear hH1; rintro e w ⟨rfl, rfl⟩)
            | (go_at_call_of 155 (Value.int .i64 (other : Int)); refine hH2.mono ?_; clear hH2; rintro e w ⟨rfl, rfl⟩))
          go_quiet (fail)
          go_wp2_with (first
            | (at_mapUpdate; go_loud (refine wp_mapset _ rfl _ _ _ 194 rfl 3 Try.underlying194 Bm N M rfl (HM.out.drewN _) (by unfold maxLen; omega) (y : Int) rfl hwfo _ rfl ?_); intro w1 hM1 hg0; have hg1 := grown_drew hg0; have hW1 := hset.out w1 hM1 hg1; have hw10 := hW1.cell0; have hc1o := WebAt.sgn hW1 ho; have hc1n := WebAt.sgn hW1 hn))
          go_quiet (fail)
          go_wp2
          go_ret
          exact ⟨keep_drewN (Keep.of_grown hg1 (Nat.le_refl _)) _, .inr ⟨rfl, hNo.out⟩⟩
theorem results_boxB {fn : Func} {tmps : Array Value} {w : World} {a B : Nat} {v : Bool} (h : fn.results = #[.cell a 4]) (ht : tmps.getD a undef = .pointer (some ⟨B, 0, none⟩)) (hc : w.cell? ⟨B, 0, none⟩ = some (.bool v)) : (results fn tmps).run Try.prog w = .ok (.bool v) w := by
  have ht' : tmps[a]?.getD undef = .pointer (some ⟨B, 0, none⟩) := by rw [← ht]; simp
  simp only [results, h]
  simp [go_sem, ht', hc]
end Go.Proofs.Ytgeknojpcjadkaa
namespace Go.Proofs.Ytgeknojpcjadkaa
open Go.Proofs Go.RowKit Go.Shelf Go.Maps
attribute [local go_sem] Oper.semAt_some
theorem WSt.keep {W W' : World} {Bw Bm b off n : Nat} {cap : Nat} {zs : List Int} {h : Nat → Nat} (H : WSt W Bw Bm (some ⟨b, off, none⟩) cap zs h) (h1 : Bw < n) (h2 : Bm < n) (h3 : b < n) (hn : n ≤ W'.heap.size) (hk : ∀ k, k < n → W'.heap[k]? = W.heap[k]?) : WSt W' Bw Bm (some ⟨b, off, none⟩) cap zs h := by
  obtain ⟨T, N, S, hW, hN⟩ := H
  refine ⟨T, N, S, ⟨(hk Bw h1).trans hW.web, fun j hj => ?_, ?_⟩, hN⟩
  · obtain ⟨b', off', e, _, hc⟩ := hW.ints j hj
    cases e
    exact ⟨b, off, rfl, by omega, (World.cell?_of_block (a := ⟨b, off + j, none⟩) (hk b h3)).trans hc⟩
  · obtain ⟨M, hM, hMT⟩ := hW.ties
    exact ⟨M, hM.keep (hk Bm h2), hMT⟩
theorem WSt.ints {W : World} {Bw Bm : Nat} {a : Option Addr} {cap : Nat} {zs : List Int} {h : Nat → Nat} (H : WSt W Bw Bm a cap zs h) : Ints W.heap.size W a zs := by
  obtain ⟨T, N, S, hW, hN⟩ := H
  exact hW.ints
theorem WSt.cell0 {W : World} {Bw Bm : Nat} {a : Option Addr} {cap : Nat} {zs : List Int} {h : Nat → Nat} (H : WSt W Bw Bm a cap zs h) : W.cell? ⟨Bw, 0, none⟩ = some (.slice a zs.length cap) := by
  obtain ⟨T, N, S, hW, hN⟩ := H
  exact hW.cell0
theorem WSt.lt {W : World} {Bw Bm : Nat} {a : Option Addr} {cap : Nat} {zs : List Int} {h : Nat → Nat} (H : WSt W Bw Bm a cap zs h) : Bw < W.heap.size ∧ Bm < W.heap.size := by
  obtain ⟨T, N, S, hW, hN⟩ := H
  exact hW.lt
theorem keep_own {n m B : Nat} {w X Y : World} {row : Option Nat} (hB : n ≤ B) (h : Keep n m w X) (hg : X.grownBy Y row) (hr : ∀ r, row = some r → B ≤ r ∧ ∃ o : Obj, X.heap[r]? = some o ∧ o.isCells = false) (hn : n ≤ w.heap.size := by exact Nat.le_refl _) : Keep n m w Y :=
  ⟨hg.os.trans h.os, hg.tape.trans h.tape, hg.output.trans h.output, Nat.le_trans h.size hg.size, fun k hk hm => (hg.block k (by have := h.size; omega) (fun e => by have := (hr k e.symm).1; omega)).trans (h.block k hk hm)⟩
theorem keep_set {n m B : Nat} {w X : World} (h : Keep n m w X) (hB : n ≤ B) (v : Value) : Keep n m w (X.setCell ⟨B, 0, none⟩ v) :=
  ⟨h.os, h.tape, h.output, Nat.le_trans h.size (KeepsWalks.setCell X _ v).size, fun k hk hm => (Below.heap_setCell X ⟨B, 0, none⟩ v k (by show k ≠ B; omega)).trans (h.block k hk hm)⟩
structure TPInv (w : World) (Bw Bm b off cap : Nat) (zs : List Int) (h : Nat → Nat) (one other i : Nat) (W : World) : Prop where
  st : ∃ h', Wb.TieL zs h h' (Wb.pairsTo zs one other i) ∧ WSt W Bw Bm (some ⟨b, off, none⟩) cap zs h' ∧ Wb.rt zs h' ≤ Wb.rt zs h
  bA : Boxed W (w.heap.size + 1 + 1) 3 (.int .i64 (Tm.pos zs other i : Int))
  bW : Boxed W w.heap.size 191 (.pointer (some ⟨Bw, 0, none⟩))
  bR : Boxed W (w.heap.size + 1) 4 (.bool false)
  bK : Boxed W (w.heap.size + 1 + 1 + 1 + 1) 3 (.int .i64 (one : Int))
  bT : Boxed W (w.heap.size + 1 + 1 + 1) 37 (.slice (some ⟨b, off, none⟩) zs.length cap)
  kp : Keep w.heap.size Bm w W
theorem TPInv.own {w : World} {Bw Bm b off cap : Nat} {zs : List Int} {h : Nat → Nat} {one other B : Nat} (h1 : Bw < w.heap.size) (h2 : Bm < w.heap.size) (h3 : b < w.heap.size) (hB : w.heap.size ≤ B) : OwnFrom B (TPInv w Bw Bm b off cap zs h one other) := by
  rintro i X Y row ⟨⟨h', hL, hS, hr⟩, bA, bW, bR, bK, bT, hK⟩ hg hrow
  have hbx : ∀ {C : Nat} {t : TypeId} {v : Value}, Boxed X C t v → Boxed Y C t v := fun {C t v} hb => (boxed_own C t (fun _ : Unit => v)).from B () X Y row hb hg hrow
  refine ⟨⟨h', hL, hS.keep h1 h2 h3 (Nat.le_trans hK.size hg.size) fun k hk => hg.block k (by have := hK.size; omega) (fun e => by have := (hrow k e.symm).1; omega), hr⟩, hbx bA, hbx bW, hbx bR, hbx bK, hbx bT, keep_own hB hK hg hrow⟩
set_option maxRecDepth 100000 in
set_option maxHeartbeats 2000000 in
theorem tieParts_step (zs : List Int) (G : Wb.Good zs) (h : Nat → Nat) (Bw Bm b off : Nat) (cap one other : Nat) (w : World) (hw : WSt w Bw Bm (some ⟨b, off, none⟩) cap zs h) (h1 : one < zs.length) (h2 : other < zs.length) (hs2 : Wb.sg zs other = Wb.sg zs one)
    (hT : ∀ (h' : Nat → Nat) (p q : Nat) (W : World), Wb.rt zs h' ≤ Wb.rt zs h → p < zs.length → q < zs.length → WSt W Bw Bm (some ⟨b, off, none⟩) cap zs h' →
      Calls Try.prog 140 #[.pointer (some ⟨Bw, 0, none⟩), .int .i64 (p : Int), .int .i64 (q : Int)] W fun e W' => Keep W.heap.size Bm W W' ∧ TieAns W' e Bw Bm (some ⟨b, off, none⟩) cap zs h' [(p, q)]) :
    Calls Try.prog 156 #[.pointer (some ⟨Bw, 0, none⟩), .int .i64 (one : Int), .int .i64 (other : Int)] w fun e w' => Keep w.heap.size Bm w w' ∧ TieAns w' e Bw Bm (some ⟨b, off, none⟩) cap zs h (Wb.pairsTo zs one other (Tm.room (Wb.sg zs one))) := by
  obtain ⟨F, hF⟩ : ∃ F, F = Fence.wide := ⟨_, rfl⟩
  refine (callsIn_wide (n := 3)).1 ?_
  rw [← hF]
  obtain ⟨hro, hfn, hdd, hcin⟩ := wide_facts hF
  have HPl : Hid (Pl F) := by rw [hF]; exact wide_pl
  clear hF
  have hf1 := hfn 156
  have hf2 := hfn 140
  have hf3 := hfn 121
  have hf4 := hfn 147
  have hf5 := hfn 89
  clear hfn
  have hl5 := G.len
  have hl5' : (zs.length : Int) ≤ 5000 := by omega
  have h2' : (other : Int) < (zs.length : Int) := by omega
  have h1' : (one : Int) < (zs.length : Int) := by omega
  have hw0 := hw.cell0
  have hlt := hw.lt
  obtain ⟨b', off', e, hb, hcb⟩ := hw.ints.at (by omega)
  cases e
  have hB0 : Below w.heap.size w (((w.alloc (.cells #[.pointer (some ⟨Bw, 0, none⟩)] 191)).alloc (.cells #[.bool false] 4)).alloc (.cells #[.int .i64 ((other : Int) + 1)] 3)) :=
    (((Below.refl _ w).alloc (Nat.le_refl _) _).alloc (by simp) _).alloc (by simp; omega) _
  have hcw0 := (hB0.cell (p := ⟨Bw, 0, none⟩) hlt.1).trans hw0
  have bW := ((Boxed.new w 191 (.pointer (some ⟨Bw, 0, none⟩))).alloc (.cells #[.bool false] 4)).alloc (.cells #[.int .i64 ((other : Int) + 1)] 3)
  have bR := (Boxed.new (w.alloc (.cells #[.pointer (some ⟨Bw, 0, none⟩)] 191)) 4 (.bool false)).alloc (.cells #[.int .i64 ((other : Int) + 1)] 3)
  have bA := Boxed.new ((w.alloc (.cells #[.pointer (some ⟨Bw, 0, none⟩)] 191)).alloc (.cells #[.bool false] 4)) 3 (.int .i64 ((other : Int) + 1))
  simp only [World.size_alloc] at bR bA
  have hs3 : (((w.alloc (.cells #[.pointer (some ⟨Bw, 0, none⟩)] 191)).alloc (.cells #[.bool false] 4)).alloc (.cells #[.int .i64 ((other : Int) + 1)] 3)).heap.size = w.heap.size + 1 + 1 + 1 := by simp
  obtain ⟨W3, hW3⟩ : ∃ W3, ((w.alloc (.cells #[.pointer (some ⟨Bw, 0, none⟩)] 191)).alloc (.cells #[.bool false] 4)).alloc (.cells #[.int .i64 ((other : Int) + 1)] 3) = W3 := ⟨_, rfl⟩
  have HW3 := hid hW3
  have Hs3 : Hid (W3.heap.size = w.heap.size + 1 + 1 + 1) := by show _ = _; rw [← hW3]; exact hs3
  rw [hW3] at hB0 bW bR bA
  clear hW3 hs3
  refine callsIn_of_wp_marks Try.func156 rfl hf1 ?_ hro
  simp only [Try.ntmps156, List.size_toArray, List.length_cons, List.length_nil, Nat.reduceAdd, Nat.reduceSub, Array.replicate_succ, Array.replicate_zero, List.push_toArray, List.append_toArray, List.nil_append, List.cons_append]
  gi_wp2_with (first
    | ((try refine ⟨hdd _, ?_⟩); gi_at_call 121; refine (partsx_in F HPl.out _ _ _ _ _ _).mono ?_; rintro e w' ⟨rfl, rfl⟩))
  rw [HW3.out]
  have hs3 := Hs3.out
  have bW5 := (bW.alloc (.cells #[.slice (some ⟨b, off, none⟩) zs.length cap] 37)).alloc (.cells #[.int .i64 (one : Int)] 3)
  have bR5 := (bR.alloc (.cells #[.slice (some ⟨b, off, none⟩) zs.length cap] 37)).alloc (.cells #[.int .i64 (one : Int)] 3)
  have bA5 := (bA.alloc (.cells #[.slice (some ⟨b, off, none⟩) zs.length cap] 37)).alloc (.cells #[.int .i64 (one : Int)] 3)
  have bT5 := (Boxed.new W3 37 (.slice (some ⟨b, off, none⟩) zs.length cap)).alloc (.cells #[.int .i64 (one : Int)] 3)
  have bK5 := Boxed.new (W3.alloc (.cells #[.slice (some ⟨b, off, none⟩) zs.length cap] 37)) 3 (.int .i64 (one : Int))
  rw [World.size_alloc, hs3] at bK5
  rw [hs3] at bT5
  have hB5 : Below w.heap.size w ((W3.alloc (.cells #[.slice (some ⟨b, off, none⟩) zs.length cap] 37)).alloc (.cells #[.int .i64 (one : Int)] 3)) := (hB0.alloc (by omega) _).alloc (by simp; omega) _
  have hs5 : ((W3.alloc (.cells #[.slice (some ⟨b, off, none⟩) zs.length cap] 37)).alloc (.cells #[.int .i64 (one : Int)] 3)).heap.size = w.heap.size + 1 + 1 + 1 + 1 + 1 := by simp [hs3]
  have hrm := Tm.room_le (Wb.sg zs one)
  have hkp : ∀ i, i < Tm.room (Wb.sg zs one) → Tm.pos zs one i < zs.length ∧ Tm.pos zs other i < zs.length := fun i hi => ⟨Wb.kid_lt G h1 hi, Wb.kid_lt G h2 (by rw [hs2]; exact hi)⟩
  have HG := hid G
  have HT := hid hT
  have Hkp := hid hkp
  clear hT hkp G bW bR bA hcw0 hcb HW3
  refine wpIn_rangeSteps hro (by omega) (gf := 147) (lb := #[.pointer (some ⟨w.heap.size + 1 + 1 + 1 + 1, 0, none⟩), .pointer (some ⟨w.heap.size + 1 + 1 + 1, 0, none⟩)]) rfl hf4 (enters_of Try.func147 (by kernel_rfl) rfl)
    (parts_steps F HPl.out _ (w.heap.size + 1 + 1 + 1 + 1) (w.heap.size + 1 + 1 + 1) one cap (some ⟨b, off, none⟩) zs hl5 h1 (ends_beyond F HPl.out zs hl5 _ cap one)) (fun _ => rfl)
    (TPInv w Bw Bm b off cap zs h one other)
    (fun c W => c = .ret ∧ Wb.No zs h (Wb.pairsTo zs one other (Tm.room (Wb.sg zs one))) ∧ Boxed W (w.heap.size + 1) 4 (.bool false) ∧ Keep w.heap.size Bm w W) (fun _ _ => False) (.inl fun _ _ h => h)
    (TPInv.own hlt.1 hlt.2 hb (by rw [hs5]; omega))
    (by
      rintro c X Y row ⟨e, hN, hB, hK⟩ hg hr
      exact ⟨e, hN, (boxed_own (w.heap.size + 1) 4 (fun _ : Unit => .bool false)).from _ () X Y row hB hg hr, keep_own (by rw [hs5]; omega) hK hg hr⟩)
    (fun i W hI => ⟨hI.bK.cell, hI.bT.cell, by obtain ⟨h', _, hS, _⟩ := hI.st; exact hS.ints⟩)
    ⟨⟨h, Wb.TieL.nil _ _, hw.keep hlt.1 hlt.2 hb hB5.size (fun k hk => hB5.block k hk), Nat.le_refl _⟩, by rw [Tm.pos_zero]; exact bA5, bW5, bR5, bK5, bT5, Keep.of_below hB5⟩
    (fun i => { tmps := #[.pointer (some ⟨Bw, 0, none⟩), .int .i64 (one : Int), .int .i64 (other : Int), .pointer (some ⟨w.heap.size, 0, none⟩), undef, undef, .pointer (some ⟨w.heap.size + 1, 0, none⟩), .pointer (some ⟨w.heap.size + 1 + 1, 0, none⟩), .int .i64 (Tm.pos zs one i : Int), .int .i64 (other : Int), .int .i64 ((other : Int) + 1),
      .pointer (some ⟨Bw, 0, none⟩), .pointer (some ⟨Bw, 0, none⟩), .pointer (some ⟨Bw, 0, none⟩), .slice (some ⟨b, off, none⟩) zs.length cap, .int .i64 (one : Int), .func (.func 147) #[] #[.pointer (some ⟨w.heap.size + 1 + 1 + 1 + 1, 0, none⟩), .pointer (some ⟨w.heap.size + 1 + 1 + 1, 0, none⟩)],
      .int .i64 (Tm.pos zs one i : Int), .int .i64 (Tm.pos zs one (i + 1) : Int), undef, undef, undef, undef, undef, undef, undef, undef, undef, undef, undef], defers := [] }) ?assign ?body ?done ?stop ?panic
  case assign =>
    intro l i W K hK
    simp only [encPart]
    gi_wp2
    exact hK
  case body =>
    rintro l i W hI hi
    obtain ⟨⟨h', hL, hS, hr⟩, bA, bW, bR, bK, bT, hK⟩ := hI
    have hi' : i < Tm.room (Wb.sg zs one) := hi
    obtain ⟨hp1, hp2⟩ := Hkp.out i hi'
    have hCt := hid (CallsIn.inRound l (hcin (n := 0) (tieQ (HT.out h' (Tm.pos zs one i) (Tm.pos zs other i) W hr hp1 hp2 hS))))
    have c1 := bW.cell
    have c2 := bA.cell
    have hlw := bT.lt
    have hlk := bK.lt
    have hK0 := hid hK
    have hL0 := hid hL
    have hne : ∀ k, w.heap.size ≤ k → k ≠ Bm := fun k hk e => by have := hlt.2; omega
    have mixed : Try.prog.follows .mixedOrders = true := by kernel_rfl
    have hpo : Tm.pos zs other (i + 1) = Tm.endAt zs (Tm.pos zs other i) := Tm.pos_succ zs other i
    have Hpo := hid hpo
    have hp2' : (Tm.pos zs other i : Int) < (zs.length : Int) := by omega
    clear hpo
    gi_wp2_with (first
      | ((try refine ⟨hdd _, ?_⟩); gi_at_call 140; refine hCt.out.mono ?_; clear hCt; rintro e W1 ⟨q, rfl, hK1, hq⟩; have bA1 : Boxed W1 (w.heap.size + 1 + 1) 3 (.int .i64 (Tm.pos zs other i : Int)) := (hK1.block _ bA.lt (hne _ (by omega))).trans bA; have bW1 : Boxed W1 w.heap.size 191 (.pointer (some ⟨Bw, 0, none⟩)) := (hK1.block _ bW.lt (hne _ (by omega))).trans bW; have bR1 : Boxed W1 (w.heap.size + 1) 4 (.bool false) := (hK1.block _ bR.lt (hne _ (by omega))).trans bR; have bK1 : Boxed W1 (w.heap.size + 1 + 1 + 1 + 1) 3 (.int .i64 (one : Int)) := (hK1.block _ bK.lt (hne _ (by omega))).trans bK; have bT1 : Boxed W1 (w.heap.size + 1 + 1 + 1) 37 (.slice (some ⟨b, off, none⟩) zs.length cap) := (hK1.block _ bT.lt (hne _ (by omega))).trans bT; have cR := bR1.cell; have fR := bR1.frozen; have hKw : Keep w.heap.size Bm w W1 := hK0.out.trans (hK1.mono hK0.out.size); have hkf : KeepsFrom (w.heap.size + 1 + 1 + 1 + 1 + 1) W W1 := ⟨hK1.size, fun k o hk ho _ => (hK1.block k (Array.getElem?_eq_some_iff.1 ho).1 (hne k (by omega))).trans ho⟩; rcases hq with ⟨rfl, h2', hL2, hS2, hr2⟩ | ⟨rfl, hN⟩))
    · skip
      have c3 := bW1.cell
      have c4 := bA1.cell
      have f4 := bA1.frozen
      have c5 := hS2.cell0
      have hEn := hid (endx_all F HPl.out zs hl5 (some ⟨b, off, none⟩) cap _ (Tm.pos zs other i) 0 (Nat.le_refl _) (by omega) W1.drew hS2.ints)
      gi_region_with_o (first | ((try refine ⟨hdd _, ?_⟩); gi_at_call 89; refine (CallsIn.inRound l hEn.out).mono ?_; rintro e W2 ⟨rfl, hB2⟩; have bA2 : Boxed W2 (w.heap.size + 1 + 1) 3 (.int .i64 (Tm.pos zs other i : Int)) := (hB2.block _ bA1.lt).trans bA1; have c6 := bA2.cell; have f6 := bA2.frozen))
      all_goals (
        gi_wp2
        rw [hs5]
        refine ⟨(hkf.trans ⟨hB2.size, fun k o _ ho _ => (hB2.block k (Array.getElem?_eq_some_iff.1 ho).1).trans ho⟩).trans ((KeepsOthers.setCell _ _ _).from _), ?_⟩
        have hnp : ∀ (p q : Nat), (p, q) ∈ Wb.pairsTo zs one other i → p < zs.length ∧ q < zs.length := fun p q hx => by
          obtain ⟨j, hj, rfl, rfl⟩ := Wb.mem_pairsTo hx
          exact Hkp.out j (by omega)
        have hst : WSt (W2.setCell ⟨w.heap.size + 1 + 1, 0, none⟩ (.int .i64 (Tm.endAt zs (Tm.pos zs other i) : Int))) Bw Bm (some ⟨b, off, none⟩) cap zs h2' :=
          hS2.keep hlt.1 hlt.2 hb (Nat.le_trans (Nat.le_trans hKw.size hB2.size) (KeepsWalks.setCell W2 _ _).size) fun k hk => (Below.heap_setCell W2 ⟨w.heap.size + 1 + 1, 0, none⟩ _ k (show k ≠ w.heap.size + 1 + 1 by omega)).trans (hB2.block k (by have := hKw.size; exact Nat.lt_of_lt_of_le hk this))
        have hkw2 : Keep w.heap.size Bm w W2 := hKw.trans (keepDrew (d := 1) (Keep.of_below (hB2.mono hKw.size)))
        refine ⟨⟨h2', ?_, hst, by omega⟩, ?_, Boxed.other ((hB2.block _ bW1.lt).trans bW1) (by omega) _, Boxed.other ((hB2.block _ bR1.lt).trans bR1) (by omega) _, Boxed.other ((hB2.block _ bK1.lt).trans bK1) (by omega) _, Boxed.other ((hB2.block _ bT1.lt).trans bT1) (by omega) _, keep_set hkw2 (by omega) _⟩
        · rw [Wb.pairsTo_succ]; exact hL0.out.snoc hL2 hnp
        · rw [Hpo.out]; exact bA2.set _)
    · skip
      rw [hs5]
      exact ⟨hkf.trans ((KeepsOthers.setCell _ _ _).from _), rfl, Wb.No.later hL0.out hN (fun x hx => by
          obtain ⟨p, q⟩ := x
          obtain ⟨j, hj, rfl, rfl⟩ := Wb.mem_pairsTo hx
          exact Wb.pairsTo_mem (by omega)) (fun x hx => by simp at hx; subst hx; exact Wb.pairsTo_mem hi'), bR1.set _, keep_set hKw (by omega) _⟩
  case done =>
    rintro D W hD hI hDd
    obtain ⟨⟨h', hL, hS, hr⟩, bA, bW, bR, bK, bT, hK⟩ := hI
    have c1 := bR.cell
    have c2 := bR.frozen
    rw [hs5] at hD
    gi_wp2
    have bR2 := bR.set (.bool true)
    have hDd2 : (W.setCell ⟨w.heap.size + 1, 0, none⟩ (.bool true)).heap[D]? = some (.deferred (some [])) := (Below.heap_setCell W ⟨w.heap.size + 1, 0, none⟩ _ D (show D ≠ w.heap.size + 1 by omega)).trans hDd
    refine ⟨by simp, .inl ⟨_, _, rfl, run_takeDeferred hDd2, ?_⟩⟩
    have hkp : ∀ k, k < w.heap.size → ((W.setCell ⟨w.heap.size + 1, 0, none⟩ (.bool true)).putObj D (.deferred none)).heap[k]? = W.heap[k]? := fun k hk => (World.putObj_heap_other (by omega)).trans (Below.heap_setCell W ⟨w.heap.size + 1, 0, none⟩ _ k (show k ≠ w.heap.size + 1 by omega))
    refine ⟨_, results_boxB rfl rfl ((World.cell?_of_block (a := ⟨w.heap.size + 1, 0, none⟩) (World.putObj_heap_other (show w.heap.size + 1 ≠ D by omega))).trans bR2.cell), ?_⟩
    refine ⟨?_, .inl ⟨rfl, h', hL, hS.keep hlt.1 hlt.2 hb ?_ hkp, hr⟩⟩
    · exact ⟨hK.os, hK.tape, hK.output, by have := hK.size; have := (KeepsWalks.setCell W ⟨w.heap.size + 1, 0, none⟩ (.bool true)).size; simp; omega, fun k hk hm => (hkp k hk).trans (hK.block k hk hm)⟩
    · have := hK.size; have := (KeepsWalks.setCell W ⟨w.heap.size + 1, 0, none⟩ (.bool true)).size; simp; omega
  case stop =>
    rintro D c W hD ⟨rfl, hN, bR, hK⟩ hDd
    have c1 := bR.cell
    rw [hs5] at hD
    gi_wp2
    refine ⟨by simp, .inl ⟨_, _, rfl, run_takeDeferred hDd, ?_⟩⟩
    refine ⟨_, results_boxB rfl rfl ((World.cell?_of_block (a := ⟨w.heap.size + 1, 0, none⟩) (World.putObj_heap_other (show w.heap.size + 1 ≠ D by omega))).trans c1), ?_⟩
    exact ⟨⟨hK.os, hK.tape, hK.output, by have := hK.size; simp; omega, fun k hk hm => (World.putObj_heap_other (by omega)).trans (hK.block k hk hm)⟩, .inr ⟨rfl, hN⟩⟩
  case panic => exact fun _ _ _ _ h => h.elim
theorem tie_all (zs : List Int) (G : Wb.Good zs) (Bw Bm b off cap : Nat) : ∀ (m : Nat) (h : Nat → Nat), Wb.rt zs h ≤ m → ∀ (one other : Nat) (w : World), one < zs.length → other < zs.length → WSt w Bw Bm (some ⟨b, off, none⟩) cap zs h →
    Calls Try.prog 140 #[.pointer (some ⟨Bw, 0, none⟩), .int .i64 (one : Int), .int .i64 (other : Int)] w fun e w' => Keep w.heap.size Bm w w' ∧ TieAns w' e Bw Bm (some ⟨b, off, none⟩) cap zs h [(one, other)] := by
  intro m
  induction m with
  | zero =>
    intro h hm one other w h1 h2 hw
    exact tie_step zs G h Bw Bm _ cap one other w hw h1 h2 (fun h' n o W hr => by omega)
  | succ m ih =>
    intro h hm one other w h1 h2 hw
    exact tie_step zs G h Bw Bm _ cap one other w hw h1 h2 (fun h' n o W hr hn ho _ hs hW => tieParts_step zs G h' Bw Bm b off cap n o W hW hn ho hs (fun h'' p q W' hr' hp hq hW' => ih h'' (by omega) p q W' hp hq hW'))
end Go.Proofs.Ytgeknojpcjadkaa
