/-
  haspref.plain, PlainOf: the variables that have been seen lie in a slice. · signs.Places: the iterator over all places.
-/
import Derived.Test.YtjaikmlbajdedadBun4
namespace Go.Proofs.Ytjaikmlbajdedad
open Go.Proofs Go.RowKit Go.Shelf Go.Maps

theorem Tm.see_nodup {seen : List Int} (h : seen.Nodup) (s : Int) : (Tm.see seen s).Nodup := by
  unfold Tm.see
  split
  · split
    · exact h
    · rename_i hc
      have : ¬ s ∈ seen := by simpa using hc
      rw [List.nodup_append]
      exact ⟨h, by simp, fun x hx y hy => by simp at hy; subst hy; rintro rfl; exact this hx⟩
  · exact h
theorem Tm.seen_nodup (t : List Int) : ∀ seen : List Int, seen.Nodup → (Tm.seenFrom seen t).Nodup := by
  induction t with
  | nil => intro seen h; exact h
  | cons s l ih => intro seen h; exact ih _ (Tm.see_nodup h s)
theorem Tm.idx_at {seen : List Int} (hn : seen.Nodup) {i : Nat} (hi : i < seen.length) {s : Int} (h : seen[i]?.getD 0 = s) : Tm.idx seen s = i := by
  unfold Tm.idx
  have h' : seen[i] = s := by simpa [hi] using h
  rw [List.findIdx_eq hi]
  refine ⟨by simp [h'], fun j hj => ?_⟩
  simp only [beq_eq_false_iff_ne]
  intro e
  exact (List.pairwise_iff_getElem.1 hn) j i (by omega) hi hj (e.trans h'.symm)
theorem Tm.has_at {seen : List Int} {i : Nat} (hi : i < seen.length) {s : Int} (h : seen[i]?.getD 0 = s) : seen.contains s = true := by
  have h' : seen[i] = s := by simpa [hi] using h
  simp only [List.contains_iff_mem]
  rw [← h']
  exact List.getElem_mem hi
theorem Tm.has_not {seen : List Int} {s : Int} (h : ∀ i, i < seen.length → seen[i]?.getD 0 ≠ s) : seen.contains s = false := by
  rw [Bool.eq_false_iff]
  intro hc
  have hm : s ∈ seen := by simpa using hc
  obtain ⟨i, hi, e⟩ := List.getElem_of_mem hm
  exact h i hi (by simp [hi, e])
/-- The first k signs made plain, the rest as they were. -/
def Tm.half (t : List Int) (k : Nat) : List Int := Tm.plainTo [] t k ++ t.drop k
theorem Tm.half_zero (t : List Int) : Tm.half t 0 = t := by simp [Tm.half, Tm.plainTo]
theorem Tm.half_all (t : List Int) : Tm.half t t.length = Tm.plain t := by simp [Tm.half, Tm.plain]
theorem Tm.half_length {t : List Int} {k : Nat} (h : k ≤ t.length) : (Tm.half t k).length = t.length := by
  simp only [Tm.half, List.length_append, Tm.plainTo_length, List.length_drop]; omega
theorem Tm.half_succ {t : List Int} {k : Nat} (h : k < t.length) : Tm.half t (k + 1) = (Tm.half t k).set k (Tm.name (Tm.seenFrom [] (t.take k)) (t[k]?.getD 0)) := by
  unfold Tm.half
  rw [Tm.plainTo_succ, List.set_append_right _ _ (by rw [Tm.plainTo_length]; exact Nat.le_refl _), Tm.plainTo_length, Nat.sub_self, List.drop_eq_getElem_cons h, List.set_cons_zero, List.append_assoc]
  rfl
theorem Tm.half_same {t : List Int} {k : Nat} (h : k < t.length) (hs : 0 ≤ t[k]?.getD 0) : Tm.half t (k + 1) = Tm.half t k := by
  unfold Tm.half
  have hn : Tm.name (Tm.seenFrom [] (t.take k)) (t[k]?.getD 0) = t[k]?.getD 0 := by unfold Tm.name; rw [if_neg (by omega)]
  rw [Tm.plainTo_succ, hn, List.drop_eq_getElem_cons h]
  simp [h]
theorem Tm.see_same {seen : List Int} {s : Int} (hs : 0 ≤ s) : Tm.see seen s = seen := by unfold Tm.see; rw [if_neg (by omega)]
theorem Tm.see_old {seen : List Int} {s : Int} (h : seen.contains s = true) : Tm.see seen s = seen := by unfold Tm.see; rw [if_pos h]; split <;> rfl
theorem Tm.see_new {seen : List Int} {s : Int} (hs : s < 0) (h : seen.contains s = false) : Tm.see seen s = seen ++ [s] := by unfold Tm.see; rw [if_pos hs, if_neg (by rw [h]; decide)]

/-- One int is stored anew. -/
theorem New.set {base : Nat} {W : World} {g c n : Nat} {zs : List Int} (h : New base W (.slice (some ⟨g, 0, none⟩) n c) zs) (hn : n = zs.length) (j : Nat) (x : Int) :
    New base (W.setCell ⟨g, j, none⟩ (.int .i64 x)) (.slice (some ⟨g, 0, none⟩) n c) (zs.set j x) := by
  subst hn
  have := (World.ownsRow.stored h j (.int .i64 x)).1
  unfold New
  rw [List.length_set, List.map_set]
  exact this

theorem Try.infoInts : Try.prog.underlying 22 = some (.slice 3) := by kernel_rfl

/-- 'append(s, x...)' onto a plain slice of ints that the call itself made. -/
theorem wp_append_int1 {ops : Array Oper} {rest : List Oper} {o : Oper} {a : Act} {Q : Exit → Act → World → Prop} (w : World) (hgd : o.guard = none) (s x : Operand)
    (ho : o.op = .call { callee := .builtin .append, args := #[s, x], argTypes := #[22, 22] }) (base : Nat) (v : Value) (xs : List Int) (hs : a.eval s = v) (hN : New base w v xs)
    (B : Nat) (y : Int) (hx : a.eval x = .slice (some ⟨B, 0, none⟩) 1 1) (hB : w.cell? ⟨B, 0, none⟩ = some (.int .i64 y)) (hlen : xs.length ≤ 1000000) (hbase : base ≤ w.heap.size)
    (h : ∀ v' w', New base w' v' (xs ++ [y]) → w.grownBy w' v.ownBlock → Below base w w' → wpList Try.prog ops Q rest (a.put o.dst v') w') : wpList Try.prog ops Q (o :: rest) a w := by
  obtain ⟨i0, hi, hz0, hz1, hz2⟩ := info_parts Try.info3
  refine wpList_append_own w hgd s x 22 ho base 3 i0 (.int .i64 0) 1 8 Try.infoInts hi hz0 hz1 hz2 rfl (by decide) v xs.length (xs.map (Value.int .i64)) hs hN ⟨B, 0, none⟩ 1 1 [.int .i64 y] hx (by simp)
    (by intro j z hj
        match j, hj with
        | 0, hj => simp at hj; subst hj; rw [Go.WideShapes.add_plain]; simpa using hB)
    (by intro z hz; simp at hz; subst hz; rfl) (by unfold maxLen; omega) (by omega) hbase ?_
  intro v' w' hown hg _
  exact h v' w' (by simpa [New] using hown) hg ((Below.refl base w).grown hg hbase (fun k e => (World.ownsRow.lt hN k e).1))

end Go.Proofs.Ytjaikmlbajdedad

namespace Go.Proofs.Ytjaikmlbajdedad
open Go.Proofs Go.RowKit Go.Shelf Go.Maps

attribute [local go_sem] Oper.semAt_some

/-- A place of zs. -/
abbrev PlaceOf (zs : List Int) : Type := { k : Nat // k < zs.length }
def encPlace (zs : List Int) (x : PlaceOf zs) : Array Value := #[.int .i64 (x.1 : Int), .int .i64 (Tm.endAt zs x.1 : Int)]
/-- The first m places. -/
def placesTo (zs : List Int) : Nat → List (PlaceOf zs)
  | 0 => []
  | m + 1 => if h : m < zs.length then placesTo zs m ++ [⟨m, h⟩] else placesTo zs m
theorem placesTo_succ {zs : List Int} {m : Nat} (h : m < zs.length) : placesTo zs (m + 1) = placesTo zs m ++ [⟨m, h⟩] := by simp [placesTo, h]
theorem placesTo_length (zs : List Int) : ∀ m, m ≤ zs.length → (placesTo zs m).length = m := by
  intro m
  induction m with
  | zero => intro _; rfl
  | succ m ih => intro h; rw [placesTo_succ (by omega), List.length_append, ih (by omega)]; rfl

set_option maxHeartbeats 400000 in
theorem places_in (F : Fence) (hF : F = Fence.wide) (n : Nat) (a : Option Addr) (len cap : Nat) (w : World) :
    CallsIn F n Try.prog 32 #[.slice a len cap] w fun e w' => e = .returned (.func (.func 61) #[] #[.pointer (some ⟨w.heap.size, 0, none⟩)]) ∧
      w' = w.alloc (.cells #[.slice a len cap] 24) := by
  have hro : F.round = none := by subst hF; rfl
  have hfn : F.fn 32 := by subst hF; trivial
  refine callsIn_of_wp Try.func32 rfl hfn ?_ hro
  simp only [Try.ntmps32, List.size_toArray, List.length_cons, List.length_nil, Nat.reduceAdd, Nat.reduceSub, Array.replicate_succ, Array.replicate_zero, List.push_toArray, List.append_toArray, List.nil_append, List.cons_append]
  gi_wp2
  go_ret
  exact ⟨rfl, rfl⟩

set_option maxRecDepth 100000 in
set_option maxHeartbeats 1000000 in
theorem places1_in (F : Fence) (hF : F = Fence.wide) (n l Bt n₀ cap : Nat) (a : Option Addr) (zs : List Int) (hlen : zs.length ≤ 30)
    (J Jx : List (PlaceOf zs) → World → Prop) (W : World) (hJ : AbidesFrom W.heap.size J)
    (hY : ∀ pre x W, J pre W → pre.length < zs.length → YieldAt F (n - 1) Try.prog l (encPlace zs x) W fun e W' =>
      (e = .returned (.bool true) ∧ J (pre ++ [x]) W' ∧ Kept n₀ Bt W W') ∨ (e = .returned (.bool false) ∧ Jx (pre ++ [x]) W'))
    (hn₀ : n₀ ≤ W.heap.size) (hBt : W.cell? ⟨Bt, 0, none⟩ = some (.slice a zs.length cap)) (hBt' : Bt < W.heap.size) (hI : Ints n₀ W a zs) (h0 : J [] W) :
    CallsIn F n Try.prog 61 #[.func (.yield l) #[] #[], .pointer (some ⟨Bt, 0, none⟩)] W fun e W' => (∃ v, e = .returned v) ∧
      ((∃ ys, ys = placesTo zs zs.length ∧ J ys W') ∨ (∃ pre, True ∧ Jx pre W')) := by
  obtain ⟨hro, hfn, hdd, hcin⟩ := wide_facts hF
  clear hF
  have hf55 := hfn 61
  have hf32 := hfn 60
  have hl30 : (zs.length : Int) ≤ 30 := by omega
  have HY := hid hY
  have HI := hid hI
  clear hY hI
  refine callsIn_of_wp Try.func61 rfl hf55 ?_ hro
  simp only [Try.ntmps61, List.size_toArray, List.length_cons, List.length_nil, Nat.reduceAdd, Nat.reduceSub, Array.replicate_succ, Array.replicate_zero, List.push_toArray, List.append_toArray, List.nil_append, List.cons_append]
  gi_wp2
  gi_loopw [6] (fun i wr => ∃ m : Nat, m ≤ zs.length ∧ i = .int .i64 (m : Int) ∧ J (placesTo zs m) wr ∧ wr.heap[Bt]? = W.heap[Bt]? ∧ Below n₀ W wr ∧ W.heap.size ≤ wr.heap.size)
    (fun i _ => zs.length - (intOf i).toNat)
  case atStart => exact ⟨0, Nat.zero_le _, rfl, h0, rfl, Below.refl _ _, Nat.le_refl _⟩
  case round =>
    obtain ⟨m, hm, rfl, hJs, hT, hnx, hsz⟩ := hrel
    have hbt : wr.cell? ⟨Bt, 0, none⟩ = some (.slice a zs.length cap) := (World.cell?_of_block (a := ⟨Bt, 0, none⟩) hT).trans hBt
    by_cases hlt : m < zs.length
    · have hlt' : (m : Int) < (zs.length : Int) := by omega
      have h1 := (end_any zs hlen a cap m (by omega) wr ((HI.out.below hnx).mono (by omega))).mono (R' := fun e W1 => e = .returned (.int .i64 (Tm.endAt zs m : Int)) ∧ YieldAt F (n - 1) Try.prog l #[.int .i64 (m : Int), .int .i64 (Tm.endAt zs m : Int)] W1 fun e W' =>
          (e = .returned (.bool true) ∧ J (placesTo zs (m + 1)) W' ∧ Below n₀ W W' ∧ W'.heap[Bt]? = W.heap[Bt]? ∧ W.heap.size ≤ W'.heap.size) ∨ (e = .returned (.bool false) ∧ ∃ pre, Jx pre W'))
        (fun e W1 ⟨he, hB⟩ => ⟨he, by
          have hg := grown_of_below hB
          have hJ1 := hJ _ _ _ none hJs hg (fun r e => by cases e)
          refine YieldAt.mono (HY.out _ ⟨m, hlt⟩ W1 hJ1 (by rw [placesTo_length zs m hm]; exact hlt)) fun e W2 h => h.elim (fun ⟨he, hj, hb2, hT2⟩ => .inl ⟨he, ?_, ?_, ?_, ?_⟩) (fun ⟨he, hx⟩ => .inr ⟨he, _, hx⟩)
          · rw [placesTo_succ hlt]; exact hj
          · exact (hnx.trans (hB.mono (by omega))).trans hb2
          · exact hT2.trans ((hB.block Bt (by omega)).trans hT)
          · have := hB.size; have := hb2.size; omega⟩)
      have h1' := hcin (n := n - 1) h1
      clear h1
      gi_wp2_with (first
        | ((try refine ⟨hdd _, ?_⟩); gi_at_call 60; refine h1'.mono ?_; clear h1'; rintro e W1 ⟨rfl, fn, tmps, assign, body, hy, hR⟩)
        | ((try refine ⟨hdd _, ?_⟩); refine hR.mono ?_; clear hR; rintro e W2 (⟨rfl, hJ2, hb2, hT2, hs2⟩ | ⟨rfl, hx2⟩)))
      · exact ⟨⟨m + 1, by omega, by go_num, hJ2, hT2, hb2, hs2⟩, by simp [intOf]; omega⟩
      · obtain ⟨pre, hx2⟩ := hx2
        refine bodyPost_ret (results_none rfl _ _ _) rfl ?_
        exact ⟨⟨_, rfl⟩, .inr ⟨pre, trivial, hx2⟩⟩
    · obtain rfl : m = zs.length := by omega
      have hlt' : ¬ (zs.length : Int) < (zs.length : Int) := by omega
      gi_wp2
      go_end0
      exact ⟨⟨_, rfl⟩, .inl hJs⟩

/-- The iterator value's contract. -/
theorem places_stops (F : Fence) (hF : F = Fence.wide) (n Bt n₀ cap : Nat) (a : Option Addr) (zs : List Int) (hlen : zs.length ≤ 30) (w : World) (hn₀ : n₀ ≤ w.heap.size) (hBt' : Bt < w.heap.size)
    (hBt : w.cell? ⟨Bt, 0, none⟩ = some (.slice a zs.length cap)) (hI : Ints n₀ w a zs) :
    SeqStopsK F n Try.prog 61 #[.pointer (some ⟨Bt, 0, none⟩)] (encPlace zs) (Kept n₀ Bt)
      (fun ys => ys = placesTo zs zs.length) (fun _ => True) zs.length w := fun l J Jx W hW hJ _ hY h0 =>
  places1_in F hF n l Bt n₀ cap a zs hlen J Jx W hJ hY (by have := hW.size; omega) ((hW.cell (p := ⟨Bt, 0, none⟩) hBt').trans hBt) (by have := hW.size; omega) (hI.below (hW.mono hn₀)) h0

end Go.Proofs.Ytjaikmlbajdedad
