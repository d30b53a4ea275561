/-
  signs.Change by what a list says (sub.become's function literal), sub.become, sub.Apply.
-/
import Derived.Test.YtbelnlemjcoifaaSub1
namespace Go.Proofs.Ytbelnlemjcoifaa
open Go.Proofs Go.RowKit Go.Shelf

/-- What a sign becomes. -/
def Tm.piece (ss : List (List Int)) (s : Int) : List Int := if s < 0 then ss[(-1 - s).toNat]?.getD [] else [s]
def Tm.applied (ss : List (List Int)) (t : List Int) : List Int := t.flatMap (Tm.piece ss)
theorem Tm.applied_snoc (ss : List (List Int)) {t : List Int} {k : Nat} (h : k < t.length) : Tm.applied ss (t.take (k + 1)) = Tm.applied ss (t.take k) ++ Tm.piece ss (t[k]?.getD 0) := by
  rw [take_snoc h]
  simp [Tm.applied, List.flatMap_append]
/-- Each list is short. -/
def Short (ss : List (List Int)) : Prop := ∀ j, j < ss.length → (ss[j]?.getD []).length ≤ 30
theorem Short.of_ok {ss : List (List Int)} (h : Tm.firstErr ss = 0) : Short ss := fun j hj => Tm.err_len (Tm.firstErr_all h j hj)
theorem Short.any {ss : List (List Int)} (h : Short ss) (j : Nat) : (ss[j]?.getD []).length ≤ 30 := by
  by_cases hj : j < ss.length
  · exact h j hj
  · rw [List.getElem?_eq_none (by omega)]; simp
theorem Tm.piece_le {ss : List (List Int)} (h : Short ss) (s : Int) : (Tm.piece ss s).length ≤ 30 := by
  unfold Tm.piece
  by_cases hs : s < 0
  · rw [if_pos hs]; exact h.any _
  · rw [if_neg hs]; simp
theorem Tm.applied_le {ss : List (List Int)} (h : Short ss) (t : List Int) : (Tm.applied ss t).length ≤ 30 * t.length := by
  induction t with
  | nil => simp [Tm.applied]
  | cons s l ih =>
    have := Tm.piece_le h s
    simp only [Tm.applied, List.flatMap_cons, List.length_append, List.length_cons] at ih ⊢
    omega

set_option maxRecDepth 100000 in
set_option maxHeartbeats 400000 in
/-- The function literal of become. -/
theorem become1_any (ss : List (List Int)) (hl : ss.length = 8) (a : Option Addr) (cap Bs : Nat) (s : Int) (h8 : -8 ≤ s) (w : World) (hB : w.cell? ⟨Bs, 0, none⟩ = some (.slice a 8 cap)) (hS : Subs w.heap.size w a ss) :
    Calls Try.prog 72 #[.int .i64 s, .pointer (some ⟨Bs, 0, none⟩)] w fun e w' => ∃ b c, e = .returned (.slice b (Tm.piece ss s).length c) ∧ Ints w'.heap.size w' b (Tm.piece ss s) ∧ (b = none → (Tm.piece ss s).length = 0 ∧ c = 0) ∧ Below w.heap.size w w' := by
  by_cases hs : s < 0
  · obtain ⟨j, rfl⟩ : ∃ j : Nat, s = -1 - (j : Int) := ⟨(-1 - s).toNat, by omega⟩
    obtain ⟨b, off, rfl, hb, hc⟩ := hS.at (by omega)
    obtain ⟨aj, cj, hcj, hIj, h1, h2, h3⟩ := hc j (by omega)
    have hpc : Tm.piece ss (-1 - (j : Int)) = ss[j]?.getD [] := by
      unfold Tm.piece
      rw [if_pos hs]
      congr 2
      omega
    rw [hpc]
    have hj8 : (j : Int) < 8 := by omega
    have H3 : Hid (aj = none → (ss[j]?.getD []).length = 0 ∧ cj = 0) := fun e => ⟨by have := h3 e; omega, h3 e⟩
    clear hpc hc hS h3 h1 h2
    generalize ss[j]?.getD [] = t at *
    have hsub : (-1 : Int) - (-1 - (j : Int)) = (j : Int) := by omega
    go_enter Try.func72, Try.ntmps72
    go_wp2
    go_ret
    exact ⟨_, _, rfl, hIj, H3.out, Below.refl _ _⟩
  · have hpc : Tm.piece ss s = [s] := by simp [Tm.piece, hs]
    have h := ints_lit w [s] _ rfl
    simp only [List.map_cons, List.map_nil] at h
    have Hp := hid hpc
    clear hpc hS
    generalize Tm.piece ss s = pc at *
    go_enter Try.func72, Try.ntmps72
    go_wp2
    go_ret
    exact ⟨some ⟨w.heap.size, 0, none⟩, 1, by rw [Hp.out]; rfl, by rw [Hp.out]; simpa using h, (fun e => by cases e), (Below.refl _ _).alloc (Nat.le_refl _) _⟩

set_option maxRecDepth 100000 in
set_option maxHeartbeats 400000 in
/-- signs.Change by it. -/
theorem change_become (ss : List (List Int)) (hl : ss.length = 8) (hsh : Short ss) (a : Option Addr) (cap Bs : Nat) (t : List Int) (at' : Option Addr) (ct : Nat) (ht : t.length ≤ 30) (h8 : ∀ k, k < t.length → -8 ≤ t[k]?.getD 0) (w : World)
    (hBs : Bs < w.heap.size) (hB : w.cell? ⟨Bs, 0, none⟩ = some (.slice a 8 cap)) (hS : Subs w.heap.size w a ss) (hT : Ints w.heap.size w at' t) :
    Calls Try.prog 71 #[.slice at' t.length ct, .func (.func 72) #[] #[.pointer (some ⟨Bs, 0, none⟩)]] w fun e w' => ∃ v, e = .returned v ∧ New w.heap.size w' v (Tm.applied ss t) ∧ Below w.heap.size w w' := by
  have hlen : (t.length : Int) ≤ 30 := by omega
  have HB := hid hB
  have HS := hid hS
  have HT := hid hT
  have H8 := hid h8
  have Hl := hid hl
  clear hB hS hT h8 hl
  go_enter Try.func71, Try.ntmps71
  go_wp2
  go_loopw [5, 10] (fun v i wr => ∃ k : Nat, k ≤ t.length ∧ i = .int .i64 (k : Int) ∧ New w.heap.size wr v (Tm.applied ss (t.take k)) ∧ Below w.heap.size w wr) (fun _ i _ => t.length - (intOf i).toNat)
  case atStart => exact ⟨0, Nat.zero_le _, rfl, New.nil _ _, Below.refl _ _⟩
  case round =>
    obtain ⟨k, hk, rfl, hN, hBr⟩ := hrel
    by_cases hlt : k < t.length
    · have hlt' : (k : Int) < (t.length : Int) := by omega
      obtain ⟨b, off, rfl, hb, hc⟩ := HT.out.at (by omega)
      have hck := (hBr.cell (p := ⟨b, off + k, none⟩) hb).trans (hc k hlt)
      have hf := become1_any ss Hl.out a cap Bs (t[k]?.getD 0) (H8.out k hlt) wr ((hBr.cell (p := ⟨Bs, 0, none⟩) hBs).trans HB.out) ((HS.out.below hBr).mono hBr.size)
      have hsn := hid (Tm.applied_snoc ss hlt)
      have hle := Tm.applied_le hsh (t.take k)
      rw [List.length_take] at hle
      have hpl := Tm.piece_le hsh (t[k]?.getD 0)
      clear hc
      generalize Tm.piece ss (t[k]?.getD 0) = pc at *
      generalize t[k]?.getD 0 = s at *
      generalize Tm.applied ss (t.take k) = xs at *
      obtain ⟨a0, c0, rfl, _⟩ := New.ints hN
      go_wp2_with (first
        | (go_at_call 72; refine hf.mono ?_; clear hf; rintro e w1 ⟨b1, c1, rfl, hI1, hn1, hB1⟩; have hN1 := New.below hN hB1; have hB2 := hBr.trans (hB1.mono hBr.size))
        | (at_builtin; go_loud (refine wp_append_ints _ rfl _ _ rfl w.heap.size _ xs rfl hN1 b1 pc c1 rfl hn1 hI1 (by omega) hB2.size ?_); intro v' w2 hN2 hB3; obtain ⟨a2, c2, rfl, _⟩ := New.ints hN2))
      go_roundw
      case rel => exact ⟨k + 1, by omega, by go_num, by rw [hsn.out]; simpa using hN2, hB2.trans hB3⟩
      case measure => simp [intOf]; omega
    · obtain rfl : k = t.length := by omega
      rw [List.take_length] at hN
      obtain ⟨a2, c2, rfl, _⟩ := New.ints hN
      go_wp2
      go_ret
      exact ⟨_, rfl, hN, hBr⟩

/-- What Apply answers beside the error, of right ones. -/
theorem become_any (ss : List (List Int)) (hl : ss.length = 8) (hsh : Short ss) (a : Option Addr) (cap : Nat) (t : List Int) (at' : Option Addr) (ct : Nat) (ht : t.length ≤ 30) (h8 : ∀ k, k < t.length → -8 ≤ t[k]?.getD 0) (w : World)
    (hS : Subs w.heap.size w a ss) (hT : Ints w.heap.size w at' t) :
    Calls Try.prog 55 #[.slice a 8 cap, .slice at' t.length ct] w fun e w' => ∃ v, e = .returned (.tuple #[v, .int .i64 (if 30 < (Tm.applied ss t).length then 2 else 0)]) ∧ New w.heap.size w' v (if 30 < (Tm.applied ss t).length then [] else Tm.applied ss t) ∧ Below w.heap.size w w' := by
  have hmf : ∀ (fn : Fn) (first cap : Array Value) (w : World), (Instr.makeFunc fn first cap).run Try.prog w = .ok (.func fn first cap) w := fun _ _ _ _ => rfl
  have bS := Boxed.new w 36 (.slice a 8 cap)
  have hB : Below w.heap.size w (w.alloc (.cells #[.slice a 8 cap] 36)) := (Below.refl _ _).alloc (Nat.le_refl _) _
  have hC := change_become ss hl hsh a cap w.heap.size t at' ct ht h8 (w.alloc (.cells #[.slice a 8 cap] 36)) (by simp) bS.cell ((hS.below hB).mono hB.size) ((hT.below hB).mono hB.size)
  have hle := Tm.applied_le hsh t
  have Hle := hid hle
  clear hle hS hT h8 bS
  generalize Tm.applied ss t = xs at *
  have hx : (xs.length : Int) ≤ 1000 := by have := Hle.out; omega
  by_cases hbig : 30 < xs.length
  · have hbig' : (30 : Int) < (xs.length : Int) := by omega
    rw [if_pos hbig, if_pos hbig]
    clear hbig
    go_enter Try.func55, Try.ntmps55
    go_wp2_with (go_at_call 71; refine hC.mono ?_; clear hC; rintro e w1 ⟨v, rfl, hN, hB1⟩; obtain ⟨a1, c1, rfl, _⟩ := New.ints hN)
    go_ret2
    exact ⟨_, rfl, New.nil _ _, hB.trans (hB1.mono hB.size)⟩
  · have hbig' : (xs.length : Int) ≤ 30 := by omega
    rw [if_neg hbig, if_neg hbig]
    clear hbig
    go_enter Try.func55, Try.ntmps55
    go_wp2_with (go_at_call 71; refine hC.mono ?_; clear hC; rintro e w1 ⟨v, rfl, hN, hB1⟩; obtain ⟨a1, c1, rfl, _⟩ := New.ints hN)
    go_ret2
    exact ⟨_, rfl, hN.mono hB.size, hB.trans (hB1.mono hB.size)⟩

def Tm.applyErr (ss : List (List Int)) (t : List Int) : Int := if Tm.subErr ss = 0 then (if Tm.err t = 0 then (if 30 < (Tm.applied ss t).length then 2 else 0) else Tm.err t) else Tm.subErr ss
def Tm.applyVal (ss : List (List Int)) (t : List Int) : List Int := if Tm.applyErr ss t = 0 then Tm.applied ss t else []
theorem Tm.subErr_ok {ss : List (List Int)} (h : Tm.subErr ss = 0) : ss.length = 8 ∧ Tm.firstErr ss = 0 := by
  unfold Tm.subErr at h
  by_cases hl : ss.length = 8
  · rw [if_pos hl] at h; exact ⟨hl, h⟩
  · rw [if_neg hl] at h; omega
theorem Tm.known8 {t : List Int} (h : Tm.err t = 0) : ∀ k, k < t.length → -8 ≤ t[k]?.getD 0 := fun _ hk => Tm.known_ge (Tm.all_at (Tm.err_all h) hk)
theorem Tm.apply_ok {ss : List (List Int)} {t : List Int} (hs : Tm.subErr ss = 0) (ht : Tm.err t = 0) :
    Tm.applyErr ss t = (if 30 < (Tm.applied ss t).length then 2 else 0) ∧ Tm.applyVal ss t = (if 30 < (Tm.applied ss t).length then [] else Tm.applied ss t) := by
  have h1 : Tm.applyErr ss t = (if 30 < (Tm.applied ss t).length then 2 else 0) := by unfold Tm.applyErr; rw [if_pos hs, if_pos ht]
  refine ⟨h1, ?_⟩
  unfold Tm.applyVal
  rw [h1]
  by_cases h : 30 < (Tm.applied ss t).length <;> simp [h]
theorem Tm.apply_t {ss : List (List Int)} {t : List Int} (hs : Tm.subErr ss = 0) (ht : Tm.err t ≠ 0) : Tm.applyErr ss t = Tm.err t ∧ Tm.applyVal ss t = [] := by
  have h1 : Tm.applyErr ss t = Tm.err t := by unfold Tm.applyErr; rw [if_pos hs, if_neg ht]
  exact ⟨h1, by unfold Tm.applyVal; rw [h1, if_neg ht]⟩
theorem Tm.apply_s {ss : List (List Int)} {t : List Int} (hs : Tm.subErr ss ≠ 0) : Tm.applyErr ss t = Tm.subErr ss ∧ Tm.applyVal ss t = [] := by
  have h1 : Tm.applyErr ss t = Tm.subErr ss := by unfold Tm.applyErr; rw [if_neg hs]
  exact ⟨h1, by unfold Tm.applyVal; rw [h1, if_neg hs]⟩

set_option maxRecDepth 100000 in
set_option maxHeartbeats 400000 in
/-- sub.Apply. -/
theorem apply_any (ss : List (List Int)) (t : List Int) (a at' : Option Addr) (cap ct : Nat) (w : World) (hS : Subs w.heap.size w a ss) (hT : Ints w.heap.size w at' t) :
    Calls Try.prog 25 #[.slice a ss.length cap, .slice at' t.length ct] w fun e w' => ∃ v, e = .returned (.tuple #[v, .int .i64 (Tm.applyErr ss t)]) ∧ New w.heap.size w' v (Tm.applyVal ss t) ∧ Below w.heap.size w w' := by
  have hC1 := subCheck_any ss a cap w hS
  by_cases hs : Tm.subErr ss = 0
  · have hC2 : ∀ W, Below w.heap.size w W → Calls Try.prog 19 #[.slice at' t.length ct] W fun e w' => e = .returned (.int .i64 (Tm.err t)) ∧ Below W.heap.size W w' := fun W hW => check_any t at' ct W ((hT.below hW).mono hW.size)
    rw [hs] at hC1
    by_cases ht : Tm.err t = 0
    · obtain ⟨e1, e2⟩ := Tm.apply_ok hs ht
      obtain ⟨hl, hf⟩ := Tm.subErr_ok hs
      have hb : ∀ W, Below w.heap.size w W → Calls Try.prog 55 #[.slice a 8 cap, .slice at' t.length ct] W fun e w' => ∃ v, e = .returned (.tuple #[v, .int .i64 (Tm.applyErr ss t)]) ∧ New W.heap.size w' v (Tm.applyVal ss t) ∧ Below W.heap.size W w' := fun W hW => by
        rw [e1, e2]
        exact become_any ss hl (Short.of_ok hf) a cap t at' ct (Tm.err_len ht) (Tm.known8 ht) W ((hS.below hW).mono hW.size) ((hT.below hW).mono hW.size)
      rw [hl] at hC1 ⊢
      rw [ht] at hC2
      have HC2 := hid hC2
      have Hb := hid hb
      clear hC2 hb hS hT hl hf e1 e2 hs ht
      generalize Tm.applyErr ss t = q at *
      generalize Tm.applyVal ss t = xs at *
      go_enter Try.func25, Try.ntmps25
      go_wp2_with (first
        | (go_at_call 28; refine hC1.mono ?_; clear hC1; rintro e w1 ⟨rfl, hB1⟩)
        | (go_at_call 19; refine (HC2.out _ hB1).mono ?_; rintro e w2 ⟨rfl, hB2⟩; have hB3 := hB1.trans (hB2.mono hB1.size))
        | (go_at_call 55; refine (Hb.out _ hB3).mono ?_; rintro e w3 ⟨v, rfl, hN, hB4⟩; obtain ⟨a1, c1, rfl, _⟩ := New.ints hN))
      go_ret2
      exact ⟨_, rfl, hN.mono hB3.size, hB3.trans (hB4.mono hB3.size)⟩
    · obtain ⟨e1, e2⟩ := Tm.apply_t hs ht
      rw [e1, e2]
      have HC2 := hid hC2
      have hne : (Tm.err t != 0) = true := by simp [ht]
      clear hC2 hS hT e1 e2 hs ht
      generalize Tm.err t = q at *
      go_enter Try.func25, Try.ntmps25
      go_wp2_with (first
        | (go_at_call 28; refine hC1.mono ?_; clear hC1; rintro e w1 ⟨rfl, hB1⟩)
        | (go_at_call 19; refine (HC2.out _ hB1).mono ?_; rintro e w2 ⟨rfl, hB2⟩; have hB3 := hB1.trans (hB2.mono hB1.size)))
      go_ret2
      exact ⟨_, rfl, New.nil _ _, hB3⟩
  · obtain ⟨e1, e2⟩ := Tm.apply_s (t := t) hs
    rw [e1, e2]
    have hne : (Tm.subErr ss != 0) = true := by simp [hs]
    clear hS hT e1 e2 hs
    generalize Tm.subErr ss = q at *
    go_enter Try.func25, Try.ntmps25
    go_wp2_with (go_at_call 28; refine hC1.mono ?_; clear hC1; rintro e w1 ⟨rfl, hB1⟩)
    go_ret2
    exact ⟨_, rfl, New.nil _ _, hB1⟩

end Go.Proofs.Ytbelnlemjcoifaa
