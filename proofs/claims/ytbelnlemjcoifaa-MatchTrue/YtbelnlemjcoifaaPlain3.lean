/-
  signs.Plain of one term, sub.Plain.
-/
import Derived.Test.YtbelnlemjcoifaaPlain2
namespace Go.Proofs.Ytbelnlemjcoifaa
open Go.Proofs Go.RowKit Go.Shelf Go.Maps

/-- A term made plain. -/
def Tm.plain (t : List Int) : List Int := Tm.plainTo [] t t.length

set_option maxRecDepth 100000 in
set_option maxHeartbeats 400000 in
/-- signs.Plain, of one term. -/
theorem plain_one (t : List Int) (at' : Option Addr) (ct B : Nat) (w : World) (ht : t.length ≤ 100) (h8 : ∀ k, k < t.length → -8 ≤ t[k]?.getD 0) (h6 : ∀ k, k < t.length → t[k]?.getD 0 < 6)
    (hB : w.cell? ⟨B, 0, none⟩ = some (.slice at' t.length ct)) (hT : Ints w.heap.size w at' t) :
    Calls Try.prog 59 #[.slice (some ⟨B, 0, none⟩) 1 1] w fun e w' => ∃ v, e = .returned v ∧ NewS w.heap.size w' v [Tm.plain t] ∧ Below w.heap.size w w' := by
  have hmf : ∀ (fn : Fn) (first cap : Array Value) (w : World), (Instr.makeFunc fn first cap).run Try.prog w = .ok (.func fn first cap) w := fun _ _ _ _ => rfl
  have hmm := @run_makeMap Try.prog
  have hBl := lt_of_cell hB
  have HT := hid hT
  have HB := hid hB
  clear hT hB
  go_enter Try.func59, Try.ntmps59
  go_wp2
  have hB0 : Below w.heap.size w ((w.alloc (.map #[] 0)).alloc (.cells #[.map (some w.heap.size)] 85)) := ((Below.refl _ _).alloc (Nat.le_refl _) _).alloc (by simp) _
  have hF0 : FreshAt ((w.alloc (.map #[] 0)).alloc (.cells #[.map (some w.heap.size)] 85)) (w.heap.size + 1) w.heap.size [] :=
    ⟨cell_new (w.alloc (.map #[] 0)) (.map (some w.heap.size)) 85 (w.heap.size + 1) (by simp), .map [], (World.ownsMap_made w Try.prog 3 (plainElem Try.prog 3)).alloc _, MapIs.empty⟩
  have hsz : ((w.alloc (.map #[] 0)).alloc (.cells #[.map (some w.heap.size)] 85)).heap.size = w.heap.size + 2 := by simp
  obtain ⟨W0, hW0⟩ : ∃ W0, (w.alloc (.map #[] 0)).alloc (.cells #[.map (some w.heap.size)] 85) = W0 := ⟨_, rfl⟩
  rw [hW0] at hB0 hF0 hsz ⊢
  clear hW0
  have Hsz := hid hsz
  clear hsz
  go_loopw [5, 12] (fun v i wr => (i = .int .i64 0 ∧ v = .slice none 0 0 ∧ wr = W0) ∨ (i = .int .i64 1 ∧ NewS w.heap.size wr v [Tm.plain t] ∧ Below w.heap.size w wr)) (fun _ i _ => 1 - (intOf i).toNat)
  case atStart => exact .inl ⟨rfl, rfl, rfl⟩
  case round =>
    rcases hrel with ⟨rfl, rfl, rfl⟩ | ⟨rfl, hN, hB⟩
    · have hcB := (hB0.cell (p := ⟨B, 0, none⟩) hBl).trans HB.out
      have hC := change_rename [] t at' ct (w.heap.size + 1) w.heap.size wr ht (by simp) h8 h6 hF0 ((HT.out.below hB0).mono hB0.size)
      have Hlen := hid (Tm.plainTo_length [] t t.length)
      have hpd : Tm.plainTo [] t t.length = Tm.plain t := rfl
      rw [hpd] at hC Hlen
      clear h8 h6 hpd
      generalize Tm.plain t = pt at *
      go_wp2_with fail
      refine hC.mono ?_
      rintro e w1 ⟨v, rfl, hN, hF1, hK⟩
      clear hC hF1
      obtain ⟨a1, c1, rfl, _⟩ := New.ints hN
      have hB1 : Below w.heap.size w w1 := hB0.trans ((hK.mono hB0.size).below (Nat.le_refl _))
      have Hu := hid ((hN.mono hB0.size).alloc (.cells #[.slice a1 pt.length c1] 23))
      have Hcn := hid (cell_new w1 (.slice a1 pt.length c1) 23 w1.heap.size rfl)
      have hA : Below w.heap.size w (w1.alloc (.cells #[.slice a1 pt.length c1] 23)) := hB1.alloc hB1.size _
      clear hN hK
      go_wp2_with (at_builtin; go_loud (refine wp_append_sub _ rfl _ _ rfl w.heap.size _ [] rfl (NewS.nil _ _) (.slice a1 pt.length c1) pt w1.heap.size rfl Hcn.out Hu.out (by simp) hA.size ?_); intro v' w5 hN5 hB5; obtain ⟨a5, c5, rfl, _⟩ := NewS.subs hN5)
      go_roundw
      case rel => exact .inr ⟨rfl, hN5, hA.trans hB5⟩
      case measure => simp [intOf]
    · obtain ⟨a5, c5, rfl, _⟩ := NewS.subs hN
      go_wp2
      go_ret
      exact ⟨_, rfl, hN, hB⟩

def Tm.plainVal (t : List Int) : List Int := if Tm.err t = 0 then Tm.plain t else []
theorem Tm.known6 {t : List Int} (h : Tm.err t = 0) : ∀ k, k < t.length → t[k]?.getD 0 < 6 := fun _ hk => Tm.known_lt (Tm.all_at (Tm.err_all h) hk)

set_option maxRecDepth 100000 in
set_option maxHeartbeats 400000 in
/-- sub.Plain. -/
theorem subPlain_any (t : List Int) (at' : Option Addr) (ct : Nat) (w : World) (hT : Ints w.heap.size w at' t) :
    Calls Try.prog 31 #[.slice at' t.length ct] w fun e w' => ∃ v, e = .returned (.tuple #[v, .int .i64 (Tm.err t)]) ∧ New w.heap.size w' v (Tm.plainVal t) ∧ Below w.heap.size w w' := by
  have hC := check_any t at' ct w hT
  by_cases he : Tm.err t = 0
  · have hv : Tm.plainVal t = Tm.plain t := by simp [Tm.plainVal, he]
    rw [hv, he]
    rw [he] at hC
    have hP : ∀ W, Below w.heap.size w W → Calls Try.prog 59 #[.slice (some ⟨W.heap.size, 0, none⟩) 1 1] (W.alloc (.cells #[.slice at' t.length ct] 23)) fun e w' => ∃ v, e = .returned v ∧ NewS w.heap.size w' v [Tm.plain t] ∧ Below w.heap.size w w' := fun W hW => by
      have hA : Below w.heap.size w (W.alloc (.cells #[.slice at' t.length ct] 23)) := hW.alloc hW.size _
      refine (plain_one t at' ct W.heap.size (W.alloc (.cells #[.slice at' t.length ct] 23)) (by have := Tm.err_len he; omega) (Tm.known8 he) (Tm.known6 he) (cell_new W _ _ _ rfl) ((hT.below hA).mono hA.size)).mono ?_
      rintro e w' ⟨v, rfl, hN, hB⟩
      exact ⟨v, rfl, hN.mono hA.size, hA.trans (hB.mono hA.size)⟩
    have HP := hid hP
    clear hP hv he hT
    generalize Tm.plain t = pt at *
    go_enter Try.func31, Try.ntmps31
    go_wp2_with fail
    refine hC.mono ?_
    rintro e w1 ⟨rfl, hB1⟩
    clear hC
    go_wp2_with fail
    refine (HP.out _ hB1).mono ?_
    rintro e w2 ⟨v, rfl, hN, hB2⟩
    obtain ⟨us, h1, h2⟩ := hN
    obtain ⟨g, c, rfl⟩ := ownsRow_succ h1
    obtain ⟨u, hu, hNu⟩ := h2 0 (by simp)
    have hcu := World.ownsRow.cellAt h1 0 (by simp)
    rw [hu] at hcu
    simp only [List.getElem?_cons_zero, Option.getD_some] at hNu
    obtain ⟨a1, c1, rfl, _⟩ := New.ints hNu
    clear h1 h2 hu
    go_wp2
    go_ret2
    exact ⟨_, rfl, hNu, hB2⟩
  · have hv : Tm.plainVal t = [] := by simp [Tm.plainVal, he]
    rw [hv]
    have hne : (Tm.err t != 0) = true := by simp [he]
    clear hv he hT
    generalize Tm.err t = q at *
    go_enter Try.func31, Try.ntmps31
    go_wp2_with fail
    refine hC.mono ?_
    rintro e w1 ⟨rfl, hB1⟩
    go_wp2
    go_ret2
    exact ⟨_, rfl, New.nil _ _, hB1⟩

end Go.Proofs.Ytbelnlemjcoifaa
