/-
  signs.End: for every list of at most 30 signs, at every place: where the next one behind the term there would begin; nothing that lay has turned.
-/
import Derived.Test.YtbelnlemjcoifaaSigns
namespace Go.Proofs.Ytbelnlemjcoifaa
open Go.Proofs Go.RowKit Go.Shelf

attribute [local go_sem] Oper.semAt_some

theorem kept_t {n B : Nat} {X Y Z : World} (h : Kept n B X Y) (k : Kept n B Y Z) : Kept n B X Z := ⟨h.1.trans k.1, k.2.trans h.2⟩
theorem kept_b {n B : Nat} {w : World} (hn : n ≤ w.heap.size) (hB : B < w.heap.size) (W : World) (l : Nat) (o o' : Obj) (hl : w.heap.size ≤ l) (h : W.heap[l]? = some o) (h1 : o.isCells = false) (h2 : o.isWalk = false) : Kept n B W (W.putObj l o') :=
  ⟨belowK_b hn W l o o' hl h h1 h2, World.putObj_heap_other (by omega)⟩

set_option maxHeartbeats 400000 in
/-- At a place beyond the list. -/
theorem end_out (a : Option Addr) (len cap k : Nat) (w : World) (hk : len ≤ k) (hk2 : k ≤ 200) :
    Calls Try.prog 44 #[.slice a len cap, .int .i64 (k : Int)] w fun e w' => e = .returned (.int .i64 ((k : Int) + 1)) ∧ Below w.heap.size w w' := by
  have h1 : (len : Int) ≤ (k : Int) := by omega
  have h2 : (k : Int) ≤ 200 := by omega
  have h3 : (0 : Int) ≤ (k : Int) := by omega
  go_enter Try.func44, Try.ntmps44
  go_wp2
  go_ret
  exact ⟨rfl, (Below.refl _ _).alloc (Nat.le_refl _) _⟩

set_option maxRecDepth 100000 in
set_option maxHeartbeats 1000000 in
theorem end_step (a : Option Addr) (cap k : Nat) (zs : List Int) (w : World) (hlen : zs.length ≤ 30) (hk : k < zs.length) (hI : Ints w.heap.size w a zs)
    (hE : ∀ (p : Nat) (W : World), k < p → p ≤ 200 → Ints w.heap.size W a zs → w.heap.size ≤ W.heap.size → Calls Try.prog 44 #[.slice a zs.length cap, .int .i64 (p : Int)] W fun e W' => e = .returned (.int .i64 (Tm.endAt zs p : Int)) ∧ Below W.heap.size W W') :
    Calls Try.prog 44 #[.slice a zs.length cap, .int .i64 (k : Int)] w fun e w' => e = .returned (.int .i64 (Tm.endAt zs k : Int)) ∧ Below w.heap.size w w' := by
  obtain ⟨F, hF⟩ : ∃ F, F = Fence.wide := ⟨_, rfl⟩
  refine (callsIn_wide (n := 3)).1 ?_
  rw [← hF]
  obtain ⟨hro, hfn, hdd, hcin⟩ := wide_facts hF
  have HF : Hid (F = Fence.wide) := hF
  have HE := show Hid _ from hE
  clear hF hE
  have hf32 := hfn 44
  have hf49 := hfn 68
  have hf55 := hfn 84
  have hlt : (k : Int) < (zs.length : Int) := by omega
  have h30 : (zs.length : Int) ≤ 30 := by omega
  have hk0 : (0 : Int) ≤ (k : Int) := by omega
  rw [Tm.endAt_in zs k hk]
  refine callsIn_of_wp_marks Try.func44 rfl hf32 ?_ hro
  simp only [Try.ntmps44, List.size_toArray, List.length_cons, List.length_nil, Nat.reduceAdd, Nat.reduceSub, Array.replicate_succ, Array.replicate_zero, List.push_toArray, List.append_toArray, List.nil_append, List.cons_append]
  gi_wp2_with ((try refine ⟨hdd _, ?_⟩); gi_at_call 68; refine (parts_in F HF.out _ _ _ _ _ _).mono ?_; rintro e w' ⟨rfl, rfl⟩)
  have bE := Boxed.new w 3 (.int .i64 ((k : Int) + 1))
  have bT := Boxed.new (w.alloc (.cells #[.int .i64 ((k : Int) + 1)] 3)) 23 (.slice a zs.length cap)
  have bK := Boxed.new ((w.alloc (.cells #[.int .i64 ((k : Int) + 1)] 3)).alloc (.cells #[.slice a zs.length cap] 23)) 3 (.int .i64 (k : Int))
  rw [World.size_alloc] at bT
  rw [World.size_alloc, World.size_alloc] at bK
  have hB0 : Below w.heap.size w (((w.alloc (.cells #[.int .i64 ((k : Int) + 1)] 3)).alloc (.cells #[.slice a zs.length cap] 23)).alloc (.cells #[.int .i64 (k : Int)] 3)) := (((Below.refl _ w).alloc (Nat.le_refl _) _).alloc (by simp) _).alloc (by simp; omega) _
  refine wpIn_rangeFunc_ownG hro (by omega) (gf := 84) (lb := #[.pointer (some ⟨w.heap.size + 1 + 1, 0, none⟩), .pointer (some ⟨w.heap.size + 1, 0, none⟩)]) rfl hf55 (enters_of Try.func84 (by kernel_rfl) rfl)
    (parts_stops F HF.out _ (w.heap.size + 1 + 1) (w.heap.size + 1) w.heap.size k cap a zs hlen hk HE.out _ (by simp; omega) (by simp) (by simp) bK.cell (bT.alloc _).cell (hI.below hB0)) kept_t (kept_b (by simp; omega) (by simp)) (Below.refl _ _) (fun _ => rfl)
    (fun pre W => (W.cell? ⟨w.heap.size, 0, none⟩ = some (.int .i64 (Tm.lastEnd k pre : Int)) ∧ W.frozen? ⟨w.heap.size, 0, none⟩ = false) ∧ Below w.heap.size w W)
    (fun _ _ _ => False)
    (OwnFrom.and (Own.from (fun s X Y row hs hg hr => ⟨cell_kept hs.1 hg hr, (frozen_kept hs.1 hg hr).trans hs.2⟩) _) (ownFrom_below (Nat.le_refl _) (by simp; omega)))
    (fun _ _ _ _ _ hs _ _ => hs)
    ⟨⟨((bE.alloc _).alloc _).cell, ((bE.alloc _).alloc _).frozen⟩, hB0⟩
    (fun x => { tmps := #[.slice a zs.length cap, .int .i64 (k : Int), undef, undef, .int .i64 0, .pointer (some ⟨w.heap.size, 0, none⟩), undef, .int .i64 (x.2 : Int), .int .i64 (k : Int), .int .i64 ((k : Int) + 1), .int .i64 (k : Int), .slice a zs.length cap,
      .int .i64 (zs.length : Int), .bool false, undef, .slice a zs.length cap, .int .i64 (k : Int), .func (.func 84) #[] #[.pointer (some ⟨w.heap.size + 1 + 1, 0, none⟩), .pointer (some ⟨w.heap.size + 1, 0, none⟩)], .int .i64 (x.1 : Int), .int .i64 (x.2 : Int), undef, undef], defers := [] }) ?assign ?body ?done ?stop
  case assign =>
    intro l x W K hK
    gi_wp2
    exact hK
  case body =>
    rintro l pre x W ⟨⟨hc, hf⟩, hB⟩ _
    gi_wp2
    exact ⟨(KeepsOthers.setCell _ _ _).from _, ⟨(Below.refl w.heap.size W).setCell (p := ⟨w.heap.size, 0, none⟩) (Nat.le_refl _) _, Below.heap_setCell W ⟨w.heap.size, 0, none⟩ _ _ (by simp)⟩,
      ⟨by rw [Tm.lastEnd_snoc]; exact World.cell?_setCell_same' _ _ _ (by rw [hc]; rfl), by rw [World.frozen?_setCell]; exact hf⟩, hB.setCell (p := ⟨w.heap.size, 0, none⟩) (Nat.le_refl _) _⟩
  case done =>
    rintro D ys W hD rfl ⟨⟨hc, _⟩, hB⟩ hK
    rw [Tm.lastEnd_parts] at hc
    gi_wp2
    refine ⟨by simp, .inl ⟨_, _, rfl, run_takeDeferred hK, ?_⟩⟩
    exact ⟨_, results_tmp rfl _ _ _, by simp [hk], hB.trans (belowK_b (w := w) (Nat.le_refl _) W D _ _ (by simp at hD; omega) hK rfl rfl)⟩
  case stop =>
    rintro D c pre W _ _ h _
    exact h.elim

/-- signs.End. -/
theorem end_all (zs : List Int) (hlen : zs.length ≤ 30) (a : Option Addr) (cap : Nat) : ∀ (m k : Nat), zs.length - k ≤ m → k ≤ 200 → ∀ w : World, Ints w.heap.size w a zs →
    Calls Try.prog 44 #[.slice a zs.length cap, .int .i64 (k : Int)] w fun e w' => e = .returned (.int .i64 (Tm.endAt zs k : Int)) ∧ Below w.heap.size w w' := by
  intro m
  induction m with
  | zero =>
    intro k hm hk w hI
    rw [Tm.endAt_out zs k (by omega)]
    exact end_out a zs.length cap k w (by omega) hk
  | succ m ih =>
    intro k hm hk w hI
    by_cases hlt : k < zs.length
    · exact end_step a cap k zs w hlen hlt hI (fun p W h1 h2 h3 h4 => ih p (by omega) h2 W (h3.mono h4))
    · rw [Tm.endAt_out zs k (by omega)]
      exact end_out a zs.length cap k w (by omega) hk

theorem end_any (zs : List Int) (hlen : zs.length ≤ 30) (a : Option Addr) (cap k : Nat) (hk : k ≤ 200) (w : World) (hI : Ints w.heap.size w a zs) :
    Calls Try.prog 44 #[.slice a zs.length cap, .int .i64 (k : Int)] w fun e w' => e = .returned (.int .i64 (Tm.endAt zs k : Int)) ∧ Below w.heap.size w w' :=
  end_all zs hlen a cap _ k (Nat.le_refl _) hk w hI

end Go.Proofs.Ytbelnlemjcoifaa
