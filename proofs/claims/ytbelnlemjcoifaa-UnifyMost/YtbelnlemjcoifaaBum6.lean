/-
  (*web).leadsBack: at a new place; whatever has been seen; (*web).turnsBack. · (*web).leadsBack, whatever has been seen; (*web).turnsBack. · PLAIN MATHEMATICS: where nothing turns back there is a list of what variables become; all that is asked of it. · (*web).lay: a term behind all others. · PLAIN MATHEMATICS: a term is laid behind all others: what stood there stands as it stood. · 'append(s, y)' of one sign within a fence: which block it lies in then; lists of parts laid one behind the other. · (*web).grown.
-/
import Derived.Test.YtbelnlemjcoifaaBum5
import Derived.OwnWalkIn
import Derived.WalkLawsBesides
import Derived.Shelf.RegionOpen
namespace Go.Proofs.Ytbelnlemjcoifaa
open Go.Proofs Go.RowKit Go.Shelf Go.Maps

attribute [local go_sem] Oper.semAt_some

theorem WebAt.of {W W' : World} {Bw Bm b off cap N : Nat} {zs : List Int} {T : Nat → Option Nat} (H : WebAt W Bw Bm (some ⟨b, off, none⟩) cap zs N T) (h1 : W'.heap[Bw]? = W.heap[Bw]?) (h2 : W'.heap[Bm]? = W.heap[Bm]?) (h3 : W'.heap[b]? = W.heap[b]?) (hb : b < W'.heap.size) : WebAt W' Bw Bm (some ⟨b, off, none⟩) cap zs N T := by
  refine ⟨h1.trans H.web, fun j hj => ?_, ?_⟩
  · obtain ⟨b', off', e, _, hc⟩ := H.ints j hj
    cases e
    exact ⟨b, off, rfl, hb, (World.cell?_of_block (a := ⟨b, off + j, none⟩) h3).trans hc⟩
  · obtain ⟨M, hM, hMT⟩ := H.ties
    exact ⟨M, hM.keep h2, hMT⟩
theorem Wb.fr_set_le (zs : List Int) (st : Nat → Nat) (q v : Nat) (hv : v ≠ 0) : Wb.fr zs (Wb.setS st q v) ≤ Wb.fr zs st := by
  unfold Wb.fr
  refine Wb.filter_le _ _ (fun x hx => ?_) _
  simp only [decide_eq_true_eq] at hx ⊢
  unfold Wb.setS at hx
  by_cases e : x = q
  · rw [if_pos e] at hx; exact absurd hx hv
  · rw [if_neg e] at hx; exact hx
/-- What holds ahead of round i of leadsBack. -/
structure LBInv (w : World) (Bt Bw Bm Bs b off cap N0 N : Nat) (zs : List Int) (T : Nat → Option Nat) (h : Nat → Nat) (st : Nat → Nat) (r i : Nat) (W : World) : Prop where
  sm : ∃ st1 N1, Wb.Left zs h (Wb.setS st r 1) st1 ∧ StMap W Bs N1 st1 ∧ N1 + 2 * Wb.fr zs st1 ≤ N + 1 + 2 * Wb.fr zs (Wb.setS st r 1) ∧ ∀ j, j < i → Wb.Fin zs h (Tm.pos zs r j)
  web : WebAt W Bw Bm (some ⟨b, off, none⟩) cap zs N0 T
  bW : Boxed W w.heap.size 93 (.pointer (some ⟨Bw, 0, none⟩))
  bS : Boxed W (w.heap.size + 1) 85 (.map (some Bs))
  bR : Boxed W (w.heap.size + 1 + 1) 4 (.bool false)
  bK : Boxed W (Bt + 1) 3 (.int .i64 (r : Int))
  bT : Boxed W Bt 23 (.slice (some ⟨b, off, none⟩) zs.length cap)
  kp : Keep w.heap.size Bs w W
theorem LBInv.own {w : World} {Bt Bw Bm Bs b off cap N0 N : Nat} {zs : List Int} {T : Nat → Option Nat} {h : Nat → Nat} {st : Nat → Nat} {r B : Nat} (h1 : Bw < w.heap.size) (h2 : Bm < w.heap.size) (h3 : b < w.heap.size) (h4 : Bs < w.heap.size) (hB : w.heap.size ≤ B) : OwnFrom B (LBInv w Bt Bw Bm Bs b off cap N0 N zs T h st r) := by
  rintro i X Y row ⟨⟨st1, N1, hL, hS, hn, hf⟩, hweb, bW, bS, bR, bK, bT, hK⟩ hg hrow
  have hbx : ∀ {C : Nat} {t : TypeId} {v : Value}, Boxed X C t v → Boxed Y C t v := fun {C t v} hb => (boxed_own C t (fun _ : Unit => v)).from B () X Y row hb hg hrow
  have hkk : ∀ k, k < w.heap.size → Y.heap[k]? = X.heap[k]? := fun k hk => hg.block k (by have := hK.size; omega) (fun e => by have := (hrow k e.symm).1; omega)
  refine ⟨⟨st1, N1, hL, hS.keep (hkk Bs h4), hn, hf⟩, hweb.of (hkk Bw h1) (hkk Bm h2) (hkk b h3) (by have := hK.size; have := hg.size; omega), hbx bW, hbx bS, hbx bR, hbx bK, hbx bT, keep_own hB hK hg hrow⟩

theorem leadQ {f : Nat} {args : Array Value} {W : World} {m Bs N : Nat} {zs : List Int} {h st : Nat → Nat} {p : Nat} (H : Calls Try.prog f args W fun e W' => Keep m Bs W W' ∧ LBAns W' e Bs N zs h st p) :
    Calls Try.prog f args W fun e W' => ∃ q, e = .returned (.bool q) ∧ Keep m Bs W W' ∧ ((q = true ∧ Wb.None zs h) ∨ (q = false ∧ Wb.Fin zs h p ∧ ∃ st' N', Wb.Left zs h st st' ∧ StMap W' Bs N' st' ∧ N' + 2 * Wb.fr zs st' ≤ N + 2 * Wb.fr zs st)) :=
  H.mono fun _ _ ⟨hK, hA⟩ => hA.elim (fun ⟨he, r⟩ => ⟨true, he, hK, .inl ⟨rfl, r⟩⟩) (fun ⟨he, r⟩ => ⟨false, he, hK, .inr ⟨rfl, r⟩⟩)

set_option maxRecDepth 100000 in
set_option maxHeartbeats 2000000 in
theorem lead_new (zs : List Int) (G : Wb.Good zs) (T : Nat → Option Nat) (h : Nat → Nat) (S : Wb.St zs T h) (st : Nat → Nat) (Bw Bm Bs b off cap N0 N p : Nat) (w : World) (hW : WebAt w Bw Bm (some ⟨b, off, none⟩) cap zs N0 T) (hS : StMap w Bs N st) (hne : Bs ≠ Bm) (hp : p < zs.length) (hB : Wb.Begun zs h st p) (hD : Wb.Dones zs h st)
    (hst : st (Wb.hd zs h p) = 0) (hN : N + 2 * Wb.fr zs st ≤ 20000)
    (hL : ∀ (st1 : Nat → Nat) (N1 q : Nat) (W : World), Wb.fr zs st1 < Wb.fr zs st → q < zs.length → WebAt W Bw Bm (some ⟨b, off, none⟩) cap zs N0 T → StMap W Bs N1 st1 → Wb.Begun zs h st1 q → Wb.Dones zs h st1 → N1 + 2 * Wb.fr zs st1 ≤ 20000 →
      Calls Try.prog 88 #[.pointer (some ⟨Bw, 0, none⟩), .int .i64 (q : Int), .map (some Bs)] W fun e W' => Keep W.heap.size Bs W W' ∧ LBAns W' e Bs N1 zs h st1 q) :
    Calls Try.prog 88 #[.pointer (some ⟨Bw, 0, none⟩), .int .i64 (p : Int), .map (some Bs)] w fun e w' => Keep w.heap.size Bs w w' ∧ LBAns w' e Bs N zs h st p := by
  obtain ⟨F, hF⟩ : ∃ F, F = Fence.wide := ⟨_, rfl⟩
  refine (callsIn_wide (n := 3)).1 ?_
  rw [← hF]
  obtain ⟨hro, hfn, hdd, hcin⟩ := wide_facts hF
  have HPl : Hid (Pl F) := by rw [hF]; exact wide_pl
  clear hF
  have hf1 := hfn 88
  have hf2 := hfn 86
  have hf3 := hfn 68
  have hf4 := hfn 84
  clear hfn
  have hl5 := G.len
  have hl5' : (zs.length : Int) ≤ 5000 := by omega
  have hB0 : Below w.heap.size w (((w.alloc (.cells #[.pointer (some ⟨Bw, 0, none⟩)] 93)).alloc (.cells #[.map (some Bs)] 85)).alloc (.cells #[.bool false] 4)) :=
    (((Below.refl _ w).alloc (Nat.le_refl _) _).alloc (by simp) _).alloc (by simp; omega) _
  have bW := ((Boxed.new w 93 (.pointer (some ⟨Bw, 0, none⟩))).alloc (.cells #[.map (some Bs)] 85)).alloc (.cells #[.bool false] 4)
  have bS := (Boxed.new (w.alloc (.cells #[.pointer (some ⟨Bw, 0, none⟩)] 93)) 85 (.map (some Bs))).alloc (.cells #[.bool false] 4)
  have bR := Boxed.new ((w.alloc (.cells #[.pointer (some ⟨Bw, 0, none⟩)] 93)).alloc (.cells #[.map (some Bs)] 85)) 4 (.bool false)
  simp only [World.size_alloc] at bS bR
  have hH := hid (head_in F HPl.out (3 - 1) zs T h G S Bw Bm _ cap N0 p hp _ (hW.below hB0))
  have hS0 := hS.keep (hB0.block _ hS.lt)
  have hW0 := hW.below hB0
  have hs3 : (((w.alloc (.cells #[.pointer (some ⟨Bw, 0, none⟩)] 93)).alloc (.cells #[.map (some Bs)] 85)).alloc (.cells #[.bool false] 4)).heap.size = w.heap.size + 1 + 1 + 1 := by simp
  obtain ⟨W3, hW3⟩ : ∃ W3, ((w.alloc (.cells #[.pointer (some ⟨Bw, 0, none⟩)] 93)).alloc (.cells #[.map (some Bs)] 85)).alloc (.cells #[.bool false] 4) = W3 := ⟨_, rfl⟩
  have HW3 := hid hW3
  rw [hW3] at hB0 bW bS bR hH hS0 hW0 hs3
  obtain ⟨M, hM, hms⟩ := hS0
  have hcW := bW.cell
  have hcS := bS.cell
  obtain ⟨hr1, _, _⟩ := Wb.hd_lt G S hp
  have hwf := wfN (n := Wb.hd zs h p) (by omega)
  have hmr := (hms (Wb.hd zs h p)).1
  rw [hst] at hmr
  have hbl : b < w.heap.size := by
    obtain ⟨b', off', e, hb, _⟩ := hW.ints.at (by omega)
    cases e
    exact hb
  obtain ⟨hwl, hml⟩ := hW.lt
  have hBs := hS.lt
  obtain ⟨es, ck, hmap⟩ := hM.map
  have hwn : Bw ≠ Bs := ne_map hW0.cell0 hmap
  have hbn : b ≠ Bs := by
    obtain ⟨b', off', e, hb, hc⟩ := hW0.ints.at (by omega)
    cases e
    exact ne_map (hc 0 (by omega)) hmap
  have hfr := Wb.fr_set (v := 1) hr1 hst (by omega)
  have Hms := hid hms
  have HMp := hid hM
  have HG := hid G
  have HSt := hid S
  have HB := hid hB
  have HD := hid hD
  have HL := hid hL
  have Hst := hid hst
  have hcl := hid (fun st1 (L : Wb.Left zs h (Wb.setS st (Wb.hd zs h p) 1) st1) K => Wb.Left.close HG.out HSt.out hp Hst.out L K)
  have hkid := hid (fun st1 i hi hs => Wb.begun_kid (st1 := st1) (i := i) HG.out HSt.out hp HB.out hi hs)
  have hd1 := hid (Wb.dones_set1 HD.out (Wb.hd zs h p))
  clear hW3 G S hM hms hW hS hB hD hL hst hmap
  generalize Wb.hd zs h p = r at *
  refine callsIn_of_wp_marks Try.func88 rfl hf1 ?_ hro
  simp only [Try.ntmps88, List.size_toArray, List.length_cons, List.length_nil, Nat.reduceAdd, Nat.reduceSub, Array.replicate_succ, Array.replicate_zero, List.push_toArray, List.append_toArray, List.nil_append, List.cons_append]
  gi_wp2_with (first
    | ((try refine ⟨hdd _, ?_⟩); gi_at_call 86; rw [HW3.out]; refine hH.out.mono ?_; clear hH; rintro e W3 ⟨rfl, rfl⟩)
    | (gi_at_lookup; (refine wpi_look _ rfl _ _ 85 rfl 3 Try.underlying85 (zeroInt _) Bs N M rfl HMp.out (r : Int) rfl hwf (.int .i64 0) hmr ?_))
    | (gi_at_mapUpdate; (refine wpi_mapset _ rfl _ _ _ 85 rfl 3 Try.underlying85 Bs N M rfl HMp.out (by unfold maxLen; omega) (r : Int) rfl hwf (.int .i64 1) rfl ?_); intro W4 hM4 hg4; have k4 : ∀ k, k < W3.heap.size → k ≠ Bs → W4.heap[k]? = W3.heap[k]? := (fun k hk hn => hg4.block k hk (by simpa using hn)); have hs4 := hg4.size; have bW4 : Boxed W4 w.heap.size 93 (.pointer (some ⟨Bw, 0, none⟩)) := (k4 _ bW.lt (by omega)).trans bW; have bS4 : Boxed W4 (w.heap.size + 1) 85 (.map (some Bs)) := (k4 _ bS.lt (by omega)).trans bS; have bR4 : Boxed W4 (w.heap.size + 1 + 1) 4 (.bool false) := (k4 _ bR.lt (by omega)).trans bR; have hW4 := hW0.of (k4 Bw (by omega) hwn) (k4 Bm (by omega) (fun e => hne e.symm)) (k4 b (by omega) hbn) (by omega); have d1 := bW4.cell; have d2 := hW4.cell0)
    | ((try refine ⟨hdd _, ?_⟩); gi_at_call 68; refine (partsx_in F HPl.out _ _ _ _ _ _).mono ?_; rintro e w' ⟨rfl, rfl⟩))
  have hs6 : ((W4.alloc (.cells #[.slice (some ⟨b, off, none⟩) zs.length cap] 23)).alloc (.cells #[.int .i64 (r : Int)] 3)).heap.size = W4.heap.size + 1 + 1 := by simp
  have bT6 := (Boxed.new W4 23 (.slice (some ⟨b, off, none⟩) zs.length cap)).alloc (.cells #[.int .i64 (r : Int)] 3)
  have bK6 := Boxed.new (W4.alloc (.cells #[.slice (some ⟨b, off, none⟩) zs.length cap] 23)) 3 (.int .i64 (r : Int))
  rw [World.size_alloc] at bK6
  have bW6 := (bW4.alloc (.cells #[.slice (some ⟨b, off, none⟩) zs.length cap] 23)).alloc (.cells #[.int .i64 (r : Int)] 3)
  have bS6 := (bS4.alloc (.cells #[.slice (some ⟨b, off, none⟩) zs.length cap] 23)).alloc (.cells #[.int .i64 (r : Int)] 3)
  have bR6 := (bR4.alloc (.cells #[.slice (some ⟨b, off, none⟩) zs.length cap] 23)).alloc (.cells #[.int .i64 (r : Int)] 3)
  have hB46 : Below W4.heap.size W4 ((W4.alloc (.cells #[.slice (some ⟨b, off, none⟩) zs.length cap] 23)).alloc (.cells #[.int .i64 (r : Int)] 3)) := ((Below.refl _ W4).alloc (Nat.le_refl _) _).alloc (by simp) _
  have hK4 : Keep w.heap.size Bs w W4 := (Keep.of_below hB0).trans ⟨hg4.os, hg4.tape, hg4.output, hg4.size, fun k hk hn => k4 k (by omega) hn⟩
  have hS6 : StMap ((W4.alloc (.cells #[.slice (some ⟨b, off, none⟩) zs.length cap] 23)).alloc (.cells #[.int .i64 (r : Int)] 3)) Bs (N + 1) (Wb.setS st r 1) := (StMap.set (v := 1) Hms.out (by decide) hM4).keep (hB46.block _ (by omega))
  refine wpIn_rangeSteps hro (by omega) (gf := 84) (lb := #[.pointer (some ⟨W4.heap.size + 1, 0, none⟩), .pointer (some ⟨W4.heap.size, 0, none⟩)]) rfl hf4 (enters_of Try.func84 (by kernel_rfl) rfl)
    (parts_steps F HPl.out _ (W4.heap.size + 1) W4.heap.size r cap (some ⟨b, off, none⟩) zs hl5 hr1 (ends_beyond F HPl.out zs hl5 _ cap r)) (fun _ => rfl)
    (LBInv w W4.heap.size Bw Bm Bs b off cap N0 N zs T h st r)
    (fun c W => c = .ret ∧ Wb.None zs h ∧ Boxed W (w.heap.size + 1 + 1) 4 (.bool true) ∧ Keep w.heap.size Bs w W) (fun _ _ => False) (.inl fun _ _ h => h)
    (LBInv.own hwl hml hbl hBs (by rw [hs6]; omega))
    (by
      rintro c X Y row ⟨e, hN, hB, hK⟩ hg hr
      exact ⟨e, hN, (boxed_own (w.heap.size + 1 + 1) 4 (fun _ : Unit => .bool true)).from _ () X Y row hB hg hr, keep_own (by rw [hs6]; omega) hK hg hr⟩)
    (fun i W hI => ⟨hI.bK.cell, hI.bT.cell, hI.web.ints⟩)
    ⟨⟨_, _, Wb.Left.refl hd1.out, hS6, Nat.le_refl _, fun j hj => by omega⟩, hW4.below hB46, bW6, bS6, bR6, bK6, bT6, hK4.trans (Keep.of_below (hB46.mono hK4.size))⟩
    (fun i => { tmps := #[.pointer (some ⟨Bw, 0, none⟩), .int .i64 (r : Int), .map (some Bs), .pointer (some ⟨w.heap.size, 0, none⟩), undef, .pointer (some ⟨w.heap.size + 1, 0, none⟩), .pointer (some ⟨w.heap.size + 1 + 1, 0, none⟩), .int .i64 (Tm.pos zs r i : Int), .pointer (some ⟨Bw, 0, none⟩), .int .i64 (p : Int), .int .i64 (r : Int), .map (some Bs), .int .i64 (r : Int), .int .i64 0, .bool false, .bool false, .bool false, .bool false, .map (some Bs), .int .i64 (r : Int),
      .pointer (some ⟨Bw, 0, none⟩), .pointer (some ⟨Bw, 0, none⟩), .pointer (some ⟨Bw, 0, none⟩), .slice (some ⟨b, off, none⟩) zs.length cap, .int .i64 (r : Int), .func (.func 84) #[] #[.pointer (some ⟨W4.heap.size + 1, 0, none⟩), .pointer (some ⟨W4.heap.size, 0, none⟩)], .int .i64 (Tm.pos zs r i : Int), .int .i64 (Tm.pos zs r (i + 1) : Int), undef, undef, undef, undef, undef, undef], defers := [] }) ?assign ?body ?done ?stop ?panic
  case assign =>
    intro l i W K hK
    simp only [encPart]
    gi_wp2
    exact hK
  case body =>
    rintro l i W hI hi
    have hi' : i < Tm.room (Wb.sg zs r) := hi
    obtain ⟨⟨st1, N1, hLf, hSm, hn, hfin⟩, hweb, bW, bS, bR, bK, bT, hK⟩ := hI
    have hkl := Wb.kid_lt HG.out hr1 hi'
    have hfl := hLf.less
    have hC := HL.out st1 N1 (Tm.pos zs r i) W (by omega) hkl hweb hSm (hkid.out st1 i hi' hLf.one) hLf.dones (by omega)
    have hCt := hid (CallsIn.inRound l (hcin (n := 0) (leadQ hC)))
    have e1 := bW.cell
    have e2 := bS.cell
    have hnb : ∀ k, w.heap.size ≤ k → k ≠ Bs := fun k hk e => by omega
    clear hC
    gi_wp2_with (first
      | ((try refine ⟨hdd _, ?_⟩); gi_at_call 88; refine hCt.out.mono ?_; clear hCt; rintro e W1 ⟨q, rfl, hK1, hq⟩; have bW1 : Boxed W1 w.heap.size 93 (.pointer (some ⟨Bw, 0, none⟩)) := (hK1.block _ bW.lt (hnb _ (by omega))).trans bW; have bS1 : Boxed W1 (w.heap.size + 1) 85 (.map (some Bs)) := (hK1.block _ bS.lt (hnb _ (by omega))).trans bS; have bR1 : Boxed W1 (w.heap.size + 1 + 1) 4 (.bool false) := (hK1.block _ bR.lt (hnb _ (by omega))).trans bR; have bK1 : Boxed W1 (W4.heap.size + 1) 3 (.int .i64 (r : Int)) := (hK1.block _ bK.lt (hnb _ (by omega))).trans bK; have bT1 : Boxed W1 W4.heap.size 23 (.slice (some ⟨b, off, none⟩) zs.length cap) := (hK1.block _ bT.lt (hnb _ (by omega))).trans bT; have cR := bR1.cell; have fR := bR1.frozen; have hKw : Keep w.heap.size Bs w W1 := hK.trans (hK1.mono hK.size); have hkf : KeepsFrom (W4.heap.size + 1 + 1) W W1 := ⟨hK1.size, fun k o hk ho _ => (hK1.block k (Array.getElem?_eq_some_iff.1 ho).1 (hnb k (by omega))).trans ho⟩; rcases hq with ⟨rfl, hNo⟩ | ⟨rfl, hFn, st2, N2, hL2, hS2, hn2⟩))
    · rw [hs6]
      exact ⟨hkf.trans ((KeepsOthers.setCell _ _ _).from _), rfl, hNo, bR1.set _, keep_set hKw (by omega) _⟩
    · rw [hs6]
      have hsz := hK.size
      refine ⟨hkf, ⟨st2, N2, hLf.trans hL2, hS2, by omega, fun j hj => ?_⟩, hweb.of (hK1.block _ (by omega) hwn) (hK1.block _ (by omega) (fun e => hne e.symm)) (hK1.block _ (by omega) hbn) (by have := hK1.size; omega), bW1, bS1, bR1, bK1, bT1, hKw⟩
      by_cases e : j = i
      · subst e; exact hFn
      · exact hfin j (by omega)
  case done =>
    rintro D W hD hI hDd
    obtain ⟨⟨st1, N1, hLf, ⟨M1, hM1, hms1⟩, hn, hfin⟩, hweb, bW, bS, bR, bK, bT, hK⟩ := hI
    have hfl := hLf.less
    have e2 := bS.cell
    obtain ⟨hFin, hLeft, hless⟩ := hcl.out st1 hLf hfin
    have hsz := hK.size
    rw [hs6] at hD
    gi_wp2_with (first
      | (gi_at_mapUpdate; (refine wpi_mapset _ rfl _ _ _ 85 rfl 3 Try.underlying85 Bs N1 M1 rfl hM1 (by unfold maxLen; omega) (r : Int) rfl hwf (.int .i64 2) rfl ?_); intro W7 hM7 hg7; have k7 : ∀ k, k < W.heap.size → k ≠ Bs → W7.heap[k]? = W.heap[k]? := (fun k hk hn => hg7.block k hk (by simpa using hn)); have bR7 : Boxed W7 (w.heap.size + 1 + 1) 4 (.bool false) := (k7 _ bR.lt (by omega)).trans bR; have cR := bR7.cell; have fR := bR7.frozen))
    have hfle := Wb.fr_set_le zs st1 r 2 (by omega)
    have hDl : D < W.heap.size := (Array.getElem?_eq_some_iff.1 hDd).1
    have hDd2 : (W7.setCell ⟨w.heap.size + 1 + 1, 0, none⟩ (.bool false)).heap[D]? = some (.deferred (some [])) := (Below.heap_setCell W7 ⟨w.heap.size + 1 + 1, 0, none⟩ _ D (show D ≠ w.heap.size + 1 + 1 by omega)).trans ((k7 D hDl (by omega)).trans hDd)
    refine ⟨by simp, .inl ⟨_, _, rfl, run_takeDeferred hDd2, ?_⟩⟩
    refine ⟨_, results_boxB rfl rfl ((World.cell?_of_block (a := ⟨w.heap.size + 1 + 1, 0, none⟩) (World.putObj_heap_other (show w.heap.size + 1 + 1 ≠ D by omega))).trans (bR7.set _).cell), ?_⟩
    have hsz7 := hg7.size
    have hszc := (KeepsWalks.setCell W7 ⟨w.heap.size + 1 + 1, 0, none⟩ (.bool false)).size
    have hkk : ∀ k, k < w.heap.size → ((W7.setCell ⟨w.heap.size + 1 + 1, 0, none⟩ (.bool false)).putObj D (.deferred none)).heap[k]? = W7.heap[k]? := fun k hk => (World.putObj_heap_other (by omega)).trans (Below.heap_setCell W7 ⟨w.heap.size + 1 + 1, 0, none⟩ _ k (show k ≠ w.heap.size + 1 + 1 by omega))
    refine ⟨⟨hg7.os.trans hK.os, hg7.tape.trans hK.tape, hg7.output.trans hK.output, by simp; omega, fun k hk hm => (hkk k hk).trans ((k7 k (by omega) hm).trans (hK.block k hk hm))⟩, .inr ⟨rfl, hFin, _, N1 + 1, hLeft, (StMap.set (v := 2) hms1 (by decide) hM7).keep (hkk Bs hBs), by omega⟩⟩
  case stop =>
    rintro D c W hD ⟨rfl, hN, bR, hK⟩ hDd
    have c1 := bR.cell
    rw [hs6] at hD
    gi_wp2
    refine ⟨by simp, .inl ⟨_, _, rfl, run_takeDeferred hDd, ?_⟩⟩
    refine ⟨_, results_boxB rfl rfl ((World.cell?_of_block (a := ⟨w.heap.size + 1 + 1, 0, none⟩) (World.putObj_heap_other (show w.heap.size + 1 + 1 ≠ D by omega))).trans c1), ?_⟩
    exact ⟨⟨hK.os, hK.tape, hK.output, by have := hK.size; simp; omega, fun k hk hm => (World.putObj_heap_other (by omega)).trans (hK.block k hk hm)⟩, .inl ⟨rfl, hN⟩⟩
  case panic => exact fun _ _ _ _ h => h.elim

end Go.Proofs.Ytbelnlemjcoifaa

namespace Go.Proofs.Ytbelnlemjcoifaa
open Go.Proofs Go.RowKit Go.Shelf Go.Maps

theorem lead_all (zs : List Int) (G : Wb.Good zs) (T : Nat → Option Nat) (h : Nat → Nat) (S : Wb.St zs T h) (Bw Bm Bs b off cap N0 : Nat) (hne : Bs ≠ Bm) : ∀ (m : Nat) (st : Nat → Nat), Wb.fr zs st ≤ m → ∀ (N p : Nat) (w : World), p < zs.length → WebAt w Bw Bm (some ⟨b, off, none⟩) cap zs N0 T → StMap w Bs N st → Wb.Begun zs h st p → Wb.Dones zs h st → N + 2 * Wb.fr zs st ≤ 20000 →
    Calls Try.prog 88 #[.pointer (some ⟨Bw, 0, none⟩), .int .i64 (p : Int), .map (some Bs)] w fun e w' => Keep w.heap.size Bs w w' ∧ LBAns w' e Bs N zs h st p := by
  intro m
  induction m with
  | zero =>
    intro st hm N p w hp hW hS hB hD hN
    by_cases h0 : st (Wb.hd zs h p) = 0
    · exact lead_new zs G T h S st Bw Bm Bs b off cap N0 N p w hW hS hne hp hB hD h0 hN (fun st1 N1 q W hf => by omega)
    · exact (lead_seen zs G T h S st Bw Bm Bs _ cap N0 N p w hW hS hp hB hD (by have := hS.le (Wb.hd zs h p); omega)).mono fun _ _ ⟨hB, hA⟩ => ⟨Keep.of_below hB, hA⟩
  | succ m ih =>
    intro st hm N p w hp hW hS hB hD hN
    by_cases h0 : st (Wb.hd zs h p) = 0
    · exact lead_new zs G T h S st Bw Bm Bs b off cap N0 N p w hW hS hne hp hB hD h0 hN (fun st1 N1 q W hf hq hW1 hS1 hB1 hD1 hN1 => ih st1 (by omega) N1 q W hq hW1 hS1 hB1 hD1 hN1)
    · exact (lead_seen zs G T h S st Bw Bm Bs _ cap N0 N p w hW hS hp hB hD (by have := hS.le (Wb.hd zs h p); omega)).mono fun _ _ ⟨hB, hA⟩ => ⟨Keep.of_below hB, hA⟩

theorem fr_le (zs : List Int) (st : Nat → Nat) : Wb.fr zs st ≤ zs.length := by
  unfold Wb.fr
  have := List.length_filter_le (fun q => decide (st q = 0)) (List.range zs.length)
  simpa using this

set_option maxRecDepth 100000 in
set_option maxHeartbeats 1000000 in
/-- (*web).turnsBack. -/
theorem turnsBack_any (zs : List Int) (G : Wb.Good zs) (T : Nat → Option Nat) (h : Nat → Nat) (S : Wb.St zs T h) (Bw Bm b off cap N0 : Nat) (w : World) (hW : WebAt w Bw Bm (some ⟨b, off, none⟩) cap zs N0 T) :
    Calls Try.prog 82 #[.pointer (some ⟨Bw, 0, none⟩)] w fun e w' => Below w.heap.size w w' ∧ ((e = .returned (.bool true) ∧ Wb.None zs h) ∨ (e = .returned (.bool false) ∧ ∀ i, i < 8 → Wb.Fin zs h i)) := by
  have hmm := @run_makeMap Try.prog
  have hlt := hW.lt
  have h8 := G.eight
  have hl5 := G.len
  have HG := hid G
  have HS := hid S
  have HW := hid hW
  clear G S hW
  have hB0 : Below w.heap.size w (w.alloc (.map #[] 0)) := (Below.refl _ _).alloc (Nat.le_refl _) _
  go_enter Try.func82, Try.ntmps82
  go_wp2
  go_loopw [6] (fun i wr => ∃ (k : Nat) (st : Nat → Nat) (N : Nat), k ≤ 8 ∧ i = .int .i64 (k : Int) ∧ Hid (StMap wr w.heap.size N st) ∧ Hid (∀ x, st x ≠ 1) ∧ Hid (Wb.Dones zs h st) ∧ N + 2 * Wb.fr zs st ≤ 20000 ∧ Hid (∀ j, j < k → Wb.Fin zs h j) ∧ Below w.heap.size w wr) (fun i _ => 8 - (intOf i).toNat)
  case atStart => exact ⟨0, fun _ => 0, 0, by omega, rfl, StMap.made w, fun _ e => by simp at e, fun _ _ e => by simp at e, by have := fr_le zs (fun _ => 0); omega, fun j hj => by omega, hB0⟩
  case round =>
    obtain ⟨k, st, N, hk, rfl, hSm, hno, hD, hN, hfin, hB⟩ := hrel
    by_cases hlt8 : k < 8
    · have hlt' : (k : Int) < 8 := by omega
      have hC := leadQ (lead_all zs HG.out T h HS.out Bw Bm w.heap.size b off cap N0 (by omega) _ st (Nat.le_refl _) N k wr (by omega) (by
        obtain ⟨b', off', e, hb, _⟩ := HW.out.ints.at (by omega)
        cases e
        exact HW.out.of (hB.block _ hlt.1) (hB.block _ hlt.2) (hB.block _ hb) (by have := hB.size; omega)) hSm.out (fun θ _ _ q _ e => absurd e (hno.out q)) hD.out hN)
      go_wp2_with (first
        | (go_at_call 88; refine hC.mono ?_; clear hC; rintro e w1 ⟨q, rfl, hK1, hq⟩; have hB1 : Below w.heap.size w w1 := hB.trans ((hK1.mono hB.size).below (Nat.le_refl _)); rcases hq with ⟨rfl, hNo⟩ | ⟨rfl, hFn, st2, N2, hL2, hS2, hn2⟩))
      · go_ret
        exact ⟨hB1, .inl ⟨rfl, hNo⟩⟩
      · go_roundw
        case rel =>
          refine ⟨k + 1, st2, N2, by omega, by go_num, hS2, fun x e => hno.out x ((hL2.one x).1 e), hL2.dones, by omega, fun j hj => ?_, hB1⟩
          by_cases e : j = k
          · subst e; exact hFn
          · exact hfin.out j (by omega)
        case measure => simp [intOf]; omega
    · obtain rfl : k = 8 := by omega
      go_wp2
      go_ret
      exact ⟨hB, .inr ⟨rfl, hfin.out⟩⟩

end Go.Proofs.Ytbelnlemjcoifaa

namespace Go.Proofs.Ytbelnlemjcoifaa
open Go.Proofs Go.RowKit Go.Shelf

namespace Wb
theorem Exp.run {zs : List Int} {h : Nat → Nat} {p : Nat} {l : List Int} (H : Exp zs h p l) : Tm.run l 1 = l.length := by
  induction H with
  | mk p ls hl _ ih =>
    rw [show (1 : Nat) = 0 + 1 from rfl, Tm.run_cons, Nat.zero_add, ← hl, Tm.run_flatten ls (fun j hj => ih j (by omega)), List.length_cons]
    omega
theorem Exp.vars {zs : List Int} (G : Good zs) {T : Nat → Option Nat} {h : Nat → Nat} (S : St zs T h) {p : Nat} {l : List Int} (H : Exp zs h p l) : p < zs.length → ∀ s ∈ l, -8 ≤ s ∧ s < 6 := by
  induction H with
  | mk p ls hl _ ih =>
    intro hp s hs
    have hq := (hd_lt G S hp).1
    rcases List.mem_cons.1 hs with rfl | hs
    · exact G.known _ hq
    · obtain ⟨x, hx, hsx⟩ := List.mem_flatten.1 hs
      obtain ⟨i, hi, e⟩ := List.getElem_of_mem hx
      have hi' : i < Tm.room (sg zs (hd zs h p)) := by omega
      refine ih i hi' (kid_lt G hq hi') s ?_
      rw [List.getElem?_eq_getElem hi, Option.getD_some, e]
      exact hsx
/-- What variables become: all that is asked of it. -/
structure Sigma (zs : List Int) (h : Nat → Nat) (σ : Sb) : Prop where
  exp : ∀ i, i < 8 → Exp zs h i (σ (-1 - (i : Int)))
  term : TermSb σ
  vars : ∀ v, -8 ≤ v → v < 0 → InVars (σ v)
  resp : Resp zs h σ
  most : ∀ θ, Resp zs h θ → ∀ v, -8 ≤ v → v < 0 → θ v = App θ (σ v)
  least : ∀ v u, -8 ≤ v → v < 0 → σ v = [u] → u < 0 → v ≤ u
theorem Sigma.of {zs : List Int} (G : Good zs) {T : Nat → Option Nat} {h : Nat → Nat} (S : St zs T h) (C : Closed zs h []) (F : ∀ i, i < 8 → Fin zs h i) : ∃ σ, Sigma zs h σ := by
  have hc : ∀ i, ∃ l, i < 8 → Exp zs h i l := fun i => by
    by_cases hi : i < 8
    · obtain ⟨l, hl⟩ := (F i hi).exp
      exact ⟨l, fun _ => hl⟩
    · exact ⟨[], fun hi' => absurd hi' hi⟩
  obtain ⟨f, hf⟩ := Classical.axiomOfChoice hc
  have h8 := G.eight
  obtain ⟨σ, hσd⟩ : ∃ σ : Sb, σ = fun s => if -8 ≤ s ∧ s < 0 then f (-1 - s).toNat else [s] := ⟨_, rfl⟩
  have hin : ∀ i : Nat, i < 8 → σ (-1 - (i : Int)) = f i := fun i hi => by
    rw [hσd]
    show (if -8 ≤ -1 - (i : Int) ∧ -1 - (i : Int) < 0 then _ else _) = _
    rw [if_pos ⟨by omega, by omega⟩]
    congr 1
    omega
  have hexp : ∀ i : Nat, i < 8 → Exp zs h i (σ (-1 - (i : Int))) := fun i hi => by rw [hin i hi]; exact hf i hi
  have hv : ∀ v, -8 ≤ v → v < 0 → ∃ i : Nat, i < 8 ∧ v = -1 - (i : Int) := fun v h1 h2 => ⟨(-1 - v).toNat, by omega, by omega⟩
  refine ⟨σ, hexp, fun s hs => ?_, fun v h1 h2 => ?_, fun p hp cp => ?_, fun θ R v h1 h2 => ?_, fun v u h1 h2 e hu => ?_⟩
  · by_cases h1 : -8 ≤ s
    · obtain ⟨i, hi, rfl⟩ := hv s h1 hs
      exact (hexp i hi).run
    · rw [hσd]
      show Tm.run (if -8 ≤ s ∧ s < 0 then _ else _) 1 = (if -8 ≤ s ∧ s < 0 then _ else _ : List Int).length
      rw [if_neg (fun e => h1 e.1), show (1 : Nat) = 0 + 1 from rfl, Tm.run_cons, room_var hs, Tm.run_zero]
      rfl
  · obtain ⟨i, hi, rfl⟩ := hv v h1 h2
    exact fun s hs _ => ((hexp i hi).vars G S (by omega) s hs).1
  · have e1 := Exp.of_sigma G S C hexp _ p (Nat.le_refl _) hp
    obtain ⟨r1, r2, r3⟩ := S.root p hp cp
    have e2 := Exp.of_sigma G S C hexp _ (h p) (Nat.le_refl _) r1
    refine (e1.move ?_).one _ e2
    show h (can zs p) = h (can zs (h p))
    rw [cp, r2, r3]
  · obtain ⟨i, hi, rfl⟩ := hv v h1 h2
    have hm := (hexp i hi).most G S R (by omega)
    rw [cont_var G (by omega) (by rw [G.vars i hi]; omega), G.vars i hi, App_cons, if_pos (by omega), App_nil, List.append_nil] at hm
    exact hm
  · obtain ⟨i, hi, rfl⟩ := hv v h1 h2
    have he := hexp i hi
    rw [e] at he
    have hup := hd_up G S (p := i) (by omega)
    rw [G.vars i hi] at hup
    generalize hl : [u] = l at he
    cases he with
    | mk _ ls _ _ =>
      obtain ⟨rfl, _⟩ := List.cons.inj hl
      exact hup
end Wb

end Go.Proofs.Ytbelnlemjcoifaa

namespace Go.Proofs.Ytbelnlemjcoifaa
open Go.Proofs Go.RowKit Go.Shelf Go.Maps

/-- BLOCK Bw IS A WEB whose signs are its own. -/
def OwnWeb (W : World) (Bw Bm : Nat) (v : Value) (zs : List Int) : Prop := W.heap[Bw]? = some (.cells #[v, .map (some Bm)] 101 (0, 0)) ∧ New (Bw + 1) W v zs

end Go.Proofs.Ytbelnlemjcoifaa

namespace Go.Proofs.Ytbelnlemjcoifaa
open Go.Proofs Go.RowKit Go.Shelf

namespace Wb
theorem sg_ext {zs t : List Int} {p : Nat} (hp : p < zs.length) : sg (zs ++ t) p = sg zs p := by unfold sg; rw [List.getElem?_append_left hp]
theorem can_ext {zs t : List Int} {p : Nat} (hp : p < zs.length) : can (zs ++ t) p = can zs p := by unfold can; rw [sg_ext hp]
theorem end_ext {zs t : List Int} (G : Good zs) {p : Nat} (hp : p < zs.length) : Tm.endAt (zs ++ t) p = Tm.endAt zs p := by
  have h := Tm.endAt_mid (pre := []) (t := zs) (post := t) (k := p) (by omega) (G.ends p hp)
  simpa using h
theorem cont_ext {zs t : List Int} (G : Good zs) {p : Nat} (hp : p < zs.length) : cont (zs ++ t) p = cont zs p := by
  have h := Tm.part_mid (pre := []) (t := zs) (post := t) (k := p) (by omega) (G.ends p hp)
  simpa [cont] using h
theorem pos_ext {zs t : List Int} (G : Good zs) {p : Nat} (hp : p < zs.length) : ∀ i, i ≤ Tm.room (sg zs p) → Tm.pos (zs ++ t) p i = Tm.pos zs p i := by
  intro i
  induction i with
  | zero => intro _; rw [Tm.pos_zero, Tm.pos_zero]
  | succ i ih =>
    intro hi
    rw [Tm.pos_succ, Tm.pos_succ, ih (by omega)]
    exact end_ext G (kid_lt G hp (by omega))
theorem Good.ext {zs t : List Int} (G : Good zs) (ht : Tm.err t = 0) (hl : zs.length + t.length ≤ 5000) : Good (zs ++ t) := by
  refine ⟨by rw [List.length_append]; exact hl, by rw [List.length_append]; have := G.eight; omega, fun p hp => ?_, fun i hi => ?_, fun p hp => ?_⟩
  · by_cases h : p < zs.length
    · rw [sg_ext h]; exact G.known p h
    · rw [List.length_append] at hp
      have hk := Tm.all_at (Tm.err_all ht) (k := p - zs.length) (by omega)
      have e : sg (zs ++ t) p = t[p - zs.length]?.getD 0 := by unfold sg; rw [List.getElem?_append_right (by omega)]
      rw [e]
      exact ⟨Tm.known_ge hk, Tm.known_lt hk⟩
  · rw [sg_ext (by have := G.eight; omega)]; exact G.vars i hi
  · rw [List.length_append] at hp ⊢
    by_cases h : p < zs.length
    · rw [end_ext G h]; have := G.ends p h; omega
    · have he := Tm.end_in ht (k := p - zs.length) (by omega)
      have h2 := Tm.endAt_mid (pre := zs) (t := t) (post := []) (k := p - zs.length) (by omega) he
      rw [List.append_nil, show zs.length + (p - zs.length) = p from by omega] at h2
      omega
theorem St.ext {zs t : List Int} {T : Nat → Option Nat} {h : Nat → Nat} (S : St zs T h) : St (zs ++ t) T h := by
  have hc : ∀ p, p < zs.length → can (zs ++ t) p = can zs p := fun p hp => can_ext hp
  have hle : zs.length ≤ (zs ++ t).length := by rw [List.length_append]; omega
  refine ⟨fun p h1 h2 => ?_, fun p h1 h2 => ?_, fun p q h1 h2 h3 => ?_, ?_, fun p h1 h2 => ?_, fun p hp => S.out p (by omega)⟩
  · by_cases hp : p < zs.length
    · obtain ⟨a, b, c⟩ := S.root p hp (by rw [← hc p hp]; exact h2)
      exact ⟨by omega, by rw [hc _ a]; exact b, c⟩
    · obtain ⟨a, _⟩ := S.out p (by omega)
      rw [a]; exact ⟨h1, h2, a⟩
  · by_cases hp : p < zs.length
    · exact S.free p hp (by rw [← hc p hp]; exact h2)
    · obtain ⟨a, b⟩ := S.out p (by omega)
      simp [a, b]
  · by_cases hp : p < zs.length
    · obtain ⟨a, b, c⟩ := S.next p q hp (by rw [← hc p hp]; exact h2) h3
      exact ⟨by omega, by rw [hc _ a]; exact b, c⟩
    · obtain ⟨_, b⟩ := S.out p (by omega)
      rw [b] at h3; cases h3
  · obtain ⟨st, hst⟩ := S.down
    refine ⟨st, fun p q h1 h2 h3 => ?_⟩
    by_cases hp : p < zs.length
    · exact hst p q hp (by rw [← hc p hp]; exact h2) h3
    · obtain ⟨_, b⟩ := S.out p (by omega)
      rw [b] at h3; cases h3
  · by_cases hp : p < zs.length
    · have h2' : can zs p = p := by rw [← hc p hp]; exact h2
      obtain ⟨a, _, _⟩ := S.root p hp h2'
      rw [sg_ext hp, sg_ext a]
      exact S.up p hp h2'
    · rw [(S.out p (by omega)).1]; exact Int.le_refl _
theorem hd_ext {zs t : List Int} {h : Nat → Nat} {p : Nat} (hp : p < zs.length) : hd (zs ++ t) h p = hd zs h p := by unfold hd; rw [can_ext hp]
theorem Resp.ext {zs t : List Int} (G : Good zs) {T : Nat → Option Nat} {h : Nat → Nat} (S : St zs T h) {θ : Sb} (R : Resp zs h θ) : Resp (zs ++ t) h θ := fun p hp cp => by
  by_cases h1 : p < zs.length
  · have cp' : can zs p = p := by rw [← can_ext (t := t) h1]; exact cp
    obtain ⟨a, _, _⟩ := S.root p h1 cp'
    rw [cont_ext G h1, cont_ext G a]
    exact R p h1 cp'
  · rw [(S.out p (by omega)).1]
theorem Closed.ext {zs t : List Int} (G : Good zs) {T : Nat → Option Nat} {h : Nat → Nat} (S : St zs T h) (G' : Good (zs ++ t)) (C : Closed zs h []) : Closed (zs ++ t) h [] := fun p q hp hq sp sq e => by
  by_cases h1 : p < zs.length
  · by_cases h2 : q < zs.length
    · rw [sg_ext h1] at sp
      rw [sg_ext h2] at sq
      obtain ⟨e1, e2⟩ := C p q h1 h2 sp sq e
      rw [sg_ext h1, sg_ext h2]
      refine ⟨e1, fun i hi => ?_⟩
      rw [pos_ext G h1 i (by omega), pos_ext G h2 i (by rw [← e1]; omega)]
      have a := kid_lt G h1 hi
      have b := kid_lt G h2 (i := i) (by rw [← e1]; exact hi)
      exact .base _ _ (by rw [List.length_append]; omega) (by rw [List.length_append]; omega) (by rw [hd_ext a, hd_ext b]; exact eqv_nil (e2 i hi))
    · rw [sg_ext h1] at sp
      have := (S.root p h1 (can_pos sp)).1
      rw [e, (S.out q (by omega)).1] at this
      exact absurd this h2
  · by_cases h2 : q < zs.length
    · rw [sg_ext h2] at sq
      have := (S.root q h2 (can_pos sq)).1
      rw [← e, (S.out p (by omega)).1] at this
      exact absurd this h1
    · rw [(S.out p (by omega)).1, (S.out q (by omega)).1] at e
      subst e
      exact ⟨rfl, fun i hi => .base _ _ (kid_lt G' hp hi) (kid_lt G' hp hi) rfl⟩
end Wb

end Go.Proofs.Ytbelnlemjcoifaa

namespace Go.Proofs.Ytbelnlemjcoifaa
open Go.Proofs Go.RowKit Go.Shelf Go.Maps

theorem run_append1 (w : World) (ty : TypeId) (base : Nat) (v : Value) (xs : List Int) (hN : New base w v xs) (B : Nat) (y : Int) (hB : w.cell? ⟨B, 0, none⟩ = some (.int .i64 y)) (hlen : xs.length ≤ 1000000) (hbase : base ≤ w.heap.size) :
    ∃ v' w', (Builtin.append_ #[23, 23] ty #[v, .slice (some ⟨B, 0, none⟩) 1 1]).run Try.prog w = .ok v' w' ∧ New base w' v' (xs ++ [y]) ∧ w.grownBy w' v.ownBlock ∧ (v'.ownBlock = v.ownBlock ∨ v'.ownBlock = some w.heap.size) := by
  obtain ⟨i0, hi, hz0, hz1, hz2⟩ := info_parts Try.info3
  have hc : ∀ j u, [Value.int .i64 y][j]? = some u → w.cell? ((⟨B, 0, none⟩ : Addr).add j) = some u := by
    intro j z hj
    match j, hj with
    | 0, hj => simp at hj; subst hj; rw [Go.WideShapes.add_plain]; simpa using hB
  have h1 : ∀ u ∈ [Value.int .i64 y], u.oneCell' = true := by intro z hz; simp at hz; subst hz; rfl
  obtain ⟨v', w', hr, r1, r2, _⟩ := run_append_own (P := Try.prog) w base 23 ty 3 i0 (.int .i64 0) 1 8 Try.underlying23 hi hz0 hz1 hz2 rfl (by decide) v xs.length (xs.map (Value.int .i64)) hN ⟨B, 0, none⟩ 1 1 [.int .i64 y] (by simp) hc h1 (by unfold maxLen; omega) (by omega) hbase
  refine ⟨v', w', hr, by simpa [New] using r1, r2, ?_⟩
  have hsz : i0.size = 1 := hz1
  have hby : i0.bytes = 8 := hz2
  rcases hN.2 with ⟨rfl, h0⟩ | ⟨g, cap, cur, rfl, hbg, hg, hnc, hcm, hcs, htake⟩
  · have hr2 := run_append_nil (P := Try.prog) w 23 ty 3 i0 (.int .i64 0) Try.underlying23 hi hz0 ⟨B, 0, none⟩ 1 1 [.int .i64 y] (by simp [hsz]) hc (by omega) (by omega) (by omega)
    rw [hr] at hr2
    cases hr2
    exact .inr rfl
  · by_cases hroom : xs.length + 1 ≤ cap
    · have hfit : xs.length * i0.size + [Value.int .i64 y].length ≤ cur.size := by rw [hcs, hsz]; simp; omega
      have hr2 := run_append_room (P := Try.prog) w 23 ty 3 i0 Try.underlying23 hi g xs.length cap cur hg ⟨B, 0, none⟩ 1 1 [.int .i64 y] (by simp [hsz]) hc h1 hroom hfit
      rw [hr] at hr2
      cases hr2
      exact .inl rfl
    · have hr2 := run_append_grow (P := Try.prog) w 23 ty 3 i0 (.int .i64 0) Try.underlying23 hi hz0 ⟨g, 0, none⟩ xs.length cap (xs.map (Value.int .i64)) (by simp [hsz]) (World.ownsRow.cells hN (g := g) rfl) ⟨B, 0, none⟩ 1 1 [.int .i64 y] (by simp [hsz]) hc (by omega) (by omega) (growslice_fits (by omega) (by rw [hby]; omega))
      rw [hr] at hr2
      cases hr2
      exact .inr rfl

theorem opi_append1 {F : Fence} {n : Nat} {o : Oper} {a : Act} {K : Act → World → Prop} {Q : Exit → Act → World → Prop} (w : World) (s x : Operand)
    (ho : o.op = .call { callee := .builtin .append, args := #[s, x], argTypes := #[23, 23] }) (base : Nat) (v : Value) (xs : List Int) (hs : a.eval s = v) (hN : New base w v xs)
    (B : Nat) (y : Int) (hx : a.eval x = .slice (some ⟨B, 0, none⟩) 1 1) (hB : w.cell? ⟨B, 0, none⟩ = some (.int .i64 y)) (hlen : xs.length ≤ 1000000) (hbase : base ≤ w.heap.size)
    (h : ∀ v' w', New base w' v' (xs ++ [y]) → w.grownBy w' v.ownBlock → (v'.ownBlock = v.ownBlock ∨ v'.ownBlock = some w.heap.size) → K (a.put o.dst v') w') : Oper.wpIn F n Try.prog o a w K Q := by
  obtain ⟨v', w', hrun, r1, r2, r3⟩ := run_append1 w o.type base v xs hN B y hB hlen hbase
  unfold Oper.wpIn
  refine ⟨?_, ?_⟩
  · simp [Oper.about, ho, resolve, Target.leads, Sem.run_pure]
  · rw [Oper.semAt_plain F _ _ (by rw [ho]; intro c hc'; cases hc')]
    simp [execOp, ho, resolve, invoke, builtin, hs, hx, hrun, Result.andThen]
    exact h v' w' r1 r2 r3

namespace Wb
theorem flat_take_succ (ls : List (List Int)) (i : Nat) (hi : i < ls.length) : (ls.take (i + 1)).flatten = (ls.take i).flatten ++ ls[i]?.getD [] := by
  rw [List.take_add_one, List.getElem?_eq_getElem hi, List.flatten_append]
  simp
theorem flat_take_le (ls : List (List Int)) (i : Nat) : (ls.take i).flatten.length ≤ ls.flatten.length := by
  conv => rhs; rw [← List.take_append_drop i ls, List.flatten_append, List.length_append]
  omega
end Wb

/-- What is told by a panic: too large. -/
def manyChain : List PanicEntry := [{ v := .iface 24 (.int .i64 2), recovered := false }]
/-- What grown leaves: xs with l behind it, or the panic that l is too large; it writes nothing but the list's own block. -/
def GrAns (w w' : World) (base : Nat) (e : Ending) (v : Value) (xs l : List Int) : Prop :=
  w.grownBy w' v.ownBlock ∧ ((xs.length + l.length ≤ 30 ∧ ∃ v', e = .returned v' ∧ New base w' v' (xs ++ l) ∧ ∀ k, v'.ownBlock = some k → v.ownBlock = some k ∨ w.heap.size ≤ k) ∨ (30 < xs.length + l.length ∧ e = .panicked manyChain))

end Go.Proofs.Ytbelnlemjcoifaa

namespace Go.Proofs.Ytbelnlemjcoifaa
open Go.Proofs Go.RowKit Go.Shelf Go.Maps

attribute [local go_sem] Oper.semAt_some

/-- What holds ahead of round i of grown. -/
structure GInv (w : World) (Bt Bw Bm b off cap N base : Nat) (zs : List Int) (T : Nat → Option Nat) (v : Value) (ys : List Int) (ls : List (List Int)) (r i : Nat) (W : World) : Prop where
  out : ∃ v1, Boxed W (w.heap.size + 1) 23 v1 ∧ New base W v1 (ys ++ (ls.take i).flatten) ∧ ys.length + (ls.take i).flatten.length ≤ 30 ∧ ∀ k, v1.ownBlock = some k → (v.ownBlock = some k ∨ w.heap.size ≤ k) ∧ k ≠ w.heap.size ∧ k ≠ w.heap.size + 1 ∧ k ≠ Bt ∧ k ≠ Bt + 1
  web : WebAt W Bw Bm (some ⟨b, off, none⟩) cap zs N T
  bW : Boxed W w.heap.size 93 (.pointer (some ⟨Bw, 0, none⟩))
  bK : Boxed W (Bt + 1) 3 (.int .i64 (r : Int))
  bT : Boxed W Bt 23 (.slice (some ⟨b, off, none⟩) zs.length cap)
  gr : w.grownBy W v.ownBlock
theorem own_cells {base : Nat} {X : World} {v : Value} {xs : List Int} {k : Nat} (hN : New base X v xs) (hk : v.ownBlock = some k) : ∃ o : Obj, X.heap[k]? = some o ∧ o.isCells = true := by
  rcases hN.2 with ⟨rfl, _⟩ | ⟨g, cap, cur, rfl, _, hg, _⟩
  · simp [Value.ownBlock] at hk
  · simp [Value.ownBlock] at hk
    subst hk
    exact ⟨_, hg, rfl⟩
theorem New.slice3 {base : Nat} {X : World} {v : Value} {xs : List Int} (hN : New base X v xs) : ∃ a n c, v = .slice a n c := by
  obtain ⟨a, c, e, _⟩ := New.ints hN
  exact ⟨a, _, c, e⟩
theorem keeps_new {base B : Nat} {X Y : World} {v : Value} {xs : List Int} (hN : New base X v xs) (hg : X.grownBy Y v.ownBlock) : KeepsFrom B X Y :=
  ⟨hg.size, fun k o _ ho hc => (hg.block k (Array.getElem?_eq_some_iff.1 ho).1 (fun e => by
    obtain ⟨o', ho', hf'⟩ := own_cells hN e.symm
    rw [ho] at ho'
    cases ho'
    rw [hc] at hf'
    cases hf')).trans ho⟩
theorem New.own {base : Nat} {X Y : World} {v : Value} {xs : List Int} {row : Option Nat} (hN : New base X v xs) (hg : X.grownBy Y row) (hr : ∀ r, row = some r → ∃ o : Obj, X.heap[r]? = some o ∧ o.isCells = false) : New base Y v xs := by
  refine World.ownsRow.kept hN hg ?_
  cases hv : v.ownBlock with
  | none => exact .inl rfl
  | some k =>
    refine .inr fun e => ?_
    obtain ⟨o, ho, hf⟩ := hr k e.symm
    obtain ⟨o', ho', hf'⟩ := own_cells hN hv
    rw [ho] at ho'
    cases ho'
    rw [hf] at hf'
    cases hf'
theorem grown_trans {w X Y : World} {row row' : Option Nat} (h : w.grownBy X row) (h' : X.grownBy Y row') (hr : ∀ k, row' = some k → row = some k ∨ w.heap.size ≤ k) : w.grownBy Y row :=
  ⟨h'.os.trans h.os, h'.tape.trans h.tape, h'.output.trans h.output, Nat.le_trans h.size h'.size, fun k hk hn => (h'.block k (by have := h.size; omega) (fun e => by
    rcases hr k e.symm with h1 | h1
    · exact hn h1.symm
    · omega)).trans (h.block k hk hn)⟩
theorem GInv.own {w : World} {Bt Bw Bm b off cap N base : Nat} {zs : List Int} {T : Nat → Option Nat} {v : Value} {ys : List Int} {ls : List (List Int)} {r B : Nat} (h1 : Bw < w.heap.size) (h2 : Bm < w.heap.size) (h3 : b < w.heap.size) (hB : w.heap.size ≤ B) : OwnFrom B (GInv w Bt Bw Bm b off cap N base zs T v ys ls r) := by
  rintro i X Y row ⟨⟨v1, bO, hN, hl, ho⟩, hweb, bW, bK, bT, hG⟩ hg hrow
  have hbx : ∀ {C : Nat} {t : TypeId} {v : Value}, Boxed X C t v → Boxed Y C t v := fun {C t v} hb => (boxed_own C t (fun _ : Unit => v)).from B () X Y row hb hg hrow
  have hkk : ∀ k, k < w.heap.size → Y.heap[k]? = X.heap[k]? := fun k hk => hg.block k (by have := hG.size; omega) (fun e => by have := (hrow k e.symm).1; omega)
  exact ⟨⟨v1, hbx bO, hN.own hg (fun q e => (hrow q e).2), hl, ho⟩, hweb.of (hkk Bw h1) (hkk Bm h2) (hkk b h3) (by have := hG.size; have := hg.size; omega), hbx bW, hbx bK, hbx bT, grown_trans hG hg fun k e => .inr (by have := (hrow k e).1; omega)⟩

set_option maxRecDepth 100000 in
set_option maxHeartbeats 1000000 in
theorem grown_full (n : Nat) (base Bw p : Nat) (v : Value) (xs l : List Int) (w : World) (hN : New base w v xs) (h30 : xs.length = 30) (hl : 1 ≤ l.length) :
    CallsIn Fx n Try.prog 90 #[.pointer (some ⟨Bw, 0, none⟩), v, .int .i64 (p : Int)] w fun e w' => GrAns w w' base e v xs l := by
  obtain ⟨hro, hfn, hdd⟩ := fx_facts fx_pl
  have hf := hfn _ _ Try.func90
  clear hfn
  have hA : Hid (∀ w', w.grownBy w' v.ownBlock → GrAns w w' base (.panicked manyChain) v xs l) := fun w' hg => ⟨hg, .inr ⟨by omega, rfl⟩⟩
  obtain ⟨a, c, rfl, _⟩ := New.ints hN
  rw [h30] at hA ⊢
  clear hN h30 hl
  refine callsIn_of_wp_marks Try.func90 rfl hf ?_ hro
  simp only [Try.ntmps90, List.size_toArray, List.length_cons, List.length_nil, Nat.reduceAdd, Nat.reduceSub, Array.replicate_succ, Array.replicate_zero, List.push_toArray, List.append_toArray, List.nil_append, List.cons_append]
  gi_wp2
  exact hA.out _ (grown_trans (World.grownBy_alloc w _ _) (World.grownBy_alloc _ _ none) (fun k e => by cases e))

end Go.Proofs.Ytbelnlemjcoifaa
