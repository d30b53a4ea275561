/-
  haspref's (*ties).close. · NODES WHILE THEY ARE LAID: what haspref's (*ties).node leaves. · haspref's (*ties).node. · haspref.met: from nodes that are laid to ties; what holds while pairs are tied. · haspref.met: nodes of both terms of a pair; a tie of two nodes; what is filled in. · haspref.met. · haspref.met, MeetOf, MeetAll.
-/
import Derived.Test.YtloealnfbpegnabBun12
import Derived.Deep.AppendLies
import Derived.Deep.RegionLaw
import Derived.Test.YtloealnfbpegnabBun8
import Derived.Test.YtloealnfbpegnabBun11
namespace Go.Proofs.Ytloealnfbpegnab
open Go.Proofs Go.RowKit Go.Shelf Go.Maps

namespace Mt
open Wb (App TermSb Same Sb)
/-- What holds while parts are tied: C0: how it began; C1: how this round began; ag: whether something was tied in it. -/
structure CInv (n : Nat) (Z : Nat → List Int) (C0 C1 : Nat → Nat) (ag : Bool) (C : Nat → Nat) : Prop where
  lt : ∀ k, k < n → C k < n
  coarse : ∀ i j, i < n → j < n → C0 i = C0 j → C i = C j
  sound : ∀ θ, TermSb θ → Resp n Z C0 θ → Resp n Z C θ
  same : ag = false → C = C1
  less : ag = true → cls n C < cls n C1
theorem CInv.le {n : Nat} {Z : Nat → List Int} {C0 C1 : Nat → Nat} {ag : Bool} {C : Nat → Nat} (H : CInv n Z C0 C1 ag C) : cls n C ≤ cls n C1 := by
  cases ag with
  | false => rw [H.same rfl]; exact Nat.le_refl _
  | true => have := H.less rfl; omega
theorem CInv.begin {n : Nat} {Z : Nat → List Int} {C0 C1 : Nat → Nat} {ag : Bool} {C : Nat → Nat} (H : CInv n Z C0 C1 ag C) : CInv n Z C0 C false C := ⟨H.lt, H.coarse, H.sound, fun _ => rfl, fun h => by cases h⟩
theorem CInv.start {n : Nat} (Z : Nat → List Int) {C : Nat → Nat} (h : ∀ k, k < n → C k < n) : CInv n Z C C false C := ⟨h, fun _ _ _ _ e => e, fun _ _ R => R, fun _ => rfl, fun h => by cases h⟩
theorem CInv.parts {n : Nat} {S : Nat → Int} {K : Nat → List Nat} {Z : Nat → List Int} (G : Gph n S K Z) {C0 C1 : Nat → Nat} {ag : Bool} {C : Nat → Nat} (H : CInv n Z C0 C1 ag C) {a b : Nat} (ha : a < n) (hb : b < n) (sa : 0 ≤ S a) (sb : 0 ≤ S b) (e : C a = C b) : ∀ θ, TermSb θ → Resp n Z C0 θ → S a = S b ∧ ∀ i, i < Tm.room (S a) → App θ (Z ((K a)[i]?.getD 0)) = App θ (Z ((K b)[i]?.getD 0)) :=
  fun θ hθ R => G.eq hθ ha hb sa sb (H.sound θ hθ R a b ha hb e)
theorem CInv.tie {n : Nat} {S : Nat → Int} {K : Nat → List Nat} {Z : Nat → List Int} (G : Gph n S K Z) {C0 C1 : Nat → Nat} {ag : Bool} {C : Nat → Nat} (H : CInv n Z C0 C1 ag C) {a b i : Nat} (ha : a < n) (hb : b < n) (sa : 0 ≤ S a) (sb : 0 ≤ S b) (e : C a = C b) (hi : i < Tm.room (S a)) (li : (K a)[i]?.getD 0 < n) (lj : (K b)[i]?.getD 0 < n) (hne : C ((K a)[i]?.getD 0) ≠ C ((K b)[i]?.getD 0)) :
    CInv n Z C0 C1 true (tied C ((K a)[i]?.getD 0) ((K b)[i]?.getD 0)) := by
  refine ⟨tied_lt H.lt lj, fun i j hi hj e => tied_mono _ _ (H.coarse i j hi hj e), fun θ hθ R => (H.sound θ hθ R).tie li lj ((H.parts G ha hb sa sb e θ hθ R).2 i hi), (fun h => by cases h), fun _ => ?_⟩
  have h1 := cls_tie H.lt li lj hne
  have h2 := H.le
  omega
theorem cls_congr {n : Nat} {C D : Nat → Nat} (h : ∀ k, k < n → C k = D k) : cls n C = cls n D := by
  unfold cls
  congr 1
  refine List.filter_congr fun c _ => ?_
  rw [Bool.eq_iff_iff, used_iff, used_iff]
  constructor
  · rintro ⟨k, hk, e⟩; exact ⟨k, hk, by rw [← h k hk]; exact e⟩
  · rintro ⟨k, hk, e⟩; exact ⟨k, hk, by rw [h k hk]; exact e⟩
/-- The classes, as they are read. -/
def rdC (g : Nat) (W : World) (k : Nat) : Nat := match W.cell? ⟨g, k, none⟩ with
  | some (.int _ z) => z.toNat
  | _ => 0
/-- Till nothing is tied any more. -/
def left (n g : Nat) (v : Value) (W : World) : Nat := 2 * cls n (rdC g W) + (match v with | .bool true => 1 | _ => 0)
end Mt
theorem TiesO.drewN {W : World} {x n : Nat} {aN : Option Addr} {cN g cC : Nat} {N : Nat → Nat} {C : Nat → Nat} {S : Nat → Int} {K : Nat → List Nat} {P : Nat → Nat → Nat} (h : TiesO W x n aN cN g cC N C S K P) (d : Nat) : TiesO (W.drewN d) x n aN cN g cC N C S K P := h.keep (keep_drewN (Keep.refl _ _ _) d) (h.2.2.drewN d)
theorem TiesO.cls {W : World} {x n : Nat} {aN : Option Addr} {cN g cC : Nat} {N : Nat → Nat} {C : Nat → Nat} {S : Nat → Int} {K : Nat → List Nat} {P : Nat → Nat → Nat} (h : TiesO W x n aN cN g cC N C S K P) : Mt.cls n (Mt.rdC g W) = Mt.cls n C := by
  refine Mt.cls_congr fun k hk => ?_
  obtain ⟨_, _, e, hc⟩ := h.ties.cl k hk
  cases e
  rw [Nat.zero_add] at hc
  unfold Mt.rdC
  rw [hc]
  exact Int.toNat_natCast _

/-- What close answers. -/
def CloseAns (w w' : World) (e : Ending) (x n : Nat) (aN : Option Addr) (cN g cC : Nat) (N : Nat → Nat) (C0 : Nat → Nat) (S : Nat → Int) (K : Nat → List Nat) (P : Nat → Nat → Nat) (Z : Nat → List Int) : Prop :=
  Keep w.heap.size g w w' ∧ ((e = .returned (.bool false) ∧ ∀ θ, Wb.TermSb θ → ¬ Mt.Resp n Z C0 θ) ∨
    (e = .returned (.bool true) ∧ ∃ C, TiesO w' x n aN cN g cC N C S K P ∧ (∀ k, k < n → C k < n) ∧ (∀ i j, i < n → j < n → C0 i = C0 j → C i = C j) ∧ (∀ θ, Wb.TermSb θ → Mt.Resp n Z C0 θ → Mt.Resp n Z C θ) ∧ ∀ a b, a < n → b < n → Mt.Shut S K C a b))
theorem Mt.Shut.symm {S : Nat → Int} {K : Nat → List Nat} {C : Nat → Nat} {a b : Nat} (h : Mt.Shut S K C a b) : Mt.Shut S K C b a := fun e h1 h2 => by
  obtain ⟨e1, e2⟩ := h e.symm h2 h1
  exact ⟨e1.symm, fun i hi => (e2 i (by rw [e1]; exact hi)).symm⟩
theorem Mt.Shut.all {n : Nat} {S : Nat → Int} {K : Nat → List Nat} {C : Nat → Nat} (h : ∀ a b, a < n → b < a → Mt.Shut S K C a b) : ∀ a b, a < n → b < n → Mt.Shut S K C a b := fun a b ha hb => by
  rcases Nat.lt_trichotomy b a with h1 | rfl | h1
  · exact h a b ha h1
  · exact fun _ _ _ => ⟨rfl, fun _ _ => rfl⟩
  · exact (h b a hb h1).symm

set_option maxRecDepth 100000 in
set_option maxHeartbeats 2000000 in
/-- (*ties).close. -/
theorem tclose_any {x n : Nat} {aN : Option Addr} {cN g cC : Nat} {N : Nat → Nat} {C0 : Nat → Nat} {S : Nat → Int} {K : Nat → List Nat} {P : Nat → Nat → Nat} {Z : Nat → List Int} (G : Mt.Gph n S K Z) (w : World) (H : TiesO w x n aN cN g cC N C0 S K P) (hlt0 : ∀ k, k < n → C0 k < n) (hn0 : 0 < n) :
    Calls Try.prog 56 #[ptr x] w fun e w' => CloseAns w w' e x n aN cN g cC N C0 S K P Z := by
  have hn := H.ties.le
  have hn' : (n : Int) ≤ 5000 := by omega
  obtain ⟨bN, oN, rfl, _⟩ := H.ties.nd 0 hn0
  have HG := hid G
  have hI0 := hid (Mt.CInv.start Z hlt0)
  have HO := hid H
  clear H hlt0 G
  go_enter Try.func56, Try.ntmps56
  go_wp2
  go_loopw [3] (fun v wr => ∃ (ag : Bool) (C : Nat → Nat), v = .bool ag ∧ Hid (Mt.CInv n Z C0 C false C) ∧ Hid (ag = false → ∀ a b, a < n → b < a → Mt.Shut S K C a b) ∧ Hid (Keep w.heap.size g w wr) ∧ Hid (TiesO wr x n (some ⟨bN, oN, none⟩) cN g cC N C S K P)) (fun v wr => Mt.left n g v wr)
  case atStart => exact ⟨true, C0, rfl, hI0, (fun h => by cases h), Keep.refl _ _ _, HO⟩
  case round =>
    obtain ⟨ag, C1, rfl, hI1, hSh1, hK1, hO1⟩ := hrel
    have hleft : Hid (Mt.left n g (.bool ag) wr = 2 * Mt.cls n C1 + (match Value.bool ag with | .bool true => 1 | _ => 0)) := by show Mt.left n g (.bool ag) wr = _; unfold Mt.left; rw [hO1.out.cls]
    cases ag with
    | false =>
      go_wp2
      go_ret
      exact ⟨hK1.out, .inr ⟨rfl, C1, hO1.out, hI1.out.lt, hI1.out.coarse, hI1.out.sound, Mt.Shut.all (hSh1.out (by first | rfl | trivial))⟩⟩
    | true =>
      clear hSh1
      go_wp2
      go_loopw [3, 4] (fun v i wr => ∃ (ag : Bool) (a : Nat) (C : Nat → Nat), v = .bool ag ∧ i = .int .i64 (a : Int) ∧ a ≤ n ∧ Hid (Mt.CInv n Z C0 C1 ag C) ∧ Hid (ag = false → ∀ a' b', a' < a → b' < a' → Mt.Shut S K C1 a' b') ∧ Hid (Keep w.heap.size g w wr) ∧ Hid (TiesO wr x n (some ⟨bN, oN, none⟩) cN g cC N C S K P)) (fun _ i _ => n - (intOf i).toNat)
      case atStart => exact ⟨false, 0, C1, rfl, rfl, Nat.zero_le _, hI1, fun _ a' b' h => by omega, hK1, hO1⟩
      case round =>
        obtain ⟨ag, a, C2, rfl, rfl, ha, hI2, hSh2, hK2, hO2⟩ := hrel
        have h0r := hO2.out.ties.c0
        by_cases han : a < n
        · have han' : (a : Int) < (n : Int) := by omega
          have hkn := (HG.out.known a han)
          go_wp2
          go_loopw [3, 5] (fun v i wr => ∃ (ag : Bool) (b : Nat) (C : Nat → Nat), v = .bool ag ∧ i = .int .i64 (b : Int) ∧ b ≤ a ∧ Hid (Mt.CInv n Z C0 C1 ag C) ∧ Hid (ag = false → ∀ a' b', b' < a' → (a' < a ∨ (a' = a ∧ b' < b)) → Mt.Shut S K C1 a' b') ∧ Hid (Keep w.heap.size g w wr) ∧ Hid (TiesO wr x n (some ⟨bN, oN, none⟩) cN g cC N C S K P)) (fun _ i _ => a - (intOf i).toNat)
          case atStart => exact ⟨ag, 0, C2, rfl, rfl, Nat.zero_le _, hI2, fun h a' b' h1 h2 => hSh2.out h a' b' (by omega) h1, hK2, hO2⟩
          case round =>
            obtain ⟨ag, b, C3, rfl, rfl, hb, hI3, hSh3, hK3, hO3⟩ := hrel
            have hT := hO3.out.ties
            have h0r := hT.c0
            have h1r := hT.c1
            by_cases hba : b < a
            · have hba' : (b : Int) < (a : Int) := by omega
              have hbn : b < n := by omega
              have hbn' : (b : Int) < (n : Int) := by omega
              obtain ⟨_, _, e, hna⟩ := hT.nd a han
              cases e
              obtain ⟨_, _, e, hnb⟩ := hT.nd b hbn
              cases e
              obtain ⟨_, _, e, hca⟩ := hT.cl a han
              cases e
              obtain ⟨_, _, e, hcb⟩ := hT.cl b hbn
              cases e
              rw [Nat.zero_add] at hca hcb
              obtain ⟨pa, qa, hNa, hpa⟩ := hT.tr a han
              obtain ⟨pb, qb, hNb, hpb⟩ := hT.tr b hbn
              have hsa := hNa.cell0
              have hsb := hNb.cell0
              have hla := hid hNa.cell1
              have hlb := hid hNb.cell1
              have Hpa := hid hpa
              have Hpb := hid hpb
              have HT := hid hT
              have hO3' := hid (fun d => hO3.out.drewN d)
              have hK3' := hid (fun d => keep_drewN hK3.out d)
              clear hNa hNb hpa hpb hT
              have hsk : Hid (Mt.Shut S K C1 a b → ag = false → ∀ a' b', b' < a' → (a' < a ∨ (a' = a ∧ b' < b + 1)) → Mt.Shut S K C1 a' b') := fun hs h a' b' h1 h2 => by
                by_cases e : a' = a ∧ b' = b
                · obtain ⟨rfl, rfl⟩ := e; exact hs
                · exact hSh3.out h a' b' h1 (by omega)
              by_cases hC : C3 a = C3 b
              · have hneq : ((C3 a : Int) != (C3 b : Int)) = false := by rw [hC]; simp
                by_cases hs1 : S a < 0
                · have hr : Hid (ag = false → ∀ a' b', b' < a' → (a' < a ∨ (a' = a ∧ b' < b + 1)) → Mt.Shut S K C1 a' b') := hsk.out fun _ h _ => by omega
                  clear hC hla hlb hsk
                  go_wp2
                  go_quiet (fail)
                  go_wp2
                  go_quiet (fail)
                  go_wp2
                  go_roundw
                  case rel => exact ⟨ag, b + 1, C3, rfl, by go_num, by omega, hI3, hr, hK3'.out _, hO3'.out _⟩
                  case measure => simp [intOf]; omega
                · have hs1' : decide (S a < 0) = false := by simpa using hs1
                  by_cases hs2 : S b < 0
                  · have hr : Hid (ag = false → ∀ a' b', b' < a' → (a' < a ∨ (a' = a ∧ b' < b + 1)) → Mt.Shut S K C1 a' b') := hsk.out fun _ _ h => by omega
                    clear hC hla hlb hsk hs1
                    go_wp2
                    go_quiet (fail)
                    go_wp2
                    go_quiet (fail)
                    go_wp2
                    go_roundw
                    case rel => exact ⟨ag, b + 1, C3, rfl, by go_num, by omega, hI3, hr, hK3'.out _, hO3'.out _⟩
                    case measure => simp [intOf]; omega
                  · have hs2' : decide (S b < 0) = false := by simpa using hs2
                    have hs1n : 0 ≤ S a := by omega
                    have hs2n : 0 ≤ S b := by omega
                    have hparts := hid (hI3.out.parts HG.out han hbn hs1n hs2n hC)
                    by_cases hs : S a = S b
                    · have hsn : (S a != S b) = false := by simpa using hs
                      have hroom : Tm.room (S b) = Tm.room (S a) := by rw [hs]
                      have Hroom := hid hroom
                      have HSab := hid hs
                      have Hsk : Hid ((∀ i, i < Tm.room (S a) → C1 ((K a)[i]?.getD 0) = C1 ((K b)[i]?.getD 0)) → (∀ a' b', b' < a' → (a' < a ∨ (a' = a ∧ b' < b)) → Mt.Shut S K C1 a' b') → ∀ a' b', b' < a' → (a' < a ∨ (a' = a ∧ b' < b + 1)) → Mt.Shut S K C1 a' b') := fun h h0 a' b' h1 h2 => by
                        by_cases e : a' = a ∧ b' = b
                        · obtain ⟨rfl, rfl⟩ := e; exact fun _ _ _ => ⟨HSab.out, h⟩
                        · exact h0 a' b' h1 (by omega)
                      have hC3 := hid hC
                      have hr2 := Tm.room_le (S a)
                      clear hC hla hlb hsk hs1 hs2 hs hparts hroom
                      go_wp2
                      go_quiet (fail)
                      go_wp2
                      go_quiet (fail)
                      go_wp2
                      go_quiet (fail)
                      go_wp2
                      go_loopw [3, 8] (fun v i wr => ∃ (ag : Bool) (k : Nat) (C : Nat → Nat), v = .bool ag ∧ i = .int .i64 (k : Int) ∧ k ≤ Tm.room (S a) ∧ Hid (Mt.CInv n Z C0 C1 ag C) ∧ Hid (C a = C b) ∧ Hid (ag = false → (∀ a' b', b' < a' → (a' < a ∨ (a' = a ∧ b' < b)) → Mt.Shut S K C1 a' b') ∧ ∀ i, i < k → C1 ((K a)[i]?.getD 0) = C1 ((K b)[i]?.getD 0)) ∧ Hid (Keep w.heap.size g w wr) ∧ Hid (TiesO wr x n (some ⟨bN, oN, none⟩) cN g cC N C S K P)) (fun _ i _ => Tm.room (S a) - (intOf i).toNat)
                      case atStart => exact ⟨ag, 0, C3, rfl, rfl, Nat.zero_le _, hI3, hC3, fun h => ⟨hSh3.out h, fun i hi => by omega⟩, keep_drewN (keep_drewN (hK3'.out _) _) _, ((hO3'.out _).drewN _).drewN _⟩
                      case round =>
                        clear h0r h1r hna hnb hca hcb hsa hsb
                        obtain ⟨ag, k, C4, rfl, rfl, hk, hI4, hC4, hSh4, hK4, hO4⟩ := hrel
                        have hT := hO4.out.ties
                        have h0r := hT.c0
                        have h1r := hT.c1
                        obtain ⟨pa, qa, hNa, hpa⟩ := hT.tr a han
                        obtain ⟨pb, qb, hNb, hpb⟩ := hT.tr b hbn
                        have hla := hNa.cell1
                        have hlb := hNb.cell1
                        rw [Hroom.out] at hlb hpb
                        have Hpa := hid hpa
                        have Hpb := hid hpb
                        have HT := hid hT
                        clear hNa hNb hpa hpb hT
                        by_cases hlt : k < Tm.room (S a)
                        · have hkr : (k : Int) < (Tm.room (S a) : Int) := by omega
                          obtain ⟨b1, o1, rfl, hc1⟩ := Hpa.out k hlt
                          obtain ⟨b2, o2, rfl, hc2⟩ := Hpb.out k hlt
                          have hk2 : k < Tm.room (S b) := by rw [Hroom.out]; exact hlt
                          have hn1 := hid (fun m => (HT.out.drewN m).node (k := a) (i := k) han hlt)
                          have hn2 := hid (fun m => (HT.out.drewN m).node (k := b) (i := k) hbn hk2)
                          obtain ⟨li, _⟩ := HT.out.fd a k han hlt
                          obtain ⟨lj, _⟩ := HT.out.fd b k hbn hk2
                          obtain ⟨_, _, e, hci⟩ := HT.out.cl _ li
                          cases e
                          obtain ⟨_, _, e, hcj⟩ := HT.out.cl _ lj
                          cases e
                          rw [Nat.zero_add] at hci hcj
                          have htie := hid (hI4.out.tie HG.out (i := k) han hbn hs1n hs2n hC4.out hlt li lj)
                          have hshr : Hid (C4 ((K a)[k]?.getD 0) = C4 ((K b)[k]?.getD 0) → ag = false → (∀ a' b', b' < a' → (a' < a ∨ (a' = a ∧ b' < b)) → Mt.Shut S K C1 a' b') ∧ ∀ i, i < k + 1 → C1 ((K a)[i]?.getD 0) = C1 ((K b)[i]?.getD 0)) := fun e h => by
                            refine ⟨(hSh4.out h).1, fun i hi => ?_⟩
                            by_cases e2 : i = k
                            · subst e2
                              rw [hI4.out.same h] at e
                              exact e
                            · exact (hSh4.out h).2 i (by omega)
                          have li' : (((K a)[k]?.getD 0 : Nat) : Int) < (n : Int) := by omega
                          have lj' : (((K b)[k]?.getD 0 : Nat) : Int) < (n : Int) := by omega
                          generalize (K a)[k]?.getD 0 = i at *
                          generalize (K b)[k]?.getD 0 = j at *
                          by_cases hij : C4 i = C4 j
                          · have hneq2 : ((C4 i : Int) != (C4 j : Int)) = false := by rw [hij]; simp
                            have hr := hid (hshr.out hij)
                            clear hij htie hshr
                            generalize P a k = pak at *
                            generalize P b k = pbk at *
                            go_wp2
                            go_quiet ((first | (go_at_call_of 54 (ptr pak); exact Calls.quiet_of (hn1.out _)) | (go_at_call_of 54 (ptr pbk); exact Calls.quiet_of (hn2.out _))))
                            go_wp2
                            go_quiet (fail)
                            go_wp2
                            go_roundw
                            case rel => exact ⟨ag, k + 1, C4, rfl, by go_num, by omega, hI4, hC4, hr, keep_drewN hK4.out _, hO4.out.drewN _⟩
                            case measure => simp [intOf]; omega
                          · have hneq2 : ((C4 i : Int) != (C4 j : Int)) = true := by simp; omega
                            have htie' := hid (htie.out hij)
                            have hcall := hid (fun d => tie_any (wr.drewN d) (hO4.out.drewN d) i j li lj)
                            clear hij htie hshr
                            generalize P a k = pak at *
                            generalize P b k = pbk at *
                            go_wp2
                            go_quiet ((first | (go_at_call_of 54 (ptr pak); exact Calls.quiet_of (hn1.out _)) | (go_at_call_of 54 (ptr pbk); exact Calls.quiet_of (hn2.out _))))
                            go_wp2
                            go_quiet (fail)
                            go_wp2_with (go_at_call 55; refine (hcall.out _).mono ?_; clear hcall; rintro e w5 ⟨⟨v5, rfl⟩, hK5, hO5⟩)
                            go_roundw
                            case rel => exact ⟨true, k + 1, _, rfl, by go_num, by omega, htie'.out, Mt.tied_mono _ _ hC4.out, (fun h => by cases h), (keep_drewN hK4.out _).trans (hK5.mono hK4.out.size), hO5⟩
                            case measure => simp [intOf]; omega
                        · obtain rfl : k = Tm.room (S a) := by omega
                          go_wp2
                          go_roundw
                          case rel => exact ⟨ag, b + 1, C4, rfl, by go_num, by omega, hI4, fun h => Hsk.out (hSh4.out h).2 (hSh4.out h).1, hK4, hO4⟩
                          case measure => simp [intOf]; omega
                    · have hsn : (S a != S b) = true := by simpa using hs
                      have hno : Hid (∀ θ, Wb.TermSb θ → ¬ Mt.Resp n Z C0 θ) := fun θ hθ R => hs (hparts.out θ hθ R).1
                      clear hC hla hlb hsk hs1 hs2 hs hparts
                      go_wp2
                      go_quiet (fail)
                      go_wp2
                      go_quiet (fail)
                      go_wp2
                      go_quiet (fail)
                      go_wp2
                      go_ret
                      exact ⟨keep_drewN (keep_drewN (hK3'.out _) _) _, .inl ⟨rfl, hno.out⟩⟩
              · have hneq : ((C3 a : Int) != (C3 b : Int)) = true := by simp; omega
                have hr : Hid (ag = false → ∀ a' b', b' < a' → (a' < a ∨ (a' = a ∧ b' < b + 1)) → Mt.Shut S K C1 a' b') := fun h => hsk.out (fun e => absurd (by rw [hI3.out.same h]; exact e) hC) h
                clear hC hla hlb hsk hsa hsb
                go_wp2
                go_quiet (fail)
                go_wp2
                go_quiet (fail)
                go_wp2
                go_roundw
                case rel => exact ⟨ag, b + 1, C3, rfl, by go_num, by omega, hI3, hr, hK3'.out _, hO3'.out _⟩
                case measure => simp [intOf]; omega
            · obtain rfl : b = a := by omega
              go_wp2
              go_roundw
              case rel => exact ⟨ag, b + 1, C3, rfl, by go_num, by omega, hI3, fun h a' b' h1 h2 => hSh3.out h a' b' h2 (by omega), hK3, hO3⟩
              case measure => simp [intOf]; omega
        · obtain rfl : a = n := by omega
          go_wp2
          go_roundw
          case rel => exact ⟨ag, C2, rfl, hI2.out.begin, fun h a b h1 h2 => by rw [hI2.out.same h]; exact hSh2.out h a b h1 h2, hK2, hO2⟩
          case measure =>
            rw [hleft.out]
            show Mt.left _ g (.bool ag) _ < _
            unfold Mt.left
            rw [hO2.out.cls]
            cases ag with
            | false => have := hI2.out.le; simp only; omega
            | true => have := hI2.out.less rfl; simp only; omega

end Go.Proofs.Ytloealnfbpegnab

namespace Go.Proofs.Ytloealnfbpegnab
open Go.Proofs Go.RowKit Go.Shelf Go.Maps

/-- A node: its block, its sign, its parts' blocks, the signs of these. -/
structure Nd where
  X : Nat
  s : Int
  Xs : List Nat
  zss : List (List Int)
def Nd.z (d : Nd) : List Int := d.s :: d.zss.flatten
def nd0 : Nd := ⟨0, 0, [], []⟩
abbrev ndAt (L : List Nd) (k : Nat) : Nd := L[k]?.getD nd0
def hd0 (z : List Int) : Int := z[0]?.getD 0
theorem Nd.hd (d : Nd) : hd0 d.z = d.s := rfl
/-- Node i is the one for the tree at p, whose signs are z. -/
def FndL (L : List Nd) (p : Nat) (z : List Int) (i : Nat) : Prop := i < L.length ∧ (ndAt L i).z = z ∧ (hd0 z < 0 → ∀ k, k < i → (ndAt L k).s ≠ hd0 z) ∧ (0 ≤ hd0 z → (ndAt L i).X = p ∧ ∀ k, k < i → (ndAt L k).X ≠ p)
/-- All parts of a node are nodes. -/
def FullL (L : List Nd) (d : Nd) : Prop := ∀ j, j < d.Xs.length → ∃ i, FndL L (d.Xs[j]?.getD 0) (d.zss[j]?.getD []) i
/-- A variable is one node. -/
def OneL (L : List Nd) : Prop := ∀ i j, i < L.length → j < L.length → (ndAt L i).s < 0 → (ndAt L i).s = (ndAt L j).s → i = j
theorem ndAt_app {L : List Nd} (M : List Nd) {k : Nat} (h : k < L.length) : ndAt (L ++ M) k = ndAt L k := by unfold ndAt; rw [List.getElem?_append_left h]
theorem ndAt_last (L : List Nd) (d : Nd) : ndAt (L ++ [d]) L.length = d := by unfold ndAt; simp
theorem ndAt_mem {L : List Nd} {k : Nat} (h : k < L.length) : ndAt L k ∈ L := by unfold ndAt; rw [List.getElem?_eq_getElem h]; exact List.getElem_mem h
theorem FndL.app {L : List Nd} {p : Nat} {z : List Int} {i : Nat} (h : FndL L p z i) (M : List Nd) : FndL (L ++ M) p z i := by
  obtain ⟨h1, h2, h3, h4⟩ := h
  refine ⟨by rw [List.length_append]; omega, by rw [ndAt_app M h1]; exact h2, fun hs k hk => by rw [ndAt_app M (by omega)]; exact h3 hs k hk, fun hs => ?_⟩
  obtain ⟨h5, h6⟩ := h4 hs
  exact ⟨by rw [ndAt_app M h1]; exact h5, fun k hk => by rw [ndAt_app M (by omega)]; exact h6 k hk⟩
theorem FullL.app {L : List Nd} {d : Nd} (h : FullL L d) (M : List Nd) : FullL (L ++ M) d := fun j hj => by
  obtain ⟨i, hi⟩ := h j hj
  exact ⟨i, hi.app M⟩
theorem OneL.snoc {L : List Nd} (h : OneL L) {d : Nd} (hd : d.s < 0 → ∀ k, k < L.length → (ndAt L k).s ≠ d.s) : OneL (L ++ [d]) := fun i j hi hj hs e => by
  rw [List.length_append, List.length_singleton] at hi hj
  by_cases h1 : i < L.length
  · rw [ndAt_app _ h1] at hs e
    by_cases h2 : j < L.length
    · rw [ndAt_app _ h2] at e
      exact h i j h1 h2 hs e
    · obtain rfl : j = L.length := by omega
      rw [ndAt_last] at e
      exact absurd e (hd (by omega) i h1)
  · obtain rfl : i = L.length := by omega
    rw [ndAt_last] at hs e
    by_cases h2 : j < L.length
    · rw [ndAt_app _ h2] at e
      exact absurd e.symm (hd hs j h2)
    · omega

/-- No block of the tree is one of the ties' own. -/
def Far (vN vC : Value) (lo hi : Nat) : Prop := ∀ q, (vN.ownBlock = some q ∨ vC.ownBlock = some q) → q < lo ∨ hi ≤ q
/-- A node in memory. -/
def NdAt (W : World) (x : Nat) (vN vC : Value) (d : Nd) : Prop := ∃ lo hi v, x < lo ∧ hi ≤ W.heap.size ∧ Far vN vC lo hi ∧ lo ≤ d.X ∧ d.X < hi ∧ Node W d.X d.s v ∧ PartsAt lo hi W v d.Xs ∧ d.Xs.length = Tm.room d.s ∧ d.zss.length = d.Xs.length ∧ (∀ s ∈ d.z, -8 ≤ s ∧ s < 6) ∧ ∀ j, j < d.Xs.length → TreeIn lo hi W (d.Xs[j]?.getD 0) (d.zss[j]?.getD [])
/-- What a call leaves of all that is older, but the ties; which blocks are theirs behind it. -/
structure WK (W W' : World) (x : Nat) (vN vC vN' vC' : Value) : Prop where
  os : W'.os = W.os
  tape : W'.tape = W.tape
  output : W'.output = W.output
  size : W.heap.size ≤ W'.heap.size
  block : ∀ k, k < W.heap.size → k ≠ x → some k ≠ vN.ownBlock → some k ≠ vC.ownBlock → W'.heap[k]? = W.heap[k]?
  ownN : ∀ k, vN'.ownBlock = some k → vN.ownBlock = some k ∨ W.heap.size ≤ k
  ownC : ∀ k, vC'.ownBlock = some k → vC.ownBlock = some k ∨ W.heap.size ≤ k
theorem WK.refl (W : World) (x : Nat) (vN vC : Value) : WK W W x vN vC vN vC := ⟨rfl, rfl, rfl, Nat.le_refl _, fun _ _ _ _ _ => rfl, fun _ h => .inl h, fun _ h => .inl h⟩
theorem WK.drewN {W W' : World} {x : Nat} {vN vC vN' vC' : Value} (h : WK W W' x vN vC vN' vC') (d : Nat) : WK W (W'.drewN d) x vN vC vN' vC' := ⟨h.os, h.tape, h.output, h.size, h.block, h.ownN, h.ownC⟩
theorem WK.trans {W1 W2 W3 : World} {x : Nat} {vN1 vC1 vN2 vC2 vN3 vC3 : Value} (h : WK W1 W2 x vN1 vC1 vN2 vC2) (k : WK W2 W3 x vN2 vC2 vN3 vC3) : WK W1 W3 x vN1 vC1 vN3 vC3 := by
  refine ⟨k.os.trans h.os, k.tape.trans h.tape, k.output.trans h.output, Nat.le_trans h.size k.size, fun q hq h1 h2 h3 => ?_, fun q hq => ?_, fun q hq => ?_⟩
  · have e1 := h.block q hq h1 h2 h3
    refine (k.block q (by have := h.size; omega) h1 (fun e => ?_) (fun e => ?_)).trans e1
    · rcases h.ownN q e.symm with e2 | e2
      · exact h2 e2.symm
      · omega
    · rcases h.ownC q e.symm with e2 | e2
      · exact h3 e2.symm
      · omega
  · rcases k.ownN q hq with e | e
    · exact h.ownN q e
    · have := h.size; exact .inr (by omega)
  · rcases k.ownC q hq with e | e
    · exact h.ownC q e
    · have := h.size; exact .inr (by omega)
theorem WK.far {W W' : World} {x : Nat} {vN vC vN' vC' : Value} (h : WK W W' x vN vC vN' vC') {lo hi : Nat} (hF : Far vN vC lo hi) (hh : hi ≤ W.heap.size) : Far vN' vC' lo hi := fun q hq => by
  rcases hq with e | e
  · rcases h.ownN q e with e | e
    · exact hF q (.inl e)
    · exact .inr (by omega)
  · rcases h.ownC q e with e | e
    · exact hF q (.inr e)
    · exact .inr (by omega)
theorem WK.keeps {W W' : World} {x : Nat} {vN vC vN' vC' : Value} (h : WK W W' x vN vC vN' vC') {lo hi : Nat} (hF : Far vN vC lo hi) (hx : x < lo) (hh : hi ≤ W.heap.size) : ∀ k, lo ≤ k → k < hi → W'.heap[k]? = W.heap[k]? := fun k h1 h2 =>
  h.block k (by omega) (by omega) (fun e => by have := hF k (.inl e.symm); omega) (fun e => by have := hF k (.inr e.symm); omega)
theorem NdAt.keep {W W' : World} {x : Nat} {vN vC vN' vC' : Value} {d : Nd} (H : NdAt W x vN vC d) (h : WK W W' x vN vC vN' vC') : NdAt W' x vN' vC' d := by
  obtain ⟨lo, hi, v, h1, h2, h3, h4, h5, h6, h7, h8, h9, h10, h11⟩ := H
  have hk := h.keeps h3 h1 h2
  exact ⟨lo, hi, v, h1, by have := h.size; omega, h.far h3 h2, h4, h5, (hk _ h4 h5).trans h6, h7.keep (Nat.le_refl _) (Nat.le_refl _) hk, h8, h9, h10, fun j hj => (h11 j hj).keep (Nat.le_refl _) (Nat.le_refl _) hk⟩

theorem parts_one {lo hi lo' hi' : Nat} {W : World} {v : Value} {Xs Ys : List Nat} (h : PartsAt lo hi W v Xs) (k : PartsAt lo' hi' W v Ys) : Xs = Ys := by
  obtain ⟨a, c, rfl, h1⟩ := h
  obtain ⟨a', c', e, h2⟩ := k
  simp only [Value.slice.injEq] at e
  obtain ⟨rfl, hl, rfl⟩ := e
  refine List.ext_getElem hl fun j j1 j2 => ?_
  obtain ⟨b, off, e1, _, _, c1⟩ := h1 j j1
  obtain ⟨b', off', e2, _, _, c2⟩ := h2 j j2
  rw [e1] at e2
  simp only [Option.some.injEq, Addr.mk.injEq] at e2
  obtain ⟨rfl, rfl, _⟩ := e2
  rw [c1] at c2
  simp only [Option.some.injEq, Value.pointer.injEq, Addr.mk.injEq] at c2
  have := c2.1
  rw [List.getElem?_eq_getElem j1, List.getElem?_eq_getElem j2] at this
  exact this
/-- A tree holds but one list of signs. -/
theorem TreeIn.one {lo hi : Nat} {W : World} {X : Nat} {zs : List Int} (h : TreeIn lo hi W X zs) : ∀ {lo' hi' : Nat} {zs' : List Int}, TreeIn lo' hi' W X zs' → zs = zs' := by
  induction h with
  | mk X s v Xs zss hX1 hX2 hN hP hr hl _ ih =>
    intro lo' hi' zs' h'
    cases h' with
    | mk _ s' v' Xs' zss' _ _ hN' hP' hr' hl' hT' =>
      have e : some (Obj.cells #[Value.int .i64 s, v] 83 (0, 0)) = some (Obj.cells #[Value.int .i64 s', v'] 83 (0, 0)) := (show W.heap[X]? = _ from hN).symm.trans (show W.heap[X]? = _ from hN')
      simp only [Option.some.injEq, Obj.cells.injEq, and_true] at e
      have e2 := congrArg Array.toList e
      simp only [List.cons.injEq, and_true, Value.int.injEq, true_and] at e2
      obtain ⟨rfl, rfl⟩ := e2
      obtain rfl := parts_one hP hP'
      congr 2
      refine List.ext_getElem (by omega) fun j j1 j2 => ?_
      have := ih j (by omega) (hT' j (by omega))
      rw [List.getElem?_eq_getElem j1, List.getElem?_eq_getElem j2] at this
      exact this
theorem NdAt.tree {W : World} {x : Nat} {vN vC : Value} {d : Nd} (H : NdAt W x vN vC d) : ∃ lo hi, TreeIn lo hi W d.X d.z := by
  obtain ⟨lo, hi, v, h1, h2, h3, h4, h5, h6, h7, h8, h9, h10, h11⟩ := H
  exact ⟨lo, hi, TreeIn.mk d.X d.s v d.Xs d.zss h4 h5 h6 h7 h8 h9 h11⟩
theorem NdAt.node {W : World} {x : Nat} {vN vC : Value} {d : Nd} (H : NdAt W x vN vC d) : ∃ v, Node W d.X d.s v := by
  obtain ⟨lo, hi, v, h1, h2, h3, h4, h5, h6, _⟩ := H
  exact ⟨v, h6⟩
theorem node_one {W : World} {X : Nat} {s s' : Int} {v v' : Value} (h : Node W X s v) (k : Node W X s' v') : s = s' ∧ v = v' := by
  have e : some (Obj.cells #[Value.int .i64 s, v] 83 (0, 0)) = some (Obj.cells #[Value.int .i64 s', v'] 83 (0, 0)) := (show W.heap[X]? = _ from h).symm.trans (show W.heap[X]? = _ from k)
  simp only [Option.some.injEq, Obj.cells.injEq, and_true] at e
  have e2 := congrArg Array.toList e
  simp only [List.cons.injEq, and_true, Value.int.injEq, true_and] at e2
  exact e2

/-- Block x holds nodes L with classes C; all of it its own. -/
structure TB (W : World) (x : Nat) (vN vC : Value) (L : List Nd) (m : Nat) (C : Nat → Nat) : Prop where
  cell : W.heap[x]? = some (.cells #[vN, vC] 79 (0, 0))
  rowN : W.ownsRow (x + 1) 62 1 vN L.length (L.map fun d => ptr d.X)
  rowC : New (x + 1) W vC (Mt.clL m C)
  nds : ∀ d ∈ L, NdAt W x vN vC d
  one : OneL L
theorem TB.lt {W : World} {x : Nat} {vN vC : Value} {L : List Nd} {m : Nat} {C : Nat → Nat} (h : TB W x vN vC L m C) : x < W.heap.size := (Array.getElem?_eq_some_iff.1 h.cell).1
theorem TB.drewN {W : World} {x : Nat} {vN vC : Value} {L : List Nd} {m : Nat} {C : Nat → Nat} (h : TB W x vN vC L m C) (d : Nat) : TB (W.drewN d) x vN vC L m C := ⟨h.cell, h.rowN, h.rowC, fun q hq => (h.nds q hq).keep ((WK.refl W x vN vC).drewN d), h.one⟩
theorem TB.form {W : World} {x : Nat} {vN vC : Value} {L : List Nd} {m : Nat} {C : Nat → Nat} (h : TB W x vN vC L m C) : ∃ aN cN, vN = .slice aN L.length cN ∧ ∀ k, k < L.length → ∃ b off, aN = some ⟨b, off, none⟩ ∧ W.cell? ⟨b, off + k, none⟩ = some (ptr (ndAt L k).X) := by
  rcases h.rowN.2 with ⟨e, hn⟩ | ⟨g, cap, cur, e, _⟩
  · exact ⟨none, 0, by rw [e, hn], fun k hk => by omega⟩
  · refine ⟨_, cap, e, fun k hk => ⟨g, 0, rfl, ?_⟩⟩
    have hr := h.rowN
    rw [e] at hr
    have := World.ownsRow.cellAt hr k (by omega)
    rw [Nat.zero_add, this]
    simp [ndAt, hk]
/-- The classes, with new ones behind. -/
def extC (n : Nat) (C : Nat → Nat) : Nat → Nat := fun k => if k < n then C k else k
theorem extC_lt {n : Nat} {C : Nat → Nat} {k : Nat} (h : k < n) : extC n C k = C k := by unfold extC; rw [if_pos h]
theorem extC_ext {n m : Nat} (C : Nat → Nat) (h : n ≤ m) : extC m (extC n C) = extC n C := by
  funext k
  unfold extC
  by_cases h1 : k < m
  · rw [if_pos h1]
  · rw [if_neg h1, if_neg (by omega)]

theorem ownsRow_keep {W W' : World} {base : Nat} {e : TypeId} {size : Nat} {v : Value} {n : Nat} {xs : List Value} (h : W.ownsRow base e size v n xs) (hk : ∀ q, v.ownBlock = some q → W'.heap[q]? = W.heap[q]?) : W'.ownsRow base e size v n xs := by
  refine ⟨h.1, ?_⟩
  rcases h.2 with h1 | ⟨g, cap, cur, rfl, h2, h3, h4⟩
  · exact .inl h1
  · exact .inr ⟨g, cap, cur, rfl, h2, (hk g rfl).trans h3, h4⟩
theorem row_type {W : World} {base : Nat} {e : TypeId} {size : Nat} {v : Value} {n : Nat} {xs : List Value} (h : W.ownsRow base e size v n xs) {q : Nat} (hq : v.ownBlock = some q) : ∃ cur, W.heap[q]? = some (.cells cur e (0, 0)) := by
  rcases h.2 with ⟨rfl, _⟩ | ⟨g, cap, cur, rfl, h2, h3, h4⟩
  · cases hq
  · cases hq; exact ⟨cur, h3⟩
theorem TB.apart {W : World} {x : Nat} {vN vC : Value} {L : List Nd} {m : Nat} {C : Nat → Nat} (h : TB W x vN vC L m C) {q : Nat} (h1 : vN.ownBlock = some q) (h2 : vC.ownBlock = some q) : False := by
  obtain ⟨c1, e1⟩ := row_type h.rowN h1
  obtain ⟨c2, e2⟩ := row_type h.rowC h2
  rw [e1] at e2
  simp only [Option.some.injEq, Obj.cells.injEq] at e2
  exact absurd e2.2.1 (by decide)
theorem set_two {W : World} {x : Nat} {v0 v1 : Value} {T : TypeId} (h : W.heap[x]? = some (.cells #[v0, v1] T (0, 0))) (u : Value) : (W.setCell ⟨x, 0, none⟩ u).heap[x]? = some (.cells #[u, v1] T (0, 0)) ∧ (W.setCell ⟨x, 1, none⟩ u).heap[x]? = some (.cells #[v0, u] T (0, 0)) := by
  obtain ⟨hlt, hk⟩ := Array.getElem?_eq_some_iff.1 h
  constructor
  · show (W.heap.modify x _)[x]? = _
    rw [Array.getElem?_eq_getElem (by rw [Array.size_modify]; exact hlt), Array.getElem_modify_self, hk]
    rfl
  · show (W.heap.modify x _)[x]? = _
    rw [Array.getElem?_eq_getElem (by rw [Array.size_modify]; exact hlt), Array.getElem_modify_self, hk]
    rfl
theorem grown_pre {W V w2 : World} {tmp : Obj} {r : Option Nat} (e : V.heap = W.heap) (h1 : V.os = W.os) (h2 : V.tape = W.tape) (h3 : V.output = W.output) (hg : (V.alloc tmp).grownBy w2 r) : W.grownBy w2 r := by
  have hs : (V.alloc tmp).heap.size = W.heap.size + 1 := by simp [e]
  refine ⟨hg.os.trans h1, hg.tape.trans h2, hg.output.trans h3, by have := hg.size; omega, fun k hk hne => ?_⟩
  rw [hg.block k (by omega) hne, Below.heap_alloc _ _ _ (by rw [e]; exact hk), e]
theorem grown_pre2 {W V w2 : World} {tmp : Obj} {r : Option Nat} (e : V.heap = (W.alloc tmp).heap) (h1 : V.os = W.os) (h2 : V.tape = W.tape) (h3 : V.output = W.output) (hg : V.grownBy w2 r) : W.grownBy w2 r := by
  have hs : V.heap.size = W.heap.size + 1 := by rw [e]; simp
  refine ⟨hg.os.trans h1, hg.tape.trans h2, hg.output.trans h3, by have := hg.size; omega, fun k hk hne => ?_⟩
  rw [hg.block k (by omega) hne, e, Below.heap_alloc _ _ _ hk]
/-- One node more. -/
theorem TB.addN {W w2 : World} {x : Nat} {vN vC : Value} {L : List Nd} {m : Nat} {C : Nat → Nat} (H : TB W x vN vC L m C) (hg : W.grownBy w2 vN.ownBlock) {g cap : Nat} {p : Nat} (hown : w2.ownsRow (x + 1) 62 1 (.slice (some ⟨g, 0, none⟩) (L.length + 1) cap) (L.length + 1) ((L.map fun d => ptr d.X) ++ [ptr p])) (hat : vN.ownBlock = some g ∨ W.heap.size ≤ g)
    (d : Nd) (hd : d.X = p) (hnd : NdAt W x vN vC d) (hone : OneL (L ++ [d])) :
    TB (w2.setCell ⟨x, 0, none⟩ (.slice (some ⟨g, 0, none⟩) (L.length + 1) cap)) x (.slice (some ⟨g, 0, none⟩) (L.length + 1) cap) vC (L ++ [d]) m C ∧ WK W (w2.setCell ⟨x, 0, none⟩ (.slice (some ⟨g, 0, none⟩) (L.length + 1) cap)) x vN vC (.slice (some ⟨g, 0, none⟩) (L.length + 1) cap) vC ∧ w2.heap[x]? = some (.cells #[vN, vC] 79 (0, 0)) := by
  have hx := H.lt
  have hsz := hg.size
  have hb : ∀ q, q < W.heap.size → some q ≠ vN.ownBlock → w2.heap[q]? = W.heap[q]? := fun q hq hne => hg.block q hq hne
  have hxN : some x ≠ vN.ownBlock := fun e => by have := (World.ownsRow.lt H.rowN x e.symm).1; omega
  have hcx : w2.heap[x]? = some (.cells #[vN, vC] 79 (0, 0)) := (hb x hx hxN).trans H.cell
  have hgx : x + 1 ≤ g := (World.ownsRow.lt hown g rfl).1
  have hset : ∀ q, q ≠ x → (w2.setCell ⟨x, 0, none⟩ (.slice (some ⟨g, 0, none⟩) (L.length + 1) cap)).heap[q]? = w2.heap[q]? := fun q hq => Below.heap_setCell _ _ _ q hq
  have hwk : WK W (w2.setCell ⟨x, 0, none⟩ (.slice (some ⟨g, 0, none⟩) (L.length + 1) cap)) x vN vC (.slice (some ⟨g, 0, none⟩) (L.length + 1) cap) vC := by
    refine ⟨hg.os, hg.tape, hg.output, ?_, fun q hq h1 h2 h3 => ?_, fun q hq => ?_, fun q hq => .inl hq⟩
    · have := (KeepsWalks.setCell w2 ⟨x, 0, none⟩ (Value.slice (some ⟨g, 0, none⟩) (L.length + 1) cap)).size
      omega
    · rw [hset q h1, hb q hq h2]
    · obtain rfl : g = q := by simpa [Value.ownBlock] using hq
      rcases hat with e | e
      · exact .inl e
      · exact .inr (by omega)
  refine ⟨⟨(set_two hcx _).1, ?_, ?_, fun q hq => ?_, hone⟩, hwk, hcx⟩
  · have h1 := ownsRow_keep hown (W' := w2.setCell ⟨x, 0, none⟩ (.slice (some ⟨g, 0, none⟩) (L.length + 1) cap)) fun q hq => hset q (fun e => by have : g = q := (by simpa [Value.ownBlock] using hq); omega)
    rw [List.length_append, List.length_singleton, List.map_append, List.map_singleton, hd]
    exact h1
  · refine ownsRow_keep H.rowC fun q hq => ?_
    have hq2 := World.ownsRow.lt H.rowC q hq
    rw [hset q (by omega), hb q hq2.2 fun e => H.apart e.symm hq]
  · rcases List.mem_append.1 hq with hq | hq
    · exact (H.nds q hq).keep hwk
    · rw [List.mem_singleton] at hq
      subst hq
      exact hnd.keep hwk
/-- One class more. -/
theorem TB.addC {W w2 : World} {x : Nat} {vN vC : Value} {L : List Nd} {m : Nat} {C : Nat → Nat} (H : TB W x vN vC L m C) (hg : W.grownBy w2 vC.ownBlock) {g cap : Nat} (hown : w2.ownsRow (x + 1) 3 1 (.slice (some ⟨g, 0, none⟩) (m + 1) cap) (m + 1) ((Mt.clL m C).map (Value.int .i64) ++ [.int .i64 (m : Int)])) (hat : vC.ownBlock = some g ∨ W.heap.size ≤ g) :
    TB (w2.setCell ⟨x, 1, none⟩ (.slice (some ⟨g, 0, none⟩) (m + 1) cap)) x vN (.slice (some ⟨g, 0, none⟩) (m + 1) cap) L (m + 1) (extC m C) ∧ WK W (w2.setCell ⟨x, 1, none⟩ (.slice (some ⟨g, 0, none⟩) (m + 1) cap)) x vN vC vN (.slice (some ⟨g, 0, none⟩) (m + 1) cap) ∧ w2.heap[x]? = some (.cells #[vN, vC] 79 (0, 0)) := by
  have hx := H.lt
  have hsz := hg.size
  have hb : ∀ q, q < W.heap.size → some q ≠ vC.ownBlock → w2.heap[q]? = W.heap[q]? := fun q hq hne => hg.block q hq hne
  have hxC : some x ≠ vC.ownBlock := fun e => by have := (World.ownsRow.lt H.rowC x e.symm).1; omega
  have hcx : w2.heap[x]? = some (.cells #[vN, vC] 79 (0, 0)) := (hb x hx hxC).trans H.cell
  have hgx : x + 1 ≤ g := (World.ownsRow.lt hown g rfl).1
  have hset : ∀ q, q ≠ x → (w2.setCell ⟨x, 1, none⟩ (.slice (some ⟨g, 0, none⟩) (m + 1) cap)).heap[q]? = w2.heap[q]? := fun q hq => Below.heap_setCell _ _ _ q hq
  have hwk : WK W (w2.setCell ⟨x, 1, none⟩ (.slice (some ⟨g, 0, none⟩) (m + 1) cap)) x vN vC vN (.slice (some ⟨g, 0, none⟩) (m + 1) cap) := by
    refine ⟨hg.os, hg.tape, hg.output, ?_, fun q hq h1 h2 h3 => ?_, fun q hq => .inl hq, fun q hq => ?_⟩
    · have := (KeepsWalks.setCell w2 ⟨x, 1, none⟩ (Value.slice (some ⟨g, 0, none⟩) (m + 1) cap)).size
      omega
    · rw [hset q h1, hb q hq h3]
    · obtain rfl : g = q := by simpa [Value.ownBlock] using hq
      rcases hat with e | e
      · exact .inl e
      · exact .inr (by omega)
  refine ⟨⟨(set_two hcx _).2, ?_, ?_, fun q hq => (H.nds q hq).keep hwk, H.one⟩, hwk, hcx⟩
  · refine ownsRow_keep H.rowN fun q hq => ?_
    have hq2 := World.ownsRow.lt H.rowN q hq
    rw [hset q (by omega), hb q hq2.2 fun e => H.apart hq e.symm]
  · have h1 := ownsRow_keep hown (W' := w2.setCell ⟨x, 1, none⟩ (.slice (some ⟨g, 0, none⟩) (m + 1) cap)) fun q hq => hset q (fun e => by have : g = q := (by simpa [Value.ownBlock] using hq); omega)
    have e : Mt.clL (m + 1) (extC m C) = Mt.clL m C ++ [(m : Int)] := by
      unfold Mt.clL
      rw [List.range_succ, List.map_append, List.map_singleton]
      congr 1
      · exact List.map_congr_left fun k hk => by rw [extC_lt (List.mem_range.1 hk)]
      · simp [extC]
    show World.ownsRow _ _ _ _ _ _ _
    rw [Mt.clL_length, e, List.map_append, List.map_singleton]
    exact h1
theorem least {P : Nat → Prop} : ∀ n, (∃ k, k < n ∧ P k) → ∃ k, k < n ∧ P k ∧ ∀ j, j < k → ¬ P j := by
  intro n
  induction n with
  | zero => rintro ⟨k, h, _⟩; omega
  | succ n ih =>
    intro h
    by_cases h1 : ∃ k, k < n ∧ P k
    · obtain ⟨k, hk, h2, h3⟩ := ih h1
      exact ⟨k, by omega, h2, h3⟩
    · obtain ⟨k, hk, h2⟩ := h
      have : k = n := by
        by_cases e : k = n
        · exact e
        · exact absurd ⟨k, by omega, h2⟩ h1
      subst this
      exact ⟨k, by omega, h2, fun j hj hp => h1 ⟨j, hj, hp⟩⟩

/-- What node answers. -/
def NodeAns (W W' : World) (e : Ending) (x : Nat) (vN vC : Value) (L : List Nd) (C : Nat → Nat) (p : Nat) (z : List Int) : Prop :=
  ∃ (i : Nat) (vN' vC' : Value) (M : List Nd), e = .returned (.int .i64 (i : Int)) ∧ FndL (L ++ M) p z i ∧ (∀ d ∈ M, FullL (L ++ M) d) ∧ TB W' x vN' vC' (L ++ M) (L ++ M).length (extC L.length C) ∧ WK W W' x vN vC vN' vC' ∧ M.length ≤ z.length

end Go.Proofs.Ytloealnfbpegnab

namespace Go.Proofs.Ytloealnfbpegnab
open Go.Proofs Go.RowKit Go.Shelf Go.Maps

/-- A tree that is there. -/
theorem node_hit {W : World} {x : Nat} {vN vC : Value} {L : List Nd} {C : Nat → Nat} (H : TB W x vN vC L L.length C) (hn : L.length ≤ 5000) (p : Nat) (z : List Int) (i : Nat) (F : FndL L p z i) {vp : Value} (hp : Node W p (hd0 z) vp) (hC : extC L.length C = C) :
    Calls Try.prog 54 #[ptr x, ptr p] W fun e w' => NodeAns W w' e x vN vC L C p z := by
  obtain ⟨aN, cN, rfl, hnd⟩ := H.form
  obtain ⟨h1, h2, h3, h4⟩ := F
  have hs : (ndAt L i).s = hd0 z := by rw [← h2]; rfl
  have hc0 : W.cell? ⟨x, 0, none⟩ = some (.slice aN L.length cN) := (cell_at H.cell 0).trans rfl
  refine (node_fd (x := x) (N := fun k => (ndAt L k).X) (S := fun k => (ndAt L k).s) W p i hc0 hnd (fun k hk => (H.nds _ (ndAt_mem hk)).node) hn (vp := vp) (by rw [hs]; exact hp) ⟨h1, fun h k hk => by show (ndAt L k).s ≠ (ndAt L i).s; rw [hs]; exact h3 (by rw [← hs]; exact h) k hk, fun h => h4 (by rw [← hs]; exact h)⟩).mono ?_
  rintro e w' ⟨rfl, m, rfl⟩
  have hF : FndL L p z i := ⟨h1, h2, h3, h4⟩
  refine ⟨i, _, vC, [], rfl, by rw [List.append_nil]; exact hF, fun d hd => by simp at hd, ?_, (WK.refl W x _ vC).drewN m, by simp⟩
  rw [List.append_nil, hC]
  exact H.drewN m
theorem Nd.var {W : World} {x : Nat} {vN vC : Value} {d : Nd} (h : NdAt W x vN vC d) (hs : d.s < 0) : d.z = [d.s] := by
  obtain ⟨lo, hi, v, h1, h2, h3, h4, h5, h6, h7, h8, h9, h10, h11⟩ := h
  rw [Wb.room_var hs] at h8
  have : d.zss = [] := List.eq_nil_of_length_eq_zero (by omega)
  unfold Nd.z
  rw [this]
  rfl
theorem extC_of {n : Nat} {C : Nat → Nat} (h : ∀ k, n ≤ k → C k = k) : extC n C = C := by
  funext k
  unfold extC
  by_cases e : k < n
  · rw [if_pos e]
  · rw [if_neg e, h k (by omega)]

/-- One int more, in a region that draws its order. -/
theorem step_append_cls {ops : Array Oper} {o : Oper} {a : Act} {K : Act → World → Prop} {Q : Exit → Act → World → Prop} {E : Prop} (w : World) (hgd : o.guard = none) (s x : Operand)
    (ho : o.op = .call { callee := .builtin .append, args := #[s, x], argTypes := #[22, 22] }) (base n : Nat) (v : Value) (xs : List Int) (hs : a.eval s = v) (hN : w.ownsRow base 3 1 v n (xs.map (Value.int .i64)))
    (B : Nat) (y : Int) (hx : a.eval x = .slice (some ⟨B, 0, none⟩) 1 1) (hB : w.cell? ⟨B, 0, none⟩ = some (.int .i64 y)) (hlen : n ≤ 1000000) (hbase : base ≤ w.heap.size)
    (h : ∀ g c' w', w'.ownsRow base 3 1 (.slice (some ⟨g, 0, none⟩) (n + 1) c') (n + 1) (xs.map (Value.int .i64) ++ [.int .i64 y]) → w.grownBy w' v.ownBlock → (v.ownBlock = some g ∨ g = w.heap.size) → K (a.put o.dst (.slice (some ⟨g, 0, none⟩) (n + 1) c')) w') :
    if Region.wanted o (yielded ops a.tmps) = true then Oper.wp Try.prog o a w K Q else E := by
  obtain ⟨i0, hi, hz0, hz1, hz2⟩ := info_parts Try.info3
  refine step_append_lies w hgd s x 22 ho base 3 i0 (.int .i64 0) 1 8 Try.infoInts hi hz0 hz1 hz2 rfl (by decide) v n (xs.map (Value.int .i64)) hs hN ⟨B, 0, none⟩ 1 1 [.int .i64 y] hx (by simp)
    (by intro j z hj
        match j, hj with
        | 0, hj => simp at hj; subst hj; rw [Go.WideShapes.add_plain]; simpa using hB)
    (by intro u hu; simp at hu; subst hu; rfl) (by decide) (by unfold maxLen; omega) (by omega) hbase w.heap.size rfl ?_
  intro g c' w' hown hg hat _
  exact h g c' w' hown hg hat

end Go.Proofs.Ytloealnfbpegnab

namespace Go.Proofs.Ytloealnfbpegnab
open Go.Proofs Go.RowKit Go.Shelf Go.Maps

def ndN (L : List Nd) (k : Nat) : Nat := (ndAt L k).X
def ndS (L : List Nd) (k : Nat) : Int := (ndAt L k).s
def ndZ (L : List Nd) (k : Nat) : List Int := (ndAt L k).z
def ndP (L : List Nd) (k i : Nat) : Nat := (ndAt L k).Xs[i]?.getD 0
theorem listOf {R : Nat → Nat → Prop} : ∀ m, (∀ j, j < m → ∃ i, R j i) → ∃ l : List Nat, l.length = m ∧ ∀ j, j < m → R j (l[j]?.getD 0) := by
  intro m
  induction m with
  | zero => intro _; exact ⟨[], rfl, fun j hj => by omega⟩
  | succ m ih =>
    intro h
    obtain ⟨l, h1, h2⟩ := ih fun j hj => h j (by omega)
    obtain ⟨i, hi⟩ := h m (by omega)
    refine ⟨l ++ [i], by simp [h1], fun j hj => ?_⟩
    by_cases e : j = m
    · subst e; rw [← h1]; simpa [h1] using hi
    · rw [List.getElem?_append_left (by omega)]; exact h2 j (by omega)
/-- Which nodes are a node's parts. -/
def KidsL (L : List Nd) (K : Nat → List Nat) : Prop := ∀ k, k < L.length → (K k).length = (ndAt L k).Xs.length ∧ ∀ j, j < (ndAt L k).Xs.length → FndL L (ndP L k j) ((ndAt L k).zss[j]?.getD []) ((K k)[j]?.getD 0)
theorem kidsL {L : List Nd} (h : ∀ d ∈ L, FullL L d) : ∃ K, KidsL L K := by
  have h1 : ∀ k : Nat, ∃ l : List Nat, k < L.length → l.length = (ndAt L k).Xs.length ∧ ∀ j, j < (ndAt L k).Xs.length → FndL L (ndP L k j) ((ndAt L k).zss[j]?.getD []) (l[j]?.getD 0) := fun k => by
    by_cases hk : k < L.length
    · obtain ⟨l, h2, h3⟩ := listOf _ (h _ (ndAt_mem hk))
      exact ⟨l, fun _ => ⟨h2, h3⟩⟩
    · exact ⟨[], fun h => absurd h hk⟩
  obtain ⟨K, hK⟩ := Classical.skolem.1 h1
  exact ⟨K, hK⟩
theorem kidsL_gph {W : World} {x : Nat} {vN vC : Value} {L : List Nd} {m : Nat} {C : Nat → Nat} (H : TB W x vN vC L m C) {K : Nat → List Nat} (hK : KidsL L K) : Mt.Gph L.length (ndS L) K (ndZ L) := by
  refine ⟨fun k hk => ?_, fun k hk => ?_, fun k hk i hi => ?_, fun k hk => ?_, fun i j hi hj hs e => H.one i j hi hj hs e⟩
  · obtain ⟨_, _, _, _, _, _, _, _, _, _, _, _, h10, _⟩ := H.nds _ (ndAt_mem hk)
    exact h10 _ (by unfold Nd.z; simp [ndS])
  · obtain ⟨_, _, _, _, _, _, _, _, _, _, h8, _⟩ := H.nds _ (ndAt_mem hk)
    rw [(hK k hk).1, h8]; rfl
  · obtain ⟨j, hj, e⟩ := List.getElem_of_mem hi
    have h := ((hK k hk).2 j (by rw [← (hK k hk).1]; exact hj)).1
    rw [List.getElem?_eq_getElem hj, e] at h
    exact h
  · obtain ⟨_, _, _, _, _, _, _, _, _, _, h8, h9, _⟩ := H.nds _ (ndAt_mem hk)
    show (ndAt L k).s :: (ndAt L k).zss.flatten = _
    have e : (K k).map (ndZ L) = (ndAt L k).zss := by
      refine List.ext_getElem (by rw [List.length_map, (hK k hk).1, h9]) fun j j1 j2 => ?_
      rw [List.length_map] at j1
      rw [List.getElem_map]
      have h := ((hK k hk).2 j (by rw [← (hK k hk).1]; exact j1)).2.1
      rw [List.getElem?_eq_getElem j1, List.getElem?_eq_getElem j2] at h
      exact h
    rw [e]
    rfl
theorem tree_head {lo hi : Nat} {W : World} {X : Nat} {zs : List Int} (h : TreeIn lo hi W X zs) : lo ≤ X ∧ X < hi ∧ ∃ v, Node W X (hd0 zs) v := by
  cases h with
  | mk _ s v Xs zss h1 h2 hN => exact ⟨h1, h2, v, hN⟩
/-- TIES, out of nodes that are laid. -/
theorem TB.ties {W : World} {x : Nat} {vN vC : Value} {L : List Nd} {C : Nat → Nat} (H : TB W x vN vC L L.length C) {K : Nat → List Nat} (hK : KidsL L K) (h5 : L.length ≤ 5000) (h0 : 0 < L.length) : ∃ aN cN g cC, vN = .slice aN L.length cN ∧ vC = .slice (some ⟨g, 0, none⟩) L.length cC ∧ TiesO W x L.length aN cN g cC (ndN L) C (ndS L) K (ndP L) := by
  obtain ⟨gC, cC, rfl, _⟩ := New.at0 H.rowC (by rw [Mt.clL_length]; exact h0)
  rw [Mt.clL_length] at H
  obtain ⟨gN, cN, rfl, hgN, _⟩ := World.ownsRow.form H.rowN h0
  refine ⟨some ⟨gN, 0, none⟩, cN, gC, cC, rfl, by rw [Mt.clL_length], (World.ownsRow.lt H.rowC gC rfl).2, fun W' hk C' hC' => ?_, ?_⟩
  · have hgC := (World.ownsRow.lt H.rowC gC rfl).1
    have hx : W'.heap[x]? = W.heap[x]? := hk.block x H.lt (by omega)
    have hN' : W'.heap[gN]? = W.heap[gN]? := hk.block gN (World.ownsRow.lt H.rowN gN rfl).2 fun e => H.apart (q := gC) (by rw [e]; rfl) rfl
    refine ⟨(World.cell?_of_block (a := ⟨x, 0, none⟩) hx).trans ((cell_at H.cell 0).trans rfl), (World.cell?_of_block (a := ⟨x, 1, none⟩) hx).trans ((cell_at H.cell 1).trans rfl), fun k hk' => ?_, fun k hk' => ⟨gC, 0, rfl, by rw [Nat.zero_add]; exact hC' k hk'⟩, fun k hk' => ?_, fun k i hk' hi => ?_, fun k i hk' hi => ?_, h5⟩
    · obtain ⟨aN, cN', e, hf⟩ := H.form
      simp only [Value.slice.injEq, true_and] at e
      obtain ⟨rfl, rfl⟩ := e
      obtain ⟨b, off, e, hc⟩ := hf k hk'
      simp only [Option.some.injEq, Addr.mk.injEq] at e
      obtain ⟨rfl, rfl, _⟩ := e
      exact ⟨gN, 0, rfl, (World.cell?_of_block (a := ⟨gN, 0 + k, none⟩) hN').trans hc⟩
    · obtain ⟨lo, hi, v, h1, h2, h3, h4, h5', h6, ⟨a, c, rfl, h7⟩, h8, h9, h10, h11⟩ := H.nds _ (ndAt_mem hk')
      have hfar : ∀ q, lo ≤ q → q < hi → W'.heap[q]? = W.heap[q]? := fun q q1 q2 => hk.block q (by omega) fun e => by have := h3 gC (.inr rfl); omega
      rw [h8] at h6 h7
      refine ⟨a, c, (hfar _ h4 h5').trans h6, fun i hi => ?_⟩
      obtain ⟨b, off, e, b1, b2, hc⟩ := h7 i hi
      exact ⟨b, off, e, (World.cell?_of_block (a := ⟨b, off + i, none⟩) (hfar b b1 b2)).trans hc⟩
    · obtain ⟨lo, hi', v, h1, h2, h3, h4, h5', h6, h7, h8, h9, h10, h11⟩ := H.nds _ (ndAt_mem hk')
      have hfar : ∀ q, lo ≤ q → q < hi' → W'.heap[q]? = W.heap[q]? := fun q q1 q2 => hk.block q (by omega) fun e => by have := h3 gC (.inr rfl); omega
      have hi2 : i < (ndAt L k).Xs.length := by rw [h8]; exact hi
      obtain ⟨t1, t2, v', t3⟩ := tree_head (h11 i hi2)
      have hF := (hK k hk').2 i hi2
      have es : ndS L ((K k)[i]?.getD 0) = hd0 ((ndAt L k).zss[i]?.getD []) := by rw [← hF.2.1]; rfl
      rw [es]
      exact ⟨v', (hfar _ t1 t2).trans t3⟩
    · obtain ⟨lo, hi', v, h1, h2, h3, h4, h5', h6, h7, h8, h9, h10, h11⟩ := H.nds _ (ndAt_mem hk')
      obtain ⟨f1, f2, f3, f4⟩ := (hK k hk').2 i (by rw [h8]; exact hi)
      have es : ndS L ((K k)[i]?.getD 0) = hd0 ((ndAt L k).zss[i]?.getD []) := by rw [← f2]; rfl
      exact ⟨f1, fun h q hq => by rw [es]; exact f3 (by rw [← es]; exact h) q hq, fun h => f4 (by rw [← es]; exact h)⟩
  · exact H.rowC.mono (Nat.zero_le _)
theorem New.rebase {base base' : Nat} {W : World} {g n c : Nat} {zs : List Int} (h : New base W (.slice (some ⟨g, 0, none⟩) n c) zs) (hb : base' ≤ g) : New base' W (.slice (some ⟨g, 0, none⟩) n c) zs := by
  refine ⟨h.1, ?_⟩
  rcases h.2 with ⟨e, _⟩ | ⟨g', c', cur, e, _, h3⟩
  · cases e
  · cases e
    exact .inr ⟨_, _, cur, rfl, hb, h3⟩
/-- Behind a tie. -/
theorem TB.tied {W W' : World} {x : Nat} {vN : Value} {L : List Nd} {m g cC : Nat} {C C' : Nat → Nat} (H : TB W x vN (.slice (some ⟨g, 0, none⟩) m cC) L m C) (hk : Keep W.heap.size g W W') (hN : New 0 W' (.slice (some ⟨g, 0, none⟩) m cC) (Mt.clL m C')) : TB W' x vN (.slice (some ⟨g, 0, none⟩) m cC) L m C' ∧ WK W W' x vN (.slice (some ⟨g, 0, none⟩) m cC) vN (.slice (some ⟨g, 0, none⟩) m cC) := by
  have hgC := (World.ownsRow.lt H.rowC g rfl).1
  have hwk : WK W W' x vN (.slice (some ⟨g, 0, none⟩) m cC) vN (.slice (some ⟨g, 0, none⟩) m cC) := ⟨hk.os, hk.tape, hk.output, hk.size, fun k h1 _ _ h4 => hk.block k h1 fun e => h4 (by rw [e]; rfl), fun _ h => .inl h, fun _ h => .inl h⟩
  refine ⟨⟨(hk.block x H.lt (by omega)).trans H.cell, ownsRow_keep H.rowN fun q hq => hk.block q (World.ownsRow.lt H.rowN q hq).2 fun e => H.apart hq (by rw [e]; rfl), hN.rebase hgC, fun d hd => (H.nds d hd).keep hwk, H.one⟩, hwk⟩
theorem WK.below {W W' : World} {x : Nat} {vN vC vN' vC' : Value} {L : List Nd} {m : Nat} {C : Nat → Nat} (h : WK W W' x vN vC vN' vC') (H : TB W x vN vC L m C) : Below x W W' :=
  ⟨h.os, h.tape, h.output, h.size, fun k hk => h.block k (by have := H.lt; omega) (by omega) (fun e => by have := (World.ownsRow.lt H.rowN k e.symm).1; omega) (fun e => by have := (World.ownsRow.lt H.rowC k e.symm).1; omega)⟩

/-- What holds when k pairs are tied. -/
structure MI (ps : PairL) (k : Nat) (L : List Nd) (C : Nat → Nat) : Prop where
  lt : ∀ q, q < L.length → C q < L.length
  out : ∀ q, L.length ≤ q → C q = q
  sound : ∀ θ, Wb.TermSb θ → Wb.Same ps k θ → Mt.Resp L.length (ndZ L) C θ
  tied : ∀ j, j < k → ∃ a b, a < L.length ∧ b < L.length ∧ ndZ L a = (ps[j]?.getD ([], [])).1 ∧ ndZ L b = (ps[j]?.getD ([], [])).2 ∧ C a = C b
  full : ∀ d ∈ L, FullL L d
theorem MI.start (ps : PairL) : MI ps 0 [] (fun q => q) := ⟨fun q h => by simp at h, fun _ _ => rfl, fun _ _ _ i _ h => by simp at h, fun j hj => by omega, fun d h => by simp at h⟩
theorem MI.extC {ps : PairL} {k : Nat} {L : List Nd} {C : Nat → Nat} (H : MI ps k L C) : extC L.length C = C := extC_of H.out
theorem ndZ_app {L : List Nd} (M : List Nd) {k : Nat} (h : k < L.length) : ndZ (L ++ M) k = ndZ L k := by unfold ndZ; rw [ndAt_app M h]
theorem MI.ext {ps : PairL} {k : Nat} {L : List Nd} {C : Nat → Nat} (H : MI ps k L C) {M : List Nd} (hM : ∀ d ∈ M, FullL (L ++ M) d) : MI ps k (L ++ M) C := by
  refine ⟨fun q hq => ?_, fun q hq => H.out q (by rw [List.length_append] at hq; omega), fun θ hθ hs i j hi hj e => ?_, fun j hj => ?_, fun d hd => ?_⟩
  · rw [List.length_append] at hq ⊢
    by_cases h : q < L.length
    · have := H.lt q h; omega
    · rw [H.out q (by omega)]; exact hq
  · by_cases h1 : i < L.length
    · by_cases h2 : j < L.length
      · rw [ndZ_app M h1, ndZ_app M h2]; exact H.sound θ hθ hs i j h1 h2 e
      · rw [H.out j (by omega)] at e; have := H.lt i h1; omega
    · rw [H.out i (by omega)] at e
      by_cases h2 : j < L.length
      · have := H.lt j h2; omega
      · rw [H.out j (by omega)] at e; rw [e]
  · obtain ⟨a, b, ha, hb, e1, e2, e3⟩ := H.tied j hj
    exact ⟨a, b, by rw [List.length_append]; omega, by rw [List.length_append]; omega, by rw [ndZ_app M ha]; exact e1, by rw [ndZ_app M hb]; exact e2, e3⟩
  · rcases List.mem_append.1 hd with h | h
    · exact (H.full d h).app M
    · exact hM d h
theorem MI.tie {ps : PairL} {k : Nat} {L : List Nd} {C : Nat → Nat} (H : MI ps k L C) {a b : Nat} (ha : a < L.length) (hb : b < L.length) (e1 : ndZ L a = (ps[k]?.getD ([], [])).1) (e2 : ndZ L b = (ps[k]?.getD ([], [])).2) : MI ps (k + 1) L (Mt.tied C a b) := by
  refine ⟨Mt.tied_lt H.lt hb, fun q hq => ?_, fun θ hθ hs => ?_, fun j hj => ?_, H.full⟩
  · unfold Mt.tied
    have := H.lt a ha
    rw [H.out q hq, if_neg (by omega)]
  · obtain ⟨h1, h2⟩ := hs.succ
    refine (H.sound θ hθ h1).tie ha hb ?_
    rw [e1, e2]
    exact h2
  · by_cases e : j = k
    · subst e
      exact ⟨a, b, ha, hb, e1, e2, Mt.tied_same C a b⟩
    · obtain ⟨a', b', ha', hb', f1, f2, f3⟩ := H.tied j (by omega)
      exact ⟨a', b', ha', hb', f1, f2, Mt.tied_mono a b f3⟩

end Go.Proofs.Ytloealnfbpegnab

namespace Go.Proofs.Ytloealnfbpegnab
open Go.Proofs Go.RowKit Go.Shelf Go.Maps

namespace Mt
/-- What variables become, by the first k nodes. -/
def sigT (n : Nat) (S : Nat → Int) (K : Nat → List Nat) (C : Nat → Nat) (k : Nat) : Wb.Sb := fun v => match (List.range k).find? fun q => decide (S q = v) with
  | some q => bec n S K C (n + 1) (C q)
  | none => [v]
theorem sigT_all (n : Nat) (S : Nat → Int) (K : Nat → List Nat) (C : Nat → Nat) : sigT n S K C n = sig n S K C := rfl
theorem sigT_zero (n : Nat) (S : Nat → Int) (K : Nat → List Nat) (C : Nat → Nat) : sigT n S K C 0 = fun v => [v] := rfl
theorem sigT_else {n : Nat} {S : Nat → Int} {K : Nat → List Nat} {C : Nat → Nat} {k : Nat} {v : Int} (h : S k ≠ v) : sigT n S K C (k + 1) v = sigT n S K C k v := by
  unfold sigT
  rw [List.range_succ, List.find?_append]
  cases hf : (List.range k).find? fun q => decide (S q = v) with
  | some q => rfl
  | none => simp [h]
theorem sigT_here {n : Nat} {S : Nat → Int} {K : Nat → List Nat} {C : Nat → Nat} {k : Nat} (h : ∀ q, q < k → S q ≠ S k) : sigT n S K C (k + 1) (S k) = bec n S K C (n + 1) (C k) := by
  unfold sigT
  rw [List.range_succ, List.find?_append, List.find?_eq_none.2 fun q hq => by simpa using h q (List.mem_range.1 hq)]
  simp
theorem sbL_step {σ τ : Wb.Sb} {j : Nat} {t : List Int} (h1 : τ (-1 - (j : Int)) = t) (h2 : ∀ v, v ≠ -1 - (j : Int) → τ v = σ v) : Tm.sbL τ = (Tm.sbL σ).set j t := by
  refine List.ext_getElem (by rw [List.length_set, Tm.sbL_length, Tm.sbL_length]) fun i i1 i2 => ?_
  rw [Tm.sbL_length] at i1
  rw [List.getElem_set]
  have a1 := Tm.sbL_at τ i1
  have a2 := Tm.sbL_at σ i1
  rw [List.getElem?_eq_getElem (by rw [Tm.sbL_length]; exact i1)] at a1 a2
  simp only [Option.getD_some] at a1 a2
  by_cases e : j = i
  · subst e
    rw [if_pos rfl, a1, h1]
  · rw [if_neg e, a1, a2]
    exact h2 _ (by omega)
theorem sbL_none : Tm.sbL (fun v => [v]) = Tm.noneL 8 := rfl
end Mt

set_option maxRecDepth 100000 in
set_option maxHeartbeats 400000 in
/-- (*ties).close of no nodes. -/
theorem tclose_nil {x cN : Nat} (w : World) (hc0 : w.cell? ⟨x, 0, none⟩ = some (.slice none 0 cN)) :
    Calls Try.prog 56 #[ptr x] w fun e w' => e = .returned (.bool true) ∧ w' = w := by
  go_enter Try.func56, Try.ntmps56
  go_wp2
  refine wp_loop_rounds 2 ?_
  rw [rounds_succ]
  go_wp2
  refine wp_loop_rounds 1 ?_
  rw [rounds_succ]
  go_wp2
  rw [rounds_succ]
  go_wp2
  go_ret
  exact ⟨rfl, rfl⟩

end Go.Proofs.Ytloealnfbpegnab

namespace Go.Proofs.Ytloealnfbpegnab
open Go.Proofs Go.RowKit Go.Shelf Go.Maps

/-- What met answers. -/
def MetAns (ps : PairL) (w w' : World) (e : Ending) : Prop := Below w.heap.size w w' ∧ ∃ er is val v, Tm.MeetSays ps er is val ∧ e = .returned (.tuple #[v, .bool is, .int .i64 er]) ∧ NewS w.heap.size w' v val
theorem firstPair_of {ps : PairL} (h : ∀ k, k < ps.length → Tm.err (ps[k]?.getD ([], [])).1 = 0 ∧ Tm.err (ps[k]?.getD ([], [])).2 = 0) : Tm.firstPair ps = 0 := by
  induction ps with
  | nil => rfl
  | cons r l ih =>
    rw [Tm.firstPair, if_pos (Tm.pairErr_zero.2 (by simpa using h 0 (by simp)))]
    exact ih fun k hk => by simpa using h (k + 1) (by simpa using hk)

theorem met_step {wr w1 w2 : World} {x : Nat} {vN vC vN1 vC1 : Value} {L M : List Nd} {C : Nat → Nat} {ps : PairL} {k : Nat} (hT : TB wr x vN vC L L.length C) (hM : MI ps k L C) (hB1 : Below wr.heap.size wr w1) (hA : ∀ d ∈ M, FullL (L ++ M) d) (hT2 : TB w2 x vN1 vC1 (L ++ M) (L ++ M).length (extC L.length C)) (hW2 : WK w1 w2 x vN vC vN1 vC1) :
    TB w2 x vN1 vC1 (L ++ M) (L ++ M).length C ∧ MI ps k (L ++ M) C ∧ Below x wr w2 := by
  rw [hM.extC] at hT2
  exact ⟨hT2, hM.ext hA, (hB1.mono (Nat.le_of_lt hT.lt)).trans (hW2.below (hT.below hB1).1)⟩

end Go.Proofs.Ytloealnfbpegnab

namespace Go.Proofs.Ytloealnfbpegnab
open Go.Proofs Go.RowKit Go.Shelf Go.Maps

theorem Tm.fit_pair (a b : List Int) : Tm.fitErr a b = Tm.pairErr a b := by
  unfold Tm.pairErr
  by_cases h : Tm.err a = 0
  · rw [if_pos h]
    simp only [Tm.fitErr, Tm.firstErr, h, if_true]
    by_cases h2 : Tm.err b = 0 <;> simp [h2]
  · rw [if_neg h]
    simp [Tm.fitErr, Tm.firstErr, h]
theorem mgu_nil : Wb.Mgu [] (fun v => [v]) := by
  refine ⟨fun s hs => ?_, fun v h1 h2 s hs => ?_, fun j hj => by simp at hj, fun θ _ _ v _ h2 => ?_, fun v u _ _ e _ => ?_⟩
  · show Tm.run [s] 1 = 1
    rw [show (1 : Nat) = 0 + 1 from rfl, Tm.run_cons, Wb.room_var hs, Tm.run_zero]
  · simp only [List.mem_cons, List.not_mem_nil, or_false] at hs
    omega
  · show θ v = Wb.App θ [v]
    rw [Wb.App_cons, if_pos h2, Wb.App_nil, List.append_nil]
  · simp only [List.cons.injEq, and_true] at e
    omega

set_option maxRecDepth 100000 in
set_option maxHeartbeats 1000000 in
theorem met_nil (a : Option Addr) (cap : Nat) (w : World) : Calls Try.prog 36 #[.slice a 0 cap] w fun e w' => MetAns [] w w' e := by
  have hB0 := hid ((Below.refl w.heap.size w).alloc (Nat.le_refl _) (.cells #[.slice none 0 0, .slice none 0 0] 79))
  have hcl := hid (fun W (hW : W = w.alloc (.cells #[.slice none 0 0, .slice none 0 0] 79)) => tclose_nil (x := w.heap.size) (cN := 0) W (by rw [hW]; exact (cell_at (World.alloc_heap_new w _) 0).trans rfl))
  have hc0 : (w.alloc (.cells #[.slice none 0 0, .slice none 0 0] 79)).cell? ⟨w.heap.size, 0, none⟩ = some (.slice none 0 0) := (cell_at (World.alloc_heap_new w _) 0).trans rfl
  go_enter Try.func36, Try.ntmps36
  go_wp2
  refine wp_loop_rounds 1 ?_
  rw [rounds_succ]
  go_wp2_with fail
  refine (hcl.out _ rfl).mono ?_
  rintro e w1 ⟨rfl, rfl⟩
  clear hcl
  go_wp2
  refine wp_loop_rounds 1 ?_
  rw [rounds_succ]
  go_wp2_with (go_at_call 42; refine (noneOf_any _).mono ?_; rintro e w4 ⟨v, rfl, hN4, hB4⟩; have hlen : (Tm.noneL 8).length = 8 := Tm.noneL_length 8; obtain ⟨g4, c4, rfl⟩ : ∃ g4 c4, v = .slice (some ⟨g4, 0, none⟩) 8 c4 := (by obtain ⟨us, h1, _⟩ := hN4; rw [hlen] at h1; exact ownsRow_succ h1))
  have hc4 : w4.cell? ⟨w.heap.size, 0, none⟩ = some (.slice none 0 0) := (hB4.cell (p := ⟨w.heap.size, 0, none⟩) (by simp)).trans hc0
  refine wp_loop_rounds 1 ?_
  rw [rounds_succ]
  go_wp2
  go_ret3
  exact ⟨hB0.out.trans (hB4.mono hB0.out.size), 0, true, Tm.noneL 8, _, .inr (.inr (.inl ⟨rfl, _, mgu_nil, fun i hi => by simp, rfl, rfl, rfl⟩)), rfl, hN4.mono hB0.out.size⟩

end Go.Proofs.Ytloealnfbpegnab
