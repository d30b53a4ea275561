/-
  haspref.LeanOf. · haspref.LeanOf whole; haspref.SameLeans; one answer.
-/
import Derived.Test.YtgeknojpcjadkaaBln28
import Derived.Deep.QuietTactic
import Derived.BigQuiet
namespace Go.Proofs.Ytgeknojpcjadkaa
open Go.Proofs Go.RowKit Go.Shelf Go.Maps

theorem New.opened {base : Nat} {W : World} {a : Option Addr} {c : Nat} {zs : List Int} (h : New base W (.slice a zs.length c) zs) : Ints W.heap.size W a zs ∧ zs.length ≤ c ∧ c ≤ maxLen := by
  obtain ⟨a', c', e, r⟩ := New.ints h
  cases e
  exact r

set_option maxRecDepth 100000 in
set_option maxHeartbeats 8000000 in
theorem leanOf_right (rs : RuleL) (t : List Int) (al at' : Option Addr) (cl ct : Nat) (w : World) (hR : RulesAt w.heap.size w al rs) (hT : Ints w.heap.size w at' t) (h1 : t.length ≤ ct) (h2 : ct ≤ maxLen) (he : Tm.leanErr rs t = 0) :
    Calls Try.prog 32 #[.slice al rs.length cl, .slice at' t.length ct] w fun e w' => ∃ er l v, Tm.LeanSays rs t er l ∧ e = .returned (.tuple #[v, .int .i64 er]) ∧ NewL w.heap.size w' v l ∧ Below w.heap.size w w' := by
  obtain ⟨e1, e2, e3⟩ := Tm.leanErr_zero he
  have hS : Hid (∀ er l, ((er = 0 ∧ Tm.LeanOk rs t l) ∨ (Tm.LeanBad rs t er ∧ l = [])) → Tm.LeanSays rs t er l) := fun er l h => .inr ⟨he, h⟩
  have C1 := hid (rulesError_any rs al cl w hR)
  have C2 := hid (fun W (hW : Below w.heap.size w W) => termError_any t at' ct W ((hT.below hW).mono hW.size))
  have C3 := hid (fun W (hW : Below w.heap.size w W) => refOwn_any t at' ct W ((hT.below hW).mono hW.size) (by have := Tm.err_len e2; unfold maxLen; omega))
  rw [e1] at C1
  rw [e2] at C2
  rw [e3] at C3
  obtain ⟨h8, hall⟩ := Tm.rulesErr_ok e1
  have h8' : (rs.length : Int) ≤ 8 := by omega
  have l30 := Tm.err_len e2
  have l30' : (t.length : Int) ≤ 30 := by omega
  have lpos := Tm.err_pos e2
  have HR := hid hR
  have HT := hid hT
  have Hall := hid hall
  obtain ⟨ba, oa, rfl⟩ : ∃ ba oa, at' = some ⟨ba, oa, none⟩ := by obtain ⟨x, y, e, _⟩ := hT.at lpos; exact ⟨x, y, e⟩
  clear he hR hT hall e1 e3
  go_enter Try.func32, Try.ntmps32
  go_wp2_with fail
  refine C1.out.mono ?_
  rintro e w1 ⟨rfl, b1⟩
  clear C1
  go_wp2_with fail
  refine (C2.out w1 b1).mono ?_
  rintro e w1 ⟨rfl, rfl⟩
  clear C2
  go_wp2_with fail
  refine (C3.out w1 b1).mono ?_
  rintro e w1 ⟨rfl, rfl⟩
  clear C3
  go_wp2
  go_loopw [8, 9] (fun ov v wr => ∃ (m : Nat) (l : LeanL), m ≤ t.length ∧ v = .int .i64 (m : Int) ∧ (∃ oa oc, ov = .slice oa l.length oc) ∧ Hid (Tm.LrOn rs t (fun k i => k < rs.length ∧ i < m) l) ∧ Hid (NewL w1.heap.size wr ov l) ∧ Below w1.heap.size w1 wr) (fun _ v _ => t.length - (intOf v).toNat)
  case atStart => exact ⟨0, [], Nat.zero_le _, rfl, ⟨none, 0, rfl⟩, ⟨fun k i h => by omega, List.Pairwise.nil, fun x => ⟨fun h => (by cases h), fun ⟨k, i, o, h, _⟩ => by omega⟩⟩, NewL.nil _ _, Below.refl _ _⟩
  case round =>
    obtain ⟨m, l, hm, rfl, ⟨va, vc, rfl⟩, hL, hN, hB⟩ := hrel
    have BW := b1.trans (hB.mono b1.size)
    by_cases hlt : m < t.length
    · have hlt' : (m : Int) < (t.length : Int) := by omega
      obtain ⟨_, _, e, _, hcs⟩ := ((HT.out.below BW).mono BW.size).at lpos
      cases e
      have hcm := hcs m hlt
      have hbl : ba < wr.heap.size := by obtain ⟨_, _, e, h, _⟩ := ((HT.out.below BW).mono BW.size).at lpos; cases e; exact h
      clear hcs
      by_cases hs : t[m]?.getD 0 < 0
      · have hp := hid (hL.out.pass hs)
        have hs' : decide (t[m]?.getD 0 ≥ 0) = false := by simp; omega
        have hs2 : decide (0 ≤ t[m]?.getD 0) = false := by simp; omega
        clear hL hs
        generalize t[m]?.getD 0 = s at *
        go_wp2
        go_loopw [8, 10] (fun ov v X => ov = .slice va l.length vc ∧ v = .int .i64 0 ∧ X = wr) (fun _ _ _ => 0)
        case atStart => exact ⟨rfl, rfl, rfl⟩
        case round =>
          obtain ⟨rfl, rfl, rfl⟩ := hrel
          by_cases h0 : (0 : Int) < (rs.length : Int)
          · go_wp2
            go_roundw
            case rel => exact ⟨m + 1, l, by omega, by go_num, ⟨va, vc, rfl⟩, hp, hN, hB⟩
            case measure => simp [intOf]; omega
          · go_wp2
            go_roundw
            case rel => exact ⟨m + 1, l, by omega, by go_num, ⟨va, vc, rfl⟩, hp, hN, hB⟩
            case measure => simp [intOf]; omega
      · have hs' : (0 : Int) ≤ t[m]?.getD 0 := by omega
        have Hs := hid hs
        have ep := hid (Tm.part_err e2 hlt)
        have L0 := hid (hL.out.congr (P' := fun k i => (k < rs.length ∧ i < m) ∨ (i = m ∧ k < 0)) (fun k i => ⟨fun h => .inl h, fun h => h.elim id (fun h => absurd h.2 (by omega))⟩))
        have hcell := hid (fun X (hX : Below w1.heap.size w1 X) => (by
          have h := b1.trans (hX.mono b1.size)
          obtain ⟨_, _, e, _, hcs⟩ := ((HT.out.below h).mono h.size).at lpos
          cases e
          exact hcs m hlt : X.cell? ⟨ba, oa + m, none⟩ = some (.int .i64 (t[m]?.getD 0))))
        clear hs hL
        generalize t[m]?.getD 0 = s at hs' hcell hcm
        go_wp2
        go_loopw [8, 10] (fun ov v X => ∃ (j : Nat) (l : LeanL), j ≤ rs.length ∧ v = .int .i64 (j : Int) ∧ (∃ oa oc, ov = .slice oa l.length oc) ∧ Hid (Tm.LrOn rs t (fun k i => (k < rs.length ∧ i < m) ∨ (i = m ∧ k < j)) l) ∧ Hid (NewL w1.heap.size X ov l) ∧ Below w1.heap.size w1 X) (fun _ v _ => rs.length - (intOf v).toNat)
        case atStart => exact ⟨0, l, Nat.zero_le _, rfl, ⟨va, vc, rfl⟩, L0, hN, hB⟩
        case round =>
          obtain ⟨X, rfl⟩ : ∃ X, X = wr := ⟨wr, rfl⟩
          clear L0 hN hB BW hbl
          obtain ⟨j, l, hj, rfl, ⟨va, vc, rfl⟩, hL, hN, hB⟩ := hrel
          have BW := b1.trans (hB.mono b1.size)
          have hcm := hcell.out X hB
          by_cases hjt : j < rs.length
          · have hjt' : (j : Int) < (rs.length : Int) := by omega
            obtain ⟨bq, off, rfl, hb, aL, cL, aR, cR, g1, g2, g3, g4, g5, g6, g7, g8⟩ := (HR.out.below BW) j hjt
            obtain ⟨eL, eR, fL, fR, _⟩ := Tm.ruleErr_ok (Hall.out j hjt)
            have eO := Tm.oth_err eL fL
            have eO2 := Tm.oth_err eR fR
            have hno : Hid (∀ val, Tm.MeetSays [(Tm.part t m, Tm.others (rs[j]?.getD ([], [])).1)] 0 false val → Tm.LrOn rs t (fun k i => (k < rs.length ∧ i < m) ∨ (i = m ∧ k < j + 1)) l) := fun val h => by
              have h0 := hL.out.next (o := []) (fun k i h => h.imp (fun h => h.2) id) (.inr (.inl ⟨(by have := Hs.out; omega), ⟨val, h⟩, rfl⟩))
              rw [List.append_nil] at h0
              exact h0.congr fun k i => by omega
            have hyes : Hid (∀ val, Tm.MeetSays [(Tm.part t m, Tm.others (rs[j]?.getD ([], [])).1)] 0 true val → Tm.lnErr val t (m : Int) (Tm.others (rs[j]?.getD ([], [])).2) = 0 → Tm.LrOn rs t (fun k i => (k < rs.length ∧ i < m) ∨ (i = m ∧ k < j + 1)) (l ++ [(j, m, val, Tm.lnVal val t (m : Int) (Tm.others (rs[j]?.getD ([], [])).2))])) := fun val h h' => (hL.out.next (fun k i h => h.imp (fun h => h.2) id) (.inr (.inr ⟨(by have := Hs.out; omega), val, h, h', rfl⟩))).congr fun k i => by omega
            have hbad : Hid (∀ e, e ≠ 0 → ((∃ is val, Tm.MeetSays [(Tm.part t m, Tm.others (rs[j]?.getD ([], [])).1)] e is val) ∨ ∃ val, Tm.MeetSays [(Tm.part t m, Tm.others (rs[j]?.getD ([], [])).1)] 0 true val ∧ Tm.lnErr val t (m : Int) (Tm.others (rs[j]?.getD ([], [])).2) = e) → Tm.LeanSays rs t e []) := fun e h0 h => hS.out e [] (.inr ⟨⟨j, m, hjt, hlt, h0, (by have := Hs.out; omega), h⟩, rfl⟩)
            have hlen := hL.out.len (fun k i h => by omega)
            clear hL
            generalize (rs[j]?.getD ([], [])).1 = P at *
            generalize (rs[j]?.getD ([], [])).2 = Q at *
            have lP := Tm.err_len eL
            have lQ := Tm.err_len eR
            have hsz0 := BW.size
            have HB := hid hB
            have hBW := Below.refl X.heap.size X
            have hS0 : X.cell? ⟨bq, off + j * 2, none⟩ = some (.slice aL P.length cL) := g1
            have hSS := hid (fun V (hV : Below X.heap.size X V) => (show V.cell? ⟨bq, off + j * 2, none⟩ = some (.slice aL P.length cL) from (hV.cell (p := ⟨bq, off + j * 2, none⟩) (by show bq < _; omega)).trans g1))
            have hSA : Hid (∀ V o, Below X.heap.size X V → (World.alloc V o).cell? ⟨bq, off + j * 2, none⟩ = some (.slice aL P.length cL)) := fun V o hV => hSS.out _ (hV.alloc hV.size o)
            have hSR := hid (fun V (hV : Below X.heap.size X V) => (show V.cell? ⟨bq, off + j * 2 + 1, none⟩ = some (.slice aR Q.length cR) from (hV.cell (p := ⟨bq, off + j * 2 + 1, none⟩) (by show bq < _; omega)).trans g2))
            have hT1 := hid (fun V (hV : Below X.heap.size X V) => (show Ints V.heap.size V (some ⟨ba, oa, none⟩) t from by have h := BW.trans (hV.mono BW.size); exact (HT.out.below h).mono h.size))
            have hIQ := hid (fun V (hV : Below X.heap.size X V) => (show Ints V.heap.size V aR Q from (((g4.mono hsz0).below hV).mono hV.size)))
            have hPt := hid (fun V (hV : Below X.heap.size X V) => (partOf_any t (some ⟨ba, oa, none⟩) ct m V (hT1.out V hV) h1 h2 e2 hlt).mono (fun e w' ⟨v, p1, p2, p3⟩ => (⟨v, p1, p2.mono hV.size, p3, hV.trans (p3.mono hV.size)⟩ : ∃ v, e = Ending.returned v ∧ New X.heap.size w' v (Tm.part t m) ∧ Below V.heap.size V w' ∧ Below X.heap.size X w')))
            have hOt := hid (fun V (hV : Below X.heap.size X V) => (refothers_any P aL cL V lP (Tm.err_pos eL) (fun k hk => by have := (Tm.known8 eL k hk); omega) (((g3.mono hsz0).below hV).mono hV.size)).mono (fun e w' ⟨v, p1, p2, p3⟩ => (⟨v, p1, p2.mono hV.size, p3, hV.trans (p3.mono hV.size)⟩ : ∃ v, e = Ending.returned v ∧ New X.heap.size w' v (Tm.others P) ∧ Below V.heap.size V w' ∧ Below X.heap.size X w')))
            have hmt := hid (fun (V : World) (ap ao : Option Addr) (cp co : Nat) (q1 : Ints V.heap.size V ap (Tm.part t m)) (q2 : Ints V.heap.size V ao (Tm.others P)) (q3 : (Tm.part t m).length ≤ cp) (q4 : cp ≤ maxLen) (q5 : (Tm.others P).length ≤ co) (q6 : co ≤ maxLen) => (by
              have hA : Below V.heap.size V (V.alloc (.cells #[.slice ap (Tm.part t m).length cp, .slice ao (Tm.others P).length co] 42)) := (Below.refl _ _).alloc (Nat.le_refl _) _
              have h := met_one (Tm.part t m) (Tm.others P) ap ao cp co V.heap.size (V.alloc (.cells #[.slice ap (Tm.part t m).length cp, .slice ao (Tm.others P).length co] 42)) (World.alloc_heap_new V _) ((q1.below hA).mono hA.size) ((q2.below hA).mono hA.size) q3 q4 q5 q6 ep.out eO
              exact h.mono fun e w' ⟨p1, er, is, val, v, p2, p3, p4⟩ => ⟨hA.trans (p1.mono hA.size), er, is, val, v, p2, p3, p4⟩ :
              Calls Try.prog 75 #[.slice (some ⟨V.heap.size, 0, none⟩) 1 1] (V.alloc (.cells #[.slice ap (Tm.part t m).length cp, .slice ao (Tm.others P).length co] 42)) fun e w' => Below V.heap.size V w' ∧ ∃ er is val v, Tm.MeetSays [(Tm.part t m, Tm.others P)] er is val ∧ e = .returned (.tuple #[v, .bool is, .int .i64 er]) ∧ NewS (V.alloc (.cells #[.slice ap (Tm.part t m).length cp, .slice ao (Tm.others P).length co] 42)).heap.size w' v val))
            clear g1 g2 g3 g4 hcell
            go_wp2
            go_region_held3 (fun w' => w'.cell? ⟨bq, off + j * 2, none⟩ = some (.slice aL P.length cL)) (first | assumption | exact hS0 | exact hSA.out _ _ BF.out)
              (first
                | (go_at_call 76; refine (hPt.out _ (by first | exact hBW | exact below_drewN hBW 1 | exact hBO | exact below_drewN hBO 1)).mono ?_; rintro e wP ⟨vP, rfl, nP, bP, hBP⟩; obtain ⟨xP, kP, rfl, iP, rP, rP'⟩ := New.ints nP; have sP := hSS.out _ hBP; (try have NPO := hid (And.intro nP (New.below nO bP))); (try have BF := hid hBP))
                | (go_at_call 77; refine (hOt.out _ (by first | exact hBW | exact below_drewN hBW 1 | exact hBP | exact below_drewN hBP 1)).mono ?_; rintro e wO ⟨vO, rfl, nO, bO, hBO⟩; obtain ⟨xO, kO, rfl, iO, rO, rO'⟩ := New.ints nO; have sO := hSS.out _ hBO; (try have NPO := hid (And.intro (New.below nP bO) nO)); (try have BF := hid hBO))
                | (go_at_call 75; refine (hmt.out _ xP xO kP kO (New.opened NPO.out.1).1 (New.opened NPO.out.2).1 (New.opened NPO.out.1).2.1 (New.opened NPO.out.1).2.2 (New.opened NPO.out.2).2.1 (New.opened NPO.out.2).2.2).mono ?_; rintro e w5 ⟨b5, er, is, val, v5, hSays, rfl, nS5⟩; obtain ⟨x5, k5, rfl, hSub, _⟩ := SubT.of nS5; have s5 := hSS.out _ (BF.out.trans (b5.mono BF.out.size))))
            all_goals (
              have B5 := hid (BF.out.trans (b5.mono BF.out.size))
              have N5 := hid (hN.out.below B5.out)
              have HSub := hid hSub
              have Hsays := hid hSays
              clear s5 hSub nS5 b5 NPO BF hBP hBO sP sO iP iO nP nO bP bO rP rP' rO rO' hPt hOt hmt hN hSA hS0 hSS hBW
              by_cases her : er = 0
              · subst her
                cases is with
                | false =>
                  have hn := hid (hno.out val hSays)
                  clear hSays Hsays hno hyes hbad
                  go_wp2
                  go_roundw
                  case rel => exact ⟨j + 1, l, by omega, by go_num, ⟨va, vc, rfl⟩, hn, N5, HB.out.trans (B5.out.mono HB.out.size)⟩
                  case measure => simp [intOf]; omega
                | true =>
                  obtain ⟨hsub, _⟩ := Tm.meet_true hSays
                  obtain ⟨h88, hfe⟩ := Tm.subErr_ok hsub
                  have hsh := Short.of_ok hfe
                  have hln := hid (Tm.ln_ref (val := val) (m := m) hsub e2 eO2 hlt)
                  have hy := hid (hyes.out val hSays)
                  have hbd : Hid (∀ e, e ≠ 0 → Tm.lnErr val t (m : Int) (Tm.others Q) = e → Tm.LeanSays rs t e []) := fun e h0 h => hbad.out e h0 (.inr ⟨val, Hsays.out, h⟩)
                  have hOq := hid (refothers_any Q aR cR w5 lQ (Tm.err_pos eR) (fun k hk => by have := (Tm.known8 eR k hk); omega) (hIQ.out w5 B5.out))
                  have hput := hid (fun V (hV : Below X.heap.size X V) a c (hI : Ints V.heap.size V a (Tm.others Q)) => refput_any t (Tm.others Q) (some ⟨ba, oa, none⟩) a ct c m V (hT1.out V hV) hI h1 h2 e2 eO2 hlt)
                  have hpl : (Tm.put t m (Tm.others Q)).length ≤ 60 := by
                    have q1 := Tm.put_length (zs := t) (us := Tm.others Q) hlt
                    have q2 := Tm.err_len eO2
                    have q3 := Tm.endAt_gt t m
                    omega
                  have hp8 : Hid (∀ q, q < (Tm.put t m (Tm.others Q)).length → -8 ≤ (Tm.put t m (Tm.others Q))[q]?.getD 0) := fun q hq => by
                    rw [List.getElem?_eq_getElem hq]
                    rcases Tm.put_signs (List.getElem_mem hq) with h | h
                    · exact (Tm.known_mem e2 h).1
                    · exact (Tm.known_mem eO2 h).1
                  have hap := hid (fun (V : World) (ad : Option Addr) (c : Nat) q1 q2 => applied_long val h88 hsh x5 k5 (Tm.put t m (Tm.others Q)) ad c (by omega) hp8.out V q1 q2)
                  have hxl := Tm.applied_le hsh (Tm.put t m (Tm.others Q))
                  have H8 := hid h88
                  have hcR := hSR.out w5 B5.out
                  clear hSays Hsays hno hyes hbad hsub h88 hfe hsh hIQ hSR
                  generalize Tm.applied val (Tm.put t m (Tm.others Q)) = Z at *
                  generalize Tm.put t m (Tm.others Q) = pt at *
                  have hZI : (Z.length : Int) ≤ 2000 := by omega
                  go_wp2_with fail
                  refine hOq.out.mono ?_
                  rintro e w6 ⟨v6, rfl, n6, b6⟩
                  obtain ⟨x6, k6, rfl, i6, _⟩ := New.ints n6
                  have B6 := hid (B5.out.trans (b6.mono B5.out.size))
                  have S6 := hid (HSub.out.below b6)
                  clear hOq n6 HSub
                  go_wp2_with fail
                  refine (hput.out w6 B6.out x6 k6 i6).mono ?_
                  rintro e w7 ⟨v7, rfl, n7, b7⟩
                  obtain ⟨x7, k7, rfl, i7, _⟩ := New.ints n7
                  have B7 := hid (B6.out.trans (b7.mono B6.out.size))
                  have S7 := hid (S6.out.below b7)
                  clear hput n7 S6 i6
                  rw [H8.out]
                  go_wp2_with fail
                  refine (hap.out w7 x7 k7 S7.out.subs i7).mono ?_
                  rintro e w8 ⟨v8, rfl, n8, b8⟩
                  obtain ⟨x8, k8, rfl, i8, j8, j8', _⟩ := IntT.of n8
                  have B8 := hid (B7.out.trans (b8.mono B7.out.size))
                  have S8 := hid (S7.out.below b8)
                  have N8 := hid (N5.out.below ((b6.trans (b7.mono b6.size)).trans (b8.mono (b6.trans (b7.mono b6.size)).size)))
                  have I8 := hid i8
                  clear hap n8 S7 i7 i8 b6 b7 b8 N5
                  rcases hln.out with ⟨c1, c2, c3⟩ | ⟨c1, c2⟩
                  · have c1' : ¬ (30 : Int) < (Z.length : Int) := by omega
                    have hy' := hid (hy.out c2)
                    rw [c3] at hy'
                    have hA8 : Hid (Below w8.heap.size w8 (w8.alloc (.cells #[.int .i64 (j : Int), .int .i64 (m : Int), .slice x5 8 k5, .slice x8 Z.length k8] 77))) := (Below.refl _ _).alloc (Nat.le_refl _) _
                    have blk := hid (World.alloc_heap_new w8 (.cells #[.int .i64 (j : Int), .int .i64 (m : Int), .slice x5 8 k5, .slice x8 Z.length k8] 77))
                    have hbs : w1.heap.size ≤ w8.heap.size := Nat.le_trans HB.out.size B8.out.size
                    clear c1 c2 c3 hy hbd hln
                    go_wp2_with (at_builtin; go_loud (refine wp_append_lean _ rfl _ _ rfl w1.heap.size _ l rfl (N8.out.below hA8.out) ((j, m, val, Z), (x5, k5), (x8, k8)) w8.heap.size rfl (fun q u hq => by rw [cell_at blk.out]; rw [encL, H8.out] at hq; simpa using hq) ⟨S8.out.below hA8.out, I8.out.keep fun b _ _ hb => hA8.out.block b (Array.getElem?_eq_some_iff.1 hb).1, j8, j8'⟩ (by omega) (by simp; omega) ?_); intro v9 w9 hN9 hB9 hs9; obtain ⟨g9, c9, rfl⟩ := hs9)
                    go_roundw
                    case rel => exact ⟨j + 1, _, by omega, by go_num, ⟨_, c9, by rw [List.length_append]; rfl⟩, hy', hid hN9, (HB.out.trans (B8.out.mono HB.out.size)).trans ((hA8.out.mono hbs).trans hB9)⟩
                    case measure => simp [intOf]; omega
                  · have c1' : (30 : Int) < (Z.length : Int) := by omega
                    have Hs2 := hid (hbd.out 2 (by omega) c2)
                    clear c1 c2 hy hbd hln
                    go_wp2
                    go_ret2
                    exact ⟨2, [], _, Hs2.out, rfl, NewL.nil _ _, BW.trans (B8.out.mono BW.size)⟩
              · have hne : (er != 0) = true := by simpa using her
                have Hs2 := hid (hbad.out er her (.inl ⟨is, val, hSays⟩))
                clear hSays Hsays her hno hyes hbad
                go_wp2
                go_ret2
                exact ⟨er, [], _, Hs2.out, rfl, NewL.nil _ _, BW.trans (B5.out.mono BW.size)⟩)
          · obtain rfl : j = rs.length := by omega
            have hp := hid (hL.out.congr (P' := fun k i => k < rs.length ∧ i < m + 1) (fun k i => ⟨fun h => h.elim (fun h => ⟨h.1, by omega⟩) (fun h => ⟨h.2, by omega⟩), fun h => if e : i = m then .inr ⟨e, h.1⟩ else .inl ⟨h.1, by omega⟩⟩))
            clear hL
            go_wp2
            go_roundw
            case rel => exact ⟨m + 1, l, by omega, by go_num, ⟨va, vc, rfl⟩, hp, hN, hB⟩
            case measure => simp [intOf]; omega
    · obtain rfl : m = t.length := by omega
      have Hs := hid (hS.out 0 l (.inl ⟨rfl, hL.out.ok⟩))
      clear hL hS
      go_wp2
      go_ret2
      exact ⟨0, l, _, Hs.out, rfl, hN.out.mono b1.size, BW⟩

end Go.Proofs.Ytgeknojpcjadkaa

namespace Go.Proofs.Ytgeknojpcjadkaa
open Go.Proofs Go.RowKit Go.Shelf Go.Maps

set_option maxRecDepth 100000 in
set_option maxHeartbeats 2000000 in
theorem leanOf_any (rs : RuleL) (t : List Int) (al at' : Option Addr) (cl ct : Nat) (w : World) (hR : RulesAt w.heap.size w al rs) (hT : Ints w.heap.size w at' t) (h1 : t.length ≤ ct) (h2 : ct ≤ maxLen) :
    Calls Try.prog 32 #[.slice al rs.length cl, .slice at' t.length ct] w fun e w' => ∃ er l v, Tm.LeanSays rs t er l ∧ e = .returned (.tuple #[v, .int .i64 er]) ∧ NewL w.heap.size w' v l ∧ Below w.heap.size w w' := by
  by_cases he : Tm.leanErr rs t = 0
  · exact leanOf_right rs t al at' cl ct w hR hT h1 h2 he
  · have hs : Hid (Tm.LeanSays rs t (Tm.leanErr rs t) []) := .inl ⟨he, rfl, rfl⟩
    have hE : Hid (Tm.leanErr rs t = if Tm.rulesErr rs = 0 then (if Tm.err t = 0 then (if t.any foreignB = true then 3 else 0) else Tm.err t) else Tm.rulesErr rs) := rfl
    have C1 := hid (rulesError_any rs al cl w hR)
    have C2 := hid (fun W (hW : Below w.heap.size w W) => termError_any t at' ct W ((hT.below hW).mono hW.size))
    have C3 := hid (fun (hl : t.length ≤ 30) W (hW : Below w.heap.size w W) => refOwn_any t at' ct W ((hT.below hW).mono hW.size) (by unfold maxLen; omega))
    clear hR hT
    by_cases e1 : Tm.rulesErr rs = 0
    · rw [e1] at C1
      rw [if_pos e1] at hE
      by_cases e2 : Tm.err t = 0
      · rw [e2] at C2
        rw [if_pos e2] at hE
        have C3' := hid (C3.out (Tm.err_len e2))
        have e3 : t.any foreignB = true := by
          rw [hE.out] at he
          cases h : t.any foreignB with
          | true => rfl
          | false => rw [h] at he; exact absurd rfl he
        rw [e3] at C3'
        rw [e3, if_pos rfl] at hE
        rw [hE.out] at hs
        clear he hE C3 e1 e2 e3
        go_enter Try.func32, Try.ntmps32
        go_wp2_with fail
        refine C1.out.mono ?_
        rintro e w1 ⟨rfl, b1⟩
        clear C1
        go_wp2_with fail
        refine (C2.out w1 b1).mono ?_
        rintro e w1 ⟨rfl, rfl⟩
        clear C2
        go_wp2_with fail
        refine (C3'.out w1 b1).mono ?_
        rintro e w1 ⟨rfl, rfl⟩
        clear C3'
        go_wp2
        go_ret2
        exact ⟨3, [], _, hs.out, rfl, NewL.nil _ _, b1⟩
      · rw [if_neg e2] at hE
        have hne : (Tm.err t != 0) = true := by simpa using e2
        rw [hE.out] at hs
        clear he hE C3 e1 e2
        generalize Tm.err t = q at *
        go_enter Try.func32, Try.ntmps32
        go_wp2_with fail
        refine C1.out.mono ?_
        rintro e w1 ⟨rfl, b1⟩
        clear C1
        go_wp2_with fail
        refine (C2.out w1 b1).mono ?_
        rintro e w1 ⟨rfl, rfl⟩
        clear C2
        go_wp2
        go_ret2
        exact ⟨q, [], _, hs.out, rfl, NewL.nil _ _, b1⟩
    · rw [if_neg e1] at hE
      have hne : (Tm.rulesErr rs != 0) = true := by simpa using e1
      rw [hE.out] at hs
      clear he hE C3 C2 e1
      generalize Tm.rulesErr rs = q at *
      go_enter Try.func32, Try.ntmps32
      go_wp2_with fail
      refine C1.out.mono ?_
      rintro e w1 ⟨rfl, b1⟩
      clear C1
      go_wp2
      go_ret2
      exact ⟨q, [], _, hs.out, rfl, NewL.nil _ _, b1⟩

set_option maxRecDepth 100000 in
set_option maxHeartbeats 1000000 in
/-- haspref.SameSubs, of the same ones: it only reads. -/
theorem subs_quiet (xs : List (List Int)) (a b : Option Addr) (ca cb n : Nat) (w : World) (hX : Subs n w a xs) (hY : Subs n w b xs) (hm : xs.length ≤ 1000) :
    Calls Try.prog 80 #[.slice a xs.length ca, .slice b xs.length cb] w fun e w' => e = .returned (.bool true) ∧ ∃ m, w' = w.drewN m := by
  have hne : ((xs.length : Int) != (xs.length : Int)) = false := by simp
  have hxm : (xs.length : Int) ≤ 1000 := by omega
  have HX := hid hX
  have HY := hid hY
  clear hX hY
  go_enter Try.func80, Try.ntmps80
  go_wp2
  go_loopw [5] (fun i wr => ∃ k : Nat, k ≤ xs.length ∧ i = .int .i64 (k : Int) ∧ Hid (∃ d, wr = w.drewN d)) (fun i _ => xs.length - (intOf i).toNat)
  case atStart => exact ⟨0, Nat.zero_le _, rfl, ⟨0, rfl⟩⟩
  case round =>
    obtain ⟨k, hk, rfl, hd⟩ := hrel
    by_cases hlt : k < xs.length
    · have hlt' : (k : Int) < (xs.length : Int) := by omega
      have hB : Below n w wr := by obtain ⟨d, rfl⟩ := hd.out; exact below_drewN (Below.refl _ _) d
      obtain ⟨b1, off1, rfl, hb1, hc1⟩ := (HX.out.below hB).at (by omega)
      obtain ⟨b2, off2, rfl, hb2, hc2⟩ := (HY.out.below hB).at (by omega)
      obtain ⟨ax, cx, hx, hIx, qx, qx2, _⟩ := hc1 k hlt
      obtain ⟨ay, cy, hy, hIy, _⟩ := hc2 k hlt
      have HS := hid (fun m : Nat => same_quiet (xs[k]?.getD []) (xs[k]?.getD []) ax ay cx cy n (wr.drewN m) hIx hIy (by omega))
      rw [show sameB (xs[k]?.getD []) (xs[k]?.getD []) = true by simp [sameB]] at HS
      clear hc1 hc2 hIx hIy qx qx2
      generalize xs[k]?.getD [] = s at *
      go_wp2
      go_quiet ((go_at_call 24; exact Calls.quiet_of (HS.out _)))
      go_wp2
      go_roundw
      case rel =>
        refine ⟨k + 1, by omega, by go_num, ?_⟩
        obtain ⟨d, rfl⟩ := hd.out
        exact ⟨_, World.drewN_drewN _ _ _⟩
      case measure => simp [intOf]; omega
    · obtain rfl : k = xs.length := by omega
      go_wp2
      go_ret
      exact ⟨rfl, hd.out⟩

set_option maxRecDepth 100000 in
set_option maxHeartbeats 4000000 in
theorem sameLeans_yes (l : LeanL) (u v : Value) (b1 b2 : Nat) (w : World) (hu : NewL b1 w u l) (hv : NewL b2 w v l) (hm : l.length ≤ 1000) (hsub : ∀ x ∈ l, x.2.2.1.length ≤ 1000) :
    Calls Try.prog 34 #[u, v] w fun e w' => e = .returned (.bool true) ∧ Below w.heap.size w w' := by
  obtain ⟨ua, uc, rfl⟩ := hu.slice
  obtain ⟨va, vc, rfl⟩ := hv.slice
  have hne : ((l.length : Int) != (l.length : Int)) = false := by simp
  have hm' : (l.length : Int) ≤ 1000 := by omega
  have HU := hid hu
  have HV := hid hv
  have Hsub := hid hsub
  clear hu hv hsub
  go_enter Try.func34, Try.ntmps34
  go_wp2
  go_loopw [5] (fun i wr => ∃ k : Nat, k ≤ l.length ∧ i = .int .i64 (k : Int) ∧ Below w.heap.size w wr) (fun i _ => l.length - (intOf i).toNat)
  case atStart => exact ⟨0, Nat.zero_le _, rfl, Below.refl _ _⟩
  case round =>
    obtain ⟨k, hk, rfl, hB⟩ := hrel
    by_cases hlt : k < l.length
    · have hlt' : (k : Int) < (l.length : Int) := by omega
      obtain ⟨g, cap, aS, cS, aT, cT, e, hg, c0, c1, c2, c3, hS, hI, q1, q2⟩ := (HU.out.below hB).elem hlt
      obtain ⟨g', cap', aS', cS', aT', cT', e', hg', d0, d1, d2, d3, hS', hI', q1', q2'⟩ := (HV.out.below hB).elem hlt
      cases e
      cases e'
      have hs8 := Hsub.out _ (List.getElem_mem hlt)
      have HS1 := hid (fun n : Nat => subs_quiet l[k].2.2.1 aS aS' cS cS' wr.heap.size (wr.drewN n) hS.subs hS'.subs hs8)
      have HS2 := hid (fun n : Nat => same_quiet l[k].2.2.2 l[k].2.2.2 aT aT' cT cT' wr.heap.size (wr.drewN n) hI.ints hI'.ints (by omega))
      rw [show sameB l[k].2.2.2 l[k].2.2.2 = true by simp [sameB]] at HS2
      clear hS hS' hI hI' q1 q2 q1' q2' hs8 hg hg'
      generalize l[k] = y at *
      obtain ⟨r, p, S, T⟩ := y
      dsimp only at c0 c1 c2 c3 d0 d1 d2 d3 HS1 HS2
      have e1 : ((r : Int) != (r : Int)) = false := by simp
      have e2 : ((p : Int) != (p : Int)) = false := by simp
      go_wp2
      go_quiet ((first | (go_at_call 24; exact Calls.quiet_of (HS2.out _)) | (go_at_call 80; exact Calls.quiet_of (HS1.out _))))
      go_wp2
      go_roundw
      case rel => exact ⟨k + 1, by omega, by go_num, below_drewN hB _⟩
      case measure => simp [intOf]; omega
    · obtain rfl : k = l.length := by omega
      go_wp2
      go_ret
      exact ⟨rfl, hB⟩

theorem Tm.LeanBad.two {rs : RuleL} {t : List Int} {e : Int} (h : Tm.LeanBad rs t e) (h0 : Tm.leanErr rs t = 0) : e = 2 := by
  obtain ⟨e1, e2, _⟩ := Tm.leanErr_zero h0
  obtain ⟨k, i, hk, hi, he, _, ⟨is, val, hs⟩ | ⟨val, hs, hb⟩⟩ := h
  · obtain ⟨_, hall⟩ := Tm.rulesErr_ok e1
    obtain ⟨eL, eR, fL, fR, _⟩ := Tm.ruleErr_ok (hall k hk)
    exact hs.bad2 (by rw [Tm.firstPair_one, Tm.pairErr_zero]; exact ⟨Tm.part_err e2 hi, Tm.oth_err eL fL⟩) he
  · obtain ⟨_, hall⟩ := Tm.rulesErr_ok e1
    obtain ⟨eL, eR, fL, fR, _⟩ := Tm.ruleErr_ok (hall k hk)
    obtain ⟨hsub, _⟩ := Tm.meet_true hs
    rcases Tm.ln_ref (val := val) (m := i) hsub e2 (Tm.oth_err eR fR) hi with ⟨_, h3, _⟩ | ⟨_, h3⟩
    · rw [h3] at hb; exact absurd hb.symm he
    · rw [h3] at hb; exact hb.symm
theorem Tm.LeanSays.one {rs : RuleL} {t : List Int} {er er' : Int} {l l' : LeanL} (h : Tm.LeanSays rs t er l) (h' : Tm.LeanSays rs t er' l') : er = er' ∧ l = l' := by
  rcases h with ⟨h0, rfl, rfl⟩ | ⟨h0, ⟨rfl, h⟩ | ⟨h, rfl⟩⟩ <;> rcases h' with ⟨g0, rfl, rfl⟩ | ⟨g0, ⟨rfl, g⟩ | ⟨g, rfl⟩⟩
  · exact ⟨rfl, rfl⟩
  · exact absurd g0 h0
  · exact absurd g0 h0
  · exact absurd h0 g0
  · exact ⟨rfl, lnLt_sorted h.2.1 g.2.1 fun x => (h.2.2 x).trans (g.2.2 x).symm⟩
  · obtain ⟨k, i, hk, hi, hb⟩ := g
    obtain ⟨o, ho⟩ := h.1 k hk i hi
    exact (ho.not hb).elim
  · exact absurd h0 g0
  · obtain ⟨k, i, hk, hi, hb⟩ := h
    obtain ⟨o, ho⟩ := g.1 k hk i hi
    exact (ho.not hb).elim
  · exact ⟨(h.two h0).trans (g.two g0).symm, rfl⟩
theorem Tm.LeanSays.lens {rs : RuleL} {t : List Int} {er : Int} {l : LeanL} (h : Tm.LeanSays rs t er l) : l.length ≤ 1000 ∧ ∀ x ∈ l, x.2.2.1.length ≤ 1000 := by
  rcases h with ⟨_, _, rfl⟩ | ⟨h0, ⟨_, h⟩ | ⟨_, rfl⟩⟩
  · exact ⟨by simp, fun x hx => by cases hx⟩
  · obtain ⟨e1, e2, _⟩ := Tm.leanErr_zero h0
    obtain ⟨h8, _⟩ := Tm.rulesErr_ok e1
    have l30 := Tm.err_len e2
    refine ⟨?_, fun x hx => ?_⟩
    · have hr : Tm.LrOn rs t (fun k i => k < rs.length ∧ i < t.length) l := ⟨fun k i hk => h.1 k hk.1 i hk.2, h.2.1, fun x => (h.2.2 x).trans ⟨fun ⟨k, i, o, hk, hi, ho⟩ => ⟨k, i, o, ⟨hk, hi⟩, ho⟩, fun ⟨k, i, o, hk, ho⟩ => ⟨k, i, o, hk.1, hk.2, ho⟩⟩⟩
      have := hr.len fun k i hk => by omega
      omega
    · obtain ⟨k, i, o, hk, hi, ho, hx⟩ := (h.2.2 x).1 hx
      obtain ⟨_, _, _, hs, _⟩ := ho.mem x hx
      obtain ⟨hsub, _⟩ := Tm.meet_true hs
      have := (Tm.subErr_ok hsub).1
      omega
  · exact ⟨by simp, fun x hx => by cases hx⟩

end Go.Proofs.Ytgeknojpcjadkaa
