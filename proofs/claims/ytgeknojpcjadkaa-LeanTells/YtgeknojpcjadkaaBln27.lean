/-
  haspref's (*ties).node. · haspref.met: from nodes that are laid to ties; what holds while pairs are tied. · haspref.met: nodes of both terms of a pair; a tie of two nodes; what is filled in.
-/
import Derived.Deep.RegionLaw
import Derived.Test.YtgeknojpcjadkaaBln26
import Derived.Test.YtgeknojpcjadkaaBln7
namespace Go.Proofs.Ytgeknojpcjadkaa
open Go.Proofs Go.RowKit Go.Shelf Go.Maps

/-- A tree that is there. -/
theorem node_hit {W : World} {x : Nat} {vN vC : Value} {L : List Nd} {C : Nat → Nat} (H : TB W x vN vC L L.length C) (hn : L.length ≤ 5000) (p : Nat) (z : List Int) (i : Nat) (F : FndL L p z i) {vp : Value} (hp : Node W p (hd0 z) vp) (hC : extC L.length C = C) :
    Calls Try.prog 104 #[ptr x, ptr p] W fun e w' => NodeAns W w' e x vN vC L C p z := by
  obtain ⟨aN, cN, rfl, hnd⟩ := H.form
  obtain ⟨h1, h2, h3, h4⟩ := F
  have hs : (ndAt L i).s = hd0 z := by rw [← h2]; rfl
  have hc0 : W.cell? ⟨x, 0, none⟩ = some (.slice aN L.length cN) := (cell_at H.cell 0).trans rfl
  refine (node_fd (x := x) (N := fun k => (ndAt L k).X) (S := fun k => (ndAt L k).s) W p i hc0 hnd (fun k hk => (H.nds _ (ndAt_mem hk)).node) hn (vp := vp) (by rw [hs]; exact hp) ⟨h1, fun h k hk => by show (ndAt L k).s ≠ (ndAt L i).s; rw [hs]; exact h3 (by rw [← hs]; exact h) k hk, fun h => h4 (by rw [← hs]; exact h)⟩).mono ?_
  rintro e w' ⟨rfl, m, rfl⟩
  have hF : FndL L p z i := ⟨h1, h2, h3, h4⟩
  refine ⟨i, _, vC, [], rfl, by rw [List.append_nil]; exact hF, fun d hd => by simp at hd, ?_, (WK.refl W x _ vC).drewN m, by simp⟩
  rw [List.append_nil, hC]
  exact H.drewN m
theorem Nd.var {W : World} {x : Nat} {vN vC : Value} {d : Nd} (h : NdAt W x vN vC d) (hs : d.s < 0) : d.z = [d.s] := by
  obtain ⟨lo, hi, v, h1, h2, h3, h4, h5, h6, h7, h8, h9, h10, h11⟩ := h
  rw [Wb.room_var hs] at h8
  have : d.zss = [] := List.eq_nil_of_length_eq_zero (by omega)
  unfold Nd.z
  rw [this]
  rfl
theorem extC_of {n : Nat} {C : Nat → Nat} (h : ∀ k, n ≤ k → C k = k) : extC n C = C := by
  funext k
  unfold extC
  by_cases e : k < n
  · rw [if_pos e]
  · rw [if_neg e, h k (by omega)]

/-- One int more, in a region that draws its order. -/
theorem step_append_cls {ops : Array Oper} {o : Oper} {a : Act} {K : Act → World → Prop} {Q : Exit → Act → World → Prop} {E : Prop} (w : World) (hgd : o.guard = none) (s x : Operand)
    (ho : o.op = .call { callee := .builtin .append, args := #[s, x], argTypes := #[36, 36] }) (base n : Nat) (v : Value) (xs : List Int) (hs : a.eval s = v) (hN : w.ownsRow base 3 1 v n (xs.map (Value.int .i64)))
    (B : Nat) (y : Int) (hx : a.eval x = .slice (some ⟨B, 0, none⟩) 1 1) (hB : w.cell? ⟨B, 0, none⟩ = some (.int .i64 y)) (hlen : n ≤ 1000000) (hbase : base ≤ w.heap.size)
    (h : ∀ g c' w', w'.ownsRow base 3 1 (.slice (some ⟨g, 0, none⟩) (n + 1) c') (n + 1) (xs.map (Value.int .i64) ++ [.int .i64 y]) → w.grownBy w' v.ownBlock → (v.ownBlock = some g ∨ g = w.heap.size) → K (a.put o.dst (.slice (some ⟨g, 0, none⟩) (n + 1) c')) w') :
    if Region.wanted o (yielded ops a.tmps) = true then Oper.wp Try.prog o a w K Q else E := by
  obtain ⟨i0, hi, hz0, hz1, hz2⟩ := info_parts Try.info3
  refine step_append_lies w hgd s x 36 ho base 3 i0 (.int .i64 0) 1 8 Try.infoInts hi hz0 hz1 hz2 rfl (by decide) v n (xs.map (Value.int .i64)) hs hN ⟨B, 0, none⟩ 1 1 [.int .i64 y] hx (by simp)
    (by intro j z hj
        match j, hj with
        | 0, hj => simp at hj; subst hj; rw [Go.WideShapes.add_plain]; simpa using hB)
    (by intro u hu; simp at hu; subst hu; rfl) (by decide) (by unfold maxLen; omega) (by omega) hbase w.heap.size rfl ?_
  intro g c' w' hown hg hat _
  exact h g c' w' hown hg hat

set_option maxRecDepth 100000 in
set_option maxHeartbeats 8000000 in
/-- A new one. -/
theorem node_new {W : World} {x : Nat} {vN vC : Value} {L : List Nd} {C : Nat → Nat} (H : TB W x vN vC L L.length C) (d : Nd) (hb5 : L.length + d.z.length ≤ 5000) (hnd : NdAt W x vN vC d) (h1 : d.s < 0 → ∀ k, k < L.length → (ndAt L k).s ≠ d.s) (h2 : ∀ k, k < L.length → (ndAt L k).X ≠ d.X) (hC : extC L.length C = C)
    (ih : ∀ (j : Nat) (W' : World) (vN' vC' : Value) (L' : List Nd), j < d.Xs.length → WK W W' x vN vC vN' vC' → TB W' x vN' vC' L' L'.length C → L.length ≤ L'.length → L'.length + (d.zss[j]?.getD []).length ≤ 5000 →
      Calls Try.prog 104 #[ptr x, ptr (d.Xs[j]?.getD 0)] W' fun e w' => NodeAns W' w' e x vN' vC' L' C (d.Xs[j]?.getD 0) (d.zss[j]?.getD [])) :
    Calls Try.prog 104 #[ptr x, ptr d.X] W fun e w' => NodeAns W w' e x vN vC L C d.X d.z := by
  obtain ⟨aN, cN, rfl, hnds⟩ := H.form
  have hc0 : W.cell? ⟨x, 0, none⟩ = some (.slice aN L.length cN) := (cell_at H.cell 0).trans rfl
  have hone := hid (H.one.snoc h1)
  obtain ⟨ti, hti, htz⟩ := Try.infoTree
  obtain ⟨vd, hNd⟩ := hnd.node
  have hds := hNd.cell0
  have hn5 : L.length ≤ 5000 := by omega
  have hn5' : (L.length : Int) ≤ 5000 := by omega
  have Hnds := hid hnds
  have HH := hid H
  have Hnd := hid hnd
  have HNd := hid hNd
  have H1 := hid h1
  have H2 := hid h2
  have IH := hid ih
  have Hb5 := hid hb5
  clear hnds hnd hNd h1 h2 ih hb5 H
  generalize hsd : d.s = s at *
  have Hsd := hid hsd
  clear hsd
  obtain ⟨i0, hi, hz0, hz1, hz2⟩ := info_parts Try.info161
  by_cases hs : s < 0
  · have H1' := hid (H1.out hs)
    go_enter Try.func104, Try.ntmps104
    go_wp2
    go_loopw [5] (fun i wr => ∃ k : Nat, k ≤ L.length ∧ i = .int .i64 (k : Int) ∧ ∃ e, wr = W.drewN e) (fun i _ => L.length - (intOf i).toNat)
    case atStart => exact ⟨0, Nat.zero_le _, rfl, 0, rfl⟩
    case round =>
      obtain ⟨k, hk, rfl, e, rfl⟩ := hrel
      by_cases hlt : k < L.length
      · have hkn : (k : Int) < (L.length : Int) := by omega
        obtain ⟨b, off, rfl, hck⟩ := Hnds.out k hlt
        obtain ⟨vk, hNk⟩ := (HH.out.nds _ (ndAt_mem hlt)).node
        have hsk := hNk.cell0
        have hne : ((ndAt L k).s == s) = false := by simpa using H1'.out k hlt
        clear hNk
        generalize (ndAt L k).s = sk at *
        generalize (ndAt L k).X = qk at *
        go_wp2
        go_quiet (fail)
        go_wp2
        go_roundw
        case rel => exact ⟨k + 1, by omega, by go_num, _, rfl⟩
        case measure => simp [intOf]; omega
      · obtain rfl : k = L.length := by omega
        go_wp2
        go_loopw [6] (fun i wr => ∃ k : Nat, k ≤ L.length ∧ i = .int .i64 (k : Int) ∧ ∃ e, wr = W.drewN e) (fun i _ => L.length - (intOf i).toNat)
        case atStart => exact ⟨0, Nat.zero_le _, rfl, _, rfl⟩
        case round =>
          obtain ⟨k, hk, rfl, e, rfl⟩ := hrel
          by_cases hlt : k < L.length
          · have hkn : (k : Int) < (L.length : Int) := by omega
            obtain ⟨b, off, rfl, hck⟩ := Hnds.out k hlt
            obtain ⟨vk, hNk⟩ := (HH.out.nds _ (ndAt_mem hlt)).node
            have hrun := run_eql_ptr_other (P := Try.prog) (W.drewN e) (a := ⟨(ndAt L k).X, 0, none⟩) (b := ⟨d.X, 0, none⟩) Try.underlying161 hti htz (fun e => H2.out k hlt (congrArg Addr.block e)) hNk HNd.out
            clear hNk
            generalize (ndAt L k).X = qk at *
            go_wp2
            go_roundw
            case rel => exact ⟨k + 1, by omega, by go_num, _, rfl⟩
            case measure => simp [intOf]; omega
          · obtain rfl : k = L.length := by omega
            go_wp2_with (first
              | (at_builtin; go_loud (refine wpList_append_lies _ rfl _ _ 157 rfl (x + 1) 161 i0 (.pointer none) 1 8 Try.underlying157 hi hz0 hz1 hz2 rfl (by decide) _ L.length (L.map fun d => ptr d.X) rfl (World.ownsRow.alloc (show (W.drewN e).ownsRow _ _ _ _ _ _ from HH.out.rowN) _) ⟨W.heap.size, 0, none⟩ 1 1 [ptr d.X] rfl rfl (cell_one_new _ _ _) (by simp [Value.oneCell', ptr]) (by decide) (by unfold maxLen; omega) (by omega) (by have := HH.out.lt; simp; omega) (W.heap.size + 1) (by simp) ?_); intro g cap w2 hown hgrow hat hlt2; have hgr := grown_pre (W := W) (V := W.drewN e) rfl rfl rfl rfl hgrow; have R := HH.out.addN hgr hown (by rcases hat with e | e; exact .inl e; exact .inr (by omega)) d rfl Hnd.out hone.out; have hcx0 := (cell_at R.2.2 0).trans rfl; have hfx0 : w2.frozen? ⟨x, 0, none⟩ = false := (by simp [World.frozen?, R.2.2]); have HR := hid R; clear R hown hgrow hat hgr hlt2))
            obtain ⟨W3, hW3⟩ : ∃ W3, w2.setCell ⟨x, 0, none⟩ (Value.slice (some ⟨g, 0, none⟩) (L.length + 1) cap) = W3 := ⟨_, rfl⟩
            rw [hW3]
            have hT3 : Hid (TB W3 x (.slice (some ⟨g, 0, none⟩) (L.length + 1) cap) vC (L ++ [d]) L.length C) := by rw [← hW3]; exact HR.out.1
            have hK3 : Hid (WK W W3 x (.slice aN L.length cN) vC (.slice (some ⟨g, 0, none⟩) (L.length + 1) cap) vC) := by rw [← hW3]; exact HR.out.2.1
            clear hW3 HR hcx0 hfx0
            obtain ⟨aC, cC, e1, _, _⟩ := New.ints hT3.out.rowC
            rw [Mt.clL_length] at e1
            subst e1
            have hx0 : W3.cell? ⟨x, 0, none⟩ = some (.slice (some ⟨g, 0, none⟩) (L.length + 1) cap) := (cell_at hT3.out.cell 0).trans rfl
            have hx1 : W3.cell? ⟨x, 1, none⟩ = some (.slice aC L.length cC) := (cell_at hT3.out.cell 1).trans rfl
            have hxlt := hT3.out.lt
            obtain ⟨j0, hj, hj0, hj1, hj2⟩ := info_parts Try.info3
            have hrC : Hid (∀ (V : World) (o : Obj), V.heap = (W3.alloc o).heap → V.ownsRow (x + 1) 3 1 (.slice aC L.length cC) L.length ((Mt.clL L.length C).map (Value.int .i64))) := fun V o hV => by
              have h := hT3.out.rowC
              unfold New at h
              rw [Mt.clL_length] at h
              exact ownsRow_keep (World.ownsRow.alloc h o) fun q _ => by rw [hV]
            have hnewc : Hid (∀ V : World, V.heap = (W3.alloc (.cells #[.int .i64 (L.length : Int)] 3)).heap → V.cell? ⟨W3.heap.size, 0, none⟩ = some (.int .i64 (L.length : Int))) := fun V hV => (cell_heap hV _).trans ((cell_at (World.alloc_heap_new W3 _) 0).trans rfl)
            have hat6 : Hid (∀ (V : World) (g : Nat), V.heap = (W3.alloc (.cells #[.int .i64 (L.length : Int)] 3)).heap → ((Value.slice aC L.length cC).ownBlock = some g ∨ g = V.heap.size) → ((Value.slice aC L.length cC).ownBlock = some g ∨ W3.heap.size ≤ g)) := fun V g hV h => by
              rcases h with e | e
              · exact .inl e
              · exact .inr (by rw [e, hV]; simp)
            go_region_law ((refine step_append_cls _ (by rfl) _ _ (by rfl) (x + 1) L.length (.slice aC L.length cC) (Mt.clL L.length C) (by rfl) (hrC.out _ _ (by rfl)) W3.heap.size (L.length : Int) (by rfl) (hnewc.out _ (by rfl)) (by omega) (by simp; omega) ?_; intro g5 cap5 w5 hown5 hgrow5 hat5; have hgr5 := grown_pre2 (W := W3) (tmp := .cells #[.int .i64 (L.length : Int)] 3) (by rfl) (by rfl) (by rfl) (by rfl) hgrow5; have R5 := hT3.out.addC hgr5 hown5 (hat6.out _ _ (by rfl) hat5); have hS5 : w5.cell? ⟨x, 1, none⟩ = some (.slice aC L.length cC) := (cell_at R5.2.2 1).trans (by rfl); have hf5 : w5.frozen? ⟨x, 1, none⟩ = false := (by simp [World.frozen?, R5.2.2]); have HR5 := hid R5; clear R5 hown5 hgrow5 hat5 hgr5))
            all_goals (
              obtain ⟨W5, hW5⟩ : ∃ W5, w5.setCell ⟨x, 1, none⟩ (Value.slice (some ⟨g5, 0, none⟩) (L.length + 1) cap5) = W5 := ⟨_, rfl⟩
              rw [hW5]
              have hT5 : Hid (TB W5 x (.slice (some ⟨g, 0, none⟩) (L.length + 1) cap) (.slice (some ⟨g5, 0, none⟩) (L.length + 1) cap5) (L ++ [d]) (L.length + 1) C) := by rw [← hW5]; have h := HR5.out.1; rw [hC] at h; exact h
              have hK5 : Hid (WK W W5 x (.slice aN L.length cN) (.slice aC L.length cC) (.slice (some ⟨g, 0, none⟩) (L.length + 1) cap) (.slice (some ⟨g5, 0, none⟩) (L.length + 1) cap5)) := by rw [← hW5]; exact hK3.out.trans HR5.out.2.1
              have hx5 : W5.cell? ⟨x, 0, none⟩ = some (.slice (some ⟨g, 0, none⟩) (L.length + 1) cap) := (cell_at hT5.out.cell 0).trans rfl
              clear hW5 HR5 hS5 hf5 hT3 hK3 hx0 hx1 hrC hnewc hat6 hxlt
              go_wp2
              go_loopw [8] (fun i wr => ∃ (k : Nat) (M : List Nd) (vN' vC' : Value), k ≤ d.Xs.length ∧ i = .int .i64 (k : Int) ∧ Hid (TB wr x vN' vC' (L ++ [d] ++ M) (L ++ [d] ++ M).length C) ∧ Hid (WK W wr x (.slice aN L.length cN) (.slice aC L.length cC) vN' vC') ∧ Hid (∀ d' ∈ M, FullL (L ++ [d] ++ M) d') ∧ Hid (∀ j, j < k → ∃ i, FndL (L ++ [d] ++ M) (d.Xs[j]?.getD 0) (d.zss[j]?.getD []) i) ∧ Hid (M.length ≤ (d.zss.take k).flatten.length)) (fun i _ => d.Xs.length - (intOf i).toNat)
              case atStart => exact ⟨0, [], _, _, Nat.zero_le _, rfl, by rw [List.append_nil, List.length_append, List.length_singleton]; exact hT5, hK5, (fun d' h => by simp at h), (fun j hj => by omega), by simp [Hid]⟩
              case round =>
                obtain ⟨k, M, vN', vC', hk, rfl, hTk, hWk, hFk, hPk, hMk⟩ := hrel
                obtain ⟨lo2, hi2, v2, _, _, _, _, _, hN2, hP2, hl2, hz2', _, _⟩ := hTk.out.nds d (by simp)
                obtain ⟨a2, c2, rfl, hc2⟩ := hP2
                have hp1 := hN2.cell1
                have Hl2 := hid hl2
                have Hz2 := hid hz2'
                have Hc2 := hid hc2
                have hr2 := Tm.room_le d.s
                clear hN2 hl2 hz2' hc2
                by_cases hlt : k < d.Xs.length
                · have hkl : (k : Int) < (d.Xs.length : Int) := by omega
                  obtain ⟨b2, o2, rfl, _, _, hcell⟩ := Hc2.out k hlt
                  have hfl := flatten_le (zss := d.zss) (k := k) (by have := Hz2.out; omega)
                  have hbound : (L ++ [d] ++ M).length + (d.zss[k]?.getD []).length ≤ 5000 := by
                    have h1 := Hb5.out
                    have h2 := hMk.out
                    have h3 : d.z.length = 1 + d.zss.flatten.length := by unfold Nd.z; rw [List.length_cons]; omega
                    rw [List.length_append, List.length_append, List.length_singleton]
                    omega
                  have hcall := hid (IH.out k wr vN' vC' (L ++ [d] ++ M) hlt hWk.out hTk.out (by rw [List.length_append, List.length_append]; omega) hbound)
                  have hsn := hid (flatten_snoc (zss := d.zss) (k := k) (by have := Hz2.out; omega))
                  have hdl : (d.Xs.length : Int) ≤ 2 := by have := Hl2.out; omega
                  clear hbound hfl
                  obtain ⟨pkk, hpkk⟩ : ∃ pkk, d.Xs[k]?.getD 0 = pkk := ⟨_, rfl⟩
                  rw [hpkk] at hcell hcall
                  have Hpkk := hid hpkk
                  clear hpkk
                  go_wp2_with (go_at_call 104; refine hcall.out.mono ?_; clear hcall; rintro e6 w6 ⟨i6, vN6, vC6, M6, rfl, hF6, hA6, hT6, hW6, hM6⟩)
                  go_roundw
                  case rel =>
                    have eL : L ++ [d] ++ M ++ M6 = L ++ [d] ++ (M ++ M6) := List.append_assoc _ _ _
                    refine ⟨k + 1, M ++ M6, vN6, vC6, by omega, by go_num, ?_, hWk.out.trans hW6, ?_, ?_, ?_⟩
                    · have h := hT6
                      rw [extC_of (n := (L ++ [d] ++ M).length) (C := C) (fun q hq => by rw [← hC]; unfold extC; rw [if_neg (by rw [List.length_append, List.length_append] at hq; omega)]), eL] at h
                      exact h
                    · intro d' hd'
                      rw [← eL]
                      rcases List.mem_append.1 hd' with h | h
                      · exact (hFk.out d' h).app M6
                      · exact hA6 d' h
                    · intro j hj
                      rw [← eL]
                      by_cases e : j = k
                      · subst e; exact ⟨i6, by rw [Hpkk.out]; exact hF6⟩
                      · obtain ⟨i, hi⟩ := hPk.out j (by omega)
                        exact ⟨i, hi.app M6⟩
                    · show (M ++ M6).length ≤ _
                      rw [hsn.out, List.length_append, List.length_append]
                      have := hMk.out
                      omega
                  case measure => simp [intOf]; omega
                · obtain rfl : k = d.Xs.length := by omega
                  have hdl : (d.Xs.length : Int) ≤ 2 := by have := Hl2.out; omega
                  go_wp2
                  go_ret
                  have eL : L ++ [d] ++ M = L ++ ([d] ++ M) := List.append_assoc _ _ _
                  refine ⟨L.length, vN', vC', [d] ++ M, by first | rfl | go_num, ?_, ?_, ?_, hWk.out, ?_⟩
                  · rw [← eL]
                    have hat : ndAt (L ++ [d] ++ M) L.length = d := by rw [ndAt_app _ (by simp), ndAt_last]
                    refine ⟨by simp, by rw [hat], fun h q hq => ?_, fun h => ⟨by rw [hat], fun q hq => ?_⟩⟩
                    · rw [List.append_assoc, ndAt_app _ hq]
                      have e2 : hd0 d.z = s := (Nd.hd d).trans Hsd.out
                      rw [e2] at h ⊢
                      exact H1.out h q hq
                    · rw [List.append_assoc, ndAt_app _ hq]
                      exact H2.out q hq
                  · intro d' hd'
                    rw [← eL]
                    rcases List.mem_append.1 hd' with h | h
                    · rw [List.mem_singleton] at h
                      subst h
                      exact fun j hj => hPk.out j hj
                    · exact hFk.out d' h
                  · rw [← eL, hC]
                    exact hTk.out
                  · rw [List.length_append, List.length_singleton]
                    have h2 := hMk.out
                    have h4 := flatten_take_le (zss := d.zss) d.Xs.length
                    unfold Nd.z
                    rw [List.length_cons]
                    omega)
  · have hs0 : decide (s < 0) = false := by simpa using hs
    clear hs
    by_cases h0 : 0 < L.length
    · have h0n : (0 : Int) < (L.length : Int) := by omega
      go_enter Try.func104, Try.ntmps104
      go_wp2
      refine wp_loop_rounds 1 ?_
      rw [rounds_succ]
      go_wp2
      go_loopw [6] (fun i wr => ∃ k : Nat, k ≤ L.length ∧ i = .int .i64 (k : Int) ∧ ∃ e, wr = W.drewN e) (fun i _ => L.length - (intOf i).toNat)
      case atStart => exact ⟨0, Nat.zero_le _, rfl, 0, rfl⟩
      case round =>
        obtain ⟨k, hk, rfl, e, rfl⟩ := hrel
        by_cases hlt : k < L.length
        · have hkn : (k : Int) < (L.length : Int) := by omega
          obtain ⟨b, off, rfl, hck⟩ := Hnds.out k hlt
          obtain ⟨vk, hNk⟩ := (HH.out.nds _ (ndAt_mem hlt)).node
          have hrun := run_eql_ptr_other (P := Try.prog) (W.drewN e) (a := ⟨(ndAt L k).X, 0, none⟩) (b := ⟨d.X, 0, none⟩) Try.underlying161 hti htz (fun e => H2.out k hlt (congrArg Addr.block e)) hNk HNd.out
          clear hNk
          generalize (ndAt L k).X = qk at *
          go_wp2
          go_roundw
          case rel => exact ⟨k + 1, by omega, by go_num, _, rfl⟩
          case measure => simp [intOf]; omega
        · obtain rfl : k = L.length := by omega
          go_wp2_with (first
            | (at_builtin; go_loud (refine wpList_append_lies _ rfl _ _ 157 rfl (x + 1) 161 i0 (.pointer none) 1 8 Try.underlying157 hi hz0 hz1 hz2 rfl (by decide) _ L.length (L.map fun d => ptr d.X) rfl (World.ownsRow.alloc (show (W.drewN e).ownsRow _ _ _ _ _ _ from HH.out.rowN) _) ⟨W.heap.size, 0, none⟩ 1 1 [ptr d.X] rfl rfl (cell_one_new _ _ _) (by simp [Value.oneCell', ptr]) (by decide) (by unfold maxLen; omega) (by omega) (by have := HH.out.lt; simp; omega) (W.heap.size + 1) (by simp) ?_); intro g cap w2 hown hgrow hat hlt2; have hgr := grown_pre (W := W) (V := W.drewN e) rfl rfl rfl rfl hgrow; have R := HH.out.addN hgr hown (by rcases hat with e | e; exact .inl e; exact .inr (by omega)) d rfl Hnd.out hone.out; have hcx0 := (cell_at R.2.2 0).trans rfl; have hfx0 : w2.frozen? ⟨x, 0, none⟩ = false := (by simp [World.frozen?, R.2.2]); have HR := hid R; clear R hown hgrow hat hgr hlt2))
          obtain ⟨W3, hW3⟩ : ∃ W3, w2.setCell ⟨x, 0, none⟩ (Value.slice (some ⟨g, 0, none⟩) (L.length + 1) cap) = W3 := ⟨_, rfl⟩
          rw [hW3]
          have hT3 : Hid (TB W3 x (.slice (some ⟨g, 0, none⟩) (L.length + 1) cap) vC (L ++ [d]) L.length C) := by rw [← hW3]; exact HR.out.1
          have hK3 : Hid (WK W W3 x (.slice aN L.length cN) vC (.slice (some ⟨g, 0, none⟩) (L.length + 1) cap) vC) := by rw [← hW3]; exact HR.out.2.1
          clear hW3 HR hcx0 hfx0
          obtain ⟨aC, cC, e1, _, _⟩ := New.ints hT3.out.rowC
          rw [Mt.clL_length] at e1
          subst e1
          have hx0 : W3.cell? ⟨x, 0, none⟩ = some (.slice (some ⟨g, 0, none⟩) (L.length + 1) cap) := (cell_at hT3.out.cell 0).trans rfl
          have hx1 : W3.cell? ⟨x, 1, none⟩ = some (.slice aC L.length cC) := (cell_at hT3.out.cell 1).trans rfl
          have hxlt := hT3.out.lt
          obtain ⟨j0, hj, hj0, hj1, hj2⟩ := info_parts Try.info3
          have hrC : Hid (∀ (V : World) (o : Obj), V.heap = (W3.alloc o).heap → V.ownsRow (x + 1) 3 1 (.slice aC L.length cC) L.length ((Mt.clL L.length C).map (Value.int .i64))) := fun V o hV => by
            have h := hT3.out.rowC
            unfold New at h
            rw [Mt.clL_length] at h
            exact ownsRow_keep (World.ownsRow.alloc h o) fun q _ => by rw [hV]
          have hnewc : Hid (∀ V : World, V.heap = (W3.alloc (.cells #[.int .i64 (L.length : Int)] 3)).heap → V.cell? ⟨W3.heap.size, 0, none⟩ = some (.int .i64 (L.length : Int))) := fun V hV => (cell_heap hV _).trans ((cell_at (World.alloc_heap_new W3 _) 0).trans rfl)
          have hat6 : Hid (∀ (V : World) (g : Nat), V.heap = (W3.alloc (.cells #[.int .i64 (L.length : Int)] 3)).heap → ((Value.slice aC L.length cC).ownBlock = some g ∨ g = V.heap.size) → ((Value.slice aC L.length cC).ownBlock = some g ∨ W3.heap.size ≤ g)) := fun V g hV h => by
            rcases h with e | e
            · exact .inl e
            · exact .inr (by rw [e, hV]; simp)
          go_region_law ((refine step_append_cls _ (by rfl) _ _ (by rfl) (x + 1) L.length (.slice aC L.length cC) (Mt.clL L.length C) (by rfl) (hrC.out _ _ (by rfl)) W3.heap.size (L.length : Int) (by rfl) (hnewc.out _ (by rfl)) (by omega) (by simp; omega) ?_; intro g5 cap5 w5 hown5 hgrow5 hat5; have hgr5 := grown_pre2 (W := W3) (tmp := .cells #[.int .i64 (L.length : Int)] 3) (by rfl) (by rfl) (by rfl) (by rfl) hgrow5; have R5 := hT3.out.addC hgr5 hown5 (hat6.out _ _ (by rfl) hat5); have hS5 : w5.cell? ⟨x, 1, none⟩ = some (.slice aC L.length cC) := (cell_at R5.2.2 1).trans (by rfl); have hf5 : w5.frozen? ⟨x, 1, none⟩ = false := (by simp [World.frozen?, R5.2.2]); have HR5 := hid R5; clear R5 hown5 hgrow5 hat5 hgr5))
          all_goals (
            obtain ⟨W5, hW5⟩ : ∃ W5, w5.setCell ⟨x, 1, none⟩ (Value.slice (some ⟨g5, 0, none⟩) (L.length + 1) cap5) = W5 := ⟨_, rfl⟩
            rw [hW5]
            have hT5 : Hid (TB W5 x (.slice (some ⟨g, 0, none⟩) (L.length + 1) cap) (.slice (some ⟨g5, 0, none⟩) (L.length + 1) cap5) (L ++ [d]) (L.length + 1) C) := by rw [← hW5]; have h := HR5.out.1; rw [hC] at h; exact h
            have hK5 : Hid (WK W W5 x (.slice aN L.length cN) (.slice aC L.length cC) (.slice (some ⟨g, 0, none⟩) (L.length + 1) cap) (.slice (some ⟨g5, 0, none⟩) (L.length + 1) cap5)) := by rw [← hW5]; exact hK3.out.trans HR5.out.2.1
            have hx5 : W5.cell? ⟨x, 0, none⟩ = some (.slice (some ⟨g, 0, none⟩) (L.length + 1) cap) := (cell_at hT5.out.cell 0).trans rfl
            clear hW5 HR5 hS5 hf5 hT3 hK3 hx0 hx1 hrC hnewc hat6 hxlt
            go_wp2
            go_loopw [8] (fun i wr => ∃ (k : Nat) (M : List Nd) (vN' vC' : Value), k ≤ d.Xs.length ∧ i = .int .i64 (k : Int) ∧ Hid (TB wr x vN' vC' (L ++ [d] ++ M) (L ++ [d] ++ M).length C) ∧ Hid (WK W wr x (.slice aN L.length cN) (.slice aC L.length cC) vN' vC') ∧ Hid (∀ d' ∈ M, FullL (L ++ [d] ++ M) d') ∧ Hid (∀ j, j < k → ∃ i, FndL (L ++ [d] ++ M) (d.Xs[j]?.getD 0) (d.zss[j]?.getD []) i) ∧ Hid (M.length ≤ (d.zss.take k).flatten.length)) (fun i _ => d.Xs.length - (intOf i).toNat)
            case atStart => exact ⟨0, [], _, _, Nat.zero_le _, rfl, by rw [List.append_nil, List.length_append, List.length_singleton]; exact hT5, hK5, (fun d' h => by simp at h), (fun j hj => by omega), by simp [Hid]⟩
            case round =>
              obtain ⟨k, M, vN', vC', hk, rfl, hTk, hWk, hFk, hPk, hMk⟩ := hrel
              obtain ⟨lo2, hi2, v2, _, _, _, _, _, hN2, hP2, hl2, hz2', _, _⟩ := hTk.out.nds d (by simp)
              obtain ⟨a2, c2, rfl, hc2⟩ := hP2
              have hp1 := hN2.cell1
              have Hl2 := hid hl2
              have Hz2 := hid hz2'
              have Hc2 := hid hc2
              have hr2 := Tm.room_le d.s
              clear hN2 hl2 hz2' hc2
              by_cases hlt : k < d.Xs.length
              · have hkl : (k : Int) < (d.Xs.length : Int) := by omega
                obtain ⟨b2, o2, rfl, _, _, hcell⟩ := Hc2.out k hlt
                have hfl := flatten_le (zss := d.zss) (k := k) (by have := Hz2.out; omega)
                have hbound : (L ++ [d] ++ M).length + (d.zss[k]?.getD []).length ≤ 5000 := by
                  have h1 := Hb5.out
                  have h2 := hMk.out
                  have h3 : d.z.length = 1 + d.zss.flatten.length := by unfold Nd.z; rw [List.length_cons]; omega
                  rw [List.length_append, List.length_append, List.length_singleton]
                  omega
                have hcall := hid (IH.out k wr vN' vC' (L ++ [d] ++ M) hlt hWk.out hTk.out (by rw [List.length_append, List.length_append]; omega) hbound)
                have hsn := hid (flatten_snoc (zss := d.zss) (k := k) (by have := Hz2.out; omega))
                have hdl : (d.Xs.length : Int) ≤ 2 := by have := Hl2.out; omega
                clear hbound hfl
                obtain ⟨pkk, hpkk⟩ : ∃ pkk, d.Xs[k]?.getD 0 = pkk := ⟨_, rfl⟩
                rw [hpkk] at hcell hcall
                have Hpkk := hid hpkk
                clear hpkk
                go_wp2_with (go_at_call 104; refine hcall.out.mono ?_; clear hcall; rintro e6 w6 ⟨i6, vN6, vC6, M6, rfl, hF6, hA6, hT6, hW6, hM6⟩)
                go_roundw
                case rel =>
                  have eL : L ++ [d] ++ M ++ M6 = L ++ [d] ++ (M ++ M6) := List.append_assoc _ _ _
                  refine ⟨k + 1, M ++ M6, vN6, vC6, by omega, by go_num, ?_, hWk.out.trans hW6, ?_, ?_, ?_⟩
                  · have h := hT6
                    rw [extC_of (n := (L ++ [d] ++ M).length) (C := C) (fun q hq => by rw [← hC]; unfold extC; rw [if_neg (by rw [List.length_append, List.length_append] at hq; omega)]), eL] at h
                    exact h
                  · intro d' hd'
                    rw [← eL]
                    rcases List.mem_append.1 hd' with h | h
                    · exact (hFk.out d' h).app M6
                    · exact hA6 d' h
                  · intro j hj
                    rw [← eL]
                    by_cases e : j = k
                    · subst e; exact ⟨i6, by rw [Hpkk.out]; exact hF6⟩
                    · obtain ⟨i, hi⟩ := hPk.out j (by omega)
                      exact ⟨i, hi.app M6⟩
                  · show (M ++ M6).length ≤ _
                    rw [hsn.out, List.length_append, List.length_append]
                    have := hMk.out
                    omega
                case measure => simp [intOf]; omega
              · obtain rfl : k = d.Xs.length := by omega
                have hdl : (d.Xs.length : Int) ≤ 2 := by have := Hl2.out; omega
                go_wp2
                go_ret
                have eL : L ++ [d] ++ M = L ++ ([d] ++ M) := List.append_assoc _ _ _
                refine ⟨L.length, vN', vC', [d] ++ M, by first | rfl | go_num, ?_, ?_, ?_, hWk.out, ?_⟩
                · rw [← eL]
                  have hat : ndAt (L ++ [d] ++ M) L.length = d := by rw [ndAt_app _ (by simp), ndAt_last]
                  refine ⟨by simp, by rw [hat], fun h q hq => ?_, fun h => ⟨by rw [hat], fun q hq => ?_⟩⟩
                  · rw [List.append_assoc, ndAt_app _ hq]
                    have e2 : hd0 d.z = s := (Nd.hd d).trans Hsd.out
                    rw [e2] at h ⊢
                    exact H1.out h q hq
                  · rw [List.append_assoc, ndAt_app _ hq]
                    exact H2.out q hq
                · intro d' hd'
                  rw [← eL]
                  rcases List.mem_append.1 hd' with h | h
                  · rw [List.mem_singleton] at h
                    subst h
                    exact fun j hj => hPk.out j hj
                  · exact hFk.out d' h
                · rw [← eL, hC]
                  exact hTk.out
                · rw [List.length_append, List.length_singleton]
                  have h2 := hMk.out
                  have h4 := flatten_take_le (zss := d.zss) d.Xs.length
                  unfold Nd.z
                  rw [List.length_cons]
                  omega)
    · have h0n : decide ((0 : Int) < (L.length : Int)) = false := by have hL0 : L.length = 0 := (by omega); rw [hL0]; rfl
      have h0m : decide (0 < L.length) = false := by simpa using h0
      go_enter Try.func104, Try.ntmps104
      go_wp2
      refine wp_loop_rounds 1 ?_
      rw [rounds_succ]
      go_wp2
      go_loopw [6] (fun i wr => ∃ k : Nat, k ≤ L.length ∧ i = .int .i64 (k : Int) ∧ ∃ e, wr = W.drewN e) (fun i _ => L.length - (intOf i).toNat)
      case atStart => exact ⟨0, Nat.zero_le _, rfl, 0, rfl⟩
      case round =>
        obtain ⟨k, hk, rfl, e, rfl⟩ := hrel
        by_cases hlt : k < L.length
        · exact absurd hlt (by omega)
        · obtain rfl : k = L.length := by omega
          go_wp2_with (first
            | (at_builtin; go_loud (refine wpList_append_lies _ rfl _ _ 157 rfl (x + 1) 161 i0 (.pointer none) 1 8 Try.underlying157 hi hz0 hz1 hz2 rfl (by decide) _ L.length (L.map fun d => ptr d.X) rfl (World.ownsRow.alloc (show (W.drewN e).ownsRow _ _ _ _ _ _ from HH.out.rowN) _) ⟨W.heap.size, 0, none⟩ 1 1 [ptr d.X] rfl rfl (cell_one_new _ _ _) (by simp [Value.oneCell', ptr]) (by decide) (by unfold maxLen; omega) (by omega) (by have := HH.out.lt; simp; omega) (W.heap.size + 1) (by simp) ?_); intro g cap w2 hown hgrow hat hlt2; have hgr := grown_pre (W := W) (V := W.drewN e) rfl rfl rfl rfl hgrow; have R := HH.out.addN hgr hown (by rcases hat with e | e; exact .inl e; exact .inr (by omega)) d rfl Hnd.out hone.out; have hcx0 := (cell_at R.2.2 0).trans rfl; have hfx0 : w2.frozen? ⟨x, 0, none⟩ = false := (by simp [World.frozen?, R.2.2]); have HR := hid R; clear R hown hgrow hat hgr hlt2))
          obtain ⟨W3, hW3⟩ : ∃ W3, w2.setCell ⟨x, 0, none⟩ (Value.slice (some ⟨g, 0, none⟩) (L.length + 1) cap) = W3 := ⟨_, rfl⟩
          rw [hW3]
          have hT3 : Hid (TB W3 x (.slice (some ⟨g, 0, none⟩) (L.length + 1) cap) vC (L ++ [d]) L.length C) := by rw [← hW3]; exact HR.out.1
          have hK3 : Hid (WK W W3 x (.slice aN L.length cN) vC (.slice (some ⟨g, 0, none⟩) (L.length + 1) cap) vC) := by rw [← hW3]; exact HR.out.2.1
          clear hW3 HR hcx0 hfx0
          obtain ⟨aC, cC, e1, _, _⟩ := New.ints hT3.out.rowC
          rw [Mt.clL_length] at e1
          subst e1
          have hx0 : W3.cell? ⟨x, 0, none⟩ = some (.slice (some ⟨g, 0, none⟩) (L.length + 1) cap) := (cell_at hT3.out.cell 0).trans rfl
          have hx1 : W3.cell? ⟨x, 1, none⟩ = some (.slice aC L.length cC) := (cell_at hT3.out.cell 1).trans rfl
          have hxlt := hT3.out.lt
          obtain ⟨j0, hj, hj0, hj1, hj2⟩ := info_parts Try.info3
          have hrC : Hid (∀ (V : World) (o : Obj), V.heap = (W3.alloc o).heap → V.ownsRow (x + 1) 3 1 (.slice aC L.length cC) L.length ((Mt.clL L.length C).map (Value.int .i64))) := fun V o hV => by
            have h := hT3.out.rowC
            unfold New at h
            rw [Mt.clL_length] at h
            exact ownsRow_keep (World.ownsRow.alloc h o) fun q _ => by rw [hV]
          have hnewc : Hid (∀ V : World, V.heap = (W3.alloc (.cells #[.int .i64 (L.length : Int)] 3)).heap → V.cell? ⟨W3.heap.size, 0, none⟩ = some (.int .i64 (L.length : Int))) := fun V hV => (cell_heap hV _).trans ((cell_at (World.alloc_heap_new W3 _) 0).trans rfl)
          have hat6 : Hid (∀ (V : World) (g : Nat), V.heap = (W3.alloc (.cells #[.int .i64 (L.length : Int)] 3)).heap → ((Value.slice aC L.length cC).ownBlock = some g ∨ g = V.heap.size) → ((Value.slice aC L.length cC).ownBlock = some g ∨ W3.heap.size ≤ g)) := fun V g hV h => by
            rcases h with e | e
            · exact .inl e
            · exact .inr (by rw [e, hV]; simp)
          go_region_law ((refine step_append_cls _ (by rfl) _ _ (by rfl) (x + 1) L.length (.slice aC L.length cC) (Mt.clL L.length C) (by rfl) (hrC.out _ _ (by rfl)) W3.heap.size (L.length : Int) (by rfl) (hnewc.out _ (by rfl)) (by omega) (by simp; omega) ?_; intro g5 cap5 w5 hown5 hgrow5 hat5; have hgr5 := grown_pre2 (W := W3) (tmp := .cells #[.int .i64 (L.length : Int)] 3) (by rfl) (by rfl) (by rfl) (by rfl) hgrow5; have R5 := hT3.out.addC hgr5 hown5 (hat6.out _ _ (by rfl) hat5); have hS5 : w5.cell? ⟨x, 1, none⟩ = some (.slice aC L.length cC) := (cell_at R5.2.2 1).trans (by rfl); have hf5 : w5.frozen? ⟨x, 1, none⟩ = false := (by simp [World.frozen?, R5.2.2]); have HR5 := hid R5; clear R5 hown5 hgrow5 hat5 hgr5))
          all_goals (
            obtain ⟨W5, hW5⟩ : ∃ W5, w5.setCell ⟨x, 1, none⟩ (Value.slice (some ⟨g5, 0, none⟩) (L.length + 1) cap5) = W5 := ⟨_, rfl⟩
            rw [hW5]
            have hT5 : Hid (TB W5 x (.slice (some ⟨g, 0, none⟩) (L.length + 1) cap) (.slice (some ⟨g5, 0, none⟩) (L.length + 1) cap5) (L ++ [d]) (L.length + 1) C) := by rw [← hW5]; have h := HR5.out.1; rw [hC] at h; exact h
            have hK5 : Hid (WK W W5 x (.slice aN L.length cN) (.slice aC L.length cC) (.slice (some ⟨g, 0, none⟩) (L.length + 1) cap) (.slice (some ⟨g5, 0, none⟩) (L.length + 1) cap5)) := by rw [← hW5]; exact hK3.out.trans HR5.out.2.1
            have hx5 : W5.cell? ⟨x, 0, none⟩ = some (.slice (some ⟨g, 0, none⟩) (L.length + 1) cap) := (cell_at hT5.out.cell 0).trans rfl
            clear hW5 HR5 hS5 hf5 hT3 hK3 hx0 hx1 hrC hnewc hat6 hxlt
            go_wp2
            go_loopw [8] (fun i wr => ∃ (k : Nat) (M : List Nd) (vN' vC' : Value), k ≤ d.Xs.length ∧ i = .int .i64 (k : Int) ∧ Hid (TB wr x vN' vC' (L ++ [d] ++ M) (L ++ [d] ++ M).length C) ∧ Hid (WK W wr x (.slice aN L.length cN) (.slice aC L.length cC) vN' vC') ∧ Hid (∀ d' ∈ M, FullL (L ++ [d] ++ M) d') ∧ Hid (∀ j, j < k → ∃ i, FndL (L ++ [d] ++ M) (d.Xs[j]?.getD 0) (d.zss[j]?.getD []) i) ∧ Hid (M.length ≤ (d.zss.take k).flatten.length)) (fun i _ => d.Xs.length - (intOf i).toNat)
            case atStart => exact ⟨0, [], _, _, Nat.zero_le _, rfl, by rw [List.append_nil, List.length_append, List.length_singleton]; exact hT5, hK5, (fun d' h => by simp at h), (fun j hj => by omega), by simp [Hid]⟩
            case round =>
              obtain ⟨k, M, vN', vC', hk, rfl, hTk, hWk, hFk, hPk, hMk⟩ := hrel
              obtain ⟨lo2, hi2, v2, _, _, _, _, _, hN2, hP2, hl2, hz2', _, _⟩ := hTk.out.nds d (by simp)
              obtain ⟨a2, c2, rfl, hc2⟩ := hP2
              have hp1 := hN2.cell1
              have Hl2 := hid hl2
              have Hz2 := hid hz2'
              have Hc2 := hid hc2
              have hr2 := Tm.room_le d.s
              clear hN2 hl2 hz2' hc2
              by_cases hlt : k < d.Xs.length
              · have hkl : (k : Int) < (d.Xs.length : Int) := by omega
                obtain ⟨b2, o2, rfl, _, _, hcell⟩ := Hc2.out k hlt
                have hfl := flatten_le (zss := d.zss) (k := k) (by have := Hz2.out; omega)
                have hbound : (L ++ [d] ++ M).length + (d.zss[k]?.getD []).length ≤ 5000 := by
                  have h1 := Hb5.out
                  have h2 := hMk.out
                  have h3 : d.z.length = 1 + d.zss.flatten.length := by unfold Nd.z; rw [List.length_cons]; omega
                  rw [List.length_append, List.length_append, List.length_singleton]
                  omega
                have hcall := hid (IH.out k wr vN' vC' (L ++ [d] ++ M) hlt hWk.out hTk.out (by rw [List.length_append, List.length_append]; omega) hbound)
                have hsn := hid (flatten_snoc (zss := d.zss) (k := k) (by have := Hz2.out; omega))
                have hdl : (d.Xs.length : Int) ≤ 2 := by have := Hl2.out; omega
                clear hbound hfl
                obtain ⟨pkk, hpkk⟩ : ∃ pkk, d.Xs[k]?.getD 0 = pkk := ⟨_, rfl⟩
                rw [hpkk] at hcell hcall
                have Hpkk := hid hpkk
                clear hpkk
                go_wp2_with (go_at_call 104; refine hcall.out.mono ?_; clear hcall; rintro e6 w6 ⟨i6, vN6, vC6, M6, rfl, hF6, hA6, hT6, hW6, hM6⟩)
                go_roundw
                case rel =>
                  have eL : L ++ [d] ++ M ++ M6 = L ++ [d] ++ (M ++ M6) := List.append_assoc _ _ _
                  refine ⟨k + 1, M ++ M6, vN6, vC6, by omega, by go_num, ?_, hWk.out.trans hW6, ?_, ?_, ?_⟩
                  · have h := hT6
                    rw [extC_of (n := (L ++ [d] ++ M).length) (C := C) (fun q hq => by rw [← hC]; unfold extC; rw [if_neg (by rw [List.length_append, List.length_append] at hq; omega)]), eL] at h
                    exact h
                  · intro d' hd'
                    rw [← eL]
                    rcases List.mem_append.1 hd' with h | h
                    · exact (hFk.out d' h).app M6
                    · exact hA6 d' h
                  · intro j hj
                    rw [← eL]
                    by_cases e : j = k
                    · subst e; exact ⟨i6, by rw [Hpkk.out]; exact hF6⟩
                    · obtain ⟨i, hi⟩ := hPk.out j (by omega)
                      exact ⟨i, hi.app M6⟩
                  · show (M ++ M6).length ≤ _
                    rw [hsn.out, List.length_append, List.length_append]
                    have := hMk.out
                    omega
                case measure => simp [intOf]; omega
              · obtain rfl : k = d.Xs.length := by omega
                have hdl : (d.Xs.length : Int) ≤ 2 := by have := Hl2.out; omega
                go_wp2
                go_ret
                have eL : L ++ [d] ++ M = L ++ ([d] ++ M) := List.append_assoc _ _ _
                refine ⟨L.length, vN', vC', [d] ++ M, by first | rfl | go_num, ?_, ?_, ?_, hWk.out, ?_⟩
                · rw [← eL]
                  have hat : ndAt (L ++ [d] ++ M) L.length = d := by rw [ndAt_app _ (by simp), ndAt_last]
                  refine ⟨by simp, by rw [hat], fun h q hq => ?_, fun h => ⟨by rw [hat], fun q hq => ?_⟩⟩
                  · rw [List.append_assoc, ndAt_app _ hq]
                    have e2 : hd0 d.z = s := (Nd.hd d).trans Hsd.out
                    rw [e2] at h ⊢
                    exact H1.out h q hq
                  · rw [List.append_assoc, ndAt_app _ hq]
                    exact H2.out q hq
                · intro d' hd'
                  rw [← eL]
                  rcases List.mem_append.1 hd' with h | h
                  · rw [List.mem_singleton] at h
                    subst h
                    exact fun j hj => hPk.out j hj
                  · exact hFk.out d' h
                · rw [← eL, hC]
                  exact hTk.out
                · rw [List.length_append, List.length_singleton]
                  have h2 := hMk.out
                  have h4 := flatten_take_le (zss := d.zss) d.Xs.length
                  unfold Nd.z
                  rw [List.length_cons]
                  omega)

/-- (*ties).node, of whatever tree. -/
theorem node_all {lo hi : Nat} {W0 : World} {X : Nat} {zs : List Int} (h : TreeIn lo hi W0 X zs) : (∀ s ∈ zs, -8 ≤ s ∧ s < 6) → ∀ (W : World) (x : Nat) (vN vC : Value) (L : List Nd) (C : Nat → Nat), (∀ k, lo ≤ k → k < hi → W.heap[k]? = W0.heap[k]?) → hi ≤ W.heap.size → x < lo → Far vN vC lo hi → TB W x vN vC L L.length C → extC L.length C = C → L.length + zs.length ≤ 5000 →
    Calls Try.prog 104 #[ptr x, ptr X] W fun e w' => NodeAns W w' e x vN vC L C X zs := by
  induction h with
  | mk X s v Xs zss hX1 hX2 hN hP hr hl hT ih =>
    intro hkn W x vN vC L C hW hhi hx hfar HB hC h5
    have hN' : Node W X s v := (hW X hX1 hX2).trans hN
    have hT' : TreeIn lo hi W X (s :: zss.flatten) := (TreeIn.mk X s v Xs zss hX1 hX2 hN hP hr hl hT).keep (Nat.le_refl _) (Nat.le_refl _) hW
    have hnd : NdAt W x vN vC ⟨X, s, Xs, zss⟩ := ⟨lo, hi, v, hx, hhi, hfar, hX1, hX2, hN', hP.keep (Nat.le_refl _) (Nat.le_refl _) hW, hr, hl, hkn, fun j hj => (hT j hj).keep (Nat.le_refl _) (Nat.le_refl _) hW⟩
    by_cases h1 : s < 0 ∧ ∃ k, k < L.length ∧ (ndAt L k).s = s
    · obtain ⟨hs, h1⟩ := h1
      obtain ⟨i, hi1, hi2, hi3⟩ := least _ h1
      refine node_hit HB (by omega) X (s :: zss.flatten) i ⟨hi1, ?_, fun _ k hk => hi3 k hk, fun h => ?_⟩ hN' hC
      · have e1 := Nd.var (HB.nds _ (ndAt_mem hi1)) (by omega)
        have e2 := Nd.var hnd hs
        rw [e1, hi2]
        exact e2.symm
      · have h' : 0 ≤ s := h
        omega
    · by_cases h2 : ∃ k, k < L.length ∧ (ndAt L k).X = X
      · obtain ⟨i, hi1, hi2, hi3⟩ := least _ h2
        obtain ⟨l2, h2', hT2⟩ := (HB.nds _ (ndAt_mem hi1)).tree
        obtain ⟨v2, hN2⟩ := (HB.nds _ (ndAt_mem hi1)).node
        rw [hi2] at hT2 hN2
        obtain ⟨es, _⟩ := node_one hN2 hN'
        refine node_hit HB (by omega) X (s :: zss.flatten) i ⟨hi1, hT2.one hT', fun h => ?_, fun _ => ⟨hi2, fun k hk => hi3 k hk⟩⟩ hN' hC
        exact absurd ⟨h, i, hi1, es⟩ h1
      · refine node_new HB ⟨X, s, Xs, zss⟩ h5 hnd (fun hs k hk e => h1 ⟨hs, k, hk, e⟩) (fun k hk e => h2 ⟨k, hk, e⟩) hC ?_
        intro j W' vN' vC' L' hj hWK HB' hLL h5'
        have hmem : ∀ q ∈ zss[j]?.getD [], -8 ≤ q ∧ q < 6 := fun q hq => by
          refine hkn q (List.mem_cons_of_mem _ (List.mem_flatten.2 ⟨zss[j]?.getD [], ?_, hq⟩))
          have hj' : j < zss.length := by rw [hl]; exact hj
          rw [List.getElem?_eq_getElem hj']
          exact List.getElem_mem hj'
        exact ih j hj hmem W' x vN' vC' L' C (fun k k1 k2 => (hWK.keeps hfar hx hhi k k1 k2).trans (hW k k1 k2)) (by have := hWK.size; omega) hx (hWK.far hfar hhi) HB' (extC_of fun k hk => by rw [← hC]; unfold extC; rw [if_neg (by omega)]) h5'

end Go.Proofs.Ytgeknojpcjadkaa

namespace Go.Proofs.Ytgeknojpcjadkaa
open Go.Proofs Go.RowKit Go.Shelf Go.Maps

def ndN (L : List Nd) (k : Nat) : Nat := (ndAt L k).X
def ndS (L : List Nd) (k : Nat) : Int := (ndAt L k).s
def ndZ (L : List Nd) (k : Nat) : List Int := (ndAt L k).z
def ndP (L : List Nd) (k i : Nat) : Nat := (ndAt L k).Xs[i]?.getD 0
theorem listOf {R : Nat → Nat → Prop} : ∀ m, (∀ j, j < m → ∃ i, R j i) → ∃ l : List Nat, l.length = m ∧ ∀ j, j < m → R j (l[j]?.getD 0) := by
  intro m
  induction m with
  | zero => intro _; exact ⟨[], rfl, fun j hj => by omega⟩
  | succ m ih =>
    intro h
    obtain ⟨l, h1, h2⟩ := ih fun j hj => h j (by omega)
    obtain ⟨i, hi⟩ := h m (by omega)
    refine ⟨l ++ [i], by simp [h1], fun j hj => ?_⟩
    by_cases e : j = m
    · subst e; rw [← h1]; simpa [h1] using hi
    · rw [List.getElem?_append_left (by omega)]; exact h2 j (by omega)
/-- Which nodes are a node's parts. -/
def KidsL (L : List Nd) (K : Nat → List Nat) : Prop := ∀ k, k < L.length → (K k).length = (ndAt L k).Xs.length ∧ ∀ j, j < (ndAt L k).Xs.length → FndL L (ndP L k j) ((ndAt L k).zss[j]?.getD []) ((K k)[j]?.getD 0)
theorem kidsL {L : List Nd} (h : ∀ d ∈ L, FullL L d) : ∃ K, KidsL L K := by
  have h1 : ∀ k : Nat, ∃ l : List Nat, k < L.length → l.length = (ndAt L k).Xs.length ∧ ∀ j, j < (ndAt L k).Xs.length → FndL L (ndP L k j) ((ndAt L k).zss[j]?.getD []) (l[j]?.getD 0) := fun k => by
    by_cases hk : k < L.length
    · obtain ⟨l, h2, h3⟩ := listOf _ (h _ (ndAt_mem hk))
      exact ⟨l, fun _ => ⟨h2, h3⟩⟩
    · exact ⟨[], fun h => absurd h hk⟩
  obtain ⟨K, hK⟩ := Classical.skolem.1 h1
  exact ⟨K, hK⟩
theorem kidsL_gph {W : World} {x : Nat} {vN vC : Value} {L : List Nd} {m : Nat} {C : Nat → Nat} (H : TB W x vN vC L m C) {K : Nat → List Nat} (hK : KidsL L K) : Mt.Gph L.length (ndS L) K (ndZ L) := by
  refine ⟨fun k hk => ?_, fun k hk => ?_, fun k hk i hi => ?_, fun k hk => ?_, fun i j hi hj hs e => H.one i j hi hj hs e⟩
  · obtain ⟨_, _, _, _, _, _, _, _, _, _, _, _, h10, _⟩ := H.nds _ (ndAt_mem hk)
    exact h10 _ (by unfold Nd.z; simp [ndS])
  · obtain ⟨_, _, _, _, _, _, _, _, _, _, h8, _⟩ := H.nds _ (ndAt_mem hk)
    rw [(hK k hk).1, h8]; rfl
  · obtain ⟨j, hj, e⟩ := List.getElem_of_mem hi
    have h := ((hK k hk).2 j (by rw [← (hK k hk).1]; exact hj)).1
    rw [List.getElem?_eq_getElem hj, e] at h
    exact h
  · obtain ⟨_, _, _, _, _, _, _, _, _, _, h8, h9, _⟩ := H.nds _ (ndAt_mem hk)
    show (ndAt L k).s :: (ndAt L k).zss.flatten = _
    have e : (K k).map (ndZ L) = (ndAt L k).zss := by
      refine List.ext_getElem (by rw [List.length_map, (hK k hk).1, h9]) fun j j1 j2 => ?_
      rw [List.length_map] at j1
      rw [List.getElem_map]
      have h := ((hK k hk).2 j (by rw [← (hK k hk).1]; exact j1)).2.1
      rw [List.getElem?_eq_getElem j1, List.getElem?_eq_getElem j2] at h
      exact h
    rw [e]
    rfl
theorem tree_head {lo hi : Nat} {W : World} {X : Nat} {zs : List Int} (h : TreeIn lo hi W X zs) : lo ≤ X ∧ X < hi ∧ ∃ v, Node W X (hd0 zs) v := by
  cases h with
  | mk _ s v Xs zss h1 h2 hN => exact ⟨h1, h2, v, hN⟩
/-- TIES, out of nodes that are laid. -/
theorem TB.ties {W : World} {x : Nat} {vN vC : Value} {L : List Nd} {C : Nat → Nat} (H : TB W x vN vC L L.length C) {K : Nat → List Nat} (hK : KidsL L K) (h5 : L.length ≤ 5000) (h0 : 0 < L.length) : ∃ aN cN g cC, vN = .slice aN L.length cN ∧ vC = .slice (some ⟨g, 0, none⟩) L.length cC ∧ TiesO W x L.length aN cN g cC (ndN L) C (ndS L) K (ndP L) := by
  obtain ⟨gC, cC, rfl, _⟩ := New.at0 H.rowC (by rw [Mt.clL_length]; exact h0)
  rw [Mt.clL_length] at H
  obtain ⟨gN, cN, rfl, hgN, _⟩ := World.ownsRow.form H.rowN h0
  refine ⟨some ⟨gN, 0, none⟩, cN, gC, cC, rfl, by rw [Mt.clL_length], (World.ownsRow.lt H.rowC gC rfl).2, fun W' hk C' hC' => ?_, ?_⟩
  · have hgC := (World.ownsRow.lt H.rowC gC rfl).1
    have hx : W'.heap[x]? = W.heap[x]? := hk.block x H.lt (by omega)
    have hN' : W'.heap[gN]? = W.heap[gN]? := hk.block gN (World.ownsRow.lt H.rowN gN rfl).2 fun e => H.apart (q := gC) (by rw [e]; rfl) rfl
    refine ⟨(World.cell?_of_block (a := ⟨x, 0, none⟩) hx).trans ((cell_at H.cell 0).trans rfl), (World.cell?_of_block (a := ⟨x, 1, none⟩) hx).trans ((cell_at H.cell 1).trans rfl), fun k hk' => ?_, fun k hk' => ⟨gC, 0, rfl, by rw [Nat.zero_add]; exact hC' k hk'⟩, fun k hk' => ?_, fun k i hk' hi => ?_, fun k i hk' hi => ?_, h5⟩
    · obtain ⟨aN, cN', e, hf⟩ := H.form
      simp only [Value.slice.injEq, true_and] at e
      obtain ⟨rfl, rfl⟩ := e
      obtain ⟨b, off, e, hc⟩ := hf k hk'
      simp only [Option.some.injEq, Addr.mk.injEq] at e
      obtain ⟨rfl, rfl, _⟩ := e
      exact ⟨gN, 0, rfl, (World.cell?_of_block (a := ⟨gN, 0 + k, none⟩) hN').trans hc⟩
    · obtain ⟨lo, hi, v, h1, h2, h3, h4, h5', h6, ⟨a, c, rfl, h7⟩, h8, h9, h10, h11⟩ := H.nds _ (ndAt_mem hk')
      have hfar : ∀ q, lo ≤ q → q < hi → W'.heap[q]? = W.heap[q]? := fun q q1 q2 => hk.block q (by omega) fun e => by have := h3 gC (.inr rfl); omega
      rw [h8] at h6 h7
      refine ⟨a, c, (hfar _ h4 h5').trans h6, fun i hi => ?_⟩
      obtain ⟨b, off, e, b1, b2, hc⟩ := h7 i hi
      exact ⟨b, off, e, (World.cell?_of_block (a := ⟨b, off + i, none⟩) (hfar b b1 b2)).trans hc⟩
    · obtain ⟨lo, hi', v, h1, h2, h3, h4, h5', h6, h7, h8, h9, h10, h11⟩ := H.nds _ (ndAt_mem hk')
      have hfar : ∀ q, lo ≤ q → q < hi' → W'.heap[q]? = W.heap[q]? := fun q q1 q2 => hk.block q (by omega) fun e => by have := h3 gC (.inr rfl); omega
      have hi2 : i < (ndAt L k).Xs.length := by rw [h8]; exact hi
      obtain ⟨t1, t2, v', t3⟩ := tree_head (h11 i hi2)
      have hF := (hK k hk').2 i hi2
      have es : ndS L ((K k)[i]?.getD 0) = hd0 ((ndAt L k).zss[i]?.getD []) := by rw [← hF.2.1]; rfl
      rw [es]
      exact ⟨v', (hfar _ t1 t2).trans t3⟩
    · obtain ⟨lo, hi', v, h1, h2, h3, h4, h5', h6, h7, h8, h9, h10, h11⟩ := H.nds _ (ndAt_mem hk')
      obtain ⟨f1, f2, f3, f4⟩ := (hK k hk').2 i (by rw [h8]; exact hi)
      have es : ndS L ((K k)[i]?.getD 0) = hd0 ((ndAt L k).zss[i]?.getD []) := by rw [← f2]; rfl
      exact ⟨f1, fun h q hq => by rw [es]; exact f3 (by rw [← es]; exact h) q hq, fun h => f4 (by rw [← es]; exact h)⟩
  · exact H.rowC.mono (Nat.zero_le _)
theorem New.rebase {base base' : Nat} {W : World} {g n c : Nat} {zs : List Int} (h : New base W (.slice (some ⟨g, 0, none⟩) n c) zs) (hb : base' ≤ g) : New base' W (.slice (some ⟨g, 0, none⟩) n c) zs := by
  refine ⟨h.1, ?_⟩
  rcases h.2 with ⟨e, _⟩ | ⟨g', c', cur, e, _, h3⟩
  · cases e
  · cases e
    exact .inr ⟨_, _, cur, rfl, hb, h3⟩
/-- Behind a tie. -/
theorem TB.tied {W W' : World} {x : Nat} {vN : Value} {L : List Nd} {m g cC : Nat} {C C' : Nat → Nat} (H : TB W x vN (.slice (some ⟨g, 0, none⟩) m cC) L m C) (hk : Keep W.heap.size g W W') (hN : New 0 W' (.slice (some ⟨g, 0, none⟩) m cC) (Mt.clL m C')) : TB W' x vN (.slice (some ⟨g, 0, none⟩) m cC) L m C' ∧ WK W W' x vN (.slice (some ⟨g, 0, none⟩) m cC) vN (.slice (some ⟨g, 0, none⟩) m cC) := by
  have hgC := (World.ownsRow.lt H.rowC g rfl).1
  have hwk : WK W W' x vN (.slice (some ⟨g, 0, none⟩) m cC) vN (.slice (some ⟨g, 0, none⟩) m cC) := ⟨hk.os, hk.tape, hk.output, hk.size, fun k h1 _ _ h4 => hk.block k h1 fun e => h4 (by rw [e]; rfl), fun _ h => .inl h, fun _ h => .inl h⟩
  refine ⟨⟨(hk.block x H.lt (by omega)).trans H.cell, ownsRow_keep H.rowN fun q hq => hk.block q (World.ownsRow.lt H.rowN q hq).2 fun e => H.apart hq (by rw [e]; rfl), hN.rebase hgC, fun d hd => (H.nds d hd).keep hwk, H.one⟩, hwk⟩
theorem WK.below {W W' : World} {x : Nat} {vN vC vN' vC' : Value} {L : List Nd} {m : Nat} {C : Nat → Nat} (h : WK W W' x vN vC vN' vC') (H : TB W x vN vC L m C) : Below x W W' :=
  ⟨h.os, h.tape, h.output, h.size, fun k hk => h.block k (by have := H.lt; omega) (by omega) (fun e => by have := (World.ownsRow.lt H.rowN k e.symm).1; omega) (fun e => by have := (World.ownsRow.lt H.rowC k e.symm).1; omega)⟩

/-- What holds when k pairs are tied. -/
structure MI (ps : PairL) (k : Nat) (L : List Nd) (C : Nat → Nat) : Prop where
  lt : ∀ q, q < L.length → C q < L.length
  out : ∀ q, L.length ≤ q → C q = q
  sound : ∀ θ, Wb.TermSb θ → Wb.Same ps k θ → Mt.Resp L.length (ndZ L) C θ
  tied : ∀ j, j < k → ∃ a b, a < L.length ∧ b < L.length ∧ ndZ L a = (ps[j]?.getD ([], [])).1 ∧ ndZ L b = (ps[j]?.getD ([], [])).2 ∧ C a = C b
  full : ∀ d ∈ L, FullL L d
theorem MI.start (ps : PairL) : MI ps 0 [] (fun q => q) := ⟨fun q h => by simp at h, fun _ _ => rfl, fun _ _ _ i _ h => by simp at h, fun j hj => by omega, fun d h => by simp at h⟩
theorem MI.extC {ps : PairL} {k : Nat} {L : List Nd} {C : Nat → Nat} (H : MI ps k L C) : extC L.length C = C := extC_of H.out
theorem ndZ_app {L : List Nd} (M : List Nd) {k : Nat} (h : k < L.length) : ndZ (L ++ M) k = ndZ L k := by unfold ndZ; rw [ndAt_app M h]
theorem MI.ext {ps : PairL} {k : Nat} {L : List Nd} {C : Nat → Nat} (H : MI ps k L C) {M : List Nd} (hM : ∀ d ∈ M, FullL (L ++ M) d) : MI ps k (L ++ M) C := by
  refine ⟨fun q hq => ?_, fun q hq => H.out q (by rw [List.length_append] at hq; omega), fun θ hθ hs i j hi hj e => ?_, fun j hj => ?_, fun d hd => ?_⟩
  · rw [List.length_append] at hq ⊢
    by_cases h : q < L.length
    · have := H.lt q h; omega
    · rw [H.out q (by omega)]; exact hq
  · by_cases h1 : i < L.length
    · by_cases h2 : j < L.length
      · rw [ndZ_app M h1, ndZ_app M h2]; exact H.sound θ hθ hs i j h1 h2 e
      · rw [H.out j (by omega)] at e; have := H.lt i h1; omega
    · rw [H.out i (by omega)] at e
      by_cases h2 : j < L.length
      · have := H.lt j h2; omega
      · rw [H.out j (by omega)] at e; rw [e]
  · obtain ⟨a, b, ha, hb, e1, e2, e3⟩ := H.tied j hj
    exact ⟨a, b, by rw [List.length_append]; omega, by rw [List.length_append]; omega, by rw [ndZ_app M ha]; exact e1, by rw [ndZ_app M hb]; exact e2, e3⟩
  · rcases List.mem_append.1 hd with h | h
    · exact (H.full d h).app M
    · exact hM d h
theorem MI.tie {ps : PairL} {k : Nat} {L : List Nd} {C : Nat → Nat} (H : MI ps k L C) {a b : Nat} (ha : a < L.length) (hb : b < L.length) (e1 : ndZ L a = (ps[k]?.getD ([], [])).1) (e2 : ndZ L b = (ps[k]?.getD ([], [])).2) : MI ps (k + 1) L (Mt.tied C a b) := by
  refine ⟨Mt.tied_lt H.lt hb, fun q hq => ?_, fun θ hθ hs => ?_, fun j hj => ?_, H.full⟩
  · unfold Mt.tied
    have := H.lt a ha
    rw [H.out q hq, if_neg (by omega)]
  · obtain ⟨h1, h2⟩ := hs.succ
    refine (H.sound θ hθ h1).tie ha hb ?_
    rw [e1, e2]
    exact h2
  · by_cases e : j = k
    · subst e
      exact ⟨a, b, ha, hb, e1, e2, Mt.tied_same C a b⟩
    · obtain ⟨a', b', ha', hb', f1, f2, f3⟩ := H.tied j (by omega)
      exact ⟨a', b', ha', hb', f1, f2, Mt.tied_mono a b f3⟩

end Go.Proofs.Ytgeknojpcjadkaa

namespace Go.Proofs.Ytgeknojpcjadkaa
open Go.Proofs Go.RowKit Go.Shelf Go.Maps

theorem TB.below {W W1 : World} {x : Nat} {vN vC : Value} {L : List Nd} {m : Nat} {C : Nat → Nat} (H : TB W x vN vC L m C) (hB : Below W.heap.size W W1) : TB W1 x vN vC L m C ∧ WK W W1 x vN vC vN vC := by
  have hwk : WK W W1 x vN vC vN vC := ⟨hB.os, hB.tape, hB.output, hB.size, fun k hk _ _ _ => hB.block k hk, fun _ h => .inl h, fun _ h => .inl h⟩
  exact ⟨⟨(hB.block x H.lt).trans H.cell, ownsRow_keep H.rowN fun q hq => hB.block q (World.ownsRow.lt H.rowN q hq).2, ownsRow_keep H.rowC fun q hq => hB.block q (World.ownsRow.lt H.rowC q hq).2, fun d hd => (H.nds d hd).keep hwk, H.one⟩, hwk⟩
theorem TB.start (w : World) : TB (w.alloc (.cells #[.slice none 0 0, .slice none 0 0] 159)) w.heap.size (.slice none 0 0) (.slice none 0 0) [] 0 (fun q => q) :=
  ⟨World.alloc_heap_new w _, World.ownsRow_nil _ _ _ _, New.nil _ _, fun d hd => by simp at hd, fun i j hi => by simp at hi⟩
/-- (*ties).node of a tree that has just been made. -/
theorem node_tree {W W1 : World} {x : Nat} {vN vC : Value} {L : List Nd} {C : Nat → Nat} (H : TB W x vN vC L L.length C) (hB : Below W.heap.size W W1) {zs : List Int} (hT : TreeIn W.heap.size W1.heap.size W1 W.heap.size zs) (he : Tm.err zs = 0) (hC : extC L.length C = C) (h5 : L.length + zs.length ≤ 5000) :
    Calls Try.prog 104 #[ptr x, ptr W.heap.size] W1 fun e w' => NodeAns W1 w' e x vN vC L C W.heap.size zs := by
  refine node_all hT (fun s hs => ?_) W1 x vN vC L C (fun _ _ _ => rfl) (Nat.le_refl _) H.lt (fun q hq => ?_) (H.below hB).1 hC h5
  · have h := Tm.err_all he
    rw [List.all_eq_true] at h
    have := h s hs
    exact ⟨Tm.known_ge this, Tm.known_lt this⟩
  · rcases hq with e | e
    · exact .inl (World.ownsRow.lt H.rowN q e).2
    · exact .inl (World.ownsRow.lt H.rowC q e).2
/-- (*ties).tie of two nodes that are laid. -/
theorem tie_tb {W : World} {x : Nat} {vN vC : Value} {L : List Nd} {C : Nat → Nat} (H : TB W x vN vC L L.length C) (hF : ∀ d ∈ L, FullL L d) (h5 : L.length ≤ 5000) (a b : Nat) (ha : a < L.length) (hb : b < L.length) :
    Calls Try.prog 106 #[ptr x, .int .i64 (a : Int), .int .i64 (b : Int)] W fun e w' => (∃ v, e = .returned v) ∧ TB w' x vN vC L L.length (Mt.tied C a b) ∧ WK W w' x vN vC vN vC := by
  obtain ⟨K, hK⟩ := kidsL hF
  obtain ⟨aN, cN, g, cC, rfl, rfl, hO⟩ := H.ties hK h5 (by omega)
  refine (tie_any W hO a b ha hb).mono ?_
  rintro e w' ⟨hv, hk, hO'⟩
  obtain ⟨h1, h2⟩ := H.tied hk hO'.2.2
  exact ⟨hv, h1, h2⟩

namespace Mt
/-- What variables become, by the first k nodes. -/
def sigT (n : Nat) (S : Nat → Int) (K : Nat → List Nat) (C : Nat → Nat) (k : Nat) : Wb.Sb := fun v => match (List.range k).find? fun q => decide (S q = v) with
  | some q => bec n S K C (n + 1) (C q)
  | none => [v]
theorem sigT_else {n : Nat} {S : Nat → Int} {K : Nat → List Nat} {C : Nat → Nat} {k : Nat} {v : Int} (h : S k ≠ v) : sigT n S K C (k + 1) v = sigT n S K C k v := by
  unfold sigT
  rw [List.range_succ, List.find?_append]
  cases hf : (List.range k).find? fun q => decide (S q = v) with
  | some q => rfl
  | none => simp [h]
theorem sigT_here {n : Nat} {S : Nat → Int} {K : Nat → List Nat} {C : Nat → Nat} {k : Nat} (h : ∀ q, q < k → S q ≠ S k) : sigT n S K C (k + 1) (S k) = bec n S K C (n + 1) (C k) := by
  unfold sigT
  rw [List.range_succ, List.find?_append, List.find?_eq_none.2 fun q hq => by simpa using h q (List.mem_range.1 hq)]
  simp
theorem sbL_step {σ τ : Wb.Sb} {j : Nat} {t : List Int} (h1 : τ (-1 - (j : Int)) = t) (h2 : ∀ v, v ≠ -1 - (j : Int) → τ v = σ v) : Tm.sbL τ = (Tm.sbL σ).set j t := by
  refine List.ext_getElem (by rw [List.length_set, Tm.sbL_length, Tm.sbL_length]) fun i i1 i2 => ?_
  rw [Tm.sbL_length] at i1
  rw [List.getElem_set]
  have a1 := Tm.sbL_at τ i1
  have a2 := Tm.sbL_at σ i1
  rw [List.getElem?_eq_getElem (by rw [Tm.sbL_length]; exact i1)] at a1 a2
  simp only [Option.getD_some] at a1 a2
  by_cases e : j = i
  · subst e
    rw [if_pos rfl, a1, h1]
  · rw [if_neg e, a1, a2]
    exact h2 _ (by omega)
end Mt

set_option maxRecDepth 100000 in
set_option maxHeartbeats 400000 in
/-- (*ties).close of no nodes. -/
theorem tclose_nil {x cN : Nat} (w : World) (hc0 : w.cell? ⟨x, 0, none⟩ = some (.slice none 0 cN)) :
    Calls Try.prog 107 #[ptr x] w fun e w' => e = .returned (.bool true) ∧ w' = w := by
  go_enter Try.func107, Try.ntmps107
  go_wp2
  refine wp_loop_rounds 2 ?_
  rw [rounds_succ]
  go_wp2
  refine wp_loop_rounds 1 ?_
  rw [rounds_succ]
  go_wp2
  rw [rounds_succ]
  go_wp2
  go_ret
  exact ⟨rfl, rfl⟩

end Go.Proofs.Ytgeknojpcjadkaa
