/-
  Parts of the proof: Met8, Met9, Met10, Met11.
-/
import Derived.Deep.RegionLaw
import Derived.Test.YtglohanbpjaieaaGreatBrt27
import Derived.Test.YtglohanbpjaieaaGreatBrt11
namespace Go.Proofs.YtglohanbpjaieaaGreat
open Go.Proofs Go.RowKit Go.Shelf Go.Maps
theorem node_hit {W:World} {x:Nat} {vN vC:Value} {L:List Nd} {C:Nat→Nat} (H:TB W x vN vC L L.length C) (hn:L.length≤5000) (p:Nat) (z:List Int) (i:Nat) (F:FndL L p z i) {vp:Value} (hp:Node W p (hd0 z) vp) (hC:extC L.length C = C) :
 Calls Tryz.prog 80 #[ptr x,ptr p] W fun e w'=>NodeAns W w' e x vN vC L C p z:=by
 obtain ⟨aN,cN,rfl,hnd⟩:=H.form
 obtain ⟨h1,h2,h3,h4⟩:=F
 have hs:(ndAt L i).s = hd0 z:=by rw [← h2];rfl
 have hc0:W.cell? ⟨x,0,none⟩ = some (.slice aN L.length cN):=(cell_at H.cell 0).trans rfl
 refine (node_fd (x:=x) (N:=fun k=>(ndAt L k).X) (S:=fun k=>(ndAt L k).s) W p i hc0 hnd (fun k hk=>(H.nds _ (ndAt_mem hk)).node) hn (vp:=vp) (by rw [hs];exact hp) ⟨h1,fun h k hk=>by show (ndAt L k).s≠(ndAt L i).s;rw [hs];exact h3 (by rw [← hs];exact h) k hk,fun h=>h4 (by rw [← hs];exact h)⟩).mono ?_
 rintro e w' ⟨rfl,m,rfl⟩
 have hF:FndL L p z i:=⟨h1,h2,h3,h4⟩
 refine ⟨i,_,vC,[],rfl,by rw [List.append_nil];exact hF,fun d hd=>by simp at hd,?_,(WK.refl W x _ vC).drewN m,by simp⟩
 rw [List.append_nil,hC]
 exact H.drewN m
theorem Nd.var {W:World} {x:Nat} {vN vC:Value} {d:Nd} (h:NdAt W x vN vC d) (hs:d.s < 0):d.z = [d.s]:=by
 obtain ⟨lo,hi,v,h1,h2,h3,h4,h5,h6,h7,h8,h9,h10,h11⟩:=h
 rw [Wb.room_var hs] at h8
 have:d.zss = []:=List.eq_nil_of_length_eq_zero (by omega)
 unfold Nd.z
 rw [this]
 rfl
theorem extC_of {n:Nat} {C:Nat→Nat} (h:∀ k,n≤k→C k = k):extC n C = C:=by
 funext k
 unfold extC
 by_cases e:k < n
 ·rw [if_pos e]
 ·rw [if_neg e,h k (by omega)]
theorem step_append_cls {ops:Array Oper} {o:Oper} {a:Act} {K:Act→World→Prop} {Q:Exit→Act→World→Prop} {E:Prop} (w:World) (hgd:o.guard = none) (s x:Operand)
 (ho:o.op = .call { callee:=.builtin .append,args:=#[s,x],argTypes:=#[22,22] }) (base n:Nat) (v:Value) (xs:List Int) (hs:a.eval s = v) (hN:w.ownsRow base 3 1 v n (xs.map (Value.int .i64)))
 (B:Nat) (y:Int) (hx:a.eval x = .slice (some ⟨B,0,none⟩) 1 1) (hB:w.cell? ⟨B,0,none⟩ = some (.int .i64 y)) (hlen:n≤1000000) (hbase:base≤w.heap.size)
 (h:∀ g c' w',w'.ownsRow base 3 1 (.slice (some ⟨g,0,none⟩) (n+1) c') (n+1) (xs.map (Value.int .i64)++[.int .i64 y])→w.grownBy w' v.ownBlock→(v.ownBlock = some g∨g = w.heap.size)→K (a.put o.dst (.slice (some ⟨g,0,none⟩) (n+1) c')) w') :
 if Region.wanted o (yielded ops a.tmps) = true then Oper.wp Tryz.prog o a w K Q else E:=by
 obtain ⟨i0,hi,hz0,hz1,hz2⟩:=info_parts Tryz.info3
 refine step_append_lies w hgd s x 22 ho base 3 i0 (.int .i64 0) 1 8 Tryz.infoInts hi hz0 hz1 hz2 rfl (by decide) v n (xs.map (Value.int .i64)) hs hN ⟨B,0,none⟩ 1 1 [.int .i64 y] hx (by simp)
  (by intro j z hj
      match j,hj with
      | 0,hj=>simp at hj;subst hj;rw [Go.WideShapes.add_plain];simpa using hB)
  (by intro u hu;simp at hu;subst hu;rfl) (by decide) (by unfold maxLen;omega) (by omega) hbase w.heap.size rfl ?_
 intro g c' w' hown hg hat _
 exact h g c' w' hown hg hat
set_option maxRecDepth 100000 in
set_option maxHeartbeats 8000000 in
theorem node_new {W:World} {x:Nat} {vN vC:Value} {L:List Nd} {C:Nat→Nat} (H:TB W x vN vC L L.length C) (d:Nd) (hb5:L.length+d.z.length≤5000) (hnd:NdAt W x vN vC d) (h1:d.s < 0→∀ k,k < L.length→(ndAt L k).s≠d.s) (h2:∀ k,k < L.length→(ndAt L k).X≠d.X) (hC:extC L.length C = C)
 (ih:∀ (j:Nat) (W':World) (vN' vC':Value) (L':List Nd),j < d.Xs.length→WK W W' x vN vC vN' vC'→TB W' x vN' vC' L' L'.length C→L.length≤L'.length→L'.length+(d.zss[j]?.getD []).length≤5000 →
   Calls Tryz.prog 80 #[ptr x,ptr (d.Xs[j]?.getD 0)] W' fun e w'=>NodeAns W' w' e x vN' vC' L' C (d.Xs[j]?.getD 0) (d.zss[j]?.getD [])) :
 Calls Tryz.prog 80 #[ptr x,ptr d.X] W fun e w'=>NodeAns W w' e x vN vC L C d.X d.z:=by
 obtain ⟨aN,cN,rfl,hnds⟩:=H.form
 have hc0:W.cell? ⟨x,0,none⟩ = some (.slice aN L.length cN):=(cell_at H.cell 0).trans rfl
 have hone:=hid (H.one.snoc h1)
 obtain ⟨ti,hti,htz⟩:=Tryz.infoTree
 obtain ⟨vd,hNd⟩:=hnd.node
 have hds:=hNd.cell0
 have hn5:L.length≤5000:=by omega
 have hn5':(L.length:Int)≤5000:=by omega
 have Hnds:=hid hnds
 have HH:=hid H
 have Hnd:=hid hnd
 have HNd:=hid hNd
 have H1:=hid h1
 have H2:=hid h2
 have IH:=hid ih
 have Hb5:=hid hb5
 clear hnds hnd hNd h1 h2 ih hb5 H
 generalize hsd:d.s = s at *
 have Hsd:=hid hsd
 clear hsd
 obtain ⟨i0,hi,hz0,hz1,hz2⟩:=info_parts Tryz.info117
 by_cases hs:s < 0
 ·have H1':=hid (H1.out hs)
  go_enter Tryz.func80,Tryz.ntmps80
  go_wp2
  go_loopw [5] (fun i wr=>∃ k:Nat,k≤L.length∧i = .int .i64 (k:Int)∧∃ e,wr = W.drewN e) (fun i _=>L.length - (intOf i).toNat)
  case atStart=>exact ⟨0,Nat.zero_le _,rfl,0,rfl⟩
  case round =>
   obtain ⟨k,hk,rfl,e,rfl⟩:=hrel
   by_cases hlt:k < L.length
   ·have hkn:(k:Int) < (L.length:Int):=by omega
    obtain ⟨b,off,rfl,hck⟩:=Hnds.out k hlt
    obtain ⟨vk,hNk⟩:=(HH.out.nds _ (ndAt_mem hlt)).node
    have hsk:=hNk.cell0
    have hne:((ndAt L k).s == s) = false:=by simpa using H1'.out k hlt
    clear hNk
    generalize (ndAt L k).s = sk at *
    generalize (ndAt L k).X = qk at *
    go_wp2
    go_quiet (fail)
    go_wp2
    go_roundw
    case rel=>exact ⟨k+1,by omega,by go_num,_,rfl⟩
    case measure=>simp [intOf];omega
   ·obtain rfl:k = L.length:=by omega
    go_wp2
    go_loopw [6] (fun i wr=>∃ k:Nat,k≤L.length∧i = .int .i64 (k:Int)∧∃ e,wr = W.drewN e) (fun i _=>L.length - (intOf i).toNat)
    case atStart=>exact ⟨0,Nat.zero_le _,rfl,_,rfl⟩
    case round =>
     obtain ⟨k,hk,rfl,e,rfl⟩:=hrel
     by_cases hlt:k < L.length
     ·have hkn:(k:Int) < (L.length:Int):=by omega
      obtain ⟨b,off,rfl,hck⟩:=Hnds.out k hlt
      obtain ⟨vk,hNk⟩:=(HH.out.nds _ (ndAt_mem hlt)).node
      have hrun:=run_eql_ptr_other (P:=Tryz.prog) (W.drewN e) (a:=⟨(ndAt L k).X,0,none⟩) (b:=⟨d.X,0,none⟩) Tryz.underlying117 hti htz (fun e=>H2.out k hlt (congrArg Addr.block e)) hNk HNd.out
      clear hNk
      generalize (ndAt L k).X = qk at *
      go_wp2
      go_roundw
      case rel=>exact ⟨k+1,by omega,by go_num,_,rfl⟩
      case measure=>simp [intOf];omega
     ·obtain rfl:k = L.length:=by omega
      go_wp2_with (first
       | (at_builtin;go_loud (refine wpList_append_lies _ rfl _ _ 113 rfl (x+1) 117 i0 (.pointer none) 1 8 Tryz.underlying113 hi hz0 hz1 hz2 rfl (by decide) _ L.length (L.map fun d=>ptr d.X) rfl (World.ownsRow.alloc (show (W.drewN e).ownsRow _ _ _ _ _ _ from HH.out.rowN) _) ⟨W.heap.size,0,none⟩ 1 1 [ptr d.X] rfl rfl (cell_one_new _ _ _) (by simp [Value.oneCell',ptr]) (by decide) (by unfold maxLen;omega) (by omega) (by have:=HH.out.lt;simp;omega) (W.heap.size+1) (by simp) ?_);intro g cap w2 hown hgrow hat hlt2;have hgr:=grown_pre (W:=W) (V:=W.drewN e) rfl rfl rfl rfl hgrow;have R:=HH.out.addN hgr hown (by rcases hat with e | e;exact .inl e;exact .inr (by omega)) d rfl Hnd.out hone.out;have hcx0:=(cell_at R.2.2 0).trans rfl;have hfx0:w2.frozen? ⟨x,0,none⟩ = false:=(by simp [World.frozen?,R.2.2]);have HR:=hid R;clear R hown hgrow hat hgr hlt2))
      obtain ⟨W3,hW3⟩:∃ W3,w2.setCell ⟨x,0,none⟩ (Value.slice (some ⟨g,0,none⟩) (L.length+1) cap) = W3:=⟨_,rfl⟩
      rw [hW3]
      have hT3:Hid (TB W3 x (.slice (some ⟨g,0,none⟩) (L.length+1) cap) vC (L++[d]) L.length C):=by rw [← hW3];exact HR.out.1
      have hK3:Hid (WK W W3 x (.slice aN L.length cN) vC (.slice (some ⟨g,0,none⟩) (L.length+1) cap) vC):=by rw [← hW3];exact HR.out.2.1
      clear hW3 HR hcx0 hfx0
      obtain ⟨aC,cC,e1,_,_⟩:=New.ints hT3.out.rowC
      rw [Mt.clL_length] at e1
      subst e1
      have hx0:W3.cell? ⟨x,0,none⟩ = some (.slice (some ⟨g,0,none⟩) (L.length+1) cap):=(cell_at hT3.out.cell 0).trans rfl
      have hx1:W3.cell? ⟨x,1,none⟩ = some (.slice aC L.length cC):=(cell_at hT3.out.cell 1).trans rfl
      have hxlt:=hT3.out.lt
      obtain ⟨j0,hj,hj0,hj1,hj2⟩:=info_parts Tryz.info3
      have hrC:Hid (∀ (V:World) (o:Obj),V.heap = (W3.alloc o).heap→V.ownsRow (x+1) 3 1 (.slice aC L.length cC) L.length ((Mt.clL L.length C).map (Value.int .i64))):=fun V o hV=>by
       have h:=hT3.out.rowC
       unfold New at h
       rw [Mt.clL_length] at h
       exact ownsRow_keep (World.ownsRow.alloc h o) fun q _=>by rw [hV]
      have hnewc:Hid (∀ V:World,V.heap = (W3.alloc (.cells #[.int .i64 (L.length:Int)] 3)).heap→V.cell? ⟨W3.heap.size,0,none⟩ = some (.int .i64 (L.length:Int))):=fun V hV=>(cell_heap hV _).trans ((cell_at (World.alloc_heap_new W3 _) 0).trans rfl)
      have hat6:Hid (∀ (V:World) (g:Nat),V.heap = (W3.alloc (.cells #[.int .i64 (L.length:Int)] 3)).heap→((Value.slice aC L.length cC).ownBlock = some g∨g = V.heap.size)→((Value.slice aC L.length cC).ownBlock = some g∨W3.heap.size≤g)):=fun V g hV h=>by
       rcases h with e | e
       ·exact .inl e
       ·exact .inr (by rw [e,hV];simp)
      go_region_law ((refine step_append_cls _ (by rfl) _ _ (by rfl) (x+1) L.length (.slice aC L.length cC) (Mt.clL L.length C) (by rfl) (hrC.out _ _ (by rfl)) W3.heap.size (L.length:Int) (by rfl) (hnewc.out _ (by rfl)) (by omega) (by simp;omega) ?_;intro g5 cap5 w5 hown5 hgrow5 hat5;have hgr5:=grown_pre2 (W:=W3) (tmp:=.cells #[.int .i64 (L.length:Int)] 3) (by rfl) (by rfl) (by rfl) (by rfl) hgrow5;have R5:=hT3.out.addC hgr5 hown5 (hat6.out _ _ (by rfl) hat5);have hS5:w5.cell? ⟨x,1,none⟩ = some (.slice aC L.length cC):=(cell_at R5.2.2 1).trans (by rfl);have hf5:w5.frozen? ⟨x,1,none⟩ = false:=(by simp [World.frozen?,R5.2.2]);have HR5:=hid R5;clear R5 hown5 hgrow5 hat5 hgr5))
      all_goals (
       obtain ⟨W5,hW5⟩:∃ W5,w5.setCell ⟨x,1,none⟩ (Value.slice (some ⟨g5,0,none⟩) (L.length+1) cap5) = W5:=⟨_,rfl⟩
       rw [hW5]
       have hT5:Hid (TB W5 x (.slice (some ⟨g,0,none⟩) (L.length+1) cap) (.slice (some ⟨g5,0,none⟩) (L.length+1) cap5) (L++[d]) (L.length+1) C):=by rw [← hW5];have h:=HR5.out.1;rw [hC] at h;exact h
       have hK5:Hid (WK W W5 x (.slice aN L.length cN) (.slice aC L.length cC) (.slice (some ⟨g,0,none⟩) (L.length+1) cap) (.slice (some ⟨g5,0,none⟩) (L.length+1) cap5)):=by rw [← hW5];exact hK3.out.trans HR5.out.2.1
       have hx5:W5.cell? ⟨x,0,none⟩ = some (.slice (some ⟨g,0,none⟩) (L.length+1) cap):=(cell_at hT5.out.cell 0).trans rfl
       clear hW5 HR5 hS5 hf5 hT3 hK3 hx0 hx1 hrC hnewc hat6 hxlt
       go_wp2
       go_loopw [8] (fun i wr=>∃ (k:Nat) (M:List Nd) (vN' vC':Value),k≤d.Xs.length∧i = .int .i64 (k:Int)∧Hid (TB wr x vN' vC' (L++[d]++M) (L++[d]++M).length C)∧Hid (WK W wr x (.slice aN L.length cN) (.slice aC L.length cC) vN' vC')∧Hid (∀ d'∈M,FullL (L++[d]++M) d')∧Hid (∀ j,j < k→∃ i,FndL (L++[d]++M) (d.Xs[j]?.getD 0) (d.zss[j]?.getD []) i)∧Hid (M.length≤(d.zss.take k).flatten.length)) (fun i _=>d.Xs.length - (intOf i).toNat)
       case atStart=>exact ⟨0,[],_,_,Nat.zero_le _,rfl,by rw [List.append_nil,List.length_append,List.length_singleton];exact hT5,hK5,(fun d' h=>by simp at h),(fun j hj=>by omega),by simp [Hid]⟩
       case round =>
        obtain ⟨k,M,vN',vC',hk,rfl,hTk,hWk,hFk,hPk,hMk⟩:=hrel
        obtain ⟨lo2,hi2,v2,_,_,_,_,_,hN2,hP2,hl2,hz2',_,_⟩:=hTk.out.nds d (by simp)
        obtain ⟨a2,c2,rfl,hc2⟩:=hP2
        have hp1:=hN2.cell1
        have Hl2:=hid hl2
        have Hz2:=hid hz2'
        have Hc2:=hid hc2
        have hr2:=Tm.room_le d.s
        clear hN2 hl2 hz2' hc2
        by_cases hlt:k < d.Xs.length
        ·have hkl:(k:Int) < (d.Xs.length:Int):=by omega
         obtain ⟨b2,o2,rfl,_,_,hcell⟩:=Hc2.out k hlt
         have hfl:=flatten_le (zss:=d.zss) (k:=k) (by have:=Hz2.out;omega)
         have hbound:(L++[d]++M).length+(d.zss[k]?.getD []).length≤5000:=by
          have h1:=Hb5.out
          have h2:=hMk.out
          have h3:d.z.length = 1+d.zss.flatten.length:=by unfold Nd.z;rw [List.length_cons];omega
          rw [List.length_append,List.length_append,List.length_singleton]
          omega
         have hcall:=hid (IH.out k wr vN' vC' (L++[d]++M) hlt hWk.out hTk.out (by rw [List.length_append,List.length_append];omega) hbound)
         have hsn:=hid (flatten_snoc (zss:=d.zss) (k:=k) (by have:=Hz2.out;omega))
         have hdl:(d.Xs.length:Int)≤2:=by have:=Hl2.out;omega
         clear hbound hfl
         obtain ⟨pkk,hpkk⟩:∃ pkk,d.Xs[k]?.getD 0 = pkk:=⟨_,rfl⟩
         rw [hpkk] at hcell hcall
         have Hpkk:=hid hpkk
         clear hpkk
         go_wp2_with (go_at_call 80;refine hcall.out.mono ?_;clear hcall;rintro e6 w6 ⟨i6,vN6,vC6,M6,rfl,hF6,hA6,hT6,hW6,hM6⟩)
         go_roundw
         case rel =>
          have eL:L++[d]++M++M6 = L++[d]++(M++M6):=List.append_assoc _ _ _
          refine ⟨k+1,M++M6,vN6,vC6,by omega,by go_num,?_,hWk.out.trans hW6,?_,?_,?_⟩
          ·have h:=hT6
           rw [extC_of (n:=(L++[d]++M).length) (C:=C) (fun q hq=>by rw [← hC];unfold extC;rw [if_neg (by rw [List.length_append,List.length_append] at hq;omega)]),eL] at h
           exact h
          ·intro d' hd'
           rw [← eL]
           rcases List.mem_append.1 hd' with h | h
           ·exact (hFk.out d' h).app M6
           ·exact hA6 d' h
          ·intro j hj
           rw [← eL]
           by_cases e:j = k
           ·subst e;exact ⟨i6,by rw [Hpkk.out];exact hF6⟩
           ·obtain ⟨i,hi⟩:=hPk.out j (by omega)
            exact ⟨i,hi.app M6⟩
          ·show (M++M6).length≤_
           rw [hsn.out,List.length_append,List.length_append]
           have:=hMk.out
           omega
         case measure=>simp [intOf];omega
        ·obtain rfl:k = d.Xs.length:=by omega
         have hdl:(d.Xs.length:Int)≤2:=by have:=Hl2.out;omega
         go_wp2
         go_ret
         have eL:L++[d]++M = L++([d]++M):=List.append_assoc _ _ _
         refine ⟨L.length,vN',vC',[d]++M,by first | rfl | go_num,?_,?_,?_,hWk.out,?_⟩
         ·rw [← eL]
          have hat:ndAt (L++[d]++M) L.length = d:=by rw [ndAt_app _ (by simp),ndAt_last]
          refine ⟨by simp,by rw [hat],fun h q hq=>?_,fun h=>⟨by rw [hat],fun q hq=>?_⟩⟩
          ·rw [List.append_assoc,ndAt_app _ hq]
           have e2:hd0 d.z = s:=(Nd.hd d).trans Hsd.out
           rw [e2] at h ⊢
           exact H1.out h q hq
          ·rw [List.append_assoc,ndAt_app _ hq]
           exact H2.out q hq
         ·intro d' hd'
          rw [← eL]
          rcases List.mem_append.1 hd' with h | h
          ·rw [List.mem_singleton] at h
           subst h
           exact fun j hj=>hPk.out j hj
          ·exact hFk.out d' h
         ·rw [← eL,hC]
          exact hTk.out
         ·rw [List.length_append,List.length_singleton]
          have h2:=hMk.out
          have h4:=flatten_take_le (zss:=d.zss) d.Xs.length
          unfold Nd.z
          rw [List.length_cons]
          omega)
 ·have hs0:decide (s < 0) = false:=by simpa using hs
  clear hs
  by_cases h0:0 < L.length
  ·have h0n:(0:Int) < (L.length:Int):=by omega
   go_enter Tryz.func80,Tryz.ntmps80
   go_wp2
   refine wp_loop_rounds 1 ?_
   rw [rounds_succ]
   go_wp2
   go_loopw [6] (fun i wr=>∃ k:Nat,k≤L.length∧i = .int .i64 (k:Int)∧∃ e,wr = W.drewN e) (fun i _=>L.length - (intOf i).toNat)
   case atStart=>exact ⟨0,Nat.zero_le _,rfl,0,rfl⟩
   case round =>
    obtain ⟨k,hk,rfl,e,rfl⟩:=hrel
    by_cases hlt:k < L.length
    ·have hkn:(k:Int) < (L.length:Int):=by omega
     obtain ⟨b,off,rfl,hck⟩:=Hnds.out k hlt
     obtain ⟨vk,hNk⟩:=(HH.out.nds _ (ndAt_mem hlt)).node
     have hrun:=run_eql_ptr_other (P:=Tryz.prog) (W.drewN e) (a:=⟨(ndAt L k).X,0,none⟩) (b:=⟨d.X,0,none⟩) Tryz.underlying117 hti htz (fun e=>H2.out k hlt (congrArg Addr.block e)) hNk HNd.out
     clear hNk
     generalize (ndAt L k).X = qk at *
     go_wp2
     go_roundw
     case rel=>exact ⟨k+1,by omega,by go_num,_,rfl⟩
     case measure=>simp [intOf];omega
    ·obtain rfl:k = L.length:=by omega
     go_wp2_with (first
      | (at_builtin;go_loud (refine wpList_append_lies _ rfl _ _ 113 rfl (x+1) 117 i0 (.pointer none) 1 8 Tryz.underlying113 hi hz0 hz1 hz2 rfl (by decide) _ L.length (L.map fun d=>ptr d.X) rfl (World.ownsRow.alloc (show (W.drewN e).ownsRow _ _ _ _ _ _ from HH.out.rowN) _) ⟨W.heap.size,0,none⟩ 1 1 [ptr d.X] rfl rfl (cell_one_new _ _ _) (by simp [Value.oneCell',ptr]) (by decide) (by unfold maxLen;omega) (by omega) (by have:=HH.out.lt;simp;omega) (W.heap.size+1) (by simp) ?_);intro g cap w2 hown hgrow hat hlt2;have hgr:=grown_pre (W:=W) (V:=W.drewN e) rfl rfl rfl rfl hgrow;have R:=HH.out.addN hgr hown (by rcases hat with e | e;exact .inl e;exact .inr (by omega)) d rfl Hnd.out hone.out;have hcx0:=(cell_at R.2.2 0).trans rfl;have hfx0:w2.frozen? ⟨x,0,none⟩ = false:=(by simp [World.frozen?,R.2.2]);have HR:=hid R;clear R hown hgrow hat hgr hlt2))
     obtain ⟨W3,hW3⟩:∃ W3,w2.setCell ⟨x,0,none⟩ (Value.slice (some ⟨g,0,none⟩) (L.length+1) cap) = W3:=⟨_,rfl⟩
     rw [hW3]
     have hT3:Hid (TB W3 x (.slice (some ⟨g,0,none⟩) (L.length+1) cap) vC (L++[d]) L.length C):=by rw [← hW3];exact HR.out.1
     have hK3:Hid (WK W W3 x (.slice aN L.length cN) vC (.slice (some ⟨g,0,none⟩) (L.length+1) cap) vC):=by rw [← hW3];exact HR.out.2.1
     clear hW3 HR hcx0 hfx0
     obtain ⟨aC,cC,e1,_,_⟩:=New.ints hT3.out.rowC
     rw [Mt.clL_length] at e1
     subst e1
     have hx0:W3.cell? ⟨x,0,none⟩ = some (.slice (some ⟨g,0,none⟩) (L.length+1) cap):=(cell_at hT3.out.cell 0).trans rfl
     have hx1:W3.cell? ⟨x,1,none⟩ = some (.slice aC L.length cC):=(cell_at hT3.out.cell 1).trans rfl
     have hxlt:=hT3.out.lt
     obtain ⟨j0,hj,hj0,hj1,hj2⟩:=info_parts Tryz.info3
     have hrC:Hid (∀ (V:World) (o:Obj),V.heap = (W3.alloc o).heap→V.ownsRow (x+1) 3 1 (.slice aC L.length cC) L.length ((Mt.clL L.length C).map (Value.int .i64))):=fun V o hV=>by
      have h:=hT3.out.rowC
      unfold New at h
      rw [Mt.clL_length] at h
      exact ownsRow_keep (World.ownsRow.alloc h o) fun q _=>by rw [hV]
     have hnewc:Hid (∀ V:World,V.heap = (W3.alloc (.cells #[.int .i64 (L.length:Int)] 3)).heap→V.cell? ⟨W3.heap.size,0,none⟩ = some (.int .i64 (L.length:Int))):=fun V hV=>(cell_heap hV _).trans ((cell_at (World.alloc_heap_new W3 _) 0).trans rfl)
     have hat6:Hid (∀ (V:World) (g:Nat),V.heap = (W3.alloc (.cells #[.int .i64 (L.length:Int)] 3)).heap→((Value.slice aC L.length cC).ownBlock = some g∨g = V.heap.size)→((Value.slice aC L.length cC).ownBlock = some g∨W3.heap.size≤g)):=fun V g hV h=>by
      rcases h with e | e
      ·exact .inl e
      ·exact .inr (by rw [e,hV];simp)
     go_region_law ((refine step_append_cls _ (by rfl) _ _ (by rfl) (x+1) L.length (.slice aC L.length cC) (Mt.clL L.length C) (by rfl) (hrC.out _ _ (by rfl)) W3.heap.size (L.length:Int) (by rfl) (hnewc.out _ (by rfl)) (by omega) (by simp;omega) ?_;intro g5 cap5 w5 hown5 hgrow5 hat5;have hgr5:=grown_pre2 (W:=W3) (tmp:=.cells #[.int .i64 (L.length:Int)] 3) (by rfl) (by rfl) (by rfl) (by rfl) hgrow5;have R5:=hT3.out.addC hgr5 hown5 (hat6.out _ _ (by rfl) hat5);have hS5:w5.cell? ⟨x,1,none⟩ = some (.slice aC L.length cC):=(cell_at R5.2.2 1).trans (by rfl);have hf5:w5.frozen? ⟨x,1,none⟩ = false:=(by simp [World.frozen?,R5.2.2]);have HR5:=hid R5;clear R5 hown5 hgrow5 hat5 hgr5))
     all_goals (
      obtain ⟨W5,hW5⟩:∃ W5,w5.setCell ⟨x,1,none⟩ (Value.slice (some ⟨g5,0,none⟩) (L.length+1) cap5) = W5:=⟨_,rfl⟩
      rw [hW5]
      have hT5:Hid (TB W5 x (.slice (some ⟨g,0,none⟩) (L.length+1) cap) (.slice (some ⟨g5,0,none⟩) (L.length+1) cap5) (L++[d]) (L.length+1) C):=by rw [← hW5];have h:=HR5.out.1;rw [hC] at h;exact h
      have hK5:Hid (WK W W5 x (.slice aN L.length cN) (.slice aC L.length cC) (.slice (some ⟨g,0,none⟩) (L.length+1) cap) (.slice (some ⟨g5,0,none⟩) (L.length+1) cap5)):=by rw [← hW5];exact hK3.out.trans HR5.out.2.1
      have hx5:W5.cell? ⟨x,0,none⟩ = some (.slice (some ⟨g,0,none⟩) (L.length+1) cap):=(cell_at hT5.out.cell 0).trans rfl
      clear hW5 HR5 hS5 hf5 hT3 hK3 hx0 hx1 hrC hnewc hat6 hxlt
      go_wp2
      go_loopw [8] (fun i wr=>∃ (k:Nat) (M:List Nd) (vN' vC':Value),k≤d.Xs.length∧i = .int .i64 (k:Int)∧Hid (TB wr x vN' vC' (L++[d]++M) (L++[d]++M).length C)∧Hid (WK W wr x (.slice aN L.length cN) (.slice aC L.length cC) vN' vC')∧Hid (∀ d'∈M,FullL (L++[d]++M) d')∧Hid (∀ j,j < k→∃ i,FndL (L++[d]++M) (d.Xs[j]?.getD 0) (d.zss[j]?.getD []) i)∧Hid (M.length≤(d.zss.take k).flatten.length)) (fun i _=>d.Xs.length - (intOf i).toNat)
      case atStart=>exact ⟨0,[],_,_,Nat.zero_le _,rfl,by rw [List.append_nil,List.length_append,List.length_singleton];exact hT5,hK5,(fun d' h=>by simp at h),(fun j hj=>by omega),by simp [Hid]⟩
      case round =>
       obtain ⟨k,M,vN',vC',hk,rfl,hTk,hWk,hFk,hPk,hMk⟩:=hrel
       obtain ⟨lo2,hi2,v2,_,_,_,_,_,hN2,hP2,hl2,hz2',_,_⟩:=hTk.out.nds d (by simp)
       obtain ⟨a2,c2,rfl,hc2⟩:=hP2
       have hp1:=hN2.cell1
       have Hl2:=hid hl2
       have Hz2:=hid hz2'
       have Hc2:=hid hc2
       have hr2:=Tm.room_le d.s
       clear hN2 hl2 hz2' hc2
       by_cases hlt:k < d.Xs.length
       ·have hkl:(k:Int) < (d.Xs.length:Int):=by omega
        obtain ⟨b2,o2,rfl,_,_,hcell⟩:=Hc2.out k hlt
        have hfl:=flatten_le (zss:=d.zss) (k:=k) (by have:=Hz2.out;omega)
        have hbound:(L++[d]++M).length+(d.zss[k]?.getD []).length≤5000:=by
         have h1:=Hb5.out
         have h2:=hMk.out
         have h3:d.z.length = 1+d.zss.flatten.length:=by unfold Nd.z;rw [List.length_cons];omega
         rw [List.length_append,List.length_append,List.length_singleton]
         omega
        have hcall:=hid (IH.out k wr vN' vC' (L++[d]++M) hlt hWk.out hTk.out (by rw [List.length_append,List.length_append];omega) hbound)
        have hsn:=hid (flatten_snoc (zss:=d.zss) (k:=k) (by have:=Hz2.out;omega))
        have hdl:(d.Xs.length:Int)≤2:=by have:=Hl2.out;omega
        clear hbound hfl
        obtain ⟨pkk,hpkk⟩:∃ pkk,d.Xs[k]?.getD 0 = pkk:=⟨_,rfl⟩
        rw [hpkk] at hcell hcall
        have Hpkk:=hid hpkk
        clear hpkk
        go_wp2_with (go_at_call 80;refine hcall.out.mono ?_;clear hcall;rintro e6 w6 ⟨i6,vN6,vC6,M6,rfl,hF6,hA6,hT6,hW6,hM6⟩)
        go_roundw
        case rel =>
         have eL:L++[d]++M++M6 = L++[d]++(M++M6):=List.append_assoc _ _ _
         refine ⟨k+1,M++M6,vN6,vC6,by omega,by go_num,?_,hWk.out.trans hW6,?_,?_,?_⟩
         ·have h:=hT6
          rw [extC_of (n:=(L++[d]++M).length) (C:=C) (fun q hq=>by rw [← hC];unfold extC;rw [if_neg (by rw [List.length_append,List.length_append] at hq;omega)]),eL] at h
          exact h
         ·intro d' hd'
          rw [← eL]
          rcases List.mem_append.1 hd' with h | h
          ·exact (hFk.out d' h).app M6
          ·exact hA6 d' h
         ·intro j hj
          rw [← eL]
          by_cases e:j = k
          ·subst e;exact ⟨i6,by rw [Hpkk.out];exact hF6⟩
          ·obtain ⟨i,hi⟩:=hPk.out j (by omega)
           exact ⟨i,hi.app M6⟩
         ·show (M++M6).length≤_
          rw [hsn.out,List.length_append,List.length_append]
          have:=hMk.out
          omega
        case measure=>simp [intOf];omega
       ·obtain rfl:k = d.Xs.length:=by omega
        have hdl:(d.Xs.length:Int)≤2:=by have:=Hl2.out;omega
        go_wp2
        go_ret
        have eL:L++[d]++M = L++([d]++M):=List.append_assoc _ _ _
        refine ⟨L.length,vN',vC',[d]++M,by first | rfl | go_num,?_,?_,?_,hWk.out,?_⟩
        ·rw [← eL]
         have hat:ndAt (L++[d]++M) L.length = d:=by rw [ndAt_app _ (by simp),ndAt_last]
         refine ⟨by simp,by rw [hat],fun h q hq=>?_,fun h=>⟨by rw [hat],fun q hq=>?_⟩⟩
         ·rw [List.append_assoc,ndAt_app _ hq]
          have e2:hd0 d.z = s:=(Nd.hd d).trans Hsd.out
          rw [e2] at h ⊢
          exact H1.out h q hq
         ·rw [List.append_assoc,ndAt_app _ hq]
          exact H2.out q hq
        ·intro d' hd'
         rw [← eL]
         rcases List.mem_append.1 hd' with h | h
         ·rw [List.mem_singleton] at h
          subst h
          exact fun j hj=>hPk.out j hj
         ·exact hFk.out d' h
        ·rw [← eL,hC]
         exact hTk.out
        ·rw [List.length_append,List.length_singleton]
         have h2:=hMk.out
         have h4:=flatten_take_le (zss:=d.zss) d.Xs.length
         unfold Nd.z
         rw [List.length_cons]
         omega)
  ·have h0n:decide ((0:Int) < (L.length:Int)) = false:=by have hL0:L.length = 0:=(by omega);rw [hL0];rfl
   have h0m:decide (0 < L.length) = false:=by simpa using h0
   go_enter Tryz.func80,Tryz.ntmps80
   go_wp2
   refine wp_loop_rounds 1 ?_
   rw [rounds_succ]
   go_wp2
   go_loopw [6] (fun i wr=>∃ k:Nat,k≤L.length∧i = .int .i64 (k:Int)∧∃ e,wr = W.drewN e) (fun i _=>L.length - (intOf i).toNat)
   case atStart=>exact ⟨0,Nat.zero_le _,rfl,0,rfl⟩
   case round =>
    obtain ⟨k,hk,rfl,e,rfl⟩:=hrel
    by_cases hlt:k < L.length
    ·exact absurd hlt (by omega)
    ·obtain rfl:k = L.length:=by omega
     go_wp2_with (first
      | (at_builtin;go_loud (refine wpList_append_lies _ rfl _ _ 113 rfl (x+1) 117 i0 (.pointer none) 1 8 Tryz.underlying113 hi hz0 hz1 hz2 rfl (by decide) _ L.length (L.map fun d=>ptr d.X) rfl (World.ownsRow.alloc (show (W.drewN e).ownsRow _ _ _ _ _ _ from HH.out.rowN) _) ⟨W.heap.size,0,none⟩ 1 1 [ptr d.X] rfl rfl (cell_one_new _ _ _) (by simp [Value.oneCell',ptr]) (by decide) (by unfold maxLen;omega) (by omega) (by have:=HH.out.lt;simp;omega) (W.heap.size+1) (by simp) ?_);intro g cap w2 hown hgrow hat hlt2;have hgr:=grown_pre (W:=W) (V:=W.drewN e) rfl rfl rfl rfl hgrow;have R:=HH.out.addN hgr hown (by rcases hat with e | e;exact .inl e;exact .inr (by omega)) d rfl Hnd.out hone.out;have hcx0:=(cell_at R.2.2 0).trans rfl;have hfx0:w2.frozen? ⟨x,0,none⟩ = false:=(by simp [World.frozen?,R.2.2]);have HR:=hid R;clear R hown hgrow hat hgr hlt2))
     obtain ⟨W3,hW3⟩:∃ W3,w2.setCell ⟨x,0,none⟩ (Value.slice (some ⟨g,0,none⟩) (L.length+1) cap) = W3:=⟨_,rfl⟩
     rw [hW3]
     have hT3:Hid (TB W3 x (.slice (some ⟨g,0,none⟩) (L.length+1) cap) vC (L++[d]) L.length C):=by rw [← hW3];exact HR.out.1
     have hK3:Hid (WK W W3 x (.slice aN L.length cN) vC (.slice (some ⟨g,0,none⟩) (L.length+1) cap) vC):=by rw [← hW3];exact HR.out.2.1
     clear hW3 HR hcx0 hfx0
     obtain ⟨aC,cC,e1,_,_⟩:=New.ints hT3.out.rowC
     rw [Mt.clL_length] at e1
     subst e1
     have hx0:W3.cell? ⟨x,0,none⟩ = some (.slice (some ⟨g,0,none⟩) (L.length+1) cap):=(cell_at hT3.out.cell 0).trans rfl
     have hx1:W3.cell? ⟨x,1,none⟩ = some (.slice aC L.length cC):=(cell_at hT3.out.cell 1).trans rfl
     have hxlt:=hT3.out.lt
     obtain ⟨j0,hj,hj0,hj1,hj2⟩:=info_parts Tryz.info3
     have hrC:Hid (∀ (V:World) (o:Obj),V.heap = (W3.alloc o).heap→V.ownsRow (x+1) 3 1 (.slice aC L.length cC) L.length ((Mt.clL L.length C).map (Value.int .i64))):=fun V o hV=>by
      have h:=hT3.out.rowC
      unfold New at h
      rw [Mt.clL_length] at h
      exact ownsRow_keep (World.ownsRow.alloc h o) fun q _=>by rw [hV]
     have hnewc:Hid (∀ V:World,V.heap = (W3.alloc (.cells #[.int .i64 (L.length:Int)] 3)).heap→V.cell? ⟨W3.heap.size,0,none⟩ = some (.int .i64 (L.length:Int))):=fun V hV=>(cell_heap hV _).trans ((cell_at (World.alloc_heap_new W3 _) 0).trans rfl)
     have hat6:Hid (∀ (V:World) (g:Nat),V.heap = (W3.alloc (.cells #[.int .i64 (L.length:Int)] 3)).heap→((Value.slice aC L.length cC).ownBlock = some g∨g = V.heap.size)→((Value.slice aC L.length cC).ownBlock = some g∨W3.heap.size≤g)):=fun V g hV h=>by
      rcases h with e | e
      ·exact .inl e
      ·exact .inr (by rw [e,hV];simp)
     go_region_law ((refine step_append_cls _ (by rfl) _ _ (by rfl) (x+1) L.length (.slice aC L.length cC) (Mt.clL L.length C) (by rfl) (hrC.out _ _ (by rfl)) W3.heap.size (L.length:Int) (by rfl) (hnewc.out _ (by rfl)) (by omega) (by simp;omega) ?_;intro g5 cap5 w5 hown5 hgrow5 hat5;have hgr5:=grown_pre2 (W:=W3) (tmp:=.cells #[.int .i64 (L.length:Int)] 3) (by rfl) (by rfl) (by rfl) (by rfl) hgrow5;have R5:=hT3.out.addC hgr5 hown5 (hat6.out _ _ (by rfl) hat5);have hS5:w5.cell? ⟨x,1,none⟩ = some (.slice aC L.length cC):=(cell_at R5.2.2 1).trans (by rfl);have hf5:w5.frozen? ⟨x,1,none⟩ = false:=(by simp [World.frozen?,R5.2.2]);have HR5:=hid R5;clear R5 hown5 hgrow5 hat5 hgr5))
     all_goals (
      obtain ⟨W5,hW5⟩:∃ W5,w5.setCell ⟨x,1,none⟩ (Value.slice (some ⟨g5,0,none⟩) (L.length+1) cap5) = W5:=⟨_,rfl⟩
      rw [hW5]
      have hT5:Hid (TB W5 x (.slice (some ⟨g,0,none⟩) (L.length+1) cap) (.slice (some ⟨g5,0,none⟩) (L.length+1) cap5) (L++[d]) (L.length+1) C):=by rw [← hW5];have h:=HR5.out.1;rw [hC] at h;exact h
      have hK5:Hid (WK W W5 x (.slice aN L.length cN) (.slice aC L.length cC) (.slice (some ⟨g,0,none⟩) (L.length+1) cap) (.slice (some ⟨g5,0,none⟩) (L.length+1) cap5)):=by rw [← hW5];exact hK3.out.trans HR5.out.2.1
      have hx5:W5.cell? ⟨x,0,none⟩ = some (.slice (some ⟨g,0,none⟩) (L.length+1) cap):=(cell_at hT5.out.cell 0).trans rfl
      clear hW5 HR5 hS5 hf5 hT3 hK3 hx0 hx1 hrC hnewc hat6 hxlt
      go_wp2
      go_loopw [8] (fun i wr=>∃ (k:Nat) (M:List Nd) (vN' vC':Value),k≤d.Xs.length∧i = .int .i64 (k:Int)∧Hid (TB wr x vN' vC' (L++[d]++M) (L++[d]++M).length C)∧Hid (WK W wr x (.slice aN L.length cN) (.slice aC L.length cC) vN' vC')∧Hid (∀ d'∈M,FullL (L++[d]++M) d')∧Hid (∀ j,j < k→∃ i,FndL (L++[d]++M) (d.Xs[j]?.getD 0) (d.zss[j]?.getD []) i)∧Hid (M.length≤(d.zss.take k).flatten.length)) (fun i _=>d.Xs.length - (intOf i).toNat)
      case atStart=>exact ⟨0,[],_,_,Nat.zero_le _,rfl,by rw [List.append_nil,List.length_append,List.length_singleton];exact hT5,hK5,(fun d' h=>by simp at h),(fun j hj=>by omega),by simp [Hid]⟩
      case round =>
       obtain ⟨k,M,vN',vC',hk,rfl,hTk,hWk,hFk,hPk,hMk⟩:=hrel
       obtain ⟨lo2,hi2,v2,_,_,_,_,_,hN2,hP2,hl2,hz2',_,_⟩:=hTk.out.nds d (by simp)
       obtain ⟨a2,c2,rfl,hc2⟩:=hP2
       have hp1:=hN2.cell1
       have Hl2:=hid hl2
       have Hz2:=hid hz2'
       have Hc2:=hid hc2
       have hr2:=Tm.room_le d.s
       clear hN2 hl2 hz2' hc2
       by_cases hlt:k < d.Xs.length
       ·have hkl:(k:Int) < (d.Xs.length:Int):=by omega
        obtain ⟨b2,o2,rfl,_,_,hcell⟩:=Hc2.out k hlt
        have hfl:=flatten_le (zss:=d.zss) (k:=k) (by have:=Hz2.out;omega)
        have hbound:(L++[d]++M).length+(d.zss[k]?.getD []).length≤5000:=by
         have h1:=Hb5.out
         have h2:=hMk.out
         have h3:d.z.length = 1+d.zss.flatten.length:=by unfold Nd.z;rw [List.length_cons];omega
         rw [List.length_append,List.length_append,List.length_singleton]
         omega
        have hcall:=hid (IH.out k wr vN' vC' (L++[d]++M) hlt hWk.out hTk.out (by rw [List.length_append,List.length_append];omega) hbound)
        have hsn:=hid (flatten_snoc (zss:=d.zss) (k:=k) (by have:=Hz2.out;omega))
        have hdl:(d.Xs.length:Int)≤2:=by have:=Hl2.out;omega
        clear hbound hfl
        obtain ⟨pkk,hpkk⟩:∃ pkk,d.Xs[k]?.getD 0 = pkk:=⟨_,rfl⟩
        rw [hpkk] at hcell hcall
        have Hpkk:=hid hpkk
        clear hpkk
        go_wp2_with (go_at_call 80;refine hcall.out.mono ?_;clear hcall;rintro e6 w6 ⟨i6,vN6,vC6,M6,rfl,hF6,hA6,hT6,hW6,hM6⟩)
        go_roundw
        case rel =>
         have eL:L++[d]++M++M6 = L++[d]++(M++M6):=List.append_assoc _ _ _
         refine ⟨k+1,M++M6,vN6,vC6,by omega,by go_num,?_,hWk.out.trans hW6,?_,?_,?_⟩
         ·have h:=hT6
          rw [extC_of (n:=(L++[d]++M).length) (C:=C) (fun q hq=>by rw [← hC];unfold extC;rw [if_neg (by rw [List.length_append,List.length_append] at hq;omega)]),eL] at h
          exact h
         ·intro d' hd'
          rw [← eL]
          rcases List.mem_append.1 hd' with h | h
          ·exact (hFk.out d' h).app M6
          ·exact hA6 d' h
         ·intro j hj
          rw [← eL]
          by_cases e:j = k
          ·subst e;exact ⟨i6,by rw [Hpkk.out];exact hF6⟩
          ·obtain ⟨i,hi⟩:=hPk.out j (by omega)
           exact ⟨i,hi.app M6⟩
         ·show (M++M6).length≤_
          rw [hsn.out,List.length_append,List.length_append]
          have:=hMk.out
          omega
        case measure=>simp [intOf];omega
       ·obtain rfl:k = d.Xs.length:=by omega
        have hdl:(d.Xs.length:Int)≤2:=by have:=Hl2.out;omega
        go_wp2
        go_ret
        have eL:L++[d]++M = L++([d]++M):=List.append_assoc _ _ _
        refine ⟨L.length,vN',vC',[d]++M,by first | rfl | go_num,?_,?_,?_,hWk.out,?_⟩
        ·rw [← eL]
         have hat:ndAt (L++[d]++M) L.length = d:=by rw [ndAt_app _ (by simp),ndAt_last]
         refine ⟨by simp,by rw [hat],fun h q hq=>?_,fun h=>⟨by rw [hat],fun q hq=>?_⟩⟩
         ·rw [List.append_assoc,ndAt_app _ hq]
          have e2:hd0 d.z = s:=(Nd.hd d).trans Hsd.out
          rw [e2] at h ⊢
          exact H1.out h q hq
         ·rw [List.append_assoc,ndAt_app _ hq]
          exact H2.out q hq
        ·intro d' hd'
         rw [← eL]
         rcases List.mem_append.1 hd' with h | h
         ·rw [List.mem_singleton] at h
          subst h
          exact fun j hj=>hPk.out j hj
         ·exact hFk.out d' h
        ·rw [← eL,hC]
         exact hTk.out
        ·rw [List.length_append,List.length_singleton]
         have h2:=hMk.out
         have h4:=flatten_take_le (zss:=d.zss) d.Xs.length
         unfold Nd.z
         rw [List.length_cons]
         omega)
theorem node_all {lo hi:Nat} {W0:World} {X:Nat} {zs:List Int} (h:TreeIn lo hi W0 X zs):(∀ s∈zs,-8≤s∧s < 6)→∀ (W:World) (x:Nat) (vN vC:Value) (L:List Nd) (C:Nat→Nat),(∀ k,lo≤k→k < hi→W.heap[k]? = W0.heap[k]?)→hi≤W.heap.size→x < lo→Far vN vC lo hi→TB W x vN vC L L.length C→extC L.length C = C→L.length+zs.length≤5000 →
 Calls Tryz.prog 80 #[ptr x,ptr X] W fun e w'=>NodeAns W w' e x vN vC L C X zs:=by
 induction h with
 | mk X s v Xs zss hX1 hX2 hN hP hr hl hT ih =>
  intro hkn W x vN vC L C hW hhi hx hfar HB hC h5
  have hN':Node W X s v:=(hW X hX1 hX2).trans hN
  have hT':TreeIn lo hi W X (s :: zss.flatten):=(TreeIn.mk X s v Xs zss hX1 hX2 hN hP hr hl hT).keep (Nat.le_refl _) (Nat.le_refl _) hW
  have hnd:NdAt W x vN vC ⟨X,s,Xs,zss⟩:=⟨lo,hi,v,hx,hhi,hfar,hX1,hX2,hN',hP.keep (Nat.le_refl _) (Nat.le_refl _) hW,hr,hl,hkn,fun j hj=>(hT j hj).keep (Nat.le_refl _) (Nat.le_refl _) hW⟩
  by_cases h1:s < 0∧∃ k,k < L.length∧(ndAt L k).s = s
  ·obtain ⟨hs,h1⟩:=h1
   obtain ⟨i,hi1,hi2,hi3⟩:=least _ h1
   refine node_hit HB (by omega) X (s :: zss.flatten) i ⟨hi1,?_,fun _ k hk=>hi3 k hk,fun h=>?_⟩ hN' hC
   ·have e1:=Nd.var (HB.nds _ (ndAt_mem hi1)) (by omega)
    have e2:=Nd.var hnd hs
    rw [e1,hi2]
    exact e2.symm
   ·have h':0≤s:=h
    omega
  ·by_cases h2:∃ k,k < L.length∧(ndAt L k).X = X
   ·obtain ⟨i,hi1,hi2,hi3⟩:=least _ h2
    obtain ⟨l2,h2',hT2⟩:=(HB.nds _ (ndAt_mem hi1)).tree
    obtain ⟨v2,hN2⟩:=(HB.nds _ (ndAt_mem hi1)).node
    rw [hi2] at hT2 hN2
    obtain ⟨es,_⟩:=node_one hN2 hN'
    refine node_hit HB (by omega) X (s :: zss.flatten) i ⟨hi1,hT2.one hT',fun h=>?_,fun _=>⟨hi2,fun k hk=>hi3 k hk⟩⟩ hN' hC
    exact absurd ⟨h,i,hi1,es⟩ h1
   ·refine node_new HB ⟨X,s,Xs,zss⟩ h5 hnd (fun hs k hk e=>h1 ⟨hs,k,hk,e⟩) (fun k hk e=>h2 ⟨k,hk,e⟩) hC ?_
    intro j W' vN' vC' L' hj hWK HB' hLL h5'
    have hmem:∀ q∈zss[j]?.getD [],-8≤q∧q < 6:=fun q hq=>by
     refine hkn q (List.mem_cons_of_mem _ (List.mem_flatten.2 ⟨zss[j]?.getD [],?_,hq⟩))
     have hj':j < zss.length:=by rw [hl];exact hj
     rw [List.getElem?_eq_getElem hj']
     exact List.getElem_mem hj'
    exact ih j hj hmem W' x vN' vC' L' C (fun k k1 k2=>(hWK.keeps hfar hx hhi k k1 k2).trans (hW k k1 k2)) (by have:=hWK.size;omega) hx (hWK.far hfar hhi) HB' (extC_of fun k hk=>by rw [← hC];unfold extC;rw [if_neg (by omega)]) h5'
def ndN (L:List Nd) (k:Nat):Nat:=(ndAt L k).X
def ndS (L:List Nd) (k:Nat):Int:=(ndAt L k).s
def ndZ (L:List Nd) (k:Nat):List Int:=(ndAt L k).z
def ndP (L:List Nd) (k i:Nat):Nat:=(ndAt L k).Xs[i]?.getD 0
theorem listOf {R:Nat→Nat→Prop}:∀ m,(∀ j,j < m→∃ i,R j i)→∃ l:List Nat,l.length = m∧∀ j,j < m→R j (l[j]?.getD 0):=by
 intro m
 induction m with
 | zero=>intro _;exact ⟨[],rfl,fun j hj=>by omega⟩
 | succ m ih =>
  intro h
  obtain ⟨l,h1,h2⟩:=ih fun j hj=>h j (by omega)
  obtain ⟨i,hi⟩:=h m (by omega)
  refine ⟨l++[i],by simp [h1],fun j hj=>?_⟩
  by_cases e:j = m
  ·subst e;rw [← h1];simpa [h1] using hi
  ·rw [List.getElem?_append_left (by omega)];exact h2 j (by omega)
def KidsL (L:List Nd) (K:Nat→List Nat):Prop:=∀ k,k < L.length→(K k).length = (ndAt L k).Xs.length∧∀ j,j < (ndAt L k).Xs.length→FndL L (ndP L k j) ((ndAt L k).zss[j]?.getD []) ((K k)[j]?.getD 0)
theorem kidsL {L:List Nd} (h:∀ d∈L,FullL L d):∃ K,KidsL L K:=by
 have h1:∀ k:Nat,∃ l:List Nat,k < L.length→l.length = (ndAt L k).Xs.length∧∀ j,j < (ndAt L k).Xs.length→FndL L (ndP L k j) ((ndAt L k).zss[j]?.getD []) (l[j]?.getD 0):=fun k=>by
  by_cases hk:k < L.length
  ·obtain ⟨l,h2,h3⟩:=listOf _ (h _ (ndAt_mem hk))
   exact ⟨l,fun _=>⟨h2,h3⟩⟩
  ·exact ⟨[],fun h=>absurd h hk⟩
 obtain ⟨K,hK⟩:=Classical.skolem.1 h1
 exact ⟨K,hK⟩
theorem kidsL_gph {W:World} {x:Nat} {vN vC:Value} {L:List Nd} {m:Nat} {C:Nat→Nat} (H:TB W x vN vC L m C) {K:Nat→List Nat} (hK:KidsL L K):Mt.Gph L.length (ndS L) K (ndZ L):=by
 refine ⟨fun k hk=>?_,fun k hk=>?_,fun k hk i hi=>?_,fun k hk=>?_,fun i j hi hj hs e=>H.one i j hi hj hs e⟩
 ·obtain ⟨_,_,_,_,_,_,_,_,_,_,_,_,h10,_⟩:=H.nds _ (ndAt_mem hk)
  exact h10 _ (by unfold Nd.z;simp [ndS])
 ·obtain ⟨_,_,_,_,_,_,_,_,_,_,h8,_⟩:=H.nds _ (ndAt_mem hk)
  rw [(hK k hk).1,h8];rfl
 ·obtain ⟨j,hj,e⟩:=List.getElem_of_mem hi
  have h:=((hK k hk).2 j (by rw [← (hK k hk).1];exact hj)).1
  rw [List.getElem?_eq_getElem hj,e] at h
  exact h
 ·obtain ⟨_,_,_,_,_,_,_,_,_,_,h8,h9,_⟩:=H.nds _ (ndAt_mem hk)
  show (ndAt L k).s :: (ndAt L k).zss.flatten = _
  have e:(K k).map (ndZ L) = (ndAt L k).zss:=by
   refine List.ext_getElem (by rw [List.length_map,(hK k hk).1,h9]) fun j j1 j2=>?_
   rw [List.length_map] at j1
   rw [List.getElem_map]
   have h:=((hK k hk).2 j (by rw [← (hK k hk).1];exact j1)).2.1
   rw [List.getElem?_eq_getElem j1,List.getElem?_eq_getElem j2] at h
   exact h
  rw [e]
  rfl
theorem tree_head {lo hi:Nat} {W:World} {X:Nat} {zs:List Int} (h:TreeIn lo hi W X zs):lo≤X∧X < hi∧∃ v,Node W X (hd0 zs) v:=by
 cases h with
 | mk _ s v Xs zss h1 h2 hN=>exact ⟨h1,h2,v,hN⟩
theorem TB.ties {W:World} {x:Nat} {vN vC:Value} {L:List Nd} {C:Nat→Nat} (H:TB W x vN vC L L.length C) {K:Nat→List Nat} (hK:KidsL L K) (h5:L.length≤5000) (h0:0 < L.length):∃ aN cN g cC,vN = .slice aN L.length cN∧vC = .slice (some ⟨g,0,none⟩) L.length cC∧TiesO W x L.length aN cN g cC (ndN L) C (ndS L) K (ndP L):=by
 obtain ⟨gC,cC,rfl,_⟩:=New.at0 H.rowC (by rw [Mt.clL_length];exact h0)
 rw [Mt.clL_length] at H
 obtain ⟨gN,cN,rfl,hgN,_⟩:=World.ownsRow.form H.rowN h0
 refine ⟨some ⟨gN,0,none⟩,cN,gC,cC,rfl,by rw [Mt.clL_length],(World.ownsRow.lt H.rowC gC rfl).2,fun W' hk C' hC'=>?_,?_⟩
 ·have hgC:=(World.ownsRow.lt H.rowC gC rfl).1
  have hx:W'.heap[x]? = W.heap[x]?:=hk.block x H.lt (by omega)
  have hN':W'.heap[gN]? = W.heap[gN]?:=hk.block gN (World.ownsRow.lt H.rowN gN rfl).2 fun e=>H.apart (q:=gC) (by rw [e];rfl) rfl
  refine ⟨(World.cell?_of_block (a:=⟨x,0,none⟩) hx).trans ((cell_at H.cell 0).trans rfl),(World.cell?_of_block (a:=⟨x,1,none⟩) hx).trans ((cell_at H.cell 1).trans rfl),fun k hk'=>?_,fun k hk'=>⟨gC,0,rfl,by rw [Nat.zero_add];exact hC' k hk'⟩,fun k hk'=>?_,fun k i hk' hi=>?_,fun k i hk' hi=>?_,h5⟩
  ·obtain ⟨aN,cN',e,hf⟩:=H.form
   simp only [Value.slice.injEq,true_and] at e
   obtain ⟨rfl,rfl⟩:=e
   obtain ⟨b,off,e,hc⟩:=hf k hk'
   simp only [Option.some.injEq,Addr.mk.injEq] at e
   obtain ⟨rfl,rfl,_⟩:=e
   exact ⟨gN,0,rfl,(World.cell?_of_block (a:=⟨gN,0+k,none⟩) hN').trans hc⟩
  ·obtain ⟨lo,hi,v,h1,h2,h3,h4,h5',h6,⟨a,c,rfl,h7⟩,h8,h9,h10,h11⟩:=H.nds _ (ndAt_mem hk')
   have hfar:∀ q,lo≤q→q < hi→W'.heap[q]? = W.heap[q]?:=fun q q1 q2=>hk.block q (by omega) fun e=>by have:=h3 gC (.inr rfl);omega
   rw [h8] at h6 h7
   refine ⟨a,c,(hfar _ h4 h5').trans h6,fun i hi=>?_⟩
   obtain ⟨b,off,e,b1,b2,hc⟩:=h7 i hi
   exact ⟨b,off,e,(World.cell?_of_block (a:=⟨b,off+i,none⟩) (hfar b b1 b2)).trans hc⟩
  ·obtain ⟨lo,hi',v,h1,h2,h3,h4,h5',h6,h7,h8,h9,h10,h11⟩:=H.nds _ (ndAt_mem hk')
   have hfar:∀ q,lo≤q→q < hi'→W'.heap[q]? = W.heap[q]?:=fun q q1 q2=>hk.block q (by omega) fun e=>by have:=h3 gC (.inr rfl);omega
   have hi2:i < (ndAt L k).Xs.length:=by rw [h8];exact hi
   obtain ⟨t1,t2,v',t3⟩:=tree_head (h11 i hi2)
   have hF:=(hK k hk').2 i hi2
   have es:ndS L ((K k)[i]?.getD 0) = hd0 ((ndAt L k).zss[i]?.getD []):=by rw [← hF.2.1];rfl
   rw [es]
   exact ⟨v',(hfar _ t1 t2).trans t3⟩
  ·obtain ⟨lo,hi',v,h1,h2,h3,h4,h5',h6,h7,h8,h9,h10,h11⟩:=H.nds _ (ndAt_mem hk')
   obtain ⟨f1,f2,f3,f4⟩:=(hK k hk').2 i (by rw [h8];exact hi)
   have es:ndS L ((K k)[i]?.getD 0) = hd0 ((ndAt L k).zss[i]?.getD []):=by rw [← f2];rfl
   exact ⟨f1,fun h q hq=>by rw [es];exact f3 (by rw [← es];exact h) q hq,fun h=>f4 (by rw [← es];exact h)⟩
 ·exact H.rowC.mono (Nat.zero_le _)
theorem New.rebase {base base':Nat} {W:World} {g n c:Nat} {zs:List Int} (h:New base W (.slice (some ⟨g,0,none⟩) n c) zs) (hb:base'≤g):New base' W (.slice (some ⟨g,0,none⟩) n c) zs:=by
 refine ⟨h.1,?_⟩
 rcases h.2 with ⟨e,_⟩ | ⟨g',c',cur,e,_,h3⟩
 ·cases e
 ·cases e
  exact .inr ⟨_,_,cur,rfl,hb,h3⟩
theorem TB.tied {W W':World} {x:Nat} {vN:Value} {L:List Nd} {m g cC:Nat} {C C':Nat→Nat} (H:TB W x vN (.slice (some ⟨g,0,none⟩) m cC) L m C) (hk:Keep W.heap.size g W W') (hN:New 0 W' (.slice (some ⟨g,0,none⟩) m cC) (Mt.clL m C')):TB W' x vN (.slice (some ⟨g,0,none⟩) m cC) L m C'∧WK W W' x vN (.slice (some ⟨g,0,none⟩) m cC) vN (.slice (some ⟨g,0,none⟩) m cC):=by
 have hgC:=(World.ownsRow.lt H.rowC g rfl).1
 have hwk:WK W W' x vN (.slice (some ⟨g,0,none⟩) m cC) vN (.slice (some ⟨g,0,none⟩) m cC):=⟨hk.os,hk.tape,hk.output,hk.size,fun k h1 _ _ h4=>hk.block k h1 fun e=>h4 (by rw [e];rfl),fun _ h=>.inl h,fun _ h=>.inl h⟩
 refine ⟨⟨(hk.block x H.lt (by omega)).trans H.cell,ownsRow_keep H.rowN fun q hq=>hk.block q (World.ownsRow.lt H.rowN q hq).2 fun e=>H.apart hq (by rw [e];rfl),hN.rebase hgC,fun d hd=>(H.nds d hd).keep hwk,H.one⟩,hwk⟩
theorem WK.below {W W':World} {x:Nat} {vN vC vN' vC':Value} {L:List Nd} {m:Nat} {C:Nat→Nat} (h:WK W W' x vN vC vN' vC') (H:TB W x vN vC L m C):Below x W W' :=
 ⟨h.os,h.tape,h.output,h.size,fun k hk=>h.block k (by have:=H.lt;omega) (by omega) (fun e=>by have:=(World.ownsRow.lt H.rowN k e.symm).1;omega) (fun e=>by have:=(World.ownsRow.lt H.rowC k e.symm).1;omega)⟩
structure MI (ps:PairL) (k:Nat) (L:List Nd) (C:Nat→Nat):Prop where
 lt:∀ q,q < L.length→C q < L.length
 out:∀ q,L.length≤q→C q = q
 sound:∀ θ,Wb.TermSb θ→Wb.Same ps k θ→Mt.Resp L.length (ndZ L) C θ
 tied:∀ j,j < k→∃ a b,a < L.length∧b < L.length∧ndZ L a = (ps[j]?.getD ([],[])).1∧ndZ L b = (ps[j]?.getD ([],[])).2∧C a = C b
 full:∀ d∈L,FullL L d
theorem MI.start (ps:PairL):MI ps 0 [] (fun q=>q):=⟨fun q h=>by simp at h,fun _ _=>rfl,fun _ _ _ i _ h=>by simp at h,fun j hj=>by omega,fun d h=>by simp at h⟩
theorem MI.extC {ps:PairL} {k:Nat} {L:List Nd} {C:Nat→Nat} (H:MI ps k L C):extC L.length C = C:=extC_of H.out
theorem ndZ_app {L:List Nd} (M:List Nd) {k:Nat} (h:k < L.length):ndZ (L++M) k = ndZ L k:=by unfold ndZ;rw [ndAt_app M h]
theorem MI.ext {ps:PairL} {k:Nat} {L:List Nd} {C:Nat→Nat} (H:MI ps k L C) {M:List Nd} (hM:∀ d∈M,FullL (L++M) d):MI ps k (L++M) C:=by
 refine ⟨fun q hq=>?_,fun q hq=>H.out q (by rw [List.length_append] at hq;omega),fun θ hθ hs i j hi hj e=>?_,fun j hj=>?_,fun d hd=>?_⟩
 ·rw [List.length_append] at hq ⊢
  by_cases h:q < L.length
  ·have:=H.lt q h;omega
  ·rw [H.out q (by omega)];exact hq
 ·by_cases h1:i < L.length
  ·by_cases h2:j < L.length
   ·rw [ndZ_app M h1,ndZ_app M h2];exact H.sound θ hθ hs i j h1 h2 e
   ·rw [H.out j (by omega)] at e;have:=H.lt i h1;omega
  ·rw [H.out i (by omega)] at e
   by_cases h2:j < L.length
   ·have:=H.lt j h2;omega
   ·rw [H.out j (by omega)] at e;rw [e]
 ·obtain ⟨a,b,ha,hb,e1,e2,e3⟩:=H.tied j hj
  exact ⟨a,b,by rw [List.length_append];omega,by rw [List.length_append];omega,by rw [ndZ_app M ha];exact e1,by rw [ndZ_app M hb];exact e2,e3⟩
 ·rcases List.mem_append.1 hd with h | h
  ·exact (H.full d h).app M
  ·exact hM d h
theorem MI.tie {ps:PairL} {k:Nat} {L:List Nd} {C:Nat→Nat} (H:MI ps k L C) {a b:Nat} (ha:a < L.length) (hb:b < L.length) (e1:ndZ L a = (ps[k]?.getD ([],[])).1) (e2:ndZ L b = (ps[k]?.getD ([],[])).2):MI ps (k+1) L (Mt.tied C a b):=by
 refine ⟨Mt.tied_lt H.lt hb,fun q hq=>?_,fun θ hθ hs=>?_,fun j hj=>?_,H.full⟩
 ·unfold Mt.tied
  have:=H.lt a ha
  rw [H.out q hq,if_neg (by omega)]
 ·obtain ⟨h1,h2⟩:=hs.succ
  refine (H.sound θ hθ h1).tie ha hb ?_
  rw [e1,e2]
  exact h2
 ·by_cases e:j = k
  ·subst e
   exact ⟨a,b,ha,hb,e1,e2,Mt.tied_same C a b⟩
  ·obtain ⟨a',b',ha',hb',f1,f2,f3⟩:=H.tied j (by omega)
   exact ⟨a',b',ha',hb',f1,f2,Mt.tied_mono a b f3⟩
theorem TB.below {W W1:World} {x:Nat} {vN vC:Value} {L:List Nd} {m:Nat} {C:Nat→Nat} (H:TB W x vN vC L m C) (hB:Below W.heap.size W W1):TB W1 x vN vC L m C∧WK W W1 x vN vC vN vC:=by
 have hwk:WK W W1 x vN vC vN vC:=⟨hB.os,hB.tape,hB.output,hB.size,fun k hk _ _ _=>hB.block k hk,fun _ h=>.inl h,fun _ h=>.inl h⟩
 exact ⟨⟨(hB.block x H.lt).trans H.cell,ownsRow_keep H.rowN fun q hq=>hB.block q (World.ownsRow.lt H.rowN q hq).2,ownsRow_keep H.rowC fun q hq=>hB.block q (World.ownsRow.lt H.rowC q hq).2,fun d hd=>(H.nds d hd).keep hwk,H.one⟩,hwk⟩
theorem TB.start (w:World):TB (w.alloc (.cells #[.slice none 0 0,.slice none 0 0] 115)) w.heap.size (.slice none 0 0) (.slice none 0 0) [] 0 (fun q=>q) :=
 ⟨World.alloc_heap_new w _,World.ownsRow_nil _ _ _ _,New.nil _ _,fun d hd=>by simp at hd,fun i j hi=>by simp at hi⟩
theorem node_tree {W W1:World} {x:Nat} {vN vC:Value} {L:List Nd} {C:Nat→Nat} (H:TB W x vN vC L L.length C) (hB:Below W.heap.size W W1) {zs:List Int} (hT:TreeIn W.heap.size W1.heap.size W1 W.heap.size zs) (he:Tm.err zs = 0) (hC:extC L.length C = C) (h5:L.length+zs.length≤5000) :
 Calls Tryz.prog 80 #[ptr x,ptr W.heap.size] W1 fun e w'=>NodeAns W1 w' e x vN vC L C W.heap.size zs:=by
 refine node_all hT (fun s hs=>?_) W1 x vN vC L C (fun _ _ _=>rfl) (Nat.le_refl _) H.lt (fun q hq=>?_) (H.below hB).1 hC h5
 ·have h:=Tm.err_all he
  rw [List.all_eq_true] at h
  have:=h s hs
  exact ⟨Tm.known_ge this,Tm.known_lt this⟩
 ·rcases hq with e | e
  ·exact .inl (World.ownsRow.lt H.rowN q e).2
  ·exact .inl (World.ownsRow.lt H.rowC q e).2
theorem tie_tb {W:World} {x:Nat} {vN vC:Value} {L:List Nd} {C:Nat→Nat} (H:TB W x vN vC L L.length C) (hF:∀ d∈L,FullL L d) (h5:L.length≤5000) (a b:Nat) (ha:a < L.length) (hb:b < L.length) :
 Calls Tryz.prog 82 #[ptr x,.int .i64 (a:Int),.int .i64 (b:Int)] W fun e w'=>(∃ v,e = .returned v)∧TB w' x vN vC L L.length (Mt.tied C a b)∧WK W w' x vN vC vN vC:=by
 obtain ⟨K,hK⟩:=kidsL hF
 obtain ⟨aN,cN,g,cC,rfl,rfl,hO⟩:=H.ties hK h5 (by omega)
 refine (tie_any W hO a b ha hb).mono ?_
 rintro e w' ⟨hv,hk,hO'⟩
 obtain ⟨h1,h2⟩:=H.tied hk hO'.2.2
 exact ⟨hv,h1,h2⟩
namespace Mt
def sigT (n:Nat) (S:Nat→Int) (K:Nat→List Nat) (C:Nat→Nat) (k:Nat):Wb.Sb:=fun v=>match (List.range k).find? fun q=>decide (S q = v) with
 | some q=>bec n S K C (n+1) (C q)
 | none=>[v]
theorem sigT_else {n:Nat} {S:Nat→Int} {K:Nat→List Nat} {C:Nat→Nat} {k:Nat} {v:Int} (h:S k≠v):sigT n S K C (k+1) v = sigT n S K C k v:=by
 unfold sigT
 rw [List.range_succ,List.find?_append]
 cases hf:(List.range k).find? fun q=>decide (S q = v) with
 | some q=>rfl
 | none=>simp [h]
theorem sigT_here {n:Nat} {S:Nat→Int} {K:Nat→List Nat} {C:Nat→Nat} {k:Nat} (h:∀ q,q < k→S q≠S k):sigT n S K C (k+1) (S k) = bec n S K C (n+1) (C k):=by
 unfold sigT
 rw [List.range_succ,List.find?_append,List.find?_eq_none.2 fun q hq=>by simpa using h q (List.mem_range.1 hq)]
 simp
theorem sbL_step {σ τ:Wb.Sb} {j:Nat} {t:List Int} (h1:τ (-1 - (j:Int)) = t) (h2:∀ v,v≠-1 - (j:Int)→τ v = σ v):Tm.sbL τ = (Tm.sbL σ).set j t:=by
 refine List.ext_getElem (by rw [List.length_set,Tm.sbL_length,Tm.sbL_length]) fun i i1 i2=>?_
 rw [Tm.sbL_length] at i1
 rw [List.getElem_set]
 have a1:=Tm.sbL_at τ i1
 have a2:=Tm.sbL_at σ i1
 rw [List.getElem?_eq_getElem (by rw [Tm.sbL_length];exact i1)] at a1 a2
 simp only [Option.getD_some] at a1 a2
 by_cases e:j = i
 ·subst e
  rw [if_pos rfl,a1,h1]
 ·rw [if_neg e,a1,a2]
  exact h2 _ (by omega)
end Mt
set_option maxRecDepth 100000 in
set_option maxHeartbeats 400000 in
theorem tclose_nil {x cN:Nat} (w:World) (hc0:w.cell? ⟨x,0,none⟩ = some (.slice none 0 cN)) :
 Calls Tryz.prog 83 #[ptr x] w fun e w'=>e = .returned (.bool true)∧w' = w:=by
 go_enter Tryz.func83,Tryz.ntmps83
 go_wp2
 refine wp_loop_rounds 2 ?_
 rw [rounds_succ]
 go_wp2
 refine wp_loop_rounds 1 ?_
 rw [rounds_succ]
 go_wp2
 rw [rounds_succ]
 go_wp2
 go_ret
 exact ⟨rfl,rfl⟩
def MetAns (ps:PairL) (w w':World) (e:Ending):Prop:=Below w.heap.size w w'∧∃ er is val v,Tm.MeetSays ps er is val∧e = .returned (.tuple #[v,.bool is,.int .i64 er])∧NewS w.heap.size w' v val
theorem firstPair_of {ps:PairL} (h:∀ k,k < ps.length→Tm.err (ps[k]?.getD ([],[])).1 = 0∧Tm.err (ps[k]?.getD ([],[])).2 = 0):Tm.firstPair ps = 0:=by
 induction ps with
 | nil=>rfl
 | cons r l ih =>
  rw [Tm.firstPair,if_pos (Tm.pairErr_zero.2 (by simpa using h 0 (by simp)))]
  exact ih fun k hk=>by simpa using h (k+1) (by simpa using hk)
theorem met_step {wr w1 w2:World} {x:Nat} {vN vC vN1 vC1:Value} {L M:List Nd} {C:Nat→Nat} {ps:PairL} {k:Nat} (hT:TB wr x vN vC L L.length C) (hM:MI ps k L C) (hB1:Below wr.heap.size wr w1) (hA:∀ d∈M,FullL (L++M) d) (hT2:TB w2 x vN1 vC1 (L++M) (L++M).length (extC L.length C)) (hW2:WK w1 w2 x vN vC vN1 vC1) :
 TB w2 x vN1 vC1 (L++M) (L++M).length C∧MI ps k (L++M) C∧Below x wr w2:=by
 rw [hM.extC] at hT2
 exact ⟨hT2,hM.ext hA,(hB1.mono (Nat.le_of_lt hT.lt)).trans (hW2.below (hT.below hB1).1)⟩
set_option maxRecDepth 100000 in
set_option maxHeartbeats 4000000 in
theorem met_some (ps:PairL) (a:Option Addr) (cap:Nat) (w:World) (hP:RulesAt w.heap.size w a ps) (h40:ps.length≤40) (h0:0 < ps.length) (hok:∀ k,k < ps.length→Tm.err (ps[k]?.getD ([],[])).1 = 0∧Tm.err (ps[k]?.getD ([],[])).2 = 0) :
 Calls Tryz.prog 54 #[.slice a ps.length cap] w fun e w'=>MetAns ps w w' e:=by
 have hfp:=hid (firstPair_of hok)
 have h40':(ps.length:Int)≤40:=by omega
 have hTB0:=hid (TB.start w)
 have hB0:=hid ((Below.refl w.heap.size w).alloc (Nat.le_refl _) (.cells #[.slice none 0 0,.slice none 0 0] 115))
 have HP:=hid hP
 have Hok:=hid hok
 have hMI0:=hid (MI.start ps)
 clear hP hok
 go_enter Tryz.func54,Tryz.ntmps54
 go_wp2
 go_loopw [6] (fun i wr=>∃ (k:Nat) (L:List Nd) (C:Nat→Nat) (vN vC:Value),k≤ps.length∧i = .int .i64 (k:Int)∧Hid (TB wr w.heap.size vN vC L L.length C)∧Hid (MI ps k L C)∧Hid (L.length≤60 * k)∧Hid (0 < k→0 < L.length)∧Hid (Below w.heap.size w wr)) (fun i _=>ps.length - (intOf i).toNat)
 case atStart=>exact ⟨0,[],_,_,_,Nat.zero_le _,rfl,hTB0,hMI0,by simp [Hid],fun h=>by omega,hB0⟩
 case round =>
  obtain ⟨k,L,C,vN,vC,hk,rfl,hT,hM,hL,hL0,hB⟩:=hrel
  by_cases hlt:k < ps.length
  ·have hkl:(k:Int) < (ps.length:Int):=by omega
   obtain ⟨b,off,rfl,hb,aL,cL,aR,cR,hc1,hc2,hI1,hI2,q1,q2,q3,q4⟩:=(HP.out.below hB.out) k hlt
   obtain ⟨e1,e2⟩:=Hok.out k hlt
   have l1:=Tm.err_len e1
   have l2:=Tm.err_len e2
   have hE1:Hid ((ps[k]?.getD ([],[])).1 = (ps[k]?.getD ([],[])).1):=rfl
   have hE2:Hid ((ps[k]?.getD ([],[])).2 = (ps[k]?.getD ([],[])).2):=rfl
   generalize hz1:(ps[k]?.getD ([],[])).1 = z1 at hc1 hI1 q1 e1 l1
   generalize hz2:(ps[k]?.getD ([],[])).2 = z2 at hc2 hI2 q3 e2 l2
   have Hz1:=hid hz1
   have Hz2:=hid hz2
   clear hz1 hz2 hE1 hE2
   have hbw:b < wr.heap.size:=by have:=hB.out.size;omega
   have ht1:=hid (treeOf_any z1 aL cL wr e1 q1 q2 (hI1.mono hB.out.size))
   have ht2:=hid (fun W (hW:Below w.heap.size wr W)=>treeOf_any z2 aR cR W e2 q3 q4 ((hI2.below hW).mono (Nat.le_trans hB.out.size hW.size)))
   have hc2w:=hid (fun W (hW:Below w.heap.size wr W)=>(hW.cell (p:=⟨b,off+k * 2+1,none⟩) hb).trans hc2)
   have hn1:=hid (fun W1 h1 h2=>node_tree (W1:=W1) (zs:=z1) hT.out h1 h2 e1 hM.out.extC (by have:=hL.out;omega))
   have H1:=hid (And.intro e1 l1)
   have H2:=hid (And.intro e2 l2)
   clear hI1 hI2 e1 e2 l1 l2 q1 q2 q3 q4
   go_wp2_with (first
    | (go_at_call_of 81 (Value.slice aL z1.length cL);refine ht1.out.mono ?_;clear ht1;rintro e w1 ⟨rfl,hB1,hT1⟩)
    | (go_at_call_of 80 (ptr wr.heap.size);refine (hn1.out _ hB1 hT1).mono ?_;clear hn1;rintro e w2 ⟨i1,vN1,vC1,M1,rfl,hF1,hA1,hT2,hW2,hM1⟩;obtain ⟨hT3,hM3,hB3⟩:=met_step hT.out hM.out hB1 hA1 hT2 hW2;have hc2':=hc2w.out _ hB3;have HT3:=hid hT3;have HM3:=hid hM3;have HF1:=hid hF1;clear hT3 hM3 hT2 hW2 hA1 hF1 hT1 hB1)
    | (go_at_call_of 81 (Value.slice aR z2.length cR);refine (ht2.out _ hB3).mono ?_;clear ht2;rintro e w3 ⟨rfl,hB4,hT4⟩)
    | (go_at_call_of 80 (ptr w2.heap.size);refine (node_tree HT3.out hB4 hT4 H2.out.1 HM3.out.extC (by have h1:=hL.out;have h2:=H1.out.2;have h3:=H2.out.2;rw [List.length_append];omega)).mono ?_;rintro e w4 ⟨i2,vN2,vC2,M2,rfl,hF2,hA2,hT5,hW5,hM2⟩;obtain ⟨hT6,hM6,hB6⟩:=met_step HT3.out HM3.out hB4 hA2 hT5 hW5;have HT6:=hid hT6;have HM6:=hid hM6;have HF2:=hid hF2;clear hT6 hM6 hT5 hW5 hA2 hF2 hT4 hB4)
    | (go_at_call 82;refine (tie_tb HT6.out HM6.out.full (by have h1:=hL.out;have h2:=H1.out.2;have h3:=H2.out.2;rw [List.length_append,List.length_append];omega) i1 i2 (HF1.out.app M2).1 HF2.out.1).mono ?_;rintro e w5 ⟨⟨v5,rfl⟩,hT7,hW7⟩))
   go_roundw
   case rel =>
    have hF1':=HF1.out.app M2
    have hF2':=HF2.out
    refine ⟨k+1,L++M1++M2,Mt.tied C i1 i2,vN2,vC2,by omega,by go_num,hT7,HM6.out.tie hF1'.1 hF2'.1 ?_ ?_,?_,fun _=>by have:=hF1'.1;omega,?_⟩
    ·rw [Hz1.out];exact hF1'.2.1
    ·rw [Hz2.out];exact hF2'.2.1
    ·show _≤_
     have h1:=hL.out
     have h2:=H1.out.2
     have h3:=H2.out.2
     rw [List.length_append,List.length_append]
     omega
    ·exact (hB.out.trans (hB3.trans hB6)).trans (hW7.below HT6.out)
   case measure=>simp [intOf];omega
  ·obtain rfl:k = ps.length:=by omega
   obtain ⟨K,hK⟩:=kidsL hM.out.full
   have hn0:=hL0.out h0
   have hn5:L.length≤5000:=by have:=hL.out;omega
   have G:=kidsL_gph hT.out hK
   obtain ⟨aN,cN,g,cC,rfl,rfl,hO⟩:=hT.out.ties hK hn5 hn0
   have hgx:=(World.ownsRow.lt hT.out.rowC g rfl).1
   have hcl:=tclose_any G wr hO hM.out.lt hn0
   have hroom:Hid (∀ k,k < L.length→(K k).length = Tm.room (ndS L k)):=G.room
   have HG:=hid G
   have hnI:(L.length:Int)≤5000:=by omega
   clear hK G hO hTB0 hB0 hMI0 HP Hok
   go_wp2_with fail
   refine hcl.mono ?_
   rintro e w1 ⟨hK1,hor⟩
   clear hcl
   have hBw1:Hid (Below w.heap.size w w1):=hB.out.trans ((hK1.mono hB.out.size).below (by omega))
   rcases hor with ⟨rfl,hno⟩ | ⟨rfl,C1,hO1,hlt1,hco1,hso1,hsh1⟩
   ·have Hno:=hid hno
    clear hno
    go_wp2
    go_ret3
    exact ⟨hBw1.out,0,false,[],_,.inr (.inl ⟨hfp.out,fun θ hθ hs=>Hno.out θ hθ (hM.out.sound θ hθ hs),rfl,rfl,rfl⟩),rfl,NewS.nil _ _⟩
   ·have hT1:=hO1.ties
    have hc0:=hT1.c0
    have hc1:=hT1.c1
    have hsound:=hid (fun θ hθ hs=>hso1 θ hθ (hM.out.sound θ hθ hs))
    have hmgu:=hid (fun hr=>Mt.sig_mgu HG.out hsh1 hr hsound.out (fun j hj=>by obtain ⟨a,b,ha,hb,e1,e2,e3⟩:=hM.out.tied j hj;exact ⟨a,b,ha,hb,e1,e2,hco1 a b ha hb e3⟩))
    have hrn:=hid (fun θ hθ hs q hq=>Mt.rnd_no HG.out hlt1 (hsound.out θ hθ hs) (k:=q) hq)
    have HT1:=hid hT1
    have hround:=hid (fun q W (hW:Ties W w.heap.size L.length aN cN (some ⟨g,0,none⟩) cC (ndN L) C1 (ndS L) K (ndP L))=>round_any hroom.out (L.length+1) 0 q W hW (by omega))
    have hbec:=hid (fun q W h (hW:Ties W w.heap.size L.length aN cN (some ⟨g,0,none⟩) cC (ndN L) C1 (ndS L) K (ndP L))=>becomes_any hroom.out (L.length+1) q W h hW)
    clear hT1 hO1 hlt1 hco1 hso1 hsh1 hK1
    go_wp2
    go_loopw [9] (fun i wr=>∃ q:Nat,q≤L.length∧i = .int .i64 (q:Int)∧Hid (∀ j,j < q→Mt.rnd L.length (ndS L) K C1 (L.length+1) (C1 j) = false)∧∃ d,wr = w1.drewN d) (fun i _=>L.length - (intOf i).toNat)
    case atStart=>exact ⟨0,Nat.zero_le _,rfl,(fun j hj=>by omega),0,rfl⟩
    case round =>
     obtain ⟨q,hq,rfl,hqs,d,rfl⟩:=hrel
     by_cases hql:q < L.length
     ·have hqI:(q:Int) < (L.length:Int):=by omega
      obtain ⟨_,_,e,hcq⟩:=HT1.out.cl q hql
      cases e
      rw [Nat.zero_add] at hcq
      have hcall:=hid (hround.out (C1 q) (w1.drewN d) (HT1.out.drewN d))
      cases hb:Mt.rnd L.length (ndS L) K C1 (L.length+1) (C1 q) with
      | true =>
       have hno:Hid (∀ θ,Wb.TermSb θ→¬ Wb.Same ps ps.length θ):=fun θ hθ hs=>by
        have:=hrn.out θ hθ hs q hql
        rw [hb] at this
        cases this
       rw [hb] at hcall
       clear hb
       generalize C1 q = cq at *
       go_wp2_with (go_at_call 84;refine hcall.out.mono ?_;clear hcall;rintro e w2 ⟨rfl,d2,rfl⟩)
       go_ret3
       exact ⟨below_drewN hBw1.out _,0,false,[],_,.inr (.inl ⟨hfp.out,hno.out,rfl,rfl,rfl⟩),rfl,NewS.nil _ _⟩
      | false =>
       rw [hb] at hcall
       have Hb:=hid hb
       clear hb
       have hqs':Hid (∀ j,j < q+1→Mt.rnd L.length (ndS L) K C1 (L.length+1) (C1 j) = false):=fun j hj=>by
        by_cases e:j = q
        ·subst e;exact Hb.out
        ·exact hqs.out j (by omega)
       generalize C1 q = cq at *
       go_wp2_with (go_at_call 84;refine hcall.out.mono ?_;clear hcall;rintro e w2 ⟨rfl,d2,rfl⟩)
       go_roundw
       case rel=>exact ⟨q+1,by omega,by go_num,hqs',_,rfl⟩
       case measure=>simp [intOf];omega
     ·obtain rfl:q = L.length:=by omega
      have hM':=hid (hmgu.out hqs.out)
      go_wp2_with (go_at_call 85;refine (noneOf_any _).mono ?_;rintro e w4 ⟨v,rfl,hN4,hB4⟩;have hlen:(Tm.noneL 8).length = 8:=Tm.noneL_length 8;obtain ⟨g4,c4,rfl⟩:∃ g4 c4,v = .slice (some ⟨g4,0,none⟩) 8 c4:=(by obtain ⟨us,h1,_⟩:=hN4;rw [hlen] at h1;exact ownsRow_succ h1))
      have hg4:w1.heap.size≤g4:=by
       obtain ⟨us,h1,_⟩:=hN4
       exact (World.ownsRow.lt h1 g4 rfl).1
      have hB5:Hid (Below w1.heap.size w1 w4):=⟨hB4.os,hB4.tape,hB4.output,hB4.size,hB4.block⟩
      have HN4:Hid (NewS w1.heap.size w4 (.slice (some ⟨g4,0,none⟩) 8 c4) (Tm.noneL 8)):=hN4
      clear hN4 hB4 hlen hc0 hc1
      have hone:=hid (fun q (hq:q < L.length) (hs:ndS L q < 0) (j:Nat) (hj:j < q) (e:ndS L j = ndS L q)=>(by have:=HG.out.vars q j hq (by omega) hs e.symm;omega:False))
      go_loopw [11] (fun i wr=>∃ q:Nat,q≤L.length∧i = .int .i64 (q:Int)∧Hid (NewS w1.heap.size wr (.slice (some ⟨g4,0,none⟩) 8 c4) (Tm.sbL (Mt.sigT L.length (ndS L) K C1 q)))∧Hid (∀ j,j < q→ndS L j < 0→(Mt.bec L.length (ndS L) K C1 (L.length+1) (C1 j)).length≤30)∧Hid (Below w1.heap.size w1 wr)) (fun i _=>L.length - (intOf i).toNat)
      case atStart=>exact ⟨0,Nat.zero_le _,rfl,HN4,(fun j hj=>by omega),hB5⟩
      case round =>
       obtain ⟨q,hq,rfl,hNq,hlq,hBq⟩:=hrel
       have hTq:=HT1.out.below hBq.out
       have hc0:=hTq.c0
       have hc1:=hTq.c1
       by_cases hql:q < L.length
       ·have hqI:(q:Int) < (L.length:Int):=by omega
        obtain ⟨bN,oN,rfl,hnq⟩:=hTq.nd q hql
        obtain ⟨a1,c1,hNd,_⟩:=hTq.tr q hql
        have hsq:=hNd.cell0
        have hkn:=HG.out.known q hql
        clear hNd
        by_cases hs:ndS L q < 0
        ·obtain ⟨j,hj⟩:∃ j:Nat,ndS L q = -1 - (j:Int):=⟨(-1 - ndS L q).toNat,by omega⟩
         have hj8:j < 8:=by omega
         have hj8':(j:Int) < 8:=by omega
         obtain ⟨_,_,e,hcq⟩:=hTq.cl q hql
         cases e
         rw [Nat.zero_add] at hcq
         have hcall:=hid (hbec.out (C1 q) wr (hqs.out q hql) hTq)
         have hhere:Hid (Mt.sigT L.length (ndS L) K C1 (q+1) (-1 - (j:Int)) = Mt.bec L.length (ndS L) K C1 (L.length+1) (C1 q)):=by rw [← hj];exact Mt.sigT_here fun i hi e=>hone.out q hql hs i hi e
         have helse:Hid (∀ v,v≠-1 - (j:Int)→Mt.sigT L.length (ndS L) K C1 (q+1) v = Mt.sigT L.length (ndS L) K C1 q v):=fun v hv=>Mt.sigT_else (by rw [hj];exact fun e=>hv e.symm)
         have hset:=hid (Mt.sbL_step hhere.out helse.out)
         have hlq':Hid ((Mt.bec L.length (ndS L) K C1 (L.length+1) (C1 q)).length≤30→∀ j,j < q+1→ndS L j < 0→(Mt.bec L.length (ndS L) K C1 (L.length+1) (C1 j)).length≤30):=fun h j hj hs=>by
          by_cases e:j = q
          ·subst e;exact h
          ·exact hlq.out j (by omega) hs
         have hbig:Hid (30 < (Mt.bec L.length (ndS L) K C1 (L.length+1) (C1 q)).length→∃ i:Nat,i < 8∧30 < (Mt.sig L.length (ndS L) K C1 (-1 - (i:Int))).length):=fun h=>⟨j,hj8,by rw [← hj,Mt.sig_at HG.out C1 hql hs];exact h⟩
         rw [hj] at hsq
         clear hhere helse hs hj hTq
         have hsub:-(-1 - (j:Int)) - 1 = (j:Int):=by omega
         have hjn:(-1 - (j:Int)) < 0:=by omega
         have hpz:=Mt.bec_pos (hqs.out q hql)
         generalize Mt.bec L.length (ndS L) K C1 (L.length+1) (C1 q) = zs at *
         generalize C1 q = cq at *
         generalize ndN L q = nq' at *
         go_wp2_with fail
         refine hcall.out.mono ?_
         rintro e w6 ⟨v6,rfl,hB6,hor⟩
         clear hcall
         rcases hor with ⟨hz,hN6⟩ | ⟨hz,rfl⟩
         ·obtain ⟨a6,c6,rfl,hI6,_⟩:=New.ints hN6
          obtain ⟨b6,o6,rfl,_⟩:=hI6.at hpz
          have hrun:(binOp .eql 35 (.slice (some ⟨b6,o6,none⟩) zs.length c6) (.slice none 0 0)).run Tryz.prog w6 = .ok (.bool false) w6:=Lib.run_eql_slice_nil w6 _ _ _ _ _ _ _ Tryz.underlying35
          have hBq6:=hid (hBq.out.trans (hB6.mono hBq.out.size))
          have hN8:=hid (hNq.out.below hB6)
          obtain ⟨hgg,x8,hc8,hf8⟩:=newS_cell hN8.out (Tm.sbL_length _) hj8
          have hN6':=hid (hN6.mono hBq.out.size)
          clear hN6 hI6
          go_wp2
          go_roundw
          case rel =>
           refine ⟨q+1,by omega,by go_num,?_,hlq'.out hz,hBq6.out.setCell (p:=⟨g4,j,none⟩) hg4 _⟩
           have h:=hN8.out.set (Tm.sbL_length _).symm hN6'.out j
           rw [← hset.out] at h
           exact h
          case measure=>simp [intOf];omega
         ·have hrun:(binOp .eql 35 (.slice none 0 0) (.slice none 0 0)).run Tryz.prog w6 = .ok (.bool true) w6:=Lib.run_eql_slice_nil w6 _ _ _ _ _ _ _ Tryz.underlying35
          go_wp2
          go_ret3
          have hBf:=hBw1.out.trans ((hBq.out.trans (hB6.mono hBq.out.size)).mono hBw1.out.size)
          exact ⟨hBf,2,false,[],_,.inr (.inr (.inr ⟨hfp.out,_,hM'.out,hbig.out hz,rfl,rfl,rfl⟩)),rfl,NewS.nil _ _⟩
        ·have hs':decide (ndS L q < 0) = false:=by simpa using hs
         have hst:Hid (Tm.sbL (Mt.sigT L.length (ndS L) K C1 (q+1)) = Tm.sbL (Mt.sigT L.length (ndS L) K C1 q)):=Tm.sbL_congr fun v _ hv=>Mt.sigT_else (by omega)
         have hlq':Hid (∀ j,j < q+1→ndS L j < 0→(Mt.bec L.length (ndS L) K C1 (L.length+1) (C1 j)).length≤30):=fun j hj hsj=>by
          by_cases e:j = q
          ·subst e;exact absurd hsj hs
          ·exact hlq.out j (by omega) hsj
         clear hs hTq
         generalize ndS L q = sq at *
         generalize ndN L q = nq' at *
         go_wp2
         go_roundw
         case rel=>exact ⟨q+1,by omega,by go_num,by rw [hst.out];exact hNq,hlq',hBq⟩
         case measure=>simp [intOf];omega
       ·obtain rfl:q = L.length:=by omega
        go_wp2
        go_ret3
        refine ⟨hBw1.out.trans (hBq.out.mono hBw1.out.size),0,true,_,_,.inr (.inr (.inl ⟨hfp.out,_,hM'.out,fun i hi=>?_,rfl,rfl,rfl⟩)),rfl,hNq.out.mono hBw1.out.size⟩
        rcases Mt.sig_or (K:=K) HG.out C1 (-1 - (i:Int)) (by omega) with ⟨j,hj,e1,e2⟩ | ⟨_,e2⟩
        ·rw [e2];exact hlq.out j hj (by omega)
        ·rw [e2];simp
end Go.Proofs.YtglohanbpjaieaaGreat
