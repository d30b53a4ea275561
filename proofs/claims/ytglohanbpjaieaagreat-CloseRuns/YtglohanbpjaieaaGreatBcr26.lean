/-
  Parts of the proof: Met4, Met5, Met6, Met7.
-/
import Derived.Deep.RegionHeld3
import Derived.Deep.DrawnRows
import Derived.Test.YtglohanbpjaieaaGreatBcr25
import Derived.Deep.AppendLies
namespace Go.Proofs.YtglohanbpjaieaaGreat
open Go.Proofs Go.RowKit Go.Shelf Go.Maps
theorem cell_heap {W W':World} (e:W'.heap = W.heap) (p:Addr):W'.cell? p = W.cell? p:=by simp only [World.cell?,e]
theorem Ties.keep {W W':World} {x n:Nat} {aN:Option Addr} {cN:Nat} {aC:Option Addr} {cC:Nat} {N:Nat→Nat} {C:Nat→Nat} {S:Nat→Int} {K:Nat→List Nat} {P:Nat→Nat→Nat} (h:Ties W x n aN cN aC cC N C S K P) (hk:∀ k,k < W.heap.size→W'.heap[k]? = W.heap[k]?):Ties W' x n aN cN aC cC N C S K P:=by
 have hc:∀ (p:Addr) v,W.cell? p = some v→W'.cell? p = some v:=fun p v hv=>by
  have hlt:p.block < W.heap.size:=lt_of_cell hv
  rw [World.cell?_of_block (hk p.block hlt),hv]
 refine ⟨hc _ _ h.c0,hc _ _ h.c1,fun k hk'=>?_,fun k hk'=>?_,fun k hk'=>?_,fun k i hk' hi=>?_,h.fd,h.le⟩
 ·obtain ⟨b,off,e,h1⟩:=h.nd k hk';exact ⟨b,off,e,hc _ _ h1⟩
 ·obtain ⟨b,off,e,h1⟩:=h.cl k hk';exact ⟨b,off,e,hc _ _ h1⟩
 ·obtain ⟨a,c,h1,h2⟩:=h.tr k hk'
  exact ⟨a,c,(hk _ h1.lt).trans h1,fun i hi=>by obtain ⟨b,off,e,h3⟩:=h2 i hi;exact ⟨b,off,e,hc _ _ h3⟩⟩
 ·obtain ⟨v,h1⟩:=h.ps k i hk' hi;exact ⟨v,(hk _ h1.lt).trans h1⟩
theorem Ties.heap {W W':World} {x n:Nat} {aN:Option Addr} {cN:Nat} {aC:Option Addr} {cC:Nat} {N:Nat→Nat} {C:Nat→Nat} {S:Nat→Int} {K:Nat→List Nat} {P:Nat→Nat→Nat} (h:Ties W x n aN cN aC cC N C S K P) (e:W'.heap = W.heap):Ties W' x n aN cN aC cC N C S K P:=h.keep fun k _=>by rw [e]
theorem Ties.below {W W':World} {x n:Nat} {aN:Option Addr} {cN:Nat} {aC:Option Addr} {cC:Nat} {N:Nat→Nat} {C:Nat→Nat} {S:Nat→Int} {K:Nat→List Nat} {P:Nat→Nat→Nat} (h:Ties W x n aN cN aC cC N C S K P) (hB:Below W.heap.size W W'):Ties W' x n aN cN aC cC N C S K P:=h.keep hB.block
theorem Ties.node {W:World} {x n:Nat} {aN:Option Addr} {cN:Nat} {aC:Option Addr} {cC:Nat} {N:Nat→Nat} {C:Nat→Nat} {S:Nat→Int} {K:Nat→List Nat} {P:Nat→Nat→Nat} (h:Ties W x n aN cN aC cC N C S K P) {k i:Nat} (hk:k < n) (hi:i < Tm.room (S k)) :
 Calls Tryz.prog 80 #[ptr x,ptr (P k i)] W fun e w'=>e = .returned (.int .i64 (((K k)[i]?.getD 0:Nat):Int))∧∃ m,w' = W.drewN m:=by
 obtain ⟨v,hv⟩:=h.ps k i hk hi
 exact node_fd (x:=x) W (P k i) ((K k)[i]?.getD 0) h.c0 h.nd (fun k hk=>by obtain ⟨a,c,h,_⟩:=h.tr k hk;exact ⟨_,h⟩) h.le hv (h.fd k i hk hi)
def BecAns (w w':World) (e:Ending) (zs:List Int):Prop:=∃ v,e = .returned v∧Below w.heap.size w w'∧((zs.length≤30∧New w.heap.size w' v zs)∨(30 < zs.length∧v = .slice none 0 0))
set_option maxRecDepth 100000 in
set_option maxHeartbeats 1000000 in
theorem become_var {x n:Nat} {aN:Option Addr} {cN:Nat} {aC:Option Addr} {cC:Nat} {N:Nat→Nat} {C:Nat→Nat} {S:Nat→Int} {K:Nat→List Nat} {P:Nat→Nat→Nat} (w:World) (H:Ties w x n aN cN aC cC N C S K P) (c:Nat) (hy:Mt.sym n S C c = none) :
 Calls Tryz.prog 86 #[ptr x,.int .i64 (c:Int)] w fun e w'=>BecAns w w' e [Mt.bst S C c n]:=by
 have hn:=H.le
 have hn':(n:Int)≤5000:=by omega
 have hc0:=H.c0
 have hc1:=H.c1
 have hsy:=symbol_any w H c
 have hsi:Mt.symI n S C c = -1:=by unfold Mt.symI;rw [hy]
 rw [hsi] at hsy
 have HH:=hid H
 clear H hsi hy
 go_enter Tryz.func86,Tryz.ntmps86
 go_wp2_with (first
  | (go_at_call 111;refine hsy.mono ?_;clear hsy;rintro e w1 ⟨rfl,d,rfl⟩))
 go_loopw [6,7] (fun u i wr=>∃ k:Nat,k≤n∧i = .int .i64 (k:Int)∧u = .int .i64 (Mt.bst S C c k)∧wr = w.drewN d) (fun _ i _=>n - (intOf i).toNat)
 case atStart=>exact ⟨0,Nat.zero_le _,rfl,rfl,rfl⟩
 case round =>
  obtain ⟨k,hk,rfl,rfl,rfl⟩:=hrel
  by_cases hlt:k < n
  ·have hkn:(k:Int) < (n:Int):=by omega
   obtain ⟨b,off,rfl,hck⟩:=HH.out.cl k hlt
   obtain ⟨b',off',rfl,hnk⟩:=HH.out.nd k hlt
   obtain ⟨a1,c1,hNk,_⟩:=HH.out.tr k hlt
   have hsk:=hNk.cell0
   clear hNk
   have hb:Hid (Mt.bst S C c (k+1) = if C k = c∧Mt.bst S C c k < S k then S k else Mt.bst S C c k):=rfl
   have Hb0:Hid (Mt.bst S C c k = Mt.bst S C c k):=rfl
   generalize hr0:Mt.bst S C c k = r0 at hb ⊢
   clear hr0 Hb0
   by_cases hC:C k = c
   ·have heq:((C k:Int) == (c:Int)) = true:=by rw [hC];simp
    have HC:=hid hC
    clear hC
    by_cases hs:r0 < S k
    ·have Hr:=hid (hb.out.trans (if_pos ⟨HC.out,hs⟩))
     clear hb
     generalize S k = s at *
     generalize C k = ck at *
     generalize N k = q at *
     go_wp2
     go_roundw
     case rel=>exact ⟨k+1,by omega,by go_num,by rw [Hr.out],by first | rfl | trivial⟩
     case measure=>simp [intOf];omega
    ·have Hr:=hid (hb.out.trans (if_neg fun h=>hs h.2))
     have hs':decide (r0 < S k) = false:=by simpa using hs
     clear hb hs
     generalize S k = s at *
     generalize C k = ck at *
     generalize N k = q at *
     go_wp2
     go_roundw
     case rel=>exact ⟨k+1,by omega,by go_num,by rw [Hr.out],by first | rfl | trivial⟩
     case measure=>simp [intOf];omega
   ·have hne:((C k:Int) == (c:Int)) = false:=by simp;omega
    have Hr:=hid (hb.out.trans (if_neg fun h=>hC h.1))
    clear hb hC
    generalize S k = s at *
    generalize C k = ck at *
    generalize N k = q at *
    go_wp2
    go_roundw
    case rel=>exact ⟨k+1,by omega,by go_num,by rw [Hr.out],by first | rfl | trivial⟩
    case measure=>simp [intOf];omega
  ·obtain rfl:k = n:=by omega
   have hl0:=New.lit w.heap.size (w.drewN d) [Mt.bst S C c k] (Nat.le_refl _) (by unfold maxLen;simp)
   simp only [List.map_cons,List.map_nil,List.length_cons,List.length_nil,Nat.zero_add] at hl0
   have hB0:Below w.heap.size w ((w.drewN d).alloc (.cells #[.int .i64 (Mt.bst S C c k)] 3)):=(below_drewN (Below.refl _ _) d).alloc (Nat.le_refl _) _
   go_wp2
   go_ret
   exact ⟨_,rfl,hB0,.inl ⟨by simp,hl0⟩⟩
attribute [local go_sem ↓] Go.wp_at_zero Go.wp_at_succ
namespace Mt
def becT (n:Nat) (S:Nat→Int) (K:Nat→List Nat) (C:Nat→Nat) (f:Nat) (l:List Nat) (j:Nat):List Int:=((l.take j).map fun i=>bec n S K C f (C i)).flatten
theorem becT_zero (n:Nat) (S:Nat→Int) (K:Nat→List Nat) (C:Nat→Nat) (f:Nat) (l:List Nat):becT n S K C f l 0 = []:=rfl
theorem becT_succ {n:Nat} {S:Nat→Int} {K:Nat→List Nat} {C:Nat→Nat} {f:Nat} {l:List Nat} {j:Nat} (hj:j < l.length):becT n S K C f l (j+1) = becT n S K C f l j++bec n S K C f (C (l[j]?.getD 0)):=by
 unfold becT
 rw [List.take_succ_eq_append_getElem hj,List.map_append,List.flatten_append,List.getElem?_eq_getElem hj]
 simp
theorem becT_len {n:Nat} {S:Nat→Int} {K:Nat→List Nat} {C:Nat→Nat} {f:Nat} {l:List Nat} (j:Nat):(becT n S K C f l j).length≤((l.map fun i=>bec n S K C f (C i)).flatten).length:=by
 unfold becT
 have h:(l.map fun i=>bec n S K C f (C i)).flatten = ((l.take j).map fun i=>bec n S K C f (C i)).flatten++((l.drop j).map fun i=>bec n S K C f (C i)).flatten:=by
  rw [← List.flatten_append,← List.map_append,List.take_append_drop]
 rw [h,List.length_append]
 omega
end Mt
set_option maxRecDepth 100000 in
set_option maxHeartbeats 2000000 in
theorem become_sym {x n:Nat} {aN:Option Addr} {cN:Nat} {aC:Option Addr} {cC:Nat} {N:Nat→Nat} {C:Nat→Nat} {S:Nat→Int} {K:Nat→List Nat} {P:Nat→Nat→Nat} (hroom:∀ k,k < n→(K k).length = Tm.room (S k)) (w:World) (H:Ties w x n aN cN aC cC N C S K P) (f c k:Nat) (hy:Mt.sym n S C c = some k) (hpos:∀ i∈K k,0 < (Mt.bec n S K C f (C i)).length)
 (ih:∀ (i:Nat) (W:World),i∈K k→Ties W x n aN cN aC cC N C S K P→Calls Tryz.prog 86 #[ptr x,.int .i64 (C i:Int)] W fun e w'=>BecAns W w' e (Mt.bec n S K C f (C i))) :
 Calls Tryz.prog 86 #[ptr x,.int .i64 (c:Int)] w fun e w'=>BecAns w w' e (S k :: ((K k).map fun i=>Mt.bec n S K C f (C i)).flatten):=by
 have hn:=H.le
 have hn':(n:Int)≤5000:=by omega
 have hc0:=H.c0
 have hc1:=H.c1
 have hsy:=symbol_any w H c
 have hsi:Mt.symI n S C c = (k:Int):=by unfold Mt.symI;rw [hy]
 obtain ⟨hk,_,_⟩:=Mt.sym_some hy
 rw [hsi] at hsy
 have hkn:(k:Int) < (n:Int):=by omega
 obtain ⟨b',off',rfl,hnk⟩:=H.nd k hk
 obtain ⟨a1,c1,hNk,hparts⟩:=H.tr k hk
 have hp0:=hNk.cell0
 have hp1:=hNk.cell1
 obtain ⟨bC,offC,rfl,_⟩:=H.cl k hk
 have hr2:=Tm.room_le (S k)
 have hrK:=hid (hroom k hk)
 have Hp:=hid hparts
 have Hcl:=hid (fun i hi=>H.cl i hi)
 have Hfd:=hid (fun i hi=>H.fd k i hk hi)
 have Hnode:=hid (fun W (hW:Ties W x n (some ⟨b',off',none⟩) cN (some ⟨bC,offC,none⟩) cC N C S K P) i hi=>hW.node (k:=k) (i:=i) hk hi)
 have HH:=hid H
 have IH:=hid ih
 have Hpos:=hid hpos
 clear H hsi hy ih hparts hNk hpos
 generalize hrm:Tm.room (S k) = rm at *
 clear hrm
 have hrm2:(rm:Int)≤2:=by omega
 have hl0:=New.lit w.heap.size w [S k] (Nat.le_refl _) (by unfold maxLen;simp)
 simp only [List.map_cons,List.map_nil,List.length_cons,List.length_nil,Nat.zero_add] at hl0
 go_enter Tryz.func86,Tryz.ntmps86
 go_wp2_with (first
  | (go_at_call 111;refine hsy.mono ?_;clear hsy;rintro e w1 ⟨rfl,d,rfl⟩))
 go_loopw [8,9] (fun u i wr=>∃ j:Nat,j≤rm∧i = .int .i64 (j:Int)∧Hid (New w.heap.size wr u (S k :: Mt.becT n S K C f (K k) j))∧Hid ((S k :: Mt.becT n S K C f (K k) j).length≤30)∧Hid (Below w.heap.size w wr)) (fun _ i _=>rm - (intOf i).toNat)
 case atStart=>exact ⟨0,Nat.zero_le _,rfl,hl0,by rw [Mt.becT_zero];simp [Hid],(below_drewN (Below.refl _ _) d).alloc (Nat.le_refl _) _⟩
 case round =>
  obtain ⟨j,hj,rfl,hNu,h30,hB⟩:=hrel
  have hTr:=HH.out.below hB.out
  have h0r:=hTr.c0
  have h1r:=hTr.c1
  have hBc:∀ (p:Addr) v,w.cell? p = some v→wr.cell? p = some v:=fun p v hv=>(hB.out.cell (p:=p) (lt_of_cell hv)).trans hv
  have hnr:=hBc _ _ hnk
  have hp0r:=hBc _ _ hp0
  have hp1r:=hBc _ _ hp1
  have HBc:=hid hBc
  have HTr:=hid hTr
  clear hBc hTr
  obtain ⟨u1,uc,rfl,hIu,_⟩:=New.ints hNu.out
  by_cases hlt:j < rm
  ·have hjr:(j:Int) < (rm:Int):=by omega
   obtain ⟨b,off,rfl,hcj⟩:=Hp.out j hlt
   obtain ⟨hin,_⟩:=Hfd.out j hlt
   obtain ⟨_,_,e,hcl⟩:=Hcl.out _ hin
   cases e
   have hin':(((K k)[j]?.getD 0:Nat):Int) < (n:Int):=by omega
   have hcjr:=HBc.out _ _ hcj
   have hclr:=HBc.out _ _ hcl
   have hjl:j < (K k).length:=by rw [hrK.out];exact hlt
   have hnode:=hid (fun W (e:W.heap = wr.heap)=>Hnode.out W (HTr.out.heap e) j hlt)
   have hsn:=hid (Mt.becT_succ (n:=n) (S:=S) (K:=K) (C:=C) (f:=f) hjl)
   have hmem:Hid ((K k)[j]?.getD 0∈K k):=by rw [List.getElem?_eq_getElem hjl];exact List.getElem_mem hjl
   have hrec:=hid (fun W (e:W.heap = wr.heap)=>IH.out _ W hmem.out (HTr.out.heap e))
   have hps:=Hpos.out _ hmem.out
   have hle:=hid (Mt.becT_len (n:=n) (S:=S) (K:=K) (C:=C) (f:=f) (l:=K k) (j+1))
   clear hmem
   generalize hq:(K k)[j]?.getD 0 = q at *
   clear hq
   have hwlt:=lt_of_cell hp1r
   have hxlt:=lt_of_cell h0r
   have hblt:=lt_of_cell hnr
   have hclt:=lt_of_cell hclr
   have hjlt:=lt_of_cell hcjr
   generalize Mt.bec n S K C f (C q) = zs at *
   generalize C q = cq at *
   generalize P k j = pj at *
   generalize Mt.becT n S K C f (K k) j = pre at *
   have hS:Hid (∀ W W':World,W.heap = wr.heap→Below W.heap.size W W'→W'.cell? ⟨x,0,none⟩ = some (.slice (some ⟨b',off',none⟩) n cN)∧W'.cell? ⟨x,1,none⟩ = some (.slice (some ⟨bC,offC,none⟩) n cC)∧W'.cell? ⟨b',off'+k,none⟩ = some (ptr (N k))∧W'.cell? ⟨N k,1,none⟩ = some (.slice (some ⟨b,off,none⟩) rm c1)∧W'.cell? ⟨b,off+j,none⟩ = some (ptr pj)∧W'.cell? ⟨bC,offC+q,none⟩ = some (.int .i64 (cq:Int))):=fun W W' e hb=>by
    have hc:∀ (p:Addr) v,wr.cell? p = some v→W'.cell? p = some v:=fun p v hv=>by
     have h1:W.cell? p = some v:=(cell_heap e p).trans hv
     exact (hb.cell (p:=p) (lt_of_cell h1)).trans h1
    exact ⟨hc _ _ h0r,hc _ _ h1r,hc _ _ hnr,hc _ _ hp1r,hc _ _ hcjr,hc _ _ hclr⟩
   go_wp2
   go_region_held3 (fun w'=>w'.cell? ⟨x,0,none⟩ = some (.slice (some ⟨b',off',none⟩) n cN)∧w'.cell? ⟨x,1,none⟩ = some (.slice (some ⟨bC,offC,none⟩) n cC)∧w'.cell? ⟨b',off'+k,none⟩ = some (ptr (N k))∧w'.cell? ⟨N k,1,none⟩ = some (.slice (some ⟨b,off,none⟩) rm c1)∧w'.cell? ⟨b,off+j,none⟩ = some (ptr pj)∧w'.cell? ⟨bC,offC+q,none⟩ = some (.int .i64 (cq:Int)))
    (first | assumption | exact ⟨h0r,h1r,hnr,hp1r,hcjr,hclr⟩) (first
    | (go_at_call 80;refine (hnode.out _ (by rfl)).mono ?_;rintro e w2 ⟨rfl,m2,rfl⟩)
    | (go_at_call 86;refine (hrec.out _ (by rfl)).mono ?_;rintro e w3 ⟨v3,rfl,hB3,hor⟩;have hS3:=hS.out _ _ (by rfl) hB3;obtain ⟨av,lv,cv,rfl⟩:∃ av lv cv,v3 = .slice av lv cv:=(by rcases hor with ⟨_,h⟩ | ⟨_,h⟩;exact New.slice3 h;exact ⟨_,_,_,h⟩);have Hor:=hid hor;clear hor;have HS3:=hid hS3;clear hS3))
   have hBw3:Hid (Below wr.heap.size wr w3):=⟨hB3.os,hB3.tape,hB3.output,hB3.size,hB3.block⟩
   have hB4:=hid (hB.out.trans (hBw3.out.mono hB.out.size))
   have hNu3:=hid (hNu.out.below hBw3.out)
   clear hS hrec hnode hB3 HS3
   rcases Hor.out with ⟨hz30,hN3⟩ | ⟨hz30,e3⟩
   ·obtain ⟨g3,cv',e3,hI3,hg1,hg2⟩:=New.ints hN3
    obtain ⟨rfl,rfl,rfl⟩:av = g3∧lv = zs.length∧cv = cv':=by cases e3;exact ⟨rfl,rfl,rfl⟩
    obtain ⟨b3,o3,rfl,_⟩:=hI3.at hps
    have hpl:(pre.length:Int)+1≤30:=by have:=h30.out;simp only [List.length_cons] at this;omega
    have hzl:(zs.length:Int)≤30:=by omega
    have HN3:=hid hN3
    have HI3:=hid hI3
    clear e3 hN3 hI3
    have hrun:(binOp .eql 35 (.slice (some ⟨b3,o3,none⟩) zs.length cv) (.slice none 0 0)).run Tryz.prog w3 = .ok (.bool false) w3:=Lib.run_eql_slice_nil w3 _ _ _ _ _ _ _ Tryz.underlying35
    by_cases ht:pre.length+1+zs.length≤30
    ·have ht':(pre.length:Int)+1+(zs.length:Int)≤30:=by omega
     go_wp2_with (at_builtin;go_loud (refine wp_append_ints _ rfl _ _ rfl w.heap.size _ (S k :: pre) rfl hNu3.out _ zs _ rfl (by intro h;cases h) HI3.out (by simp only [List.length_cons];omega) (by have:=hB4.out.size;omega) ?_);intro v5 w5 hN5 hB5)
     go_roundw
     case rel =>
      refine ⟨j+1,by omega,by go_num,?_,?_,hB4.out.trans hB5⟩
      ·show New _ _ _ _
       rw [hsn.out]
       exact hN5
      ·show _≤_
       rw [hsn.out]
       simp only [List.length_cons,List.length_append]
       omega
     case measure=>simp [intOf];omega
    ·have ht':30 < (pre.length:Int)+1+(zs.length:Int):=by omega
     go_wp2
     go_ret
     refine ⟨_,rfl,hB4.out,.inr ⟨?_,rfl⟩⟩
     have:=hle.out
     rw [hsn.out] at this
     simp only [List.length_cons,List.length_append] at this ⊢
     omega
   ·obtain ⟨rfl,rfl,rfl⟩:av = none∧lv = 0∧cv = 0:=by cases e3;exact ⟨rfl,rfl,rfl⟩
    clear e3
    have hrun:(binOp .eql 35 (.slice none 0 0) (.slice none 0 0)).run Tryz.prog w3 = .ok (.bool true) w3:=Lib.run_eql_slice_nil w3 _ _ _ _ _ _ _ Tryz.underlying35
    go_wp2
    go_ret
    refine ⟨_,rfl,hB4.out,.inr ⟨?_,rfl⟩⟩
    have:=hle.out
    rw [hsn.out] at this
    simp only [List.length_cons,List.length_append] at this ⊢
    omega
  ·obtain rfl:j = rm:=by omega
   have hall:Hid (Mt.becT n S K C f (K k) j = ((K k).map fun i=>Mt.bec n S K C f (C i)).flatten):=by
    show Mt.becT n S K C f (K k) j = _
    unfold Mt.becT
    rw [← hrK.out,List.take_length]
   go_wp2
   go_ret
   refine ⟨_,rfl,hB.out,.inl ⟨?_,?_⟩⟩
   ·rw [← hall.out];exact h30.out
   ·rw [← hall.out];exact hNu.out
theorem Mt.bec_pos {n:Nat} {S:Nat→Int} {K:Nat→List Nat} {C:Nat→Nat} {f c:Nat} (h:Mt.rnd n S K C f c = false):0 < (Mt.bec n S K C f c).length:=by
 cases f with
 | zero=>simp [Mt.rnd] at h
 | succ f =>
  cases hy:Mt.sym n S C c with
  | none=>rw [Mt.bec_none hy];simp
  | some k=>rw [Mt.bec_some hy];simp
theorem becomes_any {x n:Nat} {aN:Option Addr} {cN:Nat} {aC:Option Addr} {cC:Nat} {N:Nat→Nat} {C:Nat→Nat} {S:Nat→Int} {K:Nat→List Nat} {P:Nat→Nat→Nat} (hroom:∀ k,k < n→(K k).length = Tm.room (S k)):∀ (f c:Nat) (W:World),Mt.rnd n S K C f c = false→Ties W x n aN cN aC cC N C S K P →
 Calls Tryz.prog 86 #[ptr x,.int .i64 (c:Int)] W fun e w'=>BecAns W w' e (Mt.bec n S K C f c):=by
 intro f
 induction f with
 | zero=>intro c W h;simp [Mt.rnd] at h
 | succ f ih =>
  intro c W h H
  cases hy:Mt.sym n S C c with
  | none=>rw [Mt.bec_none hy];exact become_var W H c hy
  | some k =>
   rw [Mt.bec_some hy]
   exact become_sym hroom W H f c k hy (fun i hi=>Mt.bec_pos (Mt.rnd_kid hy h i hi)) fun i W' hi HW=>ih _ W' (Mt.rnd_kid hy h i hi) HW
end Go.Proofs.YtglohanbpjaieaaGreat
namespace Go.Proofs.YtglohanbpjaieaaGreat
open Go.Proofs Go.RowKit Go.Shelf Go.Maps
namespace Mt
def clL (n:Nat) (C:Nat→Nat):List Int:=(List.range n).map fun k=>(C k:Int)
theorem clL_length (n:Nat) (C:Nat→Nat):(clL n C).length = n:=by simp [clL]
theorem clL_at {n:Nat} (C:Nat→Nat) {k:Nat} (h:k < n):(clL n C)[k]?.getD 0 = (C k:Int):=by simp [clL,h]
theorem clL_congr {n:Nat} {C D:Nat→Nat} (h:∀ k,k < n→C k = D k):clL n C = clL n D:=by
 unfold clL
 exact List.map_congr_left fun k hk=>by rw [h k (List.mem_range.1 hk)]
theorem clL_set {n:Nat} {C D:Nat→Nat} {k:Nat} (h1:∀ j,j≠k→D j = C j):(clL n C).set k (D k:Int) = clL n D:=by
 refine List.ext_getElem (by rw [List.length_set,clL_length,clL_length]) fun i h2 h3=>?_
 rw [List.getElem_set]
 rw [clL_length] at h3
 by_cases e:k = i
 ·subst e;rw [if_pos rfl];simp [clL]
 ·rw [if_neg e];simp [clL,h1 i fun e2=>e e2.symm]
def mid (C:Nat→Nat) (a b k:Nat):Nat→Nat:=fun j=>if j < k then tied C a b j else C j
theorem mid_zero (C:Nat→Nat) (a b:Nat):mid C a b 0 = C:=by funext j;unfold mid;rw [if_neg (by omega)]
theorem mid_here (C:Nat→Nat) (a b k:Nat):mid C a b k k = C k:=by unfold mid;rw [if_neg (by omega)]
theorem mid_succ (C:Nat→Nat) (a b k:Nat):mid C a b (k+1) k = tied C a b k:=by unfold mid;rw [if_pos (by omega)]
theorem mid_else (C:Nat→Nat) (a b k:Nat) {j:Nat} (h:j≠k):mid C a b (k+1) j = mid C a b k j:=by
 unfold mid
 by_cases e:j < k
 ·rw [if_pos e,if_pos (by omega)]
 ·rw [if_neg e,if_neg (by omega)]
theorem mid_all (C:Nat→Nat) (a b n:Nat):clL n (mid C a b n) = clL n (tied C a b):=clL_congr fun k hk=>by unfold mid;rw [if_pos hk]
end Mt
def TiesO (W:World) (x n:Nat) (aN:Option Addr) (cN g cC:Nat) (N:Nat→Nat) (C:Nat→Nat) (S:Nat→Int) (K:Nat→List Nat) (P:Nat→Nat→Nat):Prop :=
 g < W.heap.size∧(∀ W',Keep W.heap.size g W W'→∀ C',(∀ k,k < n→W'.cell? ⟨g,k,none⟩ = some (.int .i64 (C' k:Int)))→Ties W' x n aN cN (some ⟨g,0,none⟩) cC N C' S K P)∧New 0 W (.slice (some ⟨g,0,none⟩) n cC) (Mt.clL n C)
theorem New.atG {base:Nat} {W:World} {g n c:Nat} {zs:List Int} (h:New base W (.slice (some ⟨g,0,none⟩) n c) zs) (hn:n = zs.length):(∀ j,j < n→W.cell? ⟨g,j,none⟩ = some (.int .i64 (zs[j]?.getD 0)))∧∀ j,W.frozen? ⟨g,j,none⟩ = false:=by
 by_cases h0:0 < zs.length
 ·obtain ⟨g',c',e,h1,h2⟩:=New.at0 h h0
  cases e
  exact ⟨fun j hj=>h1 j (by omega),h2⟩
 ·refine ⟨fun j hj=>by omega,fun j=>?_⟩
  rcases h.2 with ⟨e,_⟩ | ⟨g',c',cur,e,_,hg,_⟩
  ·cases e
  ·cases e
   simp [World.frozen?,hg]
theorem TiesO.ties {W:World} {x n:Nat} {aN:Option Addr} {cN g cC:Nat} {N:Nat→Nat} {C:Nat→Nat} {S:Nat→Int} {K:Nat→List Nat} {P:Nat→Nat→Nat} (h:TiesO W x n aN cN g cC N C S K P):Ties W x n aN cN (some ⟨g,0,none⟩) cC N C S K P:=by
 obtain ⟨_,h1,h2⟩:=h
 refine h1 W (Keep.refl _ _ _) C fun k hk=>?_
 rw [(New.atG h2 (Mt.clL_length n C).symm).1 k hk,Mt.clL_at C hk]
theorem TiesO.keep {W W':World} {x n:Nat} {aN:Option Addr} {cN g cC:Nat} {N:Nat→Nat} {C C':Nat→Nat} {S:Nat→Int} {K:Nat→List Nat} {P:Nat→Nat→Nat} (h:TiesO W x n aN cN g cC N C S K P) (hK:Keep W.heap.size g W W') (hN:New 0 W' (.slice (some ⟨g,0,none⟩) n cC) (Mt.clL n C')):TiesO W' x n aN cN g cC N C' S K P :=
 ⟨by have:=h.1;have:=hK.size;omega,fun W2 hK2 C2 hC2=>h.2.1 W2 (hK.trans (hK2.mono hK.size)) C2 hC2,hN⟩
set_option maxRecDepth 100000 in
set_option maxHeartbeats 1000000 in
theorem tie_any {x n:Nat} {aN:Option Addr} {cN g cC:Nat} {N:Nat→Nat} {C:Nat→Nat} {S:Nat→Int} {K:Nat→List Nat} {P:Nat→Nat→Nat} (w:World) (H:TiesO w x n aN cN g cC N C S K P) (a b:Nat) (ha:a < n) (hb:b < n) :
 Calls Tryz.prog 82 #[ptr x,.int .i64 (a:Int),.int .i64 (b:Int)] w fun e w'=>(∃ v,e = .returned v)∧Keep w.heap.size g w w'∧TiesO w' x n aN cN g cC N (Mt.tied C a b) S K P:=by
 have hT:=H.ties
 have hn:=hT.le
 have hn':(n:Int)≤5000:=by omega
 have hc1:=hT.c1
 obtain ⟨_,_,e,hca⟩:=hT.cl a ha
 cases e
 obtain ⟨_,_,e,hcb⟩:=hT.cl b hb
 cases e
 have han:(a:Int) < (n:Int):=by omega
 have hbn:(b:Int) < (n:Int):=by omega
 rw [Nat.zero_add] at hca hcb
 have HH:=hid H
 have hNew:=hid H.2.2
 clear H hT
 have HCa:Hid (∀ j,Mt.tied C a b j = if C j = C a then C b else C j):=fun j=>rfl
 generalize hfa:C a = fa at *
 generalize hfb:C b = fb at *
 clear hfa hfb
 go_enter Tryz.func82,Tryz.ntmps82
 go_wp2
 go_quiet (fail)
 go_wp2
 go_loopw [8] (fun i wr=>∃ k:Nat,k≤n∧i = .int .i64 (k:Int)∧Hid (New 0 wr (.slice (some ⟨g,0,none⟩) n cC) (Mt.clL n (Mt.mid C a b k)))∧Hid (Keep w.heap.size g w wr)) (fun i _=>n - (intOf i).toNat)
 case atStart=>exact ⟨0,Nat.zero_le _,rfl,by rw [Mt.mid_zero];exact hNew,keep_drewN (Keep.refl _ _ _) _⟩
 case round =>
  obtain ⟨k,hk,rfl,hNk,hKk⟩:=hrel
  have hO:=hid (HH.out.keep hKk.out hNk.out)
  have h1r:=hO.out.ties.c1
  by_cases hlt:k < n
  ·have hkn:(k:Int) < (n:Int):=by omega
   obtain ⟨_,_,e,hck⟩:=hO.out.ties.cl k hlt
   cases e
   rw [Nat.zero_add,Mt.mid_here] at hck
   have hfk:=(New.atG hNk.out (Mt.clL_length _ _).symm).2 k
   by_cases hC:C k = fa
   ·have heq:((C k:Int) == (fa:Int)) = true:=by rw [hC];simp
    have hD:Hid (Mt.tied C a b k = fb):=(HCa.out k).trans (if_pos hC)
    clear hC
    generalize C k = ck at *
    go_wp2
    go_roundw
    case rel =>
     refine ⟨k+1,by omega,by go_num,?_,hKk.out.trans (Keep.of_grown (grownBy_setCell1 wr g k _) hKk.out.size)⟩
     have h:=hNk.out.set (Mt.clL_length _ _).symm k (fb:Int)
     rw [← hD.out,← Mt.mid_succ,Mt.clL_set (fun j hj=>Mt.mid_else C a b k hj),Mt.mid_succ,hD.out] at h
     exact h
    case measure=>simp [intOf];omega
   ·have hne:((C k:Int) == (fa:Int)) = false:=by simp;omega
    have hD:Hid (Mt.tied C a b k = C k):=(HCa.out k).trans (if_neg hC)
    clear hC
    have hst:Hid (Mt.clL n (Mt.mid C a b (k+1)) = Mt.clL n (Mt.mid C a b k)):=Mt.clL_congr fun j _=>by
     by_cases e:j = k
     ·subst e;rw [Mt.mid_succ,hD.out,Mt.mid_here]
     ·exact Mt.mid_else C a b k e
    generalize C k = ck at *
    go_wp2
    go_roundw
    case rel=>exact ⟨k+1,by omega,by go_num,by rw [hst.out];exact hNk,hKk⟩
    case measure=>simp [intOf];omega
  ·obtain rfl:k = n:=by omega
   have hN':=hNk.out
   rw [Mt.mid_all] at hN'
   have HN':=hid hN'
   clear hN'
   go_wp2
   first | go_end0 | refine bodyPost_ret (results_none rfl _ _ _) rfl ?_
   exact ⟨⟨_,rfl⟩,hKk.out,HH.out.keep hKk.out HN'.out⟩
end Go.Proofs.YtglohanbpjaieaaGreat
namespace Go.Proofs.YtglohanbpjaieaaGreat
open Go.Proofs Go.RowKit Go.Shelf Go.Maps
namespace Mt
open Wb (App TermSb Same Sb)
structure CInv (n:Nat) (Z:Nat→List Int) (C0 C1:Nat→Nat) (ag:Bool) (C:Nat→Nat):Prop where
 lt:∀ k,k < n→C k < n
 coarse:∀ i j,i < n→j < n→C0 i = C0 j→C i = C j
 sound:∀ θ,TermSb θ→Resp n Z C0 θ→Resp n Z C θ
 same:ag = false→C = C1
 less:ag = true→cls n C < cls n C1
theorem CInv.le {n:Nat} {Z:Nat→List Int} {C0 C1:Nat→Nat} {ag:Bool} {C:Nat→Nat} (H:CInv n Z C0 C1 ag C):cls n C≤cls n C1:=by
 cases ag with
 | false=>rw [H.same rfl];exact Nat.le_refl _
 | true=>have:=H.less rfl;omega
theorem CInv.begin {n:Nat} {Z:Nat→List Int} {C0 C1:Nat→Nat} {ag:Bool} {C:Nat→Nat} (H:CInv n Z C0 C1 ag C):CInv n Z C0 C false C:=⟨H.lt,H.coarse,H.sound,fun _=>rfl,fun h=>by cases h⟩
theorem CInv.start {n:Nat} (Z:Nat→List Int) {C:Nat→Nat} (h:∀ k,k < n→C k < n):CInv n Z C C false C:=⟨h,fun _ _ _ _ e=>e,fun _ _ R=>R,fun _=>rfl,fun h=>by cases h⟩
theorem CInv.parts {n:Nat} {S:Nat→Int} {K:Nat→List Nat} {Z:Nat→List Int} (G:Gph n S K Z) {C0 C1:Nat→Nat} {ag:Bool} {C:Nat→Nat} (H:CInv n Z C0 C1 ag C) {a b:Nat} (ha:a < n) (hb:b < n) (sa:0≤S a) (sb:0≤S b) (e:C a = C b):∀ θ,TermSb θ→Resp n Z C0 θ→S a = S b∧∀ i,i < Tm.room (S a)→App θ (Z ((K a)[i]?.getD 0)) = App θ (Z ((K b)[i]?.getD 0)) :=
 fun θ hθ R=>G.eq hθ ha hb sa sb (H.sound θ hθ R a b ha hb e)
theorem CInv.tie {n:Nat} {S:Nat→Int} {K:Nat→List Nat} {Z:Nat→List Int} (G:Gph n S K Z) {C0 C1:Nat→Nat} {ag:Bool} {C:Nat→Nat} (H:CInv n Z C0 C1 ag C) {a b i:Nat} (ha:a < n) (hb:b < n) (sa:0≤S a) (sb:0≤S b) (e:C a = C b) (hi:i < Tm.room (S a)) (li:(K a)[i]?.getD 0 < n) (lj:(K b)[i]?.getD 0 < n) (hne:C ((K a)[i]?.getD 0)≠C ((K b)[i]?.getD 0)) :
 CInv n Z C0 C1 true (tied C ((K a)[i]?.getD 0) ((K b)[i]?.getD 0)):=by
 refine ⟨tied_lt H.lt lj,fun i j hi hj e=>tied_mono _ _ (H.coarse i j hi hj e),fun θ hθ R=>(H.sound θ hθ R).tie li lj ((H.parts G ha hb sa sb e θ hθ R).2 i hi),(fun h=>by cases h),fun _=>?_⟩
 have h1:=cls_tie H.lt li lj hne
 have h2:=H.le
 omega
theorem cls_congr {n:Nat} {C D:Nat→Nat} (h:∀ k,k < n→C k = D k):cls n C = cls n D:=by
 unfold cls
 congr 1
 refine List.filter_congr fun c _=>?_
 rw [Bool.eq_iff_iff,used_iff,used_iff]
 constructor
 ·rintro ⟨k,hk,e⟩;exact ⟨k,hk,by rw [← h k hk];exact e⟩
 ·rintro ⟨k,hk,e⟩;exact ⟨k,hk,by rw [h k hk];exact e⟩
def rdC (g:Nat) (W:World) (k:Nat):Nat:=match W.cell? ⟨g,k,none⟩ with
 | some (.int _ z)=>z.toNat
 | _=>0
def left (n g:Nat) (v:Value) (W:World):Nat:=2 * cls n (rdC g W)+(match v with | .bool true=>1 | _=>0)
end Mt
theorem TiesO.drewN {W:World} {x n:Nat} {aN:Option Addr} {cN g cC:Nat} {N:Nat→Nat} {C:Nat→Nat} {S:Nat→Int} {K:Nat→List Nat} {P:Nat→Nat→Nat} (h:TiesO W x n aN cN g cC N C S K P) (d:Nat):TiesO (W.drewN d) x n aN cN g cC N C S K P:=h.keep (keep_drewN (Keep.refl _ _ _) d) (h.2.2.drewN d)
theorem TiesO.cls {W:World} {x n:Nat} {aN:Option Addr} {cN g cC:Nat} {N:Nat→Nat} {C:Nat→Nat} {S:Nat→Int} {K:Nat→List Nat} {P:Nat→Nat→Nat} (h:TiesO W x n aN cN g cC N C S K P):Mt.cls n (Mt.rdC g W) = Mt.cls n C:=by
 refine Mt.cls_congr fun k hk=>?_
 obtain ⟨_,_,e,hc⟩:=h.ties.cl k hk
 cases e
 rw [Nat.zero_add] at hc
 unfold Mt.rdC
 rw [hc]
 exact Int.toNat_natCast _
def CloseAns (w w':World) (e:Ending) (x n:Nat) (aN:Option Addr) (cN g cC:Nat) (N:Nat→Nat) (C0:Nat→Nat) (S:Nat→Int) (K:Nat→List Nat) (P:Nat→Nat→Nat) (Z:Nat→List Int):Prop :=
 Keep w.heap.size g w w'∧((e = .returned (.bool false)∧∀ θ,Wb.TermSb θ→¬ Mt.Resp n Z C0 θ) ∨
  (e = .returned (.bool true)∧∃ C,TiesO w' x n aN cN g cC N C S K P∧(∀ k,k < n→C k < n)∧(∀ i j,i < n→j < n→C0 i = C0 j→C i = C j)∧(∀ θ,Wb.TermSb θ→Mt.Resp n Z C0 θ→Mt.Resp n Z C θ)∧∀ a b,a < n→b < n→Mt.Shut S K C a b))
theorem Mt.Shut.symm {S:Nat→Int} {K:Nat→List Nat} {C:Nat→Nat} {a b:Nat} (h:Mt.Shut S K C a b):Mt.Shut S K C b a:=fun e h1 h2=>by
 obtain ⟨e1,e2⟩:=h e.symm h2 h1
 exact ⟨e1.symm,fun i hi=>(e2 i (by rw [e1];exact hi)).symm⟩
theorem Mt.Shut.all {n:Nat} {S:Nat→Int} {K:Nat→List Nat} {C:Nat→Nat} (h:∀ a b,a < n→b < a→Mt.Shut S K C a b):∀ a b,a < n→b < n→Mt.Shut S K C a b:=fun a b ha hb=>by
 rcases Nat.lt_trichotomy b a with h1 | rfl | h1
 ·exact h a b ha h1
 ·exact fun _ _ _=>⟨rfl,fun _ _=>rfl⟩
 ·exact (h b a hb h1).symm
set_option maxRecDepth 100000 in
set_option maxHeartbeats 2000000 in
theorem tclose_any {x n:Nat} {aN:Option Addr} {cN g cC:Nat} {N:Nat→Nat} {C0:Nat→Nat} {S:Nat→Int} {K:Nat→List Nat} {P:Nat→Nat→Nat} {Z:Nat→List Int} (G:Mt.Gph n S K Z) (w:World) (H:TiesO w x n aN cN g cC N C0 S K P) (hlt0:∀ k,k < n→C0 k < n) (hn0:0 < n) :
 Calls Tryz.prog 83 #[ptr x] w fun e w'=>CloseAns w w' e x n aN cN g cC N C0 S K P Z:=by
 have hn:=H.ties.le
 have hn':(n:Int)≤5000:=by omega
 obtain ⟨bN,oN,rfl,_⟩:=H.ties.nd 0 hn0
 have HG:=hid G
 have hI0:=hid (Mt.CInv.start Z hlt0)
 have HO:=hid H
 clear H hlt0 G
 go_enter Tryz.func83,Tryz.ntmps83
 go_wp2
 go_loopw [3] (fun v wr=>∃ (ag:Bool) (C:Nat→Nat),v = .bool ag∧Hid (Mt.CInv n Z C0 C false C)∧Hid (ag = false→∀ a b,a < n→b < a→Mt.Shut S K C a b)∧Hid (Keep w.heap.size g w wr)∧Hid (TiesO wr x n (some ⟨bN,oN,none⟩) cN g cC N C S K P)) (fun v wr=>Mt.left n g v wr)
 case atStart=>exact ⟨true,C0,rfl,hI0,(fun h=>by cases h),Keep.refl _ _ _,HO⟩
 case round =>
  obtain ⟨ag,C1,rfl,hI1,hSh1,hK1,hO1⟩:=hrel
  have hleft:Hid (Mt.left n g (.bool ag) wr = 2 * Mt.cls n C1+(match Value.bool ag with | .bool true=>1 | _=>0)):=by show Mt.left n g (.bool ag) wr = _;unfold Mt.left;rw [hO1.out.cls]
  cases ag with
  | false =>
   go_wp2
   go_ret
   exact ⟨hK1.out,.inr ⟨rfl,C1,hO1.out,hI1.out.lt,hI1.out.coarse,hI1.out.sound,Mt.Shut.all (hSh1.out (by first | rfl | trivial))⟩⟩
  | true =>
   clear hSh1
   go_wp2
   go_loopw [3,4] (fun v i wr=>∃ (ag:Bool) (a:Nat) (C:Nat→Nat),v = .bool ag∧i = .int .i64 (a:Int)∧a≤n∧Hid (Mt.CInv n Z C0 C1 ag C)∧Hid (ag = false→∀ a' b',a' < a→b' < a'→Mt.Shut S K C1 a' b')∧Hid (Keep w.heap.size g w wr)∧Hid (TiesO wr x n (some ⟨bN,oN,none⟩) cN g cC N C S K P)) (fun _ i _=>n - (intOf i).toNat)
   case atStart=>exact ⟨false,0,C1,rfl,rfl,Nat.zero_le _,hI1,fun _ a' b' h=>by omega,hK1,hO1⟩
   case round =>
    obtain ⟨ag,a,C2,rfl,rfl,ha,hI2,hSh2,hK2,hO2⟩:=hrel
    have h0r:=hO2.out.ties.c0
    by_cases han:a < n
    ·have han':(a:Int) < (n:Int):=by omega
     have hkn:=(HG.out.known a han)
     go_wp2
     go_loopw [3,5] (fun v i wr=>∃ (ag:Bool) (b:Nat) (C:Nat→Nat),v = .bool ag∧i = .int .i64 (b:Int)∧b≤a∧Hid (Mt.CInv n Z C0 C1 ag C)∧Hid (ag = false→∀ a' b',b' < a'→(a' < a∨(a' = a∧b' < b))→Mt.Shut S K C1 a' b')∧Hid (Keep w.heap.size g w wr)∧Hid (TiesO wr x n (some ⟨bN,oN,none⟩) cN g cC N C S K P)) (fun _ i _=>a - (intOf i).toNat)
     case atStart=>exact ⟨ag,0,C2,rfl,rfl,Nat.zero_le _,hI2,fun h a' b' h1 h2=>hSh2.out h a' b' (by omega) h1,hK2,hO2⟩
     case round =>
      obtain ⟨ag,b,C3,rfl,rfl,hb,hI3,hSh3,hK3,hO3⟩:=hrel
      have hT:=hO3.out.ties
      have h0r:=hT.c0
      have h1r:=hT.c1
      by_cases hba:b < a
      ·have hba':(b:Int) < (a:Int):=by omega
       have hbn:b < n:=by omega
       have hbn':(b:Int) < (n:Int):=by omega
       obtain ⟨_,_,e,hna⟩:=hT.nd a han
       cases e
       obtain ⟨_,_,e,hnb⟩:=hT.nd b hbn
       cases e
       obtain ⟨_,_,e,hca⟩:=hT.cl a han
       cases e
       obtain ⟨_,_,e,hcb⟩:=hT.cl b hbn
       cases e
       rw [Nat.zero_add] at hca hcb
       obtain ⟨pa,qa,hNa,hpa⟩:=hT.tr a han
       obtain ⟨pb,qb,hNb,hpb⟩:=hT.tr b hbn
       have hsa:=hNa.cell0
       have hsb:=hNb.cell0
       have hla:=hid hNa.cell1
       have hlb:=hid hNb.cell1
       have Hpa:=hid hpa
       have Hpb:=hid hpb
       have HT:=hid hT
       have hO3':=hid (fun d=>hO3.out.drewN d)
       have hK3':=hid (fun d=>keep_drewN hK3.out d)
       clear hNa hNb hpa hpb hT
       have hsk:Hid (Mt.Shut S K C1 a b→ag = false→∀ a' b',b' < a'→(a' < a∨(a' = a∧b' < b+1))→Mt.Shut S K C1 a' b'):=fun hs h a' b' h1 h2=>by
        by_cases e:a' = a∧b' = b
        ·obtain ⟨rfl,rfl⟩:=e;exact hs
        ·exact hSh3.out h a' b' h1 (by omega)
       by_cases hC:C3 a = C3 b
       ·have hneq:((C3 a:Int) != (C3 b:Int)) = false:=by rw [hC];simp
        by_cases hs1:S a < 0
        ·have hr:Hid (ag = false→∀ a' b',b' < a'→(a' < a∨(a' = a∧b' < b+1))→Mt.Shut S K C1 a' b'):=hsk.out fun _ h _=>by omega
         clear hC hla hlb hsk
         go_wp2
         go_quiet (fail)
         go_wp2
         go_quiet (fail)
         go_wp2
         go_roundw
         case rel=>exact ⟨ag,b+1,C3,rfl,by go_num,by omega,hI3,hr,hK3'.out _,hO3'.out _⟩
         case measure=>simp [intOf];omega
        ·have hs1':decide (S a < 0) = false:=by simpa using hs1
         by_cases hs2:S b < 0
         ·have hr:Hid (ag = false→∀ a' b',b' < a'→(a' < a∨(a' = a∧b' < b+1))→Mt.Shut S K C1 a' b'):=hsk.out fun _ _ h=>by omega
          clear hC hla hlb hsk hs1
          go_wp2
          go_quiet (fail)
          go_wp2
          go_quiet (fail)
          go_wp2
          go_roundw
          case rel=>exact ⟨ag,b+1,C3,rfl,by go_num,by omega,hI3,hr,hK3'.out _,hO3'.out _⟩
          case measure=>simp [intOf];omega
         ·have hs2':decide (S b < 0) = false:=by simpa using hs2
          have hs1n:0≤S a:=by omega
          have hs2n:0≤S b:=by omega
          have hparts:=hid (hI3.out.parts HG.out han hbn hs1n hs2n hC)
          by_cases hs:S a = S b
          ·have hsn:(S a != S b) = false:=by simpa using hs
           have hroom:Tm.room (S b) = Tm.room (S a):=by rw [hs]
           have Hroom:=hid hroom
           have HSab:=hid hs
           have Hsk:Hid ((∀ i,i < Tm.room (S a)→C1 ((K a)[i]?.getD 0) = C1 ((K b)[i]?.getD 0))→(∀ a' b',b' < a'→(a' < a∨(a' = a∧b' < b))→Mt.Shut S K C1 a' b')→∀ a' b',b' < a'→(a' < a∨(a' = a∧b' < b+1))→Mt.Shut S K C1 a' b'):=fun h h0 a' b' h1 h2=>by
            by_cases e:a' = a∧b' = b
            ·obtain ⟨rfl,rfl⟩:=e;exact fun _ _ _=>⟨HSab.out,h⟩
            ·exact h0 a' b' h1 (by omega)
           have hC3:=hid hC
           have hr2:=Tm.room_le (S a)
           clear hC hla hlb hsk hs1 hs2 hs hparts hroom
           go_wp2
           go_quiet (fail)
           go_wp2
           go_quiet (fail)
           go_wp2
           go_quiet (fail)
           go_wp2
           go_loopw [3,8] (fun v i wr=>∃ (ag:Bool) (k:Nat) (C:Nat→Nat),v = .bool ag∧i = .int .i64 (k:Int)∧k≤Tm.room (S a)∧Hid (Mt.CInv n Z C0 C1 ag C)∧Hid (C a = C b)∧Hid (ag = false→(∀ a' b',b' < a'→(a' < a∨(a' = a∧b' < b))→Mt.Shut S K C1 a' b')∧∀ i,i < k→C1 ((K a)[i]?.getD 0) = C1 ((K b)[i]?.getD 0))∧Hid (Keep w.heap.size g w wr)∧Hid (TiesO wr x n (some ⟨bN,oN,none⟩) cN g cC N C S K P)) (fun _ i _=>Tm.room (S a) - (intOf i).toNat)
           case atStart=>exact ⟨ag,0,C3,rfl,rfl,Nat.zero_le _,hI3,hC3,fun h=>⟨hSh3.out h,fun i hi=>by omega⟩,keep_drewN (keep_drewN (hK3'.out _) _) _,((hO3'.out _).drewN _).drewN _⟩
           case round =>
            clear h0r h1r hna hnb hca hcb hsa hsb
            obtain ⟨ag,k,C4,rfl,rfl,hk,hI4,hC4,hSh4,hK4,hO4⟩:=hrel
            have hT:=hO4.out.ties
            have h0r:=hT.c0
            have h1r:=hT.c1
            obtain ⟨pa,qa,hNa,hpa⟩:=hT.tr a han
            obtain ⟨pb,qb,hNb,hpb⟩:=hT.tr b hbn
            have hla:=hNa.cell1
            have hlb:=hNb.cell1
            rw [Hroom.out] at hlb hpb
            have Hpa:=hid hpa
            have Hpb:=hid hpb
            have HT:=hid hT
            clear hNa hNb hpa hpb hT
            by_cases hlt:k < Tm.room (S a)
            ·have hkr:(k:Int) < (Tm.room (S a):Int):=by omega
             obtain ⟨b1,o1,rfl,hc1⟩:=Hpa.out k hlt
             obtain ⟨b2,o2,rfl,hc2⟩:=Hpb.out k hlt
             have hk2:k < Tm.room (S b):=by rw [Hroom.out];exact hlt
             have hn1:=hid (fun m=>(HT.out.drewN m).node (k:=a) (i:=k) han hlt)
             have hn2:=hid (fun m=>(HT.out.drewN m).node (k:=b) (i:=k) hbn hk2)
             obtain ⟨li,_⟩:=HT.out.fd a k han hlt
             obtain ⟨lj,_⟩:=HT.out.fd b k hbn hk2
             obtain ⟨_,_,e,hci⟩:=HT.out.cl _ li
             cases e
             obtain ⟨_,_,e,hcj⟩:=HT.out.cl _ lj
             cases e
             rw [Nat.zero_add] at hci hcj
             have htie:=hid (hI4.out.tie HG.out (i:=k) han hbn hs1n hs2n hC4.out hlt li lj)
             have hshr:Hid (C4 ((K a)[k]?.getD 0) = C4 ((K b)[k]?.getD 0)→ag = false→(∀ a' b',b' < a'→(a' < a∨(a' = a∧b' < b))→Mt.Shut S K C1 a' b')∧∀ i,i < k+1→C1 ((K a)[i]?.getD 0) = C1 ((K b)[i]?.getD 0)):=fun e h=>by
              refine ⟨(hSh4.out h).1,fun i hi=>?_⟩
              by_cases e2:i = k
              ·subst e2
               rw [hI4.out.same h] at e
               exact e
              ·exact (hSh4.out h).2 i (by omega)
             have li':(((K a)[k]?.getD 0:Nat):Int) < (n:Int):=by omega
             have lj':(((K b)[k]?.getD 0:Nat):Int) < (n:Int):=by omega
             generalize (K a)[k]?.getD 0 = i at *
             generalize (K b)[k]?.getD 0 = j at *
             by_cases hij:C4 i = C4 j
             ·have hneq2:((C4 i:Int) != (C4 j:Int)) = false:=by rw [hij];simp
              have hr:=hid (hshr.out hij)
              clear hij htie hshr
              generalize P a k = pak at *
              generalize P b k = pbk at *
              go_wp2
              go_quiet ((first | (go_at_call_of 80 (ptr pak);exact Calls.quiet_of (hn1.out _)) | (go_at_call_of 80 (ptr pbk);exact Calls.quiet_of (hn2.out _))))
              go_wp2
              go_quiet (fail)
              go_wp2
              go_roundw
              case rel=>exact ⟨ag,k+1,C4,rfl,by go_num,by omega,hI4,hC4,hr,keep_drewN hK4.out _,hO4.out.drewN _⟩
              case measure=>simp [intOf];omega
             ·have hneq2:((C4 i:Int) != (C4 j:Int)) = true:=by simp;omega
              have htie':=hid (htie.out hij)
              have hcall:=hid (fun d=>tie_any (wr.drewN d) (hO4.out.drewN d) i j li lj)
              clear hij htie hshr
              generalize P a k = pak at *
              generalize P b k = pbk at *
              go_wp2
              go_quiet ((first | (go_at_call_of 80 (ptr pak);exact Calls.quiet_of (hn1.out _)) | (go_at_call_of 80 (ptr pbk);exact Calls.quiet_of (hn2.out _))))
              go_wp2
              go_quiet (fail)
              go_wp2_with (go_at_call 82;refine (hcall.out _).mono ?_;clear hcall;rintro e w5 ⟨⟨v5,rfl⟩,hK5,hO5⟩)
              go_roundw
              case rel=>exact ⟨true,k+1,_,rfl,by go_num,by omega,htie'.out,Mt.tied_mono _ _ hC4.out,(fun h=>by cases h),(keep_drewN hK4.out _).trans (hK5.mono hK4.out.size),hO5⟩
              case measure=>simp [intOf];omega
            ·obtain rfl:k = Tm.room (S a):=by omega
             go_wp2
             go_roundw
             case rel=>exact ⟨ag,b+1,C4,rfl,by go_num,by omega,hI4,fun h=>Hsk.out (hSh4.out h).2 (hSh4.out h).1,hK4,hO4⟩
             case measure=>simp [intOf];omega
          ·have hsn:(S a != S b) = true:=by simpa using hs
           have hno:Hid (∀ θ,Wb.TermSb θ→¬ Mt.Resp n Z C0 θ):=fun θ hθ R=>hs (hparts.out θ hθ R).1
           clear hC hla hlb hsk hs1 hs2 hs hparts
           go_wp2
           go_quiet (fail)
           go_wp2
           go_quiet (fail)
           go_wp2
           go_quiet (fail)
           go_wp2
           go_ret
           exact ⟨keep_drewN (keep_drewN (hK3'.out _) _) _,.inl ⟨rfl,hno.out⟩⟩
       ·have hneq:((C3 a:Int) != (C3 b:Int)) = true:=by simp;omega
        have hr:Hid (ag = false→∀ a' b',b' < a'→(a' < a∨(a' = a∧b' < b+1))→Mt.Shut S K C1 a' b'):=fun h=>hsk.out (fun e=>absurd (by rw [hI3.out.same h];exact e) hC) h
        clear hC hla hlb hsk hsa hsb
        go_wp2
        go_quiet (fail)
        go_wp2
        go_quiet (fail)
        go_wp2
        go_roundw
        case rel=>exact ⟨ag,b+1,C3,rfl,by go_num,by omega,hI3,hr,hK3'.out _,hO3'.out _⟩
        case measure=>simp [intOf];omega
      ·obtain rfl:b = a:=by omega
       go_wp2
       go_roundw
       case rel=>exact ⟨ag,b+1,C3,rfl,by go_num,by omega,hI3,fun h a' b' h1 h2=>hSh3.out h a' b' h2 (by omega),hK3,hO3⟩
       case measure=>simp [intOf];omega
    ·obtain rfl:a = n:=by omega
     go_wp2
     go_roundw
     case rel=>exact ⟨ag,C2,rfl,hI2.out.begin,fun h a b h1 h2=>by rw [hI2.out.same h];exact hSh2.out h a b h1 h2,hK2,hO2⟩
     case measure =>
      rw [hleft.out]
      show Mt.left _ g (.bool ag) _ < _
      unfold Mt.left
      rw [hO2.out.cls]
      cases ag with
      | false=>have:=hI2.out.le;simp only;omega
      | true=>have:=hI2.out.less rfl;simp only;omega
end Go.Proofs.YtglohanbpjaieaaGreat
namespace Go.Proofs.YtglohanbpjaieaaGreat
open Go.Proofs Go.RowKit Go.Shelf Go.Maps
structure Nd where
 X:Nat
 s:Int
 Xs:List Nat
 zss:List (List Int)
def Nd.z (d:Nd):List Int:=d.s :: d.zss.flatten
def nd0:Nd:=⟨0,0,[],[]⟩
abbrev ndAt (L:List Nd) (k:Nat):Nd:=L[k]?.getD nd0
def hd0 (z:List Int):Int:=z[0]?.getD 0
theorem Nd.hd (d:Nd):hd0 d.z = d.s:=rfl
def FndL (L:List Nd) (p:Nat) (z:List Int) (i:Nat):Prop:=i < L.length∧(ndAt L i).z = z∧(hd0 z < 0→∀ k,k < i→(ndAt L k).s≠hd0 z)∧(0≤hd0 z→(ndAt L i).X = p∧∀ k,k < i→(ndAt L k).X≠p)
def FullL (L:List Nd) (d:Nd):Prop:=∀ j,j < d.Xs.length→∃ i,FndL L (d.Xs[j]?.getD 0) (d.zss[j]?.getD []) i
def OneL (L:List Nd):Prop:=∀ i j,i < L.length→j < L.length→(ndAt L i).s < 0→(ndAt L i).s = (ndAt L j).s→i = j
theorem ndAt_app {L:List Nd} (M:List Nd) {k:Nat} (h:k < L.length):ndAt (L++M) k = ndAt L k:=by unfold ndAt;rw [List.getElem?_append_left h]
theorem ndAt_last (L:List Nd) (d:Nd):ndAt (L++[d]) L.length = d:=by unfold ndAt;simp
theorem ndAt_mem {L:List Nd} {k:Nat} (h:k < L.length):ndAt L k∈L:=by unfold ndAt;rw [List.getElem?_eq_getElem h];exact List.getElem_mem h
theorem FndL.app {L:List Nd} {p:Nat} {z:List Int} {i:Nat} (h:FndL L p z i) (M:List Nd):FndL (L++M) p z i:=by
 obtain ⟨h1,h2,h3,h4⟩:=h
 refine ⟨by rw [List.length_append];omega,by rw [ndAt_app M h1];exact h2,fun hs k hk=>by rw [ndAt_app M (by omega)];exact h3 hs k hk,fun hs=>?_⟩
 obtain ⟨h5,h6⟩:=h4 hs
 exact ⟨by rw [ndAt_app M h1];exact h5,fun k hk=>by rw [ndAt_app M (by omega)];exact h6 k hk⟩
theorem FullL.app {L:List Nd} {d:Nd} (h:FullL L d) (M:List Nd):FullL (L++M) d:=fun j hj=>by
 obtain ⟨i,hi⟩:=h j hj
 exact ⟨i,hi.app M⟩
theorem OneL.snoc {L:List Nd} (h:OneL L) {d:Nd} (hd:d.s < 0→∀ k,k < L.length→(ndAt L k).s≠d.s):OneL (L++[d]):=fun i j hi hj hs e=>by
 rw [List.length_append,List.length_singleton] at hi hj
 by_cases h1:i < L.length
 ·rw [ndAt_app _ h1] at hs e
  by_cases h2:j < L.length
  ·rw [ndAt_app _ h2] at e
   exact h i j h1 h2 hs e
  ·obtain rfl:j = L.length:=by omega
   rw [ndAt_last] at e
   exact absurd e (hd (by omega) i h1)
 ·obtain rfl:i = L.length:=by omega
  rw [ndAt_last] at hs e
  by_cases h2:j < L.length
  ·rw [ndAt_app _ h2] at e
   exact absurd e.symm (hd hs j h2)
  ·omega
def Far (vN vC:Value) (lo hi:Nat):Prop:=∀ q,(vN.ownBlock = some q∨vC.ownBlock = some q)→q < lo∨hi≤q
def NdAt (W:World) (x:Nat) (vN vC:Value) (d:Nd):Prop:=∃ lo hi v,x < lo∧hi≤W.heap.size∧Far vN vC lo hi∧lo≤d.X∧d.X < hi∧Node W d.X d.s v∧PartsAt lo hi W v d.Xs∧d.Xs.length = Tm.room d.s∧d.zss.length = d.Xs.length∧(∀ s∈d.z,-8≤s∧s < 6)∧∀ j,j < d.Xs.length→TreeIn lo hi W (d.Xs[j]?.getD 0) (d.zss[j]?.getD [])
structure WK (W W':World) (x:Nat) (vN vC vN' vC':Value):Prop where
 os:W'.os = W.os
 tape:W'.tape = W.tape
 output:W'.output = W.output
 size:W.heap.size≤W'.heap.size
 block:∀ k,k < W.heap.size→k≠x→some k≠vN.ownBlock→some k≠vC.ownBlock→W'.heap[k]? = W.heap[k]?
 ownN:∀ k,vN'.ownBlock = some k→vN.ownBlock = some k∨W.heap.size≤k
 ownC:∀ k,vC'.ownBlock = some k→vC.ownBlock = some k∨W.heap.size≤k
theorem WK.refl (W:World) (x:Nat) (vN vC:Value):WK W W x vN vC vN vC:=⟨rfl,rfl,rfl,Nat.le_refl _,fun _ _ _ _ _=>rfl,fun _ h=>.inl h,fun _ h=>.inl h⟩
theorem WK.drewN {W W':World} {x:Nat} {vN vC vN' vC':Value} (h:WK W W' x vN vC vN' vC') (d:Nat):WK W (W'.drewN d) x vN vC vN' vC':=⟨h.os,h.tape,h.output,h.size,h.block,h.ownN,h.ownC⟩
theorem WK.trans {W1 W2 W3:World} {x:Nat} {vN1 vC1 vN2 vC2 vN3 vC3:Value} (h:WK W1 W2 x vN1 vC1 vN2 vC2) (k:WK W2 W3 x vN2 vC2 vN3 vC3):WK W1 W3 x vN1 vC1 vN3 vC3:=by
 refine ⟨k.os.trans h.os,k.tape.trans h.tape,k.output.trans h.output,Nat.le_trans h.size k.size,fun q hq h1 h2 h3=>?_,fun q hq=>?_,fun q hq=>?_⟩
 ·have e1:=h.block q hq h1 h2 h3
  refine (k.block q (by have:=h.size;omega) h1 (fun e=>?_) (fun e=>?_)).trans e1
  ·rcases h.ownN q e.symm with e2 | e2
   ·exact h2 e2.symm
   ·omega
  ·rcases h.ownC q e.symm with e2 | e2
   ·exact h3 e2.symm
   ·omega
 ·rcases k.ownN q hq with e | e
  ·exact h.ownN q e
  ·have:=h.size;exact .inr (by omega)
 ·rcases k.ownC q hq with e | e
  ·exact h.ownC q e
  ·have:=h.size;exact .inr (by omega)
theorem WK.far {W W':World} {x:Nat} {vN vC vN' vC':Value} (h:WK W W' x vN vC vN' vC') {lo hi:Nat} (hF:Far vN vC lo hi) (hh:hi≤W.heap.size):Far vN' vC' lo hi:=fun q hq=>by
 rcases hq with e | e
 ·rcases h.ownN q e with e | e
  ·exact hF q (.inl e)
  ·exact .inr (by omega)
 ·rcases h.ownC q e with e | e
  ·exact hF q (.inr e)
  ·exact .inr (by omega)
theorem WK.keeps {W W':World} {x:Nat} {vN vC vN' vC':Value} (h:WK W W' x vN vC vN' vC') {lo hi:Nat} (hF:Far vN vC lo hi) (hx:x < lo) (hh:hi≤W.heap.size):∀ k,lo≤k→k < hi→W'.heap[k]? = W.heap[k]?:=fun k h1 h2 =>
 h.block k (by omega) (by omega) (fun e=>by have:=hF k (.inl e.symm);omega) (fun e=>by have:=hF k (.inr e.symm);omega)
theorem NdAt.keep {W W':World} {x:Nat} {vN vC vN' vC':Value} {d:Nd} (H:NdAt W x vN vC d) (h:WK W W' x vN vC vN' vC'):NdAt W' x vN' vC' d:=by
 obtain ⟨lo,hi,v,h1,h2,h3,h4,h5,h6,h7,h8,h9,h10,h11⟩:=H
 have hk:=h.keeps h3 h1 h2
 exact ⟨lo,hi,v,h1,by have:=h.size;omega,h.far h3 h2,h4,h5,(hk _ h4 h5).trans h6,h7.keep (Nat.le_refl _) (Nat.le_refl _) hk,h8,h9,h10,fun j hj=>(h11 j hj).keep (Nat.le_refl _) (Nat.le_refl _) hk⟩
theorem parts_one {lo hi lo' hi':Nat} {W:World} {v:Value} {Xs Ys:List Nat} (h:PartsAt lo hi W v Xs) (k:PartsAt lo' hi' W v Ys):Xs = Ys:=by
 obtain ⟨a,c,rfl,h1⟩:=h
 obtain ⟨a',c',e,h2⟩:=k
 simp only [Value.slice.injEq] at e
 obtain ⟨rfl,hl,rfl⟩:=e
 refine List.ext_getElem hl fun j j1 j2=>?_
 obtain ⟨b,off,e1,_,_,c1⟩:=h1 j j1
 obtain ⟨b',off',e2,_,_,c2⟩:=h2 j j2
 rw [e1] at e2
 simp only [Option.some.injEq,Addr.mk.injEq] at e2
 obtain ⟨rfl,rfl,_⟩:=e2
 rw [c1] at c2
 simp only [Option.some.injEq,Value.pointer.injEq,Addr.mk.injEq] at c2
 have:=c2.1
 rw [List.getElem?_eq_getElem j1,List.getElem?_eq_getElem j2] at this
 exact this
theorem TreeIn.one {lo hi:Nat} {W:World} {X:Nat} {zs:List Int} (h:TreeIn lo hi W X zs):∀ {lo' hi':Nat} {zs':List Int},TreeIn lo' hi' W X zs'→zs = zs':=by
 induction h with
 | mk X s v Xs zss hX1 hX2 hN hP hr hl _ ih =>
  intro lo' hi' zs' h'
  cases h' with
  | mk _ s' v' Xs' zss' _ _ hN' hP' hr' hl' hT' =>
   have e:some (Obj.cells #[Value.int .i64 s,v] 121 (0,0)) = some (Obj.cells #[Value.int .i64 s',v'] 121 (0,0)):=(show W.heap[X]? = _ from hN).symm.trans (show W.heap[X]? = _ from hN')
   simp only [Option.some.injEq,Obj.cells.injEq,and_true] at e
   have e2:=congrArg Array.toList e
   simp only [List.cons.injEq,and_true,Value.int.injEq,true_and] at e2
   obtain ⟨rfl,rfl⟩:=e2
   obtain rfl:=parts_one hP hP'
   congr 2
   refine List.ext_getElem (by omega) fun j j1 j2=>?_
   have:=ih j (by omega) (hT' j (by omega))
   rw [List.getElem?_eq_getElem j1,List.getElem?_eq_getElem j2] at this
   exact this
theorem NdAt.tree {W:World} {x:Nat} {vN vC:Value} {d:Nd} (H:NdAt W x vN vC d):∃ lo hi,TreeIn lo hi W d.X d.z:=by
 obtain ⟨lo,hi,v,h1,h2,h3,h4,h5,h6,h7,h8,h9,h10,h11⟩:=H
 exact ⟨lo,hi,TreeIn.mk d.X d.s v d.Xs d.zss h4 h5 h6 h7 h8 h9 h11⟩
theorem NdAt.node {W:World} {x:Nat} {vN vC:Value} {d:Nd} (H:NdAt W x vN vC d):∃ v,Node W d.X d.s v:=by
 obtain ⟨lo,hi,v,h1,h2,h3,h4,h5,h6,_⟩:=H
 exact ⟨v,h6⟩
theorem node_one {W:World} {X:Nat} {s s':Int} {v v':Value} (h:Node W X s v) (k:Node W X s' v'):s = s'∧v = v':=by
 have e:some (Obj.cells #[Value.int .i64 s,v] 121 (0,0)) = some (Obj.cells #[Value.int .i64 s',v'] 121 (0,0)):=(show W.heap[X]? = _ from h).symm.trans (show W.heap[X]? = _ from k)
 simp only [Option.some.injEq,Obj.cells.injEq,and_true] at e
 have e2:=congrArg Array.toList e
 simp only [List.cons.injEq,and_true,Value.int.injEq,true_and] at e2
 exact e2
structure TB (W:World) (x:Nat) (vN vC:Value) (L:List Nd) (m:Nat) (C:Nat→Nat):Prop where
 cell:W.heap[x]? = some (.cells #[vN,vC] 115 (0,0))
 rowN:W.ownsRow (x+1) 117 1 vN L.length (L.map fun d=>ptr d.X)
 rowC:New (x+1) W vC (Mt.clL m C)
 nds:∀ d∈L,NdAt W x vN vC d
 one:OneL L
theorem TB.lt {W:World} {x:Nat} {vN vC:Value} {L:List Nd} {m:Nat} {C:Nat→Nat} (h:TB W x vN vC L m C):x < W.heap.size:=(Array.getElem?_eq_some_iff.1 h.cell).1
theorem TB.drewN {W:World} {x:Nat} {vN vC:Value} {L:List Nd} {m:Nat} {C:Nat→Nat} (h:TB W x vN vC L m C) (d:Nat):TB (W.drewN d) x vN vC L m C:=⟨h.cell,h.rowN,h.rowC,fun q hq=>(h.nds q hq).keep ((WK.refl W x vN vC).drewN d),h.one⟩
theorem TB.form {W:World} {x:Nat} {vN vC:Value} {L:List Nd} {m:Nat} {C:Nat→Nat} (h:TB W x vN vC L m C):∃ aN cN,vN = .slice aN L.length cN∧∀ k,k < L.length→∃ b off,aN = some ⟨b,off,none⟩∧W.cell? ⟨b,off+k,none⟩ = some (ptr (ndAt L k).X):=by
 rcases h.rowN.2 with ⟨e,hn⟩ | ⟨g,cap,cur,e,_⟩
 ·exact ⟨none,0,by rw [e,hn],fun k hk=>by omega⟩
 ·refine ⟨_,cap,e,fun k hk=>⟨g,0,rfl,?_⟩⟩
  have hr:=h.rowN
  rw [e] at hr
  have:=World.ownsRow.cellAt hr k (by omega)
  rw [Nat.zero_add,this]
  simp [ndAt,hk]
def extC (n:Nat) (C:Nat→Nat):Nat→Nat:=fun k=>if k < n then C k else k
theorem extC_lt {n:Nat} {C:Nat→Nat} {k:Nat} (h:k < n):extC n C k = C k:=by unfold extC;rw [if_pos h]
theorem ownsRow_keep {W W':World} {base:Nat} {e:TypeId} {size:Nat} {v:Value} {n:Nat} {xs:List Value} (h:W.ownsRow base e size v n xs) (hk:∀ q,v.ownBlock = some q→W'.heap[q]? = W.heap[q]?):W'.ownsRow base e size v n xs:=by
 refine ⟨h.1,?_⟩
 rcases h.2 with h1 | ⟨g,cap,cur,rfl,h2,h3,h4⟩
 ·exact .inl h1
 ·exact .inr ⟨g,cap,cur,rfl,h2,(hk g rfl).trans h3,h4⟩
theorem row_type {W:World} {base:Nat} {e:TypeId} {size:Nat} {v:Value} {n:Nat} {xs:List Value} (h:W.ownsRow base e size v n xs) {q:Nat} (hq:v.ownBlock = some q):∃ cur,W.heap[q]? = some (.cells cur e (0,0)):=by
 rcases h.2 with ⟨rfl,_⟩ | ⟨g,cap,cur,rfl,h2,h3,h4⟩
 ·cases hq
 ·cases hq;exact ⟨cur,h3⟩
theorem TB.apart {W:World} {x:Nat} {vN vC:Value} {L:List Nd} {m:Nat} {C:Nat→Nat} (h:TB W x vN vC L m C) {q:Nat} (h1:vN.ownBlock = some q) (h2:vC.ownBlock = some q):False:=by
 obtain ⟨c1,e1⟩:=row_type h.rowN h1
 obtain ⟨c2,e2⟩:=row_type h.rowC h2
 rw [e1] at e2
 simp only [Option.some.injEq,Obj.cells.injEq] at e2
 exact absurd e2.2.1 (by decide)
theorem set_two {W:World} {x:Nat} {v0 v1:Value} {T:TypeId} (h:W.heap[x]? = some (.cells #[v0,v1] T (0,0))) (u:Value):(W.setCell ⟨x,0,none⟩ u).heap[x]? = some (.cells #[u,v1] T (0,0))∧(W.setCell ⟨x,1,none⟩ u).heap[x]? = some (.cells #[v0,u] T (0,0)):=by
 obtain ⟨hlt,hk⟩:=Array.getElem?_eq_some_iff.1 h
 constructor
 ·show (W.heap.modify x _)[x]? = _
  rw [Array.getElem?_eq_getElem (by rw [Array.size_modify];exact hlt),Array.getElem_modify_self,hk]
  rfl
 ·show (W.heap.modify x _)[x]? = _
  rw [Array.getElem?_eq_getElem (by rw [Array.size_modify];exact hlt),Array.getElem_modify_self,hk]
  rfl
theorem grown_pre {W V w2:World} {tmp:Obj} {r:Option Nat} (e:V.heap = W.heap) (h1:V.os = W.os) (h2:V.tape = W.tape) (h3:V.output = W.output) (hg:(V.alloc tmp).grownBy w2 r):W.grownBy w2 r:=by
 have hs:(V.alloc tmp).heap.size = W.heap.size+1:=by simp [e]
 refine ⟨hg.os.trans h1,hg.tape.trans h2,hg.output.trans h3,by have:=hg.size;omega,fun k hk hne=>?_⟩
 rw [hg.block k (by omega) hne,Below.heap_alloc _ _ _ (by rw [e];exact hk),e]
theorem grown_pre2 {W V w2:World} {tmp:Obj} {r:Option Nat} (e:V.heap = (W.alloc tmp).heap) (h1:V.os = W.os) (h2:V.tape = W.tape) (h3:V.output = W.output) (hg:V.grownBy w2 r):W.grownBy w2 r:=by
 have hs:V.heap.size = W.heap.size+1:=by rw [e];simp
 refine ⟨hg.os.trans h1,hg.tape.trans h2,hg.output.trans h3,by have:=hg.size;omega,fun k hk hne=>?_⟩
 rw [hg.block k (by omega) hne,e,Below.heap_alloc _ _ _ hk]
theorem TB.addN {W w2:World} {x:Nat} {vN vC:Value} {L:List Nd} {m:Nat} {C:Nat→Nat} (H:TB W x vN vC L m C) (hg:W.grownBy w2 vN.ownBlock) {g cap:Nat} {p:Nat} (hown:w2.ownsRow (x+1) 117 1 (.slice (some ⟨g,0,none⟩) (L.length+1) cap) (L.length+1) ((L.map fun d=>ptr d.X)++[ptr p])) (hat:vN.ownBlock = some g∨W.heap.size≤g)
 (d:Nd) (hd:d.X = p) (hnd:NdAt W x vN vC d) (hone:OneL (L++[d])) :
 TB (w2.setCell ⟨x,0,none⟩ (.slice (some ⟨g,0,none⟩) (L.length+1) cap)) x (.slice (some ⟨g,0,none⟩) (L.length+1) cap) vC (L++[d]) m C∧WK W (w2.setCell ⟨x,0,none⟩ (.slice (some ⟨g,0,none⟩) (L.length+1) cap)) x vN vC (.slice (some ⟨g,0,none⟩) (L.length+1) cap) vC∧w2.heap[x]? = some (.cells #[vN,vC] 115 (0,0)):=by
 have hx:=H.lt
 have hsz:=hg.size
 have hb:∀ q,q < W.heap.size→some q≠vN.ownBlock→w2.heap[q]? = W.heap[q]?:=fun q hq hne=>hg.block q hq hne
 have hxN:some x≠vN.ownBlock:=fun e=>by have:=(World.ownsRow.lt H.rowN x e.symm).1;omega
 have hcx:w2.heap[x]? = some (.cells #[vN,vC] 115 (0,0)):=(hb x hx hxN).trans H.cell
 have hgx:x+1≤g:=(World.ownsRow.lt hown g rfl).1
 have hset:∀ q,q≠x→(w2.setCell ⟨x,0,none⟩ (.slice (some ⟨g,0,none⟩) (L.length+1) cap)).heap[q]? = w2.heap[q]?:=fun q hq=>Below.heap_setCell _ _ _ q hq
 have hwk:WK W (w2.setCell ⟨x,0,none⟩ (.slice (some ⟨g,0,none⟩) (L.length+1) cap)) x vN vC (.slice (some ⟨g,0,none⟩) (L.length+1) cap) vC:=by
  refine ⟨hg.os,hg.tape,hg.output,?_,fun q hq h1 h2 h3=>?_,fun q hq=>?_,fun q hq=>.inl hq⟩
  ·have:=(KeepsWalks.setCell w2 ⟨x,0,none⟩ (Value.slice (some ⟨g,0,none⟩) (L.length+1) cap)).size
   omega
  ·rw [hset q h1,hb q hq h2]
  ·obtain rfl:g = q:=by simpa [Value.ownBlock] using hq
   rcases hat with e | e
   ·exact .inl e
   ·exact .inr (by omega)
 refine ⟨⟨(set_two hcx _).1,?_,?_,fun q hq=>?_,hone⟩,hwk,hcx⟩
 ·have h1:=ownsRow_keep hown (W':=w2.setCell ⟨x,0,none⟩ (.slice (some ⟨g,0,none⟩) (L.length+1) cap)) fun q hq=>hset q (fun e=>by have:g = q:=(by simpa [Value.ownBlock] using hq);omega)
  rw [List.length_append,List.length_singleton,List.map_append,List.map_singleton,hd]
  exact h1
 ·refine ownsRow_keep H.rowC fun q hq=>?_
  have hq2:=World.ownsRow.lt H.rowC q hq
  rw [hset q (by omega),hb q hq2.2 fun e=>H.apart e.symm hq]
 ·rcases List.mem_append.1 hq with hq | hq
  ·exact (H.nds q hq).keep hwk
  ·rw [List.mem_singleton] at hq
   subst hq
   exact hnd.keep hwk
theorem TB.addC {W w2:World} {x:Nat} {vN vC:Value} {L:List Nd} {m:Nat} {C:Nat→Nat} (H:TB W x vN vC L m C) (hg:W.grownBy w2 vC.ownBlock) {g cap:Nat} (hown:w2.ownsRow (x+1) 3 1 (.slice (some ⟨g,0,none⟩) (m+1) cap) (m+1) ((Mt.clL m C).map (Value.int .i64)++[.int .i64 (m:Int)])) (hat:vC.ownBlock = some g∨W.heap.size≤g) :
 TB (w2.setCell ⟨x,1,none⟩ (.slice (some ⟨g,0,none⟩) (m+1) cap)) x vN (.slice (some ⟨g,0,none⟩) (m+1) cap) L (m+1) (extC m C)∧WK W (w2.setCell ⟨x,1,none⟩ (.slice (some ⟨g,0,none⟩) (m+1) cap)) x vN vC vN (.slice (some ⟨g,0,none⟩) (m+1) cap)∧w2.heap[x]? = some (.cells #[vN,vC] 115 (0,0)):=by
 have hx:=H.lt
 have hsz:=hg.size
 have hb:∀ q,q < W.heap.size→some q≠vC.ownBlock→w2.heap[q]? = W.heap[q]?:=fun q hq hne=>hg.block q hq hne
 have hxC:some x≠vC.ownBlock:=fun e=>by have:=(World.ownsRow.lt H.rowC x e.symm).1;omega
 have hcx:w2.heap[x]? = some (.cells #[vN,vC] 115 (0,0)):=(hb x hx hxC).trans H.cell
 have hgx:x+1≤g:=(World.ownsRow.lt hown g rfl).1
 have hset:∀ q,q≠x→(w2.setCell ⟨x,1,none⟩ (.slice (some ⟨g,0,none⟩) (m+1) cap)).heap[q]? = w2.heap[q]?:=fun q hq=>Below.heap_setCell _ _ _ q hq
 have hwk:WK W (w2.setCell ⟨x,1,none⟩ (.slice (some ⟨g,0,none⟩) (m+1) cap)) x vN vC vN (.slice (some ⟨g,0,none⟩) (m+1) cap):=by
  refine ⟨hg.os,hg.tape,hg.output,?_,fun q hq h1 h2 h3=>?_,fun q hq=>.inl hq,fun q hq=>?_⟩
  ·have:=(KeepsWalks.setCell w2 ⟨x,1,none⟩ (Value.slice (some ⟨g,0,none⟩) (m+1) cap)).size
   omega
  ·rw [hset q h1,hb q hq h3]
  ·obtain rfl:g = q:=by simpa [Value.ownBlock] using hq
   rcases hat with e | e
   ·exact .inl e
   ·exact .inr (by omega)
 refine ⟨⟨(set_two hcx _).2,?_,?_,fun q hq=>(H.nds q hq).keep hwk,H.one⟩,hwk,hcx⟩
 ·refine ownsRow_keep H.rowN fun q hq=>?_
  have hq2:=World.ownsRow.lt H.rowN q hq
  rw [hset q (by omega),hb q hq2.2 fun e=>H.apart hq e.symm]
 ·have h1:=ownsRow_keep hown (W':=w2.setCell ⟨x,1,none⟩ (.slice (some ⟨g,0,none⟩) (m+1) cap)) fun q hq=>hset q (fun e=>by have:g = q:=(by simpa [Value.ownBlock] using hq);omega)
  have e:Mt.clL (m+1) (extC m C) = Mt.clL m C++[(m:Int)]:=by
   unfold Mt.clL
   rw [List.range_succ,List.map_append,List.map_singleton]
   congr 1
   ·exact List.map_congr_left fun k hk=>by rw [extC_lt (List.mem_range.1 hk)]
   ·simp [extC]
  show World.ownsRow _ _ _ _ _ _ _
  rw [Mt.clL_length,e,List.map_append,List.map_singleton]
  exact h1
theorem least {P:Nat→Prop}:∀ n,(∃ k,k < n∧P k)→∃ k,k < n∧P k∧∀ j,j < k→¬ P j:=by
 intro n
 induction n with
 | zero=>rintro ⟨k,h,_⟩;omega
 | succ n ih =>
  intro h
  by_cases h1:∃ k,k < n∧P k
  ·obtain ⟨k,hk,h2,h3⟩:=ih h1
   exact ⟨k,by omega,h2,h3⟩
  ·obtain ⟨k,hk,h2⟩:=h
   have:k = n:=by
    by_cases e:k = n
    ·exact e
    ·exact absurd ⟨k,by omega,h2⟩ h1
   subst this
   exact ⟨k,by omega,h2,fun j hj hp=>h1 ⟨j,hj,hp⟩⟩
def NodeAns (W W':World) (e:Ending) (x:Nat) (vN vC:Value) (L:List Nd) (C:Nat→Nat) (p:Nat) (z:List Int):Prop :=
 ∃ (i:Nat) (vN' vC':Value) (M:List Nd),e = .returned (.int .i64 (i:Int))∧FndL (L++M) p z i∧(∀ d∈M,FullL (L++M) d)∧TB W' x vN' vC' (L++M) (L++M).length (extC L.length C)∧WK W W' x vN vC vN' vC'∧M.length≤z.length
end Go.Proofs.YtglohanbpjaieaaGreat
