/-
  Parts of the proof: Met7, Met8, Met9, Met10, Met11, Met12.
-/
import Derived.Test.YtglohanbpjaieaaGreatBru25
import Derived.Deep.RegionLaw
set_option maxHeartbeats 8000000
set_option maxRecDepth 100000
namespace Go.Proofs.YtglohanbpjaieaaGreat
open Go.Proofs Go.RowKit Go.Shelf Go.Maps
structure Nd where
 X:Nat
 s:Int
 Xs:List Nat
 df:List (List Int)
def Nd.z (d:Nd):List Int:=d.s :: d.df.flatten
def nd0:Nd:=⟨0,0,[],[]⟩
abbrev fJ (L:List Nd) (k:Nat):Nd:=L[k]?.getD nd0
def hd0 (z:List Int):Int:=z[0]?.getD 0
theorem Nd.hd (d:Nd):hd0 d.z = d.s:=rfl
def FK (L:List Nd) (p:Nat) (z:List Int) (i:Nat):Prop:=i < L.length∧(fJ L i).z = z∧(hd0 z < 0→∀ k,k < i→(fJ L k).s≠hd0 z)∧(0≤hd0 z→(fJ L i).X = p∧∀ k,k < i→(fJ L k).X≠p)
def rV (L:List Nd) (d:Nd):Prop:=∀ j,j < d.Xs.length→∃ i,FK L (d.Xs[j]?.getD 0) (d.df[j]?.getD []) i
def TU (L:List Nd):Prop:=∀ i j,i < L.length→j < L.length→(fJ L i).s < 0→(fJ L i).s = (fJ L j).s→i = j
theorem iU {L:List Nd} (M:List Nd) {k:Nat} (h:k < L.length):fJ (L++M) k = fJ L k:=by unfold fJ;rw [List.getElem?_append_left h]
theorem Cb (L:List Nd) (d:Nd):fJ (L++[d]) L.length = d:=by unfold fJ;simp
theorem gB {L:List Nd} {k:Nat} (h:k < L.length):fJ L k∈L:=by unfold fJ;rw [List.getElem?_eq_getElem h];exact List.getElem_mem h
theorem FK.app {L:List Nd} {p:Nat} {z:List Int} {i:Nat} (h:FK L p z i) (M:List Nd):FK (L++M) p z i:=by
 obtain ⟨h1,h2,h3,h4⟩:=h;refine ⟨by rw [List.length_append];omega,by rw [iU M h1];exact h2,fun hs k hk=>by rw [iU M (by omega)];exact h3 hs k hk,fun hs=>?_⟩;obtain ⟨h5,h6⟩:=h4 hs;exact ⟨by rw [iU M h1];exact h5,fun k hk=>by rw [iU M (by omega)];exact h6 k hk⟩
theorem rV.app {L:List Nd} {d:Nd} (h:rV L d) (M:List Nd):rV (L++M) d:=fun j hj=>by
 obtain ⟨i,hi⟩:=h j hj;exact ⟨i,hi.app M⟩
theorem TU.snoc {L:List Nd} (h:TU L) {d:Nd} (hd:d.s < 0→∀ k,k < L.length→(fJ L k).s≠d.s):TU (L++[d]):=fun i j hi hj hs e=>by
 rw [List.length_append,List.length_singleton] at hi hj;by_cases h1:i < L.length
 ·rw [iU _ h1] at hs e
  by_cases h2:j < L.length
  ·rw [iU _ h2] at e
   exact h i j h1 h2 hs e
  ·obtain rfl:j = L.length:=by omega
   rw [Cb] at e;exact absurd e (hd (by omega) i h1)
 ·obtain rfl:i = L.length:=by omega
  rw [Cb] at hs e;by_cases h2:j < L.length
  ·rw [iU _ h2] at e
   exact absurd e.symm (hd hs j h2)
  ·omega
def Far (vN vC:Value) (lo hi:Nat):Prop:=∀ q,(vN.ownBlock = some q∨vC.ownBlock = some q)→q < lo∨hi≤q
def CS (W:World) (x:Nat) (vN vC:Value) (d:Nd):Prop:=∃ lo hi v,x < lo∧hi≤W.heap.size∧Far vN vC lo hi∧lo≤d.X∧d.X < hi∧Node W d.X d.s v∧PartsAt lo hi W v d.Xs∧d.Xs.length = Tm.room d.s∧d.df.length = d.Xs.length∧(∀ s∈d.z,-8≤s∧s < 6)∧∀ j,j < d.Xs.length→bY lo hi W (d.Xs[j]?.getD 0) (d.df[j]?.getD [])
structure WK (W W':World) (x:Nat) (vN vC zB zC:Value):Prop where
 os:W'.os = W.os
 tape:W'.tape = W.tape
 output:W'.output = W.output
 size:W.heap.size≤W'.heap.size
 block:∀ k,k < W.heap.size→k≠x→some k≠vN.ownBlock→some k≠vC.ownBlock→W'.heap[k]? = W.heap[k]?
 TV:∀ k,zB.ownBlock = some k→vN.ownBlock = some k∨W.heap.size≤k
 TW:∀ k,zC.ownBlock = some k→vC.ownBlock = some k∨W.heap.size≤k
theorem WK.refl (W:World) (x:Nat) (vN vC:Value):WK W W x vN vC vN vC:=⟨rfl,rfl,rfl,Nat.le_refl _,fun _ _ _ _ _=>rfl,fun _ h=>.inl h,fun _ h=>.inl h⟩
theorem WK.drewN {W W':World} {x:Nat} {vN vC zB zC:Value} (h:WK W W' x vN vC zB zC) (d:Nat):WK W (W'.drewN d) x vN vC zB zC:=⟨h.os,h.tape,h.output,h.size,h.block,h.TV,h.TW⟩
theorem WK.trans {W1 W2 W3:World} {x:Nat} {Y7 Y8 vN2 vC2 vN3 vC3:Value} (h:WK W1 W2 x Y7 Y8 vN2 vC2) (k:WK W2 W3 x vN2 vC2 vN3 vC3):WK W1 W3 x Y7 Y8 vN3 vC3:=by
 refine ⟨k.os.trans h.os,k.tape.trans h.tape,k.output.trans h.output,Nat.le_trans h.size k.size,fun q hq h1 h2 h3=>?_,fun q hq=>?_,fun q hq=>?_⟩
 ·have e1:=h.block q hq h1 h2 h3
  refine (k.block q (by have:=h.size;omega) h1 (fun e=>?_) (fun e=>?_)).trans e1
  ·rcases h.TV q e.symm with e2 | e2
   ·exact h2 e2.symm
   ·omega
  ·rcases h.TW q e.symm with e2 | e2
   ·exact h3 e2.symm
   ·omega
 ·rcases k.TV q hq with e | e
  ·exact h.TV q e
  ·have:=h.size;exact .inr (by omega)
 ·rcases k.TW q hq with e | e
  ·exact h.TW q e
  ·have:=h.size;exact .inr (by omega)
theorem WK.far {W W':World} {x:Nat} {vN vC zB zC:Value} (h:WK W W' x vN vC zB zC) {lo hi:Nat} (hF:Far vN vC lo hi) (hh:hi≤W.heap.size):Far zB zC lo hi:=fun q hq=>by
 rcases hq with e | e
 ·rcases h.TV q e with e | e
  ·exact hF q (.inl e)
  ·exact .inr (by omega)
 ·rcases h.TW q e with e | e
  ·exact hF q (.inr e)
  ·exact .inr (by omega)
theorem WK.keeps {W W':World} {x:Nat} {vN vC zB zC:Value} (h:WK W W' x vN vC zB zC) {lo hi:Nat} (hF:Far vN vC lo hi) (hx:x < lo) (hh:hi≤W.heap.size):∀ k,lo≤k→k < hi→W'.heap[k]? = W.heap[k]?:=fun k h1 h2 =>
 h.block k (by omega) (by omega) (fun e=>by have:=hF k (.inl e.symm);omega) (fun e=>by have:=hF k (.inr e.symm);omega)
theorem CS.keep {W W':World} {x:Nat} {vN vC zB zC:Value} {d:Nd} (H:CS W x vN vC d) (h:WK W W' x vN vC zB zC):CS W' x zB zC d:=by
 obtain ⟨lo,hi,v,h1,h2,h3,h4,h5,h6,h7,h8,h9,h10,h11⟩:=H;have hk:=h.keeps h3 h1 h2;exact ⟨lo,hi,v,h1,by have:=h.size;omega,h.far h3 h2,h4,h5,(hk _ h4 h5).trans h6,h7.keep (Nat.le_refl _) (Nat.le_refl _) hk,h8,h9,h10,fun j hj=>(h11 j hj).keep (Nat.le_refl _) (Nat.le_refl _) hk⟩
theorem QD {lo hi lo' hi':Nat} {W:World} {v:Value} {Xs Ys:List Nat} (h:PartsAt lo hi W v Xs) (k:PartsAt lo' hi' W v Ys):Xs = Ys:=by
 obtain ⟨a,c,rfl,h1⟩:=h;obtain ⟨a',c',e,h2⟩:=k;simp only [Value.slice.injEq] at e;obtain ⟨rfl,hl,rfl⟩:=e;refine List.ext_getElem hl fun j j1 j2=>?_
 obtain ⟨b,off,e1,_,_,c1⟩:=h1 j j1;obtain ⟨b',off',e2,_,_,c2⟩:=h2 j j2;rw [e1] at e2;simp only [Option.some.injEq,Addr.mk.injEq] at e2;obtain ⟨rfl,rfl,_⟩:=e2;rw [c1] at c2;simp only [Option.some.injEq,Value.pointer.injEq,Addr.mk.injEq] at c2;have:=c2.1
 rw [List.getElem?_eq_getElem j1,List.getElem?_eq_getElem j2] at this;exact this
theorem bY.one {lo hi:Nat} {W:World} {X:Nat} {zs:List Int} (h:bY lo hi W X zs):∀ {lo' hi':Nat} {zs':List Int},bY lo' hi' W X zs'→zs = zs':=by
 induction h with
 | mk X s v Xs df hX1 hX2 hN hP hr hl _ ih =>
  intro lo' hi' zs' h';cases h' with
  | mk _ s' v' Xs' alr _ _ hN' hP' hr' hl' hT' =>
   have e:some (Obj.cells #[Value.int .i64 s,v] 121 (0,0)) = some (Obj.cells #[Value.int .i64 s',v'] 121 (0,0)):=(show W.heap[X]? = _ from hN).symm.trans (show W.heap[X]? = _ from hN');simp only [Option.some.injEq,Obj.cells.injEq,and_true] at e;have e2:=congrArg Array.toList e;simp only [List.cons.injEq,and_true,Value.int.injEq,true_and] at e2;obtain ⟨rfl,rfl⟩:=e2;obtain rfl:=QD hP hP';congr 2;refine List.ext_getElem (by omega) fun j j1 j2=>?_
   have:=ih j (by omega) (hT' j (by omega))
   rw [List.getElem?_eq_getElem j1,List.getElem?_eq_getElem j2] at this;exact this
theorem CS.tree {W:World} {x:Nat} {vN vC:Value} {d:Nd} (H:CS W x vN vC d):∃ lo hi,bY lo hi W d.X d.z:=by
 obtain ⟨lo,hi,v,h1,h2,h3,h4,h5,h6,h7,h8,h9,h10,h11⟩:=H;exact ⟨lo,hi,bY.mk d.X d.s v d.Xs d.df h4 h5 h6 h7 h8 h9 h11⟩
theorem CS.node {W:World} {x:Nat} {vN vC:Value} {d:Nd} (H:CS W x vN vC d):∃ v,Node W d.X d.s v:=by
 obtain ⟨lo,hi,v,h1,h2,h3,h4,h5,h6,_⟩:=H;exact ⟨v,h6⟩
theorem TY {W:World} {X:Nat} {s s':Int} {v v':Value} (h:Node W X s v) (k:Node W X s' v'):s = s'∧v = v':=by
 have e:some (Obj.cells #[Value.int .i64 s,v] 121 (0,0)) = some (Obj.cells #[Value.int .i64 s',v'] 121 (0,0)):=(show W.heap[X]? = _ from h).symm.trans (show W.heap[X]? = _ from k);simp only [Option.some.injEq,Obj.cells.injEq,and_true] at e;have e2:=congrArg Array.toList e;simp only [List.cons.injEq,and_true,Value.int.injEq,true_and] at e2;exact e2
structure TB (W:World) (x:Nat) (vN vC:Value) (L:List Nd) (m:Nat) (C:Nat→Nat):Prop where
 cell:W.heap[x]? = some (.cells #[vN,vC] 115 (0,0))
 rG:W.ownsRow (x+1) 117 1 vN L.length (L.map fun d=>ptr d.X)
 qN:New (x+1) W vC (Mt.Cv m C)
 IY:∀ d∈L,CS W x vN vC d
 one:TU L
theorem TB.lt {W:World} {x:Nat} {vN vC:Value} {L:List Nd} {m:Nat} {C:Nat→Nat} (h:TB W x vN vC L m C):x < W.heap.size:=(Array.getElem?_eq_some_iff.1 h.cell).1
theorem TB.drewN {W:World} {x:Nat} {vN vC:Value} {L:List Nd} {m:Nat} {C:Nat→Nat} (h:TB W x vN vC L m C) (d:Nat):TB (W.drewN d) x vN vC L m C:=⟨h.cell,h.rG,h.qN,fun q hq=>(h.IY q hq).keep ((WK.refl W x vN vC).drewN d),h.one⟩
theorem TB.form {W:World} {x:Nat} {vN vC:Value} {L:List Nd} {m:Nat} {C:Nat→Nat} (h:TB W x vN vC L m C):∃ aN cN,vN = .slice aN L.length cN∧∀ k,k < L.length→∃ b off,aN = some ⟨b,off,none⟩∧W.cell? ⟨b,off+k,none⟩ = some (ptr (fJ L k).X):=by
 rcases h.rG.2 with ⟨e,hn⟩ | ⟨g,cap,cur,e,_⟩
 ·exact ⟨none,0,by rw [e,hn],fun k hk=>by omega⟩
 ·refine ⟨_,cap,e,fun k hk=>⟨g,0,rfl,?_⟩⟩
  have hr:=h.rG;rw [e] at hr;have:=World.ownsRow.cellAt hr k (by omega)
  rw [Nat.zero_add,this];simp [fJ,hk]
def oD (n:Nat) (C:Nat→Nat):Nat→Nat:=fun k=>if k < n then C k else k
theorem Wn {n:Nat} {C:Nat→Nat} {k:Nat} (h:k < n):oD n C k = C k:=by unfold oD;rw [if_pos h]
theorem eD {W W':World} {base:Nat} {e:TypeId} {size:Nat} {v:Value} {n:Nat} {xs:List Value} (h:W.ownsRow base e size v n xs) (hk:∀ q,v.ownBlock = some q→W'.heap[q]? = W.heap[q]?):W'.ownsRow base e size v n xs:=by
 refine ⟨h.1,?_⟩;rcases h.2 with h1 | ⟨g,cap,cur,rfl,h2,h3,h4⟩
 ·exact .inl h1
 ·exact .inr ⟨g,cap,cur,rfl,h2,(hk g rfl).trans h3,h4⟩
theorem oF {W:World} {base:Nat} {e:TypeId} {size:Nat} {v:Value} {n:Nat} {xs:List Value} (h:W.ownsRow base e size v n xs) {q:Nat} (hq:v.ownBlock = some q):∃ cur,W.heap[q]? = some (.cells cur e (0,0)):=by
 rcases h.2 with ⟨rfl,_⟩ | ⟨g,cap,cur,rfl,h2,h3,h4⟩
 ·cases hq
 ·cases hq;exact ⟨cur,h3⟩
theorem TB.apart {W:World} {x:Nat} {vN vC:Value} {L:List Nd} {m:Nat} {C:Nat→Nat} (h:TB W x vN vC L m C) {q:Nat} (h1:vN.ownBlock = some q) (h2:vC.ownBlock = some q):False:=by
 obtain ⟨c1,e1⟩:=oF h.rG h1;obtain ⟨c2,e2⟩:=oF h.qN h2;rw [e1] at e2;simp only [Option.some.injEq,Obj.cells.injEq] at e2;exact absurd e2.2.1 (by decide)
theorem Pf {W:World} {x:Nat} {v0 v1:Value} {T:TypeId} (h:W.heap[x]? = some (.cells #[v0,v1] T (0,0))) (u:Value):(W.setCell ⟨x,0,none⟩ u).heap[x]? = some (.cells #[u,v1] T (0,0))∧(W.setCell ⟨x,1,none⟩ u).heap[x]? = some (.cells #[v0,u] T (0,0)):=by
 obtain ⟨hlt,hk⟩:=Array.getElem?_eq_some_iff.1 h;constructor
 ·show (W.heap.modify x _)[x]? = _
  rw [Array.getElem?_eq_getElem (by rw [Array.size_modify];exact hlt),Array.getElem_modify_self,hk];rfl
 ·show (W.heap.modify x _)[x]? = _
  rw [Array.getElem?_eq_getElem (by rw [Array.size_modify];exact hlt),Array.getElem_modify_self,hk];rfl
theorem QE {W V w2:World} {tmp:Obj} {r:Option Nat} (e:V.heap = W.heap) (h1:V.os = W.os) (h2:V.tape = W.tape) (h3:V.output = W.output) (hg:(V.alloc tmp).grownBy w2 r):W.grownBy w2 r:=by
 have hs:(V.alloc tmp).heap.size = W.heap.size+1:=by simp [e]
 refine ⟨hg.os.trans h1,hg.tape.trans h2,hg.output.trans h3,by have:=hg.size;omega,fun k hk hne=>?_⟩;rw [hg.block k (by omega) hne,Below.heap_alloc _ _ _ (by rw [e];exact hk),e]
theorem MH {W V w2:World} {tmp:Obj} {r:Option Nat} (e:V.heap = (W.alloc tmp).heap) (h1:V.os = W.os) (h2:V.tape = W.tape) (h3:V.output = W.output) (hg:V.grownBy w2 r):W.grownBy w2 r:=by
 have hs:V.heap.size = W.heap.size+1:=by rw [e];simp
 refine ⟨hg.os.trans h1,hg.tape.trans h2,hg.output.trans h3,by have:=hg.size;omega,fun k hk hne=>?_⟩;rw [hg.block k (by omega) hne,e,Below.heap_alloc _ _ _ hk]
theorem TB.addN {W w2:World} {x:Nat} {vN vC:Value} {L:List Nd} {m:Nat} {C:Nat→Nat} (H:TB W x vN vC L m C) (hg:W.grownBy w2 vN.ownBlock) {g cap:Nat} {p:Nat} (hown:w2.ownsRow (x+1) 117 1 (.slice (some ⟨g,0,none⟩) (L.length+1) cap) (L.length+1) ((L.map fun d=>ptr d.X)++[ptr p])) (hat:vN.ownBlock = some g∨W.heap.size≤g)
 (d:Nd) (hd:d.X = p) (hnd:CS W x vN vC d) (hone:TU (L++[d])) :
 TB (w2.setCell ⟨x,0,none⟩ (.slice (some ⟨g,0,none⟩) (L.length+1) cap)) x (.slice (some ⟨g,0,none⟩) (L.length+1) cap) vC (L++[d]) m C∧WK W (w2.setCell ⟨x,0,none⟩ (.slice (some ⟨g,0,none⟩) (L.length+1) cap)) x vN vC (.slice (some ⟨g,0,none⟩) (L.length+1) cap) vC∧w2.heap[x]? = some (.cells #[vN,vC] 115 (0,0)):=by
 have hx:=H.lt;have hsz:=hg.size;have hb:∀ q,q < W.heap.size→some q≠vN.ownBlock→w2.heap[q]? = W.heap[q]?:=fun q hq hne=>hg.block q hq hne
 have hxN:some x≠vN.ownBlock:=fun e=>by have:=(World.ownsRow.lt H.rG x e.symm).1;omega
 have hcx:w2.heap[x]? = some (.cells #[vN,vC] 115 (0,0)):=(hb x hx hxN).trans H.cell;have hgx:x+1≤g:=(World.ownsRow.lt hown g rfl).1;have hset:∀ q,q≠x→(w2.setCell ⟨x,0,none⟩ (.slice (some ⟨g,0,none⟩) (L.length+1) cap)).heap[q]? = w2.heap[q]?:=fun q hq=>Below.heap_setCell _ _ _ q hq
 have hwk:WK W (w2.setCell ⟨x,0,none⟩ (.slice (some ⟨g,0,none⟩) (L.length+1) cap)) x vN vC (.slice (some ⟨g,0,none⟩) (L.length+1) cap) vC:=by
  refine ⟨hg.os,hg.tape,hg.output,?_,fun q hq h1 h2 h3=>?_,fun q hq=>?_,fun q hq=>.inl hq⟩
  ·have:=(KeepsWalks.setCell w2 ⟨x,0,none⟩ (Value.slice (some ⟨g,0,none⟩) (L.length+1) cap)).size
   omega
  ·rw [hset q h1,hb q hq h2]
  ·obtain rfl:g = q:=by simpa [Value.ownBlock] using hq
   rcases hat with e | e
   ·exact .inl e
   ·exact .inr (by omega)
 refine ⟨⟨(Pf hcx _).1,?_,?_,fun q hq=>?_,hone⟩,hwk,hcx⟩
 ·have h1:=eD hown (W':=w2.setCell ⟨x,0,none⟩ (.slice (some ⟨g,0,none⟩) (L.length+1) cap)) fun q hq=>hset q (fun e=>by have:g = q:=(by simpa [Value.ownBlock] using hq);omega)
  rw [List.length_append,List.length_singleton,List.map_append,List.map_singleton,hd];exact h1
 ·refine eD H.qN fun q hq=>?_
  have hq2:=World.ownsRow.lt H.qN q hq;rw [hset q (by omega),hb q hq2.2 fun e=>H.apart e.symm hq]
 ·rcases List.mem_append.1 hq with hq | hq
  ·exact (H.IY q hq).keep hwk
  ·rw [List.mem_singleton] at hq
   subst hq;exact hnd.keep hwk
theorem TB.afZ {W w2:World} {x:Nat} {vN vC:Value} {L:List Nd} {m:Nat} {C:Nat→Nat} (H:TB W x vN vC L m C) (hg:W.grownBy w2 vC.ownBlock) {g cap:Nat} (hown:w2.ownsRow (x+1) 3 1 (.slice (some ⟨g,0,none⟩) (m+1) cap) (m+1) ((Mt.Cv m C).map (Value.int .i64)++[.int .i64 (m:Int)])) (hat:vC.ownBlock = some g∨W.heap.size≤g) :
 TB (w2.setCell ⟨x,1,none⟩ (.slice (some ⟨g,0,none⟩) (m+1) cap)) x vN (.slice (some ⟨g,0,none⟩) (m+1) cap) L (m+1) (oD m C)∧WK W (w2.setCell ⟨x,1,none⟩ (.slice (some ⟨g,0,none⟩) (m+1) cap)) x vN vC vN (.slice (some ⟨g,0,none⟩) (m+1) cap)∧w2.heap[x]? = some (.cells #[vN,vC] 115 (0,0)):=by
 have hx:=H.lt;have hsz:=hg.size;have hb:∀ q,q < W.heap.size→some q≠vC.ownBlock→w2.heap[q]? = W.heap[q]?:=fun q hq hne=>hg.block q hq hne
 have hxC:some x≠vC.ownBlock:=fun e=>by have:=(World.ownsRow.lt H.qN x e.symm).1;omega
 have hcx:w2.heap[x]? = some (.cells #[vN,vC] 115 (0,0)):=(hb x hx hxC).trans H.cell;have hgx:x+1≤g:=(World.ownsRow.lt hown g rfl).1;have hset:∀ q,q≠x→(w2.setCell ⟨x,1,none⟩ (.slice (some ⟨g,0,none⟩) (m+1) cap)).heap[q]? = w2.heap[q]?:=fun q hq=>Below.heap_setCell _ _ _ q hq
 have hwk:WK W (w2.setCell ⟨x,1,none⟩ (.slice (some ⟨g,0,none⟩) (m+1) cap)) x vN vC vN (.slice (some ⟨g,0,none⟩) (m+1) cap):=by
  refine ⟨hg.os,hg.tape,hg.output,?_,fun q hq h1 h2 h3=>?_,fun q hq=>.inl hq,fun q hq=>?_⟩
  ·have:=(KeepsWalks.setCell w2 ⟨x,1,none⟩ (Value.slice (some ⟨g,0,none⟩) (m+1) cap)).size
   omega
  ·rw [hset q h1,hb q hq h3]
  ·obtain rfl:g = q:=by simpa [Value.ownBlock] using hq
   rcases hat with e | e
   ·exact .inl e
   ·exact .inr (by omega)
 refine ⟨⟨(Pf hcx _).2,?_,?_,fun q hq=>(H.IY q hq).keep hwk,H.one⟩,hwk,hcx⟩
 ·refine eD H.rG fun q hq=>?_
  have hq2:=World.ownsRow.lt H.rG q hq;rw [hset q (by omega),hb q hq2.2 fun e=>H.apart hq e.symm]
 ·have h1:=eD hown (W':=w2.setCell ⟨x,1,none⟩ (.slice (some ⟨g,0,none⟩) (m+1) cap)) fun q hq=>hset q (fun e=>by have:g = q:=(by simpa [Value.ownBlock] using hq);omega)
  have e:Mt.Cv (m+1) (oD m C) = Mt.Cv m C++[(m:Int)]:=by
   unfold Mt.Cv;rw [List.range_succ,List.map_append,List.map_singleton];congr 1
   ·exact List.map_congr_left fun k hk=>by rw [Wn (List.mem_range.1 hk)]
   ·simp [oD]
  show World.ownsRow _ _ _ _ _ _ _;rw [Mt.fE,e,List.map_append,List.map_singleton];exact h1
theorem least {P:Nat→Prop}:∀ n,(∃ k,k < n∧P k)→∃ k,k < n∧P k∧∀ j,j < k→¬ P j:=by
 intro n;induction n with
 | zero=>rintro ⟨k,h,_⟩;omega
 | succ n ih =>
  intro h;by_cases h1:∃ k,k < n∧P k
  ·obtain ⟨k,hk,h2,h3⟩:=ih h1
   exact ⟨k,by omega,h2,h3⟩
  ·obtain ⟨k,hk,h2⟩:=h
   have:k = n:=by
    by_cases e:k = n
    ·exact e
    ·exact absurd ⟨k,by omega,h2⟩ h1
   subst this;exact ⟨k,by omega,h2,fun j hj hp=>h1 ⟨j,hj,hp⟩⟩
def zD (W W':World) (e:Ending) (x:Nat) (vN vC:Value) (L:List Nd) (C:Nat→Nat) (p:Nat) (z:List Int):Prop :=
 ∃ (i:Nat) (zB zC:Value) (M:List Nd),e = .returned (.int .i64 (i:Int))∧FK (L++M) p z i∧(∀ d∈M,rV (L++M) d)∧TB W' x zB zC (L++M) (L++M).length (oD L.length C)∧WK W W' x vN vC zB zC∧M.length≤z.length
theorem KC {W:World} {x:Nat} {vN vC:Value} {L:List Nd} {C:Nat→Nat} (H:TB W x vN vC L L.length C) (hn:L.length≤5000) (p:Nat) (z:List Int) (i:Nat) (F:FK L p z i) {vp:Value} (hp:Node W p (hd0 z) vp) (hC:oD L.length C = C) :
 Calls Tryz.prog 80 #[ptr x,ptr p] W fun e w'=>zD W w' e x vN vC L C p z:=by
 obtain ⟨aN,cN,rfl,hnd⟩:=H.form;obtain ⟨h1,h2,h3,h4⟩:=F;have hs:(fJ L i).s = hd0 z:=by rw [← h2];rfl
 have hc0:W.cell? ⟨x,0,none⟩ = some (.slice aN L.length cN):=(aM H.cell 0).trans rfl;refine (IW (x:=x) (N:=fun k=>(fJ L k).X) (S:=fun k=>(fJ L k).s) W p i hc0 hnd (fun k hk=>(H.IY _ (gB hk)).node) hn (vp:=vp) (by rw [hs];exact hp) ⟨h1,fun h k hk=>by show (fJ L k).s≠(fJ L i).s;rw [hs];exact h3 (by rw [← hs];exact h) k hk,fun h=>h4 (by rw [← hs];exact h)⟩).mono ?_;rintro e w' ⟨rfl,m,rfl⟩;have hF:FK L p z i:=⟨h1,h2,h3,h4⟩;refine ⟨i,_,vC,[],rfl,by rw [List.append_nil];exact hF,fun d hd=>by simp at hd,?_,(WK.refl W x _ vC).drewN m,by simp⟩;rw [List.append_nil,hC];exact H.drewN m
theorem Nd.var {W:World} {x:Nat} {vN vC:Value} {d:Nd} (h:CS W x vN vC d) (hs:d.s < 0):d.z = [d.s]:=by
 obtain ⟨lo,hi,v,h1,h2,h3,h4,h5,h6,h7,h8,h9,h10,h11⟩:=h;rw [Wb.gM hs] at h8;have:d.df = []:=List.eq_nil_of_length_eq_zero (by omega)
 unfold Nd.z;rw [this];rfl
theorem IZ {n:Nat} {C:Nat→Nat} (h:∀ k,n≤k→C k = k):oD n C = C:=by
 funext k
 unfold oD;by_cases e:k < n
 ·rw [if_pos e]
 ·rw [if_neg e,h k (by omega)]
theorem CU {ops:Array Oper} {o:Oper} {a:Act} {K:Act→World→Prop} {Q:Exit→Act→World→Prop} {E:Prop} (w:World) (hgd:o.guard = none) (s x:Operand)
 (ho:o.op = .call { callee:=.builtin .append,args:=#[s,x],argTypes:=#[22,22] }) (base n:Nat) (v:Value) (xs:List Int) (hs:a.eval s = v) (hN:w.ownsRow base 3 1 v n (xs.map (Value.int .i64)))
 (B:Nat) (y:Int) (hx:a.eval x = .slice (some ⟨B,0,none⟩) 1 1) (hB:w.cell? ⟨B,0,none⟩ = some (.int .i64 y)) (hlen:n≤1000000) (hbase:base≤w.heap.size)
 (h:∀ g c' w',w'.ownsRow base 3 1 (.slice (some ⟨g,0,none⟩) (n+1) c') (n+1) (xs.map (Value.int .i64)++[.int .i64 y])→w.grownBy w' v.ownBlock→(v.ownBlock = some g∨g = w.heap.size)→K (a.put o.dst (.slice (some ⟨g,0,none⟩) (n+1) c')) w') :
 if Region.wanted o (yielded ops a.tmps) = true then Oper.wp Tryz.prog o a w K Q else E:=by
 obtain ⟨i0,hi,hz0,hz1,hz2⟩:=info_parts Tryz.info3;refine step_append_lies w hgd s x 22 ho base 3 i0 (.int .i64 0) 1 8 Tryz.EG hi hz0 hz1 hz2 rfl (by decide) v n (xs.map (Value.int .i64)) hs hN ⟨B,0,none⟩ 1 1 [.int .i64 y] hx (by simp)
  (by intro j z hj
      match j,hj with
      | 0,hj=>simp at hj;subst hj;rw [Go.WideShapes.add_plain];simpa using hB)
  (by intro u hu;simp at hu;subst hu;rfl) (by decide) (by unfold maxLen;omega) (by omega) hbase w.heap.size rfl ?_
 intro g c' w' hown hg hat _;exact h g c' w' hown hg hat
theorem TZ {W:World} {x:Nat} {vN vC:Value} {L:List Nd} {C:Nat→Nat} (H:TB W x vN vC L L.length C) (d:Nd) (hb5:L.length+d.z.length≤5000) (hnd:CS W x vN vC d) (h1:d.s < 0→∀ k,k < L.length→(fJ L k).s≠d.s) (h2:∀ k,k < L.length→(fJ L k).X≠d.X) (hC:oD L.length C = C)
 (ih:∀ (j:Nat) (W':World) (zB zC:Value) (L':List Nd),j < d.Xs.length→WK W W' x vN vC zB zC→TB W' x zB zC L' L'.length C→L.length≤L'.length→L'.length+(d.df[j]?.getD []).length≤5000 →
   Calls Tryz.prog 80 #[ptr x,ptr (d.Xs[j]?.getD 0)] W' fun e w'=>zD W' w' e x zB zC L' C (d.Xs[j]?.getD 0) (d.df[j]?.getD [])) :
 Calls Tryz.prog 80 #[ptr x,ptr d.X] W fun e w'=>zD W w' e x vN vC L C d.X d.z:=by
 obtain ⟨aN,cN,rfl,acA⟩:=H.form;have hc0:W.cell? ⟨x,0,none⟩ = some (.slice aN L.length cN):=(aM H.cell 0).trans rfl;have hone:=hid (H.one.snoc h1);obtain ⟨ti,hti,htz⟩:=Tryz.infoTree;obtain ⟨vd,hNd⟩:=hnd.node;have hds:=hNd.cell0;have hn5:L.length≤5000:=by omega
 have alv:(L.length:Int)≤5000:=by omega
 have Y9:=hid acA;have HH:=hid H;have Hnd:=hid hnd;have HNd:=hid hNd;have H1:=hid h1;have H2:=hid h2;have IH:=hid ih;have Hb5:=hid hb5;clear acA hnd hNd h1 h2 ih hb5 H;generalize hsd:d.s = s at *;have Pg:=hid hsd;clear hsd;obtain ⟨i0,hi,hz0,hz1,hz2⟩:=info_parts Tryz.GN;by_cases hs:s < 0
 case' pos =>
  have H1':=hid (H1.out hs);go_enter Tryz.func80,Tryz.ntmps80;go_wp2;go_loopw [5] (fun i wr=>∃ k:Nat,k≤L.length∧i = .int .i64 (k:Int)∧∃ e,wr = W.drewN e) (fun i _=>L.length - (intOf i).toNat)
  case atStart=>exact ⟨0,Nat.zero_le _,rfl,0,rfl⟩
  case' round =>
   obtain ⟨k,hk,rfl,e,rfl⟩:=hrel;by_cases hlt:k < L.length
   ·have hkn:(k:Int) < (L.length:Int):=by omega
    obtain ⟨b,off,rfl,hck⟩:=Y9.out k hlt;obtain ⟨vk,kr⟩:=(HH.out.IY _ (gB hlt)).node;have hsk:=kr.cell0;have hne:((fJ L k).s == s) = false:=by simpa using H1'.out k hlt
    clear kr;generalize (fJ L k).s = sk at *;generalize (fJ L k).X = qk at *;go_wp2;go_quiet (fail)
    go_wp2;go_roundw
    case rel=>exact ⟨k+1,by omega,by go_num,_,rfl⟩
    case measure=>simp [intOf];omega
   obtain rfl:k = L.length:=by omega
   go_wp2;go_loopw [6] (fun i wr=>∃ k:Nat,k≤L.length∧i = .int .i64 (k:Int)∧∃ e,wr = W.drewN e) (fun i _=>L.length - (intOf i).toNat)
   case atStart=>exact ⟨0,Nat.zero_le _,rfl,_,rfl⟩
   case' round =>
    obtain ⟨k,hk,rfl,e,rfl⟩:=hrel;by_cases hlt:k < L.length
    ·have hkn:(k:Int) < (L.length:Int):=by omega
     obtain ⟨b,off,rfl,hck⟩:=Y9.out k hlt;obtain ⟨vk,kr⟩:=(HH.out.IY _ (gB hlt)).node;have hrun:=run_eql_ptr_other (P:=Tryz.prog) (W.drewN e) (a:=⟨(fJ L k).X,0,none⟩) (b:=⟨d.X,0,none⟩) Tryz.underlying117 hti htz (fun e=>H2.out k hlt (congrArg Addr.block e)) kr HNd.out;clear kr;generalize (fJ L k).X = qk at *;go_wp2;go_roundw
     case rel=>exact ⟨k+1,by omega,by go_num,_,rfl⟩
     case measure=>simp [intOf];omega
    obtain rfl:k = L.length:=by omega
 case' neg =>
  have hs0:decide (s < 0) = false:=by simpa using hs
  clear hs;by_cases h0:0 < L.length
  case' pos =>
   have h0n:(0:Int) < (L.length:Int):=by omega
   go_enter Tryz.func80,Tryz.ntmps80;go_wp2;refine wp_loop_rounds 1 ?_;rw [rounds_succ];go_wp2;go_loopw [6] (fun i wr=>∃ k:Nat,k≤L.length∧i = .int .i64 (k:Int)∧∃ e,wr = W.drewN e) (fun i _=>L.length - (intOf i).toNat)
   case atStart=>exact ⟨0,Nat.zero_le _,rfl,0,rfl⟩
   case' round =>
    obtain ⟨k,hk,rfl,e,rfl⟩:=hrel;by_cases hlt:k < L.length
    ·have hkn:(k:Int) < (L.length:Int):=by omega
     obtain ⟨b,off,rfl,hck⟩:=Y9.out k hlt;obtain ⟨vk,kr⟩:=(HH.out.IY _ (gB hlt)).node;have hrun:=run_eql_ptr_other (P:=Tryz.prog) (W.drewN e) (a:=⟨(fJ L k).X,0,none⟩) (b:=⟨d.X,0,none⟩) Tryz.underlying117 hti htz (fun e=>H2.out k hlt (congrArg Addr.block e)) kr HNd.out;clear kr;generalize (fJ L k).X = qk at *;go_wp2;go_roundw
     case rel=>exact ⟨k+1,by omega,by go_num,_,rfl⟩
     case measure=>simp [intOf];omega
    obtain rfl:k = L.length:=by omega
  case' neg =>
   have h0n:decide ((0:Int) < (L.length:Int)) = false:=by have hL0:L.length = 0:=(by omega);rw [hL0];rfl
   have h0m:decide (0 < L.length) = false:=by simpa using h0
   go_enter Tryz.func80,Tryz.ntmps80;go_wp2;refine wp_loop_rounds 1 ?_;rw [rounds_succ];go_wp2;go_loopw [6] (fun i wr=>∃ k:Nat,k≤L.length∧i = .int .i64 (k:Int)∧∃ e,wr = W.drewN e) (fun i _=>L.length - (intOf i).toNat)
   case atStart=>exact ⟨0,Nat.zero_le _,rfl,0,rfl⟩
   case' round =>
    obtain ⟨k,hk,rfl,e,rfl⟩:=hrel;by_cases hlt:k < L.length
    ·exact absurd hlt (by omega)
    obtain rfl:k = L.length:=by omega
 all_goals (
  go_wp2_with (first
   | (at_builtin;go_loud (refine wpList_append_lies _ rfl _ _ 113 rfl (x+1) 117 i0 (.pointer none) 1 8 Tryz.underlying113 hi hz0 hz1 hz2 rfl (by decide) _ L.length (L.map fun d=>ptr d.X) rfl (World.ownsRow.alloc (show (W.drewN e).ownsRow _ _ _ _ _ _ from HH.out.rG) _) ⟨W.heap.size,0,none⟩ 1 1 [ptr d.X] rfl rfl (cell_one_new _ _ _) (by simp [Value.oneCell',ptr]) (by decide) (by unfold maxLen;omega) (by omega) (by have:=HH.out.lt;simp;omega) (W.heap.size+1) (by simp) ?_);intro g cap w2 hown hgrow hat hlt2;have hgr:=QE (W:=W) (V:=W.drewN e) rfl rfl rfl rfl hgrow;have R:=HH.out.addN hgr hown (by rcases hat with e | e;exact .inl e;exact .inr (by omega)) d rfl Hnd.out hone.out;have af0:=(aM R.2.2 0).trans rfl;have af1:w2.frozen? ⟨x,0,none⟩ = false:=(by simp [World.frozen?,R.2.2]);have HR:=hid R;clear R hown hgrow hat hgr hlt2))
  obtain ⟨W3,hW3⟩:∃ W3,w2.setCell ⟨x,0,none⟩ (Value.slice (some ⟨g,0,none⟩) (L.length+1) cap) = W3:=⟨_,rfl⟩;rw [hW3];have Vh:Hid (TB W3 x (.slice (some ⟨g,0,none⟩) (L.length+1) cap) vC (L++[d]) L.length C):=by rw [← hW3];exact HR.out.1
  have hK3:Hid (WK W W3 x (.slice aN L.length cN) vC (.slice (some ⟨g,0,none⟩) (L.length+1) cap) vC):=by rw [← hW3];exact HR.out.2.1
  clear hW3 HR af0 af1;obtain ⟨aC,cC,e1,_,_⟩:=New.ints Vh.out.qN;rw [Mt.fE] at e1;subst e1;have hx0:W3.cell? ⟨x,0,none⟩ = some (.slice (some ⟨g,0,none⟩) (L.length+1) cap):=(aM Vh.out.cell 0).trans rfl;have hx1:W3.cell? ⟨x,1,none⟩ = some (.slice aC L.length cC):=(aM Vh.out.cell 1).trans rfl;have acp:=Vh.out.lt;obtain ⟨j0,hj,hj0,hj1,hj2⟩:=info_parts Tryz.info3;have hrC:Hid (∀ (V:World) (o:Obj),V.heap = (W3.alloc o).heap→V.ownsRow (x+1) 3 1 (.slice aC L.length cC) L.length ((Mt.Cv L.length C).map (Value.int .i64))):=fun V o hV=>by
   have h:=Vh.out.qN;unfold New at h;rw [Mt.fE] at h;exact eD (World.ownsRow.alloc h o) fun q _=>by rw [hV]
  have XE:Hid (∀ V:World,V.heap = (W3.alloc (.cells #[.int .i64 (L.length:Int)] 3)).heap→V.cell? ⟨W3.heap.size,0,none⟩ = some (.int .i64 (L.length:Int))):=fun V hV=>(Gn hV _).trans ((aM (World.alloc_heap_new W3 _) 0).trans rfl)
  have acB:Hid (∀ (V:World) (g:Nat),V.heap = (W3.alloc (.cells #[.int .i64 (L.length:Int)] 3)).heap→((Value.slice aC L.length cC).ownBlock = some g∨g = V.heap.size)→((Value.slice aC L.length cC).ownBlock = some g∨W3.heap.size≤g)):=fun V g hV h=>by
   rcases h with e | e
   ·exact .inl e
   ·exact .inr (by rw [e,hV];simp)
  go_region_law ((refine CU _ (by rfl) _ _ (by rfl) (x+1) L.length (.slice aC L.length cC) (Mt.Cv L.length C) (by rfl) (hrC.out _ _ (by rfl)) W3.heap.size (L.length:Int) (by rfl) (XE.out _ (by rfl)) (by omega) (by simp;omega) ?_;intro g5 cap5 w5 hown5 T9 acC;have hgr5:=MH (W:=W3) (tmp:=.cells #[.int .i64 (L.length:Int)] 3) (by rfl) (by rfl) (by rfl) (by rfl) T9;have R5:=Vh.out.afZ hgr5 hown5 (acB.out _ _ (by rfl) acC);have hS5:w5.cell? ⟨x,1,none⟩ = some (.slice aC L.length cC):=(aM R5.2.2 1).trans (by rfl);have RZ:w5.frozen? ⟨x,1,none⟩ = false:=(by simp [World.frozen?,R5.2.2]);have HR5:=hid R5;clear R5 hown5 T9 acC hgr5))
  all_goals (
   obtain ⟨W5,mG⟩:∃ W5,w5.setCell ⟨x,1,none⟩ (Value.slice (some ⟨g5,0,none⟩) (L.length+1) cap5) = W5:=⟨_,rfl⟩;rw [mG];have hT5:Hid (TB W5 x (.slice (some ⟨g,0,none⟩) (L.length+1) cap) (.slice (some ⟨g5,0,none⟩) (L.length+1) cap5) (L++[d]) (L.length+1) C):=by rw [← mG];have h:=HR5.out.1;rw [hC] at h;exact h
   have hK5:Hid (WK W W5 x (.slice aN L.length cN) (.slice aC L.length cC) (.slice (some ⟨g,0,none⟩) (L.length+1) cap) (.slice (some ⟨g5,0,none⟩) (L.length+1) cap5)):=by rw [← mG];exact hK3.out.trans HR5.out.2.1
   have hx5:W5.cell? ⟨x,0,none⟩ = some (.slice (some ⟨g,0,none⟩) (L.length+1) cap):=(aM hT5.out.cell 0).trans rfl;clear mG HR5 hS5 RZ Vh hK3 hx0 hx1 hrC XE acB acp;go_wp2;go_loopw [8] (fun i wr=>∃ (k:Nat) (M:List Nd) (zB zC:Value),k≤d.Xs.length∧i = .int .i64 (k:Int)∧Hid (TB wr x zB zC (L++[d]++M) (L++[d]++M).length C)∧Hid (WK W wr x (.slice aN L.length cN) (.slice aC L.length cC) zB zC)∧Hid (∀ d'∈M,rV (L++[d]++M) d')∧Hid (∀ j,j < k→∃ i,FK (L++[d]++M) (d.Xs[j]?.getD 0) (d.df[j]?.getD []) i)∧Hid (M.length≤(d.df.take k).flatten.length)) (fun i _=>d.Xs.length - (intOf i).toNat)
   case atStart=>exact ⟨0,[],_,_,Nat.zero_le _,rfl,by rw [List.append_nil,List.length_append,List.length_singleton];exact hT5,hK5,(fun d' h=>by simp at h),(fun j hj=>by omega),by simp [Hid]⟩
   case round =>
    obtain ⟨k,M,zB,zC,hk,rfl,Za,hWk,Zb,hPk,Wo⟩:=hrel;obtain ⟨lo2,hi2,v2,_,_,_,_,_,eH,hP2,hl2,hz2',_,_⟩:=Za.out.IY d (by simp);obtain ⟨a2,c2,rfl,hc2⟩:=hP2;have hp1:=eH.cell1;have Hl2:=hid hl2;have Hz2:=hid hz2';have Hc2:=hid hc2;have hr2:=Tm.room_le d.s;clear eH hl2 hz2' hc2;by_cases hlt:k < d.Xs.length
    ·have hkl:(k:Int) < (d.Xs.length:Int):=by omega
     obtain ⟨b2,o2,rfl,_,_,hcell⟩:=Hc2.out k hlt;have hfl:=sK (df:=d.df) (k:=k) (by have:=Hz2.out;omega);have hbound:(L++[d]++M).length+(d.df[k]?.getD []).length≤5000:=by
      have h1:=Hb5.out;have h2:=Wo.out;have h3:d.z.length = 1+d.df.flatten.length:=by unfold Nd.z;rw [List.length_cons];omega
      rw [List.length_append,List.length_append,List.length_singleton];omega
     have hcall:=hid (IH.out k wr zB zC (L++[d]++M) hlt hWk.out Za.out (by rw [List.length_append,List.length_append];omega) hbound);have hsn:=hid (jW (df:=d.df) (k:=k) (by have:=Hz2.out;omega));have hdl:(d.Xs.length:Int)≤2:=by have:=Hl2.out;omega
     clear hbound hfl;obtain ⟨pkk,Zc⟩:∃ pkk,d.Xs[k]?.getD 0 = pkk:=⟨_,rfl⟩;rw [Zc] at hcell hcall;have af5:=hid Zc;clear Zc;go_wp2_with (go_at_call 80;refine hcall.out.mono ?_;clear hcall;rintro e6 w6 ⟨i6,vN6,vC6,M6,rfl,hF6,hA6,hT6,hW6,hM6⟩)
     go_roundw
     case rel =>
      have eL:L++[d]++M++M6 = L++[d]++(M++M6):=List.append_assoc _ _ _;refine ⟨k+1,M++M6,vN6,vC6,by omega,by go_num,?_,hWk.out.trans hW6,?_,?_,?_⟩
      ·have h:=hT6
       rw [IZ (n:=(L++[d]++M).length) (C:=C) (fun q hq=>by rw [← hC];unfold oD;rw [if_neg (by rw [List.length_append,List.length_append] at hq;omega)]),eL] at h;exact h
      ·intro d' hd'
       rw [← eL];rcases List.mem_append.1 hd' with h | h
       ·exact (Zb.out d' h).app M6
       ·exact hA6 d' h
      ·intro j hj
       rw [← eL];by_cases e:j = k
       ·subst e;exact ⟨i6,by rw [af5.out];exact hF6⟩
       ·obtain ⟨i,hi⟩:=hPk.out j (by omega)
        exact ⟨i,hi.app M6⟩
      ·show (M++M6).length≤_
       rw [hsn.out,List.length_append,List.length_append];have:=Wo.out
       omega
     case measure=>simp [intOf];omega
    ·obtain rfl:k = d.Xs.length:=by omega
     have hdl:(d.Xs.length:Int)≤2:=by have:=Hl2.out;omega
     go_wp2;go_ret;have eL:L++[d]++M = L++([d]++M):=List.append_assoc _ _ _;refine ⟨L.length,zB,zC,[d]++M,by first | rfl | go_num,?_,?_,?_,hWk.out,?_⟩
     ·rw [← eL]
      have hat:fJ (L++[d]++M) L.length = d:=by rw [iU _ (by simp),Cb]
      refine ⟨by simp,by rw [hat],fun h q hq=>?_,fun h=>⟨by rw [hat],fun q hq=>?_⟩⟩
      ·rw [List.append_assoc,iU _ hq]
       have e2:hd0 d.z = s:=(Nd.hd d).trans Pg.out;rw [e2] at h ⊢;exact H1.out h q hq
      ·rw [List.append_assoc,iU _ hq]
       exact H2.out q hq
     ·intro d' hd'
      rw [← eL];rcases List.mem_append.1 hd' with h | h
      ·rw [List.mem_singleton] at h
       subst h;exact fun j hj=>hPk.out j hj
      ·exact Zb.out d' h
     ·rw [← eL,hC]
      exact Za.out
     ·rw [List.length_append,List.length_singleton]
      have h2:=Wo.out;have h4:=CV (df:=d.df) d.Xs.length;unfold Nd.z;rw [List.length_cons];omega))
theorem Ua {lo hi:Nat} {W0:World} {X:Nat} {zs:List Int} (h:bY lo hi W0 X zs):(∀ s∈zs,-8≤s∧s < 6)→∀ (W:World) (x:Nat) (vN vC:Value) (L:List Nd) (C:Nat→Nat),(∀ k,lo≤k→k < hi→W.heap[k]? = W0.heap[k]?)→hi≤W.heap.size→x < lo→Far vN vC lo hi→TB W x vN vC L L.length C→oD L.length C = C→L.length+zs.length≤5000 →
 Calls Tryz.prog 80 #[ptr x,ptr X] W fun e w'=>zD W w' e x vN vC L C X zs:=by
 induction h with
 | mk X s v Xs df hX1 hX2 hN hP hr hl hT ih =>
  intro hkn W x vN vC L C hW hhi hx KD HB hC h5;have hN':Node W X s v:=(hW X hX1 hX2).trans hN;have hT':bY lo hi W X (s :: df.flatten):=(bY.mk X s v Xs df hX1 hX2 hN hP hr hl hT).keep (Nat.le_refl _) (Nat.le_refl _) hW;have hnd:CS W x vN vC ⟨X,s,Xs,df⟩:=⟨lo,hi,v,hx,hhi,KD,hX1,hX2,hN',hP.keep (Nat.le_refl _) (Nat.le_refl _) hW,hr,hl,hkn,fun j hj=>(hT j hj).keep (Nat.le_refl _) (Nat.le_refl _) hW⟩;by_cases h1:s < 0∧∃ k,k < L.length∧(fJ L k).s = s
  ·obtain ⟨hs,h1⟩:=h1
   obtain ⟨i,hi1,hi2,hi3⟩:=least _ h1;refine KC HB (by omega) X (s :: df.flatten) i ⟨hi1,?_,fun _ k hk=>hi3 k hk,fun h=>?_⟩ hN' hC
   ·have e1:=Nd.var (HB.IY _ (gB hi1)) (by omega)
    have e2:=Nd.var hnd hs;rw [e1,hi2];exact e2.symm
   ·have h':0≤s:=h
    omega
  ·by_cases h2:∃ k,k < L.length∧(fJ L k).X = X
   ·obtain ⟨i,hi1,hi2,hi3⟩:=least _ h2
    obtain ⟨l2,h2',Bu⟩:=(HB.IY _ (gB hi1)).tree;obtain ⟨v2,eH⟩:=(HB.IY _ (gB hi1)).node;rw [hi2] at Bu eH;obtain ⟨es,_⟩:=TY eH hN';refine KC HB (by omega) X (s :: df.flatten) i ⟨hi1,Bu.one hT',fun h=>?_,fun _=>⟨hi2,fun k hk=>hi3 k hk⟩⟩ hN' hC;exact absurd ⟨h,i,hi1,es⟩ h1
   ·refine TZ HB ⟨X,s,Xs,df⟩ h5 hnd (fun hs k hk e=>h1 ⟨hs,k,hk,e⟩) (fun k hk e=>h2 ⟨k,hk,e⟩) hC ?_
    intro j W' zB zC L' hj hWK HB' hLL h5';have hmem:∀ q∈df[j]?.getD [],-8≤q∧q < 6:=fun q hq=>by
     refine hkn q (List.mem_cons_of_mem _ (List.mem_flatten.2 ⟨df[j]?.getD [],?_,hq⟩));have hj':j < df.length:=by rw [hl];exact hj
     rw [List.getElem?_eq_getElem hj'];exact List.getElem_mem hj'
    exact ih j hj hmem W' x zB zC L' C (fun k k1 k2=>(hWK.keeps KD hx hhi k k1 k2).trans (hW k k1 k2)) (by have:=hWK.size;omega) hx (hWK.far KD hhi) HB' (IZ fun k hk=>by rw [← hC];unfold oD;rw [if_neg (by omega)]) h5'
def ndN (L:List Nd) (k:Nat):Nat:=(fJ L k).X
def qi (L:List Nd) (k:Nat):Int:=(fJ L k).s
def Vi (L:List Nd) (k:Nat):List Int:=(fJ L k).z
def ndP (L:List Nd) (k i:Nat):Nat:=(fJ L k).Xs[i]?.getD 0
theorem Zd {R:Nat→Nat→Prop}:∀ m,(∀ j,j < m→∃ i,R j i)→∃ l:List Nat,l.length = m∧∀ j,j < m→R j (l[j]?.getD 0):=by
 intro m;induction m with
 | zero=>intro _;exact ⟨[],rfl,fun j hj=>by omega⟩
 | succ m ih =>
  intro h;obtain ⟨l,h1,h2⟩:=ih fun j hj=>h j (by omega)
  obtain ⟨i,hi⟩:=h m (by omega);refine ⟨l++[i],by simp [h1],fun j hj=>?_⟩;by_cases e:j = m
  ·subst e;rw [← h1];simpa [h1] using hi
  ·rw [List.getElem?_append_left (by omega)];exact h2 j (by omega)
def Ub (L:List Nd) (K:Nat→List Nat):Prop:=∀ k,k < L.length→(K k).length = (fJ L k).Xs.length∧∀ j,j < (fJ L k).Xs.length→FK L (ndP L k j) ((fJ L k).df[j]?.getD []) ((K k)[j]?.getD 0)
theorem XF {L:List Nd} (h:∀ d∈L,rV L d):∃ K,Ub L K:=by
 have h1:∀ k:Nat,∃ l:List Nat,k < L.length→l.length = (fJ L k).Xs.length∧∀ j,j < (fJ L k).Xs.length→FK L (ndP L k j) ((fJ L k).df[j]?.getD []) (l[j]?.getD 0):=fun k=>by
  by_cases hk:k < L.length
  ·obtain ⟨l,h2,h3⟩:=Zd _ (h _ (gB hk))
   exact ⟨l,fun _=>⟨h2,h3⟩⟩
  ·exact ⟨[],fun h=>absurd h hk⟩
 obtain ⟨K,hK⟩:=Classical.skolem.1 h1;exact ⟨K,hK⟩
theorem QF {W:World} {x:Nat} {vN vC:Value} {L:List Nd} {m:Nat} {C:Nat→Nat} (H:TB W x vN vC L m C) {K:Nat→List Nat} (hK:Ub L K):Mt.Dk L.length (qi L) K (Vi L):=by
 refine ⟨fun k hk=>?_,fun k hk=>?_,fun k hk i hi=>?_,fun k hk=>?_,fun i j hi hj hs e=>H.one i j hi hj hs e⟩
 ·obtain ⟨_,_,_,_,_,_,_,_,_,_,_,_,h10,_⟩:=H.IY _ (gB hk)
  exact h10 _ (by unfold Nd.z;simp [qi])
 ·obtain ⟨_,_,_,_,_,_,_,_,_,_,h8,_⟩:=H.IY _ (gB hk)
  rw [(hK k hk).1,h8];rfl
 ·obtain ⟨j,hj,e⟩:=List.getElem_of_mem hi
  have h:=((hK k hk).2 j (by rw [← (hK k hk).1];exact hj)).1;rw [List.getElem?_eq_getElem hj,e] at h;exact h
 ·obtain ⟨_,_,_,_,_,_,_,_,_,_,h8,h9,_⟩:=H.IY _ (gB hk)
  show (fJ L k).s :: (fJ L k).df.flatten = _;have e:(K k).map (Vi L) = (fJ L k).df:=by
   refine List.ext_getElem (by rw [List.length_map,(hK k hk).1,h9]) fun j j1 j2=>?_
   rw [List.length_map] at j1;rw [List.getElem_map];have h:=((hK k hk).2 j (by rw [← (hK k hk).1];exact j1)).2.1;rw [List.getElem?_eq_getElem j1,List.getElem?_eq_getElem j2] at h;exact h
  rw [e];rfl
theorem QG {lo hi:Nat} {W:World} {X:Nat} {zs:List Int} (h:bY lo hi W X zs):lo≤X∧X < hi∧∃ v,Node W X (hd0 zs) v:=by
 cases h with
 | mk _ s v Xs df h1 h2 hN=>exact ⟨h1,h2,v,hN⟩
theorem TB.ties {W:World} {x:Nat} {vN vC:Value} {L:List Nd} {C:Nat→Nat} (H:TB W x vN vC L L.length C) {K:Nat→List Nat} (hK:Ub L K) (h5:L.length≤5000) (h0:0 < L.length):∃ aN cN g cC,vN = .slice aN L.length cN∧vC = .slice (some ⟨g,0,none⟩) L.length cC∧jV W x L.length aN cN g cC (ndN L) C (qi L) K (ndP L):=by
 obtain ⟨gC,cC,rfl,_⟩:=New.XB H.qN (by rw [Mt.fE];exact h0);rw [Mt.fE] at H;obtain ⟨gN,cN,rfl,hgN,_⟩:=World.ownsRow.form H.rG h0;refine ⟨some ⟨gN,0,none⟩,cN,gC,cC,rfl,by rw [Mt.fE],(World.ownsRow.lt H.qN gC rfl).2,fun W' hk C' hC'=>?_,?_⟩
 ·have hgC:=(World.ownsRow.lt H.qN gC rfl).1
  have hx:W'.heap[x]? = W.heap[x]?:=hk.block x H.lt (by omega);have hN':W'.heap[gN]? = W.heap[gN]?:=hk.block gN (World.ownsRow.lt H.rG gN rfl).2 fun e=>H.apart (q:=gC) (by rw [e];rfl) rfl
  refine ⟨(World.cell?_of_block (a:=⟨x,0,none⟩) hx).trans ((aM H.cell 0).trans rfl),(World.cell?_of_block (a:=⟨x,1,none⟩) hx).trans ((aM H.cell 1).trans rfl),fun k hk'=>?_,fun k hk'=>⟨gC,0,rfl,by rw [Nat.zero_add];exact hC' k hk'⟩,fun k hk'=>?_,fun k i hk' hi=>?_,fun k i hk' hi=>?_,h5⟩
  ·obtain ⟨aN,cN',e,hf⟩:=H.form
   simp only [Value.slice.injEq,true_and] at e;obtain ⟨rfl,rfl⟩:=e;obtain ⟨b,off,e,hc⟩:=hf k hk';simp only [Option.some.injEq,Addr.mk.injEq] at e;obtain ⟨rfl,rfl,_⟩:=e;exact ⟨gN,0,rfl,(World.cell?_of_block (a:=⟨gN,0+k,none⟩) hN').trans hc⟩
  ·obtain ⟨lo,hi,v,h1,h2,h3,h4,h5',h6,⟨a,c,rfl,h7⟩,h8,h9,h10,h11⟩:=H.IY _ (gB hk')
   have KD:∀ q,lo≤q→q < hi→W'.heap[q]? = W.heap[q]?:=fun q q1 q2=>hk.block q (by omega) fun e=>by have:=h3 gC (.inr rfl);omega
   rw [h8] at h6 h7;refine ⟨a,c,(KD _ h4 h5').trans h6,fun i hi=>?_⟩;obtain ⟨b,off,e,b1,b2,hc⟩:=h7 i hi;exact ⟨b,off,e,(World.cell?_of_block (a:=⟨b,off+i,none⟩) (KD b b1 b2)).trans hc⟩
  ·obtain ⟨lo,hi',v,h1,h2,h3,h4,h5',h6,h7,h8,h9,h10,h11⟩:=H.IY _ (gB hk')
   have KD:∀ q,lo≤q→q < hi'→W'.heap[q]? = W.heap[q]?:=fun q q1 q2=>hk.block q (by omega) fun e=>by have:=h3 gC (.inr rfl);omega
   have hi2:i < (fJ L k).Xs.length:=by rw [h8];exact hi
   obtain ⟨t1,t2,v',t3⟩:=QG (h11 i hi2);have hF:=(hK k hk').2 i hi2;have es:qi L ((K k)[i]?.getD 0) = hd0 ((fJ L k).df[i]?.getD []):=by rw [← hF.2.1];rfl
   rw [es];exact ⟨v',(KD _ t1 t2).trans t3⟩
  ·obtain ⟨lo,hi',v,h1,h2,h3,h4,h5',h6,h7,h8,h9,h10,h11⟩:=H.IY _ (gB hk')
   obtain ⟨f1,f2,f3,f4⟩:=(hK k hk').2 i (by rw [h8];exact hi);have es:qi L ((K k)[i]?.getD 0) = hd0 ((fJ L k).df[i]?.getD []):=by rw [← f2];rfl
   exact ⟨f1,fun h q hq=>by rw [es];exact f3 (by rw [← es];exact h) q hq,fun h=>f4 (by rw [← es];exact h)⟩
 ·exact H.qN.mono (Nat.zero_le _)
theorem New.Ze {base base':Nat} {W:World} {g n c:Nat} {zs:List Int} (h:New base W (.slice (some ⟨g,0,none⟩) n c) zs) (hb:base'≤g):New base' W (.slice (some ⟨g,0,none⟩) n c) zs:=by
 refine ⟨h.1,?_⟩;rcases h.2 with ⟨e,_⟩ | ⟨g',c',cur,e,_,h3⟩
 ·cases e
 ·cases e
  exact .inr ⟨_,_,cur,rfl,hb,h3⟩
theorem TB.tied {W W':World} {x:Nat} {vN:Value} {L:List Nd} {m g cC:Nat} {C C':Nat→Nat} (H:TB W x vN (.slice (some ⟨g,0,none⟩) m cC) L m C) (hk:aW W.heap.size g W W') (hN:New 0 W' (.slice (some ⟨g,0,none⟩) m cC) (Mt.Cv m C')):TB W' x vN (.slice (some ⟨g,0,none⟩) m cC) L m C'∧WK W W' x vN (.slice (some ⟨g,0,none⟩) m cC) vN (.slice (some ⟨g,0,none⟩) m cC):=by
 have hgC:=(World.ownsRow.lt H.qN g rfl).1;have hwk:WK W W' x vN (.slice (some ⟨g,0,none⟩) m cC) vN (.slice (some ⟨g,0,none⟩) m cC):=⟨hk.os,hk.tape,hk.output,hk.size,fun k h1 _ _ h4=>hk.block k h1 fun e=>h4 (by rw [e];rfl),fun _ h=>.inl h,fun _ h=>.inl h⟩;refine ⟨⟨(hk.block x H.lt (by omega)).trans H.cell,eD H.rG fun q hq=>hk.block q (World.ownsRow.lt H.rG q hq).2 fun e=>H.apart hq (by rw [e];rfl),hN.Ze hgC,fun d hd=>(H.IY d hd).keep hwk,H.one⟩,hwk⟩
theorem WK.below {W W':World} {x:Nat} {vN vC zB zC:Value} {L:List Nd} {m:Nat} {C:Nat→Nat} (h:WK W W' x vN vC zB zC) (H:TB W x vN vC L m C):Below x W W' :=
 ⟨h.os,h.tape,h.output,h.size,fun k hk=>h.block k (by have:=H.lt;omega) (by omega) (fun e=>by have:=(World.ownsRow.lt H.rG k e.symm).1;omega) (fun e=>by have:=(World.ownsRow.lt H.qN k e.symm).1;omega)⟩
structure MI (ps:ah) (k:Nat) (L:List Nd) (C:Nat→Nat):Prop where
 lt:∀ q,q < L.length→C q < L.length
 out:∀ q,L.length≤q→C q = q
 sound:∀ θ,Wb.TermSb θ→Wb.Same ps k θ→Mt.iY L.length (Vi L) C θ
 tied:∀ j,j < k→∃ a b,a < L.length∧b < L.length∧Vi L a = (ps[j]?.getD ([],[])).1∧Vi L b = (ps[j]?.getD ([],[])).2∧C a = C b
 full:∀ d∈L,rV L d
theorem MI.start (ps:ah):MI ps 0 [] (fun q=>q):=⟨fun q h=>by simp at h,fun _ _=>rfl,fun _ _ _ i _ h=>by simp at h,fun j hj=>by omega,fun d h=>by simp at h⟩
theorem MI.oD {ps:ah} {k:Nat} {L:List Nd} {C:Nat→Nat} (H:MI ps k L C):oD L.length C = C:=IZ H.out
theorem Dm {L:List Nd} (M:List Nd) {k:Nat} (h:k < L.length):Vi (L++M) k = Vi L k:=by unfold Vi;rw [iU M h]
theorem MI.ext {ps:ah} {k:Nat} {L:List Nd} {C:Nat→Nat} (H:MI ps k L C) {M:List Nd} (hM:∀ d∈M,rV (L++M) d):MI ps k (L++M) C:=by
 refine ⟨fun q hq=>?_,fun q hq=>H.out q (by rw [List.length_append] at hq;omega),fun θ hθ hs i j hi hj e=>?_,fun j hj=>?_,fun d hd=>?_⟩
 ·rw [List.length_append] at hq ⊢
  by_cases h:q < L.length
  ·have:=H.lt q h;omega
  ·rw [H.out q (by omega)];exact hq
 ·by_cases h1:i < L.length
  ·by_cases h2:j < L.length
   ·rw [Dm M h1,Dm M h2];exact H.sound θ hθ hs i j h1 h2 e
   ·rw [H.out j (by omega)] at e;have:=H.lt i h1;omega
  ·rw [H.out i (by omega)] at e
   by_cases h2:j < L.length
   ·have:=H.lt j h2;omega
   ·rw [H.out j (by omega)] at e;rw [e]
 ·obtain ⟨a,b,ha,hb,e1,e2,e3⟩:=H.tied j hj
  exact ⟨a,b,by rw [List.length_append];omega,by rw [List.length_append];omega,by rw [Dm M ha];exact e1,by rw [Dm M hb];exact e2,e3⟩
 ·rcases List.mem_append.1 hd with h | h
  ·exact (H.full d h).app M
  ·exact hM d h
theorem MI.tie {ps:ah} {k:Nat} {L:List Nd} {C:Nat→Nat} (H:MI ps k L C) {a b:Nat} (ha:a < L.length) (hb:b < L.length) (e1:Vi L a = (ps[k]?.getD ([],[])).1) (e2:Vi L b = (ps[k]?.getD ([],[])).2):MI ps (k+1) L (Mt.tied C a b):=by
 refine ⟨Mt.O8 H.lt hb,fun q hq=>?_,fun θ hθ hs=>?_,fun j hj=>?_,H.full⟩
 ·unfold Mt.tied
  have:=H.lt a ha
  rw [H.out q hq,if_neg (by omega)]
 ·obtain ⟨h1,h2⟩:=hs.succ
  refine (H.sound θ hθ h1).tie ha hb ?_;rw [e1,e2];exact h2
 ·by_cases e:j = k
  ·subst e
   exact ⟨a,b,ha,hb,e1,e2,Mt.Qw C a b⟩
  ·obtain ⟨a',b',ha',hb',f1,f2,f3⟩:=H.tied j (by omega)
   exact ⟨a',b',ha',hb',f1,f2,Mt.Ca a b f3⟩
theorem TB.below {W W1:World} {x:Nat} {vN vC:Value} {L:List Nd} {m:Nat} {C:Nat→Nat} (H:TB W x vN vC L m C) (hB:Below W.heap.size W W1):TB W1 x vN vC L m C∧WK W W1 x vN vC vN vC:=by
 have hwk:WK W W1 x vN vC vN vC:=⟨hB.os,hB.tape,hB.output,hB.size,fun k hk _ _ _=>hB.block k hk,fun _ h=>.inl h,fun _ h=>.inl h⟩;exact ⟨⟨(hB.block x H.lt).trans H.cell,eD H.rG fun q hq=>hB.block q (World.ownsRow.lt H.rG q hq).2,eD H.qN fun q hq=>hB.block q (World.ownsRow.lt H.qN q hq).2,fun d hd=>(H.IY d hd).keep hwk,H.one⟩,hwk⟩
theorem TB.start (w:World):TB (w.alloc (.cells #[.slice none 0 0,.slice none 0 0] 115)) w.heap.size (.slice none 0 0) (.slice none 0 0) [] 0 (fun q=>q) :=
 ⟨World.alloc_heap_new w _,World.ownsRow_nil _ _ _ _,New.nil _ _,fun d hd=>by simp at hd,fun i j hi=>by simp at hi⟩
theorem Gq {W W1:World} {x:Nat} {vN vC:Value} {L:List Nd} {C:Nat→Nat} (H:TB W x vN vC L L.length C) (hB:Below W.heap.size W W1) {zs:List Int} (hT:bY W.heap.size W1.heap.size W1 W.heap.size zs) (he:Tm.err zs = 0) (hC:oD L.length C = C) (h5:L.length+zs.length≤5000) :
 Calls Tryz.prog 80 #[ptr x,ptr W.heap.size] W1 fun e w'=>zD W1 w' e x vN vC L C W.heap.size zs:=by
 refine Ua hT (fun s hs=>?_) W1 x vN vC L C (fun _ _ _=>rfl) (Nat.le_refl _) H.lt (fun q hq=>?_) (H.below hB).1 hC h5
 ·have h:=Tm.dH he
  rw [List.all_eq_true] at h;have:=h s hs
  exact ⟨Tm.iK this,Tm.gK this⟩
 ·rcases hq with e | e
  ·exact .inl (World.ownsRow.lt H.rG q e).2
  ·exact .inl (World.ownsRow.lt H.qN q e).2
theorem Zf {W:World} {x:Nat} {vN vC:Value} {L:List Nd} {C:Nat→Nat} (H:TB W x vN vC L L.length C) (hF:∀ d∈L,rV L d) (h5:L.length≤5000) (a b:Nat) (ha:a < L.length) (hb:b < L.length) :
 Calls Tryz.prog 82 #[ptr x,.int .i64 (a:Int),.int .i64 (b:Int)] W fun e w'=>(∃ v,e = .returned v)∧TB w' x vN vC L L.length (Mt.tied C a b)∧WK W w' x vN vC vN vC:=by
 obtain ⟨K,hK⟩:=XF hF;obtain ⟨aN,cN,g,cC,rfl,rfl,hO⟩:=H.ties hK h5 (by omega);refine (Pe W hO a b ha hb).mono ?_;rintro e w' ⟨hv,hk,hO'⟩;obtain ⟨h1,h2⟩:=H.tied hk hO'.2.2;exact ⟨hv,h1,h2⟩
namespace Mt
def EH (n:Nat) (S:Nat→Int) (K:Nat→List Nat) (C:Nat→Nat) (k:Nat):Wb.Sb:=fun v=>match (List.range k).find? fun q=>decide (S q = v) with
 | some q=>oI n S K C (n+1) (C q)
 | none=>[v]
theorem Gr {n:Nat} {S:Nat→Int} {K:Nat→List Nat} {C:Nat→Nat} {k:Nat} {v:Int} (h:S k≠v):EH n S K C (k+1) v = EH n S K C k v:=by
 unfold EH;rw [List.range_succ,List.find?_append];cases hf:(List.range k).find? fun q=>decide (S q = v) with
 | some q=>rfl
 | none=>simp [h]
theorem QH {n:Nat} {S:Nat→Int} {K:Nat→List Nat} {C:Nat→Nat} {k:Nat} (h:∀ q,q < k→S q≠S k):EH n S K C (k+1) (S k) = oI n S K C (n+1) (C k):=by
 unfold EH;rw [List.range_succ,List.find?_append,List.find?_eq_none.2 fun q hq=>by simpa using h q (List.mem_range.1 hq)];simp
theorem Uc {σ τ:Wb.Sb} {j:Nat} {t:List Int} (h1:τ (-1 - (j:Int)) = t) (h2:∀ v,v≠-1 - (j:Int)→τ v = σ v):Tm.Bv τ = (Tm.Bv σ).set j t:=by
 refine List.ext_getElem (by rw [List.length_set,Tm.gF,Tm.gF]) fun i i1 i2=>?_
 rw [Tm.gF] at i1;rw [List.getElem_set];have a1:=Tm.Ii τ i1;have a2:=Tm.Ii σ i1;rw [List.getElem?_eq_getElem (by rw [Tm.gF];exact i1)] at a1 a2;simp only [Option.getD_some] at a1 a2;by_cases e:j = i
 ·subst e
  rw [if_pos rfl,a1,h1]
 ·rw [if_neg e,a1,a2]
  exact h2 _ (by omega)
end Mt
theorem MJ {x cN:Nat} (w:World) (hc0:w.cell? ⟨x,0,none⟩ = some (.slice none 0 cN)) :
 Calls Tryz.prog 83 #[ptr x] w fun e w'=>e = .returned (.bool true)∧w' = w:=by
 go_enter Tryz.func83,Tryz.ntmps83;go_wp2;refine wp_loop_rounds 2 ?_;rw [rounds_succ];go_wp2;refine wp_loop_rounds 1 ?_;rw [rounds_succ];go_wp2;rw [rounds_succ];go_wp2;go_ret;exact ⟨rfl,rfl⟩
def EI (ps:ah) (w w':World) (e:Ending):Prop:=Below w.heap.size w w'∧∃ er is val v,Tm.dQ ps er is val∧e = .returned (.tuple #[v,.bool is,.int .i64 er])∧dG w.heap.size w' v val
theorem I1 {ps:ah} (h:∀ k,k < ps.length→Tm.err (ps[k]?.getD ([],[])).1 = 0∧Tm.err (ps[k]?.getD ([],[])).2 = 0):Tm.firstPair ps = 0:=by
 induction ps with
 | nil=>rfl
 | cons r l ih =>
  rw [Tm.firstPair,if_pos (Tm.jN.2 (by simpa using h 0 (by simp)))];exact ih fun k hk=>by simpa using h (k+1) (by simpa using hk)
theorem KE {wr w1 w2:World} {x:Nat} {vN vC Y7 Y8:Value} {L M:List Nd} {C:Nat→Nat} {ps:ah} {k:Nat} (hT:TB wr x vN vC L L.length C) (hM:MI ps k L C) (hB1:Below wr.heap.size wr w1) (hA:∀ d∈M,rV (L++M) d) (Bu:TB w2 x Y7 Y8 (L++M) (L++M).length (oD L.length C)) (hW2:WK w1 w2 x vN vC Y7 Y8) :
 TB w2 x Y7 Y8 (L++M) (L++M).length C∧MI ps k (L++M) C∧Below x wr w2:=by
 rw [hM.oD] at Bu;exact ⟨Bu,hM.ext hA,(hB1.mono (Nat.le_of_lt hT.lt)).trans (hW2.below (hT.below hB1).1)⟩
theorem Ud (ps:ah) (a:Option Addr) (cap:Nat) (w:World) (hP:aJ w.heap.size w a ps) (Di:ps.length≤40) (h0:0 < ps.length) (hok:∀ k,k < ps.length→Tm.err (ps[k]?.getD ([],[])).1 = 0∧Tm.err (ps[k]?.getD ([],[])).2 = 0) :
 Calls Tryz.prog 54 #[.slice a ps.length cap] w fun e w'=>EI ps w w' e:=by
 have hfp:=hid (I1 hok);have LW:(ps.length:Int)≤40:=by omega
 have acH:=hid (TB.start w);have hB0:=hid ((Below.refl w.heap.size w).alloc (Nat.le_refl _) (.cells #[.slice none 0 0,.slice none 0 0] 115));have HP:=hid hP;have Hok:=hid hok;have acI:=hid (MI.start ps);clear hP hok;go_enter Tryz.func54,Tryz.ntmps54;go_wp2;go_loopw [6] (fun i wr=>∃ (k:Nat) (L:List Nd) (C:Nat→Nat) (vN vC:Value),k≤ps.length∧i = .int .i64 (k:Int)∧Hid (TB wr w.heap.size vN vC L L.length C)∧Hid (MI ps k L C)∧Hid (L.length≤60 * k)∧Hid (0 < k→0 < L.length)∧Hid (Below w.heap.size w wr)) (fun i _=>ps.length - (intOf i).toNat)
 case atStart=>exact ⟨0,[],_,_,_,Nat.zero_le _,rfl,acH,acI,by simp [Hid],fun h=>by omega,hB0⟩
 case round =>
  obtain ⟨k,L,C,vN,vC,hk,rfl,hT,hM,hL,hL0,hB⟩:=hrel;by_cases hlt:k < ps.length
  ·have hkl:(k:Int) < (ps.length:Int):=by omega
   obtain ⟨b,off,rfl,hb,aL,cL,aR,cR,hc1,hc2,hI1,hI2,q1,q2,q3,q4⟩:=(HP.out.below hB.out) k hlt;obtain ⟨e1,e2⟩:=Hok.out k hlt;have l1:=Tm.aI e1;have l2:=Tm.aI e2;have hE1:Hid ((ps[k]?.getD ([],[])).1 = (ps[k]?.getD ([],[])).1):=rfl;have hE2:Hid ((ps[k]?.getD ([],[])).2 = (ps[k]?.getD ([],[])).2):=rfl;generalize hz1:(ps[k]?.getD ([],[])).1 = z1 at hc1 hI1 q1 e1 l1;generalize hz2:(ps[k]?.getD ([],[])).2 = z2 at hc2 hI2 q3 e2 l2;have Hz1:=hid hz1;have Hz2:=hid hz2;clear hz1 hz2 hE1 hE2;have hbw:b < wr.heap.size:=by have:=hB.out.size;omega
   have ht1:=hid (pJ z1 aL cL wr e1 q1 q2 (hI1.mono hB.out.size));have ht2:=hid (fun W (hW:Below w.heap.size wr W)=>pJ z2 aR cR W e2 q3 q4 ((hI2.below hW).mono (Nat.le_trans hB.out.size hW.size)));have af8:=hid (fun W (hW:Below w.heap.size wr W)=>(hW.cell (p:=⟨b,off+k * 2+1,none⟩) hb).trans hc2);have hn1:=hid (fun W1 h1 h2=>Gq (W1:=W1) (zs:=z1) hT.out h1 h2 e1 hM.out.oD (by have:=hL.out;omega));have H1:=hid (And.intro e1 l1);have H2:=hid (And.intro e2 l2);clear hI1 hI2 e1 e2 l1 l2 q1 q2 q3 q4;go_wp2_with (first
    | (go_at_call_of 81 (Value.slice aL z1.length cL);refine ht1.out.mono ?_;clear ht1;rintro e w1 ⟨rfl,hB1,hT1⟩)
    | (go_at_call_of 80 (ptr wr.heap.size);refine (hn1.out _ hB1 hT1).mono ?_;clear hn1;rintro e w2 ⟨i1,Y7,Y8,M1,rfl,hF1,hA1,Bu,hW2,hM1⟩;obtain ⟨Vh,Zg,hB3⟩:=KE hT.out hM.out hB1 hA1 Bu hW2;have hc2':=af8.out _ hB3;have HT3:=hid Vh;have HM3:=hid Zg;have HF1:=hid hF1;clear Vh Zg Bu hW2 hA1 hF1 hT1 hB1)
    | (go_at_call_of 81 (Value.slice aR z2.length cR);refine (ht2.out _ hB3).mono ?_;clear ht2;rintro e w3 ⟨rfl,hB4,hT4⟩)
    | (go_at_call_of 80 (ptr w2.heap.size);refine (Gq HT3.out hB4 hT4 H2.out.1 HM3.out.oD (by have h1:=hL.out;have h2:=H1.out.2;have h3:=H2.out.2;rw [List.length_append];omega)).mono ?_;rintro e w4 ⟨i2,vN2,vC2,M2,rfl,hF2,hA2,hT5,mG,hM2⟩;obtain ⟨hT6,hM6,Jo⟩:=KE HT3.out HM3.out hB4 hA2 hT5 mG;have HT6:=hid hT6;have HM6:=hid hM6;have HF2:=hid hF2;clear hT6 hM6 hT5 mG hA2 hF2 hT4 hB4)
    | (go_at_call 82;refine (Zf HT6.out HM6.out.full (by have h1:=hL.out;have h2:=H1.out.2;have h3:=H2.out.2;rw [List.length_append,List.length_append];omega) i1 i2 (HF1.out.app M2).1 HF2.out.1).mono ?_;rintro e w5 ⟨⟨v5,rfl⟩,hT7,OT⟩))
   go_roundw
   case rel =>
    have Zh:=HF1.out.app M2;have acJ:=HF2.out;refine ⟨k+1,L++M1++M2,Mt.tied C i1 i2,vN2,vC2,by omega,by go_num,hT7,HM6.out.tie Zh.1 acJ.1 ?_ ?_,?_,fun _=>by have:=Zh.1;omega,?_⟩
    ·rw [Hz1.out];exact Zh.2.1
    ·rw [Hz2.out];exact acJ.2.1
    ·show _≤_
     have h1:=hL.out;have h2:=H1.out.2;have h3:=H2.out.2;rw [List.length_append,List.length_append];omega
    ·exact (hB.out.trans (hB3.trans Jo)).trans (OT.below HT6.out)
   case measure=>simp [intOf];omega
  ·obtain rfl:k = ps.length:=by omega
   obtain ⟨K,hK⟩:=XF hM.out.full;have hn0:=hL0.out h0;have hn5:L.length≤5000:=by have:=hL.out;omega
   have G:=QF hT.out hK;obtain ⟨aN,cN,g,cC,rfl,rfl,hO⟩:=hT.out.ties hK hn5 hn0;have hgx:=(World.ownsRow.lt hT.out.qN g rfl).1;have hcl:=MF G wr hO hM.out.lt hn0;have hroom:Hid (∀ k,k < L.length→(K k).length = Tm.room (qi L k)):=G.room;have HG:=hid G;have hnI:(L.length:Int)≤5000:=by omega
   clear hK G hO acH hB0 acI HP Hok;go_wp2_with fail;refine hcl.mono ?_;rintro e w1 ⟨hK1,hor⟩;clear hcl;have hBw1:Hid (Below w.heap.size w w1):=hB.out.trans ((hK1.mono hB.out.size).below (by omega));rcases hor with ⟨rfl,hno⟩ | ⟨rfl,C1,Wj,hlt1,acK,acL,acM⟩
   ·have Hno:=hid hno
    clear hno;go_wp2;go_ret3
    exact ⟨hBw1.out,0,false,[],_,.inr (.inl ⟨hfp.out,fun θ hθ hs=>Hno.out θ hθ (hM.out.sound θ hθ hs),rfl,rfl,rfl⟩),rfl,dG.nil _ _⟩
   ·have hT1:=Wj.ties
    have hc0:=hT1.c0;have hc1:=hT1.c1;have IV:=hid (fun θ hθ hs=>acL θ hθ (hM.out.sound θ hθ hs));have af9:=hid (fun hr=>Mt.VZ HG.out acM hr IV.out (fun j hj=>by obtain ⟨a,b,ha,hb,e1,e2,e3⟩:=hM.out.tied j hj;exact ⟨a,b,ha,hb,e1,e2,acK a b ha hb e3⟩));have hrn:=hid (fun θ hθ hs q hq=>Mt.YW HG.out hlt1 (IV.out θ hθ hs) (k:=q) hq);have HT1:=hid hT1;have Zi:=hid (fun q W (hW:lh W w.heap.size L.length aN cN (some ⟨g,0,none⟩) cC (ndN L) C1 (qi L) K (ndP L))=>Qx hroom.out (L.length+1) 0 q W hW (by omega));have aga:=hid (fun q W h (hW:lh W w.heap.size L.length aN cN (some ⟨g,0,none⟩) cC (ndN L) C1 (qi L) K (ndP L))=>Ky hroom.out (L.length+1) q W h hW);clear hT1 Wj hlt1 acK acL acM hK1;go_wp2;go_loopw [9] (fun i wr=>∃ q:Nat,q≤L.length∧i = .int .i64 (q:Int)∧Hid (∀ j,j < q→Mt.rnd L.length (qi L) K C1 (L.length+1) (C1 j) = false)∧∃ d,wr = w1.drewN d) (fun i _=>L.length - (intOf i).toNat)
    case atStart=>exact ⟨0,Nat.zero_le _,rfl,(fun j hj=>by omega),0,rfl⟩
    case round =>
     obtain ⟨q,hq,rfl,hqs,d,rfl⟩:=hrel;by_cases Mq:q < L.length
     ·have hqI:(q:Int) < (L.length:Int):=by omega
      obtain ⟨_,_,e,hcq⟩:=HT1.out.cl q Mq;cases e;rw [Nat.zero_add] at hcq;have hcall:=hid (Zi.out (C1 q) (w1.drewN d) (HT1.out.drewN d));cases hb:Mt.rnd L.length (qi L) K C1 (L.length+1) (C1 q) with
      | true =>
       have hno:Hid (∀ θ,Wb.TermSb θ→¬ Wb.Same ps ps.length θ):=fun θ hθ hs=>by
        have:=hrn.out θ hθ hs q Mq
        rw [hb] at this;cases this
       rw [hb] at hcall;clear hb;generalize C1 q = cq at *;go_wp2_with (go_at_call 84;refine hcall.out.mono ?_;clear hcall;rintro e w2 ⟨rfl,d2,rfl⟩)
       go_ret3
       exact ⟨below_drewN hBw1.out _,0,false,[],_,.inr (.inl ⟨hfp.out,hno.out,rfl,rfl,rfl⟩),rfl,dG.nil _ _⟩
      | false =>
       rw [hb] at hcall;have Hb:=hid hb;clear hb;have agb:Hid (∀ j,j < q+1→Mt.rnd L.length (qi L) K C1 (L.length+1) (C1 j) = false):=fun j hj=>by
        by_cases e:j = q
        ·subst e;exact Hb.out
        ·exact hqs.out j (by omega)
       generalize C1 q = cq at *;go_wp2_with (go_at_call 84;refine hcall.out.mono ?_;clear hcall;rintro e w2 ⟨rfl,d2,rfl⟩)
       go_roundw
       case rel=>exact ⟨q+1,by omega,by go_num,agb,_,rfl⟩
       case measure=>simp [intOf];omega
     ·obtain rfl:q = L.length:=by omega
      have hM':=hid (af9.out hqs.out);go_wp2_with (go_at_call 85;refine (sI _).mono ?_;rintro e w4 ⟨v,rfl,gI,hB4⟩;have hlen:(Tm.gQ 8).length = 8:=Tm.gy 8;obtain ⟨g4,c4,rfl⟩:∃ g4 c4,v = .slice (some ⟨g4,0,none⟩) 8 c4:=(by obtain ⟨us,h1,_⟩:=gI;rw [hlen] at h1;exact ownsRow_succ h1))
      have hg4:w1.heap.size≤g4:=by
       obtain ⟨us,h1,_⟩:=gI;exact (World.ownsRow.lt h1 g4 rfl).1
      have gq:Hid (Below w1.heap.size w1 w4):=⟨hB4.os,hB4.tape,hB4.output,hB4.size,hB4.block⟩;have HN4:Hid (dG w1.heap.size w4 (.slice (some ⟨g4,0,none⟩) 8 c4) (Tm.gQ 8)):=gI;clear gI hB4 hlen hc0 hc1;have hone:=hid (fun q (hq:q < L.length) (hs:qi L q < 0) (j:Nat) (hj:j < q) (e:qi L j = qi L q)=>(by have:=HG.out.vars q j hq (by omega) hs e.symm;omega:False));go_loopw [11] (fun i wr=>∃ q:Nat,q≤L.length∧i = .int .i64 (q:Int)∧Hid (dG w1.heap.size wr (.slice (some ⟨g4,0,none⟩) 8 c4) (Tm.Bv (Mt.EH L.length (qi L) K C1 q)))∧Hid (∀ j,j < q→qi L j < 0→(Mt.oI L.length (qi L) K C1 (L.length+1) (C1 j)).length≤30)∧Hid (Below w1.heap.size w1 wr)) (fun i _=>L.length - (intOf i).toNat)
      case atStart=>exact ⟨0,Nat.zero_le _,rfl,HN4,(fun j hj=>by omega),gq⟩
      case round =>
       obtain ⟨q,hq,rfl,hNq,hlq,Ih⟩:=hrel;have De:=HT1.out.below Ih.out;have hc0:=De.c0;have hc1:=De.c1;by_cases Mq:q < L.length
       ·have hqI:(q:Int) < (L.length:Int):=by omega
        obtain ⟨bN,oN,rfl,hnq⟩:=De.nd q Mq;obtain ⟨a1,c1,hNd,_⟩:=De.tr q Mq;have hsq:=hNd.cell0;have hkn:=HG.out.known q Mq;clear hNd;by_cases hs:qi L q < 0
        ·obtain ⟨j,hj⟩:∃ j:Nat,qi L q = -1 - (j:Int):=⟨(-1 - qi L q).toNat,by omega⟩
         have Vt:j < 8:=by omega
         have alE:(j:Int) < 8:=by omega
         obtain ⟨_,_,e,hcq⟩:=De.cl q Mq;cases e;rw [Nat.zero_add] at hcq;have hcall:=hid (aga.out (C1 q) wr (hqs.out q Mq) De);have XG:Hid (Mt.EH L.length (qi L) K C1 (q+1) (-1 - (j:Int)) = Mt.oI L.length (qi L) K C1 (L.length+1) (C1 q)):=by rw [← hj];exact Mt.QH fun i hi e=>hone.out q Mq hs i hi e
         have XH:Hid (∀ v,v≠-1 - (j:Int)→Mt.EH L.length (qi L) K C1 (q+1) v = Mt.EH L.length (qi L) K C1 q v):=fun v hv=>Mt.Gr (by rw [hj];exact fun e=>hv e.symm)
         have hset:=hid (Mt.Uc XG.out XH.out);have Zj:Hid ((Mt.oI L.length (qi L) K C1 (L.length+1) (C1 q)).length≤30→∀ j,j < q+1→qi L j < 0→(Mt.oI L.length (qi L) K C1 (L.length+1) (C1 j)).length≤30):=fun h j hj hs=>by
          by_cases e:j = q
          ·subst e;exact h
          ·exact hlq.out j (by omega) hs
         have hbig:Hid (30 < (Mt.oI L.length (qi L) K C1 (L.length+1) (C1 q)).length→∃ i:Nat,i < 8∧30 < (Mt.sig L.length (qi L) K C1 (-1 - (i:Int))).length):=fun h=>⟨j,Vt,by rw [← hj,Mt.Mw HG.out C1 Mq hs];exact h⟩
         rw [hj] at hsq;clear XG XH hs hj De;have hsub:-(-1 - (j:Int)) - 1 = (j:Int):=by omega
         have hjn:(-1 - (j:Int)) < 0:=by omega
         have hpz:=Mt.Pd (hqs.out q Mq);generalize Mt.oI L.length (qi L) K C1 (L.length+1) (C1 q) = zs at *;generalize C1 q = cq at *;generalize ndN L q = nq' at *;go_wp2_with fail;refine hcall.out.mono ?_;rintro e w6 ⟨v6,rfl,Jo,hor⟩;clear hcall;rcases hor with ⟨hz,IM⟩ | ⟨hz,rfl⟩
         ·obtain ⟨a6,c6,rfl,hI6,_⟩:=New.ints IM
          obtain ⟨b6,o6,rfl,_⟩:=hI6.at hpz;have hrun:(binOp .eql 35 (.slice (some ⟨b6,o6,none⟩) zs.length c6) (.slice none 0 0)).run Tryz.prog w6 = .ok (.bool false) w6:=Lib.run_eql_slice_nil w6 _ _ _ _ _ _ _ Tryz.underlying35;have agd:=hid (Ih.out.trans (Jo.mono Ih.out.size));have yD:=hid (hNq.out.below Jo);obtain ⟨hgg,x8,hc8,hf8⟩:=Cc yD.out (Tm.gF _) Vt;have age:=hid (IM.mono Ih.out.size);clear IM hI6;go_wp2;go_roundw
          case rel =>
           refine ⟨q+1,by omega,by go_num,?_,Zj.out hz,agd.out.setCell (p:=⟨g4,j,none⟩) hg4 _⟩;have h:=yD.out.set (Tm.gF _).symm age.out j;rw [← hset.out] at h;exact h
          case measure=>simp [intOf];omega
         ·have hrun:(binOp .eql 35 (.slice none 0 0) (.slice none 0 0)).run Tryz.prog w6 = .ok (.bool true) w6:=Lib.run_eql_slice_nil w6 _ _ _ _ _ _ _ Tryz.underlying35
          go_wp2;go_ret3
          have hBf:=hBw1.out.trans ((Ih.out.trans (Jo.mono Ih.out.size)).mono hBw1.out.size);exact ⟨hBf,2,false,[],_,.inr (.inr (.inr ⟨hfp.out,_,hM'.out,hbig.out hz,rfl,rfl,rfl⟩)),rfl,dG.nil _ _⟩
        ·have hs':decide (qi L q < 0) = false:=by simpa using hs
         have hst:Hid (Tm.Bv (Mt.EH L.length (qi L) K C1 (q+1)) = Tm.Bv (Mt.EH L.length (qi L) K C1 q)):=Tm.Ga fun v _ hv=>Mt.Gr (by omega)
         have Zj:Hid (∀ j,j < q+1→qi L j < 0→(Mt.oI L.length (qi L) K C1 (L.length+1) (C1 j)).length≤30):=fun j hj hsj=>by
          by_cases e:j = q
          ·subst e;exact absurd hsj hs
          ·exact hlq.out j (by omega) hsj
         clear hs De;generalize qi L q = sq at *;generalize ndN L q = nq' at *;go_wp2;go_roundw
         case rel=>exact ⟨q+1,by omega,by go_num,by rw [hst.out];exact hNq,Zj,Ih⟩
         case measure=>simp [intOf];omega
       ·obtain rfl:q = L.length:=by omega
        go_wp2;go_ret3
        refine ⟨hBw1.out.trans (Ih.out.mono hBw1.out.size),0,true,_,_,.inr (.inr (.inl ⟨hfp.out,_,hM'.out,fun i hi=>?_,rfl,rfl,rfl⟩)),rfl,hNq.out.mono hBw1.out.size⟩;rcases Mt.EE (K:=K) HG.out C1 (-1 - (i:Int)) (by omega) with ⟨j,hj,e1,e2⟩ | ⟨_,e2⟩
        ·rw [e2];exact hlq.out j hj (by omega)
        ·rw [e2];simp
theorem Tm.Ue (a b:List Int):Tm.cK a b = Tm.bV a b:=by
 unfold Tm.bV;by_cases h:Tm.err a = 0
 ·rw [if_pos h]
  simp only [Tm.cK,Tm.firstErr,h,if_true];by_cases h2:Tm.err b = 0 <;> simp [h2]
 ·rw [if_neg h]
  simp [Tm.cK,Tm.firstErr,h]
theorem Wp:Wb.Su [] (fun v=>[v]):=by
 refine ⟨fun s hs=>?_,fun v h1 h2 s hs=>?_,fun j hj=>by simp at hj,fun θ _ _ v _ h2=>?_,fun v u _ _ e _=>?_⟩
 ·show Tm.run [s] 1 = 1
  rw [show (1:Nat) = 0+1 from rfl,Tm.bU,Wb.gM hs,Tm.cZ]
 ·simp only [List.mem_cons,List.not_mem_nil,or_false] at hs
  omega
 ·show θ v = Wb.App θ [v]
  rw [Wb.App_cons,if_pos h2,Wb.oO,List.append_nil]
 ·simp only [List.cons.injEq,and_true] at e
  omega
theorem Wq (a:Option Addr) (cap:Nat) (w:World):Calls Tryz.prog 54 #[.slice a 0 cap] w fun e w'=>EI [] w w' e:=by
 have hB0:=hid ((Below.refl w.heap.size w).alloc (Nat.le_refl _) (.cells #[.slice none 0 0,.slice none 0 0] 115));have hcl:=hid (fun W (hW:W = w.alloc (.cells #[.slice none 0 0,.slice none 0 0] 115))=>MJ (x:=w.heap.size) (cN:=0) W (by rw [hW];exact (aM (World.alloc_heap_new w _) 0).trans rfl));have hc0:(w.alloc (.cells #[.slice none 0 0,.slice none 0 0] 115)).cell? ⟨w.heap.size,0,none⟩ = some (.slice none 0 0):=(aM (World.alloc_heap_new w _) 0).trans rfl;go_enter Tryz.func54,Tryz.ntmps54;go_wp2;refine wp_loop_rounds 1 ?_;rw [rounds_succ];go_wp2_with fail;refine (hcl.out _ rfl).mono ?_;rintro e w1 ⟨rfl,rfl⟩;clear hcl;go_wp2;refine wp_loop_rounds 1 ?_;rw [rounds_succ];go_wp2_with (go_at_call 85;refine (sI _).mono ?_;rintro e w4 ⟨v,rfl,gI,hB4⟩;have hlen:(Tm.gQ 8).length = 8:=Tm.gy 8;obtain ⟨g4,c4,rfl⟩:∃ g4 c4,v = .slice (some ⟨g4,0,none⟩) 8 c4:=(by obtain ⟨us,h1,_⟩:=gI;rw [hlen] at h1;exact ownsRow_succ h1))
 have hc4:w4.cell? ⟨w.heap.size,0,none⟩ = some (.slice none 0 0):=(hB4.cell (p:=⟨w.heap.size,0,none⟩) (by simp)).trans hc0;refine wp_loop_rounds 1 ?_;rw [rounds_succ];go_wp2;go_ret3
 exact ⟨hB0.out.trans (hB4.mono hB0.out.size),0,true,Tm.gQ 8,_,.inr (.inr (.inl ⟨rfl,_,Wp,fun i hi=>by simp,rfl,rfl,rfl⟩)),rfl,gI.mono hB0.out.size⟩
theorem Ws (ps:ah) (a:Option Addr) (cap:Nat) (w:World) (hP:aJ w.heap.size w a ps) (Di:ps.length≤40) (hok:∀ k,k < ps.length→Tm.err (ps[k]?.getD ([],[])).1 = 0∧Tm.err (ps[k]?.getD ([],[])).2 = 0) :
 Calls Tryz.prog 54 #[.slice a ps.length cap] w fun e w'=>EI ps w w' e:=by
 by_cases h0:0 < ps.length
 ·exact Ud ps a cap w hP Di h0 hok
 ·obtain rfl:ps = []:=List.eq_nil_of_length_eq_zero (by omega)
  exact Wq a cap w
theorem Ph (a b:List Int) (aa ab:Option Addr) (ca cb B:Nat) (W:World) (blk:W.heap[B]? = some (.cells #[.slice aa a.length ca,.slice ab b.length cb] 40)) (hA:Ints W.heap.size W aa a) (hB:Ints W.heap.size W ab b) (ha1:a.length≤ca) (ha2:ca≤maxLen) (hb1:b.length≤cb) (hb2:cb≤maxLen) (ea:Tm.err a = 0) (eb:Tm.err b = 0) :
 Calls Tryz.prog 54 #[.slice (some ⟨B,0,none⟩) 1 1] W fun e w'=>EI [(a,b)] W w' e:=by
 refine Ws [(a,b)] (some ⟨B,0,none⟩) 1 W (fun k hk=>?_) (by simp) (fun k hk=>?_)
 ·obtain rfl:k = 0:=by simp at hk;omega
  exact ⟨B,0,rfl,(Array.getElem?_eq_some_iff.1 blk).1,aa,ca,ab,cb,(aM blk 0).trans rfl,(aM blk 1).trans rfl,hA,hB,ha1,ha2,hb1,hb2⟩
 ·obtain rfl:k = 0:=by simp at hk;omega
  exact ⟨ea,eb⟩
theorem EJ (a b:List Int) (aa ab:Option Addr) (ca cb:Nat) (w:World) (hA:Ints w.heap.size w aa a) (hB:Ints w.heap.size w ab b) (ha1:a.length≤ca) (ha2:ca≤maxLen) (hb1:b.length≤cb) (hb2:cb≤maxLen) :
 Calls Tryz.prog 21 #[.slice aa a.length ca,.slice ab b.length cb] w fun e w'=>EI [(a,b)] w w' e:=by
 have hE:=kK a b aa ab ca cb w hA hB;rw [Tm.Ue] at hE;by_cases he:Tm.bV a b = 0
 ·obtain ⟨ea,eb⟩:=Tm.jN.1 he
  rw [he] at hE;have hBl:Below w.heap.size w (w.alloc (.cells #[.slice aa a.length ca,.slice ab b.length cb] 40)):=(Below.refl _ w).alloc (Nat.le_refl _) _;have hM:=hid (Ph a b aa ab ca cb w.heap.size _ (World.alloc_heap_new w _) ((hA.below hBl).mono hBl.size) ((hB.below hBl).mono hBl.size) ha1 ha2 hb1 hb2 ea eb);have HB:=hid hBl;clear hA hB hBl he ea eb;go_enter Tryz.func21,Tryz.ntmps21;go_wp2_with (go_at_call 39;refine hE.mono ?_;clear hE;rintro e w ⟨rfl,rfl⟩)
  refine hM.out.mono ?_;rintro e w2 ⟨hB2,er,is,val,v,hs,rfl,hS⟩;have Hs:=hid hs;have HS:=hid hS;obtain ⟨x,c,rfl,_⟩:=dG.subs hS;clear hM hs hS;go_wp2;go_ret3
  exact ⟨HB.out.trans (hB2.mono HB.out.size),er,is,val,_,Hs.out,rfl,HS.out.mono HB.out.size⟩
 ·have hne:(Tm.bV a b != 0) = true:=by simpa using he
  have hs:Hid (Tm.dQ [(a,b)] (Tm.bV a b) false []):=.inl ⟨by rw [Tm.kH];exact he,by rw [Tm.kH],rfl,rfl⟩;clear he hA hB;generalize Tm.bV a b = q at *;go_enter Tryz.func21,Tryz.ntmps21;go_wp2_with (go_at_call 39;refine hE.mono ?_;clear hE;rintro e w ⟨rfl,rfl⟩)
  go_ret3
  exact ⟨Below.refl _ _,q,false,[],_,hs.out,rfl,dG.nil _ _⟩
end Go.Proofs.YtglohanbpjaieaaGreat
