/-
  Parts of the proof: Clo21.
-/
import Derived.Test.YtglohanbpjaieaaGreatBct29
namespace Go.Proofs.YtglohanbpjaieaaGreat
open Go.Proofs Go.RowKit Go.Shelf Go.Maps
theorem step_olds_r {ops:Array Oper} {o:Oper} {a:Act} {K:Act→World→Prop} {Q:Exit→Act→World→Prop} {E:Prop} (w:World) (hgd:o.guard = none) (s x:Operand)
 (ho:o.op = .call { callee:=.builtin .append,args:=#[s,x],argTypes:=#[23,23] }) (sb eb:Nat) (hse:eb≤sb) (v:Value) (ps:PairL) (hs:a.eval s = v) (hN:NewX true 54 sb eb w v ps)
 (a2:Option Addr) (c2:Nat) (qs:PairL) (hx:a.eval x = .slice a2 qs.length c2) (hn:a2 = none→c2 = 0) (hM:RulesAt eb w a2 qs) (hew:eb≤w.heap.size) (hlen:ps.length+qs.length≤100000) (hbase:sb≤w.heap.size)
 (h:∀ v' w',NewX true 54 sb eb w' v' (ps++qs)→w.grownBy w' v.ownBlock→Below sb w w'→K (a.put o.dst v') w') :
 if Region.wanted o (yielded ops a.tmps) = true then Oper.wp Tryz.prog o a w K Q else E:=by
 have hwt:Region.wanted o (yielded ops a.tmps) = true:=by simp [Region.wanted,hgd]
 rw [if_pos hwt]
 obtain ⟨i0,hi,hz0,hz1,hz2⟩:=info_parts Tryz.info54
 obtain ⟨us,h1,h2⟩:=hN
 have hul:us.length = ps.length * 2:=h1.1
 cases a2 with
 | none =>
  have hc:=hn rfl
  obtain rfl:qs = []:=by
   cases qs with
   | nil=>rfl
   | cons q l=>obtain ⟨b,off,e,_⟩:=hM 0 (by simp);cases e
  subst hc
  have hrun:=run_append_owned_none (P:=Tryz.prog) (w:=w) sb 23 o.type 54 i0 2 Tryz.underlying23 hi v ps.length us h1
  have hx':a.eval x = .slice none 0 0:=hx
  unfold Oper.wp
  simp [execOp,ho,resolve,invoke,builtin,hs,hx',hrun,Result.andThen]
  exact h v w (by rw [List.append_nil];exact ⟨us,h1,h2⟩) ⟨rfl,rfl,rfl,Nat.le_refl _,fun _ _ _=>rfl⟩ (Below.refl _ _)
 | some ad =>
  obtain ⟨us',hu1,hu2,hu3,hu4⟩:=olds_cells hM
  refine wp_append_own w s x 23 ho sb 54 i0 (.agg #[.slice none 0 0,.slice none 0 0]) 2 48 Tryz.underlying23 hi hz0 hz1 hz2 rfl (by decide) v ps.length us hs h1 ad qs.length c2 us' hx hu1 hu2
   (by intro u hu;obtain ⟨_,_,_,rfl⟩:=hu3 u hu;rfl) (by unfold maxLen;omega) (by omega) hbase ?_
  intro v' w' hown hg _
  have hr:∀ k,v.ownBlock = some k→eb≤k∧∃ cs,w.heap[k]? = some (.cells cs 54 (0,0)):=fun k hk=>⟨Nat.le_trans hse (World.ownsRow.lt h1 k hk).1,own_type h1 hk⟩
  have hk:∀ {a:Option Addr} {zs:List Int},IntR true eb w a zs→IntR true eb w' a zs:=fun h=>h.grown (by decide) hg hr
  refine h v' w' ⟨us++us',by simpa using hown,fun j hj=>?_⟩ hg ((Below.refl sb w).grown hg hbase (fun k e=>(World.ownsRow.lt h1 k e).1))
  by_cases hjl:j < ps.length
  ·obtain ⟨y,yc,y',yc',q1,q2,n1,n2,r⟩:=h2 j hjl
   rw [List.getElem?_append_left hjl,List.getElem?_append_left (by omega),List.getElem?_append_left (by omega)]
   exact ⟨y,yc,y',yc',q1,q2,hk n1,hk n2,r⟩
  ·have hj2:j - ps.length < qs.length:=by rw [List.length_append] at hj;omega
   obtain ⟨y,yc,y',yc',q1,q2,n1,n2,r⟩:=hu4 (j - ps.length) hj2
   rw [List.getElem?_append_right (by omega),List.getElem?_append_right (by omega),List.getElem?_append_right (by omega),hul]
   rw [show j * 2 - ps.length * 2 = (j - ps.length) * 2 by omega,show j * 2+1 - ps.length * 2 = (j - ps.length) * 2+1 by omega]
   exact ⟨y,yc,y',yc',q1,q2,hk (IntR.old n1 hew (Below.refl _ _)),hk (IntR.old n2 hew (Below.refl _ _)),r⟩
theorem step_olds_p {ops:Array Oper} {o:Oper} {a:Act} {K:Act→World→Prop} {Q:Exit→Act→World→Prop} {E:Prop} (w:World) (hgd:o.guard = none) (s x:Operand)
 (ho:o.op = .call { callee:=.builtin .append,args:=#[s,x],argTypes:=#[24,24] }) (sb eb:Nat) (hse:eb≤sb) (v:Value) (ps:PairL) (hs:a.eval s = v) (hN:NewX true 40 sb eb w v ps)
 (a2:Option Addr) (c2:Nat) (qs:PairL) (hx:a.eval x = .slice a2 qs.length c2) (hn:a2 = none→c2 = 0) (hM:RulesAt eb w a2 qs) (hew:eb≤w.heap.size) (hlen:ps.length+qs.length≤100000) (hbase:sb≤w.heap.size)
 (h:∀ v' w',NewX true 40 sb eb w' v' (ps++qs)→w.grownBy w' v.ownBlock→Below sb w w'→K (a.put o.dst v') w') :
 if Region.wanted o (yielded ops a.tmps) = true then Oper.wp Tryz.prog o a w K Q else E:=by
 have hwt:Region.wanted o (yielded ops a.tmps) = true:=by simp [Region.wanted,hgd]
 rw [if_pos hwt]
 obtain ⟨i0,hi,hz0,hz1,hz2⟩:=info_parts Tryz.info40
 obtain ⟨us,h1,h2⟩:=hN
 have hul:us.length = ps.length * 2:=h1.1
 cases a2 with
 | none =>
  have hc:=hn rfl
  obtain rfl:qs = []:=by
   cases qs with
   | nil=>rfl
   | cons q l=>obtain ⟨b,off,e,_⟩:=hM 0 (by simp);cases e
  subst hc
  have hrun:=run_append_owned_none (P:=Tryz.prog) (w:=w) sb 24 o.type 40 i0 2 Tryz.underlying24 hi v ps.length us h1
  have hx':a.eval x = .slice none 0 0:=hx
  unfold Oper.wp
  simp [execOp,ho,resolve,invoke,builtin,hs,hx',hrun,Result.andThen]
  exact h v w (by rw [List.append_nil];exact ⟨us,h1,h2⟩) ⟨rfl,rfl,rfl,Nat.le_refl _,fun _ _ _=>rfl⟩ (Below.refl _ _)
 | some ad =>
  obtain ⟨us',hu1,hu2,hu3,hu4⟩:=olds_cells hM
  refine wp_append_own w s x 24 ho sb 40 i0 (.agg #[.slice none 0 0,.slice none 0 0]) 2 48 Tryz.underlying24 hi hz0 hz1 hz2 rfl (by decide) v ps.length us hs h1 ad qs.length c2 us' hx hu1 hu2
   (by intro u hu;obtain ⟨_,_,_,rfl⟩:=hu3 u hu;rfl) (by unfold maxLen;omega) (by omega) hbase ?_
  intro v' w' hown hg _
  have hr:∀ k,v.ownBlock = some k→eb≤k∧∃ cs,w.heap[k]? = some (.cells cs 40 (0,0)):=fun k hk=>⟨Nat.le_trans hse (World.ownsRow.lt h1 k hk).1,own_type h1 hk⟩
  have hk:∀ {a:Option Addr} {zs:List Int},IntR true eb w a zs→IntR true eb w' a zs:=fun h=>h.grown (by decide) hg hr
  refine h v' w' ⟨us++us',by simpa using hown,fun j hj=>?_⟩ hg ((Below.refl sb w).grown hg hbase (fun k e=>(World.ownsRow.lt h1 k e).1))
  by_cases hjl:j < ps.length
  ·obtain ⟨y,yc,y',yc',q1,q2,n1,n2,r⟩:=h2 j hjl
   rw [List.getElem?_append_left hjl,List.getElem?_append_left (by omega),List.getElem?_append_left (by omega)]
   exact ⟨y,yc,y',yc',q1,q2,hk n1,hk n2,r⟩
  ·have hj2:j - ps.length < qs.length:=by rw [List.length_append] at hj;omega
   obtain ⟨y,yc,y',yc',q1,q2,n1,n2,r⟩:=hu4 (j - ps.length) hj2
   rw [List.getElem?_append_right (by omega),List.getElem?_append_right (by omega),List.getElem?_append_right (by omega),hul]
   rw [show j * 2 - ps.length * 2 = (j - ps.length) * 2 by omega,show j * 2+1 - ps.length * 2 = (j - ps.length) * 2+1 by omega]
   exact ⟨y,yc,y',yc',q1,q2,hk (IntR.old n1 hew (Below.refl _ _)),hk (IntR.old n2 hew (Below.refl _ _)),r⟩
def SameW (V X:World):Prop:=V.heap = X.heap∧V.os = X.os∧V.tape = X.tape∧V.output = X.output
theorem SameW.below {b:Nat} {w X V:World} (h:SameW V X) (hB:Below b w X):Below b w V:=⟨h.2.1.trans hB.os,h.2.2.1.trans hB.tape,h.2.2.2.trans hB.output,by rw [h.1];exact hB.size,fun k hk=>by rw [h.1];exact hB.block k hk⟩
def Rdy (e:TypeId) (b:Nat) (w V:World) (B:Nat):Prop:=(V.heap[B]? = some (.cells #[] e (0,0))∧b≤B)∧Below b w V
theorem Rdy.lit {e:TypeId} {b B:Nat} {w V:World} (h:Rdy e b w V B):NewX true e b b V (.slice (some ⟨B,0,none⟩) 0 0) [] :=
 ⟨[],⟨rfl,.inr ⟨B,0,#[],rfl,h.1.2,h.1.1,Nat.le_refl _,by unfold maxLen;omega,rfl,rfl⟩⟩,fun j hj=>by simp at hj⟩
theorem Rdy.new (e:TypeId) {b:Nat} {w X:World} (h:Below b w X) (hb:b≤X.heap.size):Rdy e b w (X.alloc (.cells #[] e)) X.heap.size:=⟨⟨World.alloc_heap_new X _,hb⟩,h.alloc hb _⟩
theorem Rdy.alloc {e:TypeId} {b B:Nat} {w V:World} (h:Rdy e b w V B) (hb:b≤V.heap.size) (o:Obj):Rdy e b w (V.alloc o) B:=⟨⟨(Below.heap_alloc V o B (Array.getElem?_eq_some_iff.1 h.1.1).1).trans h.1.1,h.1.2⟩,h.2.alloc hb o⟩
theorem Rdy.same {e:TypeId} {b B:Nat} {w V X:World} (h:Rdy e b w X B) (hV:SameW V X):Rdy e b w V B:=⟨⟨by rw [hV.1];exact h.1.1,h.1.2⟩,hV.below h.2⟩
theorem step_rdy_r {ops:Array Oper} {o:Oper} {a:Act} {K:Act→World→Prop} {Q:Exit→Act→World→Prop} {E:Prop} (V:World) (hgd:o.guard = none) (s x:Operand)
 (ho:o.op = .call { callee:=.builtin .append,args:=#[s,x],argTypes:=#[23,23] }) (b B:Nat) (w:World) (hs:a.eval s = .slice (some ⟨B,0,none⟩) 0 0) (q:Rdy 54 b w V B)
 (a2:Option Addr) (c2:Nat) (qs:PairL) (hx:a.eval x = .slice a2 qs.length c2) (hn:a2 = none→c2 = 0) (hM:∀ V,Below b w V→RulesAt b V a2 qs) (hbw:b≤w.heap.size) (hlen:qs.length≤1000)
 (h:∀ v' w',NewX true 54 b b w' v' qs→(∀ v2 l2,NewX true 40 b b V v2 l2→NewX true 40 b b w' v2 l2)→(∀ C,Rdy 40 b w V C→Rdy 40 b w w' C)→Below b w w'→K (a.put o.dst v') w') :
 if Region.wanted o (yielded ops a.tmps) = true then Oper.wp Tryz.prog o a V K Q else E:=by
 have hbV:b≤V.heap.size:=Nat.le_trans hbw q.2.size
 refine step_olds_r V hgd s x ho b b (Nat.le_refl _) (.slice (some ⟨B,0,none⟩) 0 0) [] hs q.lit a2 c2 qs hx hn (hM V q.2) hbV (by simp;omega) hbV ?_
 intro v' w' hN hg hB
 have hr:∀ k,(Value.slice (some ⟨B,0,none⟩) 0 0).ownBlock = some k→b≤k∧∃ cs,V.heap[k]? = some (.cells cs 54 (0,0)):=fun k hk=>by
  cases hk
  exact ⟨q.1.2,_,q.1.1⟩
 refine h v' w' (by rwa [List.nil_append] at hN) (fun v2 l2 h2=>h2.grown (e':=54) (by decide) hg fun k hk=>⟨(hr k hk).1,(hr k hk).2,fun e1=>?_⟩) (fun C hC=>⟨⟨(hg.block C (Array.getElem?_eq_some_iff.1 hC.1.1).1 fun e1=>?_).trans hC.1.1,hC.1.2⟩,q.2.trans hB⟩) (q.2.trans hB)
 ·obtain ⟨_,_,cs,hc⟩:=h2.block e1
  obtain ⟨cs',hc'⟩:=(hr k hk).2
  rw [hc] at hc'
  simp only [Option.some.injEq,Obj.cells.injEq] at hc'
  exact absurd hc'.2.1 (by decide)
 ·cases e1
  have h1:=hC.1.1
  rw [q.1.1] at h1
  simp only [Option.some.injEq,Obj.cells.injEq] at h1
  exact absurd h1.2.1 (by decide)
theorem step_rdy_p {ops:Array Oper} {o:Oper} {a:Act} {K:Act→World→Prop} {Q:Exit→Act→World→Prop} {E:Prop} (V:World) (hgd:o.guard = none) (s x:Operand)
 (ho:o.op = .call { callee:=.builtin .append,args:=#[s,x],argTypes:=#[24,24] }) (b B:Nat) (w:World) (hs:a.eval s = .slice (some ⟨B,0,none⟩) 0 0) (q:Rdy 40 b w V B)
 (a2:Option Addr) (c2:Nat) (qs:PairL) (hx:a.eval x = .slice a2 qs.length c2) (hn:a2 = none→c2 = 0) (hM:∀ V,Below b w V→RulesAt b V a2 qs) (hbw:b≤w.heap.size) (hlen:qs.length≤1000)
 (h:∀ v' w',NewX true 40 b b w' v' qs→(∀ v2 l2,NewX true 54 b b V v2 l2→NewX true 54 b b w' v2 l2)→(∀ C,Rdy 54 b w V C→Rdy 54 b w w' C)→Below b w w'→K (a.put o.dst v') w') :
 if Region.wanted o (yielded ops a.tmps) = true then Oper.wp Tryz.prog o a V K Q else E:=by
 have hbV:b≤V.heap.size:=Nat.le_trans hbw q.2.size
 refine step_olds_p V hgd s x ho b b (Nat.le_refl _) (.slice (some ⟨B,0,none⟩) 0 0) [] hs q.lit a2 c2 qs hx hn (hM V q.2) hbV (by simp;omega) hbV ?_
 intro v' w' hN hg hB
 have hr:∀ k,(Value.slice (some ⟨B,0,none⟩) 0 0).ownBlock = some k→b≤k∧∃ cs,V.heap[k]? = some (.cells cs 40 (0,0)):=fun k hk=>by
  cases hk
  exact ⟨q.1.2,_,q.1.1⟩
 refine h v' w' (by rwa [List.nil_append] at hN) (fun v2 l2 h2=>h2.grown (e':=40) (by decide) hg fun k hk=>⟨(hr k hk).1,(hr k hk).2,fun e1=>?_⟩) (fun C hC=>⟨⟨(hg.block C (Array.getElem?_eq_some_iff.1 hC.1.1).1 fun e1=>?_).trans hC.1.1,hC.1.2⟩,q.2.trans hB⟩) (q.2.trans hB)
 ·obtain ⟨_,_,cs,hc⟩:=h2.block e1
  obtain ⟨cs',hc'⟩:=(hr k hk).2
  rw [hc] at hc'
  simp only [Option.some.injEq,Obj.cells.injEq] at hc'
  exact absurd hc'.2.1 (by decide)
 ·cases e1
  have h1:=hC.1.1
  rw [q.1.1] at h1
  simp only [Option.some.injEq,Obj.cells.injEq] at h1
  exact absurd h1.2.1 (by decide)
end Go.Proofs.YtglohanbpjaieaaGreat
