/-
  Parts of the proof: Clo1.
-/
import Derived.Deep.AppendLies
import Derived.Test.YtglohanbpjaieaaGreatBru16
namespace Go.Proofs.YtglohanbpjaieaaGreat
open Go.Proofs Go.RowKit Go.Shelf Go.Maps
theorem og {W W':World} {base:Nat} {e:TypeId} {size:Nat} {v:Value} {n:Nat} {xs:List Value} (h:W.ownsRow base e size v n xs) (hk:∀ q,v.ownBlock = some q→W'.heap[q]? = W.heap[q]?):W'.ownsRow base e size v n xs:=by
 refine ⟨h.1,?_⟩;rcases h.2 with h1 | ⟨g,cap,cur,rfl,h2,h3,h4⟩
 ·exact .inl h1
 ·exact .inr ⟨g,cap,cur,rfl,h2,(hk g rfl).trans h3,h4⟩
theorem ji {W:World} {base:Nat} {e:TypeId} {size:Nat} {v:Value} {n:Nat} {xs:List Value} (h:W.ownsRow base e size v n xs) {q:Nat} (hq:v.ownBlock = some q):∃ cur,W.heap[q]? = some (.cells cur e (0,0)):=by
 rcases h.2 with ⟨rfl,_⟩ | ⟨g,cap,cur,rfl,h2,h3,h4⟩
 ·cases hq
 ·cases hq;exact ⟨cur,h3⟩
def bX (fl:Bool) (base:Nat) (W:World) (a:Option Addr) (zs:List Int):Prop:=∀ j,j < zs.length→∃ b off,a = some ⟨b,off,none⟩∧((fl = true∧b < base)∨((fl = true∨(base≤b∧∃ cs,W.heap[b]? = some (.cells cs 3 (0,0))))∧∃ cs p,W.heap[b]? = some (.cells cs 3 p)))∧b < W.heap.size∧W.cell? ⟨b,off+j,none⟩ = some (.int .i64 (zs[j]?.getD 0))
theorem bX.ints {fl:Bool} {base:Nat} {W:World} {a:Option Addr} {zs:List Int} (h:bX fl base W a zs):Ints W.heap.size W a zs:=fun j hj=>by
 obtain ⟨b,off,e,_,hb,hc⟩:=h j hj;exact ⟨b,off,e,hb,hc⟩
theorem bX.keep {fl:Bool} {base:Nat} {W W':World} {a:Option Addr} {zs:List Int} (h:bX fl base W a zs) (hs:W.heap.size≤W'.heap.size) (hk:∀ b,b < W.heap.size→(b < base∨∃ cs p,W.heap[b]? = some (.cells cs 3 p))→W'.heap[b]? = W.heap[b]?):bX fl base W' a zs:=fun j hj=>by
 obtain ⟨b,off,e,hor,hlt,hc⟩:=h j hj;have hb:=hk b hlt (hor.imp And.right And.right);exact ⟨b,off,e,hor.imp id (fun ⟨h0,cs,p,h⟩=>⟨h0.imp id (fun ⟨h1,cs',h2⟩=>⟨h1,cs',hb.trans h2⟩),cs,p,hb.trans h⟩),by omega,(World.cell?_of_block (a:=⟨b,off+j,none⟩) hb).trans hc⟩
theorem bX.below {fl:Bool} {base:Nat} {W W':World} {a:Option Addr} {zs:List Int} (h:bX fl base W a zs) (hB:Below W.heap.size W W'):bX fl base W' a zs:=h.keep hB.size fun b hb _=>hB.block b hb
theorem bX.old {base:Nat} {w W:World} {a:Option Addr} {zs:List Int} (h:Ints base w a zs) (hw:base≤W.heap.size) (hB:Below base w W):bX true base W a zs:=fun j hj=>by
 obtain ⟨b,off,e,hb,hc⟩:=h j hj;exact ⟨b,off,e,.inl ⟨rfl,hb⟩,by omega,(hB.cell (p:=⟨b,off+j,none⟩) hb).trans hc⟩
theorem bX.new {fl:Bool} {base b2:Nat} {W:World} {v:Value} {zs:List Int} (h:New b2 W v zs) (hb2:fl = true∨base≤b2):∃ a c,v = .slice a zs.length c∧bX fl base W a zs∧zs.length≤c∧c≤maxLen:=by
 rcases h.2 with ⟨rfl,hn⟩ | ⟨g,cap,cur,rfl,hb,hg,h1,h2,h3,h4⟩
 ·exact ⟨none,0,by rw [hn],fun j hj=>by omega,by omega,by unfold maxLen;omega⟩
 ·refine ⟨_,cap,rfl,fun j hj=>⟨g,0,rfl,.inr ⟨hb2.imp id (fun h=>⟨Nat.le_trans h hb,cur,hg⟩),cur,_,hg⟩,(Array.getElem?_eq_some_iff.1 hg).1,?_⟩,h1,h2⟩
  have:=World.ownsRow.cellAt (xs:=zs.map (Value.int .i64)) h j (by omega)
  rw [Nat.zero_add,this];simp [hj]
theorem bX.grown {fl:Bool} {base:Nat} {W W':World} {a:Option Addr} {zs:List Int} {row:Option Nat} {e:TypeId} (h:bX fl base W a zs) (he:e≠3) (hg:W.grownBy W' row) (hr:∀ k,row = some k→base≤k∧∃ cs,W.heap[k]? = some (.cells cs e (0,0))):bX fl base W' a zs :=
 h.keep hg.size fun b hb hor=>hg.block b hb fun e'=>by
  obtain ⟨h1,cs,h2⟩:=hr b e'.symm;rcases hor with h | ⟨cs',p',h'⟩
  ·omega
  ·rw [h'] at h2
   simp only [Option.some.injEq,Obj.cells.injEq] at h2;exact he h2.2.1.symm
def aU (fl:Bool) (e:TypeId) (sb eb:Nat) (W:World) (v:Value) (ps:ah):Prop :=
 ∃ us:List Value,W.ownsRow sb e 2 v ps.length us∧∀ j,j < ps.length→∃ aL cL aR cR,us[j * 2]? = some (.slice aL (ps[j]?.getD ([],[])).1.length cL)∧us[j * 2+1]? = some (.slice aR (ps[j]?.getD ([],[])).2.length cR)∧bX fl eb W aL (ps[j]?.getD ([],[])).1∧bX fl eb W aR (ps[j]?.getD ([],[])).2∧(ps[j]?.getD ([],[])).1.length≤cL∧cL≤maxLen∧(ps[j]?.getD ([],[])).2.length≤cR∧cR≤maxLen
theorem aU.nil {fl:Bool} (e:TypeId) (sb eb:Nat) (W:World):aU fl e sb eb W (.slice none 0 0) []:=⟨[],World.ownsRow_nil _ _ _ _,fun j hj=>by simp at hj⟩
theorem aU.slice {fl:Bool} {e:TypeId} {sb eb:Nat} {W:World} {v:Value} {ps:ah} (h:aU fl e sb eb W v ps):∃ a cap,v = .slice a ps.length cap:=by
 obtain ⟨us,h1,_⟩:=h;rcases h1.2 with ⟨rfl,h0⟩ | ⟨g,cap,cur,rfl,_⟩
 ·exact ⟨none,0,by rw [h0]⟩
 ·exact ⟨_,_,rfl⟩
theorem aU.block {fl:Bool} {e:TypeId} {sb eb:Nat} {W:World} {v:Value} {ps:ah} (h:aU fl e sb eb W v ps) {k:Nat} (hk:v.ownBlock = some k):sb≤k∧k < W.heap.size∧∃ cs,W.heap[k]? = some (.cells cs e (0,0)):=by
 obtain ⟨us,h1,_⟩:=h;obtain ⟨cs,hc⟩:=ji h1 hk;exact ⟨(World.ownsRow.lt h1 k hk).1,(World.ownsRow.lt h1 k hk).2,cs,hc⟩
theorem aU.keep {fl:Bool} {e:TypeId} {sb eb:Nat} {W W':World} {v:Value} {ps:ah} (h:aU fl e sb eb W v ps) (hs:W.heap.size≤W'.heap.size) (h0:∀ q,v.ownBlock = some q→W'.heap[q]? = W.heap[q]?) (hk:∀ b,b < W.heap.size→(b < eb∨∃ cs p,W.heap[b]? = some (.cells cs 3 p))→W'.heap[b]? = W.heap[b]?):aU fl e sb eb W' v ps:=by
 obtain ⟨us,h1,h2⟩:=h;refine ⟨us,og h1 h0,fun j hj=>?_⟩;obtain ⟨aL,cL,aR,cR,a,b,c,d,r⟩:=h2 j hj;exact ⟨aL,cL,aR,cR,a,b,c.keep hs hk,d.keep hs hk,r⟩
theorem aU.below {fl:Bool} {e:TypeId} {sb eb:Nat} {W W':World} {v:Value} {ps:ah} (h:aU fl e sb eb W v ps) (hB:Below W.heap.size W W'):aU fl e sb eb W' v ps :=
 h.keep hB.size (fun q hq=>hB.block q (h.block hq).2.1) fun b hb _=>hB.block b hb
theorem aU.grown {fl:Bool} {e e':TypeId} {sb eb:Nat} {W W':World} {v:Value} {ps:ah} {row:Option Nat} (h:aU fl e sb eb W v ps) (he:e'≠3) (hg:W.grownBy W' row) (hr:∀ k,row = some k→eb≤k∧(∃ cs,W.heap[k]? = some (.cells cs e' (0,0)))∧v.ownBlock≠some k):aU fl e sb eb W' v ps :=
 h.keep hg.size (fun q hq=>hg.block q (h.block hq).2.1 fun e1=>(hr q e1.symm).2.2 hq) fun b hb hor=>hg.block b hb fun e1=>by
  obtain ⟨h1,⟨cs,h2⟩,_⟩:=hr b e1.symm;rcases hor with h | ⟨cs',p',h'⟩
  ·omega
  ·rw [h'] at h2
   simp only [Option.some.injEq,Obj.cells.injEq] at h2;exact he h2.2.1.symm
theorem aU.mono {fl:Bool} {e:TypeId} {sb sb' eb:Nat} {W:World} {v:Value} {ps:ah} (h:aU fl e sb eb W v ps) (hb:sb'≤sb):aU fl e sb' eb W v ps:=by
 obtain ⟨us,h1,h2⟩:=h;exact ⟨us,⟨h1.1,h1.2.elim .inl (fun ⟨g,cap,cur,e1,e2,e3⟩=>.inr ⟨g,cap,cur,e1,Nat.le_trans hb e2,e3⟩)⟩,h2⟩
theorem aU.at {fl:Bool} {e:TypeId} {sb eb:Nat} {W:World} {v:Value} {ps:ah} (h:aU fl e sb eb W v ps):∃ a cap,v = .slice a ps.length cap∧aJ W.heap.size W a ps∧ps.length≤cap∧cap≤maxLen:=by
 obtain ⟨us,h1,h2⟩:=h;have hl:us.length = ps.length * 2:=h1.1;rcases h1.2 with ⟨rfl,hn⟩ | ⟨g,cap,cur,rfl,hb,hgb,q1,q2,_⟩
 ·refine ⟨none,0,by rw [hn],fun k hk=>by omega,by omega,by unfold maxLen;omega⟩
 ·refine ⟨_,cap,rfl,fun j hj=>?_,q1,q2⟩
  obtain ⟨a1,c1,a2,c2,p1,p2,i1,i2,m1,LZ,m2,L6⟩:=h2 j hj;have cc:=fun k hk=>World.ownsRow.cellAt h1 k hk
  exact ⟨g,0,rfl,(Array.getElem?_eq_some_iff.1 hgb).1,a1,c1,a2,c2,by rw [Nat.zero_add,cc _ (by omega),p1],by rw [Nat.zero_add,cc _ (by omega),p2],i1.ints,i2.ints,m1,LZ,m2,L6⟩
theorem aU.elem {fl:Bool} {e:TypeId} {sb eb:Nat} {W:World} {v:Value} {ps:ah} (h:aU fl e sb eb W v ps) {k:Nat} (hk:k < ps.length):∃ g cap aL cL aR cR,v = .slice (some ⟨g,0,none⟩) ps.length cap∧g < W.heap.size∧W.cell? ⟨g,0+k * 2,none⟩ = some (.slice aL (ps[k]?.getD ([],[])).1.length cL)∧W.cell? ⟨g,0+k * 2+1,none⟩ = some (.slice aR (ps[k]?.getD ([],[])).2.length cR) ∧
 bX fl eb W aL (ps[k]?.getD ([],[])).1∧bX fl eb W aR (ps[k]?.getD ([],[])).2∧(ps[k]?.getD ([],[])).1.length≤cL∧cL≤maxLen∧(ps[k]?.getD ([],[])).2.length≤cR∧cR≤maxLen:=by
 obtain ⟨us,h1,h2⟩:=h;have hl:us.length = ps.length * 2:=h1.1;obtain ⟨aL,cL,aR,cR,a,b,c,d,r⟩:=h2 k hk;rcases h1.2 with ⟨rfl,hn⟩ | ⟨g,cap,cur,rfl,hb,hgb,q1,q2,_⟩
 ·omega
 ·have cc:=fun k hk=>World.ownsRow.cellAt h1 k hk
  exact ⟨g,cap,aL,cL,aR,cR,rfl,(Array.getElem?_eq_some_iff.1 hgb).1,by rw [Nat.zero_add,cc _ (by omega),a],by rw [Nat.zero_add,cc _ (by omega),b],c,d,r⟩
theorem aU.snoc {fl:Bool} {e:TypeId} {sb eb:Nat} {w w':World} {v v':Value} {ps:ah} {aL aR:Option Addr} {cL cR:Nat} {t t2:List Int} (he:e≠3) (hse:eb≤sb) (hg:w.grownBy w' v.ownBlock) (h1:bX fl eb w aL t) (h2:bX fl eb w aR t2) (c1:t.length≤cL) (c2:cL≤maxLen) (c3:t2.length≤cR) (c4:cR≤maxLen)
 {us:List Value} (qh:w.ownsRow sb e 2 v ps.length us) (hcl:∀ j,j < ps.length→∃ aL cL aR cR,us[j * 2]? = some (.slice aL (ps[j]?.getD ([],[])).1.length cL)∧us[j * 2+1]? = some (.slice aR (ps[j]?.getD ([],[])).2.length cR)∧bX fl eb w aL (ps[j]?.getD ([],[])).1∧bX fl eb w aR (ps[j]?.getD ([],[])).2∧(ps[j]?.getD ([],[])).1.length≤cL∧cL≤maxLen∧(ps[j]?.getD ([],[])).2.length≤cR∧cR≤maxLen)
 (hown:w'.ownsRow sb e 2 v' (ps.length+1) (us++[.slice aL t.length cL,.slice aR t2.length cR])):aU fl e sb eb w' v' (ps++[(t,t2)]):=by
 have zi:us.length = ps.length * 2:=qh.1;have hr:∀ k,v.ownBlock = some k→eb≤k∧∃ cs,w.heap[k]? = some (.cells cs e (0,0)):=fun k hk=>⟨Nat.le_trans hse (World.ownsRow.lt qh k hk).1,ji qh hk⟩
 have hk:∀ {a:Option Addr} {zs:List Int},bX fl eb w a zs→bX fl eb w' a zs:=fun h=>h.grown he hg hr
 refine ⟨us++[.slice aL t.length cL,.slice aR t2.length cR],by simpa using hown,fun j hj=>?_⟩;by_cases hjl:j < ps.length
 ·obtain ⟨y,yc,y',ry,q1,q2,n1,n2,r⟩:=hcl j hjl
  rw [List.getElem?_append_left hjl,List.getElem?_append_left (by omega),List.getElem?_append_left (by omega)];exact ⟨y,yc,y',ry,q1,q2,hk n1,hk n2,r⟩
 ·have Eh:j = ps.length:=by simp at hj;omega
  subst Eh;rw [List.getElem?_append_right (Nat.le_refl _),List.getElem?_append_right (by omega),List.getElem?_append_right (by omega),zi];exact ⟨aL,cL,aR,cR,by simp,by simp,by simpa using hk h1,by simpa using hk h2,by simpa using c1,c2,by simpa using c3,c4⟩
theorem Tryz.Em:(Tryz.prog.info? 54).map (fun i=>(i.zero,i.size,i.bytes)) = some (some (.agg #[.slice none 0 0,.slice none 0 0]),2,48):=by kernel_rfl
theorem Mc {fl:Bool} {ops:Array Oper} {o:Oper} {a:Act} {K:Act→World→Prop} {Q:Exit→Act→World→Prop} {E:Prop} (w:World) (hgd:o.guard = none) (s x:Operand)
 (ho:o.op = .call { callee:=.builtin .append,args:=#[s,x],argTypes:=#[23,23] }) (sb eb:Nat) (hse:eb≤sb) (v:Value) (ps:ah) (hs:a.eval s = v) (hN:aU fl 54 sb eb w v ps)
 (B:Nat) (aL aR:Option Addr) (t t2:List Int) (cL cR:Nat) (hx:a.eval x = .slice (some ⟨B,0,none⟩) 1 1) (hB0:w.cell? ⟨B,0,none⟩ = some (.slice aL t.length cL)) (hB1:w.cell? ⟨B,1,none⟩ = some (.slice aR t2.length cR)) (h1:bX fl eb w aL t) (h2:bX fl eb w aR t2) (c1:t.length≤cL) (c2:cL≤maxLen) (c3:t2.length≤cR) (c4:cR≤maxLen) (hlen:ps.length≤1000000) (hbase:sb≤w.heap.size)
 (h:∀ g c' w',aU fl 54 sb eb w' (.slice (some ⟨g,0,none⟩) (ps.length+1) c') (ps++[(t,t2)])→w.grownBy w' v.ownBlock→Below sb w w'→K (a.put o.dst (.slice (some ⟨g,0,none⟩) (ps.length+1) c')) w') :
 if Region.wanted o (yielded ops a.tmps) = true then Oper.wp Tryz.prog o a w K Q else E:=by
 obtain ⟨i0,hi,hz0,hz1,hz2⟩:=info_parts Tryz.Em;obtain ⟨us,qh,hcl⟩:=hN;refine step_append_lies w hgd s x 23 ho sb 54 i0 (.agg #[.slice none 0 0,.slice none 0 0]) 2 48 Tryz.underlying23 hi hz0 hz1 hz2 rfl (by decide) v ps.length us hs qh ⟨B,0,none⟩ 1 1 [.slice aL t.length cL,.slice aR t2.length cR] hx (by simp)
  (by intro j z hj
      match j,hj with
      | 0,hj=>simp at hj;subst hj;rw [Go.WideShapes.add_plain];simpa using hB0
      | 1,hj=>simp at hj;subst hj;rw [Go.WideShapes.add_plain];simpa using hB1)
  (by intro u hu;simp at hu;rcases hu with rfl | rfl <;> rfl) (by decide) (by unfold maxLen;omega) (by omega) hbase w.heap.size rfl ?_
 intro g c' w' hown hg _ _;exact h g c' w' (aU.snoc (by decide) hse hg h1 h2 c1 c2 c3 c4 qh hcl hown) hg ((Below.refl sb w).grown hg hbase fun k e=>(World.ownsRow.lt qh k e).1)
theorem oh {fl:Bool} {ops:Array Oper} {rest:List Oper} {o:Oper} {a:Act} {Q:Exit→Act→World→Prop} (w:World) (hgd:o.guard = none) (s x:Operand)
 (ho:o.op = .call { callee:=.builtin .append,args:=#[s,x],argTypes:=#[23,23] }) (sb eb:Nat) (hse:eb≤sb) (v:Value) (ps:ah) (hs:a.eval s = v) (hN:aU fl 54 sb eb w v ps)
 (B:Nat) (aL aR:Option Addr) (t t2:List Int) (cL cR:Nat) (hx:a.eval x = .slice (some ⟨B,0,none⟩) 1 1) (hB0:w.cell? ⟨B,0,none⟩ = some (.slice aL t.length cL)) (hB1:w.cell? ⟨B,1,none⟩ = some (.slice aR t2.length cR)) (h1:bX fl eb w aL t) (h2:bX fl eb w aR t2) (c1:t.length≤cL) (c2:cL≤maxLen) (c3:t2.length≤cR) (c4:cR≤maxLen) (hlen:ps.length≤1000000) (hbase:sb≤w.heap.size)
 (h:∀ g c' w',aU fl 54 sb eb w' (.slice (some ⟨g,0,none⟩) (ps.length+1) c') (ps++[(t,t2)])→w.grownBy w' v.ownBlock→Below sb w w'→wpList Tryz.prog ops Q rest (a.put o.dst (.slice (some ⟨g,0,none⟩) (ps.length+1) c')) w'):wpList Tryz.prog ops Q (o :: rest) a w:=by
 obtain ⟨i0,hi,hz0,hz1,hz2⟩:=info_parts Tryz.Em;obtain ⟨us,qh,hcl⟩:=hN;refine wpList_append_own w hgd s x 23 ho sb 54 i0 (.agg #[.slice none 0 0,.slice none 0 0]) 2 48 Tryz.underlying23 hi hz0 hz1 hz2 rfl (by decide) v ps.length us hs qh ⟨B,0,none⟩ 1 1 [.slice aL t.length cL,.slice aR t2.length cR] hx (by simp)
  (by intro j z hj
      match j,hj with
      | 0,hj=>simp at hj;subst hj;rw [Go.WideShapes.add_plain];simpa using hB0
      | 1,hj=>simp at hj;subst hj;rw [Go.WideShapes.add_plain];simpa using hB1)
  (by intro u hu;simp at hu;rcases hu with rfl | rfl <;> rfl) (by unfold maxLen;omega) (by omega) hbase ?_
 intro v' w' hown hg _;obtain ⟨g,c',rfl⟩:=ownsRow_succ hown;exact h g c' w' (aU.snoc (by decide) hse hg h1 h2 c1 c2 c3 c4 qh hcl hown) hg ((Below.refl sb w).grown hg hbase fun k e=>(World.ownsRow.lt qh k e).1)
theorem aaX {fl:Bool} {ops:Array Oper} {rest:List Oper} {o:Oper} {a:Act} {Q:Exit→Act→World→Prop} (w:World) (hgd:o.guard = none) (s x:Operand)
 (ho:o.op = .call { callee:=.builtin .append,args:=#[s,x],argTypes:=#[23,23] }) (sb eb:Nat) (hse:eb≤sb) (v:Value) (ps:ah) (hs:a.eval s = v) (hN:aU fl 54 sb eb w v ps)
 (v2:Value) (qs:ah) (hx:a.eval x = v2) (sb2:Nat) (hM:aU fl 54 sb2 eb w v2 qs) (hlen:ps.length+qs.length≤100000) (hbase:sb≤w.heap.size)
 (h:∀ v' w',aU fl 54 sb eb w' v' (ps++qs)→w.grownBy w' v.ownBlock→Below sb w w'→wpList Tryz.prog ops Q rest (a.put o.dst v') w'):wpList Tryz.prog ops Q (o :: rest) a w:=by
 obtain ⟨i0,hi,hz0,hz1,hz2⟩:=info_parts Tryz.Em;obtain ⟨us,h1,h2⟩:=hN;obtain ⟨qI,m1,m2⟩:=hM;have zi:us.length = ps.length * 2:=h1.1;have VD:qI.length = qs.length * 2:=m1.1;have hcell:∀ u∈qI,∃ a n c,u = .slice a n c:=fun u hu=>by
  obtain ⟨k,hk,e⟩:=List.getElem_of_mem hu;have hk2:k / 2 < qs.length:=by omega
  obtain ⟨y,yc,y',ry,q1,q2,_⟩:=m2 (k / 2) hk2;rcases Nat.mod_two_eq_zero_or_one k with h0 | h0
  ·rw [show k / 2 * 2 = k by omega,List.getElem?_eq_getElem hk,e] at q1
   cases q1;exact ⟨_,_,_,rfl⟩
  ·rw [show k / 2 * 2+1 = k by omega,List.getElem?_eq_getElem hk,e] at q2
   cases q2;exact ⟨_,_,_,rfl⟩
 rcases m1.2 with ⟨rfl,hn⟩ | ⟨g,cap,cur,rfl,hb,hgb,r1,r2,r3⟩
 ·obtain rfl:qs = []:=List.eq_nil_of_length_eq_zero hn
  refine wpList_append_own_none hgd s x 23 ho sb 54 i0 2 Tryz.underlying23 hi v ps.length us hs h1 hx (h v w (by rw [List.append_nil];exact ⟨us,h1,h2⟩) ⟨rfl,rfl,rfl,Nat.le_refl _,fun _ _ _=>rfl⟩ (Below.refl _ _))
 ·refine wpList_append_own w hgd s x 23 ho sb 54 i0 (.agg #[.slice none 0 0,.slice none 0 0]) 2 48 Tryz.underlying23 hi hz0 hz1 hz2 rfl (by decide) v ps.length us hs h1 ⟨g,0,none⟩ qs.length cap qI hx (by omega)
   (by intro j z hj
       have hjl:j < qs.length * 2:=by
        have:=(List.getElem?_eq_some_iff.1 hj).1
        omega
       rw [Go.WideShapes.add_plain];have:=World.ownsRow.cellAt m1 j hjl
       rw [hj] at this;simpa using this)
   (by intro u hu;obtain ⟨_,_,_,rfl⟩:=hcell u hu;rfl) (by unfold maxLen;omega) (by omega) hbase ?_
  intro v' w' hown hg _;have hr:∀ k,v.ownBlock = some k→eb≤k∧∃ cs,w.heap[k]? = some (.cells cs 54 (0,0)):=fun k hk=>⟨Nat.le_trans hse (World.ownsRow.lt h1 k hk).1,ji h1 hk⟩
  have hk:∀ {a:Option Addr} {zs:List Int},bX fl eb w a zs→bX fl eb w' a zs:=fun h=>h.grown (by decide) hg hr
  refine h v' w' ⟨us++qI,by simpa using hown,fun j hj=>?_⟩ hg ((Below.refl sb w).grown hg hbase (fun k e=>(World.ownsRow.lt h1 k e).1));by_cases hjl:j < ps.length
  ·obtain ⟨y,yc,y',ry,q1,q2,n1,n2,r⟩:=h2 j hjl
   rw [List.getElem?_append_left hjl,List.getElem?_append_left (by omega),List.getElem?_append_left (by omega)];exact ⟨y,yc,y',ry,q1,q2,hk n1,hk n2,r⟩
  ·have hj2:j - ps.length < qs.length:=by rw [List.length_append] at hj;omega
   obtain ⟨y,yc,y',ry,q1,q2,n1,n2,r⟩:=m2 (j - ps.length) hj2;rw [List.getElem?_append_right (by omega),List.getElem?_append_right (by omega),List.getElem?_append_right (by omega),zi];rw [show j * 2 - ps.length * 2 = (j - ps.length) * 2 by omega,show j * 2+1 - ps.length * 2 = (j - ps.length) * 2+1 by omega];exact ⟨y,yc,y',ry,q1,q2,hk n1,hk n2,r⟩
theorem En {fl:Bool} {ops:Array Oper} {o:Oper} {a:Act} {K:Act→World→Prop} {Q:Exit→Act→World→Prop} {E:Prop} (w:World) (hgd:o.guard = none) (s x:Operand)
 (ho:o.op = .call { callee:=.builtin .append,args:=#[s,x],argTypes:=#[24,24] }) (sb eb:Nat) (hse:eb≤sb) (v:Value) (ps:ah) (hs:a.eval s = v) (hN:aU fl 40 sb eb w v ps)
 (B:Nat) (aL aR:Option Addr) (t t2:List Int) (cL cR:Nat) (hx:a.eval x = .slice (some ⟨B,0,none⟩) 1 1) (hB0:w.cell? ⟨B,0,none⟩ = some (.slice aL t.length cL)) (hB1:w.cell? ⟨B,1,none⟩ = some (.slice aR t2.length cR)) (h1:bX fl eb w aL t) (h2:bX fl eb w aR t2) (c1:t.length≤cL) (c2:cL≤maxLen) (c3:t2.length≤cR) (c4:cR≤maxLen) (hlen:ps.length≤1000000) (hbase:sb≤w.heap.size)
 (h:∀ g c' w',aU fl 40 sb eb w' (.slice (some ⟨g,0,none⟩) (ps.length+1) c') (ps++[(t,t2)])→w.grownBy w' v.ownBlock→Below sb w w'→K (a.put o.dst (.slice (some ⟨g,0,none⟩) (ps.length+1) c')) w') :
 if Region.wanted o (yielded ops a.tmps) = true then Oper.wp Tryz.prog o a w K Q else E:=by
 obtain ⟨i0,hi,hz0,hz1,hz2⟩:=info_parts Tryz.mH;obtain ⟨us,qh,hcl⟩:=hN;refine step_append_lies w hgd s x 24 ho sb 40 i0 (.agg #[.slice none 0 0,.slice none 0 0]) 2 48 Tryz.underlying24 hi hz0 hz1 hz2 rfl (by decide) v ps.length us hs qh ⟨B,0,none⟩ 1 1 [.slice aL t.length cL,.slice aR t2.length cR] hx (by simp)
  (by intro j z hj
      match j,hj with
      | 0,hj=>simp at hj;subst hj;rw [Go.WideShapes.add_plain];simpa using hB0
      | 1,hj=>simp at hj;subst hj;rw [Go.WideShapes.add_plain];simpa using hB1)
  (by intro u hu;simp at hu;rcases hu with rfl | rfl <;> rfl) (by decide) (by unfold maxLen;omega) (by omega) hbase w.heap.size rfl ?_
 intro g c' w' hown hg _ _;exact h g c' w' (aU.snoc (by decide) hse hg h1 h2 c1 c2 c3 c4 qh hcl hown) hg ((Below.refl sb w).grown hg hbase fun k e=>(World.ownsRow.lt qh k e).1)
theorem Ta {fl:Bool} {ops:Array Oper} {rest:List Oper} {o:Oper} {a:Act} {Q:Exit→Act→World→Prop} (w:World) (hgd:o.guard = none) (s x:Operand)
 (ho:o.op = .call { callee:=.builtin .append,args:=#[s,x],argTypes:=#[24,24] }) (sb eb:Nat) (hse:eb≤sb) (v:Value) (ps:ah) (hs:a.eval s = v) (hN:aU fl 40 sb eb w v ps)
 (B:Nat) (aL aR:Option Addr) (t t2:List Int) (cL cR:Nat) (hx:a.eval x = .slice (some ⟨B,0,none⟩) 1 1) (hB0:w.cell? ⟨B,0,none⟩ = some (.slice aL t.length cL)) (hB1:w.cell? ⟨B,1,none⟩ = some (.slice aR t2.length cR)) (h1:bX fl eb w aL t) (h2:bX fl eb w aR t2) (c1:t.length≤cL) (c2:cL≤maxLen) (c3:t2.length≤cR) (c4:cR≤maxLen) (hlen:ps.length≤1000000) (hbase:sb≤w.heap.size)
 (h:∀ g c' w',aU fl 40 sb eb w' (.slice (some ⟨g,0,none⟩) (ps.length+1) c') (ps++[(t,t2)])→w.grownBy w' v.ownBlock→Below sb w w'→wpList Tryz.prog ops Q rest (a.put o.dst (.slice (some ⟨g,0,none⟩) (ps.length+1) c')) w'):wpList Tryz.prog ops Q (o :: rest) a w:=by
 obtain ⟨i0,hi,hz0,hz1,hz2⟩:=info_parts Tryz.mH;obtain ⟨us,qh,hcl⟩:=hN;refine wpList_append_own w hgd s x 24 ho sb 40 i0 (.agg #[.slice none 0 0,.slice none 0 0]) 2 48 Tryz.underlying24 hi hz0 hz1 hz2 rfl (by decide) v ps.length us hs qh ⟨B,0,none⟩ 1 1 [.slice aL t.length cL,.slice aR t2.length cR] hx (by simp)
  (by intro j z hj
      match j,hj with
      | 0,hj=>simp at hj;subst hj;rw [Go.WideShapes.add_plain];simpa using hB0
      | 1,hj=>simp at hj;subst hj;rw [Go.WideShapes.add_plain];simpa using hB1)
  (by intro u hu;simp at hu;rcases hu with rfl | rfl <;> rfl) (by unfold maxLen;omega) (by omega) hbase ?_
 intro v' w' hown hg _;obtain ⟨g,c',rfl⟩:=ownsRow_succ hown;exact h g c' w' (aU.snoc (by decide) hse hg h1 h2 c1 c2 c3 c4 qh hcl hown) hg ((Below.refl sb w).grown hg hbase fun k e=>(World.ownsRow.lt qh k e).1)
theorem ku {fl:Bool} {ops:Array Oper} {rest:List Oper} {o:Oper} {a:Act} {Q:Exit→Act→World→Prop} (w:World) (hgd:o.guard = none) (s x:Operand)
 (ho:o.op = .call { callee:=.builtin .append,args:=#[s,x],argTypes:=#[24,24] }) (sb eb:Nat) (hse:eb≤sb) (v:Value) (ps:ah) (hs:a.eval s = v) (hN:aU fl 40 sb eb w v ps)
 (v2:Value) (qs:ah) (hx:a.eval x = v2) (sb2:Nat) (hM:aU fl 40 sb2 eb w v2 qs) (hlen:ps.length+qs.length≤100000) (hbase:sb≤w.heap.size)
 (h:∀ v' w',aU fl 40 sb eb w' v' (ps++qs)→w.grownBy w' v.ownBlock→Below sb w w'→wpList Tryz.prog ops Q rest (a.put o.dst v') w'):wpList Tryz.prog ops Q (o :: rest) a w:=by
 obtain ⟨i0,hi,hz0,hz1,hz2⟩:=info_parts Tryz.mH;obtain ⟨us,h1,h2⟩:=hN;obtain ⟨qI,m1,m2⟩:=hM;have zi:us.length = ps.length * 2:=h1.1;have VD:qI.length = qs.length * 2:=m1.1;have hcell:∀ u∈qI,∃ a n c,u = .slice a n c:=fun u hu=>by
  obtain ⟨k,hk,e⟩:=List.getElem_of_mem hu;have hk2:k / 2 < qs.length:=by omega
  obtain ⟨y,yc,y',ry,q1,q2,_⟩:=m2 (k / 2) hk2;rcases Nat.mod_two_eq_zero_or_one k with h0 | h0
  ·rw [show k / 2 * 2 = k by omega,List.getElem?_eq_getElem hk,e] at q1
   cases q1;exact ⟨_,_,_,rfl⟩
  ·rw [show k / 2 * 2+1 = k by omega,List.getElem?_eq_getElem hk,e] at q2
   cases q2;exact ⟨_,_,_,rfl⟩
 rcases m1.2 with ⟨rfl,hn⟩ | ⟨g,cap,cur,rfl,hb,hgb,r1,r2,r3⟩
 ·obtain rfl:qs = []:=List.eq_nil_of_length_eq_zero hn
  refine wpList_append_own_none hgd s x 24 ho sb 40 i0 2 Tryz.underlying24 hi v ps.length us hs h1 hx (h v w (by rw [List.append_nil];exact ⟨us,h1,h2⟩) ⟨rfl,rfl,rfl,Nat.le_refl _,fun _ _ _=>rfl⟩ (Below.refl _ _))
 ·refine wpList_append_own w hgd s x 24 ho sb 40 i0 (.agg #[.slice none 0 0,.slice none 0 0]) 2 48 Tryz.underlying24 hi hz0 hz1 hz2 rfl (by decide) v ps.length us hs h1 ⟨g,0,none⟩ qs.length cap qI hx (by omega)
   (by intro j z hj
       have hjl:j < qs.length * 2:=by
        have:=(List.getElem?_eq_some_iff.1 hj).1
        omega
       rw [Go.WideShapes.add_plain];have:=World.ownsRow.cellAt m1 j hjl
       rw [hj] at this;simpa using this)
   (by intro u hu;obtain ⟨_,_,_,rfl⟩:=hcell u hu;rfl) (by unfold maxLen;omega) (by omega) hbase ?_
  intro v' w' hown hg _;have hr:∀ k,v.ownBlock = some k→eb≤k∧∃ cs,w.heap[k]? = some (.cells cs 40 (0,0)):=fun k hk=>⟨Nat.le_trans hse (World.ownsRow.lt h1 k hk).1,ji h1 hk⟩
  have hk:∀ {a:Option Addr} {zs:List Int},bX fl eb w a zs→bX fl eb w' a zs:=fun h=>h.grown (by decide) hg hr
  refine h v' w' ⟨us++qI,by simpa using hown,fun j hj=>?_⟩ hg ((Below.refl sb w).grown hg hbase (fun k e=>(World.ownsRow.lt h1 k e).1));by_cases hjl:j < ps.length
  ·obtain ⟨y,yc,y',ry,q1,q2,n1,n2,r⟩:=h2 j hjl
   rw [List.getElem?_append_left hjl,List.getElem?_append_left (by omega),List.getElem?_append_left (by omega)];exact ⟨y,yc,y',ry,q1,q2,hk n1,hk n2,r⟩
  ·have hj2:j - ps.length < qs.length:=by rw [List.length_append] at hj;omega
   obtain ⟨y,yc,y',ry,q1,q2,n1,n2,r⟩:=m2 (j - ps.length) hj2;rw [List.getElem?_append_right (by omega),List.getElem?_append_right (by omega),List.getElem?_append_right (by omega),zi];rw [show j * 2 - ps.length * 2 = (j - ps.length) * 2 by omega,show j * 2+1 - ps.length * 2 = (j - ps.length) * 2+1 by omega];exact ⟨y,yc,y',ry,q1,q2,hk n1,hk n2,r⟩
theorem fO.x {fl:Bool} {base eb:Nat} {W:World} {v:Value} {ps:ah} (h:fO base W v ps) (hb2:fl = true∨eb≤base):aU fl 40 base eb W v ps:=by
 obtain ⟨us,h1,h2⟩:=h;refine ⟨us,h1,fun j hj=>?_⟩;obtain ⟨u,u',a,b,n1,n2⟩:=h2 j hj;obtain ⟨a1,c1,rfl,i1,m1,LZ⟩:=bX.new (base:=eb) n1 hb2;obtain ⟨a2,c2,rfl,i2,m2,L6⟩:=bX.new (base:=eb) n2 hb2;exact ⟨a1,c1,a2,c2,a,b,i1,i2,m1,LZ,m2,L6⟩
end Go.Proofs.YtglohanbpjaieaaGreat
