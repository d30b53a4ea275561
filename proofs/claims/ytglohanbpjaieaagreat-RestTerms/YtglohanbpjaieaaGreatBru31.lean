/-
  Parts of the proof: Rst8, Rst9, PRef4, Rst6.
-/
import Derived.Test.YtglohanbpjaieaaGreatBru30
set_option maxHeartbeats 20000000
set_option maxRecDepth 100000
namespace Go.Proofs.YtglohanbpjaieaaGreat
open Go.Proofs Go.RowKit Go.Shelf Go.Maps Go.Deep
section
def fr (n:Nat) (f:Nat→Value):Act:=⟨((List.range n).map f).toArray,[]⟩
def FN (f:Nat→Value) (d:Nat) (v:Value):Nat→Value:=fun i=>cond (Nat.beq i d) v (f i)
theorem adf {A:Act} {n:Nat} (h:A.tmps.size = n) (hd:A.defers = []):A = fr n fun i=>A.tmps.getD i undef:=by
 obtain ⟨t,d⟩:=A;subst h hd;unfold fr;congr 1;apply Array.ext
 ·simp
 ·intro i h1 h2
  simp [h1]
theorem iC {n:Nat} (f:Nat→Value) {i:Nat} (h:i < n):(fr n f).eval (.tmp i) = f i:=by
 simp [fr,Act.eval,h]
theorem adg {n:Nat} (f:Nat→Value) {i:Nat} (h:i < n):(fr n f).tmps[i]? = some (f i):=by
 simp [fr,h]
theorem UB {n:Nat} (f:Nat→Value) (d:Nat) (v:Value):(fr n f).put (some d) v = fr n (FN f d v):=by
 unfold fr Act.put;simp only;congr 1;apply Array.ext
 ·simp
 ·intro i h1 h2
  have h3:i < n:=by simpa using h2
  rw [Array.getElem_setIfInBounds (by simpa using h3)];by_cases e:d = i
  ·subst e
   simp [FN]
  ·have:Nat.beq i d = false:=by
    cases hb:Nat.beq i d
    ·rfl
    ·exact absurd (Nat.eq_of_beq_eq_true hb).symm e
   simp [FN,e,this]
def Jc (ops:Array Oper):Bool:=(List.range ops.size).all fun i=>((ops[i]?).map fun o=>o.after.all fun e=>!Region.binds .any e || Nat.blt e.on i).getD true
theorem MR {ops:Array Oper} (he:Jc ops = true) {l:Array Bool} (hl:l.size = ops.size) (h:Region.ready .any ops l = []):∀ i,i < ops.size→l.getD i false = true:=by
 intro i;induction i using Nat.strongRecOn with
 | ind i ih =>
  intro hi;cases hg:l.getD i false with
  | true=>rfl
  | false =>
   have hm:i∈Region.ready .any ops l:=by
    refine mem_ready.2 ⟨?_,ops[i],Array.getElem?_eq_getElem hi,fun e hme hb=>?_⟩
    ·have hil:i < l.size:=by omega
     simp [hil] at hg ⊢;exact hg
    ·unfold Jc at he
     have h1:=List.all_eq_true.1 he i (List.mem_range.2 hi);rw [Array.getElem?_eq_getElem hi] at h1;simp only [Option.map_some,Option.getD_some] at h1;have h2:=Array.all_eq_true_iff_forall_mem.1 h1 e hme;rw [hb] at h2;simp only [Bool.not_true,Bool.false_or] at h2;have h3:e.on < i:=by simpa [Nat.blt_eq] using h2
     exact ih e.on h3 (by omega)
   rw [h] at hm;cases hm
def pW (ops:Array Oper) (R:Exit→Act→World→Prop) (S:World→Prop) (n:Nat) (D:Nat→Nat) (V f0:Nat→Value) (fx:Nat→Prop) (i:Nat):Prop :=
 ∀ f w,S w→(∀ s,fx s→f s = f0 s)→(∀ o,ops[i]? = some o→∀ e∈o.after,Region.binds .any e = true→f (D e.on) = V e.on)→wpOp Tryz.prog ops R i (fun a w'=>a = fr n (FN f (D i) (V i))∧S w') (fr n f) w
theorem Jd {ops:Array Oper} {R:Exit→Act→World→Prop} {S:World→Prop} (n N:Nat) (D:Nat→Nat) (V f0:Nat→Value) (fx:Nat→Prop) (hN:ops.size = N) (he:Jc ops = true) (hD:∀ i j,i < N→j < N→D i = D j→i = j) (hfx:∀ s,fx s→∀ i,i < N→D i≠s)
 (step:∀ i,i < N→pW ops R S n D V f0 fx i)
 (fin:∀ f w,S w→(∀ s,fx s→f s = f0 s)→(∀ i,i < N→f (D i) = V i)→R .normal (fr n f) w) (w:World) (hS:S w):wpAnyH Tryz.prog .any ops R S N (Array.replicate N false) (fr n f0) w:=by
 refine sN (fun m l a w=>∃ f,a = fr n f∧S w∧l.size = N∧l.toList.countP (fun x=>!x) = m∧(∀ s,fx s→f s = f0 s)∧(∀ i,i < N→l.getD i false = true→f (D i) = V i)) ?_ ?_ ?_ N _ _ w ⟨f0,rfl,hS,by simp,by simp [List.countP_replicate],fun _ _=>rfl,fun i hi h=>by simp [hi] at h⟩
 ·rintro m l a w ⟨f,rfl,hS,hl,_,h1,h2⟩ hr
  have hall:=MR he (by omega) hr;exact fin f w hS h1 fun i hi=>h2 i hi (hall i (by omega))
 ·rintro l a w ⟨f,rfl,hS,hl,hc,h1,h2⟩
  refine List.eq_nil_iff_forall_not_mem.2 fun i hi=>?_
  obtain ⟨h3,o,ho,_⟩:=mem_ready.1 hi;have hil:i < l.size:=by rw [hl,← hN];exact (Array.getElem?_eq_some_iff.1 ho).1
  have h4:=List.countP_eq_zero.1 hc l[i] (Array.getElem_mem_toList hil);simp [hil] at h3;simp [h3] at h4
 ·rintro m l a w ⟨f,rfl,hS,hl,hc,h1,h2⟩ i hi
  obtain ⟨h3,o,ho,h4⟩:=mem_ready.1 hi;have hiN:i < N:=by rw [← hN];exact (Array.getElem?_eq_some_iff.1 ho).1
  have hil:i < l.size:=by omega
  have h5:l[i] = false:=by simpa [hil] using h3
  have hlt:∀ e∈o.after,Region.binds .any e = true→e.on < N:=fun e hme hb=>by
   have:=h4 e hme hb
   by_cases h6:e.on < l.size
   ·omega
   ·simp [h6] at this
  refine wpOp_mono (fun a' w' h=>?_) (step i hiN f w hS h1 fun o' ho' e hme hb=>?_)
  ·obtain ⟨rfl,hS'⟩:=h
   refine ⟨hS',FN f (D i) (V i),rfl,hS',by simp [hl],?_,fun s hs=>?_,fun j hj hlj=>?_⟩
   ·have hc2:(l.setIfInBounds i true).toList = l.toList.set i true:=by simp
    rw [hc2,List.countP_set (by simpa using hil)];simp only [Array.getElem_toList,h5,hc];simp
   ·have:Nat.beq s (D i) = false:=by
     cases hb:Nat.beq s (D i)
     ·rfl
     ·exact absurd (Nat.eq_of_beq_eq_true hb).symm (hfx s hs i hiN)
    simp only [FN,this,cond_false];exact h1 s hs
   ·by_cases e:j = i
    ·subst e
     simp [FN]
    ·have:Nat.beq (D j) (D i) = false:=by
      cases hb:Nat.beq (D j) (D i)
      ·rfl
      ·exact absurd (hD j i hj hiN (Nat.eq_of_beq_eq_true hb)) e
     simp only [FN,this,cond_false];refine h2 j hj ?_;have hjl:j < l.size:=by omega
     simpa [hjl,Array.getElem_setIfInBounds,Ne.symm e] using hlj
  ·obtain rfl:o' = o:=by rw [ho] at ho';exact (Option.some.inj ho').symm
   exact h2 e.on (hlt e hme hb) (h4 e hme hb)
def Src (ops:Array Oper) (D:Nat→Nat) (V f0:Nat→Value) (fx:Nat→Prop) (i x:Nat) (v:Value):Prop :=
 (fx x∧f0 x = v)∨∃ j,x = D j∧V j = v∧∃ o,ops[i]? = some o∧(o.after.toList.any fun e=>Region.binds .any e && e.on == j) = true
theorem Src.out {ops:Array Oper} {D:Nat→Nat} {V f0:Nat→Value} {fx:Nat→Prop} {i x:Nat} {v:Value} (h:Src ops D V f0 fx i x v) {f:Nat→Value} (h1:∀ s,fx s→f s = f0 s) (h2:∀ o,ops[i]? = some o→∀ e∈o.after,Region.binds .any e = true→f (D e.on) = V e.on):f x = v:=by
 rcases h with ⟨hx,h⟩ | ⟨j,rfl,h,o,ho,ha⟩
 ·exact (h1 x hx).trans h
 ·obtain ⟨e,hme,hb⟩:=List.any_eq_true.1 ha
  rw [Bool.and_eq_true] at hb;have:=h2 o ho e (Array.mem_toList_iff.1 hme) hb.1
  rw [eq_of_beq hb.2] at this;exact this.trans h
theorem aD {P:Nat→Prop} {n:Nat} (h:∀ i,i < n→P i) (hn:P n):∀ i,i < n+1→P i:=fun i hi=>by
 by_cases e:i = n
 ·subst e;exact hn
 ·exact h i (by omega)
section
variable {ops:Array Oper} {R:Exit→Act→World→Prop} {S:World→Prop} {n:Nat} {f:Nat→Value} {w:World}
theorem mi {d:Nat} {v:Value} {i:Nat} {op:Op} {ty:TypeId} {pos:String} {af:Array Edge} {gd:Option (Nat × Bool)} (hi:ops[i]? = some ⟨some d,op,ty,pos,af,gd⟩) (hy:YieldsIf Tryz.prog ops S ⟨some d,op,ty,pos,af,gd⟩ v (fr n f)) (hS:S w):wpOp Tryz.prog ops R i (fun a w'=>a = fr n (FN f d v)∧S w') (fr n f) w :=
 hy.wpOp hi hS ⟨UB f d v,hS⟩
theorem Ps {d F:Nat} {v:Value} {vs:Array Value} {i:Nat} {op:Op} {ty:TypeId} {pos:String} {af:Array Edge} {gd:Option (Nat × Bool)} (hi:ops[i]? = some ⟨some d,op,ty,pos,af,gd⟩) (hw:Region.wanted ⟨some d,op,ty,pos,af,gd⟩ (yielded ops (fr n f).tmps) = true) (ho:∀ w,(execOp (fr n f).eval ⟨some d,op,ty,pos,af,gd⟩).run Tryz.prog w = .ok (.enter F vs) w)
 (hc:Calls Tryz.prog F vs w fun e w'=>e = .returned v∧S w'):wpOp Tryz.prog ops R i (fun a w'=>a = fr n (FN f d v)∧S w') (fr n f) w:=by
 refine wpOp_step hi fun K' hK=>?_
 rw [if_pos hw];unfold Oper.wp;rw [ho w];show Calls _ _ _ _ _;refine hc.mono fun e w' he=>?_
 obtain ⟨rfl,hS⟩:=he;exact hK _ _ ⟨UB f d v,hS⟩
theorem Zv {o:Oper} (h:o.guard = none):Region.wanted o (yielded ops (fr n f).tmps) = true:=by simp [Region.wanted,h]
theorem Zw {o:Oper} {j d:Nat} {b:Bool} (h:o.guard = some (j,b)) (hj:(ops[j]?).bind (·.dst) = some d) (hd:d < n) (hf:f d = .bool b):Region.wanted o (yielded ops (fr n f).tmps) = true:=by
 simp [Region.wanted,h,yielded,hj,adg f hd,hf]
theorem Zx {o:Oper} {x:Nat} {v:Value} (hw:Region.wanted o (yielded ops (fr n f).tmps) = true) (h:o.op = .move (.tmp x)) (hx:x < n) (hv:f x = v):YieldsIf Tryz.prog ops S o v (fr n f):=by
 refine .inl ⟨hw,fun w _=>?_⟩;unfold execOp;simp only [h,iC f hx,hv];go_simp
theorem UC {o:Oper} {x:Nat} {v:Value} (hw:Region.wanted o (yielded ops (fr n f).tmps) = true) (h:o.op = .assign (.tmp x)) (hx:x < n) (hv:f x = v):YieldsIf Tryz.prog ops S o v (fr n f):=by
 refine .inl ⟨hw,fun w _=>?_⟩;unfold execOp;simp only [h,iC f hx,hv];go_simp
theorem adh {o:Oper} {x y:Nat} {z:Int} (hw:Region.wanted o (yielded ops (fr n f).tmps) = true) (h:o.op = .binOp .eql 25 (.tmp x) (.tmp y) 25) (hx:x < n) (hy:y < n) (hv:f x = .int .i64 z) (hv':f y = .int .i64 z):YieldsIf Tryz.prog ops S o (.bool true) (fr n f):=by
 refine .inl ⟨hw,fun w _=>?_⟩;unfold execOp;simp only [h,iC f hx,iC f hy,hv,hv'];go_simp
theorem adi {o:Oper} {x y:Nat} {z:Bool} (hw:Region.wanted o (yielded ops (fr n f).tmps) = true) (h:o.op = .binOp .eql 4 (.tmp x) (.tmp y) 4) (hx:x < n) (hy:y < n) (hv:f x = .bool z) (hv':f y = .bool z):YieldsIf Tryz.prog ops S o (.bool true) (fr n f):=by
 refine .inl ⟨hw,fun w _=>?_⟩;unfold execOp;simp only [h,iC f hx,iC f hy,hv,hv'];go_simp
theorem Zy {o:Oper} {x y:Nat} {u:Operand} {v:Value} (hw:Region.wanted o (yielded ops (fr n f).tmps) = true) (h:o.op = .pick (.tmp x) (.tmp y) u) (hx:x < n) (hy:y < n) (hv:f x = .bool true) (hv':f y = v):YieldsIf Tryz.prog ops S o v (fr n f):=by
 refine .inl ⟨hw,fun w _=>?_⟩;unfold execOp;simp only [h,iC f hx,iC f hy,hv,hv'];go_simp
theorem WI {o:Oper} {x b off l c:Nat} (hw:Region.wanted o (yielded ops (fr n f).tmps) = true) (h:o.op = .indexAddr 24 (.tmp x) (.const (.int .i64 0))) (hx:x < n) (hv:f x = .slice (some ⟨b,off,none⟩) l c) (hl:0 < l):YieldsIf Tryz.prog ops S o (.pointer (some ⟨b,off,none⟩)) (fr n f):=by
 refine .inl ⟨hw,fun w _=>?_⟩;have hl':(0:Int) < (l:Int):=by omega
 unfold execOp;simp only [h,iC f hx,hv];go_simp
theorem UD {o:Oper} {x b off:Nat} (hw:Region.wanted o (yielded ops (fr n f).tmps) = true) (h:o.op = .fieldAddr 40 (.tmp x) 0) (hx:x < n) (hv:f x = .pointer (some ⟨b,off,none⟩)):YieldsIf Tryz.prog ops S o (.pointer (some ⟨b,off,none⟩)) (fr n f):=by
 refine .inl ⟨hw,fun w _=>?_⟩;unfold execOp;simp only [h,iC f hx,hv];go_simp
theorem UE {o:Oper} {x b off:Nat} (hw:Region.wanted o (yielded ops (fr n f).tmps) = true) (h:o.op = .fieldAddr 40 (.tmp x) 1) (hx:x < n) (hv:f x = .pointer (some ⟨b,off,none⟩)):YieldsIf Tryz.prog ops S o (.pointer (some ⟨b,off+1,none⟩)) (fr n f):=by
 refine .inl ⟨hw,fun w _=>?_⟩;unfold execOp;simp only [h,iC f hx,hv];go_simp
theorem Zz {o:Oper} {x l c:Nat} {ad:Addr} {a:Option Addr} (hw:Region.wanted o (yielded ops (fr n f).tmps) = true) (h:o.op = .load 35 (.tmp x)) (hx:x < n) (hv:f x = .pointer (some ad)) (hc:∀ w,S w→w.cell? ad = some (.slice a l c)):YieldsIf Tryz.prog ops S o (.slice a l c) (fr n f):=by
 refine .inl ⟨hw,fun w hS=>?_⟩;have hc':=hc w hS;unfold execOp;simp only [h,iC f hx,hv];go_simp
theorem Gz {F:Nat} {fn:Func} (hf:Tryz.prog.funcs[F]? = some fn) (h1:(fn.name == "runtime.NumGoroutine") = false) (h2:fn.body.isNone = false) (vs:Array Value) (w:World):(callFunc F vs).run Tryz.prog w = .ok (.enter F vs) w:=by
 have h3:¬ fn.name = "runtime.NumGoroutine":=fun e=>by rw [e] at h1;simp at h1
 have h4:¬ fn.body = none:=fun e=>by rw [e] at h2;simp at h2
 unfold callFunc;go_simp
theorem WJ {F d:Nat} {ty:TypeId} {pos:String} {af:Array Edge} {gd:Option (Nat × Bool)} {fn:Func} (hf:Tryz.prog.funcs[F]? = some fn) (h1:(fn.name == "runtime.NumGoroutine") = false) (h2:fn.body.isNone = false) (w:World):(execOp (fr n f).eval ⟨some d,.call { callee:=.value (.func F),args:=#[],argTypes:=#[] },ty,pos,af,gd⟩).run Tryz.prog w = .ok (.enter F #[]) w:=by
 rw [execOp_call_go,Gz hf h1 h2];simp
theorem WL {F d x y:Nat} {ts:Array TypeId} {ty:TypeId} {pos:String} {af:Array Edge} {gd:Option (Nat × Bool)} {u v:Value} {fn:Func} (hf:Tryz.prog.funcs[F]? = some fn) (h1:(fn.name == "runtime.NumGoroutine") = false) (h2:fn.body.isNone = false) (hx:x < n) (hy:y < n) (hu:f x = u) (hv:f y = v) (w:World):(execOp (fr n f).eval ⟨some d,.call { callee:=.value (.func F),args:=#[.tmp x,.tmp y],argTypes:=ts },ty,pos,af,gd⟩).run Tryz.prog w = .ok (.enter F #[u,v]) w:=by
 rw [execOp_call_go,Gz hf h1 h2];simp [iC f hx,iC f hy,hu,hv]
end
section
variable {ops:Array Oper} {R:Exit→Act→World→Prop} {S:World→Prop} {n:Nat} {D:Nat→Nat} {V f0:Nat→Value} {fx:Nat→Prop} {i:Nat} {ty:TypeId} {pos:String} {af:Array Edge} {gd:Option (Nat × Bool)}
theorem sf {x:Nat} {v:Value} (hx:fx x) (h:f0 x = v):Src ops D V f0 fx i x v:=.inl ⟨hx,h⟩
theorem sd {x:Nat} {v:Value} (j:Nat) (h:x = D j) (hv:V j = v) {o:Oper} (ho:ops[i]? = some o) (ha:(o.after.toList.any fun e=>Region.binds .any e && e.on == j) = true):Src ops D V f0 fx i x v:=.inr ⟨j,h,hv,o,ho,ha⟩
def Gd (ops:Array Oper) (D:Nat→Nat) (V f0:Nat→Value) (fx:Nat→Prop) (n i:Nat) (gd:Option (Nat × Bool)):Prop:=gd = none∨∃ j d,gd = some (j,true)∧(ops[j]?).bind (·.dst) = some d∧d < n∧Src ops D V f0 fx i d (.bool true)
theorem gj {j d:Nat} (h:(ops[j]?).bind (·.dst) = some d) (hd:d < n) (hs:Src ops D V f0 fx i d (.bool true)):Gd ops D V f0 fx n i (some (j,true)):=.inr ⟨j,d,rfl,h,hd,hs⟩
theorem Gd.out {o:Oper} (h:Gd ops D V f0 fx n i o.guard) {f:Nat→Value} (h1:∀ s,fx s→f s = f0 s) (h2:∀ o,ops[i]? = some o→∀ e∈o.after,Region.binds .any e = true→f (D e.on) = V e.on):Region.wanted o (yielded ops (fr n f).tmps) = true:=by
 rcases h with h | ⟨j,d,h,hj,hd,hs⟩
 ·exact Zv h
 ·exact Zw h hj hd (hs.out h1 h2)
theorem bu {x:Nat} (hi:ops[i]? = some ⟨some (D i),.move (.tmp x),ty,pos,af,gd⟩) (hg:Gd ops D V f0 fx n i gd) (hx:x < n) (hs:Src ops D V f0 fx i x (V i)):pW ops R S n D V f0 fx i:=fun _ _ hS h1 h2 =>
 mi hi (Zx (x:=x) (Gd.out (o:=⟨some (D i),.move (.tmp x),ty,pos,af,gd⟩) hg h1 h2) rfl hx (hs.out h1 h2)) hS
theorem QU {x:Nat} (hi:ops[i]? = some ⟨some (D i),.assign (.tmp x),ty,pos,af,gd⟩) (hg:Gd ops D V f0 fx n i gd) (hx:x < n) (hs:Src ops D V f0 fx i x (V i)):pW ops R S n D V f0 fx i:=fun _ _ hS h1 h2 =>
 mi hi (UC (x:=x) (Gd.out (o:=⟨some (D i),.assign (.tmp x),ty,pos,af,gd⟩) hg h1 h2) rfl hx (hs.out h1 h2)) hS
theorem sQ {x y:Nat} (z:Int) (hi:ops[i]? = some ⟨some (D i),.binOp .eql 25 (.tmp x) (.tmp y) 25,ty,pos,af,gd⟩) (hv:V i = .bool true) (hg:Gd ops D V f0 fx n i gd) (hx:x < n) (hy:y < n) (hs:Src ops D V f0 fx i x (.int .i64 z)) (ht:Src ops D V f0 fx i y (.int .i64 z)):pW ops R S n D V f0 fx i:=fun _ _ hS h1 h2=>by
 rw [hv];exact mi hi (adh (Gd.out (o:=⟨some (D i),.binOp .eql 25 (.tmp x) (.tmp y) 25,ty,pos,af,gd⟩) hg h1 h2) rfl hx hy (hs.out h1 h2) (ht.out h1 h2)) hS
theorem ZA {x y:Nat} (z:Bool) (hi:ops[i]? = some ⟨some (D i),.binOp .eql 4 (.tmp x) (.tmp y) 4,ty,pos,af,gd⟩) (hv:V i = .bool true) (hg:Gd ops D V f0 fx n i gd) (hx:x < n) (hy:y < n) (hs:Src ops D V f0 fx i x (.bool z)) (ht:Src ops D V f0 fx i y (.bool z)):pW ops R S n D V f0 fx i:=fun _ _ hS h1 h2=>by
 rw [hv];exact mi hi (adi (Gd.out (o:=⟨some (D i),.binOp .eql 4 (.tmp x) (.tmp y) 4,ty,pos,af,gd⟩) hg h1 h2) rfl hx hy (hs.out h1 h2) (ht.out h1 h2)) hS
theorem gJ {x y:Nat} {u:Operand} (hi:ops[i]? = some ⟨some (D i),.pick (.tmp x) (.tmp y) u,ty,pos,af,gd⟩) (hg:Gd ops D V f0 fx n i gd) (hx:x < n) (hy:y < n) (hs:Src ops D V f0 fx i x (.bool true)) (ht:Src ops D V f0 fx i y (V i)):pW ops R S n D V f0 fx i:=fun _ _ hS h1 h2 =>
 mi hi (Zy (Gd.out (o:=⟨some (D i),.pick (.tmp x) (.tmp y) u,ty,pos,af,gd⟩) hg h1 h2) rfl hx hy (hs.out h1 h2) (ht.out h1 h2)) hS
theorem UF {F:Nat} {fn:Func} (hi:ops[i]? = some ⟨some (D i),.call { callee:=.value (.func F),args:=#[],argTypes:=#[] },ty,pos,af,gd⟩) (hg:Gd ops D V f0 fx n i gd) (hf:Tryz.prog.funcs[F]? = some fn) (k1:(fn.name == "runtime.NumGoroutine") = false) (k2:fn.body.isNone = false) (hq:∀ w,S w→Calls Tryz.prog F #[] w fun e w'=>e = .returned (V i)∧S w'):pW ops R S n D V f0 fx i:=fun _ w hS h1 h2 =>
 Ps hi (Gd.out (o:=⟨some (D i),.call { callee:=.value (.func F),args:=#[],argTypes:=#[] },ty,pos,af,gd⟩) hg h1 h2) (WJ hf k1 k2) (hq w hS)
theorem jY {F x y:Nat} {ts:Array TypeId} {fn:Func} {u v:Value} (hi:ops[i]? = some ⟨some (D i),.call { callee:=.value (.func F),args:=#[.tmp x,.tmp y],argTypes:=ts },ty,pos,af,gd⟩) (hg:Gd ops D V f0 fx n i gd) (hf:Tryz.prog.funcs[F]? = some fn) (k1:(fn.name == "runtime.NumGoroutine") = false) (k2:fn.body.isNone = false) (hx:x < n) (hy:y < n) (hs:Src ops D V f0 fx i x u) (ht:Src ops D V f0 fx i y v) (hq:∀ w,S w→Calls Tryz.prog F #[u,v] w fun e w'=>e = .returned (V i)∧S w'):pW ops R S n D V f0 fx i:=fun _ w hS h1 h2 =>
 Ps hi (Gd.out (o:=⟨some (D i),.call { callee:=.value (.func F),args:=#[.tmp x,.tmp y],argTypes:=ts },ty,pos,af,gd⟩) hg h1 h2) (WL hf k1 k2 hx hy (hs.out h1 h2) (ht.out h1 h2)) (hq w hS)
theorem KW {x b off l c:Nat} (hi:ops[i]? = some ⟨some (D i),.indexAddr 24 (.tmp x) (.const (.int .i64 0)),ty,pos,af,gd⟩) (hv:V i = .pointer (some ⟨b,off,none⟩)) (hg:Gd ops D V f0 fx n i gd) (hx:x < n) (hs:Src ops D V f0 fx i x (.slice (some ⟨b,off,none⟩) l c)) (hl:0 < l):pW ops R S n D V f0 fx i:=fun _ _ hS h1 h2=>by
 rw [hv];exact mi hi (WI (Gd.out (o:=⟨some (D i),.indexAddr 24 (.tmp x) (.const (.int .i64 0)),ty,pos,af,gd⟩) hg h1 h2) rfl hx (hs.out h1 h2) hl) hS
theorem GA {x b off:Nat} (hi:ops[i]? = some ⟨some (D i),.fieldAddr 40 (.tmp x) 0,ty,pos,af,gd⟩) (hv:V i = .pointer (some ⟨b,off,none⟩)) (hg:Gd ops D V f0 fx n i gd) (hx:x < n) (hs:Src ops D V f0 fx i x (.pointer (some ⟨b,off,none⟩))):pW ops R S n D V f0 fx i:=fun _ _ hS h1 h2=>by
 rw [hv];exact mi hi (UD (Gd.out (o:=⟨some (D i),.fieldAddr 40 (.tmp x) 0,ty,pos,af,gd⟩) hg h1 h2) rfl hx (hs.out h1 h2)) hS
theorem GD {x b off:Nat} (hi:ops[i]? = some ⟨some (D i),.fieldAddr 40 (.tmp x) 1,ty,pos,af,gd⟩) (hv:V i = .pointer (some ⟨b,off+1,none⟩)) (hg:Gd ops D V f0 fx n i gd) (hx:x < n) (hs:Src ops D V f0 fx i x (.pointer (some ⟨b,off,none⟩))):pW ops R S n D V f0 fx i:=fun _ _ hS h1 h2=>by
 rw [hv];exact mi hi (UE (Gd.out (o:=⟨some (D i),.fieldAddr 40 (.tmp x) 1,ty,pos,af,gd⟩) hg h1 h2) rfl hx (hs.out h1 h2)) hS
theorem Dn {x l c:Nat} {ad:Addr} {a:Option Addr} (hi:ops[i]? = some ⟨some (D i),.load 35 (.tmp x),ty,pos,af,gd⟩) (hv:V i = .slice a l c) (hg:Gd ops D V f0 fx n i gd) (hx:x < n) (hs:Src ops D V f0 fx i x (.pointer (some ad))) (hc:∀ w,S w→w.cell? ad = some (.slice a l c)):pW ops R S n D V f0 fx i:=fun _ _ hS h1 h2=>by
 rw [hv];exact mi hi (Zz (Gd.out (o:=⟨some (D i),.load 35 (.tmp x),ty,pos,af,gd⟩) hg h1 h2) rfl hx (hs.out h1 h2) hc) hS
end
end
def D44 (i:Nat):Nat:=cond (Nat.beq i 91) 6 (273+i)
theorem MS (i:Nat):D44 i = if i = 91 then 6 else 273+i:=by
 unfold D44;by_cases h:i = 91
 ·subst h
  rfl
 ·rw [if_neg h]
  cases hb:Nat.beq i 91
  ·rfl
  ·exact absurd (Nat.eq_of_beq_eq_true hb) h
def V44 (v0 v1 v7 v19 v46 v30 v38 v33 v41 v35 v43 v36 v44:Value) (be oe l2 c2 k4 nL cL nR cR mL dL mR dR:Nat) (aL aR bL bR:Option Addr) (z1 z2 z3 z4:Int) (is:Bool) (i:Nat):Value:=([.bool true,.bool true,.int .i64 z1,.int .i64 z1,.bool true,.bool true,.bool true,.int .i64 z1,.int .i64 z1,.bool true,.bool true,.bool true,.int .i64 z2,v0,v1,.int .i64 z2,.bool true,.bool true,.bool true,.int .i64 z3,.int .i64 z3,.bool true,.bool true,.bool true,.int .i64 z3,.int .i64 z3,.bool true,.bool true,.bool true,.int .i64 z4,.int .i64 z4,.bool true,.bool true,.bool true,.int .i64 z4,.int .i64 z4,.bool true,.bool true,.bool true,v1,v7,.bool true,.bool true,.bool true,.slice (some ⟨be,oe,none⟩) l2 c2,.pointer (some ⟨be,oe,none⟩),.pointer (some ⟨be,oe,none⟩),.slice aL nL cL,.pointer (some ⟨k4,0,none⟩),.slice bL mL dL,.bool true,.bool true,.bool true,.slice (some ⟨be,oe,none⟩) l2 c2,.pointer (some ⟨be,oe,none⟩),.pointer (some ⟨be,oe+1,none⟩),.slice aR nR cR,.pointer (some ⟨k4,0+1,none⟩),.slice bR mR dR,.bool true,.bool true,.bool true,v30,v38,.bool true,.bool true,.bool true,v33,v41,.bool true,.bool true,.bool true,v35,v43,.bool true,.bool true,.bool true,v36,v44,.bool true,.bool true,.bool true,.bool is,.bool is,.bool true,.bool true,.bool true,v19,v46,.bool true,.bool true,.bool true]:List Value)[i]?.getD undef
theorem ag0 {w W:World} {A:Act} (hsz:A.tmps.size = 364) (hdf:A.defers = []) {v0 v1 v7 v19 v46 v30 v38 v33 v41 v35 v43 v36 v44:Value} {be oe l2 c2 k4 nL cL nR cR mL dL mR dR:Nat} {aL aR bL bR:Option Addr} {z1 z2 z3 z4:Int} {is:Bool} (hl2:0 < l2)
 (h0:A.tmps.getD 0 undef = v0) (h1:A.tmps.getD 1 undef = v1) (h2:A.tmps.getD 2 undef = .slice (some ⟨be,oe,none⟩) l2 c2) (h7:A.tmps.getD 7 undef = v7) (h8:A.tmps.getD 8 undef = .pointer (some ⟨k4,0,none⟩)) (h11:A.tmps.getD 11 undef = .int .i64 z1) (Qc:A.tmps.getD 13 undef = .int .i64 z2) (h15:A.tmps.getD 15 undef = .int .i64 z3) (h18:A.tmps.getD 18 undef = .int .i64 z4) (h19:A.tmps.getD 19 undef = v19) (h20:A.tmps.getD 20 undef = .bool is) (jD:A.tmps.getD 30 undef = v30) (h32:A.tmps.getD 32 undef = .int .i64 z1) (h33:A.tmps.getD 33 undef = v33) (h34:A.tmps.getD 34 undef = .int .i64 z3) (h35:A.tmps.getD 35 undef = v35) (h36:A.tmps.getD 36 undef = v36) (h37:A.tmps.getD 37 undef = .int .i64 z4) (h38:A.tmps.getD 38 undef = v38) (Di:A.tmps.getD 40 undef = .int .i64 z1) (Mr:A.tmps.getD 41 undef = v41) (h42:A.tmps.getD 42 undef = .int .i64 z3) (h43:A.tmps.getD 43 undef = v43) (h44:A.tmps.getD 44 undef = v44) (h45:A.tmps.getD 45 undef = .int .i64 z4) (h46:A.tmps.getD 46 undef = v46) (h47:A.tmps.getD 47 undef = .bool is)
 (hc:∀ V,Below W.heap.size W V→V.cell? ⟨be,oe,none⟩ = some (.slice aL nL cL)∧V.cell? ⟨be,oe+1,none⟩ = some (.slice aR nR cR)∧V.cell? ⟨k4,0,none⟩ = some (.slice bL mL dL)∧V.cell? ⟨k4,0+1,none⟩ = some (.slice bR mR dR))
 (q1:∀ V,Below W.heap.size W V→Calls Tryz.prog 16 #[] V fun e w'=>e = .returned (.bool true)∧Below W.heap.size W w')
 (q2:∀ V,Below W.heap.size W V→Calls Tryz.prog 24 #[v0,v1] V fun e w'=>e = .returned (.int .i64 z2)∧Below W.heap.size W w')
 (q3:∀ V,Below W.heap.size W V→Calls Tryz.prog 25 #[v1,v7] V fun e w'=>e = .returned (.bool true)∧Below W.heap.size W w')
 (q4:∀ V,Below W.heap.size W V→Calls Tryz.prog 25 #[.slice aL nL cL,.slice bL mL dL] V fun e w'=>e = .returned (.bool true)∧Below W.heap.size W w')
 (q5:∀ V,Below W.heap.size W V→Calls Tryz.prog 25 #[.slice aR nR cR,.slice bR mR dR] V fun e w'=>e = .returned (.bool true)∧Below W.heap.size W w')
 (q6:∀ V,Below W.heap.size W V→Calls Tryz.prog 25 #[v30,v38] V fun e w'=>e = .returned (.bool true)∧Below W.heap.size W w')
 (q7:∀ V,Below W.heap.size W V→Calls Tryz.prog 10 #[v33,v41] V fun e w'=>e = .returned (.bool true)∧Below W.heap.size W w')
 (q8:∀ V,Below W.heap.size W V→Calls Tryz.prog 9 #[v35,v43] V fun e w'=>e = .returned (.bool true)∧Below W.heap.size W w')
 (q9:∀ V,Below W.heap.size W V→Calls Tryz.prog 10 #[v36,v44] V fun e w'=>e = .returned (.bool true)∧Below W.heap.size W w')
 (q10:∀ V,Below W.heap.size W V→Calls Tryz.prog 26 #[v19,v46] V fun e w'=>e = .returned (.bool true)∧Below W.heap.size W w')
 (hB:Below w.heap.size w W) :
 Code.wp Tryz.prog (spine 21 (Tryz.f5.body.getD .skip)) (bodyPost Tryz.prog Tryz.f5 fun e w'=>e = .returned (.bool true)∧Below w.heap.size w w') A W:=by
 rw [adf hsz hdf];obtain ⟨f,hf⟩:∃ f,(fun i=>A.tmps.getD i undef) = f:=⟨_,rfl⟩;replace h0:f 0 = v0:=by rw [← hf];exact h0
 replace h1:f 1 = v1:=by rw [← hf];exact h1
 replace h2:f 2 = .slice (some ⟨be,oe,none⟩) l2 c2:=by rw [← hf];exact h2
 replace h7:f 7 = v7:=by rw [← hf];exact h7
 replace h8:f 8 = .pointer (some ⟨k4,0,none⟩):=by rw [← hf];exact h8
 replace h11:f 11 = .int .i64 z1:=by rw [← hf];exact h11
 replace Qc:f 13 = .int .i64 z2:=by rw [← hf];exact Qc
 replace h15:f 15 = .int .i64 z3:=by rw [← hf];exact h15
 replace h18:f 18 = .int .i64 z4:=by rw [← hf];exact h18
 replace h19:f 19 = v19:=by rw [← hf];exact h19
 replace h20:f 20 = .bool is:=by rw [← hf];exact h20
 replace jD:f 30 = v30:=by rw [← hf];exact jD
 replace h32:f 32 = .int .i64 z1:=by rw [← hf];exact h32
 replace h33:f 33 = v33:=by rw [← hf];exact h33
 replace h34:f 34 = .int .i64 z3:=by rw [← hf];exact h34
 replace h35:f 35 = v35:=by rw [← hf];exact h35
 replace h36:f 36 = v36:=by rw [← hf];exact h36
 replace h37:f 37 = .int .i64 z4:=by rw [← hf];exact h37
 replace h38:f 38 = v38:=by rw [← hf];exact h38
 replace Di:f 40 = .int .i64 z1:=by rw [← hf];exact Di
 replace Mr:f 41 = v41:=by rw [← hf];exact Mr
 replace h42:f 42 = .int .i64 z3:=by rw [← hf];exact h42
 replace h43:f 43 = v43:=by rw [← hf];exact h43
 replace h44:f 44 = v44:=by rw [← hf];exact h44
 replace h45:f 45 = .int .i64 z4:=by rw [← hf];exact h45
 replace h46:f 46 = v46:=by rw [← hf];exact h46
 replace h47:f 47 = .bool is:=by rw [← hf];exact h47
 rw [hf];clear hf hsz hdf A;conv=>arg 2;whnf
 apply wp_seq_k;intro Kn hKn;have hR:∀ c a d v x,Exit.then Kn (bodyPost Tryz.prog Tryz.f5 fun e w'=>e = .returned (.bool true)∧Below w.heap.size w w') (.panic c) (Act.put a d v) x→Exit.then Kn (bodyPost Tryz.prog Tryz.f5 fun e w'=>e = .returned (.bool true)∧Below w.heap.size w w') (.panic c) a x:=by
  intro c a d v x h;cases d <;> exact h
 refine wp_region_held_drew (S:=fun V=>Below W.heap.size W V) (by kernel_rfl) (below_drewN (Below.refl _ W) 1) fun hS=>?_
 refine Jd 364 92 D44 (V44 v0 v1 v7 v19 v46 v30 v38 v33 v41 v35 v43 v36 v44 be oe l2 c2 k4 nL cL nR cR mL dL mR dR aL aR bL bR z1 z2 z3 z4 is) f (fun s=>s < 273∧s≠6) (by kernel_rfl) (by kernel_rfl) (fun i j hi hj e=>?_) (fun s hs i hi e=>?_) ?_ (fun f x hS hx hd=>?_) _ hS
 ·rw [MS,MS] at e
  split at e <;> split at e <;> omega
 ·rw [MS] at e
  have h1:=hs.1;have h2:=hs.2;split at e <;> omega
 ·refine aD (aD (aD (aD (aD (aD (aD (aD (aD (aD (aD (aD (aD (aD (aD (aD (aD (aD (aD (aD (aD (aD (aD (aD (aD (aD (aD (aD (aD (aD (aD (aD (aD (aD (aD (aD (aD (aD (aD (aD (aD (aD (aD (aD (aD (aD (aD (aD (aD (aD (aD (aD (aD (aD (aD (aD (aD (aD (aD (aD (aD (aD (aD (aD (aD (aD (aD (aD (aD (aD (aD (aD (aD (aD (aD (aD (aD (aD (aD (aD (aD (aD (aD (aD (aD (aD (aD (aD (aD (aD (aD (aD (fun _ h=>absurd h (Nat.not_lt_zero _)) ?_) ?_) ?_) ?_) ?_) ?_) ?_) ?_) ?_) ?_) ?_) ?_) ?_) ?_) ?_) ?_) ?_) ?_) ?_) ?_) ?_) ?_) ?_) ?_) ?_) ?_) ?_) ?_) ?_) ?_) ?_) ?_) ?_) ?_) ?_) ?_) ?_) ?_) ?_) ?_) ?_) ?_) ?_) ?_) ?_) ?_) ?_) ?_) ?_) ?_) ?_) ?_) ?_) ?_) ?_) ?_) ?_) ?_) ?_) ?_) ?_) ?_) ?_) ?_) ?_) ?_) ?_) ?_) ?_) ?_) ?_) ?_) ?_) ?_) ?_) ?_) ?_) ?_) ?_) ?_) ?_) ?_) ?_) ?_) ?_) ?_) ?_) ?_) ?_) ?_) ?_) ?_
  ·exact UF rfl (.inl rfl) Tryz.func16 (by kernel_rfl) (by kernel_rfl) q1
  ·exact bu rfl (.inl rfl) (by decide) (sd 0 rfl rfl rfl rfl)
  ·exact bu rfl (gj rfl (by decide) (sd 1 rfl rfl rfl rfl)) (by decide) (sf (by decide) h11)
  ·exact bu rfl (gj rfl (by decide) (sd 1 rfl rfl rfl rfl)) (by decide) (sf (by decide) h32)
  ·exact sQ z1 rfl rfl (gj rfl (by decide) (sd 1 rfl rfl rfl rfl)) (by decide) (by decide) (sd 2 rfl rfl rfl rfl) (sd 3 rfl rfl rfl rfl)
  ·exact gJ rfl (.inl rfl) (by decide) (by decide) (sd 1 rfl rfl rfl rfl) (sd 4 rfl rfl rfl rfl)
  ·exact bu rfl (.inl rfl) (by decide) (sd 5 rfl rfl rfl rfl)
  ·exact bu rfl (gj rfl (by decide) (sd 6 rfl rfl rfl rfl)) (by decide) (sf (by decide) h32)
  ·exact bu rfl (gj rfl (by decide) (sd 6 rfl rfl rfl rfl)) (by decide) (sf (by decide) Di)
  ·exact sQ z1 rfl rfl (gj rfl (by decide) (sd 6 rfl rfl rfl rfl)) (by decide) (by decide) (sd 7 rfl rfl rfl rfl) (sd 8 rfl rfl rfl rfl)
  ·exact gJ rfl (.inl rfl) (by decide) (by decide) (sd 6 rfl rfl rfl rfl) (sd 9 rfl rfl rfl rfl)
  ·exact bu rfl (.inl rfl) (by decide) (sd 10 rfl rfl rfl rfl)
  ·exact bu rfl (gj rfl (by decide) (sd 11 rfl rfl rfl rfl)) (by decide) (sf (by decide) Qc)
  ·exact bu rfl (gj rfl (by decide) (sd 11 rfl rfl rfl rfl)) (by decide) (sf (by decide) h0)
  ·exact bu rfl (gj rfl (by decide) (sd 11 rfl rfl rfl rfl)) (by decide) (sf (by decide) h1)
  ·exact jY rfl (gj rfl (by decide) (sd 11 rfl rfl rfl rfl)) Tryz.func24 (by kernel_rfl) (by kernel_rfl) (by decide) (by decide) (sd 13 rfl rfl rfl rfl) (sd 14 rfl rfl rfl rfl) q2
  ·exact sQ z2 rfl rfl (gj rfl (by decide) (sd 11 rfl rfl rfl rfl)) (by decide) (by decide) (sd 12 rfl rfl rfl rfl) (sd 15 rfl rfl rfl rfl)
  ·exact gJ rfl (.inl rfl) (by decide) (by decide) (sd 11 rfl rfl rfl rfl) (sd 16 rfl rfl rfl rfl)
  ·exact bu rfl (.inl rfl) (by decide) (sd 17 rfl rfl rfl rfl)
  ·exact bu rfl (gj rfl (by decide) (sd 18 rfl rfl rfl rfl)) (by decide) (sf (by decide) h15)
  ·exact bu rfl (gj rfl (by decide) (sd 18 rfl rfl rfl rfl)) (by decide) (sf (by decide) h34)
  ·exact sQ z3 rfl rfl (gj rfl (by decide) (sd 18 rfl rfl rfl rfl)) (by decide) (by decide) (sd 19 rfl rfl rfl rfl) (sd 20 rfl rfl rfl rfl)
  ·exact gJ rfl (.inl rfl) (by decide) (by decide) (sd 18 rfl rfl rfl rfl) (sd 21 rfl rfl rfl rfl)
  ·exact bu rfl (.inl rfl) (by decide) (sd 22 rfl rfl rfl rfl)
  ·exact bu rfl (gj rfl (by decide) (sd 23 rfl rfl rfl rfl)) (by decide) (sf (by decide) h34)
  ·exact bu rfl (gj rfl (by decide) (sd 23 rfl rfl rfl rfl)) (by decide) (sf (by decide) h42)
  ·exact sQ z3 rfl rfl (gj rfl (by decide) (sd 23 rfl rfl rfl rfl)) (by decide) (by decide) (sd 24 rfl rfl rfl rfl) (sd 25 rfl rfl rfl rfl)
  ·exact gJ rfl (.inl rfl) (by decide) (by decide) (sd 23 rfl rfl rfl rfl) (sd 26 rfl rfl rfl rfl)
  ·exact bu rfl (.inl rfl) (by decide) (sd 27 rfl rfl rfl rfl)
  ·exact bu rfl (gj rfl (by decide) (sd 28 rfl rfl rfl rfl)) (by decide) (sf (by decide) h18)
  ·exact bu rfl (gj rfl (by decide) (sd 28 rfl rfl rfl rfl)) (by decide) (sf (by decide) h37)
  ·exact sQ z4 rfl rfl (gj rfl (by decide) (sd 28 rfl rfl rfl rfl)) (by decide) (by decide) (sd 29 rfl rfl rfl rfl) (sd 30 rfl rfl rfl rfl)
  ·exact gJ rfl (.inl rfl) (by decide) (by decide) (sd 28 rfl rfl rfl rfl) (sd 31 rfl rfl rfl rfl)
  ·exact bu rfl (.inl rfl) (by decide) (sd 32 rfl rfl rfl rfl)
  ·exact bu rfl (gj rfl (by decide) (sd 33 rfl rfl rfl rfl)) (by decide) (sf (by decide) h37)
  ·exact bu rfl (gj rfl (by decide) (sd 33 rfl rfl rfl rfl)) (by decide) (sf (by decide) h45)
  ·exact sQ z4 rfl rfl (gj rfl (by decide) (sd 33 rfl rfl rfl rfl)) (by decide) (by decide) (sd 34 rfl rfl rfl rfl) (sd 35 rfl rfl rfl rfl)
  ·exact gJ rfl (.inl rfl) (by decide) (by decide) (sd 33 rfl rfl rfl rfl) (sd 36 rfl rfl rfl rfl)
  ·exact bu rfl (.inl rfl) (by decide) (sd 37 rfl rfl rfl rfl)
  ·exact bu rfl (gj rfl (by decide) (sd 38 rfl rfl rfl rfl)) (by decide) (sf (by decide) h1)
  ·exact bu rfl (gj rfl (by decide) (sd 38 rfl rfl rfl rfl)) (by decide) (sf (by decide) h7)
  ·exact jY rfl (gj rfl (by decide) (sd 38 rfl rfl rfl rfl)) Tryz.func25 (by kernel_rfl) (by kernel_rfl) (by decide) (by decide) (sd 39 rfl rfl rfl rfl) (sd 40 rfl rfl rfl rfl) q3
  ·exact gJ rfl (.inl rfl) (by decide) (by decide) (sd 38 rfl rfl rfl rfl) (sd 41 rfl rfl rfl rfl)
  ·exact bu rfl (.inl rfl) (by decide) (sd 42 rfl rfl rfl rfl)
  ·exact bu rfl (gj rfl (by decide) (sd 43 rfl rfl rfl rfl)) (by decide) (sf (by decide) h2)
  ·exact KW rfl rfl (gj rfl (by decide) (sd 43 rfl rfl rfl rfl)) (by decide) (sd 44 rfl rfl rfl rfl) hl2
  ·exact GA rfl rfl (gj rfl (by decide) (sd 43 rfl rfl rfl rfl)) (by decide) (sd 45 rfl rfl rfl rfl)
  ·exact Dn rfl rfl (gj rfl (by decide) (sd 43 rfl rfl rfl rfl)) (by decide) (sd 46 rfl rfl rfl rfl) fun V hV=>(hc V hV).1
  ·exact GA rfl rfl (gj rfl (by decide) (sd 43 rfl rfl rfl rfl)) (by decide) (sf (by decide) h8)
  ·exact Dn rfl rfl (gj rfl (by decide) (sd 43 rfl rfl rfl rfl)) (by decide) (sd 48 rfl rfl rfl rfl) fun V hV=>(hc V hV).2.2.1
  ·exact jY rfl (gj rfl (by decide) (sd 43 rfl rfl rfl rfl)) Tryz.func25 (by kernel_rfl) (by kernel_rfl) (by decide) (by decide) (sd 47 rfl rfl rfl rfl) (sd 49 rfl rfl rfl rfl) q4
  ·exact gJ rfl (.inl rfl) (by decide) (by decide) (sd 43 rfl rfl rfl rfl) (sd 50 rfl rfl rfl rfl)
  ·exact bu rfl (.inl rfl) (by decide) (sd 51 rfl rfl rfl rfl)
  ·exact bu rfl (gj rfl (by decide) (sd 52 rfl rfl rfl rfl)) (by decide) (sf (by decide) h2)
  ·exact KW rfl rfl (gj rfl (by decide) (sd 52 rfl rfl rfl rfl)) (by decide) (sd 53 rfl rfl rfl rfl) hl2
  ·exact GD rfl rfl (gj rfl (by decide) (sd 52 rfl rfl rfl rfl)) (by decide) (sd 54 rfl rfl rfl rfl)
  ·exact Dn rfl rfl (gj rfl (by decide) (sd 52 rfl rfl rfl rfl)) (by decide) (sd 55 rfl rfl rfl rfl) fun V hV=>(hc V hV).2.1
  ·exact GD rfl rfl (gj rfl (by decide) (sd 52 rfl rfl rfl rfl)) (by decide) (sf (by decide) h8)
  ·exact Dn rfl rfl (gj rfl (by decide) (sd 52 rfl rfl rfl rfl)) (by decide) (sd 57 rfl rfl rfl rfl) fun V hV=>(hc V hV).2.2.2
  ·exact jY rfl (gj rfl (by decide) (sd 52 rfl rfl rfl rfl)) Tryz.func25 (by kernel_rfl) (by kernel_rfl) (by decide) (by decide) (sd 56 rfl rfl rfl rfl) (sd 58 rfl rfl rfl rfl) q5
  ·exact gJ rfl (.inl rfl) (by decide) (by decide) (sd 52 rfl rfl rfl rfl) (sd 59 rfl rfl rfl rfl)
  ·exact bu rfl (.inl rfl) (by decide) (sd 60 rfl rfl rfl rfl)
  ·exact bu rfl (gj rfl (by decide) (sd 61 rfl rfl rfl rfl)) (by decide) (sf (by decide) jD)
  ·exact bu rfl (gj rfl (by decide) (sd 61 rfl rfl rfl rfl)) (by decide) (sf (by decide) h38)
  ·exact jY rfl (gj rfl (by decide) (sd 61 rfl rfl rfl rfl)) Tryz.func25 (by kernel_rfl) (by kernel_rfl) (by decide) (by decide) (sd 62 rfl rfl rfl rfl) (sd 63 rfl rfl rfl rfl) q6
  ·exact gJ rfl (.inl rfl) (by decide) (by decide) (sd 61 rfl rfl rfl rfl) (sd 64 rfl rfl rfl rfl)
  ·exact bu rfl (.inl rfl) (by decide) (sd 65 rfl rfl rfl rfl)
  ·exact bu rfl (gj rfl (by decide) (sd 66 rfl rfl rfl rfl)) (by decide) (sf (by decide) h33)
  ·exact bu rfl (gj rfl (by decide) (sd 66 rfl rfl rfl rfl)) (by decide) (sf (by decide) Mr)
  ·exact jY rfl (gj rfl (by decide) (sd 66 rfl rfl rfl rfl)) Tryz.func10 (by kernel_rfl) (by kernel_rfl) (by decide) (by decide) (sd 67 rfl rfl rfl rfl) (sd 68 rfl rfl rfl rfl) q7
  ·exact gJ rfl (.inl rfl) (by decide) (by decide) (sd 66 rfl rfl rfl rfl) (sd 69 rfl rfl rfl rfl)
  ·exact bu rfl (.inl rfl) (by decide) (sd 70 rfl rfl rfl rfl)
  ·exact bu rfl (gj rfl (by decide) (sd 71 rfl rfl rfl rfl)) (by decide) (sf (by decide) h35)
  ·exact bu rfl (gj rfl (by decide) (sd 71 rfl rfl rfl rfl)) (by decide) (sf (by decide) h43)
  ·exact jY rfl (gj rfl (by decide) (sd 71 rfl rfl rfl rfl)) Tryz.func9 (by kernel_rfl) (by kernel_rfl) (by decide) (by decide) (sd 72 rfl rfl rfl rfl) (sd 73 rfl rfl rfl rfl) q8
  ·exact gJ rfl (.inl rfl) (by decide) (by decide) (sd 71 rfl rfl rfl rfl) (sd 74 rfl rfl rfl rfl)
  ·exact bu rfl (.inl rfl) (by decide) (sd 75 rfl rfl rfl rfl)
  ·exact bu rfl (gj rfl (by decide) (sd 76 rfl rfl rfl rfl)) (by decide) (sf (by decide) h36)
  ·exact bu rfl (gj rfl (by decide) (sd 76 rfl rfl rfl rfl)) (by decide) (sf (by decide) h44)
  ·exact jY rfl (gj rfl (by decide) (sd 76 rfl rfl rfl rfl)) Tryz.func10 (by kernel_rfl) (by kernel_rfl) (by decide) (by decide) (sd 77 rfl rfl rfl rfl) (sd 78 rfl rfl rfl rfl) q9
  ·exact gJ rfl (.inl rfl) (by decide) (by decide) (sd 76 rfl rfl rfl rfl) (sd 79 rfl rfl rfl rfl)
  ·exact bu rfl (.inl rfl) (by decide) (sd 80 rfl rfl rfl rfl)
  ·exact bu rfl (gj rfl (by decide) (sd 81 rfl rfl rfl rfl)) (by decide) (sf (by decide) h20)
  ·exact bu rfl (gj rfl (by decide) (sd 81 rfl rfl rfl rfl)) (by decide) (sf (by decide) h47)
  ·exact ZA is rfl rfl (gj rfl (by decide) (sd 81 rfl rfl rfl rfl)) (by decide) (by decide) (sd 82 rfl rfl rfl rfl) (sd 83 rfl rfl rfl rfl)
  ·exact gJ rfl (.inl rfl) (by decide) (by decide) (sd 81 rfl rfl rfl rfl) (sd 84 rfl rfl rfl rfl)
  ·exact bu rfl (.inl rfl) (by decide) (sd 85 rfl rfl rfl rfl)
  ·exact bu rfl (gj rfl (by decide) (sd 86 rfl rfl rfl rfl)) (by decide) (sf (by decide) h19)
  ·exact bu rfl (gj rfl (by decide) (sd 86 rfl rfl rfl rfl)) (by decide) (sf (by decide) h46)
  ·exact jY rfl (gj rfl (by decide) (sd 86 rfl rfl rfl rfl)) Tryz.func26 (by kernel_rfl) (by kernel_rfl) (by decide) (by decide) (sd 87 rfl rfl rfl rfl) (sd 88 rfl rfl rfl rfl) q10
  ·exact gJ rfl (.inl rfl) (by decide) (by decide) (sd 86 rfl rfl rfl rfl) (sd 89 rfl rfl rfl rfl)
  ·exact QU rfl (.inl rfl) (by decide) (sd 90 rfl rfl rfl rfl)
 have hx6:f 6 = .bool true:=hd 91 (by decide);refine hKn _ _ ?_;apply wp_ret;refine bodyPost_ret (v:=.bool true) ?_ rfl ?_
 ·rw [results_tmp (t:=6) rfl]
  show Result.ok ((fr 364 f).eval (.tmp 6)) _ = _;rw [iC f (by decide),hx6]
 ·exact ⟨rfl,hB.trans (hS.mono hB.size)⟩
end Go.Proofs.YtglohanbpjaieaaGreat
namespace Go.Proofs.YtglohanbpjaieaaGreat
open Go.Proofs Go.RowKit Go.Shelf Go.Maps
theorem Tm.iE.pre {rs:aH} {n m:Nat} {L:ah} (h:Tm.iE rs n m L):(∀ i j,j≤rs.length→(i < n∨(i = n∧j≤m))→∃ l,Tm.iE rs i j l∧l.length≤L.length)∧(∀ i j,j < rs.length→(i < n∨(i = n∧j < m))→∃ ps,Tm.dS rs (i:Int) (j:Int) 0 ps):=by
 induction h with
 | zero =>
  refine ⟨fun i j _ h=>?_,fun i j _ h=>by omega⟩;obtain ⟨rfl,rfl⟩:i = 0∧j = 0:=by omega
  exact ⟨[],.zero,Nat.le_refl _⟩
 | @next n m L0 ps h hm hs ih =>
  refine ⟨fun i j hj hb=>?_,fun i j hj hb=>?_⟩
  ·by_cases e:i = n∧j = m+1
   ·obtain ⟨rfl,rfl⟩:=e
    exact ⟨_,.next h hm hs,Nat.le_refl _⟩
   ·obtain ⟨l,h1,h2⟩:=ih.1 i j hj (by omega)
    exact ⟨l,h1,by rw [List.length_append];omega⟩
  ·by_cases e:i = n∧j = m
   ·obtain ⟨rfl,rfl⟩:=e
    exact ⟨ps,hs⟩
   ·exact ih.2 i j hj (by omega)
 | @row n L0 h ih =>
  refine ⟨fun i j hj hb=>?_,fun i j hj hb=>?_⟩
  ·by_cases e:i = n+1
   ·subst e
    obtain rfl:j = 0:=by omega
    exact ⟨_,.row h,Nat.le_refl _⟩
   ·exact ih.1 i j hj (by omega)
  ·exact ih.2 i j hj (by omega)
theorem Tm.dS.bad {rs:aH} {i j:Nat} {er:Int} {ps:ah} (h:Tm.dS rs (i:Int) (j:Int) er ps) (hi:i < rs.length) (hj:j < rs.length) (he:er≠0):er = if Tm.aO rs = 0 then 2 else Tm.aO rs:=by
 rcases h with ⟨h1,rfl,_⟩ | ⟨h1,h2,_,_⟩ | ⟨h1,a,b,ha,hb,ea,eb,h2⟩
 ·rw [if_neg h1]
 ·exact absurd ⟨by omega,by omega,by omega,by omega⟩ h2
 ·rw [if_pos h1]
  obtain ⟨_,hall⟩:=Tm.di h1;obtain ⟨eL,eR,_⟩:=Tm.bI (hall a ha);obtain ⟨OV,Iw,fL,fR,_⟩:=Tm.bI (hall b hb);rcases h2 with ⟨h3,_⟩ | ⟨h3,_⟩
  ·exact absurd h3 he
  ·exact h3.two eL eR (Tm.kz OV fL) (Tm.kz Iw fR)
theorem Tm.iE.one {rs:aH} {n m:Nat} {L:ah} (h:Tm.iE rs n m L):n≤rs.length→∀ {L'},Tm.iE rs n m L'→L = L':=by
 induction h with
 | zero=>intro _ L' h';cases h';rfl
 | @next n m L0 ps h hm hs ih =>
  intro hn L' h';cases h' with
  | next h2 _ hs2=>rw [ih hn h2,(hs.one hs2).2]
 | @row n L0 h ih =>
  intro hn L' h';cases h' with
  | row h2=>exact ih (by omega) h2
def Tm.EY (rs:aH) (er:Int) (ps:ah):Prop:=Tm.gT rs er ps∨(Tm.aO rs = 0∧er = 2∧ps = []∧∃ i j l,i < rs.length∧j≤rs.length∧Tm.iE rs i j l∧40 < l.length)
theorem Tm.gT.one {rs:aH} {er FB:Int} {ps ps':ah} (h:Tm.gT rs er ps) (h':Tm.gT rs FB ps'):er = FB∧ps = ps':=by
 have key:∀ {L:ah} {i j:Nat} {er:Int} {qs:ah},Tm.iE rs rs.length 0 L→i < rs.length→j < rs.length→Tm.dS rs (i:Int) (j:Int) er qs→er≠0→False:=fun hL hi hj hs he=>by
  obtain ⟨ps,h⟩:=hL.pre.2 _ _ hj (.inl hi);exact he (hs.one h).1
 rcases h with ⟨l,hl,hc⟩ | ⟨i,j,l,qs,hi,hj,hl,hs,he,rfl⟩ <;> rcases h' with ⟨l',hl',hc'⟩ | ⟨i',j',l',qs',hi',hj',hl',hs',he',rfl⟩
 ·obtain rfl:=hl.one (Nat.le_refl _) hl'
  rcases hc with ⟨h1,rfl,rfl⟩ | ⟨h1,rfl,rfl⟩ <;> rcases hc' with ⟨h2,rfl,rfl⟩ | ⟨h2,rfl,rfl⟩
  ·exact ⟨rfl,rfl⟩
  ·omega
  ·omega
  ·exact ⟨rfl,rfl⟩
 ·exact (key hl hi' hj' hs' he').elim
 ·exact (key hl' hi hj hs he).elim
 ·exact ⟨by rw [hs.bad hi hj he,hs'.bad hi' hj' he'],rfl⟩
theorem Tm.gT.ref {rs:aH} {er FB:Int} {ps ps':ah} (h:Tm.gT rs er ps) (h':Tm.EY rs FB ps'):er = FB∧ps = ps':=by
 rcases h' with h' | ⟨hr,rfl,rfl,i,j,l,hi,hj,hl,Di⟩
 ·exact h.one h'
 ·rcases h with ⟨L,hL,⟨h1,rfl,rfl⟩ | ⟨h1,rfl,rfl⟩⟩ | ⟨a,b,l2,qs,ha,hb,hl2,hs,he,rfl⟩
  ·obtain ⟨l',h2,h3⟩:=hL.pre.1 i j hj (.inl hi)
   obtain rfl:=hl.one (by omega) h2;omega
  ·exact ⟨rfl,rfl⟩
  ·exact ⟨by rw [hs.bad ha hb he,if_pos hr],rfl⟩
theorem Tm.iE.lens {rs:aH} {n m:Nat} {L:ah} (h:Tm.iE rs n m L):∀ x∈L,x.1.length≤1000∧x.2.length≤1000:=by
 induction h with
 | zero=>intro x hx;cases hx
 | @next n m L0 ps h hm hs ih =>
  intro x hx;rcases List.mem_append.1 hx with h1 | h1
  ·exact ih x h1
  ·exact hs.short x h1
 | row h ih=>exact ih
theorem Tm.gT.lens {rs:aH} {er:Int} {ps:ah} (h:Tm.gT rs er ps):ps.length≤1000∧∀ k,k < ps.length→(ps[k]?.getD ([],[])).1.length≤1000∧(ps[k]?.getD ([],[])).2.length≤1000:=by
 rcases h with ⟨l,hl,⟨h1,_,rfl⟩ | ⟨_,_,rfl⟩⟩ | ⟨_,_,_,_,_,_,_,_,_,rfl⟩
 ·refine ⟨by omega,fun k hk=>?_⟩
  rw [List.getElem?_eq_getElem hk];exact hl.lens _ (List.getElem_mem hk)
 ·exact ⟨by simp,fun k hk=>by simp at hk⟩
 ·exact ⟨by simp,fun k hk=>by simp at hk⟩
theorem Cz {ops:Array Oper} {rest:List Oper} {o:Oper} {a:Act} {Q:Exit→Act→World→Prop} (w:World) (hgd:o.guard = none) (s x:Operand)
 (ho:o.op = .call { callee:=.builtin .append,args:=#[s,x],argTypes:=#[24,24] }) (base:Nat) (v:Value) (ps:ah) (hs:a.eval s = v) (hN:gG base w v ps)
 (v2:Value) (qs:ah) (hx:a.eval x = v2) (hM:gG base w v2 qs) (hlen:ps.length+qs.length≤100000) (hbase:base≤w.heap.size)
 (h:∀ v' w',gG base w' v' (ps++qs)→Below base w w'→wpList Tryz.prog ops Q rest (a.put o.dst v') w'):wpList Tryz.prog ops Q (o :: rest) a w:=by
 obtain ⟨i0,hi,hz0,hz1,hz2⟩:=info_parts Tryz.mH;obtain ⟨us,h1,h2⟩:=hN;obtain ⟨qI,m1,m2⟩:=hM;have zi:us.length = ps.length * 2:=h1.1;have VD:qI.length = qs.length * 2:=m1.1;have hcell:∀ u∈qI,∃ a n c,u = .slice a n c:=fun u hu=>by
  obtain ⟨k,hk,e⟩:=List.getElem_of_mem hu;have hk2:k / 2 < qs.length:=by omega
  obtain ⟨y,yc,y',ry,q1,q2,_⟩:=m2 (k / 2) hk2;rcases Nat.mod_two_eq_zero_or_one k with h0 | h0
  ·rw [show k / 2 * 2 = k by omega,List.getElem?_eq_getElem hk,e] at q1
   cases q1;exact ⟨_,_,_,rfl⟩
  ·rw [show k / 2 * 2+1 = k by omega,List.getElem?_eq_getElem hk,e] at q2
   cases q2;exact ⟨_,_,_,rfl⟩
 rcases m1.2 with ⟨rfl,hn⟩ | ⟨g,cap,cur,rfl,hb,hgb,r1,r2,r3⟩
 ·obtain rfl:qs = []:=List.eq_nil_of_length_eq_zero hn
  refine wpList_append_own_none hgd s x 24 ho base 40 i0 2 Tryz.mr hi v ps.length us hs h1 hx (h v w (by rw [List.append_nil];exact ⟨us,h1,h2⟩) (Below.refl _ _))
 ·refine wpList_append_own w hgd s x 24 ho base 40 i0 (.agg #[.slice none 0 0,.slice none 0 0]) 2 48 Tryz.mr hi hz0 hz1 hz2 rfl (by decide) v ps.length us hs h1 ⟨g,0,none⟩ qs.length cap qI hx (by omega)
   (by intro j z hj
       have hjl:j < qs.length * 2:=by
        have:=(List.getElem?_eq_some_iff.1 hj).1
        omega
       rw [Go.WideShapes.add_plain];have:=World.ownsRow.cellAt m1 j hjl
       rw [hj] at this;simpa using this)
   (by intro u hu;obtain ⟨_,_,_,rfl⟩:=hcell u hu;rfl) (by unfold maxLen;omega) (by omega) hbase ?_
  intro v' w' hown hg _;have hk:∀ b,base≤b→(∃ cs p,w.heap[b]? = some (.cells cs 3 p))→w'.heap[b]? = w.heap[b]?:=fun b _ ⟨cs,p,hb⟩=>hg.block b (Array.getElem?_eq_some_iff.1 hb).1 fun e=>by
   obtain ⟨cur,h⟩:=oF h1 e.symm;rw [hb] at h;simp only [Option.some.injEq,Obj.cells.injEq] at h;exact absurd h.2.1 (by decide)
  refine h v' w' ⟨us++qI,by simpa using hown,fun j hj=>?_⟩ ((Below.refl base w).grown hg hbase (fun k e=>(World.ownsRow.lt h1 k e).1));by_cases hjl:j < ps.length
  ·obtain ⟨y,yc,y',ry,q1,q2,n1,n2,r⟩:=h2 j hjl
   rw [List.getElem?_append_left hjl,List.getElem?_append_left (by omega),List.getElem?_append_left (by omega)];exact ⟨y,yc,y',ry,q1,q2,n1.keep hk,n2.keep hk,r⟩
  ·have hj2:j - ps.length < qs.length:=by rw [List.length_append] at hj;omega
   obtain ⟨y,yc,y',ry,q1,q2,n1,n2,r⟩:=m2 (j - ps.length) hj2;rw [List.getElem?_append_right (by omega),List.getElem?_append_right (by omega),List.getElem?_append_right (by omega),zi];rw [show j * 2 - ps.length * 2 = (j - ps.length) * 2 by omega,show j * 2+1 - ps.length * 2 = (j - ps.length) * 2+1 by omega];exact ⟨y,yc,y',ry,q1,q2,n1.keep hk,n2.keep hk,r⟩
theorem CW (rs:aH) (a:Option Addr) (cap:Nat) (w:World) (hr:Tm.aO rs = 0) (hR:aJ w.heap.size w a rs) :
 Calls Tryz.prog 57 #[.slice a rs.length cap] w fun e w'=>Below w.heap.size w w'∧∃ er ps v,Tm.EY rs er ps∧e = .returned (.tuple #[v,.int .i64 er])∧gG w.heap.size w' v ps:=by
 have h8:=(Tm.di hr).1;have h8':(rs.length:Int)≤8:=by omega
 have HR:=hid hR;have Hr:=hid hr;clear hR hr;go_enter Tryz.func57,Tryz.ntmps57;go_wp2;go_loopw [4,5] (fun v x wr=>∃ (i:Nat) (l:ah),i≤rs.length∧x = .int .i64 (i:Int)∧l.length≤40∧Hid (Tm.iE rs i 0 l)∧Hid (gG w.heap.size wr v l)∧Hid (Below w.heap.size w wr)) (fun _ x _=>rs.length - (intOf x).toNat)
 case atStart=>exact ⟨0,[],Nat.zero_le _,rfl,by simp,.zero,gG.nil _ _,Below.refl _ _⟩
 case round =>
  obtain ⟨i,l,hi,rfl,QV,hA,hN,hB⟩:=hrel;by_cases hil:i < rs.length
  ·have amk:(i:Int) < (rs.length:Int):=by omega
   obtain ⟨va,vc,rfl,_⟩:=hN.out.at;go_wp2;go_loopw [4,6] (fun v x wr=>∃ (j:Nat) (l:ah),j≤rs.length∧x = .int .i64 (j:Int)∧l.length≤40∧Hid (Tm.iE rs i j l)∧Hid (gG w.heap.size wr v l)∧Hid (Below w.heap.size w wr)) (fun _ x _=>rs.length - (intOf x).toNat)
   case atStart=>exact ⟨0,l,Nat.zero_le _,rfl,QV,hA,hN,hB⟩
   case round =>
    clear hA hN hB QV;obtain ⟨j,l,hj,rfl,QV,hA,hN,hB⟩:=hrel;obtain ⟨va,vc,rfl,_⟩:=hN.out.at;by_cases hjl:j < rs.length
    ·have aml:(j:Int) < (rs.length:Int):=by omega
     have hC:=hid (Cf rs i j hil hjl a cap wr Hr.out ((HR.out.below hB.out).mono hB.out.size));go_wp2_with fail;refine hC.out.mono ?_;rintro e w1 ⟨hB1,er,ps,v1,hs,rfl,hN1⟩;clear hC;obtain ⟨xa,xc,rfl,_⟩:=hN1.at;have hBw:=hid (hB.out.trans (hB1.mono hB.out.size));have hNw:=hid (hN.out.below hB1);have adj:=hid (hN1.mono hB.out.size);clear hN hN1;by_cases he:er = 0
     ·subst he
      have hA':=hid (Tm.iE.next hA.out hjl hs);have hpl:=hs.few;obtain ⟨q,hq⟩:∃ q,l++ps = q:=⟨_,rfl⟩;rw [hq] at hA';have Hq:=hid hq;have hqI:(q.length:Int)≤2000:=by rw [← hq,List.length_append];omega
      clear hs hq;by_cases Di:40 < q.length
      ·have LW:(40:Int) < (q.length:Int):=by omega
       go_wp2_with (at_builtin;refine Cz _ rfl _ _ rfl w.heap.size _ l rfl hNw.out _ ps rfl adj.out (by omega) hBw.out.size ?_;intro v2 w2 eH hB2;rw [Hq.out] at eH;obtain ⟨ya,yc,rfl,_⟩:=eH.at;have hBw2:=hid (hBw.out.trans hB2);clear eH hB2)
       go_ret2
       exact ⟨hBw2.out,2,[],_,.inr ⟨Hr.out,rfl,rfl,i,j+1,q,hil,hjl,hA'.out,Di⟩,rfl,gG.nil _ _⟩
      ·have LW:decide ((40:Int) < (q.length:Int)) = false:=by simp;omega
       have amm:decide (40 < q.length) = false:=by simp;omega
       go_wp2_with (at_builtin;refine Cz _ rfl _ _ rfl w.heap.size _ l rfl hNw.out _ ps rfl adj.out (by omega) hBw.out.size ?_;intro v2 w2 eH hB2;rw [Hq.out] at eH;obtain ⟨ya,yc,rfl,_⟩:=eH.at;have YA:=hid eH;have hBw2:=hid (hBw.out.trans hB2);clear eH hB2)
       go_roundw
       case rel=>exact ⟨j+1,q,by omega,by go_num,by omega,hA',YA,hBw2⟩
       case measure=>simp [intOf];omega
     ·have hne:(er != 0) = true:=by simpa using he
      have hs':Hid (Tm.EY rs er []):=.inl (.inr ⟨i,j,l,ps,hil,hjl,hA.out,hs,he,rfl⟩);clear he hs;go_wp2;go_ret2
      exact ⟨hBw.out,er,[],_,hs'.out,rfl,gG.nil _ _⟩
    ·obtain rfl:j = rs.length:=by omega
     go_wp2;go_roundw
     case rel=>exact ⟨i+1,l,by omega,by go_num,QV,.row hA.out,hN,hB⟩
     case measure=>simp [intOf];omega
  ·obtain rfl:i = rs.length:=by omega
   obtain ⟨va,vc,rfl,_⟩:=hN.out.at;go_wp2;go_ret2
   exact ⟨hB.out,0,l,_,.inl (.inl ⟨l,hA.out,.inl ⟨QV,rfl,rfl⟩⟩),rfl,hN.out⟩
theorem CZ (rs:aH) (a:Option Addr) (cap:Nat) (w:World) (hR:aJ w.heap.size w a rs) :
 Calls Tryz.prog 23 #[.slice a rs.length cap] w fun e w'=>Below w.heap.size w w'∧∃ er ps v,Tm.EY rs er ps∧e = .returned (.tuple #[v,.int .i64 er])∧gG w.heap.size w' v ps:=by
 have hE:=hid (jR rs a cap w hR);by_cases he:Tm.aO rs = 0
 ·rw [he] at hE
  have hC:=hid (fun W (hW:Below w.heap.size w W)=>CW rs a cap W he ((hR.below hW).mono hW.size));clear he hR;go_enter Tryz.func23,Tryz.ntmps23;go_wp2_with fail;refine hE.out.mono ?_;rintro e w1 ⟨rfl,hB1⟩;clear hE;go_wp2_with fail;refine (hC.out _ hB1).mono ?_;rintro e w2 ⟨hB2,er,ps,v,hs,rfl,hN⟩;obtain ⟨x,c,rfl,_⟩:=hN.at;have Hs:=hid hs;have HN:=hid hN;clear hC hs hN;go_wp2;go_ret2
  exact ⟨hB1.trans (hB2.mono hB1.size),er,ps,_,Hs.out,rfl,HN.out.mono hB1.size⟩
 ·have hne:(Tm.aO rs != 0) = true:=by simpa using he
  have h0:0 < rs.length:=by
   cases rs with
   | nil=>exact absurd rfl he
   | cons r l=>simp
  have hs:Hid (Tm.EY rs (Tm.aO rs) []):=.inl (.inr ⟨0,0,[],[],h0,h0,.zero,.inl ⟨he,rfl,rfl⟩,he,rfl⟩);clear he hR h0;generalize Tm.aO rs = q at *;go_enter Tryz.func23,Tryz.ntmps23;go_wp2_with fail;refine hE.out.mono ?_;rintro e w1 ⟨rfl,hB1⟩;clear hE;go_wp2;go_ret2
  exact ⟨hB1,q,[],_,hs.out,rfl,gG.nil _ _⟩
end Go.Proofs.YtglohanbpjaieaaGreat
namespace Go.Proofs.YtglohanbpjaieaaGreat
open Go.Proofs Go.RowKit Go.Shelf Go.Maps Go.Deep
structure InR (w:World) (a0:Option Addr) (cap0:Nat) (rs:aH) (bt ot mW:Nat) (t:List Int) (be oe cap2:Nat) (ps:ah) (bP oP cP:Nat) (P:List Int) (bQ oQ cQ:Nat) (Q:List Int):Prop where
 R:∀ W,Below w.heap.size w W→aJ W.heap.size W a0 rs
 T:∀ W,Below w.heap.size w W→Ints W.heap.size W (some ⟨bt,ot,none⟩) t
 E:∀ W,Below w.heap.size w W→aJ W.heap.size W (some ⟨be,oe,none⟩) ps
 iP:∀ W,Below w.heap.size w W→Ints W.heap.size W (some ⟨bP,oP,none⟩) P
 iQ:∀ W,Below w.heap.size w W→Ints W.heap.size W (some ⟨bQ,oQ,none⟩) Q
 cl:∀ W,Below w.heap.size w W→W.cell? ⟨be,oe,none⟩ = some (.slice (some ⟨bP,oP,none⟩) P.length cP)∧W.cell? ⟨be,oe+1,none⟩ = some (.slice (some ⟨bQ,oQ,none⟩) Q.length cQ)
 hr:rs.length≤cap0∧cap0≤maxLen∧(a0 = none→cap0 = 0)
 ht:t.length≤mW∧mW≤maxLen∧t.length≤30
 he:ps.length≤cap2∧cap2≤maxLen∧0 < ps.length
 hp:P.length≤cP∧cP≤maxLen∧P.length≤30
 hq:Q.length≤cQ∧cQ≤maxLen∧Q.length≤30
structure Late (W:World) (x3:Option Addr) (t:List Int) (k4:Nat) (aP:Option Addr) (c4:Nat) (P:List Int) (aQ:Option Addr) (d4:Nat) (Q:List Int) (rs:aH) (er7:Int) (ps7 ps:ah) (er9:Int) (rs9 ps9:ah) (er:Int) (is:Bool) (val:List (List Int)) (au:Option Addr):Prop where
 was:Ints W.heap.size W x3 t
 fst:W.cell? ⟨k4,0,none⟩ = some (.slice aP P.length c4)∧W.cell? ⟨k4,1,none⟩ = some (.slice aQ Q.length d4)∧k4 < W.heap.size
 iP:Ints W.heap.size W aP P
 iQ:Ints W.heap.size W aQ Q
 s7:Tm.gT rs er7 ps7
 s9:Tm.fw rk6 rs ps er9 rs9 ps9
 sM:Tm.dQ [(P,Q)] er is val
 u:gu W.heap.size W au val
theorem FO (rs:aH) (t:List Int) (al at':Option Addr) (cl ct:Nat) (w:World) (hR:aJ w.heap.size w al rs) (hT:Ints w.heap.size w at' t) (h1:t.length≤ct) (h2:ct≤maxLen) :
 Calls Tryz.prog 24 #[.slice al rs.length cl,.slice at' t.length ct] w fun e w'=>e = .returned (.int .i64 (Tm.bn rs t))∧Below w.heap.size w w':=by
 have h:=hid (Cy rs t al at' cl ct w hR hT h1 h2);clear hR hT;go_enter Tryz.func24,Tryz.ntmps24;go_wp2_with fail;refine h.out.mono ?_;rintro e w1 ⟨v,rfl,_,b⟩;go_wp2;go_ret;exact ⟨rfl,b⟩
theorem rC (xs:List Int) (a b:Option Addr) (ca cb:Nat) (w:World) (hX:Ints w.heap.size w a xs) (hY:Ints w.heap.size w b xs) (hm:xs.length≤maxLen) :
 Calls Tryz.prog 25 #[.slice a xs.length ca,.slice b xs.length cb] w fun e w'=>e = .returned (.bool true)∧Below w.heap.size w w':=by
 have h:=nO xs xs a b ca cb w hX hY hm;rwa [show dK xs xs = true by simp [dK]] at h
theorem Je (xs:List (List Int)) (a b:Option Addr) (ca cb:Nat) (w:World) (hX:gu w.heap.size w a xs) (hY:gu w.heap.size w b xs) (hm:xs.length≤1000) :
 Calls Tryz.prog 26 #[.slice a xs.length ca,.slice b xs.length cb] w fun e w'=>e = .returned (.bool true)∧Below w.heap.size w w':=by
 have h:=IG xs xs a b ca cb w hX hY hm;rwa [show o7 xs xs = true by simp [o7]] at h
theorem Tm.dQ.len8 {ps:ah} {er:Int} {is:Bool} {val:List (List Int)} (A:Tm.dQ ps er is val):val.length≤8:=by
 rcases A with ⟨_,_,_,rfl⟩ | ⟨_,_,_,_,rfl⟩ | ⟨_,σ,_,_,_,_,rfl⟩ | ⟨_,_,_,_,_,_,rfl⟩
 ·simp
 ·simp
 ·rw [Tm.gF];exact Nat.le_refl _
 ·simp
theorem Ints.at2 {W V:World} {a:Option Addr} {zs:List Int} (h:Ints W.heap.size W a zs) (hB:Below W.heap.size W V):Ints V.heap.size V a zs:=(h.below hB).mono hB.size
theorem aJ.at2 {W V:World} {a:Option Addr} {rs:aH} (h:aJ W.heap.size W a rs) (hB:Below W.heap.size W V):aJ V.heap.size V a rs:=(h.below hB).mono hB.size
theorem gu.at2 {W V:World} {a:Option Addr} {ss:List (List Int)} (h:gu W.heap.size W a ss) (hB:Below W.heap.size W V):gu V.heap.size V a ss:=(h.below hB).mono hB.size
theorem gH {f:Nat} {args:Array Value} {W V:World} {v:Value} (h:Calls Tryz.prog f args V fun e w'=>e = .returned v∧Below V.heap.size V w') (hV:Below W.heap.size W V):Calls Tryz.prog f args V fun e w'=>e = .returned v∧Below W.heap.size W w' :=
 h.mono fun _ _ ⟨h1,h2⟩=>⟨h1,hV.trans (h2.mono hV.size)⟩
theorem ag9 {w W:World} {a0 x3 aP aQ au:Option Addr} {cap0 mW cap2 bt ot be oe bP oP bQ oQ cP cQ k3 k4 n4 d4 cu:Nat} {rs:aH} {ps ps7 rs9 ps9:ah} {t P Q:List Int} {er7 er9 er:Int} {is:Bool} {val:List (List Int)}
 (I:InR w a0 cap0 rs bt ot mW t be oe cap2 ps bP oP cP P bQ oQ cQ Q) (B:Below w.heap.size w W) (L:Late W x3 t k4 aP n4 P aQ d4 Q rs er7 ps7 ps er9 rs9 ps9 er is val au) {c3 c4 c5 c6 c9 c10 c12 c14 c16 c17 c21 Pt c23 c24 Vj Pv Pw c28 Px MU c31 c32 MV c34 MW MX c37 MZ M0 c40 Jl M5 M7 M8 Nb c46 Nc Nf c49 Ng c51 Nh c53 Ni Nj Nk Nl Nn c59 Np Nq Nr Ns c64 Nt Nu Nv Nw Ny c70 Nz c72 NA NB c75 c76 NC ND NF c80 NG NH NI NJ c85 NK c87 NL NM NN c91 NP c93 NQ NR NS NT NU NV sS sU sV sW sZ c105 tq c107 tu c109 tC tF tH tJ tK tL c116 c117 tN c119 tO tQ tT zL c124 zM zN c127 zO zQ c130 c131 zS zT zU zV zX zY c138 c139 zZ c141 z8 c143 Aa c145 c146 Ab c148 Ac Ad Ae c152 Af c154 Ag c156 c157 Ah c159 c160 Ai c162 Aj c164 Ak Al c167 c168 Am Ao c171 Ap c173 Aq c175 Ar Au Av Aw Ay Az c182 c183 AA AB AJ AL AO AP AQ AR AU c193 c194 AV c196 AZ c198 A7 A8 c201 A9 c203 Bb Bc c206 Be c208 Bg c210 Bh c212 c213 Bi Bj Bl Bn c218 Bo tV tX c222 tY tZ uf c226 c227 c228 c229 ug uh c232 c233 c234 ui c236 uj uk um uo uq uu uw uy uz uA uB uC uD uE uF uG uH uI uJ uK uM uN uO uP uQ uS uT uU uV uW uX uY uZ ve vg vB vD vE vF vG vH vI vJ vK vM vO vQ vS vT vU vV vW vX vY vZ wh wm wo wu wy wz wB wC wD wE wF wG wH wI wJ wK wM wN wO wQ wS wT wU wV wW wX wY wZ xg xh xk xm xn xq xu xw xx xy xz xA xB xC xD xE xG xH xI xJ xK xM xN xO xQ xS xU xV xW xX xY xZ yf yg yh yj yl ym yn yo yt yu yw yx:Value} :
 Code.wp Tryz.prog (spine 14 (Tryz.f5.body.getD .skip)) (bodyPost Tryz.prog Tryz.f5 fun e w'=>e = .returned (.bool true)∧Below w.heap.size w w') ⟨#[.slice a0 rs.length cap0,.slice (some ⟨bt,ot,none⟩) t.length mW,.slice (some ⟨be,oe,none⟩) ps.length cap2,c3,c4,c5,c6,.slice x3 t.length k3,.pointer (some ⟨k4,0,none⟩),c9,c10,.int .i64 (Tm.form rs t).2.2,c12,.int .i64 (Tm.bn rs t),c14,.int .i64 er7,c16,c17,.int .i64 er9,.slice au val.length cu,.bool is,c21,Pt,c23,c24,Vj,Pv,Pw,c28,Px,MU,c31,c32,MV,c34,MW,MX,c37,MZ,M0,c40,Jl,M5,M7,M8,Nb,c46,Nc,Nf,c49,Ng,c51,Nh,c53,Ni,Nj,Nk,Nl,Nn,c59,Np,Nq,Nr,Ns,c64,Nt,Nu,Nv,Nw,Ny,c70,Nz,c72,NA,NB,c75,c76,NC,ND,NF,c80,NG,NH,NI,NJ,c85,NK,c87,NL,NM,NN,c91,NP,c93,NQ,NR,NS,NT,NU,NV,sS,sU,sV,sW,sZ,c105,tq,c107,tu,c109,tC,tF,tH,tJ,tK,tL,c116,c117,tN,c119,tO,tQ,tT,zL,c124,zM,zN,c127,zO,zQ,c130,c131,zS,zT,zU,zV,zX,zY,c138,c139,zZ,c141,z8,c143,Aa,c145,c146,Ab,c148,Ac,Ad,Ae,c152,Af,c154,Ag,c156,c157,Ah,c159,c160,Ai,c162,Aj,c164,Ak,Al,c167,c168,Am,Ao,c171,Ap,c173,Aq,c175,Ar,Au,Av,Aw,Ay,Az,c182,c183,AA,AB,AJ,AL,AO,AP,AQ,AR,AU,c193,c194,AV,c196,AZ,c198,A7,A8,c201,A9,c203,Bb,Bc,c206,Be,c208,Bg,c210,Bh,c212,c213,Bi,Bj,Bl,Bn,c218,Bo,tV,tX,c222,tY,tZ,uf,c226,c227,c228,c229,ug,uh,c232,c233,c234,ui,c236,uj,uk,um,uo,uq,uu,uw,uy,uz,uA,uB,uC,uD,uE,uF,uG,uH,uI,uJ,uK,uM,uN,uO,uP,uQ,uS,uT,uU,uV,uW,uX,uY,uZ,ve,vg,vB,vD,vE,vF,vG,vH,vI,vJ,vK,vM,vO,vQ,vS,vT,vU,vV,vW,vX,vY,vZ,wh,wm,wo,wu,wy,wz,wB,wC,wD,wE,wF,wG,wH,wI,wJ,wK,wM,wN,wO,wQ,wS,wT,wU,wV,wW,wX,wY,wZ,xg,xh,xk,xm,xn,xq,xu,xw,xx,xy,xz,xA,xB,xC,xD,xE,xG,xH,xI,xJ,xK,xM,xN,xO,xQ,xS,xU,xV,xW,xX,xY,xZ,yf,yg,yh,yj,yl,ym,yn,yo,yt,yu,yw,yx],[]⟩ W:=by
 have cF:=hid (om rs t a0 (some ⟨bt,ot,none⟩) cap0 mW W (I.R W B) (I.T W B) I.ht.1 I.ht.2.1);conv=>arg 2;whnf
 go_wp2_with fail;refine cF.out.mono ?_;clear cF;rintro e V5 ⟨vy,rfl,ny,b5⟩;have B5:=B.trans (b5.mono B.size);have cA:=hid (J6 rs a0 cap0 V5 (I.R V5 B5) (Nat.le_trans I.hr.1 I.hr.2.1));go_wp2_with fail;refine cA.out.mono ?_;clear cA;rintro e V6 ⟨amn,amo,vv,says,rfl,nv,b6⟩;obtain ⟨rfl,rfl⟩:=L.s7.one says;have B6:=B5.trans (b6.mono B5.size);go_wp2_with fail;refine (EZ V6).mono ?_;rintro e V7 ⟨ak,rfl,ik,b7⟩;have B7:=B6.trans (b7.mono B6.size);have cU:=hid (Ko rk6 rs ps ak a0 (some ⟨be,oe,none⟩) 6 cap0 cap2 V7 ik (I.R V7 B7) (I.E V7 B7) I.he.1 I.he.2.1);go_wp2_with fail;refine cU.out.mono ?_;clear cU;rintro e V8 ⟨amq,amr,ams,vw,vz,KX,rfl,nw,nz,b8⟩;obtain ⟨rfl,rfl,rfl⟩:=Tm.fw.one (fun _ _ _ _ _ _ _ h h'=>h.one h') L.s9 KX;have B8:=B7.trans (b8.mono B7.size);have cG:=hid (MQ rs t a0 (some ⟨bt,ot,none⟩) cap0 mW V8 (I.R V8 B8) (I.T V8 B8) I.ht.1 I.ht.2.1);go_wp2_with fail;refine cG.out.mono ?_;clear cG;rintro e V9 ⟨vk,rfl,nk,b9⟩;have B9:=B8.trans (b9.mono B8.size);have cL:=hid (CZ rs a0 cap0 V9 (I.R V9 B9));go_wp2_with fail;refine cL.out.mono ?_;clear cL;rintro e V10 ⟨b10,ajn,ajo,vl,XM,rfl,nl⟩;obtain ⟨rfl,rfl⟩:=L.s7.ref XM;have B10:=B9.trans (b10.mono B9.size);go_wp2_with fail;refine (EZ V10).mono ?_;rintro e V11 ⟨ak2,rfl,ik2,b11⟩;have B11:=B10.trans (b11.mono B10.size);have cT:=hid (FM rk6 rs ps ak2 a0 (some ⟨be,oe,none⟩) 6 cap0 cap2 V11 ik2 (I.R V11 B11) (I.E V11 B11) I.hr.2.2 I.he.1 I.he.2.1);go_wp2_with fail;refine cT.out.mono ?_;clear cT;rintro e Vk ⟨ajq,ajr,ajs,vm,vr,mm,UG,rfl,nm,nr,b12⟩;obtain ⟨rfl,rfl,rfl⟩:=Tm.fw.one (fun _ _ _ _ _ _ _ h h'=>h.one h') L.s9 UG;have QK:=B11.trans (b12.mono B11.size);have XN:0 < ps.length:=I.he.2.2;have hpos:(0:Int) < (ps.length:Int):=by omega
 have adp:=hid (fun V (hV:Below Vk.heap.size Vk V)=>I.cl V (QK.trans (hV.mono QK.size)));have cM:=hid (fun V (hV:Below Vk.heap.size Vk V)=>EJ P Q (some ⟨bP,oP,none⟩) (some ⟨bQ,oQ,none⟩) cP cQ V (I.iP V (QK.trans (hV.mono QK.size))) (I.iQ V (QK.trans (hV.mono QK.size))) I.hp.1 I.hp.2.1 I.hq.1 I.hq.2.1);have Hny:=hid ny;have Hnv:=hid nv;have Hnw:=hid nw;have Hnz:=hid nz;have Hnk:=hid nk;have Hnl:=hid nl;have XL:=hid nm;have Hnr:=hid nr;have HL:=hid L;have HI:=hid I;have d11:=b11.trans (b12.mono b11.size);have d10:=b10.trans (d11.mono b10.size);have d9:=b9.trans (d10.mono b9.size);have d8:=b8.trans (d9.mono b8.size);have d7:=b7.trans (d8.mono b7.size);have d6:=b6.trans (d7.mono b6.size);have d5:=b5.trans (d6.mono b5.size);have H0:=hid d5;have H5:=hid d6;have H6:=hid d7;have H8:=hid d9;have H9:=hid d10;have H10:=hid d11;have adq:=hid QK;clear ny nv nw nz nk nl nm nr L I says XM KX UG d5 d6 d7 d8 d9 d10 d11 b5 b6 b7 b8 b9 b10 b11 b12 B B5 B6 B7 B8 B9 B10 B11 QK ik ik2;go_upto_region 43 with fail
 rename_i Kn hKn;go_cut [46,47,48] (fun x y z wx=>∃ au2 cu2,x = .slice au2 val.length cu2∧y = .bool is∧z = .int .i64 er∧gu wx.heap.size wx au2 val∧Below Vk.heap.size Vk wx)
 case first =>
  go_region_held3 (fun w'=>w'.cell? ⟨be,oe,none⟩ = some (.slice (some ⟨bP,oP,none⟩) P.length cP)∧w'.cell? ⟨be,oe+1,none⟩ = some (.slice (some ⟨bQ,oQ,none⟩) Q.length cQ)) (first | assumption | exact adp.out _ (below_drewN (Below.refl _ Vk) 1) | exact adp.out _ b13)
   ((go_at_call 21;refine (cM.out _ (below_drewN (Below.refl _ Vk) 1)).mono ?_;rintro e V13 ⟨ahb,FB,is',Yq,vu,sM',rfl,nu⟩;have b13:=(below_drewN (Below.refl _ Vk) 1).trans ahb))
  all_goals (
   obtain ⟨rfl,rfl,rfl⟩:=HL.out.sM.one sM';obtain ⟨au2,cu2,rfl,su,_⟩:=dG.subs nu;go_wp2_with fail;go_meet;exact ⟨au2,cu2,rfl,rfl,rfl,su,b13⟩)
 case rest =>
  obtain ⟨au2,cu2,rfl,rfl,rfl,su2,b13⟩:=hcut;have hB:=adq.out.trans (b13.mono adq.out.size);have e0:=H0.out.trans (b13.mono H0.out.size);have e5:=H5.out.trans (b13.mono H5.out.size);have e6:=H6.out.trans (b13.mono H6.out.size);have e8:=H8.out.trans (b13.mono H8.out.size);have e9:=H9.out.trans (b13.mono H9.out.size);have e10:=H10.out.trans (b13.mono H10.out.size);obtain ⟨ay,cy,rfl,iy,my,my'⟩:=New.ints Hny.out;obtain ⟨ak3,ck,rfl,ik,_⟩:=New.ints Hnk.out;obtain ⟨av,cv,rfl,iv,_⟩:=Hnv.out.at;obtain ⟨al,cl,rfl,il,_⟩:=Hnl.out.at;obtain ⟨aw,cw,rfl,iw,_⟩:=Hnw.out.at;obtain ⟨az,cz,rfl,iz,_⟩:=Hnz.out.at;obtain ⟨am,cm,rfl,im,_⟩:=XL.out.at;obtain ⟨ar,cr,rfl,ir,_⟩:=Hnr.out.at;have l7:=HL.out.s7.lens;have l9:=Tm.Gy HL.out.s9;have lv:=HL.out.sM.len8;have lF:(Tm.form rs t).1.length≤maxLen:=Nat.le_trans my my';have q1:=hid (fun V (hV:Below wc.heap.size wc V)=>gH (jk V) hV);have q2:=hid (fun V (hV:Below wc.heap.size wc V)=>gH (FO rs t a0 (some ⟨bt,ot,none⟩) cap0 mW V (HI.out.R V (hB.trans (hV.mono hB.size))) (HI.out.T V (hB.trans (hV.mono hB.size))) HI.out.ht.1 HI.out.ht.2.1) hV);have q3:=hid (fun V (hV:Below wc.heap.size wc V)=>gH (rC t (some ⟨bt,ot,none⟩) x3 mW k3 V (HI.out.T V (hB.trans (hV.mono hB.size))) (HL.out.was.at2 (e0.trans (hV.mono e0.size))) (by have:=HI.out.ht.1;have:=HI.out.ht.2.1;omega)) hV);have q4:=hid (fun V (hV:Below wc.heap.size wc V)=>gH (rC P (some ⟨bP,oP,none⟩) aP cP n4 V (HI.out.iP V (hB.trans (hV.mono hB.size))) (HL.out.iP.at2 (e0.trans (hV.mono e0.size))) (by have:=HI.out.hp.1;have:=HI.out.hp.2.1;omega)) hV);have q5:=hid (fun V (hV:Below wc.heap.size wc V)=>gH (rC Q (some ⟨bQ,oQ,none⟩) aQ cQ d4 V (HI.out.iQ V (hB.trans (hV.mono hB.size))) (HL.out.iQ.at2 (e0.trans (hV.mono e0.size))) (by have:=HI.out.hq.1;have:=HI.out.hq.2.1;omega)) hV);have q6:=hid (fun V (hV:Below wc.heap.size wc V)=>gH (rC (Tm.form rs t).1 ay ak3 cy ck V (iy.at2 (e5.trans (hV.mono e5.size))) (ik.at2 (e9.trans (hV.mono e9.size))) lF) hV);have q7:=hid (fun V (hV:Below wc.heap.size wc V)=>gH (rX ps7 av al cv cl V (iv.at2 (e6.trans (hV.mono e6.size))) (il.at2 (e10.trans (hV.mono e10.size))) l7.1 l7.2) hV);have q8:=hid (fun V (hV:Below wc.heap.size wc V)=>gH (FL rs9 aw am cw cm V (iw.at2 (e8.trans (hV.mono e8.size))) (im.at2 (b13.trans (hV.mono b13.size))) l9.1.1 l9.1.2) hV);have q9:=hid (fun V (hV:Below wc.heap.size wc V)=>gH (rX ps9 az ar cz cr V (iz.at2 (e8.trans (hV.mono e8.size))) (ir.at2 (b13.trans (hV.mono b13.size))) l9.2.1 l9.2.2) hV);have q10:=hid (fun V (hV:Below wc.heap.size wc V)=>gH (Je val au au2 cu cu2 V (HL.out.u.at2 (e0.trans (hV.mono e0.size))) (su2.at2 hV) (by omega)) hV);have hS:=hid (fun V (hV:Below wc.heap.size wc V)=>show V.cell? ⟨be,oe,none⟩ = some (.slice (some ⟨bP,oP,none⟩) P.length cP)∧V.cell? ⟨be,oe+1,none⟩ = some (.slice (some ⟨bQ,oQ,none⟩) Q.length cQ)∧V.cell? ⟨k4,0,none⟩ = some (.slice aP P.length n4)∧V.cell? ⟨k4,0+1,none⟩ = some (.slice aQ Q.length d4) from ⟨(HI.out.cl V (hB.trans (hV.mono hB.size))).1,(HI.out.cl V (hB.trans (hV.mono hB.size))).2,((e0.trans (hV.mono e0.size)).cell (p:=⟨k4,0,none⟩) HL.out.fst.2.2).trans HL.out.fst.1,((e0.trans (hV.mono e0.size)).cell (p:=⟨k4,1,none⟩) HL.out.fst.2.2).trans HL.out.fst.2.1⟩);refine hKn _ _ ?_;refine ag0 (by kernel_rfl) (by rfl) XN (by rfl) (by rfl) (by rfl) (by rfl) (by rfl) (by rfl) (by rfl) (by rfl) (by rfl) (by rfl) (by rfl) (by rfl) (by rfl) (by rfl) (by rfl) (by rfl) (by rfl) (by rfl) (by rfl) (by rfl) (by rfl) (by rfl) (by rfl) (by rfl) (by rfl) (by rfl) (by rfl) hS.out q1.out q2.out q3.out q4.out q5.out q6.out q7.out q8.out q9.out q10.out hB
end Go.Proofs.YtglohanbpjaieaaGreat
