/-
  Parts of the proof.
-/
import Derived.Test.YtglohanbpjaieaaGreatDoorBdp22
set_option maxHeartbeats 4000000
set_option maxRecDepth 100000
namespace Go.Proofs.YtglohanbpjaieaaGreatDoor
open Go.Proofs Go.RowKit Go.Shelf Go.Maps
variable {B I:Option Addr}{E:Nat->List Nat}{F:Int}{G:Nat->Int}{J:List Value}{L:Oper}{M:Act}{P Q:Wb.Sb}{R:List (List Int)}{S:Nat->Nat->Prop}{T:Act->World->Prop}{W:Array Oper}{X:Exit->Act->World->Prop}{Y:Prop}{b n A H:Nat}{e w C:List Int}{f y:World}{h D:List Nd}{o z N O:Value}{t:bg}{u U:Nat->Nat}
def QG(L:List Nd)(k:Nat):Nat:=(kK L k).X
def vU(L:List Nd)(k:Nat):Int:=(kK L k).s
def OK(L:List Nd)(k:Nat):List Int:=(kK L k).z
def QC(L:List Nd)(k i:Nat):Nat:=(kK L k).Xs[i]?.getD 0
theorem Qo:∀m,(∀j,j<m->∃i,S j i)->∃l:List Nat,l.length=m∧∀j,j<m->S j (l[j]?.getD 0):=by
 intro m;induction m with
 |zero=>intro _;exact⟨[],rfl,fun j b=>by omega⟩
 |succ m e=>
  intro f;obtain⟨l,a,c⟩:=e fun j b=>f j (by omega)
  obtain⟨i,d⟩:=f m (by omega);refine⟨l++[i],by simp[a],fun j b=>?_⟩;by_cases g:j=m
  ·subst g;rw[<-a];simpa [a]using d
  ·rw[aV (by omega)];exact c j (by omega)
def NV(L:List Nd)(K:Nat->List Nat):Prop:=∀k,k<L.length->(K k).length=(kK L k).Xs.length∧∀j,j<(kK L k).Xs.length->Dk L (QC L k j) ((kK L k).gK[j]?.getD []) ((K k)[j]?.getD 0)
theorem PM(f:∀d∈h,xX h d):∃K,NV h K:=by
 have g:∀a:Nat,∃e:List Nat,a<h.length->e.length=(kK h a).Xs.length∧∀c,c<(kK h a).Xs.length->Dk h (QC h a c) ((kK h a).gK[c]?.getD []) (e[c]?.getD 0):=fun a=>by
  by_cases b:a<h.length
  ·obtain⟨e,i,j⟩:=Qo _ (f _ (ma b))
   exact⟨e,fun _=>⟨i,j⟩⟩
  ·exact⟨[],fun f=>absurd f b⟩
 obtain⟨K,k⟩:=Classical.skolem.1 g;exact⟨K,k⟩
theorem Mx(q:TB f b o z h n u)(c:NV h E):Mt.Bi h.length (vU h) E (OK h):=by
 refine⟨fun d a=>?_,fun d a=>?_,fun d a v g=>?_,fun d a=>?_,fun v p g e s j=>q.one v p g e s j⟩
 ·obtain⟨_,_,_,_,_,_,_,_,_,_,_,_,l,_⟩:=q.Eg _ (ma a)
  exact l _ (by unfold Nd.z;simp[vU])
 ·obtain⟨_,_,_,_,_,_,_,_,_,_,m,_⟩:=q.Eg _ (ma a)
  rw[(c d a).1,m];rfl
 ·obtain⟨p,e,j⟩:=gQ g
  have k:=((c d a).2 p (by rw[<-(c d a).1];exact e)).1;rw[an e,j]at k;exact k
 ·obtain⟨_,_,_,_,_,_,_,_,_,_,m,r,_⟩:=q.Eg _ (ma a)
  show(kK h d).s::(kK h d).gK.flatten=_;have j:(E d).map (OK h)=(kK h d).gK:=by
   refine iA (by rw[en,(c d a).1,r]) fun p i t=>?_
   rw[en]at i;rw[kZ];have k:=((c d a).2 p (by rw[<-(c d a).1];exact i)).2.1;rw[an i,an t]at k;exact k
  rw[j];rfl
theorem My(i:gv n A f b e):n<=b∧b<A∧∃v,Node f b (Nu e) v:=by
 cases i with
 |mk _ j v h g a c d=>exact⟨a,c,v,d⟩
theorem TB.ties(e:TB f b o z h h.length u)(R:NV h E)(Ye:h.length<=5000)(M:0<h.length):∃J y g x,o=.slice J h.length y∧z=.slice (some ⟨g,0,none⟩) h.length x∧pH f b h.length J y g x (QG h) u (vU h) E (QC h):=by
 obtain⟨i,x,rfl,_⟩:=cU.PC e.vW (by rw[Mt.kG];exact M);rw[Mt.kG]at e;obtain⟨j,y,rfl,Yp,_⟩:=World.ownsRow.form e.xF M;refine⟨some ⟨j,0,none⟩,y,i,x,rfl,by rw[Mt.kG],(bn e.vW i rfl).2,fun w D Yr Q=>?_,?_⟩
 ·have Yo:=(bn e.vW i rfl).1
  have T:w.heap[b]?=f.heap[b]?:=D.block b e.lt (by omega);have S:w.heap[j]?=f.heap[j]?:=D.block j (bn e.xF j rfl).2 fun n=>e.apart (q:=i) (by rw[n];rfl) rfl
  refine⟨(aH (a:=⟨b,0,none⟩) T).trans ((dp e.cell 0).trans rfl),(aH (a:=⟨b,1,none⟩) T).trans ((dp e.cell 1).trans rfl),fun l c=>?_,fun l c=>⟨i,0,rfl,by rw[cI];exact Q l c⟩,fun l c=>?_,fun l m c k=>?_,fun l m c k=>?_,Ye⟩
  ·obtain⟨J,Yn,n,Yf⟩:=e.form
   simp only[iS,Se]at n;obtain⟨rfl,rfl⟩:=n;obtain⟨U,v,n,L⟩:=Yf l c;simp only[dx,RC]at n;obtain⟨rfl,rfl,_⟩:=n;exact⟨j,0,rfl,(aH (a:=⟨j,0+l,none⟩) S).trans L⟩
  ·obtain⟨F,k,Yq,N,O,A,K,s,B,⟨a,Yt,rfl,C⟩,t,P,G,r⟩:=e.Eg _ (ma c)
   have d:∀q,F<=q->q<k->w.heap[q]?=f.heap[q]?:=fun q Yh Yi=>D.block q (by omega) fun n=>by have:=A i (.inr rfl);omega
   rw[t]at B C;refine⟨a,Yt,(d _ K s).trans B,fun m k=>?_⟩;obtain⟨U,v,n,V,W,L⟩:=C m k;exact⟨U,v,n,(aH (a:=⟨U,v+m,none⟩) (d U V W)).trans L⟩
  ·obtain⟨F,H,Yq,N,O,A,K,s,B,C,t,P,G,r⟩:=e.Eg _ (ma c)
   have d:∀q,F<=q->q<H->w.heap[q]?=f.heap[q]?:=fun q Yh Yi=>D.block q (by omega) fun n=>by have:=A i (.inr rfl);omega
   have I:m<(kK h l).Xs.length:=by rw[t];exact k
   obtain⟨Yj,Yk,Ym,Yl⟩:=My (r m I);have hF:=(R l c).2 m I;have p:vU h ((E l)[m]?.getD 0)=Nu ((kK h l).gK[m]?.getD []):=by rw[<-hF.2.1];rfl
   rw[p];exact⟨Ym,(d _ Yj Yk).trans Yl⟩
  ·obtain⟨F,H,Yq,N,O,A,K,s,B,C,t,P,G,r⟩:=e.Eg _ (ma c)
   obtain⟨X,Y,Z,Yc⟩:=(R l c).2 m (by rw[t];exact k);have p:vU h ((E l)[m]?.getD 0)=Nu ((kK h l).gK[m]?.getD []):=by rw[<-Y];rfl
   exact⟨X,fun Yd q Yg=>by rw[p];exact Z (by rw[<-p];exact Yd) q Yg,fun Yd=>Yc (by rw[<-p];exact Yd)⟩
 ·exact e.vW.mono (bf _)
theorem cU.Qa{base:Nat}(h:cU base f (.slice (some ⟨b,0,none⟩) A H) e)(g:n<=b):cU n f (.slice (some ⟨b,0,none⟩) A H) e:=by
 refine⟨h.1,?_⟩;rcases h.2 with⟨c,_⟩|⟨j,i,a,c,_,d⟩
 ·cases c
 ·cases c
  exact .inr ⟨_,_,a,rfl,g,d⟩
theorem TB.tied(c:TB f H o (.slice (some ⟨n,0,none⟩) b A) h b U)(a:eZ f.heap.size n f y)(m:cU 0 y (.slice (some ⟨n,0,none⟩) b A) (Mt.Ao b u)):TB y H o (.slice (some ⟨n,0,none⟩) b A) h b u∧WK f y H o (.slice (some ⟨n,0,none⟩) b A) o (.slice (some ⟨n,0,none⟩) b A):=by
 have e:=(bn c.vW n rfl).1;have d:WK f y H o (.slice (some ⟨n,0,none⟩) b A) o (.slice (some ⟨n,0,none⟩) b A):=⟨a.os,a.tape,a.output,a.size,fun s k _ _ l=>a.block s k fun i=>l (by rw[i];rfl),fun _ j=>.inl j,fun _ j=>.inl j⟩;refine⟨⟨(a.block H c.lt (by omega)).trans c.cell,jR c.xF fun q g=>a.block q (bn c.xF q g).2 fun i=>c.apart g (by rw[i];rfl),m.Qa e,fun r p=>(c.Eg r p).eV d,c.one⟩,d⟩
theorem WK.below(a:WK f y b o z N O)(c:TB f b o z h n u):Below b f y:=
 ⟨a.os,a.tape,a.output,a.size,fun e g=>a.block e (by have:=c.lt;omega) (by omega) (fun d=>by have:=(bn c.xF e d.symm).1;omega) (fun d=>by have:=(bn c.vW e d.symm).1;omega)⟩
structure MI(ps:bg)(k:Nat)(L:List Nd)(C:Nat->Nat):Prop where
 lt:∀q,q<L.length->C q<L.length
 out:∀q,L.length<=q->C q=q
 sound:∀θ,Wb.jJ θ->Wb.xE ps k θ->Mt.nO L.length (OK L) C θ
 tied:∀j,j<k->∃a b,a<L.length∧b<L.length∧OK L a=(ps[j]?.getD ([],[])).1∧OK L b=(ps[j]?.getD ([],[])).2∧C a=C b
 full:∀d∈L,xX L d
theorem MI.start(b:bg):MI b 0 [] (fun c=>c):=⟨fun c a=>by simp at a,fun _ _=>rfl,fun _ _ _ f _ a=>by simp at a,fun g d=>by omega,fun e a=>by simp at a⟩
theorem MI.uf(a:MI t b h u):uf h.length u=u:=EB a.out
theorem Bn(a:List Nd)(c:b<h.length):OK (h++a) b=OK h b:=by unfold OK;rw[nG a c]
theorem MI.ext(a:MI t b D u)(q:∀d∈h,xX (D++h) d):MI t b (D++h) u:=by
 refine⟨fun l e=>?_,fun l e=>a.out l (by rw[ai]at e;omega),fun B x w m f A k i=>?_,fun f k=>?_,fun d v=>?_⟩
 ·rw[ai]at e⊢
  by_cases j:l<D.length
  ·have:=a.lt l j;omega
  ·rw[a.out l (by omega)];exact e
 ·by_cases g:m<D.length
  ·by_cases c:f<D.length
   ·rw[Bn h g,Bn h c];exact a.sound B x w m f g c i
   ·rw[a.out f (by omega)]at i;have:=a.lt m g;omega
  ·rw[a.out m (by omega)]at i
   by_cases c:f<D.length
   ·have:=a.lt f c;omega
   ·rw[a.out f (by omega)]at i;rw[i]
 ·obtain⟨y,z,r,s,n,o,p⟩:=a.tied f k
  exact⟨y,z,by rw[ai];omega,by rw[ai];omega,by rw[Bn h r];exact n,by rw[Bn h s];exact o,p⟩
 ·rcases dZ.1 v with j|j
  ·exact(a.full d j).app h
  ·exact q d j
theorem MI.tie(d:MI t A h u)(a:b<h.length)(c:n<h.length)(e:OK h b=(t[A]?.getD ([],[])).1)(f:OK h n=(t[A]?.getD ([],[])).2):MI t (A+1) h (Mt.tied u b n):=by
 refine⟨Mt.KC d.lt c,fun z r=>?_,fun B v s=>?_,fun w y=>?_,d.full⟩
 ·unfold Mt.tied
  have:=d.lt b a
  rw[d.out z r,aE (by omega)]
 ·obtain⟨p,q⟩:=s.succ
  refine(d.sound B v p).tie a c ?_;rw[e,f];exact q
 ·by_cases x:w=A
  ·subst x
   exact⟨b,n,a,c,e,f,Mt.Lm u b n⟩
  ·obtain⟨j,k,g,i,l,m,o⟩:=d.tied w (by omega)
   exact⟨j,k,g,i,l,m,Mt.zW b n o⟩
theorem TB.below(c:TB f b o z h n u)(a:Below f.heap.size f y):TB y b o z h n u∧WK f y b o z o z:=by
 have d:WK f y b o z o z:=⟨a.os,a.tape,a.output,a.size,fun m k _ _ _=>a.block m k,fun _ i=>.inl i,fun _ i=>.inl i⟩;exact⟨⟨(a.block b c.lt).trans c.cell,jR c.xF fun g e=>a.block g (bn c.xF g e).2,jR c.vW fun g e=>a.block g (bn c.vW g e).2,fun l j=>(c.Eg l j).eV d,c.one⟩,d⟩
theorem TB.start(c:World):TB (c.alloc (.cells #[.slice none 0 0,.slice none 0 0] 220)) c.heap.size (.slice none 0 0) (.slice none 0 0) [] 0 (fun d=>d):=
 ⟨aM c _,gq _ _ _ _,cU.nil _ _,fun e a=>by simp at a,fun f g b=>by simp at b⟩
theorem DW{W1:World}(c:TB f b o z h h.length u)(e:Below f.heap.size f W1){zs:List Int}(i:gv f.heap.size W1.heap.size W1 f.heap.size zs)(j:Tm.err zs=0)(g:uf h.length u=u)(d:h.length+zs.length<=5000):
 Calls Tryz.prog 185 #[lh b,lh f.heap.size] W1 fun a m=>zg W1 m a b o z h u f.heap.size zs:=by
 refine Oz i (fun q l=>?_) W1 b o z h u (fun _ _ _=>rfl) (af _) c.lt (fun p k=>?_) (c.below e).1 g d
 ·have n:=fw j
  rw[dD]at n;have:=n q l
  exact⟨j7 this,iC this⟩
 ·rcases k with a|a
  ·exact .inl (bn c.xF p a).2
  ·exact .inl (bn c.vW p a).2
theorem Qi(s:TB f b o z h h.length u)(hF:∀d∈h,xX h d)(k:h.length<=5000)(e g:Nat)(n:e<h.length)(p:g<h.length):
 Calls Tryz.prog 186 #[lh b,.int .i64 (e:Int),.int .i64 (g:Int)] f fun t a=>(∃v,t=.returned v)∧TB a b o z h h.length (Mt.tied u e g)∧WK f a b o z o z:=by
 obtain⟨A,l⟩:=PM hF;obtain⟨w,y,B,x,rfl,rfl,m⟩:=s.ties l k (by omega);refine(K8 f m e g n p).mono ?_;rintro t a⟨r,q,c⟩;obtain⟨i,j⟩:=s.tied q c.2.2;exact⟨r,i,j⟩
namespace Mt
def Bu(n:Nat)(S:Nat->Int)(K:Nat->List Nat)(C:Nat->Nat)(k:Nat):Wb.Sb:=fun v=>match(List.range k).find? fun q=>decide (S q=v)with
 |some q=>uJ n S K C (n+1) (C q)
 |none=>[v]
theorem DI(c:G b≠F):Bu n G E u (b+1) F=Bu n G E u b F:=by
 unfold Bu;rw[Rv,List.find?_append];cases d:(List.range b).find? fun a=>decide (G a=F)with
 |some a=>rfl
 |none=>simp[c]
theorem Lj(c:∀q,q<b->G q≠G b):Bu n G E u (b+1) (G b)=uJ n G E u (n+1) (u b):=by
 unfold Bu;rw[Rv,List.find?_append,kn.2 fun q a=>by simpa using c q (Rd.1 a)];simp
theorem ME(f:P (-1-(b:Int))=e)(g:∀v,v≠-1-(b:Int)->P v=Q v):jS P=(jS Q).set b e:=by
 refine iA (by rw[oQ,je,je]) fun i c j=>?_
 rw[je]at c;rw[List.getElem_set];have a:=uB P c;have d:=uB Q c;rw[an (by rw[je];exact c)]at a d;simp only[dy]at a d;by_cases h:b=i
 ·subst h
  rw[aD rfl,a,f]
 ·rw[aE h,a,d]
  exact g _ (by omega)
end Mt
theorem JZ{x cN:Nat}(a:World)(c:a.cell? ⟨x,0,none⟩=some (.slice none 0 cN)):
 Calls Tryz.prog 187 #[lh x] a fun d b=>d=.returned (.bool true)∧b=a:=by
 go_enter Tryz.func187,Tryz.ntmps187;go_wp2;refine ft 2 ?_;rw[eK];go_wp2;refine ft 1 ?_;rw[eK];go_wp2;rw[eK];go_wp2;go_ret;exact⟨rfl,rfl⟩
def Fe(ps:bg)(w w':World)(e:Ending):Prop:=Below w.heap.size w w'∧∃er is val v,fs ps er is val∧e=.returned (.tuple #[v,.bool is,.int .i64 er])∧il w.heap.size w' v val
theorem Fw(c:∀k,k<t.length->Tm.err (t[k]?.getD ([],[])).1=0∧Tm.err (t[k]?.getD ([],[])).2=0):du t=0:=by
 induction t with
 |nil=>rfl
 |cons e d b=>
  rw[du,aD (oP.2 (by simpa using c 0 (by simp)))];exact b fun k a=>by simpa using c (k+1) (by simpa using a)
theorem IQ{wr:World}(g:TB wr b N O h h.length u)(e:MI t n h u)(a:Below wr.heap.size wr y)(j:∀d∈D,xX (h++D) d)(c:TB f b o z (h++D) (h++D).length (uf h.length u))(i:WK y f b N O o z):
 TB f b o z (h++D) (h++D).length u∧MI t n (h++D) u∧Below b wr f:=by
 rw[e.uf]at c;exact⟨c,e.ext j,(a.mono (RB g.lt)).trans (i.below (g.below a).1)⟩
theorem Nl(f:bg)(ZB:Option Addr)(ZK:Nat)(B:World)(ZT:dw B.heap.size B ZB f)(aI:f.length<=40)(az:0<f.length)(Ym:∀k,k<f.length->Tm.err (f[k]?.getD ([],[])).1=0∧Tm.err (f[k]?.getD ([],[])).2=0):
 Calls Tryz.prog 154 #[.slice ZB f.length ZK] B fun m aH=>Fe f B aH m:=by
 have L:=hid (Fw Ym);have aA:(f.length:Int)<=40:=by omega
 have Yg:=hid (TB.start B);have YF:=hid ((ah B.heap.size B).alloc (af _) (.cells #[.slice none 0 0,.slice none 0 0] 220));have Zx:=hid ZT;have YE:=hid Ym;have Yc:=hid (MI.start f);clear ZT Ym;go_enter Tryz.func154,Tryz.ntmps154;go_wp2;go_loopw [6](fun x wr=>∃(k:Nat)(a:List Nd)(al:Nat->Nat)(ag ad:Value),k<=f.length∧x=.int .i64 (k:Int)∧Hid (TB wr B.heap.size ag ad a a.length al)∧Hid (MI f k a al)∧Hid (a.length<=60*k)∧Hid (0<k->0<a.length)∧Hid (Below B.heap.size B wr))(fun x _=>f.length-(intOf x).toNat)
 case atStart=>exact⟨0,[],_,_,_,bf _,rfl,Yg,Yc,by simp[Hid],fun Yw=>by omega,YF⟩
 case round=>
  obtain⟨k,a,al,ag,ad,a8,rfl,Yf,F,Z,ZR,D⟩:=hrel;by_cases Y2:k<f.length
  ·have aS:(k:Int)<(f.length:Int):=by omega
   obtain⟨ZF,Z9,rfl,s,ZC,ZH,ZE,ZJ,I,YY,X,Y,Zq,aa,Zr,ab⟩:=(Zx.out.below D.out) k Y2;obtain⟨u,q⟩:=YE.out k Y2;have Zo:=cK u;have Zp:=cK q;have ZP:Hid ((f[k]?.getD ([],[])).1=(f[k]?.getD ([],[])).1):=rfl;have ZQ:Hid ((f[k]?.getD ([],[])).2=(f[k]?.getD ([],[])).2):=rfl;generalize Y8:(f[k]?.getD ([],[])).1=Zv at I X Zq u Zo;generalize Y9:(f[k]?.getD ([],[])).2=ak at YY Y Zr q Zp;have Zz:=hid Y8;have ZA:=hid Y9;clear Y8 Y9 ZP ZQ;have aM:ZF<wr.heap.size:=by have:=D.out.size;omega
   have Y6:=hid (r9 Zv ZC ZH wr u Zq aa (X.mono D.out.size));have Y7:=hid (fun Yt(z:Below B.heap.size wr Yt)=>r9 ak ZE ZJ Yt q Zr ab ((Y.below z).mono (aK D.out.size z.size)));have Zh:=hid (fun Yt(z:Below B.heap.size wr Yt)=>(z.cell (p:=⟨ZF,Z9+k*2+1,none⟩) s).trans YY);have Y4:=hid (fun W1 v Yx=>DW (W1:=W1) (zs:=Zv) Yf.out v Yx u F.out.uf (by have:=Z.out;omega));have Za:=hid (And.intro u Zo);have Yu:=hid (And.intro q Zp);clear X Y u q Zo Zp Zq aa Zr ab;go_wp2_with(first
    |(go_at_call_of 56(Value.slice ZC Zv.length ZH);refine Y6.out.mono ?_;clear Y6;rintro m t⟨rfl,U,r⟩)
    |(go_at_call_of 185(lh wr.heap.size);refine(Y4.out _ U r).mono ?_;clear Y4;rintro m Zt⟨Z6,aY,aX,ar,rfl,YG,hA1,YQ,YV,aJ⟩;obtain⟨YR,YL,V⟩:=IQ Yf.out F.out U hA1 YQ YV;have aB:=Zh.out _ V;have YC:=hid YR;have YA:=hid YL;have Yy:=hid YG;clear YR YL YQ YV hA1 YG r U)
    |(go_at_call_of 56(Value.slice ZE ak.length ZJ);refine(Y7.out _ V).mono ?_;clear Y7;rintro m bh⟨rfl,i,YS⟩)
    |(go_at_call_of 185(lh Zt.heap.size);refine(DW YC.out i YS Yu.out.1 YA.out.uf (by have v:=Z.out;have Yx:=Za.out.2;have ZM:=Yu.out.2;rw[ai];omega)).mono ?_;rintro m Zu⟨Z7,aj,ae,Zb,rfl,YH,hA2,YT,YW,aL⟩;obtain⟨YU,YM,y⟩:=IQ YC.out YA.out i hA2 YT YW;have YD:=hid YU;have YB:=hid YM;have Yz:=hid YH;clear YU YM YT YW hA2 YH YS i)
    |(go_at_call 186;refine(Qi YD.out YB.out.full (by have v:=Z.out;have Yx:=Za.out.2;have ZM:=Yu.out.2;rw[ai,ai];omega) Z6 Z7 (Yy.out.app Zb).1 Yz.out.1).mono ?_;rintro m bj⟨⟨bc,rfl⟩,ZU,ZV⟩))
   go_roundw
   case rel=>
    have E:=Yy.out.app Zb;have W:=Yz.out;refine⟨k+1,a++ar++Zb,Mt.tied al Z6 Z7,aj,ae,by omega,by go_num,ZU,YB.out.tie E.1 W.1 ?_ ?_,?_,fun _=>by have:=E.1;omega,?_⟩
    ·rw[Zz.out];exact E.2.1
    ·rw[ZA.out];exact W.2.1
    ·show _<=_
     have v:=Z.out;have Yx:=Za.out.2;have ZM:=Yu.out.2;rw[ai,ai];omega
    ·exact(D.out.trans (V.trans y)).trans (ZV.below YD.out)
   case measure=>simp[intOf];omega
  ·obtain rfl:k=f.length:=by omega
   obtain⟨K,Zd⟩:=PM F.out.full;have Y3:=ZR.out az;have ZZ:a.length<=5000:=by have:=Z.out;omega
   have an:=Mx Yf.out Zd;obtain⟨ZD,ZI,ay,ZG,rfl,rfl,ZS⟩:=Yf.out.ties Zd ZZ Y3;have aQ:=(bn Yf.out.vW ay rfl).1;have YZ:=Kw an wr ZS F.out.lt Y3;have P:Hid (∀k,k<a.length->(K k).length=Tm.room (vU a k)):=an.room;have Q:=hid an;have aU:(a.length:Int)<=5000:=by omega
   clear Zd an ZS Yg YF Yc Zx YE;go_wp2_with fail;refine YZ.mono ?_;rintro m t⟨YJ,Yn⟩;clear YZ;have j:Hid (Below B.heap.size B t):=D.out.trans ((YJ.mono D.out.size).below (by omega));rcases Yn with⟨rfl,N⟩|⟨rfl,b,YP,Yl,Yh,Yr,Yq⟩
   ·have Zy:=hid N
    clear N;go_wp2;go_ret3
    exact⟨j.out,0,false,[],_,.inr (.inl ⟨L.out,fun S w g=>Zy.out S w (F.out.sound S w g),rfl,rfl,rfl⟩),rfl,il.nil _ _⟩
   ·have r:=YP.ties
    have YX:=r.c0;have I:=r.c1;have A:=hid (fun S w g=>Yr S w (F.out.sound S w g));have Zi:=hid (fun aD=>Mt.OT Q.out Yq aD A.out (fun e l=>by obtain⟨ZB,ZF,ZW,s,u,q,ax⟩:=F.out.tied e l;exact⟨ZB,ZF,ZW,s,u,q,Yh ZB ZF ZW s ax⟩));have Z2:=hid (fun S w g c Yo=>Mt.P8 Q.out Yl (A.out S w g) (k:=c) Yo);have T:=hid r;have Yp:=hid (fun c Yt(z:qT Yt B.heap.size a.length ZD ZI (some ⟨ay,0,none⟩) ZG (QG a) b (vU a) K (QC a))=>L6 P.out (a.length+1) 0 c Yt z (by omega));have Zf:=hid (fun c Yt Yw(z:qT Yt B.heap.size a.length ZD ZI (some ⟨ay,0,none⟩) ZG (QG a) b (vU a) K (QC a))=>GM P.out (a.length+1) c Yt Yw z);clear r YP Yl Yh Yr Yq YJ;go_wp2;go_loopw [9](fun x wr=>∃c:Nat,c<=a.length∧x=.int .i64 (c:Int)∧Hid (∀e,e<c->Mt.rnd a.length (vU a) K b (a.length+1) (b e)=false)∧∃ao,wr=t.drewN ao)(fun x _=>a.length-(intOf x).toNat)
    case atStart=>exact⟨0,bf _,rfl,(fun e l=>by omega),0,rfl⟩
    case round=>
     obtain⟨c,Yo,rfl,O,ao,rfl⟩:=hrel;by_cases h:c<a.length
     ·have Z1:(c:Int)<(a.length:Int):=by omega
      obtain⟨_,_,m,Yi⟩:=T.out.cl c h;cases m;rw[cI]at Yi;have d:=hid (Yp.out (b c) (t.drewN ao) (T.out.drewN ao));cases s:Mt.rnd a.length (vU a) K b (a.length+1) (b c)with
      |true=>
       have N:Hid (∀S,Wb.jJ S->¬Wb.xE f f.length S):=fun S w g=>by
        have:=Z2.out S w g c h
        rw[s]at this;cases this
       rw[s]at d;clear s;generalize b c=ZL at*;go_wp2_with(go_at_call 188;refine d.out.mono ?_;clear d;rintro m Zt⟨rfl,aw,rfl⟩)
       go_ret3
       exact⟨bD j.out _,0,false,[],_,.inr (.inl ⟨L.out,N.out,rfl,rfl,rfl⟩),rfl,il.nil _ _⟩
      |false=>
       rw[s]at d;have aq:=hid s;clear s;have Zk:Hid (∀e,e<c+1->Mt.rnd a.length (vU a) K b (a.length+1) (b e)=false):=fun e l=>by
        by_cases m:e=c
        ·subst m;exact aq.out
        ·exact O.out e (by omega)
       generalize b c=ZL at*;go_wp2_with(go_at_call 188;refine d.out.mono ?_;clear d;rintro m Zt⟨rfl,aw,rfl⟩)
       go_roundw
       case rel=>exact⟨c+1,by omega,by go_num,Zk,_,rfl⟩
       case measure=>simp[intOf];omega
     ·obtain rfl:c=a.length:=by omega
      have YK:=hid (Zi.out O.out);go_wp2_with(go_at_call 156;refine(ym _).mono ?_;rintro m Zu⟨Zs,rfl,H,i⟩;have Yj:(gU 8).length=8:=j5 8;obtain⟨C,Yv,rfl⟩:∃C Yv,Zs=.slice (some ⟨C,0,none⟩) 8 Yv:=(by obtain⟨aG,v,_⟩:=H;rw[Yj]at v;exact jy v))
      have ZX:t.heap.size<=C:=by
       obtain⟨aG,v,_⟩:=H;exact(bn v C rfl).1
      have ZN:Hid (Below t.heap.size t Zu):=⟨i.os,i.tape,i.output,i.size,i.block⟩;have Zw:Hid (il t.heap.size Zu (.slice (some ⟨C,0,none⟩) 8 Yv) (gU 8)):=H;clear H i Yj YX I;have Zj:=hid (fun c(Yo:c<a.length)(g:vU a c<0)(e:Nat)(l:e<c)(m:vU a e=vU a c)=>(by have:=Q.out.vars c e Yo (by omega) g m.symm;omega:False));go_loopw [11](fun x wr=>∃c:Nat,c<=a.length∧x=.int .i64 (c:Int)∧Hid (il t.heap.size wr (.slice (some ⟨C,0,none⟩) 8 Yv) (jS (Mt.Bu a.length (vU a) K b c)))∧Hid (∀e,e<c->vU a e<0->(Mt.uJ a.length (vU a) K b (a.length+1) (b e)).length<=30)∧Hid (Below t.heap.size t wr))(fun x _=>a.length-(intOf x).toNat)
      case atStart=>exact⟨0,bf _,rfl,Zw,(fun e l=>by omega),ZN⟩
      case round=>
       obtain⟨c,Yo,rfl,Ye,Yk,n⟩:=hrel;have o:=T.out.below n.out;have YX:=o.c0;have I:=o.c1;by_cases h:c<a.length
       ·have Z1:(c:Int)<(a.length:Int):=by omega
        obtain⟨a6,ba,rfl,aV⟩:=o.nd c h;obtain⟨aZ,a7,YO,_⟩:=o.tr c h;have Z3:=YO.cell0;have aT:=Q.out.known c h;clear YO;by_cases g:vU a c<0
        ·obtain⟨e,l⟩:∃e:Nat,vU a c= -1-(e:Int):=⟨(-1-vU a c).toNat,by omega⟩
         have Y0:e<8:=by omega
         have aC:(e:Int)<8:=by omega
         obtain⟨_,_,m,Yi⟩:=o.cl c h;cases m;rw[cI]at Yi;have d:=hid (Zf.out (b c) wr (O.out c h) o);have M:Hid (Mt.Bu a.length (vU a) K b (c+1) (-1-(e:Int))=Mt.uJ a.length (vU a) K b (a.length+1) (b c)):=by rw[<-l];exact Mt.Lj fun x ZY m=>Zj.out c h g x ZY m
         have J:Hid (∀Zs,Zs≠-1-(e:Int)->Mt.Bu a.length (vU a) K b (c+1) Zs=Mt.Bu a.length (vU a) K b c Zs):=fun Zs Z5=>Mt.DI (by rw[l];exact fun m=>Z5 m.symm)
         have Zm:=hid (Mt.ME M.out J.out);have G:Hid ((Mt.uJ a.length (vU a) K b (a.length+1) (b c)).length<=30->∀e,e<c+1->vU a e<0->(Mt.uJ a.length (vU a) K b (a.length+1) (b e)).length<=30):=fun Yw e l g=>by
          by_cases m:e=c
          ·subst m;exact Yw
          ·exact Yk.out e (by omega) g
         have Zg:Hid (30<(Mt.uJ a.length (vU a) K b (a.length+1) (b c)).length->∃x:Nat,x<8∧30<(Mt.sig a.length (vU a) K b (-1-(x:Int))).length):=fun Yw=>⟨e,Y0,by rw[<-l,Mt.IY Q.out b h g];exact Yw⟩
         rw[l]at Z3;clear M J g l o;have aE: -(-1-(e:Int))-1=(e:Int):=by omega
         have aR:(-1-(e:Int))<0:=by omega
         have Z0:=Mt.KG (O.out c h);generalize Mt.uJ a.length (vU a) K b (a.length+1) (b c)=zs at*;generalize b c=ZL at*;generalize QG a c=Z8 at*;go_wp2_with fail;refine d.out.mono ?_;rintro m R⟨bd,rfl,y,Yn⟩;clear d;rcases Yn with⟨Zn,Yd⟩|⟨Zn,rfl⟩
         ·obtain⟨a1,av,rfl,YI,_⟩:=cU.ints Yd
          obtain⟨au,aF,rfl,_⟩:=YI.at Z0;have Zl:(binOp .eql 68 (.slice (some ⟨au,aF,none⟩) zs.length av) (.slice none 0 0)).run Tryz.prog R=.ok (.bool false) R:=lI R _ _ _ _ _ _ _ Tryz.underlying68;have Zc:=hid (n.out.trans (y.mono n.out.size));have YN:=hid (Ye.out.below y);obtain⟨aP,bk,aN,aO⟩:=Af YN.out (je _) Y0;have Ze:=hid (Yd.mono n.out.size);clear Yd YI;go_wp2;go_roundw
          case rel=>
           refine⟨c+1,by omega,by go_num,?_,G.out Zn,Zc.out.setCell (p:=⟨C,e,none⟩) ZX _⟩;have Yw:=YN.out.set (je _).symm Ze.out e;rw[<-Zm.out]at Yw;exact Yw
          case measure=>simp[intOf];omega
         ·have Zl:(binOp .eql 68 (.slice none 0 0) (.slice none 0 0)).run Tryz.prog R=.ok (.bool true) R:=lI R _ _ _ _ _ _ _ Tryz.underlying68
          go_wp2;go_ret3
          have ZO:=j.out.trans ((n.out.trans (y.mono n.out.size)).mono j.out.size);exact⟨ZO,2,false,[],_,.inr (.inr (.inr ⟨L.out,_,YK.out,Zg.out Zn,rfl,rfl,rfl⟩)),rfl,il.nil _ _⟩
        ·have aW:decide (vU a c<0)=false:=by simpa using g
         have Z4:Hid (jS (Mt.Bu a.length (vU a) K b (c+1))=jS (Mt.Bu a.length (vU a) K b c)):=zE fun Zs _ Z5=>Mt.DI (by omega)
         have G:Hid (∀e,e<c+1->vU a e<0->(Mt.uJ a.length (vU a) K b (a.length+1) (b e)).length<=30):=fun e l Y5=>by
          by_cases m:e=c
          ·subst m;exact absurd Y5 g
          ·exact Yk.out e (by omega) Y5
         clear g o;generalize vU a c=bb at*;generalize QG a c=Z8 at*;go_wp2;go_roundw
         case rel=>exact⟨c+1,by omega,by go_num,by rw[Z4.out];exact Ye,G,n⟩
         case measure=>simp[intOf];omega
       ·obtain rfl:c=a.length:=by omega
        go_wp2;go_ret3
        refine⟨j.out.trans (n.out.mono j.out.size),0,true,_,_,.inr (.inr (.inl ⟨L.out,_,YK.out,fun x ZY=>?_,rfl,rfl,rfl⟩)),rfl,Ye.out.mono j.out.size⟩;rcases Mt.BM (K:=K) Q.out b (-1-(x:Int)) (by omega)with⟨e,l,u,q⟩|⟨_,q⟩
        ·rw[q];exact Yk.out e l (by omega)
        ·rw[q];simp
theorem O2:Wb.Lr [] (fun b=>[b]):=by
 refine⟨fun e a=>?_,fun b h c e a=>?_,fun i d=>by simp at d,fun f _ _ b _ c=>?_,fun b j _ _ g _=>?_⟩
 ·show Tm.run [e] 1=1
  rw[show(1:Nat)=0+1 from rfl,Tm.fT,Wb.lV a,Tm.gu]
 ·simp only[dA,Rn,RL]at a
  omega
 ·show f b=Wb.App f [b]
  rw[Wb.jo,aD c,Wb.sQ,cW]
 ·simp only[Rk,oH]at g
  omega
theorem Pd(s:Option Addr)(h:Nat)(a:World):Calls Tryz.prog 154 #[.slice s 0 h] a fun l n=>Fe [] a n l:=by
 have b:=hid ((ah a.heap.size a).alloc (af _) (.cells #[.slice none 0 0,.slice none 0 0] 220));have e:=hid (fun q(m:q=a.alloc (.cells #[.slice none 0 0,.slice none 0 0] 220))=>JZ (x:=a.heap.size) (cN:=0) q (by rw[m];exact(dp (aM a _) 0).trans rfl));have k:(a.alloc (.cells #[.slice none 0 0,.slice none 0 0] 220)).cell? ⟨a.heap.size,0,none⟩=some (.slice none 0 0):=(dp (aM a _) 0).trans rfl;go_enter Tryz.func154,Tryz.ntmps154;go_wp2;refine ft 1 ?_;rw[eK];go_wp2_with fail;refine(e.out _ rfl).mono ?_;rintro l w⟨rfl,rfl⟩;clear e;go_wp2;refine ft 1 ?_;rw[eK];go_wp2_with(go_at_call 156;refine(ym _).mono ?_;rintro l o⟨v,rfl,d,c⟩;have f:(gU 8).length=8:=j5 8;obtain⟨i,g,rfl⟩:∃i g,v=.slice (some ⟨i,0,none⟩) 8 g:=(by obtain⟨u,j,_⟩:=d;rw[f]at j;exact jy j))
 have r:o.cell? ⟨a.heap.size,0,none⟩=some (.slice none 0 0):=(c.cell (p:=⟨a.heap.size,0,none⟩) (by simp)).trans k;refine ft 1 ?_;rw[eK];go_wp2;go_ret3
 exact⟨b.out.trans (c.mono b.out.size),0,true,gU 8,_,.inr (.inr (.inl ⟨rfl,_,O2,fun y t=>by simp,rfl,rfl,rfl⟩)),rfl,d.mono b.out.size⟩
theorem Pe(a:bg)(f:Option Addr)(b:Nat)(c:World)(h:dw c.heap.size c f a)(d:a.length<=40)(e:∀k,k<a.length->Tm.err (a[k]?.getD ([],[])).1=0∧Tm.err (a[k]?.getD ([],[])).2=0):
 Calls Tryz.prog 154 #[.slice f a.length b] c fun j i=>Fe a c i j:=by
 by_cases g:0<a.length
 ·exact Nl a f b c h d g e
 ·obtain rfl:a=[]:=bJ (by omega)
  exact Pd f b c
theorem Pu(h i:List Int)(e f:Option Addr)(b c n:Nat)(d:World)(a:d.heap[n]?=some (.cells #[.slice e h.length b,.slice f i.length c] 79))(q:cZ d.heap.size d e h)(r:cZ d.heap.size d f i)(j:h.length<=b)(k:b<=maxLen)(l:i.length<=c)(m:c<=maxLen)(o:Tm.err h=0)(p:Tm.err i=0):
 Calls Tryz.prog 154 #[.slice (some ⟨n,0,none⟩) 1 1] d fun u t=>Fe [(h,i)] d t u:=by
 refine Pe [(h,i)] (some ⟨n,0,none⟩) 1 d (fun s g=>?_) (by simp) (fun s g=>?_)
 ·obtain rfl:s=0:=by simp at g;omega
  exact⟨n,0,rfl,(ak.1 a).1,e,b,f,c,(dp a 0).trans rfl,(dp a 1).trans rfl,q,r,j,k,l,m⟩
 ·obtain rfl:s=0:=by simp at g;omega
  exact⟨o,p⟩
theorem rp(g:e7 R=0):∀c:List Int,(∀s∈c,-8<=s)->c.length<=(bo R c).length:=by
 intro c;induction c with
 |nil=>intro _;exact bf _
 |cons s l f=>
  intro a;rw[jw,ai,aI];have h:=f fun k e=>a k (by simp[e])
  have i:1<=(gh R s).length:=by
   unfold gh;by_cases b:s<0
   ·rw[aD b]
    obtain⟨j,d⟩:=jx g;have:=a s (by simp)
    have:=dU (j6 d (-1-s).toNat (by omega))
    omega
   ·rw[aE b];simp
  omega
theorem vf(a:F∈eI e b w):F∈e∨F∈w:=by
 unfold eI at a;rcases dZ.1 a with a|a
 ·rcases dZ.1 a with a|a
  ·exact .inl (nJ a)
  ·exact .inr a
 ·exact .inl (jG a)
theorem jU(c:Tm.err e=0)(b:F∈e): -8<=F∧F<6:=by
 have a:=fw c;rw[dD]at a;have:=a F b
 exact⟨j7 this,iC this⟩
theorem BN{val:List (List Int)}{m:Nat}(j:e7 val=0)(f:Tm.err e=0)(q:Tm.err C=0)(g:Tm.err w=0)(s:m<e.length):
 ((bo val (eI e m w)).length<=30∧(bo val C).length<=30∧gA val e C (m:Int) w=0∧(gY val e C (m:Int) w).1.length=(bo val (eI e m w)).length∧(gY val e C (m:Int) w).1++(gY val e C (m:Int) w).2=dN (bo val (eI e m w)++bo val C))∨
 ((30<(bo val (eI e m w)).length∨30<(bo val C).length)∧gA val e C (m:Int) w=2):=by
 have n:kq (m:Int) 0 ((e.length:Int)-1)=true:=by rw[td];omega
 have v:=rp j (eI e m w) fun x k=>by
  rcases vf k with k|k
  ·exact(jU f k).1
  ·exact(jU g k).1
 have a:gZ e (m:Int) w=if 30<(eI e m w).length then 2 else 0:=by
  unfold gZ;rw[aD f,aD g,aD n];rfl
 by_cases l:30<(eI e m w).length
 ·rw[aD l]at a
  refine .inr ⟨.inl (by omega),?_⟩;unfold gA;rw[aE (by rw[a];decide),a]
 ·rw[aE l]at a
  have d:gj e (m:Int) w=eI e m w:=by unfold gj;rw[aD a];rfl
  have r:=Co f g s (by omega);have b:dH val (eI e m w)=if 30<(bo val (eI e m w)).length then 2 else 0:=by unfold dH;rw[aD j,aD r]
  have c:dH val C=if 30<(bo val C).length then 2 else 0:=by unfold dH;rw[aD j,aD q]
  by_cases h:30<(bo val (eI e m w)).length
  ·rw[aD h]at b
   refine .inr ⟨.inl h,?_⟩;unfold gA;rw[aD a,d,aE (by rw[b];decide),b]
  ·rw[aE h]at b
   by_cases i:30<(bo val C).length
   ·rw[aD i]at c
    refine .inr ⟨.inr i,?_⟩;unfold gA;rw[aD a,d,aD b,c]
   ·rw[aE i]at c
    have p:gA val e C (m:Int) w=0:=by
     unfold gA;rw[aD a,d,aD b,c]
    have t:eJ val (eI e m w)=bo val (eI e m w):=by unfold eJ;rw[aD b]
    have u:eJ val C=bo val C:=by unfold eJ;rw[aD c]
    have o:gY val e C (m:Int) w=(dN (bo val (eI e m w)),gD (bo val (eI e m w)) (bo val C)):=by
     unfold gY;rw[aD p,d,t,u]
    refine .inl ⟨by omega,by omega,p,?_,?_⟩
    ·rw[o];exact fk _ _ _
    ·rw[o];exact Sn.both _ _
def jA(base:Nat)(W:World)(a:Option Addr)(zs:List Int):Prop:=∀j,j<zs.length->∃b off,a=some ⟨b,off,none⟩∧base<=b∧(∃cs p,W.heap[b]?=some (.cells cs 3 p))∧W.cell? ⟨b,off+j,none⟩=some (.int .i64 (zs[j]?.getD 0))
theorem jA.ints{base:Nat}(j:jA base f B e):cZ f.heap.size f B e:=fun k d=>by
 obtain⟨g,a,i,_,⟨h,l,b⟩,c⟩:=j k d;exact⟨g,a,i,(ak.1 b).1,c⟩
theorem jA.of{base:Nat}(m:cU base f o e):∃l c,o=.slice l e.length c∧jA base f l e∧e.length<=c∧c<=maxLen:=by
 rcases m.2 with⟨rfl,k⟩|⟨p,a,b,rfl,i,j,g,h,q,r⟩
 ·exact⟨none,0,by rw[k],fun n d=>by omega,by omega,by unfold maxLen;omega⟩
 ·refine⟨_,a,rfl,fun n d=>⟨p,0,rfl,i,⟨b,_,j⟩,?_⟩,g,h⟩
  have:=dI (xs:=e.map (Value.int .i64)) m n (by omega)
  rw[cI,this];simp[d]
theorem jA.eV{base:Nat}{W':World}{a:Option Addr}(o:jA base f a e)(k:∀b,base<=b->(∃c p,f.heap[b]?=some (.cells c 3 p))->W'.heap[b]?=f.heap[b]?):jA base W' a e:=fun m l=>by
 obtain⟨b,h,n,i,j,d⟩:=o m l;refine⟨b,h,n,i,?_,(aH (a:=⟨b,h+m,none⟩) (k b i j)).trans d⟩;obtain⟨c,p,g⟩:=j;exact⟨c,p,(k b i ⟨c,p,g⟩).trans g⟩
theorem jA.below{base:Nat}(d:jA base f B e)(a:Below f.heap.size f y):jA base y B e:=d.eV fun c _⟨_,_,b⟩=>a.block c (ak.1 b).1
theorem jA.mono{base:Nat}(h:jA base f B e)(j:b<=base):jA b f B e:=fun k c=>by
 obtain⟨d,a,g,i,l⟩:=h k c;exact⟨d,a,g,by omega,l⟩
def mn(base:Nat)(W:World)(v:Value)(ps:bg):Prop:=
 ∃us:List Value,W.ownsRow base 79 2 v ps.length us∧∀j,j<ps.length->∃aL cL aR cR,us[j*2]?=some (.slice aL (ps[j]?.getD ([],[])).1.length cL)∧us[j*2+1]?=some (.slice aR (ps[j]?.getD ([],[])).2.length cR)∧jA base W aL (ps[j]?.getD ([],[])).1∧jA base W aR (ps[j]?.getD ([],[])).2∧(ps[j]?.getD ([],[])).1.length<=cL∧cL<=maxLen∧(ps[j]?.getD ([],[])).2.length<=cR∧cR<=maxLen
theorem mn.nil(base:Nat)(b:World):mn base b (.slice none 0 0) []:=⟨[],gq _ _ _ _,fun c a=>by simp at a⟩
theorem mn.below{base:Nat}(r:mn base f o t)(a:Below f.heap.size f y):mn base y o t:=by
 obtain⟨k,b,h⟩:=r;refine⟨k,jR b fun l j=>a.block l (bn b l j).2,fun s i=>?_⟩;obtain⟨c,e,d,g,m,n,p,q,u⟩:=h s i;exact⟨c,e,d,g,m,n,p.below a,q.below a,u⟩
theorem mn.mono{base:Nat}(x:mn base f o t)(a:b<=base):mn b f o t:=by
 obtain⟨q,e,n⟩:=x;refine⟨q,⟨e.1,e.2.elim .inl (fun⟨w,c,d,k,l,m⟩=>.inr ⟨w,c,d,k,aK a l,m⟩)⟩,fun y p=>?_⟩;obtain⟨g,i,h,j,r,s,u,v,z⟩:=n y p;exact⟨g,i,h,j,r,s,u.mono a,v.mono a,z⟩
theorem mn.at{base:Nat}{v:Value}(E:mn base f v t):∃A a,v=.slice A t.length a∧dw f.heap.size f A t∧t.length<=a∧a<=maxLen:=by
 obtain⟨z,b,m⟩:=E;have G:z.length=t.length*2:=b.1;rcases b.2 with⟨rfl,o⟩|⟨D,a,B,rfl,F,d,x,y,_⟩
 ·refine⟨none,0,by rw[o],fun C e=>by omega,by omega,by unfold maxLen;omega⟩
 ·refine⟨_,a,rfl,fun H n=>?_,x,y⟩
  obtain⟨i,k,j,l,u,w,p,q,r,g,s,h⟩:=m H n;have c:=fun C e=>dI b C e
  exact⟨D,0,rfl,(ak.1 d).1,i,k,j,l,by rw[cI,c _ (by omega),u],by rw[cI,c _ (by omega),w],p.ints,q.ints,r,g,s,h⟩
theorem mn.snoc{base:Nat}(E:f.grownBy y o.ownBlock)(C:jA base f B e)(D:jA base f I w)(s:e.length<=b)(u:b<=maxLen)(v:w.length<=n)(x:n<=maxLen)
 (d:f.ownsRow base 79 2 o t.length J)(l:∀j,j<t.length->∃B b I n,J[j*2]?=some (.slice B (t[j]?.getD ([],[])).1.length b)∧J[j*2+1]?=some (.slice I (t[j]?.getD ([],[])).2.length n)∧jA base f B (t[j]?.getD ([],[])).1∧jA base f I (t[j]?.getD ([],[])).2∧(t[j]?.getD ([],[])).1.length<=b∧b<=maxLen∧(t[j]?.getD ([],[])).2.length<=n∧n<=maxLen)
 (g:y.ownsRow base 79 2 z (t.length+1) (J++[.slice B e.length b,.slice I w.length n])):mn base y z (t++[(e,w)]):=by
 have p:J.length=t.length*2:=d.1;have a:∀h,base<=h->(∃i P,f.heap[h]?=some (.cells i 3 P))->y.heap[h]?=f.heap[h]?:=fun h _⟨i,P,k⟩=>E.block h (ak.1 k).1 fun Q=>by
  obtain⟨O,A⟩:=uA d Q.symm;rw[k]at A;simp only[dx,fU]at A;exact absurd A.2.1 (by decide)
 refine⟨J++[.slice B e.length b,.slice I w.length n],by simpa using g,fun j F=>?_⟩;by_cases c:j<t.length
 ·obtain⟨R,N,M,q,K,L,G,H,r⟩:=l j c
  rw[aV c,aV (by omega),aV (by omega)];exact⟨R,N,M,q,K,L,G.eV a,H.eV a,r⟩
 ·have m:j=t.length:=by simp at F;omega
  subst m;rw[aU (af _),aU (by omega),aU (by omega),p];exact⟨B,b,I,n,by simp,by simp,by simpa using C.eV a,by simpa using D.eV a,by simpa using s,u,by simpa using v,x⟩
theorem J3(c:b<e.length):(bw (e.take b)++e.drop b)[b]?.getD 0=e[b]?.getD 0:=by
 have a:(bw (e.take b)).length=b:=by rw[kV,cX];omega
 rw[aU (by omega),a,oe,oV,gp]
theorem JI(c:b<e.length):(bw (e.take b)++e.drop b).set b (nB (e[b]?.getD 0))=bw (e.take (b+1))++e.drop (b+1):=by
 have a:(bw (e.take b)).length=b:=by rw[kV,cX];omega
 rw[vQ _ _ (by omega),a,oe,sF c,bZ c,jD,dE];rfl
theorem H7(a:b<e.length)(d:0<=e[b]?.getD 0):bw (e.take (b+1))++e.drop (b+1)=bw (e.take b)++e.drop b:=by
 have c:nB (e[b]?.getD 0)=e[b]?.getD 0:=by unfold nB;rw[aE (by omega)]
 rw[sF a,c,bZ a,dE,an a];rfl
theorem C8(a:List Int)(b:Nat)(c:b<=a.length):(bw (a.take b)++a.drop b).length=a.length:=by
 rw[ai,kV,cX,cH];omega
theorem xS(a:List Int)(i:Option Addr)(r:Nat)(b:World)(T:a.length<=30)(s:0<a.length)(t:∀k,k<a.length-> -100<=a[k]?.getD 0)(n:cZ b.heap.size b i a):
 Calls Tryz.prog 153 #[.slice i a.length r] b fun E B=>∃v,E=.returned v∧cU b.heap.size B v (bw a)∧Below b.heap.size b B:=by
 have G:(a.length:Int)<=30:=by omega
 obtain⟨V,N,rfl,S,F⟩:=n.at s;have z:cU b.heap.size (b.alloc (.cells #[] 3)) (.slice (some ⟨b.heap.size,0,none⟩) 0 0) []:=cU.lit b.heap.size b [] (af _) (by unfold maxLen;simp);have c:Below b.heap.size b (b.alloc (.cells #[] 3)):=(ah _ _).alloc (af _) _;have D:=hid n;have C:=hid t;clear n F t;go_enter Tryz.func153,Tryz.ntmps153;go_wp2_with(at_builtin;go_loud(refine dB _ rfl _ _ rfl b.heap.size _ [] rfl z _ a r rfl (fun E=>by cases E) ((D.out.below c).mono c.size) (by simp;omega) c.size ?_);intro U Q g j;obtain⟨J,R,rfl,_⟩:=cU.PC g (by simpa using s))
 have u:=c.trans j;clear c j z;simp only[bV]at*;have x:=g.IS;go_loopw [4](fun I wr=>∃k:Nat,k<=a.length∧I=.int .i64 (k:Int)∧Hid (cU b.heap.size wr (.slice (some ⟨J,0,none⟩) a.length R) (bw (a.take k)++a.drop k))∧Hid (Below b.heap.size b wr))(fun I _=>a.length-(intOf I).toNat)
 case atStart=>exact⟨0,bf _,rfl,by simpa [bw,Hid]using g,u⟩
 case round=>
  obtain⟨k,y,rfl,e,f⟩:=hrel;by_cases d:k<a.length
  ·have H:(k:Int)<(a.length:Int):=by omega
   obtain⟨l,m⟩:=cU.QN e.out (C8 a k y).symm;have w:=l k d;have L:=m k;rw[J3 d]at w;have K:=C.out k d;clear l m;by_cases o:a[k]?.getD 0<0
   ·have h:=hid (JI d)
    have A:Hid (nB (a[k]?.getD 0)=a[k]?.getD 0-4):=by show _=_;unfold nB;rw[aD o]
    generalize a[k]?.getD 0=O at*;go_wp2;go_roundw
    case rel=>
     refine⟨k+1,by omega,by go_num,?_,f.out.setCell (p:=⟨J,k,none⟩) x.1 _⟩;have q:=e.out.set (C8 a k y).symm k (O-4);rw[<-A.out,h.out,A.out]at q;exact q
    case measure=>simp[intOf];omega
   ·have M:decide (a[k]?.getD 0<0)=false:=by simpa using o
    have h:=hid (H7 d (by omega));clear o;generalize a[k]?.getD 0=O at*;go_wp2;go_roundw
    case rel=>exact⟨k+1,by omega,by go_num,by rw[h.out];exact e,f⟩
    case measure=>simp[intOf];omega
  ·obtain rfl:k=a.length:=by omega
   have q:=e.out;rw[cJ,eu,cW]at q;have P:=hid q;clear q;go_wp2;go_ret;exact⟨_,rfl,P.out,f.out⟩
theorem jA.drop{base:Nat}(m:jA base f (some ⟨n,b,none⟩) e)(a:Nat):jA base f (some ⟨n,b+a,none⟩) (e.drop a):=fun i h=>by
 rw[cH]at h;obtain⟨k,j,l,c,d,g⟩:=m (a+i) (by omega);cases l;exact⟨n,b+a,rfl,c,d,by rw[oV,show b+a+i=b+(a+i)from by omega];exact g⟩
theorem jA.take{base:Nat}(j:jA base f B e)(l:Nat):jA base f B (e.take l):=fun k h=>by
 rw[cX]at h;obtain⟨b,a,i,c,d,g⟩:=j k (by omega);exact⟨b,a,i,c,d,by rw[oI (by omega)];exact g⟩
theorem mn.Qx{base:Nat}(v:mn base f o t)(d:∀q,q<f.heap.size->y.heap[q]?=f.heap[q]?):mn base y o t:=by
 obtain⟨p,b,k⟩:=v;refine⟨p,jR b fun q n=>d q (bn b q n).2,fun w m=>?_⟩;obtain⟨e,h,g,i,r,a,s,u,z⟩:=k w m;have c:∀a,base<=a->(∃j x,f.heap[a]?=some (.cells j 3 x))->y.heap[a]?=f.heap[a]?:=fun a _⟨_,_,l⟩=>d a (ak.1 l).1
 exact⟨e,h,g,i,r,a,s.eV c,u.eV c,z⟩
theorem cU.past{base:Nat}{V:World}(g:cU base f o e)(h:∀q,q<f.heap.size->V.heap[q]?=f.heap[q]?)(k:mn b V z t)(l:V.grownBy y z.ownBlock):cU base y o e:=
 jR g fun q m=>by
  obtain⟨r,i,_⟩:=k;obtain⟨n,d⟩:=uA g m;have a:=d;rw[<-h q (ak.1 d).1]at a;refine(l.block q (ak.1 a).1 fun p=>?_).trans (h q (ak.1 d).1);obtain⟨j,c⟩:=uA i p.symm;rw[a]at c;simp only[dx,fU]at c;exact absurd c.2.1 (by decide)
theorem y8(f:World)(q:L.guard=none)(R U:Operand)
 (N:L.op=.call {callee:=.builtin .append,args:=#[R,U],argTypes:=#[30,30]})(base:Nat)(A:Value)(c:bg)(O:M.eval R=A)(I:mn base f A c)
 (B:Nat)(k l:Option Addr)(z e:List Int)(x y i j:Nat)(r:x=z.length)(s:y=e.length)(P:M.eval U=.slice (some ⟨B,0,none⟩) 1 1)(o:f.heap[B]?=some (.cells #[.slice k x i,.slice l y j] 79))(G:jA base f k z)(H:jA base f l e)(C:z.length<=i)(D:i<=maxLen)(E:e.length<=j)(F:j<=maxLen)(K:c.length<=1000000)(b:base<=f.heap.size)
 (Z:∀g h w',mn base w' (.slice (some ⟨g,0,none⟩) (c.length+1) h) (c++[(z,e)])->f.grownBy w' A.ownBlock->Below base f w'->T (M.put L.dst (.slice (some ⟨g,0,none⟩) (c.length+1) h)) w'):
 if Region.wanted L (yielded W M.tmps)=true then Oper.wp Tryz.prog L M f T X else Y:=by
 subst r s;obtain⟨Q,J,u,v,w⟩:=fh Tryz.uK;obtain⟨S,d,p⟩:=I;refine og f q R U 30 N base 79 Q (.agg #[.slice none 0 0,.slice none 0 0]) 2 48 Tryz.rT J u v w rfl (by decide) A c.length S O d ⟨B,0,none⟩ 1 1 [.slice k z.length i,.slice l e.length j] P (by simp)
  (by intro Yc Yf a
      match Yc,a with
      |0,a=>simp at a;subst a;rw[cz];simpa using(dp o 0)
      |1,a=>simp at a;subst a;rw[cz];simpa using(dp o 1))
  (by intro Ye t;simp at t;rcases t with rfl|rfl<;>rfl) (by decide) (by unfold maxLen;omega) (by omega) b f.heap.size rfl ?_
 intro g h w' n m _ _;exact Z g h w' (mn.snoc m G H C D E F d p n) m ((ah base f).grown m b fun Yd V=>(bn d Yd V).1)
theorem GV{val:List (List Int)}(c:e7 val=0):∀s∈bo val e++bo val w,-8<=s:=by
 have b:∀e:List Int,∀s∈bo val e,-8<=s:=by
  intro e;induction e with
  |nil=>intro s a;cases a
  |cons i k h=>
   intro s a;rw[jw]at a;rcases dZ.1 a with a|a
   ·unfold gh at a
    by_cases d:i<0
    ·rw[aD d]at a
     obtain⟨j,f⟩:=jx c;by_cases g:(-1-i).toNat<val.length
     ·exact(jU (j6 f _ g) a).1
     ·rw[ql (by omega)]at a
      cases a
    ·rw[aE d]at a
     simp only[dA,Rn,RL]at a;omega
   ·exact h s a
 intro s a;rcases dZ.1 a with c|c
 ·exact b e s c
 ·exact b w s c
def QF(L1 R1 L2 R2:List Int)(i j:Int)(w:World)(e:Ending)(w':World):Prop:=Below w.heap.size w w'∧∃er ps v,kr L1 R1 (bw L2) (bw R2) (gH L1 i j) er ps∧e=.returned (.tuple #[v,.int .i64 er])∧mn w.heap.size w' v ps
theorem Gm(a k l e:List Int)(G:bu)(Yg E:Nat)(bY:Yg<G.length)(bZ:E<G.length)(cg:Option Addr)(aL:Nat)(H:World)(c3:G.length<=8)(Z9:dw H.heap.size H cg G)(Zx:G[Yg]?.getD ([],[])=(a,k))(Zy:G[E]?.getD ([],[])=(l,e))(U:Tm.err a=0)(YK:Tm.err k=0)(YJ:Tm.err l=0)(YL:Tm.err e=0)(bU:Tm.err (bw l)=0)(J:Tm.err (bw e)=0):
 Calls Tryz.prog 117 #[.slice cg G.length aL,.int .i64 (Yg:Int),.int .i64 (E:Int)] H fun v A=>QF a k l e (Yg:Int) (E:Int) H v A:=by
 have cx:(Yg:Int)<(G.length:Int):=by omega
 have cy:(E:Int)<(G.length:Int):=by omega
 have cJ:(G.length:Int)<=8:=by omega
 obtain⟨ay,O,rfl,a6,bS,YI,YG,Zc,aQ,aR,Ze,Z6,Zf,aS,aT,c2⟩:=Z9 Yg bY;obtain⟨c1,b7,bT,cw,Yo,Yq,Yp,Yr,Zm,Zn,Zo,Zp,au,b8,av,b9⟩:=Z9 E bZ;cases bT;rw[Zx]at aQ aR Ze Z6 Zf aT;rw[Zy]at Zm Zn Zo Zp au av;simp only at aQ aR Ze Z6 Zf aT Zm Zn Zo Zp au av;obtain⟨T,Yf,rfl⟩:∃T Yf,bS=some ⟨T,Yf,none⟩:=by obtain⟨bM,dx,v,_⟩:=Ze.at (dU U);exact⟨bM,dx,v⟩
 have c8:=cK U;have c9:=cK YK;have bz:=cK YJ;have bA:=cK YL;have cR:(a.length:Int)<=30:=by omega
 obtain⟨b,Z⟩:∃b,H.alloc (.cells #[.slice (some ⟨T,Yf,none⟩) a.length YI,.slice YG k.length Zc] 70)=b:=⟨_,rfl⟩;have g:Below H.heap.size H b:=by rw[<-Z];exact(ah _ H).alloc (af _) _
 have bl:b.heap.size=H.heap.size+1:=by rw[<-Z];simp
 have aJ:eT b H.heap.size 70 (.slice (some ⟨T,Yf,none⟩) a.length YI) (.slice YG k.length Zc):=by rw[<-Z];exact eT.new H 70 _ _
 have Zr:=hid aJ;have ZA:=hid (fun V(d:Below b.heap.size b V)=>(xS l Yo Yq V bz (dU YJ) (fun h Zj=>by have:=(lT YJ h Zj);omega) ((Zo.below (g.trans (d.mono g.size))).mono (aK g.size d.size))).mono (fun v A⟨Za,q,s,n⟩=>(⟨Za,q,s.mono (aK g.size d.size),n,d.trans (n.mono d.size)⟩:∃Za,v=Ending.returned Za∧cU H.heap.size A Za (bw l)∧Below V.heap.size V A∧Below b.heap.size b A)));have ZB:=hid (fun V(d:Below b.heap.size b V)=>(xS e Yp Yr V bA (dU YL) (fun h Zj=>by have:=(lT YL h Zj);omega) ((Zp.below (g.trans (d.mono g.size))).mono (aK g.size d.size))).mono (fun v A⟨Za,q,s,n⟩=>(⟨Za,q,s.mono (aK g.size d.size),n,d.trans (n.mono d.size)⟩:∃Za,v=Ending.returned Za∧cU H.heap.size A Za (bw e)∧Below V.heap.size V A∧Below b.heap.size b A)));have Zi:Hid (∀V,Below b.heap.size b V->V.cell? ⟨ay,O+E*2,none⟩=some (.slice Yo l.length Yq)∧V.cell? ⟨ay,O+E*2+1,none⟩=some (.slice Yp e.length Yr)):=fun V aW=>by
  have d:=g.trans (aW.mono g.size);exact⟨(d.cell (p:=⟨ay,O+E*2,none⟩) a6).trans Zm,(d.cell (p:=⟨ay,O+E*2+1,none⟩) a6).trans Zn⟩
 have M:=ah b.heap.size b;have ZD:=Zi.out _ M;have aC:=hid Z;have u:=hid g;have YO:Hid (∀V,Below b.heap.size b V->cZ V.heap.size V (some ⟨T,Yf,none⟩) a):=fun V d=>(Ze.below (g.trans (d.mono g.size))).mono (aK g.size d.size)
 have aU:Hid (∀V,Below b.heap.size b V->cZ V.heap.size V YG k):=fun V d=>(Z6.below (g.trans (d.mono g.size))).mono (aK g.size d.size)
 have YT:Hid (∀V,Below b.heap.size b V->V.cell? ⟨H.heap.size,0,none⟩=some (.slice (some ⟨T,Yf,none⟩) a.length YI)∧V.cell? ⟨H.heap.size,1,none⟩=some (.slice YG k.length Zc)):=fun V d=>⟨(d.cell (p:=⟨H.heap.size,0,none⟩) (by show H.heap.size<_;omega)).trans Zr.out.cell0,(d.cell (p:=⟨H.heap.size,1,none⟩) (by show H.heap.size<_;omega)).trans Zr.out.dh⟩
 clear Z9 Zx Zy Z aJ g Zo Zp au b8 av b9 bl;go_enter Tryz.func117,Tryz.ntmps117;go_wp2;rw[aC.out];go_region_held3(fun A=>A.cell? ⟨ay,O+E*2,none⟩=some (.slice Yo l.length Yq)∧A.cell? ⟨ay,O+E*2+1,none⟩=some (.slice Yp e.length Yr))(first|assumption|exact ZD)
  (first
    |(go_at_call_of 153(Value.slice Yo l.length Yq);refine(ZA.out _ (by first|exact M|exact bD M 1|exact X|exact bD X 1)).mono ?_;rintro v dq⟨dj,rfl,Y5,aH,W⟩;obtain⟨Zb,YD,rfl,_⟩:=cU.ints Y5;have ca:=Zi.out _ W;(try have YF:=hid (And.intro Y5 (cU.below Y9 aH)));(try have Z2:=hid W))
    |(go_at_call_of 153(Value.slice Yp e.length Yr);refine(ZB.out _ (by first|exact M|exact bD M 1|exact W|exact bD W 1)).mono ?_;rintro v dr⟨dk,rfl,Y9,aI,X⟩;obtain⟨ax,Zk,rfl,_⟩:=cU.ints Y9;have cb:=Zi.out _ X;(try have YF:=hid (And.intro (cU.below Y5 aI) Y9));(try have Z2:=hid X)))
 all_goals(
  have bI:Hid ((bw l).length<=YD∧YD<=maxLen):=by obtain⟨_,_,v,_,q,s⟩:=cU.ints Y5;cases v;exact⟨q,s⟩
  have db:Hid ((bw e).length<=Zk∧Zk<=maxLen):=by obtain⟨_,_,v,_,q,s⟩:=cU.ints Y9;cases v;exact⟨q,s⟩
  clear ca cb Y5 Y9 W X aH aI ZD Zi ZA ZB M Zm Zn;go_wp2;go_loopw [8,12](fun Za bM wr=>∃(h:Nat)(Yz:bg),h<=a.length∧bM=.int .i64 (h:Int)∧Hid (gl a k (bw l) (bw e) (gH a (Yg:Int) (E:Int)) h Yz)∧Hid (mn b.heap.size wr Za Yz)∧Hid (Below b.heap.size b wr)∧Hid (cU H.heap.size wr (.slice Zb (bw l).length YD) (bw l))∧Hid (cU H.heap.size wr (.slice ax (bw e).length Zk) (bw e)))(fun _ bM _=>a.length-(intOf bM).toNat)
  case atStart=>exact⟨0,[],bf _,rfl,.zero,mn.nil _ _,(by first|exact Z2|exact bD Z2.out 1),YF.out.1,YF.out.2⟩
  case round=>
   obtain⟨h,Yz,Zj,rfl,z,N,y,Yu,Yv⟩:=hrel;obtain⟨YZ,cN⟩:=YT.out _ y.out;obtain⟨bJ,aO,rfl,_⟩:=N.out.at;by_cases w:h<a.length
   ·have cA:(h:Int)<(a.length:Int):=by omega
    obtain⟨_,_,v,_,ZI⟩:=(YO.out _ y.out).at (by omega);cases v;have a8:=ZI h w;have C:Hid (gH a (Yg:Int) (E:Int) h=(decide (a[h]?.getD 0<0)||(decide (h=0)&&decide ((Yg:Int)=(E:Int))))):=rfl;have bW:=hid (fD U w);clear ZI;generalize a[h]?.getD 0=az at a8 C;by_cases t:az<0
    ·have Y:=hid (gl.pass z.out (by rw[C.out];simp[t]))
     go_wp2;go_roundw
     case rel=>exact⟨h+1,Yz,by omega,by go_num,Y.out,N,y,Yu,Yv⟩
     case measure=>simp[intOf];omega
    ·have cL:decide (az<0)=false:=by simpa using t
     by_cases Yc:Yg=E
     case' pos=>
      have ad:((Yg:Int)==(E:Int))=true:=by simp[Yc]
      by_cases Yd:h=0
      ·have ae:((h:Int)==0)=true:=by simp[Yd]
       have Y:=hid (gl.pass z.out (by rw[C.out];simp[Yc,Yd]));clear Yc Yd;go_wp2;go_roundw
       case rel=>exact⟨h+1,Yz,by omega,by go_num,Y.out,N,y,Yu,Yv⟩
       case measure=>simp[intOf];omega
      have ae:((h:Int)==0)=false:=by simp;omega
      have YE:Hid (gH a (Yg:Int) (E:Int) h=false):=by show _=_;rw[C.out];simp[t,Yd]
      clear Yc Yd C t
     case' neg=>
      have ad:((Yg:Int)==(E:Int))=false:=by simp;omega
      have YE:Hid (gH a (Yg:Int) (E:Int) h=false):=by show _=_;rw[C.out];simp[t];omega
      clear Yc C t
     all_goals(
      have Yy:=hid (fun V(d:Below b.heap.size b V)=>r7 a (some ⟨T,Yf,none⟩) YI h V (YO.out V d) Zf aS U w);have YX:=hid (fun(V:World)(cc:Nat)(aE:Option Addr)(aN:Nat)(P:V.heap[cc]?=some (.cells #[.slice aE (cD a h).length aN,.slice Zb (bw l).length YD] 79))q s n Zg=>Pu (cD a h) (bw l) aE Zb aN YD cc V P q s n Zg bI.out.1 bI.out.2 bW.out bU);go_wp2_with fail;refine(Yy.out _ y.out).mono ?_;rintro v Ym⟨dc,rfl,bE,YH⟩;obtain⟨bN,bt,rfl,bn,bB,ZQ⟩:=cU.ints bE;have YN:=hid (y.out.trans (YH.mono y.out.size));have Y6:=hid (cU.below Yu.out YH);have ZY:=hid (cU.below Yv.out YH);have ZU:=hid (N.out.below YH);have B:Hid (Below Ym.heap.size Ym (Ym.alloc (.cells #[.slice bN (cD a h).length bt,.slice Zb (bw l).length YD] 79))):=(ah _ _).alloc (af _) _;have ZO:Hid (cZ Ym.heap.size Ym Zb (bw l)):=by obtain⟨_,_,v,F,_⟩:=cU.ints Y6.out;cases v;exact F
      have ZL:=hid (YX.out _ Ym.heap.size bN bt (aM Ym _) ((bn.below B.out).mono B.out.size) ((ZO.out.below B.out).mono B.out.size) bB ZQ);clear Yy YX bn bE YH Yu Yv N bB ZQ;go_wp2_with fail;refine ZL.out.mono ?_;rintro v aw⟨aF,Zd,bs,val,dd,o,rfl,ZE⟩;clear ZL;have R:=hid (B.out.trans (aF.mono B.out.size));have K:=hid (YN.out.trans (R.out.mono YN.out.size));have Y7:=hid (cU.below Y6.out R.out);have YA:=hid (cU.below ZY.out R.out);have Y8:=hid (ZU.out.below R.out);obtain⟨bO,bx,rfl,YP,_⟩:=il.qg ZE;have Yn:=hid o;have HSub:=hid YP;clear ZE YP B ZO Y6 ZY ZU aF R YN;have a7:=hid (u.out.trans (K.out.mono u.out.size));by_cases Yx:Zd=0
      ·subst Yx
       cases bs with
       |false=>
        have Y:=hid (gl.no z.out YE.out o);clear o HSub;go_wp2;go_roundw
        case rel=>exact⟨h+1,Yz,by omega,by go_num,Y.out,Y8,K,Y7,YA⟩
        case measure=>simp[intOf];omega
       |true=>
        obtain⟨x,_,_,_,_⟩:=zm o;obtain⟨Zh,ZJ⟩:=jx x;have Ye:=um.MH ZJ;have Yk:=hid (BN (val:=val) (m:=h) x U YK J w);have Yl:=hid (fun F=>gl.yes z.out YE.out Yn.out F);have Yh:Hid (gA val a k (h:Int) (bw e)=2->kr a k (bw l) (bw e) (gH a (Yg:Int) (E:Int)) 2 []):=fun F=>.inr ⟨⟨by decide,h,Yz,w,z.out,YE.out,.inr ⟨val,Yn.out,F⟩⟩,rfl⟩
        have cG:(eI a h (bw e)).length<=60:=by
         have q:=tE (zs:=a) (us:=bw e) w;have s:=cK J;have n:=Tm.im a h;omega
        have bh:Hid (∀Zq,Zq<(eI a h (bw e)).length-> -8<=(eI a h (bw e))[Zq]?.getD 0):=fun Zq D=>by
         rw[an D];rcases vf (ee D)with F|F
         ·exact(jU U F).1
         ·exact(jU J F).1
        have ZP:Hid (cZ aw.heap.size aw ax (bw e)):=by obtain⟨_,_,v,F,_⟩:=cU.ints YA.out;cases v;exact F
        have YY:=hid (I7 a (bw e) (some ⟨T,Yf,none⟩) ax YI Zk h aw (YO.out _ K.out) ZP.out Zf aS U J w);have ZF:=hid (fun(V:World)(Z4:Option Addr)(Z5:Nat)q s=>zA val Zh Ye bO bx (eI a h (bw e)) Z4 Z5 (by omega) bh.out V q s);have ZG:=hid (fun(V:World)(d:Below b.heap.size b V)q=>zA val Zh Ye bO bx k YG Zc (by omega) (lT YK) V q (aU.out V d));have cO:=mi Ye (eI a h (bw e));have cP:=mi Ye k;have YZ:Hid (0<(bo val k).length):=by
         have:=rp x k fun az t=>(jU YK t).1
         have:=dU YK
         show 0<_;omega
        have Yw:Hid (0<(bo val (eI a h (bw e))).length):=by
         have q:=rp x (eI a h (bw e)) fun az t=>by
          rcases vf t with F|F
          ·exact(jU U F).1
          ·exact(jU J F).1
         have s:=tE (zs:=a) (us:=bw e) w;have n:=dU J;show 0<_;omega
        have ZM:Hid (∀az∈bo val (eI a h (bw e))++bo val k,-8<=az):=GV x;have bQ:=hid Zh;clear o x Zh ZJ Ye;generalize bo val (eI a h (bw e))=c at*;generalize bo val k=Zs at*;generalize eI a h (bw e)=da at*;have cr:(c.length:Int)<=2000:=by omega
        have cv:(Zs.length:Int)<=2000:=by omega
        rw[bQ.out];obtain⟨b3,b5⟩:=YT.out _ K.out;go_wp2_with fail;refine YY.out.mono ?_;rintro v dm⟨de,rfl,bF,S⟩;obtain⟨ds,c4,rfl,bp,_⟩:=cU.ints bF;have ch:=hid S;have Zz:=hid (K.out.trans (S.mono K.out.size));have Z3:=hid ((HSub.out.below S).mono S.size);have ZR:=hid (cU.below Y7.out S);have ZZ:=hid (cU.below YA.out S);have ZV:=hid (Y8.out.below S);clear YY bF HSub Y7 YA Y8 ZP S;go_wp2_with fail;refine(ZF.out _ _ _ Z3.out bp).mono ?_;rintro v dn⟨df,rfl,bG,YB⟩;obtain⟨dt,c5,rfl,bq,_⟩:=cU.ints bG;have Yt:=hid (Zz.out.trans (YB.mono Zz.out.size));have aD:=hid ((Z3.out.below YB).mono YB.size);have ZS:=hid (cU.below ZR.out YB);have Z0:=hid (cU.below ZZ.out YB);have ZW:=hid (ZV.out.below YB);obtain⟨_,b4⟩:=YT.out _ Yt.out;clear ZF bG bp Z3 ZR ZZ ZV;go_wp2_with fail;refine(ZG.out _ Yt.out aD.out).mono ?_;rintro v I⟨dh,rfl,bH,YC⟩;obtain⟨du,c6,rfl,br,_⟩:=cU.ints bH;have L:=hid (Yt.out.trans (YC.mono Yt.out.size));have ZT:=hid (cU.below ZS.out YC);have Z1:=hid (cU.below Z0.out YC);have ZX:=hid (ZW.out.below YC);have Y0:=hid ((bq.below YC).mono YC.size);have Y2:=hid br;clear ZG bH bq br aD ZS Z0 ZW;rcases Yk.out with⟨q,s,n,Zg,Z7⟩|⟨YS,n⟩
        ·have cn:(c.length:Int)<=30:=by omega
         have cp:(Zs.length:Int)<=30:=by omega
         have a1:=YZ.out;have bP:=hid (Yl.out n);have aA:=hid Zg;have aZ:0<c.length:=by
          have F:=Yw.out;omega
         obtain⟨cj,cS,rfl,_⟩:=Y0.out.at aZ;obtain⟨ck,cT,rfl,_⟩:=Y2.out.at a1;have bc:Hid (cU I.heap.size (I.alloc (.cells #[] 3)) (.slice (some ⟨I.heap.size,0,none⟩) 0 0) []):=cU.lit I.heap.size I [] (af _) (by unfold maxLen;simp);have hA0:Hid (Below I.heap.size I (I.alloc (.cells #[] 3))):=(ah _ _).alloc (af _) _;obtain⟨Zt,YQ⟩:∃Zt,c++Zs=Zt:=⟨_,rfl⟩;have YR:Zt.length=c.length+Zs.length:=by rw[<-YQ,ai]
         have ag:=hid (fun(V:World)(Z4:Option Addr)(Z5:Nat)F=>xW Zt Z4 Z5 V (by omega) (by omega) (fun Zq D=>by rw[an D];exact ZM.out _ (by rw[YQ];exact ee D)) F);have Yj:Hid ((dN Zt).length=c.length+Zs.length):=by
          show _=_;unfold dN;rw[fk,YR]
         rw[YQ]at Z7;have aB:=hid Z7;have bR:=hid YQ;have cf:=hid YR;clear YQ YR;clear Yl Yh n Zg Z7 ZM Yk YZ Yw;go_wp2_with(first
          |(at_builtin;refine dB _ rfl _ _ rfl I.heap.size _ [] rfl bc.out _ c _ rfl (fun v=>by cases v) ((Y0.out.below hA0.out).mono hA0.out.size) (by simp;omega) hA0.out.size ?_;intro di dp Zl aG;obtain⟨dv,c7,rfl,_⟩:=cU.ints Zl;have hA9:=hid (hA0.out.trans aG);rw[bV]at Zl)
          |(at_builtin;refine dB _ rfl _ _ rfl I.heap.size _ c rfl Zl _ Zs _ rfl (fun v=>by cases v) ((Y2.out.below hA9.out).mono hA9.out.size) (by omega) hA9.out.size ?_;intro cV bK Y3 Zu;rw[bR.out]at Y3;obtain⟨cY,cQ,rfl,ZN,_⟩:=cU.ints Y3;have hA10:=hid (hA9.out.trans Zu))
          |(go_at_call 151;refine(ag.out _ _ _ ZN).mono ?_;rintro v r⟨cW,rfl,Y4,Zv⟩;have hA11:=hid (hA10.out.trans (Zv.mono hA10.out.size));obtain⟨c0,i,rfl,ZK,cz,bb⟩:=jA.of Y4))
         have cq:=hid (Yj.out);obtain⟨f,b6,aP,_,_⟩:=cU.PC Y4 (by have:=Yj.out;omega);cases aP;have aX:Hid ((gY val a k (h:Int) (bw e)).1=(dN Zt).take c.length):=by show _=_;rw[<-aB.out,<-aA.out,xh]
         have aY:Hid ((gY val a k (h:Int) (bw e)).2=(dN Zt).drop c.length):=by show _=_;rw[<-aB.out,<-aA.out,lu]
         have YU:=hid (ZK.mono (show b.heap.size<=bK.heap.size from by have s:=L.out.size;have n:=hA10.out.size;omega));have ao:=hid (ZX.out.below hA11.out);have aj:=hid (cU.below ZT.out hA11.out);have aq:=hid (cU.below Z1.out hA11.out);have YM:=hid (L.out.trans (hA11.out.mono L.out.size));have cE:Yz.length<=1000:=by have:=z.out.len;omega
         clear Y4 ZK hA11 hA10 hA9 hA0 Zv Zu Y3 Zl ZN aG ZX ZT Z1 Y0 Y2 L;generalize dN Zt=j at*;have b0:(j.length:Int)<=(i:Int):=by omega
         have ZC:(j.length:Int)=(c.length:Int)+(Zs.length:Int):=by have:=Yj.out;omega
         have ct:(c.length:Int)<=(j.length:Int):=by omega
         have cu:(c.length:Int)<=(i:Int):=by omega
         have cC:¬i-c.length=0:=by omega
         have b2:¬i=c.length:=by omega
         have bj:Hid ((j.take c.length).length<=c.length):=by show _<=_;rw[cX];omega
         have bk:Hid ((j.drop c.length).length<=i-c.length):=by show _<=_;rw[cH];omega
         have ba:Hid (j.length-c.length=(j.drop c.length).length):=(cH).symm;have bm:Hid (c.length=(j.take c.length).length):=by show _=_;rw[cX];omega
         have cd:=hid ZC;clear ZC;have cB:i<=9223372036854775807:=bb;have b1:(i:Int)<=9223372036854775807:=by omega
         have bd:b.heap.size<=r.heap.size:=YM.out.size;have Q:Hid (∀V:World,V.heap=(r.alloc (.cells #[.slice (some ⟨f,0,none⟩) c.length c.length,.slice (some ⟨f,c.length,none⟩) (j.length-c.length) (i-c.length)] 79)).heap->mn b.heap.size V (.slice bJ Yz.length aO) Yz):=fun V d=>ao.out.Qx fun Zq D=>by rw[d,cM _ _ _ D]
         have P:Hid (∀V:World,V.heap=(r.alloc (.cells #[.slice (some ⟨f,0,none⟩) c.length c.length,.slice (some ⟨f,c.length,none⟩) (j.length-c.length) (i-c.length)] 79)).heap->V.heap[r.heap.size]?=some (.cells #[.slice (some ⟨f,0,none⟩) c.length c.length,.slice (some ⟨f,c.length,none⟩) (j.length-c.length) (i-c.length)] 79)):=fun V d=>by rw[d];exact aM r _
         have YV:Hid (∀V:World,V.heap=(r.alloc (.cells #[.slice (some ⟨f,0,none⟩) c.length c.length,.slice (some ⟨f,c.length,none⟩) (j.length-c.length) (i-c.length)] 79)).heap->jA b.heap.size V (some ⟨f,0,none⟩) (j.take c.length)):=fun V d=>(YU.out.take c.length).eV fun Zq _⟨_,_,ab⟩=>by rw[d,cM _ _ _ (ak.1 ab).1]
         have YW:Hid (∀V:World,V.heap=(r.alloc (.cells #[.slice (some ⟨f,0,none⟩) c.length c.length,.slice (some ⟨f,c.length,none⟩) (j.length-c.length) (i-c.length)] 79)).heap->jA b.heap.size V (some ⟨f,c.length,none⟩) (j.drop c.length)):=fun V d=>by
          have F:=YU.out.drop c.length;rw[cI]at F;exact F.eV fun Zq _⟨_,_,ab⟩=>by rw[d,cM _ _ _ (ak.1 ab).1]
         go_region_held3(fun _=>True)(first|trivial)
          ((refine y8 _ (by rfl) _ _ (by rfl) b.heap.size (.slice bJ Yz.length aO) Yz (by rfl) (Q.out _ (by rfl)) r.heap.size (some ⟨f,0,none⟩) (some ⟨f,c.length,none⟩) (j.take c.length) (j.drop c.length) c.length (j.length-c.length) c.length (i-c.length) bm.out ba.out (by rfl) (P.out _ (by rfl)) (YV.out _ (by rfl)) (YW.out _ (by rfl)) bj.out (by unfold maxLen;omega) bk.out (by unfold maxLen;omega) (by omega) (by simp;omega) ?_;intro cm cl bL bC Yi Zw))
         have al:=hid (cU.past aj.out (V:=(r.alloc (.cells #[.slice (some ⟨f,0,none⟩) c.length c.length,.slice (some ⟨f,c.length,none⟩) (j.length-c.length) (i-c.length)] 79)).drew) (fun Zq D=>cM _ _ _ D) (Q.out _ rfl) Yi);have ar:=hid (cU.past aq.out (V:=(r.alloc (.cells #[.slice (some ⟨f,0,none⟩) c.length c.length,.slice (some ⟨f,c.length,none⟩) (j.length-c.length) (i-c.length)] 79)).drew) (fun Zq D=>cM _ _ _ D) (Q.out _ rfl) Yi);have Z8:Hid (Below b.heap.size b bL):=(YM.out.trans (bD ((ah _ _).alloc bd _) 1)).trans Zw;have aV:Hid (gY val a k (h:Int) (bw e)=(j.take c.length,j.drop c.length)):=Prod.ext aX.out aY.out;clear Q P YV YW Yi Zw;go_wp2;go_roundw
         case rel=>
          have n:=bP.out;rw[aV.out]at n;exact⟨h+1,_,by omega,by go_num,n,bC,Z8,al,ar⟩
         case measure=>simp[intOf];omega
        ·have t:=hid (Yh.out n)
         clear Yk Yl Yh n;by_cases ZH:30<c.length
         ·have aa:(30:Int)<(c.length:Int):=by omega
          clear YS ZH;go_wp2;go_ret2
          exact⟨u.out.trans (L.out.mono u.out.size),2,[],_,t.out,rfl,mn.nil _ _⟩
         ·have aa:decide ((30:Int)<(c.length:Int))=false:=by simp;omega
          have bX:(30:Int)<(Zs.length:Int):=by omega
          clear YS ZH;go_wp2;go_ret2
          exact⟨u.out.trans (L.out.mono u.out.size),2,[],_,t.out,rfl,mn.nil _ _⟩
      ·have t:=hid (show kr a k (bw l) (bw e) (gH a (Yg:Int) (E:Int)) Zd []from .inr ⟨⟨Yx,h,Yz,w,z.out,YE.out,.inl ⟨bs,val,o⟩⟩,rfl⟩)
       have cF:(Zd !=0)=true:=by simpa using Yx
       clear o Yx HSub;go_wp2;go_ret2
       exact⟨a7.out,Zd,[],_,t.out,rfl,mn.nil _ _⟩)
   ·obtain rfl:h=a.length:=by omega
    go_wp2;go_ret2
    exact⟨u.out.trans (y.out.mono u.out.size),0,Yz,_,.inl ⟨rfl,z.out⟩,rfl,N.out.mono u.out.size⟩)
theorem yA(a:List Int)(u:Option Addr)(h:Nat)(l:World)(i:cZ l.heap.size l u a)(q:a.length<=maxLen):
 Calls Tryz.prog 60 #[.slice u a.length h] l fun y t=>y=.returned (.bool (!a.any ei))∧t=l:=by
 unfold maxLen at q;go_enter Tryz.func60,Tryz.ntmps60;go_wp2;go_loop [3](fun s=>∃d:Nat,d<=a.length∧s=.int .i64 (d:Int)∧(a.take d).any ei=false)(fun s=>a.length-(intOf s).toNat)
 case atStart=>exact⟨0,bf _,rfl,by simp⟩
 case round=>
  obtain⟨d,A,rfl,b⟩:=hrel;by_cases c:d<a.length
  ·have o:(d:Int)<(a.length:Int):=by omega
   obtain⟨B,w,rfl,z,j⟩:=i.at (by omega);have v:=j d c;have e:=hid (xd (p:=ei) c b);have f:=hid (zB (p:=ei) c);clear j i b;generalize a[d]?.getD 0=x at*;by_cases g:x< -4
   ·have n:=hid (f.out (Rw g))
    clear e;go_wp2;go_ret;exact⟨by rw[n.out];rfl,rfl⟩
   ·have k:decide (x< -4)=false:=by simpa using g
    have m:=hid (e.out k);clear f g;go_wp2;go_round
    case rel=>exact⟨d+1,by omega,by go_num,m.out⟩
    case measure=>simp[intOf];omega
  ·obtain rfl:d=a.length:=by omega
   rw[cJ]at b;have r:=hid b;clear b;go_wp2;go_ret;exact⟨by rw[r.out];rfl,rfl⟩
theorem Dz(a:List Int)(g:Int)(v:Option Addr)(h:Nat)(n:World)(i:cZ n.heap.size n v a)(p:a.length<=maxLen):
 Calls Tryz.prog 61 #[.slice v a.length h,.int .i64 g] n fun y u=>y=.returned (.bool (iK a g))∧u=n:=by
 unfold maxLen at p;go_enter Tryz.func61,Tryz.ntmps61;go_wp2;go_loop [5](fun r=>∃d:Nat,d<=a.length∧r=.int .i64 (d:Int)∧∀s,s<d->a[s]?.getD 0≠g)(fun r=>a.length-(intOf r).toNat)
 case atStart=>exact⟨0,bf _,rfl,fun s A=>by omega⟩
 case round=>
  obtain⟨d,B,rfl,b⟩:=hrel;by_cases e:d<a.length
  ·have o:(d:Int)<(a.length:Int):=by omega
   obtain⟨C,x,rfl,z,k⟩:=i.at (by omega);have w:=k d e;have l:=hid (Jg b);have m:=hid (@Fg a g d e);clear k i b;generalize a[d]?.getD 0=t at*;by_cases c:t=g
   ·have j:(t==g)=true:=by simp[c]
    have f:=hid (m.out c);clear c;go_wp2;go_ret;exact⟨by rw[f.out];rfl,rfl⟩
   ·have j:(t==g)=false:=by simpa using c
    have f:=hid (l.out c);clear c;go_wp2;go_round
    case rel=>exact⟨d+1,by omega,by go_num,f.out⟩
    case measure=>simp[intOf];omega
  ·obtain rfl:d=a.length:=by omega
   have q:=hid (CV b);clear b;go_wp2;go_ret;exact⟨by rw[q.out];rfl,rfl⟩
