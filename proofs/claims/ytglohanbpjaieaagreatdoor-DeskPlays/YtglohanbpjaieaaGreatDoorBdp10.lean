/-
  Parts of the proof.
-/
import Derived.Test.YtglohanbpjaieaaGreatDoorBdp5
set_option maxHeartbeats 4000000
set_option maxRecDepth 100000
namespace Go.Proofs.YtglohanbpjaieaaGreatDoor
open Go.Proofs Go.RowKit Go.Shelf Go.Maps
variable {A B:Value}{C:TypeId}{E:Nat->Option Nat}{G O T:List (Nat×Nat)}{H:UInt8}{I:Array Value}{K R:List UInt8}{M:Int->Option Value}{N:Func}{U:Option Addr}{V:Bool}{X:Value->Value->Act}{Y:_}{Yc:Prop}{Z:Act}{b W:List Int}{e g y z L Yd Ye:Nat}{h J S:Nat->Nat}{r D:World}{u:Int}
inductive Tr
 |leaf(s:Int)
 |one(s:Int)(a:Tr)
 |two(s:Int)(a b:Tr)
variable {t P:Tr}
def Tr.flat:Tr->List Int
 |.leaf s=>[s]
 |.one s a=>s::a.flat
 |.two s a b=>s::(a.flat++b.flat)
def Tr.ok:Tr->Prop
 |.leaf s=>s<2
 |.one s a=>(s=2∨s=3)∧a.ok
 |.two s a b=>(s=4∨s=5)∧a.ok∧b.ok
def Tr.sy:Tr->Int
 |.leaf s=>s
 |.one s _=>s
 |.two s _ _=>s
def Tr.kids:Tr->List Tr
 |.leaf _=>[]
 |.one _ a=>[a]
 |.two _ a b=>[a,b]
theorem uu(a:u<2):Tm.room u=0:=by unfold Tm.room;rw[aE (by omega),aE (by omega)]
theorem wK(a:u=2∨u=3):Tm.room u=1:=by unfold Tm.room;rw[aD a]
theorem wZ(a:u=4∨u=5):Tm.room u=2:=by unfold Tm.room;rw[aE (by omega),aD a]
theorem Tr.room(a:t.ok):Tm.room t.sy=t.kids.length:=by
 cases t with
 |leaf b=>exact uu a
 |one b c=>exact wK a.1
 |two b c d=>exact wZ a.1
theorem Tr.KQ{x:Tr}(b:x.ok):∀c∈x.kids,c.ok:=by
 cases x with
 |leaf d=>intro c a;cases a
 |one d e=>intro c a;rw[Rj.1 a];exact b.2
 |two d e f=>
  intro c a;rcases dA.1 a with rfl|a
  ·exact b.2.1
  ·rw[Rj.1 a];exact b.2.2
theorem Tr.sym(a:Tr):dX a.flat=a.sy:=by cases a<;>rfl
theorem Tr.run:t.ok->∀(l:List Int)(n:Nat),Tm.run (t.flat++l) (n+1)=t.flat.length+Tm.run l n:=by
 induction t with
 |leaf e=>intro a l n;rw[Tr.flat,gz,Tm.fT,uu a];rfl
 |one e f d=>
  intro a l n;rw[Tr.flat,bc,Tm.fT,wK a.1,d a.2,aI];omega
 |two e f g b c=>
  intro a l n;rw[Tr.flat,bc,Tm.fT,wZ a.1,dE,b a.2.1,c a.2.2,aI,ai];omega
theorem Tr.Qv(a:t.ok):Tm.run t.flat 1=t.flat.length:=by
 have:=Tr.run a [] 0
 rwa[cW,Tm.gu]at this
theorem Tr.zV(a:Tr):a.flat=a.sy::(a.kids.map Tr.flat).flatten:=by
 cases a<;>simp[Tr.flat,Tr.sy,Tr.kids]
theorem Tr.Q6(d:t.ok){m:Nat}{c:Tr}(b:t.kids[m]?=some c):fu t.flat m=c.flat:=by
 rw[Tr.zV t];have e:m<t.kids.length:=by
  rcases Nat.lt_or_ge m t.kids.length with d|d
  ·exact d
  ·rw[ql d]at b;cases b
 rw[AF (gK:=t.kids.map Tr.flat) ?_ (by simpa using e)]
 ·rw[ic,b];rfl
 ·intro g f
  have a:g<t.kids.length:=by simpa using f
  rw[ic,an a];exact Tr.Qv (Tr.KQ d _ (ee a))
theorem Tr.inj:t.ok->∀{e:Tr}{l m:List Int},e.ok->t.flat++l=e.flat++m->t=e∧l=m:=by
 induction t with
 |leaf r=>
  intro d e l m a b;cases e with
  |leaf c=>simp only[Tr.flat,gz,Rk]at b;exact⟨by rw[b.1],b.2⟩
  |one c k=>simp only[Tr.flat,bc,Rk]at b;simp only[Tr.ok]at d a;omega
  |two c k s=>simp only[Tr.flat,bc,Rk]at b;simp only[Tr.ok]at d a;omega
 |one r k q=>
  intro d e l m a b;cases e with
  |leaf c=>simp only[Tr.flat,bc,Rk]at b;simp only[Tr.ok]at d a;omega
  |one c f=>
   simp only[Tr.flat,bc,Rk]at b;obtain⟨g,h⟩:=q d.2 a.2 b.2;exact⟨by rw[b.1,g],h⟩
  |two c f n=>simp only[Tr.flat,bc,Rk]at b;simp only[Tr.ok]at d a;omega
 |two r k s i j=>
  intro d e l m a b;cases e with
  |leaf c=>simp only[Tr.flat,bc,Rk]at b;simp only[Tr.ok]at d a;omega
  |one c f=>simp only[Tr.flat,bc,Rk]at b;simp only[Tr.ok]at d a;omega
  |two c f n=>
   simp only[Tr.flat,bc,dE,Rk]at b;obtain⟨g,h⟩:=i d.2.1 a.2.1 b.2;obtain⟨o,p⟩:=j d.2.2 a.2.2 h;exact⟨by rw[b.1,g,o],p⟩
theorem Tr.FE(a:t.ok)(b:P.ok)(c:t.flat=P.flat):t=P:=(Tr.inj a (l:=[]) (m:=[]) b (by rw[c])).1
theorem Tr.parse:∀(g:List Int)(n:Nat),(∀s∈g,s<6)->Tm.run g n=g.length->∃b:List Tr,b.length=n∧(∀x∈b,x.ok)∧(b.map Tr.flat).flatten=g:=by
 intro g;induction g with
 |nil=>
  intro n _ e;rw[Tm.oM]at e;exact⟨[],by simpa using e.symm,(fun _ e=>by cases e),rfl⟩
 |cons s q m=>
  intro n l e;cases n with
  |zero=>rw[Tm.gu]at e;simp at e
  |succ n=>
   rw[Tm.fT,aI]at e;obtain⟨b,c,d,f⟩:=m (n+Tm.room s) (fun x a=>l x (jb _ a)) (by omega);have p:=l s Rz;by_cases i:s<2
   ·rw[uu i]at c
    refine⟨.leaf s::b,by simpa using c,fun x a=>?_,by simp[Tr.flat,f]⟩;rcases dA.1 a with rfl|a
    ·exact i
    ·exact d x a
   ·by_cases j:s=2∨s=3
    ·rw[wK j]at c
     cases b with
     |nil=>simp at c
     |cons h b=>
      refine⟨.one s h::b,by simpa using c,fun x a=>?_,by rw[<-f];simp[Tr.flat]⟩;rcases dA.1 a with rfl|a
      ·exact⟨j,d h Rz⟩
      ·exact d x (jb _ a)
    ·have k:s=4∨s=5:=by omega
     rw[wZ k]at c;cases b with
     |nil=>simp at c
     |cons h b=>
      cases b with
      |nil=>simp at c
      |cons o b=>
       refine⟨.two s h o::b,by simpa using c,fun x a=>?_,by rw[<-f];simp[Tr.flat]⟩;rcases dA.1 a with rfl|a
       ·exact⟨k,d h Rz,d o (jb _ Rz)⟩
       ·exact d x (jb _ (jb _ a))
def rH:List UInt8:=[97,98,103,104,102,107]
def pC:List UInt8:=[120,121,122,119,112,113,114,115]
def kO(s:Int):UInt8:=if s<0 then pC[(-s-1).toNat]?.getD 0 else rH[s.toNat]?.getD 0
def tl:Nat->UInt8->Option Int
 |0,_=>none
 |n+1,c=>if kO (5-(n:Int))=c then some (5-(n:Int))else tl n c
def iZ(c:UInt8):Option Int:=tl 14 c
theorem Ol{p:UInt8->Prop}(b:∀n,n<256->p (UInt8.ofNat n))(a:UInt8):p a:=by
 have:=b a.toNat a.toNat_lt
 rwa[UInt8.ofNat_toNat]at this
theorem pM(a:Tm.known u=true):u= -8∨u= -7∨u= -6∨u= -5∨u= -4∨u= -3∨u= -2∨u= -1∨u=0∨u=1∨u=2∨u=3∨u=4∨u=5:=by
 unfold Tm.known at a;simp only[dW,dJ]at a;omega
theorem tp(a:Tm.known u=true):iZ (kO u)=some u:=by
 rcases pM a with a|a|a|a|a|a|a|a|a|a|a|a|a|a<;>subst a<;>decide+kernel
theorem Et:∀{n:Nat},n<=14->tl n H=some u->Tm.known u=true∧kO u=H:=by
 intro n;induction n with
 |zero=>intro _ a;cases a
 |succ n c=>
  intro d a;rw[tl]at a;by_cases b:kO (5-(n:Int))=H
  ·rw[aD b]at a
   cases a;exact⟨by unfold Tm.known;simp only[dW,dJ];omega,b⟩
  ·rw[aE b]at a
   exact c (by omega) a
theorem Ir(a:iZ H=some u):Tm.known u=true∧kO u=H:=Et (af _) a
theorem Er:iZ 40=none∧iZ 41=none∧iZ 44=none:=by decide+kernel
def Tr.show:Tr->List UInt8
 |.leaf s=>[kO s]
 |.one s a=>kO s::40::(a.show++[41])
 |.two s a b=>kO s::40::(a.show++44::(b.show++[41]))
def Tr.ow(x:Tr):Prop:=∀s∈x.flat,Tm.known s=true
def fj:List UInt8->List Int
 |[]=>[]
 |c::l=>match iZ c with
  |some s=>s::fj l
  |none=>fj l
theorem pU:∀(b c:List UInt8),fj (b++c)=fj b++fj c:=by
 intro b c;induction b with
 |nil=>rfl
 |cons d e a=>
  rw[bc,fj,fj];cases iZ d with
  |none=>exact a
  |some f=>simp only[bc,a]
theorem re(b:Tm.known u=true)(a:List UInt8):fj (kO u::a)=u::fj a:=by
 rw[fj,tp b]
theorem mV(b:iZ H=none)(a:List UInt8):fj (H::a)=fj a:=by
 rw[fj,b]
theorem Tr.FA:t.ow->fj t.show=t.flat:=by
 obtain⟨f,g,m⟩:=Er;induction t with
 |leaf h=>intro b;rw[Tr.show,re (b h (by simp[Tr.flat]))];rfl
 |one h j l=>
  intro b;have c:j.ow:=fun i a=>b i (by simp[Tr.flat,a])
  rw[Tr.show,re (b h (by simp[Tr.flat])),mV f,pU,l c,mV g];simp[Tr.flat,fj]
 |two h j n d e=>
  intro b;have c:j.ow:=fun i a=>b i (by simp[Tr.flat,a])
  have k:n.ow:=fun i a=>b i (by simp[Tr.flat,a])
  rw[Tr.show,re (b h (by simp[Tr.flat])),mV f,pU,d c,mV m,pU,e k,mV g];simp[Tr.flat,fj]
def kz(c:UInt8):List UInt8->Option (List UInt8)
 |[]=>none
 |b::l=>if b=c then some l else none
def ik:Nat->Nat->List UInt8->Option (List Int×List UInt8)
 |0,_,_=>none
 |_+1,0,_=>none
 |_+1,_+1,[]=>none
 |f+1,m+1,c::l=>(iZ c).bind fun s=>
  if Tm.room s=0 then some ([s],l)
  else(kz 40 l).bind fun l1=>(ik f m l1).bind fun p=>
   if Tm.room s=1 then(kz 41 p.2).bind fun l3=>some (s::p.1,l3)
   else(kz 44 p.2).bind fun l3=>(ik f (m-p.1.length) l3).bind fun q=>(kz 41 q.2).bind fun l5=>some (s::(p.1++q.1),l5)
theorem kQ(a:kz H K=some R):K=H::R:=by
 cases K with
 |nil=>cases a
 |cons c K=>
  rw[kz]at a;by_cases b:c=H
  ·rw[aD b]at a;cases a;rw[b]
  ·rw[aE b]at a;cases a
theorem gJ(a:UInt8)(b:List UInt8):kz a (a::b)=some b:=by rw[kz,aD rfl]
theorem Ax:∀(f m:Nat)(l:List UInt8)(p:List Int)(z:List UInt8),ik f m l=some (p,z)->∃x:Tr,x.ok∧x.ow∧x.flat=p∧l=x.show++z∧p.length<=m:=by
 intro f;induction f with
 |zero=>intro m l p z a;rw[ik]at a;cases a
 |succ f s=>
  intro m l p z a;cases m with
  |zero=>rw[ik]at a;cases a
  |succ m=>
   cases l with
   |nil=>rw[ik]at a;cases a
   |cons T l=>
    rw[ik,Ro]at a;obtain⟨e,E,a⟩:=a;obtain⟨t,o⟩:=Ir E;have k:∀c,c=e->Tm.known c=true:=fun c b=>by rw[b];exact t
    have i:=pM t;by_cases g:Tm.room e=0
    ·rw[aD g]at a
     cases a;have:e<2:=by
      rcases i with a|a|a|a|a|a|a|a|a|a|a|a|a|a<;>subst a<;>first|decide|(exfalso;revert g;decide)
     exact⟨.leaf e,this,fun c b=>k c (by simpa [Tr.flat]using b),rfl,by simp[Tr.show,o],by simp⟩
    ·rw[aE g,Ro]at a
     obtain⟨N,A,a⟩:=a;rw[Ro]at a;obtain⟨⟨L,P⟩,B,a⟩:=a;obtain⟨x,u,v,w,y,R⟩:=s _ _ _ _ B;have q:=kQ A;by_cases h:Tm.room e=1
     ·rw[aD h,Ro]at a
      obtain⟨F,j,a⟩:=a;cases a;have d:=kQ j;have n:e=2∨e=3:=by
       rcases i with a|a|a|a|a|a|a|a|a|a|a|a|a|a<;>subst a<;>first|exact .inl rfl|exact .inr rfl|(exfalso;revert h;decide)
      refine⟨.one e x,⟨n,u⟩,?_,by simp[Tr.flat,w],?_,by simp;omega⟩
      ·intro c b
       simp only[Tr.flat,dA]at b;rcases b with b|b
       ·exact k c b
       ·exact v c b
      ·simp only at d
       rw[q,y,d,Tr.show,o];simp
     ·rw[aE h,Ro]at a
      obtain⟨F,j,a⟩:=a;rw[Ro]at a;obtain⟨⟨M,Q⟩,C,a⟩:=a;rw[Ro]at a;obtain⟨O,D,a⟩:=a;cases a;obtain⟨S,G,H,I,J,K⟩:=s _ _ _ _ C;have d:=kQ j;have r:=kQ D;have n:e=4∨e=5:=by
       rcases i with a|a|a|a|a|a|a|a|a|a|a|a|a|a<;>subst a<;>first|exact .inl rfl|exact .inr rfl|(exfalso;revert h;decide)|(exfalso;revert g;decide)
      refine⟨.two e x S,⟨n,u,G⟩,?_,by simp[Tr.flat,w,I],?_,by simp at K⊢;omega⟩
      ·intro c b
       simp only[Tr.flat,dA,dZ]at b;rcases b with b|b|b
       ·exact k c b
       ·exact v c b
       ·exact H c b
      ·simp only at d r
       rw[q,y,d,J,r,Tr.show,o];simp
theorem AI:∀(x:Tr)(f m:Nat)(l:List UInt8),x.ok->x.ow->x.flat.length<=m->m<=f->ik f m (x.show++l)=some (x.flat,l):=by
 intro x;induction x with
 |leaf n=>
  intro f m l c b a i;obtain⟨f,rfl⟩:∃g,f=g+1:=⟨f-1,by simp[Tr.flat]at a;omega⟩;obtain⟨m,rfl⟩:∃g,m=g+1:=⟨m-1,by simp[Tr.flat]at a;omega⟩;rw[Tr.show,gz,ik,tp (b n (by simp[Tr.flat])),Re,aD (uu c)];rfl
 |one n p r=>
  intro f m l c b a i;obtain⟨f,rfl⟩:∃g,f=g+1:=⟨f-1,by simp[Tr.flat]at a;omega⟩;obtain⟨m,rfl⟩:∃g,m=g+1:=⟨m-1,by simp[Tr.flat]at a;omega⟩;have h:p.ow:=fun o e=>b o (by simp[Tr.flat,e])
  have d:=wK c.1;rw[Tr.show,bc,bc,ik,tp (b n (by simp[Tr.flat])),Re,aE (by rw[d];omega),gJ,Re,dE,r f m _ c.2 h (by simp[Tr.flat]at a;omega) (by omega),Re,aD d,gz,gJ,Re];rfl
 |two n p s j k=>
  intro f m l c b a i;obtain⟨f,rfl⟩:∃g,f=g+1:=⟨f-1,by simp[Tr.flat]at a;omega⟩;obtain⟨m,rfl⟩:∃g,m=g+1:=⟨m-1,by simp[Tr.flat]at a;omega⟩;have h:p.ow:=fun o e=>b o (by simp[Tr.flat,e])
  have q:s.ow:=fun o e=>b o (by simp[Tr.flat,e])
  have d:=wZ c.1;simp only[Tr.flat,aI,ai]at a;rw[Tr.show,bc,bc,ik,tp (b n (by simp[Tr.flat])),Re,aE (by rw[d];omega),gJ,Re,dE,j f m _ c.2.1 h (by omega) (by omega),Re,aE (by rw[d];omega),bc,gJ,Re,dE,k f (m-p.flat.length) _ c.2.2 q (by omega) (by omega),Re,gz,gJ,Re];rfl
def aO(l:List UInt8):List Int×Int:=match ik 30 30 l with
 |some (a,[])=>(a,0)
 |_=>([],1)
theorem qD(d:List UInt8):(∃x:Tr,x.ok∧x.ow∧x.flat.length<=30∧d=x.show∧ik 30 30 d=some (x.flat,[])∧aO d=(x.flat,0))∨
 ((∀x:Tr,x.ok->x.ow->x.flat.length<=30->d≠x.show)∧(∀f,ik 30 30 d≠some (f,[]))∧aO d=([],1)):=by
 cases e:ik 30 30 d with
 |none=>
  refine .inr ⟨fun x a b c g=>?_,(fun f=>by simp),by unfold aO;rw[e]⟩;have:=AI x 30 30 [] a b c (af _)
  rw[cW,<-g,e]at this;cases this
 |some n=>
  obtain⟨f,m⟩:=n;cases m with
  |nil=>
   obtain⟨x,h,i,j,k,l⟩:=Ax _ _ _ _ _ e;subst j;exact .inl ⟨x,h,i,l,by rw[k,cW],rfl,by unfold aO;rw[e]⟩
  |cons o m=>
   refine .inr ⟨fun x a b c g=>?_,(fun f=>by simp),by unfold aO;rw[e]⟩;have:=AI x 30 30 [] a b c (af _)
   rw[cW,<-g,e]at this;cases this
theorem Tr.IV(b:t.ok)(a:t.ow)(c:t.flat.length<=30):Tm.err t.flat=0:=by
 unfold Tm.err;rw[aE (by omega),aE,aD (Tr.Qv b)];rw[Bool.not_eq_false,dD];exact a
theorem Tr.we(e:Tm.err b=0):∃x:Tr,x.ok∧x.ow∧x.flat=b∧x.flat.length<=30:=by
 have a:=fw e;rw[dD]at a;obtain⟨j,f,g,h⟩:=Tr.parse b 1 (fun i c=>iC (a i c)) (fS e);match j,f with
 |[x],_=>
  have d:x.flat=b:=by simpa using h
  exact⟨x,g x (by simp),by intro i c;exact a i (by rw[<-d];exact c),d,by rw[d];exact cK e⟩
theorem s9{l:List UInt8}(c:t.ok)(f:t.ow)(g:t.flat=fj l)(h:t.flat.length<=30):(t.show=l∧aO l=(t.flat,0))∨(t.show≠l∧aO l=([],1)):=by
 rcases qD l with⟨j,a,b,k,d,_,i⟩|⟨a,_,b⟩
 ·have e:j=t:=Tr.FE a c (by rw[g,d,Tr.FA b])
  subst e;exact .inl ⟨d.symm,i⟩
 ·exact .inr ⟨fun e=>a t c f h e.symm,b⟩
theorem Gc(e:Tm.err (fj K)≠0):aO K=([],1):=by
 rcases qD K with⟨g,b,a,c,d,_,f⟩|⟨_,_,a⟩
 ·exact absurd (by rw[d,Tr.FA a];exact Tr.IV b a c) e
 ·exact a
def nB(s:Int):Int:=if s<0 then s-4 else s
def bw(t:List Int):List Int:=t.map nB
theorem kV(a:List Int):(bw a).length=a.length:=by simp[bw]
theorem sF(a:e<b.length):bw (b.take (e+1))=bw (b.take e)++[nB (b[e]?.getD 0)]:=by
 rw[qv a];simp[bw]
theorem Jt(a:Int)(i: -100<=a)(f:World):
 Calls Tryz.prog 203 #[.int .i64 a] f fun h c=>∃g,h=.returned (.slice (some g) 1 1)∧cZ c.heap.size c (some g) [nB a]∧Below f.heap.size f c:=by
 by_cases e:a<0
 ·have b:Hid (nB a=a-4):=by show _=_;unfold nB;rw[aD e]
  have d:=qX f [a-4] _ rfl;simp only[fF,gy]at d;go_enter Tryz.func203,Tryz.ntmps203;go_wp2;go_ret;exact⟨_,rfl,by rw[b.out];simpa using d,(ah _ _).alloc (af _) _⟩
 ·have b:Hid (nB a=a):=by show _=_;unfold nB;rw[aE e]
  have d:=qX f [a] _ rfl;simp only[fF,gy]at d;go_enter Tryz.func203,Tryz.ntmps203;go_wp2;go_ret;exact⟨_,rfl,by rw[b.out];simpa using d,(ah _ _).alloc (af _) _⟩
theorem zk(a:List Int)(f:Option Addr)(D:Nat)(Q:a.length<=1000)(l:∀k,k<a.length-> -100<=a[k]?.getD 0)(e:World)(q:cZ e.heap.size e f a):
 Calls Tryz.prog 204 #[.slice f a.length D,.func (.func 203) #[] #[]] e fun x w=>∃v,x=.returned v∧cU e.heap.size w v (bw a)∧Below e.heap.size e w:=by
 have G:(a.length:Int)<=1000:=by omega
 have z:=hid q;have y:=hid l;clear q l;go_enter Tryz.func204,Tryz.ntmps204;go_wp2;go_loopw [5,10](fun v I wr=>∃k:Nat,k<=a.length∧I=.int .i64 (k:Int)∧cU e.heap.size wr v (bw (a.take k))∧Below e.heap.size e wr)(fun _ I _=>a.length-(intOf I).toNat)
 case atStart=>exact⟨0,bf _,rfl,cU.nil _ _,ah _ _⟩
 case round=>
  obtain⟨k,P,rfl,c,b⟩:=hrel;by_cases d:k<a.length
  ·have H:(k:Int)<(a.length:Int):=by omega
   obtain⟨N,u,rfl,E,r⟩:=z.out.at (by omega);have L:=(b.cell (p:=⟨N,u+k,none⟩) E).trans (r k d);have s:=Jt (a[k]?.getD 0) (y.out k d) wr;have t:=hid (sF d);have j:=kV (a.take k);rw[cX]at j;have F:(bw (a.take k)).length<=1000:=by omega
   clear r j;generalize nB (a[k]?.getD 0)=J at*;generalize a[k]?.getD 0=U at*;generalize bw (a.take k)=K at*;obtain⟨M,O,rfl,_⟩:=cU.ints c;go_wp2_with(first
    |(go_at_call 203;refine s.mono ?_;clear s;rintro x S⟨B,rfl,n,g⟩;have o:=cU.below c g;have h:=b.trans (g.mono b.size))
    |(at_builtin;go_loud(refine dB _ rfl _ _ rfl e.heap.size _ K rfl o (some B) [J] 1 rfl (fun x=>by cases x) n (by simp;omega) h.size ?_);intro R T i m;obtain⟨A,C,rfl,_⟩:=cU.ints i))
   go_roundw
   case rel=>exact⟨k+1,by omega,by go_num,by rw[t.out];simpa using i,h.trans m⟩
   case measure=>simp[intOf];omega
  ·obtain rfl:k=a.length:=by omega
   rw[cJ]at c;obtain⟨A,C,rfl,_⟩:=cU.ints c;go_wp2;go_ret;exact⟨_,rfl,c,b⟩
def eT(W:World)(B:Nat)(t:TypeId)(x y:Value):Prop:=W.heap[B]?=some (.cells #[x,y] t (0,0))
theorem eT.lt(a:eT r e C A B):e<r.heap.size:=(ak.1 a).1
theorem eT.cell0(a:eT r e C A B):r.cell? ⟨e,0,none⟩=some A:=by simp[World.cell?,show r.heap[e]?=_ from a]
theorem eT.dh(a:eT r e C B A):r.cell? ⟨e,1,none⟩=some A:=by simp[World.cell?,show r.heap[e]?=_ from a]
theorem eT.frozen(a:eT r e C A B)(i:Nat):r.frozen? ⟨e,i,none⟩=false:=by simp[World.frozen?,show r.heap[e]?=_ from a]
theorem eT.new(a:World)(b:TypeId)(c d:Value):eT (a.alloc (.cells #[c,d] b)) a.heap.size b c d:=aM a _
theorem eT.kept{row:Option Nat}(c:eT r e C A B)(b:r.grownBy D row)(a:some e≠row):eT D e C A B:=(b.block e c.lt a).trans c
theorem eT.below(c:eT r e C A B)(a:Below g r D)(b:e<g):eT D e C A B:=(a.block e b).trans c
theorem eT.alloc(b:eT r e C A B)(a:Obj):eT (r.alloc a) e C A B:=b.kept (jl r a none) (by simp)
theorem eT.ld(d:eT r e C B A)(c:Value):eT (r.setCell ⟨e,0,none⟩ c) e C c A:=by
 obtain⟨a,b⟩:=ak.1 d;show(r.heap.modify e _)[e]?=_;rw[fo (by rw[iO];exact a),fJ,b];rfl
theorem eT.A0(d:eT r e C A B)(c:Value):eT (r.setCell ⟨e,1,none⟩ c) e C A c:=by
 obtain⟨a,b⟩:=ak.1 d;show(r.heap.modify e _)[e]?=_;rw[fo (by rw[iO];exact a),fJ,b];rfl
theorem cU.KH{base:Nat}(g:cU base r A b)(e:∀q,base<=q->q<r.heap.size->D.heap[q]?=r.heap[q]?):cU base D A b:=
 ⟨g.1,g.2.elim .inl fun⟨f,h,a,i,c,d,j⟩=>.inr ⟨f,h,a,i,c,(e f c (ak.1 d).1).trans d,j⟩⟩
def QL(w:World)(L R:List Int)(F:Value->Value->Act)(e:Exit)(a':Act)(w4:World):Prop:=
 e=.normal∧∃v u,a'=F v u∧cU w.heap.size w4 v (bw L)∧cU w.heap.size w4 u (bw R)∧Below w.heap.size w w4∧eT w4 (w.heap.size+1) 70 v u
theorem QL.panic(a:QL r b W X (.panic Y) Z D):Yc:=by
 cases a.1
theorem Gz(d:N.results=#[.cell e 70])(c:I.getD e undef=.pointer (some ⟨g,0,none⟩))(b:eT r g 70 A B):(results N I).run Tryz.prog r=.ok (.agg #[A,B]) r:=by
 have a:I[e]?.getD undef=.pointer (some ⟨g,0,none⟩):=by rw[<-c];simp
 simp only[results,d];simp[go_sem,a,b.cell0,b.dh]
theorem LZ(j q:List Int)(n o:Option Addr)(s t:Nat)(d:World)(Yl:cZ d.heap.size d n j)(Ym:cZ d.heap.size d o q)(Yo:j.length<=1000)(Yp:q.length<=1000)(Yk:∀k,k<j.length-> -100<=j[k]?.getD 0)(Yi:∀k,k<q.length-> -100<=q[k]?.getD 0):
 Calls Tryz.prog 181 #[.agg #[.slice n j.length s,.slice o q.length t]] d fun W Yd=>∃v x,W=.returned (.agg #[v,x])∧cU d.heap.size Yd v (bw j)∧cU d.heap.size Yd x (bw q)∧Below d.heap.size d Yd:=by
 have Yx:∀(Yh:Fn)(first V:Array Value)(d:World),(Instr.makeFunc Yh first V).run Tryz.prog d=.ok (.func Yh first V) d:=fun _ _ _ _=>rfl
 obtain⟨e,z⟩:∃e,(d.alloc (.cells #[.slice n j.length s,.slice o q.length t] 70)).alloc (.cells #[.slice none 0 0,.slice none 0 0] 70)=e:=⟨_,rfl⟩;have Yy:e.heap.size=d.heap.size+2:=by rw[<-z];simp
 have y:Below d.heap.size d e:=by rw[<-z];exact((ah _ d).alloc (af _) _).alloc (by simp) _
 have O:eT e d.heap.size 70 (.slice n j.length s) (.slice o q.length t):=by rw[<-z];exact(eT.new d 70 _ _).alloc _
 have R:eT e (d.heap.size+1) 70 (.slice none 0 0) (.slice none 0 0):=by
  rw[<-z];have F:=eT.new (d.alloc (.cells #[.slice n j.length s,.slice o q.length t] 70)) 70 (.slice none 0 0) (.slice none 0 0);rwa[bI]at F
 have M:Below e.heap.size e e.drew:=bD (ah _ e) 1;have H:=hid (zk j n s Yo Yk e.drew ((Yl.below y).mono y.size));have I:=hid (fun c(b:Below e.drew.heap.size e.drew c)=>zk q o t Yp Yi c ((((Ym.below y).mono y.size).below (M.trans (b.mono (af _)))).mono b.size));have C:Hid (∀c,Below e.drew.heap.size e.drew c->eT c d.heap.size 70 (.slice n j.length s) (.slice o q.length t)∧eT c (d.heap.size+1) 70 (.slice none 0 0) (.slice none 0 0)):=fun c b=>⟨(b.block _ (show d.heap.size<e.heap.size by omega)).trans O,(b.block _ (show d.heap.size+1<e.heap.size by omega)).trans R⟩
 have D:Hid (∀c g,Below e.drew.heap.size e.drew c->Below c.heap.size c g->eT g d.heap.size 70 (.slice n j.length s) (.slice o q.length t)∧eT g (d.heap.size+1) 70 (.slice none 0 0) (.slice none 0 0)):=fun c g b f=>by
  obtain⟨p,G⟩:=C.out c b;exact⟨(f.block _ p.lt).trans p,(f.block _ G.lt).trans G⟩
 have Yf:=O.cell0;have Yg:=O.dh;have Yq:e.drew.cell? ⟨d.heap.size,0,none⟩=some (.slice n j.length s):=Yf;have Yr:e.drew.cell? ⟨d.heap.size,1,none⟩=some (.slice o q.length t):=Yg;have A:Hid (∀c g v x,Below e.drew.heap.size e.drew c->Below c.heap.size c g->cU e.drew.heap.size c v (bw j)->cU c.heap.size g x (bw q)->
  QL d j q (fun v x=>{tmps:=#[.agg #[.slice n j.length s,.slice o q.length t],.pointer (some ⟨d.heap.size,0,none⟩),.pointer (some ⟨d.heap.size+1,0,none⟩),.func (.func 203) #[] #[],.pointer (some ⟨d.heap.size,0,none⟩),.slice n j.length s,.func (.func 203) #[] #[],v,.pointer (some ⟨d.heap.size,1,none⟩),.slice o q.length t,.func (.func 203) #[] #[],x,.agg #[v,x]],defers:=[]}) .normal
   {tmps:=#[.agg #[.slice n j.length s,.slice o q.length t],.pointer (some ⟨d.heap.size,0,none⟩),.pointer (some ⟨d.heap.size+1,0,none⟩),.func (.func 203) #[] #[],.pointer (some ⟨d.heap.size,0,none⟩),.slice n j.length s,.func (.func 203) #[] #[],v,.pointer (some ⟨d.heap.size,1,none⟩),.slice o q.length t,.func (.func 203) #[] #[],x,.agg #[v,x]],defers:=[]}
   ((g.setCell ⟨d.heap.size+1,0,none⟩ v).setCell ⟨d.heap.size+1,1,none⟩ x)):=fun c g v x b f l m=>by
  have Yj:e.heap.size<=c.heap.size:=b.size;have Yc:=y.trans (((M.trans (b.mono (af _))).trans (f.mono Yj)).mono y.size);have Yn:∀G,d.heap.size+2<=G->((g.setCell ⟨d.heap.size+1,0,none⟩ v).setCell ⟨d.heap.size+1,1,none⟩ x).heap[G]?=g.heap[G]?:=fun G YA=>(aT _ _ _ G (show G≠d.heap.size+1 by omega)).trans (aT _ _ _ G (show G≠d.heap.size+1 by omega))
  have Yv:cU (d.heap.size+2) g v (bw j):=(l.mono (show d.heap.size+2<=e.heap.size by omega)).below f;have Yw:cU (d.heap.size+2) g x (bw q):=m.mono (by omega);refine⟨rfl,v,x,rfl,(Yv.KH (fun G Z _=>Yn G Z)).mono (by omega),(Yw.KH (fun G Z _=>Yn G Z)).mono (by omega),?_,?_⟩
  ·exact(Yc.setCell (p:=⟨d.heap.size+1,0,none⟩) (by show d.heap.size<=d.heap.size+1;omega) v).setCell (p:=⟨d.heap.size+1,1,none⟩) (by show d.heap.size<=d.heap.size+1;omega) x
  ·exact((D.out c g b f).2.ld v).A0 x
 have Ye:=hid z;have P:Tryz.prog.follows .mixedOrders=true:=by kernel_rfl
 clear z Yl Ym Yk Yi Yo Yp O R y M;go_enter Tryz.func181,Tryz.ntmps181;go_wp2_with fail;rw[Ye.out];refine wp_mono (Q:=QL d j q (fun v x=>{tmps:=#[.agg #[.slice n j.length s,.slice o q.length t],.pointer (some ⟨d.heap.size,0,none⟩),.pointer (some ⟨d.heap.size+1,0,none⟩),.func (.func 203) #[] #[],.pointer (some ⟨d.heap.size,0,none⟩),.slice n j.length s,.func (.func 203) #[] #[],v,.pointer (some ⟨d.heap.size,1,none⟩),.slice o q.length t,.func (.func 203) #[] #[],x,.agg #[v,x]],defers:=[]})) ?reg ?aft
 case reg=>
  refine wp_region_any P ?_;change wpAny _ _ _ _ _ _ _ (World.drew _);show wpAny _ _ _ _ 10 (Array.replicate 10 false) _ _;refine Rp (i:=0) (v:=.pointer (some ⟨d.heap.size,0,none⟩)) rfl (by kernel_rfl) (by kernel_rfl) (by kernel_rfl) (fun _ _ _ F=>F.panic) (Or.inl ⟨by rfl,fun d=>by go_simp⟩) ?_;refine Rp (i:=2) (v:=.func (.func 203) #[] #[]) rfl (by kernel_rfl) (by kernel_rfl) (by kernel_rfl) (fun _ _ _ F=>F.panic) (Or.inl ⟨by rfl,fun d=>by go_simp⟩) ?_;refine Rp (i:=4) (v:=.pointer (some ⟨d.heap.size,1,none⟩)) rfl (by kernel_rfl) (by kernel_rfl) (by kernel_rfl) (fun _ _ _ F=>F.panic) (Or.inl ⟨by rfl,fun d=>by go_simp⟩) ?_;refine Rp (i:=6) (v:=.func (.func 203) #[] #[]) rfl (by kernel_rfl) (by kernel_rfl) (by kernel_rfl) (fun _ _ _ F=>F.panic) (Or.inl ⟨by rfl,fun d=>by go_simp⟩) ?_;refine Ri (rs:=[1,5]) (by kernel_rfl) (by simp) ?_;refine Rf rfl (fun w a=>?_) (Rf rfl (fun w a=>?_) Rh)
  ·go_simp
   refine a _ _ ?_;clear a w;refine Ri (rs:=[3,5]) (by kernel_rfl) (by simp) ?_;refine Rf rfl (fun w a=>?_) (Rf rfl (fun w a=>?_) Rh)
   ·go_simp
    refine(H.out).mono ?_;rintro W c⟨v,rfl,l,b⟩;obtain⟨u,r,rfl,_⟩:=cU.ints l;have J:=C.out c b;have S:=J.1.dh;refine a _ _ ?_;clear a w;refine Ri (rs:=[5]) (by kernel_rfl) (by simp) ?_;refine Rf rfl (fun w a=>?_) Rh;go_simp;refine a _ _ ?_;clear a w;refine Ri (rs:=[7]) (by kernel_rfl) (by simp) ?_;refine Rf rfl (fun w a=>?_) Rh;go_simp;refine(I.out c b).mono ?_;rintro W g⟨x,rfl,m,f⟩;obtain⟨E,B,rfl,_⟩:=cU.ints m;have h:=D.out c g b f;have T:=h.2.cell0;have U:=h.2.dh;have X:=h.2.frozen 0;have Y:=h.2.frozen 1;have K:=(h.2.ld (.slice u (bw j).length r)).dh;have L:=(h.2.ld (.slice u (bw j).length r)).frozen 1;refine a _ _ ?_;clear a w;refine Rp (i:=8) (v:=.agg #[.slice u (bw j).length r,.slice E (bw q).length B]) rfl (by kernel_rfl) (by kernel_rfl) (by kernel_rfl) (fun _ _ _ F=>F.panic) (Or.inl ⟨by rfl,fun d=>by go_simp⟩) ?_;refine Ri (rs:=[9]) (by kernel_rfl) (by simp) ?_;refine Rf rfl (fun w a=>?_) Rh;go_simp;refine a _ _ ?_;clear a w;refine RM (by kernel_rfl) ?_ _;exact A.out c g (.slice u (bw j).length r) (.slice E (bw q).length B) b f l m
   ·go_simp
    refine a _ _ ?_;clear a w;refine Ri (rs:=[3]) (by kernel_rfl) (by simp) ?_;refine Rf rfl (fun w a=>?_) Rh;go_simp;refine(H.out).mono ?_;rintro W c⟨v,rfl,l,b⟩;obtain⟨u,r,rfl,_⟩:=cU.ints l;have J:=C.out c b;have S:=J.1.dh;refine a _ _ ?_;clear a w;refine Ri (rs:=[7]) (by kernel_rfl) (by simp) ?_;refine Rf rfl (fun w a=>?_) Rh;go_simp;refine(I.out c b).mono ?_;rintro W g⟨x,rfl,m,f⟩;obtain⟨E,B,rfl,_⟩:=cU.ints m;have h:=D.out c g b f;have T:=h.2.cell0;have U:=h.2.dh;have X:=h.2.frozen 0;have Y:=h.2.frozen 1;have K:=(h.2.ld (.slice u (bw j).length r)).dh;have L:=(h.2.ld (.slice u (bw j).length r)).frozen 1;refine a _ _ ?_;clear a w;refine Rp (i:=8) (v:=.agg #[.slice u (bw j).length r,.slice E (bw q).length B]) rfl (by kernel_rfl) (by kernel_rfl) (by kernel_rfl) (fun _ _ _ F=>F.panic) (Or.inl ⟨by rfl,fun d=>by go_simp⟩) ?_;refine Ri (rs:=[9]) (by kernel_rfl) (by simp) ?_;refine Rf rfl (fun w a=>?_) Rh;go_simp;refine a _ _ ?_;clear a w;refine RM (by kernel_rfl) ?_ _;exact A.out c g (.slice u (bw j).length r) (.slice E (bw q).length B) b f l m
  ·go_simp
   refine a _ _ ?_;clear a w;refine Ri (rs:=[1]) (by kernel_rfl) (by simp) ?_;refine Rf rfl (fun w a=>?_) Rh;go_simp;refine a _ _ ?_;clear a w;refine Ri (rs:=[3]) (by kernel_rfl) (by simp) ?_;refine Rf rfl (fun w a=>?_) Rh;go_simp;refine(H.out).mono ?_;rintro W c⟨v,rfl,l,b⟩;obtain⟨u,r,rfl,_⟩:=cU.ints l;have J:=C.out c b;have S:=J.1.dh;refine a _ _ ?_;clear a w;refine Ri (rs:=[7]) (by kernel_rfl) (by simp) ?_;refine Rf rfl (fun w a=>?_) Rh;go_simp;refine(I.out c b).mono ?_;rintro W g⟨x,rfl,m,f⟩;obtain⟨E,B,rfl,_⟩:=cU.ints m;have h:=D.out c g b f;have T:=h.2.cell0;have U:=h.2.dh;have X:=h.2.frozen 0;have Y:=h.2.frozen 1;have K:=(h.2.ld (.slice u (bw j).length r)).dh;have L:=(h.2.ld (.slice u (bw j).length r)).frozen 1;refine a _ _ ?_;clear a w;refine Rp (i:=8) (v:=.agg #[.slice u (bw j).length r,.slice E (bw q).length B]) rfl (by kernel_rfl) (by kernel_rfl) (by kernel_rfl) (fun _ _ _ F=>F.panic) (Or.inl ⟨by rfl,fun d=>by go_simp⟩) ?_;refine Ri (rs:=[9]) (by kernel_rfl) (by simp) ?_;refine Rf rfl (fun w a=>?_) Rh;go_simp;refine a _ _ ?_;clear a w;refine RM (by kernel_rfl) ?_ _;exact A.out c g (.slice u (bw j).length r) (.slice E (bw q).length B) b f l m
 case aft=>
  rintro W Yz YD⟨rfl,v,x,rfl,Yu,Yt,Yc,N⟩;have YB:=N.cell0;have YC:=N.dh;clear H I C D A;go_wp2;refine fI (Gz rfl rfl N) rfl ?_;exact⟨v,x,rfl,Yu,Yt,Yc⟩
namespace Wb
def sg(zs:List Int)(p:Nat):Int:=zs[p]?.getD 0
structure Good(zs:List Int):Prop where
 len:zs.length<=5000
 eight:8<=zs.length
 known:∀p,p<zs.length-> -8<=sg zs p∧sg zs p<6
 vars:∀i,i<8->sg zs i= -1-(i:Int)
 ends:∀p,p<zs.length->Tm.dn zs p<=zs.length
def can(zs:List Int)(p:Nat):Nat:=if sg zs p<0 then(-1-sg zs p).toNat else p
theorem uL{p:Nat}(a:0<=sg b p):can b p=p:=by unfold can;rw[aE (by omega)]
theorem BI(a:Good b)(c:e<b.length):can b e<b.length:=by
 have:=a.known e c
 have:=a.eight
 unfold can;split<;>omega
theorem El(c:Good b)(d:e<b.length):sg b (can b e)=sg b e:=by
 by_cases a:sg b e<0
 ·unfold can
  rw[aD a];have:=c.known e d
  rw[c.vars _ (by omega)];omega
 ·rw[uL (by omega)]
theorem yN(d:Good b){p:Nat}(e:p<b.length):can b (can b p)=can b p:=by
 have c:=El d e;by_cases a:sg b p<0
 ·rw[show can b (can b p)=(-1-sg b (can b p)).toNat from by conv=>lhs;rw[can]
                                                            rw[aD (by rw[c];exact a)],c]
  unfold can;rw[aD a]
 ·rw[uL (p:=can b p) (by rw[c];omega)]
structure St(zs:List Int)(T:Nat->Option Nat)(h:Nat->Nat):Prop where
 root:∀p,p<zs.length->can zs p=p->h p<zs.length∧can zs (h p)=h p∧h (h p)=h p
 free:∀p,p<zs.length->can zs p=p->(T p=none↔h p=p)
 next:∀p q,p<zs.length->can zs p=p->T p=some q->q<zs.length∧can zs q=q∧h q=h p
 down:∃st:Nat->Nat,∀p q,p<zs.length->can zs p=p->T p=some q->st q<st p
 up:∀p,p<zs.length->can zs p=p->sg zs p<=sg zs (h p)
 out:∀p,zs.length<=p->h p=p∧T p=none
theorem St.start(e:List Int):St e (fun _=>none) (fun a=>a):=
 ⟨fun a c d=>⟨c,d,rfl⟩,fun a _ _=>by simp,fun a f _ _ b=>by simp at b,⟨fun _=>0,fun a f _ _ b=>by simp at b⟩,fun a _ _=>Int.le_refl _,fun _ _=>⟨rfl,rfl⟩⟩
def vO(T:Nat->Option Nat)(o n:Nat):Nat->Option Nat:=fun p=>if p=o then some n else T p
def mg(h:Nat->Nat)(o n:Nat):Nat->Nat:=fun p=>if h p=o then n else h p
theorem St.merge(p:St b E h)(G:e<b.length)(u:g<b.length)(F:can b e=e)(t:can b g=g)(w:h e=e)(s:h g=g)(l:e≠g)(H:sg b e<=sg b g):
 St b (vO E e g) (mg h e g):=by
 have n:mg h e g g=g:=by unfold mg;rw[s,aE (fun d=>l d.symm)]
 have o:mg h e g e=g:=by unfold mg;rw[aD w]
 refine⟨fun a f i=>?_,fun a f i=>?_,fun a r f i j=>?_,?_,fun a f i=>?_,fun a D=>?_⟩
 ·obtain⟨x,y,z⟩:=p.root a f i
  by_cases d:h a=e
  ·have:mg h e g a=g:=by unfold mg;rw[aD d]
   rw[this];exact⟨u,t,n⟩
  ·have:mg h e g a=h a:=by unfold mg;rw[aE d]
   rw[this];refine⟨x,y,?_⟩;unfold mg;rw[z,aE d]
 ·by_cases d:a=e
  ·subst d
   rw[o];simp[vO];exact fun d=>l d.symm
  ·have m:vO E e g a=E a:=by simp[vO,d]
   rw[m,p.free a f i];unfold mg;by_cases c:h a=e
   ·rw[aD c]
    constructor
    ·intro q;exact absurd (q.symm.trans c) d
    ·intro q;subst q;rw[s]at c;exact absurd c.symm l
   ·rw[aE c]
 ·by_cases d:a=e
  ·subst d
   simp[vO]at j;subst j;exact⟨u,t,by rw[n,o]⟩
  ·have m:vO E e g a=E a:=by simp[vO,d]
   rw[m]at j;obtain⟨x,y,z⟩:=p.next a r f i j;exact⟨x,y,by unfold mg;rw[z]⟩
 ·obtain⟨k,v⟩:=p.down
  refine⟨fun a=>if h a=e then k a+(k g+1)else k a,fun a r f i j=>?_⟩;show(if h r=e then k r+(k g+1)else k r)<(if h a=e then k a+(k g+1)else k a);by_cases d:a=e
  ·subst d
   simp[vO]at j;subst j;rw[aE (by rw[s];exact fun d=>l d.symm),aD w];omega
  ·have m:vO E e g a=E a:=by simp[vO,d]
   rw[m]at j;have B:=(p.next a r f i j).2.2;have C:=v a r f i j;rw[B];by_cases c:h a=e
   ·rw[aD c,aD c];omega
   ·rw[aE c,aE c];exact C
 ·have:=p.up a f i
  unfold mg;by_cases d:h a=e
  ·rw[aD d];rw[d]at this;omega
  ·rw[aE d];exact this
 ·obtain⟨A,c⟩:=p.out a D
  refine⟨by unfold mg;rw[A,aE (by omega)],?_⟩;unfold vO;rw[aE (by omega)];exact c
def rt(zs:List Int)(h:Nat->Nat):Nat:=((List.range zs.length).filter fun p=>decide (can zs p=p∧h p=p)).length
theorem filter_lt{i:Type}(l:List i)(e g:i->Bool)(c:∀x∈l,e x=true->g x=true)(x:i)(a:x∈l)(j:e x=false)(k:g x=true):(l.filter e).length<(l.filter g).length:=by
 have d:∀(l:List i),(∀x∈l,e x=true->g x=true)->(l.filter e).length<=(l.filter g).length:=by
  intro l;induction l with
  |nil=>intro _;simp
  |cons h l f=>
   intro n;have:=f (fun x a=>n x (by simp[a]))
   rw[RE,RE];by_cases b:e h=true
   ·rw[aD b,aD (n h (by simp) b)];simp;omega
   ·rw[aE b];split<;>(try simp)<;>omega
 induction l with
 |nil=>simp at a
 |cons h l f=>
  rw[RE,RE];rcases dA.1 a with o|m
  ·subst o
   have:=d l (fun x a=>c x (by simp[a]))
   rw[aE (by rw[j];decide),aD k];simp;omega
  ·have:=f (fun x a=>c x (by simp[a])) m
   by_cases b:e h=true
   ·rw[aD b,aD (c h (by simp) b)];simp;omega
   ·rw[aE b];split<;>(try simp)<;>omega
theorem FU(j:e<b.length)(i:can b e=e)(f:h e=e)(k:h g=g)(d:e≠g):rt b (mg h e g)<rt b h:=by
 refine filter_lt _ _ _ (fun m _ c=>?_) e (Rd.2 j) ?_ ?_
 ·simp only[dJ]at c⊢
  refine⟨c.1,?_⟩;have a:=c.2;unfold mg at a;by_cases l:h m=e
  ·rw[aD l]at a;subst a;exact k
  ·rw[aE l]at a;exact a
 ·simp only[kB]
  rintro⟨_,a⟩;unfold mg at a;rw[aD f]at a;exact d a.symm
 ·simp[i,f]
def hd(zs:List Int)(h:Nat->Nat)(p:Nat):Nat:=h (can zs p)
theorem tX(c:Good b)(d:St b E h)(a:e<b.length):hd b h e<b.length∧can b (hd b h e)=hd b h e∧h (hd b h e)=hd b h e:=
 d.root _ (BI c a) (yN c a)
theorem Py(c:Good b)(d:St b E h){p:Nat}(a:p<b.length):sg b p<=sg b (hd b h p):=by
 have:=d.up _ (BI c a) (yN c a)
 rw[El c a]at this;exact this
end Wb
section
section
variable{F:Fence}{nF:Nat}(w:World){ops:Array Oper}{rest:List Oper}{o:Oper}{a:Act}{Q:Exit->Act->World->Prop}
theorem sS(k:o.guard=none)(u z:Operand)(x:TypeId)(c:o.op=Op.lookup x u z true)(t:TypeId)(n:Tryz.prog.underlying x=some (.map 3 t)){A:Value}(r:(zeroValue t).run Tryz.prog w=.ok A w)(s C:Nat)(h:Int->Option Value)
 (l:a.eval u=.map (some s))(i:gM w s C h)(b:Int)(q:a.eval z=.int .i64 b)(g:(Lit.int .i64 b).wf=true)(y:Value)(v:Bool)(p:(h b).getD A=y)(m:(h b).isSome=v)
 (j:wpListIn F nF Tryz.prog ops Q rest (a.put o.dst (.tuple #[y,.bool v])) w):wpListIn F nF Tryz.prog ops Q (o::rest) a w:=by
 refine xg k fun B e=>?_
 have d:=(i.look n r g).1;rw[p,m]at d;unfold Oper.wpIn;refine⟨by simp[Oper.about,c],?_⟩;rw[od F _ _ (by rw[c];intro D f;cases f)];simp[execOp,c,l,q,d,Result.andThen];exact e _ _ j
end
structure iV(W:World)(Bw Bm:Nat)(a:Option Addr)(cap:Nat)(zs:List Int)(N:Nat)(T:Nat->Option Nat):Prop where
 FC:W.heap[Bw]?=some (.cells #[.slice a zs.length cap,.map (some Bm)] 248 (0,0))
 ints:cZ W.heap.size W a zs
 ties:∃M,gM W Bm N M∧∀p:Nat,M (p:Int)=(T p).map fun q=>.int .i64 (q:Int)
theorem iV.cell0{f:World}{c e:Nat}{a:Option Addr}{b:Nat}{d:List Int}{g:Nat}{h:Nat->Option Nat}(i:iV f c e a b d g h):f.cell? ⟨c,0,none⟩=some (.slice a d.length b):=(dp i.FC 0).trans rfl
theorem iV.dh{f:World}{c b:Nat}{a:Option Addr}{d:Nat}{e:List Int}{g:Nat}{h:Nat->Option Nat}(i:iV f c b a d e g h):f.cell? ⟨c,1,none⟩=some (.map (some b)):=(dp i.FC 1).trans rfl
theorem iV.below{j f:World}{e d:Nat}{a:Option Addr}{c:Nat}{h:List Int}{l:Nat}{m:Nat->Option Nat}(i:iV j e d a c h l m)(b:Below j.heap.size j f):iV f e d a c h l m:=by
 refine⟨(b.block e (ak.1 i.FC).1).trans i.FC,(i.ints.below b).mono b.size,?_⟩;obtain⟨n,g,k⟩:=i.ties;exact⟨n,g.eV (b.block d g.lt),k⟩
theorem iV.lt{e:World}{c b:Nat}{a:Option Addr}{d:Nat}{g:List Int}{i:Nat}{j:Nat->Option Nat}(h:iV e c b a d g i j):c<e.heap.size∧b<e.heap.size:=by
 obtain⟨l,f,k⟩:=h.ties;exact⟨(ak.1 h.FC).1,f.lt⟩
theorem Qs{n:Nat}(a:n<=100000):(Lit.int .i64 (n:Int)).wf=true:=by
 simp[Lit.wf,IntKind.min,IntKind.max,IntKind.signed,IntKind.bits];omega
attribute [local go_sem] Oper.semAt_some
theorem yZ(F:Fence)(hF:Pl F)(n:Nat)(c:List Int)(Y:Nat->Option Nat)(y:Nat->Nat)(P:Wb.Good c)(Yc:Wb.St c Y y)(O m:Nat)(a:Option Addr)(R Q i:Nat)(z:i<c.length)(w:World)(q:iV w O m a R c Q Y):
 CallsIn F n Tryz.prog 215 #[.pointer (some ⟨O,0,none⟩),.int .i64 (i:Int)] w fun Yp Ye=>Yp=.returned (.int .i64 (Wb.hd c y i:Int))∧Ye=w:=by
 obtain⟨I,G,Yg⟩:=oG hF;have V:=G _ _ Tryz.func215;clear hF G;have Yi:=P.len;have Yd:(c.length:Int)<=5000:=by omega
 have Yj:(i:Int)<(c.length:Int):=by omega
 have Ym:=q.cell0;have Yn:=q.dh;obtain⟨C,S,T⟩:=q.ties;obtain⟨Yo,W,rfl,Yq,U⟩:=q.ints.at (by omega);have Yf:w.cell? ⟨Yo,W+i,none⟩=some (.int .i64 (Wb.sg c i)):=U i z;obtain⟨X,J⟩:=Yc.down;have E:=Wb.BI P z;have D:=Wb.yN P z;have Yh:=P.known i z;have v:=hid Yc;have B:=hid J;have u:=hid S;have x:=hid T;have r:Hid (Wb.can c i=if Wb.sg c i<0 then(-1-Wb.sg c i).toNat else i):=rfl;have H:Hid (Wb.hd c y i=y (Wb.can c i)):=rfl;clear Yc J S T U q P;generalize Wb.hd c y i=Yr at*;generalize Wb.sg c i=Z at*;generalize Wb.can c i=N at*;by_cases A:Z<0
 ·have s:(-1:Int)-Z=(N:Int):=by rw[r.out,aD A];omega
  refine fE Tryz.func215 rfl V ?_ I;simp only[Tryz.ntmps215,cY,aI,bH,Nat.reduceAdd,Nat.reduceSub,bM,bQ,cE,bY,bV,bc];gi_wp2
  gi_loopw [1](fun M wr=>∃e:Nat,M=.int .i64 (e:Int)∧e<c.length∧Wb.can c e=e∧Hid (y e=y N)∧wr=w)(fun M _=>X (intOf M).toNat)
  case atStart=>exact⟨N,by rw[<-s],E,D,rfl,rfl⟩
  case round=>
   obtain⟨e,rfl,l,f,j,rfl⟩:=hrel;have k:=Qs (n:=e) (by omega);cases b:Y e with
   |none=>
    have d:(C (e:Int))=none:=by rw[x.out,b];rfl
    have h:=hid ((v.out.free e l f).1 b);clear b;gi_wp2_with(gi_at_lookup;(refine sS _ rfl _ _ 241 rfl 3 Tryz.underlying241 (rK _) m Q C rfl u.out (e:Int) rfl k (.int .i64 0) false (by rw[d];rfl) (by rw[d];rfl) ?_))
    go_ret;exact⟨by rw[H.out,<-j.out,h.out];rfl,rfl⟩
   |some g=>
    have d:(C (e:Int))=some (.int .i64 (g:Int)):=by rw[x.out,b];rfl
    obtain⟨K,L,o⟩:=v.out.next e g l f b;have t:=B.out e g l f b;have p:=hid (o.trans j.out);clear b o;gi_wp2_with(gi_at_lookup;(refine sS _ rfl _ _ 241 rfl 3 Tryz.underlying241 (rK _) m Q C rfl u.out (e:Int) rfl k (.int .i64 (g:Int)) true (by rw[d];rfl) (by rw[d];rfl) ?_))
    exact⟨⟨g,rfl,K,L,p,by first|rfl|trivial⟩,by simpa [intOf]using t⟩
 ·have s:Hid ((i:Int)=(N:Int)):=by show _=_;rw[r.out,aE A]
  have Yk:(0:Int)<=Z:=by omega
  have Yl:decide (Z<0)=false:=by simpa using A
  clear A;refine fE Tryz.func215 rfl V ?_ I;simp only[Tryz.ntmps215,cY,aI,bH,Nat.reduceAdd,Nat.reduceSub,bM,bQ,cE,bY,bV,bc];gi_wp2
  gi_loopw [1](fun M wr=>∃e:Nat,M=.int .i64 (e:Int)∧e<c.length∧Wb.can c e=e∧Hid (y e=y N)∧wr=w)(fun M _=>X (intOf M).toNat)
  case atStart=>exact⟨N,by rw[<-s.out],E,D,rfl,rfl⟩
  case round=>
   obtain⟨e,rfl,l,f,j,rfl⟩:=hrel;have k:=Qs (n:=e) (by omega);cases b:Y e with
   |none=>
    have d:(C (e:Int))=none:=by rw[x.out,b];rfl
    have h:=hid ((v.out.free e l f).1 b);clear b;gi_wp2_with(gi_at_lookup;(refine sS _ rfl _ _ 241 rfl 3 Tryz.underlying241 (rK _) m Q C rfl u.out (e:Int) rfl k (.int .i64 0) false (by rw[d];rfl) (by rw[d];rfl) ?_))
    go_ret;exact⟨by rw[H.out,<-j.out,h.out];rfl,rfl⟩
   |some g=>
    have d:(C (e:Int))=some (.int .i64 (g:Int)):=by rw[x.out,b];rfl
    obtain⟨K,L,o⟩:=v.out.next e g l f b;have t:=B.out e g l f b;have p:=hid (o.trans j.out);clear b o;gi_wp2_with(gi_at_lookup;(refine sS _ rfl _ _ 241 rfl 3 Tryz.underlying241 (rK _) m Q C rfl u.out (e:Int) rfl k (.int .i64 (g:Int)) true (by rw[d];rfl) (by rw[d];rfl) ?_))
    exact⟨⟨g,rfl,K,L,p,by first|rfl|trivial⟩,by simpa [intOf]using t⟩
end
namespace Wb
abbrev Sb:=Int->List Int
def App(θ:Sb)(t:List Int):List Int:=t.flatMap fun s=>if s<0 then θ s else [s]
def jJ(θ:Sb):Prop:=∀s,s<0->Tm.run (θ s) 1=(θ s).length
theorem sQ(a:Sb):App a []=[]:=rfl
theorem jo(b:Sb)(a:Int)(c:List Int):App b (a::c)=(if a<0 then b a else [a])++App b c:=by simp[App]
theorem IX(a:Sb)(b c:List Int):App a (b++c)=App a b++App a c:=by simp[App]
theorem qJ(c:Sb)(a:List (List Int)):App c a.flatten=(a.map (App c)).flatten:=by
 induction a with
 |nil=>rfl
 |cons d a b=>rw[fO,IX,b,fF,fO]
theorem lV(a:u<0):Tm.room u=0:=by unfold Tm.room;rw[aE (by omega),aE (by omega)]
theorem Ky{g:Sb}(d:jJ g):∀(c:List Int)(n:Nat),Tm.run c n=c.length->Tm.run (App g c) n=(App g c).length:=by
 intro c;induction c with
 |nil=>intro n a;rw[Tm.oM]at a;subst a;rw[bH,Tm.gu];rfl
 |cons f h e=>
  intro n a;cases n with
  |zero=>rw[Tm.gu,aI]at a;omega
  |succ n=>
   rw[Tm.fT,aI]at a;rw[jo];by_cases b:f<0
   ·rw[lV b,gp]at a
    rw[aD b,show n+1=1+n from by omega,Tm.rF,mh _ _ 1 (by rw[d f b];omega),d f b,lu,e n (by omega),ai]
   ·rw[aE b,gz,Tm.fT,aI,e _ (by omega)]
    omega
def cont(zs:List Int)(p:Nat):List Int:=cD zs p
def kids(zs:List Int)(p:Nat):List Nat:=(List.range (Tm.room (sg zs p))).map (Tm.pos zs p)
theorem FB(a:List Int)(b:Nat):(kids a b).length=Tm.room (sg a b):=by simp[kids]
theorem Ek(a:e<b.length):Tm.dn b e=Tm.pos b e (Tm.room (sg b e)):=Tm.ub b e a
theorem MP{zs:List Int}(a:Nat)(b:e<g):Tm.pos zs a e<Tm.pos zs a g:=by
 have c:=nz zs a (e+1) g b;have d:=Tm.jL zs a e;have f:=Tm.im zs (Tm.pos zs a e);omega
theorem pw{zs:List Int}(d:Good zs){i:Nat}(a:e<zs.length)(c:i<Tm.room (sg zs e)):Tm.pos zs e i<zs.length:=by
 have b:=d.ends e a;rw[Ek a]at b;have:=MP (zs:=zs) e c
 omega
theorem Li:∀m,Tm.pos b e m<=b.length->(b.drop (e+1)).take (Tm.pos b e m-(e+1))=(((List.range m).map (Tm.pos b e)).map (cont b)).flatten:=by
 intro m;induction m with
 |zero=>intro _;rw[Tm.iI];simp
 |succ m c=>
  intro g;have a:=Tm.jL b e m;have d:=Tm.om b e m;have f:=Tm.im b (Tm.pos b e m);rw[Rv,gF,gF,fB,<-c (by omega)];simp only[fF,gy,fO,mC,cW];unfold cont cD;rw[a,show Tm.dn b (Tm.pos b e m)-(e+1)=(Tm.pos b e m-(e+1))+(Tm.dn b (Tm.pos b e m)-Tm.pos b e m)from by omega,ye,kt,show e+1+(Tm.pos b e m-(e+1))=Tm.pos b e m from by omega]
theorem Bj(d:Good b)(a:e<b.length):cont b e=sg b e::((kids b e).map (cont b)).flatten:=by
 have c:=d.ends e a;have f:=Tm.im b e;rw[show((kids b e).map (cont b)).flatten=(b.drop (e+1)).take (Tm.pos b e (Tm.room (sg b e))-(e+1))from(Li _ (by rw[<-Ek a];exact c)).symm,<-Ek a];unfold cont cD;rw[show Tm.dn b e-e=(Tm.dn b e-(e+1))+1 from by omega,bZ a,List.take_succ_cons];congr 1;simp[sg,a]
theorem Nb(f:Good b)(d:e<b.length):Tm.run (cont b e) 1=(cont b e).length:=by
 have a:=f.ends e d;unfold Tm.dn at a;have c:Tm.run (b.drop e) 1<=(b.drop e).length:=by rw[cH];omega
 have:=AR (b.drop e) 1 c
 unfold cont cD Tm.dn;rw[show e+Tm.run (b.drop e) 1-e=Tm.run (b.drop e) 1 from by omega,this,cX];omega
theorem wa(d:Good b)(a:e<b.length)(c:sg b e<0):cont b e=[sg b e]:=by
 rw[Bj d a,show kids b e=[]from by unfold kids;rw[lV c];rfl];rfl
theorem MQ(c:Good b)(a:e<b.length):cont b (can b e)=cont b e:=by
 by_cases d:sg b e<0
 ·rw[wa c a d,wa c (BI c a) (by rw[El c a];exact d),El c a]
 ·rw[uL (by omega)]
theorem Ap:∀(l a:List (List Int)),(∀x∈l,Tm.run x 1=x.length)->(∀x∈a,Tm.run x 1=x.length)->l.length=a.length->l.flatten=a.flatten->l=a:=by
 intro l;induction l with
 |nil=>intro a _ _ o _;cases a with
  |nil=>rfl
  |cons x a=>simp at o
 |cons x l i=>
  intro a d e f b;cases a with
  |nil=>simp at f
  |cons k a=>
   rw[fO,fO]at b;have p:=d x (by simp);have q:=e k (by simp);have g:=mh x l.flatten 1 (by omega);have h:=mh k a.flatten 1 (by omega);rw[b,h]at g;obtain⟨m,n⟩:=List.append_inj b (by omega);subst m;rw[i a (fun j c=>d j (by simp[c])) (fun j c=>e j (by simp[c])) (by simpa using f) n]
theorem wg(d:Good b)(c:Sb)(a:e<b.length)(f:0<=sg b e):App c (cont b e)=sg b e::((kids b e).map fun g=>App c (cont b g)).flatten:=by
 rw[Bj d a,jo,aE (by omega),qJ,RP];rfl
theorem BG(a:g<Tm.room (sg b e)):(kids b e)[g]?=some (Tm.pos b e g):=by simp[kids,a]
theorem Ei(m:Good b){d:Sb}(r:jJ d)(j:e<b.length)(k:g<b.length)(t:0<=sg b e)(u:0<=sg b g)(w:App d (cont b e)=App d (cont b g)):
 sg b e=sg b g∧∀i,i<Tm.room (sg b e)->App d (cont b (Tm.pos b e i))=App d (cont b (Tm.pos b g i)):=by
 rw[wg m d j t,wg m d k u]at w;obtain⟨n,o⟩:=RD w;have a:∀s,s<b.length->∀v∈(kids b s).map (fun x=>App d (cont b x)),Tm.run v 1=v.length:=fun s q v l=>by
  rw[Rl]at l;obtain⟨x,h,rfl⟩:=l;unfold kids at h;rw[Rl]at h;obtain⟨i,c,rfl⟩:=h;exact Ky r _ 1 (Nb m (pw m q (Rd.1 c)))
 have p:=Ap _ _ (a e j) (a g k) (by simp[kids,n]) o;refine⟨n,fun i c=>?_⟩;have f:=RG (fun y=>y[i]?) p;simp only[ic]at f;rw[BG c,BG (by rw[<-n];exact c)]at f;simpa using f
def nO(zs:List Int)(h:Nat->Nat)(θ:Sb):Prop:=∀p,p<zs.length->can zs p=p->App θ (cont zs p)=App θ (cont zs (h p))
theorem nO.hd(c:Good b){d:Sb}(f:nO b h d)(a:e<b.length):App d (cont b e)=App d (cont b (hd b h e)):=by
 rw[<-MQ c a];exact f _ (BI c a) (yN c a)
inductive Fy(zs:List Int)(h:Nat->Nat)(P:List (Nat×Nat)):Nat->Nat->Prop
 |base(p q:Nat):p<zs.length->q<zs.length->hd zs h p=hd zs h q->Fy zs h P p q
 |pair(p q:Nat):(p,q)∈P->Fy zs h P p q
 |symm(p q:Nat):Fy zs h P p q->Fy zs h P q p
 |trans(p q r:Nat):Fy zs h P p q->Fy zs h P q r->Fy zs h P p r
def qm(zs:List Int)(h:Nat->Nat)(P:List (Nat×Nat)):Prop:=
 ∀p q,p<zs.length->q<zs.length->0<=sg zs p->0<=sg zs q->h p=h q->sg zs p=sg zs q∧∀i,i<Tm.room (sg zs p)->Fy zs h P (Tm.pos zs p i) (Tm.pos zs q i)
theorem Fy.move(f:∀p q,p<b.length->q<b.length->hd b J p=hd b J q->hd b h p=hd b h q)(e:∀p q,(p,q)∈G->Fy b h O p q){p q:Nat}(k:Fy b J G p q):Fy b h O p q:=by
 induction k with
 |base p q a c d=>exact .base p q a c (f p q a c d)
 |pair p q a=>exact e p q a
 |symm p q _ j=>exact .symm _ _ j
 |trans p q l _ _ g i=>exact .trans _ _ _ g i
structure qG(zs:List Int)(h h':Nat->Nat)(ps:List (Nat×Nat)):Prop where
 coarse:∀p q,p<zs.length->q<zs.length->hd zs h p=hd zs h q->hd zs h' p=hd zs h' q
 sound:∀θ,jJ θ->nO zs h θ->(∀p q,(p,q)∈ps->App θ (cont zs p)=App θ (cont zs q))->nO zs h' θ
 tied:∀p q,(p,q)∈ps->hd zs h' p=hd zs h' q
 close:∀P,qm zs h (ps++P)->qm zs h' P
theorem qG.nil(b:List Int)(a:Nat->Nat):qG b a a []:=⟨fun _ _ _ _ a=>a,fun _ _ c _=>c,fun d e a=>by simp at a,fun _ a=>a⟩
theorem qG.snoc(k:qG b h J G)(f:qG b J S [(e,g)])(d:∀p q,(p,q)∈G->p<b.length∧q<b.length):qG b h S (G++[(e,g)]):=by
 refine⟨fun p q i c r=>f.coarse p q i c (k.coarse p q i c r),fun n j o c=>?_,fun p q a=>?_,fun m l=>?_⟩
 ·exact f.sound n j (k.sound n j o fun p q a=>c p q (List.mem_append_left _ a)) fun p q a=>c p q (Sc _ a)
 ·rcases dZ.1 a with a|a
  ·exact f.coarse p q (d p q a).1 (d p q a).2 (k.tied p q a)
  ·exact f.tied p q a
 ·exact f.close m (k.close ([(e,g)]++m) (by rw[<-dE];exact l))
theorem qG.same(j:e<b.length)(k:g<b.length)(q:hd b h e=hd b h g):qG b h h [(e,g)]:=by
 refine⟨fun _ _ _ _ h=>h,fun _ _ t _=>t,fun r s a=>by simp at a;obtain⟨rfl,rfl⟩:=a;exact q,fun v i r s m n o p f=>?_⟩;obtain⟨c,d⟩:=i r s m n o p f;refine⟨c,fun u l=>(d u l).move (fun _ _ _ _ h=>h) fun w x a=>?_⟩;simp at a;rcases a with⟨rfl,rfl⟩|a
 ·exact .base _ _ j k q
 ·exact .pair _ _ a
end Wb
namespace Wb
theorem KI(a:List Int)(b:Nat->Nat)(e d c:Nat):hd a (mg b e d) c=if hd a b c=e then d else hd a b c:=rfl
theorem xm(a:List Int)(b:Nat->Nat)(d c:Nat):∀p q,p<a.length->q<a.length->hd a b p=hd a b q->hd a (mg b d c) p=hd a (mg b d c) q:=fun p q _ _ e=>by rw[KI,KI,e]
def Ends(zs:List Int)(h:Nat->Nat)(a b o n:Nat):Prop:=(hd zs h a=n∧hd zs h b=o)∨(hd zs h a=o∧hd zs h b=n)
theorem Ends.tied(i:Ends b h y z e g)(a:e≠g):hd b (mg h e g) y=hd b (mg h e g) z:=by
 rw[KI,KI];rcases i with⟨c,d⟩|⟨c,d⟩
 ·rw[c,d,aD rfl,aE (fun f=>a f.symm)]
 ·rw[c,d,aD rfl,aE (fun f=>a f.symm)]
theorem Ends.app(l:Good b)(o:Ends b h e g y z)(j:e<b.length)(k:g<b.length){i:Sb}(m:nO b h i)(n:App i (cont b e)=App i (cont b g)):App i (cont b y)=App i (cont b z):=by
 have a:=m.hd l j;have c:=m.hd l k;rcases o with⟨d,f⟩|⟨d,f⟩
 ·rw[d]at a;rw[f]at c;rw[<-c,<-a,n]
 ·rw[d]at a;rw[f]at c;rw[<-a,<-c,n]
theorem nO.mg{c:Sb}(j:nO b h c)(k:App c (cont b e)=App c (cont b g)):nO b (mg h e g) c:=fun i f d=>by
 have:=j i f d
 unfold Wb.mg;by_cases a:h i=e
 ·rw[aD a,this,a,k]
 ·rw[aE a,this]
theorem qG.var(D:Good b)(F:St b E h)(j:y<b.length)(k:z<b.length)(q:Ends b h y z e g)(d:e≠g)(H:sg b e<0):qG b h (Wb.mg h e g) [(y,z)]:=by
 refine⟨xm b h e g,fun K _ C c=>C.mg (q.app D j k C (c y z (by simp))),fun o p a=>by simp at a;obtain⟨rfl,rfl⟩:=a;exact q.tied d,fun I w o p l c m n r=>?_⟩;have f:∀i,i<b.length->0<=sg b i->h i≠e:=fun i A B v=>by
  have:=F.up i A (uL B)
  rw[v]at this;omega
 have s:h o=h p:=by
  unfold Wb.mg at r;rw[aE (f o l m),aE (f p c n)]at r;exact r
 obtain⟨t,u⟩:=w o p l c m n s;refine⟨t,fun G x=>(u G x).move (xm b h e g) fun i J a=>?_⟩;simp at a;rcases a with⟨rfl,rfl⟩|a
 ·exact .base _ _ j k (q.tied d)
 ·exact .pair _ _ a
def lE(zs:List Int)(n o:Nat)(m:Nat):List (Nat×Nat):=(List.range m).map fun i=>(Tm.pos zs n i,Tm.pos zs o i)
theorem Em(a:List Int)(c d b:Nat):lE a c d (b+1)=lE a c d b++[(Tm.pos a c b,Tm.pos a d b)]:=by simp[lE,List.range_succ]
theorem sP(a:(z,L)∈lE b e g y):∃i,i<y∧z=Tm.pos b e i∧L=Tm.pos b g i:=by
 unfold lE at a;rw[Rl]at a;obtain⟨i,c,d⟩:=a;cases d;exact⟨i,Rd.1 c,rfl,rfl⟩
theorem vX(a:e<z):(Tm.pos b g e,Tm.pos b y e)∈lE b g y z:=by
 unfold lE;rw[Rl];exact⟨e,Rd.2 a,rfl⟩
theorem qG.sym(V:Good b){h2:Nat->Nat}(u:y<b.length)(v:z<b.length)(I:Ends b h y z g e)(s:g≠e)(D:g<b.length)(C:e<b.length)(S:h g=g)(R:h e=e)(G:0<=sg b g)
 (B:sg b g=sg b e)(H:qG b (Wb.mg h g e) h2 (lE b e g (Tm.room (sg b e)))):qG b h h2 [(y,z)]:=by
 refine⟨fun l m k f n=>H.coarse l m k f (xm b h g e l m k f n),fun X F W f=>?_,fun l m d=>by simp at d;obtain⟨rfl,rfl⟩:=d;exact H.coarse _ _ u v (I.tied s),fun A t=>H.close A fun l m k f w x n=>?_⟩
 ·have n:=I.app V u v W (f y z (by simp))
  refine H.sound X F (W.mg n) fun l m d=>?_
  obtain⟨c,a,rfl,rfl⟩:=sP d;exact(Ei V F C D (by omega) G n.symm).2 c a
 ·have mv:∀o r,Fy b h ([(y,z)]++A) o r->Fy b (Wb.mg h g e) (lE b e g (Tm.room (sg b e))++A) o r:=fun o r E=>E.move (xm b h g e) fun Y Z d=>by
   simp at d;rcases d with⟨rfl,rfl⟩|d
   ·exact .base _ _ u v (I.tied s)
   ·exact .pair _ _ (Sc _ d)
  have Q:∀c,c<Tm.room (sg b e)->Fy b (Wb.mg h g e) (lE b e g (Tm.room (sg b e))++A) (Tm.pos b g c) (Tm.pos b e c):=fun c a=>.symm _ _ (.pair _ _ (List.mem_append_left _ (vX a)))
  have j:∀o r,o<b.length->r<b.length->0<=sg b o->0<=sg b r->h o=g->h r=e->sg b o=sg b r∧∀c,c<Tm.room (sg b o)->Fy b (Wb.mg h g e) (lE b e g (Tm.room (sg b e))++A) (Tm.pos b o c) (Tm.pos b r c):=fun o r O P T U M N=>by
   obtain⟨i,p⟩:=t o g O D T G (by rw[M,S]);obtain⟨K,L⟩:=t r e P C U (by omega) (by rw[N,R]);refine⟨by omega,fun c a=>?_⟩;exact .trans _ _ _ (mv _ _ (p c a)) (.trans _ _ _ (Q c (by rw[<-B,<-i];exact a)) (.symm _ _ (mv _ _ (L c (by rw[K,<-B,<-i];exact a)))))
  have same:h l=h m->sg b l=sg b m∧∀c,c<Tm.room (sg b l)->Fy b (Wb.mg h g e) (lE b e g (Tm.room (sg b e))++A) (Tm.pos b l c) (Tm.pos b m c):=fun J=>by
   obtain⟨i,p⟩:=t l m k f w x J;exact⟨i,fun c a=>mv _ _ (p c a)⟩
  unfold Wb.mg at n;by_cases q:h l=g
  ·by_cases eq:h m=g
   ·exact same (by rw[q,eq])
   ·rw[aD q,aE eq]at n
    exact j l m k f w x q n.symm
  ·by_cases eq:h m=g
   ·rw[aE q,aD eq]at n
    obtain⟨i,p⟩:=j m l f k x w eq n;exact⟨i.symm,fun c a=>.symm _ _ (p c (by rw[i];exact a))⟩
   ·rw[aE q,aE eq]at n
    exact same n
def No(zs:List Int)(h:Nat->Nat)(ps:List (Nat×Nat)):Prop:=∀θ,jJ θ->nO zs h θ->(∀p q,(p,q)∈ps->App θ (cont zs p)=App θ (cont zs q))->False
theorem No.clash(n:Good b)(c:e<b.length)(d:g<b.length)(o:Ends b h e g y z)(i:y<b.length)(f:z<b.length)(m:0<=sg b y)(l:0<=sg b z)(a:sg b y≠sg b z):No b h [(e,g)]:=fun q k p j=>
 a (Ei n k i f m l (o.app n c d p (j e g (by simp)))).1
theorem No.sym(o:Good b)(c:y<b.length)(d:z<b.length)(r:Ends b h y z g e)(k:g<b.length)(j:e<b.length)(n:0<=sg b g)(m:0<=sg b e)
 (s:No b (Wb.mg h g e) (lE b e g (Tm.room (sg b e)))):No b h [(y,z)]:=fun u a p l=>by
 have q:=r.app o c d p (l y z (by simp));refine s u a (p.mg q) fun v w i=>?_
 obtain⟨t,f,rfl,rfl⟩:=sP i;exact(Ei o a j k m n q.symm).2 t f
theorem No.later(k:qG b h J O)(l:No b J T)(e:∀x,x∈O->x∈G)(f:∀x,x∈T->x∈G):No b h G:=fun j d m c=>
 l j d (k.sound j d m fun g i a=>c g i (e _ a)) fun g i a=>c g i (f _ a)
end Wb
theorem iV.MB(i:iV r z L (some ⟨g,y,none⟩) Yd b Ye E)(c:e<b.length):r.cell? ⟨g,y+e,none⟩=some (.int .i64 (Wb.sg b e)):=by
 obtain⟨f,d,h,_,a⟩:=i.ints e c;cases h;exact a
theorem iV.set{a:Option Addr}{o n:Nat}(t:iV r g e a z b y E)(w:gM r e y M)(k:∀p:Nat,M (p:Int)=(E p).map fun C=>.int .i64 (C:Int))
 (v:gM D e (y+1) (upd M (o:Int) (.int .i64 (n:Int))))(m:r.grownBy D (some e)):iV D g e a z b (y+1) (Wb.vO E o n):=by
 obtain⟨B,q,c⟩:=w.map;have f:∀i,i<r.heap.size->i≠e->D.heap[i]?=r.heap[i]?:=fun i f d=>m.block i f (by simpa using d)
 have d:g≠e:=rj t.cell0 c;refine⟨(f g t.lt.1 d).trans t.FC,fun j A=>?_,⟨_,v,fun p=>?_⟩⟩
 ·obtain⟨u,h,s,x,l⟩:=t.ints j A
  exact⟨u,h,s,by have:=m.size;omega,(aH (a:=⟨u,h+j,none⟩) (f u x (rj l c))).trans l⟩
 ·by_cases s:p=o
  ·subst s;rw[nC];simp[Wb.vO]
  ·rw[my _ _ (by omega),k];simp[Wb.vO,s]
theorem gM.drewN(b:gM r e g M)(a:Nat):gM (r.drewN a) e g M:=b.eV rfl
theorem qx{row:Option Nat}(a:(r.drewN e).grownBy D row):r.grownBy D row:=⟨a.os,a.tape,a.output,a.size,a.block⟩
def Db(W:World)(Bw Bm:Nat)(a:Option Addr)(cap:Nat)(zs:List Int)(h:Nat->Nat):Prop:=∃T N,Wb.St zs T h∧iV W Bw Bm a cap zs N T∧N+Wb.rt zs h<=zs.length
def Ae(W':World)(e:Ending)(Bw Bm:Nat)(a:Option Addr)(cap:Nat)(zs:List Int)(h:Nat->Nat)(ps:List (Nat×Nat)):Prop:=
 (e=.returned (.bool true)∧∃h',Wb.qG zs h h' ps∧Db W' Bw Bm a cap zs h'∧Wb.rt zs h'<=Wb.rt zs h)∨(e=.returned (.bool false)∧Wb.No zs h ps)
theorem CT{d:Nat}(a:eZ e g (r.drewN d) D):eZ e g r D:=⟨a.os,a.tape,a.output,a.size,a.block⟩
theorem O9(k:Calls Tryz.prog g I r fun f a=>eZ y e r a∧Ae a f z e U L b h G):
 Calls Tryz.prog g I r fun f a=>∃q,f=.returned (.bool q)∧eZ y e r a∧((q=true∧∃h',Wb.qG b h h' G∧Db a z e U L b h'∧Wb.rt b h'<=Wb.rt b h)∨(q=false∧Wb.No b h G)):=
 k.mono fun _ _⟨d,i⟩=>i.elim (fun⟨c,j⟩=>⟨true,c,d,.inl ⟨rfl,j⟩⟩) (fun⟨c,j⟩=>⟨false,c,d,.inr ⟨rfl,j⟩⟩)
theorem GJ(a:List Int)(Yh:Wb.Good a)(A:Nat->Nat)(q f:Nat)(Yz:Option Addr)(k one b:Nat)(V:World)(Y4:Db V q f Yz k a A)(B:one<a.length)(h2:b<a.length)
 (Yf:∀(h':Nat->Nat)(n o:Nat)(YY:World),Wb.rt a h'<Wb.rt a A->n<a.length->o<a.length->0<=Wb.sg a n->Wb.sg a o=Wb.sg a n->Db YY q f Yz k a h'->
   Calls Tryz.prog 216 #[.pointer (some ⟨q,0,none⟩),.int .i64 (n:Int),.int .i64 (o:Int)] YY fun P YN=>eZ YY.heap.size f YY YN∧Ae YN P q f Yz k a h' (Wb.lE a n o (Tm.room (Wb.sg a n)))):
 Calls Tryz.prog 211 #[.pointer (some ⟨q,0,none⟩),.int .i64 (one:Int),.int .i64 (b:Int)] V fun P W=>eZ V.heap.size f V W∧Ae W P q f Yz k a A [(one,b)]:=by
 obtain⟨Yy,Ye,Yd,T,YZ⟩:=Y4;have r:=gx.1 (yZ Fence.wide nj 0 a Yy A Yh Yd q f Yz k Ye one B V T);have v:=gx.1 (yZ Fence.wide nj 0 a Yy A Yh Yd q f Yz k Ye b h2 V T);have Y7:=Yh.len;have Y2:(a.length:Int)<=5000:=by omega
 by_cases Yp:Wb.hd a A one=Wb.hd a A b
 ·have Y0:=hid (Wb.qG.same B h2 Yp)
  have S:Hid (Db V q f Yz k a A):=⟨Yy,Ye,Yd,T,YZ⟩;rw[Yp]at r;clear Yp T Yd Yf;generalize Wb.hd a A b=h at*;go_enter Tryz.func211,Tryz.ntmps211;go_wp2_with(first
   |(go_at_call_of 215(Value.int .i64 (one:Int));refine r.mono ?_;clear r;rintro P V⟨rfl,rfl⟩)
   |(go_at_call_of 215(Value.int .i64 (b:Int));refine v.mono ?_;clear v;rintro P V⟨rfl,rfl⟩))
  go_ret;exact⟨eZ.refl _ _ _,.inl ⟨rfl,A,Y0.out,S.out,af _⟩⟩
 ·obtain⟨YL,YO,YW⟩:=Wb.tX Yh Yd B
  obtain⟨YM,YP,YX⟩:=Wb.tX Yh Yd h2;obtain⟨M,d,rfl,Y9,YC⟩:=T.ints.at (by omega);have Y5:V.cell? ⟨M,d+Wb.hd a A one,none⟩=some (.int .i64 (Wb.sg a (Wb.hd a A one))):=YC _ YL;have Y6:V.cell? ⟨M,d+Wb.hd a A b,none⟩=some (.int .i64 (Wb.sg a (Wb.hd a A b))):=YC _ YM;have Y8:=T.cell0;have y:=T.dh;clear YC;by_cases YS:Wb.sg a (Wb.hd a A one)<Wb.sg a (Wb.hd a A b)
  ·have l:Wb.Ends a A one b (Wb.hd a A one) (Wb.hd a A b):=.inr ⟨rfl,rfl⟩
   generalize YJ:Wb.hd a A one=i at*;generalize YK:Wb.hd a A b=h at*;clear YJ YK;have t:i≠h:=Yp;have YF:((i:Int)==(h:Int))=false:=by simp;omega
   have YU:(i:Int)<(a.length:Int):=by omega
   have YV:(h:Int)<(a.length:Int):=by omega
   obtain⟨x,E,Yj,YA,O,N,Yv⟩:i<a.length∧h<a.length∧Wb.can a i=i∧Wb.can a h=h∧A i=i∧A h=h∧Wb.sg a i<=Wb.sg a h:=⟨YL,YM,YO,YP,YW,YX,by omega⟩;go_enter Tryz.func211,Tryz.ntmps211;obtain⟨Yw,Q,K⟩:=T.ties;have H:=Qs (n:=i) (by omega);have G:=hid (fun e(B:gM e f (Ye+1) (upd Yw (i:Int) (.int .i64 (h:Int))))h2=>T.set Q K (o:=i) (n:=h) B h2);have X:=hid Q;have S:=hid (Yd.merge x E Yj YA O N t Yv);have Yu:=Wb.FU x Yj O N t;by_cases Yc:Wb.sg a i<0
   ·have C:=hid (Wb.qG.var Yh Yd B h2 l t Yc)
    clear Q K Yd t O N;go_wp2_with(first
     |(go_at_call_of 215(Value.int .i64 (one:Int));refine r.mono ?_;clear r;rintro P V⟨rfl,rfl⟩)
     |(go_at_call_of 215(Value.int .i64 (b:Int));refine v.mono ?_;clear v;rintro P V⟨rfl,rfl⟩))
    go_quiet(fail)
    go_wp2_with(first
     |(at_mapUpdate;go_loud(refine oX _ rfl _ _ _ 241 rfl 3 Tryz.underlying241 f Ye Yw rfl (X.out.drewN _) (by unfold maxLen;omega) (i:Int) rfl H _ rfl ?_);intro e w z;have g:=qx z;have c:=G.out e w g;have u:=c.cell0;have j:=iV.MB c x))
    go_ret;exact⟨eZ.oz g (af _),.inl ⟨rfl,_,C.out,⟨_,_,S.out,c,by omega⟩,by omega⟩⟩
   ·have F:0<=Wb.sg a i:=by omega
    have YH:decide (Wb.sg a i<0)=false:=by simpa using Yc
    by_cases s:Wb.sg a i=Wb.sg a h
    ·have C:=hid (fun Yl Yx=>Wb.qG.sym (h2:=Yl) Yh B h2 l t x E O N F s Yx)
     have R:=hid (fun Yx=>Wb.No.sym Yh B h2 l x E F (by omega) Yx);have U:∀e,iV e q f (some ⟨M,d,none⟩) k a (Ye+1) (Wb.vO Yy i h)->Db e q f (some ⟨M,d,none⟩) k a (Wb.mg A i h):=fun e y=>⟨_,_,S.out,y,by omega⟩
     have L:=hid (fun e(y:iV e q f (some ⟨M,d,none⟩) k a (Ye+1) (Wb.vO Yy i h))=>O9 (Yf (Wb.mg A i h) h i (e.drewN 1) Yu E x (by omega) s (U _ ⟨y.FC,y.ints,y.ties⟩)));have YD:(Wb.sg a h==Wb.sg a i)=true:=by simp[s]
     have YI:0<=Wb.sg a h:=by omega
     clear Q K Yd t O N Yf U s;go_wp2_with(first
      |(go_at_call_of 215(Value.int .i64 (one:Int));refine r.mono ?_;clear r;rintro P V⟨rfl,rfl⟩)
      |(go_at_call_of 215(Value.int .i64 (b:Int));refine v.mono ?_;clear v;rintro P V⟨rfl,rfl⟩))
     go_quiet(fail)
     go_wp2_with(first
      |(at_mapUpdate;go_loud(refine oX _ rfl _ _ _ 241 rfl 3 Tryz.underlying241 f Ye Yw rfl (X.out.drewN _) (by unfold maxLen;omega) (i:Int) rfl H _ rfl ?_);intro e w z;have g:=qx z;have c:=G.out e w g;have u:=c.cell0;have j:=iV.MB c x;have D:=iV.MB c E))
     have Ym:=L.out e c;clear L;obtain⟨Yk,I,YE⟩:=X.out.map;have m:∃Yk I,e.heap[f]?=some (.map Yk I):=w.map;obtain⟨YQ,Yi,m⟩:=m;have Yq:=c.lt.1;have Y:M<e.heap.size:=fx j;have Z:M≠f:=rj j m;have Yr:q≠f:=rj u m;go_region_held3(fun W=>W.cell? ⟨q,0,none⟩=some (.slice (some ⟨M,d,none⟩) a.length k)∧W.cell? ⟨M,d+h,none⟩=some (.int .i64 (Wb.sg a h))∧W.cell? ⟨M,d+i,none⟩=some (.int .i64 (Wb.sg a i)))(first|assumption|exact⟨u,D,j⟩)(first
      |(go_at_call 216;refine Ym.mono ?_;clear Ym;rintro P Yg⟨Za,rfl,J,Yt⟩;have YR:Yg.cell? ⟨q,0,none⟩=some (.slice (some ⟨M,d,none⟩) a.length k)∧Yg.cell? ⟨M,d+h,none⟩=some (.int .i64 (Wb.sg a h))∧Yg.cell? ⟨M,d+i,none⟩=some (.int .i64 (Wb.sg a i)):=⟨(J.cell (p:=⟨q,0,none⟩) Yq Yr).trans u,(J.cell (p:=⟨M,d+h,none⟩) Y Z).trans D,(J.cell (p:=⟨M,d+i,none⟩) Y Z).trans j⟩))
     all_goals(
      go_wp2;go_ret;refine⟨(eZ.oz g (af _)).trans (eZ.mono (CT J) g.size),?_⟩;rcases Yt with⟨rfl,h',YB,Yo,YT⟩|⟨rfl,Yn⟩
      ·exact .inl ⟨rfl,h',C.out h' YB,Yo,by omega⟩
      ·exact .inr ⟨rfl,R.out Yn⟩)
    ·have R:=hid (Wb.No.clash Yh B h2 l x E F (by omega) s)
     have YG:(Wb.sg a h==Wb.sg a i)=false:=by simp;exact fun P=>s P.symm
     clear Q K Yd t O N Yf s;go_wp2_with(first
      |(go_at_call_of 215(Value.int .i64 (one:Int));refine r.mono ?_;clear r;rintro P V⟨rfl,rfl⟩)
      |(go_at_call_of 215(Value.int .i64 (b:Int));refine v.mono ?_;clear v;rintro P V⟨rfl,rfl⟩))
     go_quiet(fail)
     go_wp2_with(first
      |(at_mapUpdate;go_loud(refine oX _ rfl _ _ _ 241 rfl 3 Tryz.underlying241 f Ye Yw rfl (X.out.drewN _) (by unfold maxLen;omega) (i:Int) rfl H _ rfl ?_);intro e w z;have g:=qx z;have c:=G.out e w g;have u:=c.cell0;have j:=iV.MB c x;have D:=iV.MB c E))
     go_quiet(fail)
     go_wp2;go_ret;exact⟨iE (eZ.oz g (af _)) _,.inr ⟨rfl,R.out⟩⟩
  ·have l:Wb.Ends a A one b (Wb.hd a A b) (Wb.hd a A one):=.inl ⟨rfl,rfl⟩
   generalize YJ:Wb.hd a A one=i at*;generalize YK:Wb.hd a A b=h at*;clear YJ YK;have t:h≠i:=fun P=>Yp P.symm
   have Y3:decide (Wb.sg a i<Wb.sg a h)=false:=by simpa using YS
   have YF:((i:Int)==(h:Int))=false:=by simp;omega
   have YU:(i:Int)<(a.length:Int):=by omega
   have YV:(h:Int)<(a.length:Int):=by omega
   obtain⟨x,E,Yj,YA,O,N,Yv⟩:h<a.length∧i<a.length∧Wb.can a h=h∧Wb.can a i=i∧A h=h∧A i=i∧Wb.sg a h<=Wb.sg a i:=⟨YM,YL,YP,YO,YX,YW,by omega⟩;go_enter Tryz.func211,Tryz.ntmps211;obtain⟨Yw,Q,K⟩:=T.ties;have H:=Qs (n:=h) (by omega);have G:=hid (fun e(B:gM e f (Ye+1) (upd Yw (h:Int) (.int .i64 (i:Int))))h2=>T.set Q K (o:=h) (n:=i) B h2);have X:=hid Q;have S:=hid (Yd.merge x E Yj YA O N t Yv);have Yu:=Wb.FU x Yj O N t;by_cases Yc:Wb.sg a h<0
   ·have C:=hid (Wb.qG.var Yh Yd B h2 l t Yc)
    clear Q K Yd t O N;go_wp2_with(first
     |(go_at_call_of 215(Value.int .i64 (one:Int));refine r.mono ?_;clear r;rintro P V⟨rfl,rfl⟩)
     |(go_at_call_of 215(Value.int .i64 (b:Int));refine v.mono ?_;clear v;rintro P V⟨rfl,rfl⟩))
    go_quiet(fail)
    go_wp2_with(first
     |(at_mapUpdate;go_loud(refine oX _ rfl _ _ _ 241 rfl 3 Tryz.underlying241 f Ye Yw rfl (X.out.drewN _) (by unfold maxLen;omega) (h:Int) rfl H _ rfl ?_);intro e w z;have g:=qx z;have c:=G.out e w g;have u:=c.cell0;have j:=iV.MB c x))
    go_ret;exact⟨eZ.oz g (af _),.inl ⟨rfl,_,C.out,⟨_,_,S.out,c,by omega⟩,by omega⟩⟩
   ·have F:0<=Wb.sg a h:=by omega
    have YH:decide (Wb.sg a h<0)=false:=by simpa using Yc
    by_cases s:Wb.sg a h=Wb.sg a i
    ·have C:=hid (fun Yl Yx=>Wb.qG.sym (h2:=Yl) Yh B h2 l t x E O N F s Yx)
     have R:=hid (fun Yx=>Wb.No.sym Yh B h2 l x E F (by omega) Yx);have U:∀e,iV e q f (some ⟨M,d,none⟩) k a (Ye+1) (Wb.vO Yy h i)->Db e q f (some ⟨M,d,none⟩) k a (Wb.mg A h i):=fun e y=>⟨_,_,S.out,y,by omega⟩
     have L:=hid (fun e(y:iV e q f (some ⟨M,d,none⟩) k a (Ye+1) (Wb.vO Yy h i))=>O9 (Yf (Wb.mg A h i) i h (e.drewN 1) Yu E x (by omega) s (U _ ⟨y.FC,y.ints,y.ties⟩)));have YD:(Wb.sg a i==Wb.sg a h)=true:=by simp[s]
     have YI:0<=Wb.sg a i:=by omega
     clear Q K Yd t O N Yf U s;go_wp2_with(first
      |(go_at_call_of 215(Value.int .i64 (one:Int));refine r.mono ?_;clear r;rintro P V⟨rfl,rfl⟩)
      |(go_at_call_of 215(Value.int .i64 (b:Int));refine v.mono ?_;clear v;rintro P V⟨rfl,rfl⟩))
     go_quiet(fail)
     go_wp2_with(first
      |(at_mapUpdate;go_loud(refine oX _ rfl _ _ _ 241 rfl 3 Tryz.underlying241 f Ye Yw rfl (X.out.drewN _) (by unfold maxLen;omega) (h:Int) rfl H _ rfl ?_);intro e w z;have g:=qx z;have c:=G.out e w g;have u:=c.cell0;have j:=iV.MB c x;have D:=iV.MB c E))
     have Ym:=L.out e c;clear L;obtain⟨Yk,I,YE⟩:=X.out.map;have m:∃Yk I,e.heap[f]?=some (.map Yk I):=w.map;obtain⟨YQ,Yi,m⟩:=m;have Yq:=c.lt.1;have Y:M<e.heap.size:=fx j;have Z:M≠f:=rj j m;have Yr:q≠f:=rj u m;go_region_held3(fun W=>W.cell? ⟨q,0,none⟩=some (.slice (some ⟨M,d,none⟩) a.length k)∧W.cell? ⟨M,d+i,none⟩=some (.int .i64 (Wb.sg a i))∧W.cell? ⟨M,d+h,none⟩=some (.int .i64 (Wb.sg a h)))(first|assumption|exact⟨u,D,j⟩)(first
      |(go_at_call 216;refine Ym.mono ?_;clear Ym;rintro P Yg⟨Za,rfl,J,Yt⟩;have YR:Yg.cell? ⟨q,0,none⟩=some (.slice (some ⟨M,d,none⟩) a.length k)∧Yg.cell? ⟨M,d+i,none⟩=some (.int .i64 (Wb.sg a i))∧Yg.cell? ⟨M,d+h,none⟩=some (.int .i64 (Wb.sg a h)):=⟨(J.cell (p:=⟨q,0,none⟩) Yq Yr).trans u,(J.cell (p:=⟨M,d+i,none⟩) Y Z).trans D,(J.cell (p:=⟨M,d+h,none⟩) Y Z).trans j⟩))
     all_goals(
      go_wp2;go_ret;refine⟨(eZ.oz g (af _)).trans (eZ.mono (CT J) g.size),?_⟩;rcases Yt with⟨rfl,h',YB,Yo,YT⟩|⟨rfl,Yn⟩
      ·exact .inl ⟨rfl,h',C.out h' YB,Yo,by omega⟩
      ·exact .inr ⟨rfl,R.out Yn⟩)
    ·have R:=hid (Wb.No.clash Yh B h2 l x E F (by omega) s)
     have YG:(Wb.sg a i==Wb.sg a h)=false:=by simp;exact fun P=>s P.symm
     clear Q K Yd t O N Yf s;go_wp2_with(first
      |(go_at_call_of 215(Value.int .i64 (one:Int));refine r.mono ?_;clear r;rintro P V⟨rfl,rfl⟩)
      |(go_at_call_of 215(Value.int .i64 (b:Int));refine v.mono ?_;clear v;rintro P V⟨rfl,rfl⟩))
     go_quiet(fail)
     go_wp2_with(first
      |(at_mapUpdate;go_loud(refine oX _ rfl _ _ _ 241 rfl 3 Tryz.underlying241 f Ye Yw rfl (X.out.drewN _) (by unfold maxLen;omega) (h:Int) rfl H _ rfl ?_);intro e w z;have g:=qx z;have c:=G.out e w g;have u:=c.cell0;have j:=iV.MB c x;have D:=iV.MB c E))
     go_quiet(fail)
     go_wp2;go_ret;exact⟨iE (eZ.oz g (af _)) _,.inr ⟨rfl,R.out⟩⟩
theorem nS(d:N.results=#[.cell e 4])(c:I.getD e undef=.pointer (some ⟨g,0,none⟩))(b:r.cell? ⟨g,0,none⟩=some (.bool V)):(results N I).run Tryz.prog r=.ok (.bool V) r:=by
 have a:I[e]?.getD undef=.pointer (some ⟨g,0,none⟩):=by rw[<-c];simp
 simp only[results,d];simp[go_sem,a,b]
