/-
  Parts of the proof.
-/
import Derived.Test.YtglohanbpjaieaaGreatDoorBdp14
set_option maxHeartbeats 2000000
set_option maxRecDepth 100000
namespace Go.Proofs.YtglohanbpjaieaaGreatDoor
open Go.Proofs Go.RowKit Go.Shelf Go.Maps
variable {B:bu}{D:Act->World->Prop}{F:Prop}{b s:World}{d:Bool}{e i y E:Nat}{f:bg}{h:Act}{l G:Value}{m:Oper}{n:TypeId}{o C:List Int}{t A:Option Addr}{u:Array Oper}{w:Exit->Act->World->Prop}{z:List Value}
theorem Be{rest:List Oper}(v:World)(y:m.guard=none)(Y Yc:Operand)
 (M:m.op=.call {callee:=.builtin .append,args:=#[Y,Yc],argTypes:=#[30,30]})(base:Nat)(V:Value)(a:bg)(N:h.eval Y=V)(Yf:ll base v V a)
 (W:Value)(c:bg)(P:h.eval Yc=W)(Ye:ll base v W c)(Yg:a.length+c.length<=100000)(d:base<=v.heap.size)
 (Yk:∀t w',ll base w' t (a++c)->Below base v w'->wpList Tryz.prog u w rest (h.put m.dst t) w'):wpList Tryz.prog u w (m::rest) h v:=by
 obtain⟨T,I,Q,R,S⟩:=fh Tryz.uK;obtain⟨p,g,G⟩:=Yf;obtain⟨f,B,U⟩:=Ye;have O:p.length=a.length*2:=g.1;have Yi:f.length=c.length*2:=B.1;have q:∀Z∈f,∃h Yp Ym,Z=.slice h Yp Ym:=fun Z A=>by
  obtain⟨s,K,X⟩:=gQ A;have L:s/2<c.length:=by omega
  obtain⟨E,k,i,j,n,o⟩:=U (s/2) L;rcases jY s with Yd|Yd
  ·rw[show s/2*2=s by omega,an K,X]at i
   cases i;obtain⟨_,_,rfl,_⟩:=cU.ints n;exact⟨_,_,_,rfl⟩
  ·rw[show s/2*2+1=s by omega,an K,X]at j
   cases j;obtain⟨_,_,rfl,_⟩:=cU.ints o;exact⟨_,_,_,rfl⟩
 rcases B.2 with⟨rfl,Yh⟩|⟨Yn,F,Yj,rfl,Yo,Yl,Yq,Yr,Yt⟩
 ·obtain rfl:c=[]:=bJ Yh
  refine ij y Y Yc 30 M base 79 T 2 Tryz.rT I V a.length p N g P (Yk V v (by rw[cW];exact⟨p,g,G⟩) (ah _ _))
 ·refine fN v y Y Yc 30 M base 79 T (.agg #[.slice none 0 0,.slice none 0 0]) 2 48 Tryz.rT I Q R S rfl (by decide) V a.length p N g ⟨Yn,0,none⟩ c.length F f P (by omega)
   (by intro l Yu r
       have e:l<c.length*2:=by
        have:=(ig.1 r).1
        omega
       rw[cz];have:=dI B l e
       rw[r]at this;simpa using this)
   (by intro Z A;obtain⟨_,_,_,rfl⟩:=q Z A;rfl) (by unfold maxLen;omega) (by omega) d ?_
  intro t w' z H _;have b:∀(D:Value)(C:List Int),cU base v D C->cU base w' D C:=fun D C x=>dM x H (cU.MD x g)
  refine Yk t w' ⟨p++f,by simpa using z,fun l r=>?_⟩ ((ah base v).grown H d (fun s X=>(bn g s X).1));by_cases e:l<a.length
  ·obtain⟨E,k,i,j,n,o⟩:=G l e
   rw[aV e,aV (by omega),aV (by omega)];exact⟨E,k,i,j,b E _ n,b k _ o⟩
  ·have J:l-a.length<c.length:=by rw[ai]at r;omega
   obtain⟨E,k,i,j,n,o⟩:=U (l-a.length) J;rw[aU (by omega),aU (by omega),aU (by omega),O];rw[show l*2-a.length*2=(l-a.length)*2 by omega,show l*2+1-a.length*2=(l-a.length)*2+1 by omega];exact⟨E,k,i,j,b E _ n,b k _ o⟩
inductive iJ(rs:bu):Nat->Nat->bg->Prop
 |zero:iJ rs 0 0 []
 |next{i j:Nat}{l ps:bg}:iJ rs i j l->j<rs.length->fi rs (i:Int) (j:Int) 0 ps->iJ rs i (j+1) (l++ps)
 |row{i:Nat}{l:bg}:iJ rs i rs.length l->iJ rs (i+1) 0 l
def jF(rs:bu)(er:Int)(ps:bg):Prop:=
 (∃l,iJ rs rs.length 0 l∧((l.length<=40∧er=0∧ps=l)∨(40<l.length∧er=2∧ps=[])))∨
 (∃i j l qs,i<rs.length∧j<rs.length∧iJ rs i j l∧fi rs (i:Int) (j:Int) er qs∧er≠0∧ps=[])
theorem fi.len(m:fi B (e:Int) (i:Int) 0 f):B.length<=8∧f.length<=30:=by
 rcases m with⟨a,d,_⟩|⟨_,_,d,_⟩|⟨a,l,o,k,n,_,_,h⟩
 ·exact absurd d.symm a
 ·omega
 ·obtain⟨j,c⟩:=dV a
  obtain⟨g,_⟩:=eo (c l k);have:=cK g
  refine⟨j,?_⟩;rcases h with⟨_,b⟩|⟨b,_⟩
  ·have:=b.len
   omega
  ·exact absurd rfl b.1
theorem iJ.len(g:iJ B i e f):e<=B.length∧f.length<=30*(i*B.length+e):=by
 induction g with
 |zero=>simp
 |next b c d a=>
  have:=d.len.2
  rw[ai];refine⟨c,?_⟩;have:=a.2
  rw[Nat.mul_add]at this⊢;omega
 |row b a=>
  refine⟨bf _,?_⟩;have:=a.2
  rw[gp,Nat.add_mul,Nat.one_mul];exact this
theorem Nj(a:bu)(M:Option Addr)(n:Nat)(h:World)(C:dw h.heap.size h M a)(p:a.length<=maxLen):
 Calls Tryz.prog 110 #[.slice M a.length n] h fun S H=>∃f ps v,jF a f ps∧S=.returned (.tuple #[v,.int .i64 f])∧ll h.heap.size H v ps∧Below h.heap.size h H:=by
 have N:(a.length:Int)<=9223372036854775807:=by unfold maxLen at p;omega
 have J:=hid C;clear C p;go_enter Tryz.func110,Tryz.ntmps110;go_wp2;go_loopw [4,11](fun v w wr=>∃(i:Nat)(d:bg),i<=a.length∧w=.int .i64 (i:Int)∧Hid (iJ a i 0 d)∧Hid (ll h.heap.size wr v d)∧Below h.heap.size h wr)(fun _ w _=>a.length-(intOf w).toNat)
 case atStart=>exact⟨0,[],bf _,rfl,.zero,ll.nil _ _,ah _ _⟩
 case round=>
  obtain⟨i,d,W,rfl,e,g,c⟩:=hrel;obtain⟨Q,R,rfl⟩:=g.out.slice;by_cases G:i<a.length
  ·have P:(i:Int)<(a.length:Int):=by omega
   go_wp2;go_loopw [4,16](fun v w I=>∃(l:Nat)(d:bg),l<=a.length∧w=.int .i64 (l:Int)∧Hid (iJ a i l d)∧Hid (ll h.heap.size I v d)∧Below h.heap.size h I)(fun _ w _=>a.length-(intOf w).toNat)
   case atStart=>exact⟨0,d,bf _,rfl,e,g,c⟩
   case round=>
    obtain⟨l,d,X,rfl,e,g,c⟩:=hrel;obtain⟨Q,R,rfl⟩:=g.out.slice;by_cases q:l<a.length
    ·have O:(l:Int)<(a.length:Int):=by omega
     have B:=hid (Ox a (i:Int) (l:Int) M n wr ((J.out.below c).mono c.size));go_wp2_with fail;refine B.out.mono ?_;rintro S Yc⟨f,ps,Z,b,rfl,u,x⟩;have r:=c.trans (x.mono c.size);obtain⟨Ye,Yf,rfl⟩:=u.slice;clear B;by_cases m:f=0
     ·subst m
      have K:=hid (g.out.below x);have L:=hid (u.mono c.size);have z:=hid (iJ.next e.out q b);have D:=e.out.len.2;obtain⟨y,E⟩:=b.len;have t:i*a.length<=8*8:=sK (by omega) y;have F:d.length+ps.length<=100000:=by omega
      clear D t y E u b;go_wp2_with(at_builtin;go_loud(refine Be _ rfl _ _ rfl h.heap.size _ d rfl K.out _ ps rfl L.out F r.size ?_);intro Y Yd o A;obtain⟨U,V,rfl⟩:=o.slice)
      go_roundw
      case rel=>exact⟨l+1,_,by omega,by go_num,z,hid (by simpa only[ai]using o),r.trans A⟩
      case measure=>simp[intOf];omega
     ·have T:(f !=0)=true:=by simpa using m
      have j:Hid (jF a f []):=.inr ⟨i,l,d,ps,G,q,e.out,b,m,rfl⟩;clear m b;go_wp2;go_ret2
      exact⟨f,[],_,j.out,rfl,ll.nil _ _,r⟩
    ·obtain rfl:l=a.length:=by omega
     go_wp2;go_roundw
     case rel=>exact⟨i+1,d,by omega,by go_num,hid (.row e.out),g,c⟩
     case measure=>simp[intOf];omega
  ·obtain rfl:i=a.length:=by omega
   by_cases k:40<d.length
   ·have s:(40:Int)<(d.length:Int):=by omega
    have j:Hid (jF a 2 []):=.inl ⟨d,e.out,.inr ⟨k,rfl,rfl⟩⟩;clear k;go_wp2;go_ret2
    exact⟨2,[],_,j.out,rfl,ll.nil _ _,c⟩
   ·have s:decide ((40:Int)<(d.length:Int))=false:=by simp;omega
    have j:Hid (jF a 0 d):=.inl ⟨d,e.out,.inl ⟨by omega,rfl,rfl⟩⟩;clear k;go_wp2;go_ret2
    exact⟨0,d,_,j.out,rfl,g.out,c⟩
theorem wI{base:Nat}{size:Nat}(k:b.ownsRow base n size l e z)(i:∀q,l.ownBlock=some q->s.heap[q]?=b.heap[q]?):s.ownsRow base n size l e z:=by
 refine⟨k.1,?_⟩;rcases k.2 with d|⟨j,a,c,rfl,f,g,h⟩
 ·exact .inl d
 ·exact .inr ⟨j,a,c,rfl,f,(i j rfl).trans g,h⟩
theorem qP{base:Nat}{size:Nat}(g:b.ownsRow base n size l i z)(c:l.ownBlock=some e):∃a,b.heap[e]?=some (.cells a n (0,0)):=by
 rcases g.2 with⟨rfl,_⟩|⟨k,f,a,rfl,h,d,j⟩
 ·cases c
 ·cases c;exact⟨a,d⟩
def fW(fl:Bool)(base:Nat)(W:World)(a:Option Addr)(zs:List Int):Prop:=∀j,j<zs.length->∃b off,a=some ⟨b,off,none⟩∧((fl=true∧b<base)∨((fl=true∨(base<=b∧∃cs,W.heap[b]?=some (.cells cs 3 (0,0))))∧∃cs p,W.heap[b]?=some (.cells cs 3 p)))∧b<W.heap.size∧W.cell? ⟨b,off+j,none⟩=some (.int .i64 (zs[j]?.getD 0))
theorem fW.ints{base:Nat}(i:fW d base b t o):cZ b.heap.size b t o:=fun j f=>by
 obtain⟨g,a,h,_,c,e⟩:=i j f;exact⟨g,a,h,c,e⟩
theorem fW.eV{base:Nat}{W':World}{a:Option Addr}(k:fW d base b a o)(v:b.heap.size<=W'.heap.size)(s:∀c,c<b.heap.size->(c<base∨∃g p,b.heap[c]?=some (.cells g 3 p))->W'.heap[c]?=b.heap[c]?):fW d base W' a o:=fun t r=>by
 obtain⟨c,f,u,e,j,q⟩:=k t r;have h:=s c j (e.imp And.right And.right);exact⟨c,f,u,e.imp id (fun⟨l,g,p,k⟩=>⟨l.imp id (fun⟨m,i,n⟩=>⟨m,i,h.trans n⟩),g,p,h.trans k⟩),by omega,(aH (a:=⟨c,f+t,none⟩) h).trans q⟩
theorem fW.below{base:Nat}(f:fW d base b t o)(a:Below b.heap.size b s):fW d base s t o:=f.eV a.size fun e c _=>a.block e c
theorem fW.KA{base:Nat}(j:cZ base s t o)(k:base<=b.heap.size)(d:Below base s b):fW true base b t o:=fun h f=>by
 obtain⟨g,a,i,c,e⟩:=j h f;exact⟨g,a,i,.inl ⟨rfl,c⟩,by omega,(d.cell (p:=⟨g,a+h,none⟩) c).trans e⟩
theorem fW.new{fl:Bool}{base:Nat}(i:cU e b l o)(g:fl=true∨base<=e):∃p c,l=.slice p o.length c∧fW fl base b p o∧o.length<=c∧c<=maxLen:=by
 rcases i.2 with⟨rfl,n⟩|⟨r,f,a,rfl,m,d,j,k,s,t⟩
 ·exact⟨none,0,by rw[n],fun q h=>by omega,by omega,by unfold maxLen;omega⟩
 ·refine⟨_,f,rfl,fun q h=>⟨r,0,rfl,.inr ⟨g.imp id (fun i=>⟨aK i m,a,d⟩),a,_,d⟩,(ak.1 d).1,?_⟩,j,k⟩
  have:=dI (xs:=o.map (Value.int .i64)) i q (by omega)
  rw[cI,this];simp[h]
theorem fW.grown{base:Nat}{row:Option Nat}(p:fW d base b t o)(i:n≠3)(e:b.grownBy s row)(j:∀k,row=some k->base<=k∧∃c,b.heap[k]?=some (.cells c n (0,0))):fW d base s t o:=
 p.eV e.size fun l h f=>e.block l h fun e'=>by
  obtain⟨q,c,a⟩:=j l e'.symm;rcases f with p|⟨m,r,g⟩
  ·omega
  ·rw[g]at a
   simp only[dx,fU]at a;exact i a.2.1.symm
def dC(fl:Bool)(e:TypeId)(sb eb:Nat)(W:World)(v:Value)(ps:bg):Prop:=
 ∃us:List Value,W.ownsRow sb e 2 v ps.length us∧∀j,j<ps.length->∃aL cL aR cR,us[j*2]?=some (.slice aL (ps[j]?.getD ([],[])).1.length cL)∧us[j*2+1]?=some (.slice aR (ps[j]?.getD ([],[])).2.length cR)∧fW fl eb W aL (ps[j]?.getD ([],[])).1∧fW fl eb W aR (ps[j]?.getD ([],[])).2∧(ps[j]?.getD ([],[])).1.length<=cL∧cL<=maxLen∧(ps[j]?.getD ([],[])).2.length<=cR∧cR<=maxLen
theorem dC.nil(f:TypeId)(c a:Nat)(e:World):dC d f c a e (.slice none 0 0) []:=⟨[],gq _ _ _ _,fun g b=>by simp at b⟩
theorem dC.slice(k:dC d n e i b l f):∃j a,l=.slice j f.length a:=by
 obtain⟨m,g,_⟩:=k;rcases g.2 with⟨rfl,c⟩|⟨o,a,h,rfl,_⟩
 ·exact⟨none,0,by rw[c]⟩
 ·exact⟨_,_,rfl⟩
theorem dC.block(j:dC d n i y b l f)(g:l.ownBlock=some e):i<=e∧e<b.heap.size∧∃a,b.heap[e]?=some (.cells a n (0,0)):=by
 obtain⟨k,c,_⟩:=j;obtain⟨a,h⟩:=qP c g;exact⟨(bn c e g).1,(bn c e g).2,a,h⟩
theorem dC.eV{W':World}(z:dC d n i e b l f)(g:b.heap.size<=W'.heap.size)(r:∀q,l.ownBlock=some q->W'.heap[q]?=b.heap[q]?)(c:∀a,a<b.heap.size->(a<e∨∃o p,b.heap[a]?=some (.cells o 3 p))->W'.heap[a]?=b.heap[a]?):dC d n i e W' l f:=by
 obtain⟨v,s,t⟩:=z;refine⟨v,wI s r,fun A u=>?_⟩;obtain⟨h,k,j,m,w,a,x,y,B⟩:=t A u;exact⟨h,k,j,m,w,a,x.eV g c,y.eV g c,B⟩
theorem dC.below(h:dC d n e i b l f)(a:Below b.heap.size b s):dC d n e i s l f:=
 h.eV a.size (fun k g=>a.block k (h.block g).2.1) fun j c _=>a.block j c
theorem dC.grown{e':TypeId}{row:Option Nat}(p:dC d n i e b l f)(t:e'≠3)(g:b.grownBy s row)(o:∀k,row=some k->e<=k∧(∃h,b.heap[k]?=some (.cells h e' (0,0)))∧l.ownBlock≠some k):dC d n i e s l f:=
 p.eV g.size (fun w m=>g.block w (p.block m).2.1 fun a=>(o w a.symm).2.2 m) fun u r j=>g.block u r fun a=>by
  obtain⟨x,⟨h,c⟩,_⟩:=o u a.symm;rcases j with p|⟨v,y,q⟩
  ·omega
  ·rw[q]at c
   simp only[dx,fU]at c;exact t c.2.1.symm
theorem dC.mono(r:dC d n e y b l f)(o:i<=e):dC d n i y b l f:=by
 obtain⟨p,g,m⟩:=r;exact⟨p,⟨g.1,g.2.elim .inl (fun⟨q,a,c,h,j,k⟩=>.inr ⟨q,a,c,h,aK o j,k⟩)⟩,m⟩
theorem dC.at{v:Value}(I:dC d n e i b v f):∃E a,v=.slice E f.length a∧dw b.heap.size b E f∧f.length<=a∧a<=maxLen:=by
 obtain⟨D,c,r⟩:=I;have K:D.length=f.length*2:=c.1;rcases c.2 with⟨rfl,t⟩|⟨H,a,F,rfl,J,h,B,C,_⟩
 ·refine⟨none,0,by rw[t],fun G j=>by omega,by omega,by unfold maxLen;omega⟩
 ·refine⟨_,a,rfl,fun L s=>?_,B,C⟩
  obtain⟨m,p,o,q,z,A,u,w,x,k,y,l⟩:=r L s;have g:=fun G j=>dI c G j
  exact⟨H,0,rfl,(ak.1 h).1,m,p,o,q,by rw[cI,g _ (by omega),z],by rw[cI,g _ (by omega),A],u.ints,w.ints,x,k,y,l⟩
theorem dC.elem(z:dC d n y i b l f)(o:e<f.length):∃g h j a k c,l=.slice (some ⟨g,0,none⟩) f.length h∧g<b.heap.size∧b.cell? ⟨g,0+e*2,none⟩=some (.slice j (f[e]?.getD ([],[])).1.length a)∧b.cell? ⟨g,0+e*2+1,none⟩=some (.slice k (f[e]?.getD ([],[])).2.length c)∧
 fW d i b j (f[e]?.getD ([],[])).1∧fW d i b k (f[e]?.getD ([],[])).2∧(f[e]?.getD ([],[])).1.length<=a∧a<=maxLen∧(f[e]?.getD ([],[])).2.length<=c∧c<=maxLen:=by
 obtain⟨s,m,r⟩:=z;have B:s.length=f.length*2:=m.1;obtain⟨j,a,k,c,u,v,w,x,F⟩:=r e o;rcases m.2 with⟨rfl,C⟩|⟨g,h,t,rfl,A,q,D,E,_⟩
 ·omega
 ·have p:=fun e o=>dI m e o
  exact⟨g,h,j,a,k,c,rfl,(ak.1 q).1,by rw[cI,p _ (by omega),u],by rw[cI,p _ (by omega),v],w,x,F⟩
theorem dC.snoc(K:n≠3)(p:e<=E)(L:b.grownBy s l.ownBlock)(I:fW d e b t o)(J:fW d e b A C)(x:o.length<=i)(B:i<=maxLen)(D:C.length<=y)(F:y<=maxLen)
 (c:b.ownsRow E n 2 l f.length z)(k:∀j,j<f.length->∃t i A y,z[j*2]?=some (.slice t (f[j]?.getD ([],[])).1.length i)∧z[j*2+1]?=some (.slice A (f[j]?.getD ([],[])).2.length y)∧fW d e b t (f[j]?.getD ([],[])).1∧fW d e b A (f[j]?.getD ([],[])).2∧(f[j]?.getD ([],[])).1.length<=i∧i<=maxLen∧(f[j]?.getD ([],[])).2.length<=y∧y<=maxLen)
 (h:s.ownsRow E n 2 G (f.length+1) (z++[.slice t o.length i,.slice A C.length y])):dC d n E e s G (f++[(o,C)]):=by
 have q:z.length=f.length*2:=c.1;have N:∀u,l.ownBlock=some u->e<=u∧∃H,b.heap[u]?=some (.cells H n (0,0)):=fun u a=>⟨aK p (bn c u a).1,qP c a⟩
 have a:∀{U:Option Addr}{w:List Int},fW d e b U w->fW d e s U w:=fun V=>V.grown K L N
 refine⟨z++[.slice t o.length i,.slice A C.length y],by simpa using h,fun j M=>?_⟩;by_cases g:j<f.length
 ·obtain⟨W,T,S,v,Q,R,O,P,r⟩:=k j g
  rw[aV g,aV (by omega),aV (by omega)];exact⟨W,T,S,v,Q,R,a O,a P,r⟩
 ·have m:j=f.length:=by simp at M;omega
  subst m;rw[aU (af _),aU (by omega),aU (by omega),q];exact⟨t,i,A,y,by simp,by simp,by simpa using a I,by simpa using a J,by simpa using x,B,by simpa using D,F⟩
theorem Tryz.Bv:(Tryz.prog.info? 70).map (fun a=>(a.zero,a.size,a.bytes))=some (some (.agg #[.slice none 0 0,.slice none 0 0]),2,48):=by kernel_rfl
theorem uW(f:World)(y:m.guard=none)(W Y:Operand)
 (S:m.op=.call {callee:=.builtin .append,args:=#[W,Y],argTypes:=#[31,31]})(b i:Nat)(z:i<=b)(I:Value)(e:bg)(T:h.eval W=I)(P:dC d 70 b i f I e)
 (H:Nat)(p q:Option Addr)(G k:List Int)(n o:Nat)(U:h.eval Y=.slice (some ⟨H,0,none⟩) 1 1)(t:f.cell? ⟨H,0,none⟩=some (.slice p G.length n))(v:f.cell? ⟨H,1,none⟩=some (.slice q k.length o))(N:fW d i f p G)(O:fW d i f q k)(J:G.length<=n)(K:n<=maxLen)(L:k.length<=o)(M:o<=maxLen)(R:e.length<=1000000)(c:b<=f.heap.size)
 (Yc:∀g l w',dC d 70 b i w' (.slice (some ⟨g,0,none⟩) (e.length+1) l) (e++[(G,k)])->f.grownBy w' I.ownBlock->Below b f w'->D (h.put m.dst (.slice (some ⟨g,0,none⟩) (e.length+1) l)) w'):
 if Region.wanted m (yielded u h.tmps)=true then Oper.wp Tryz.prog m h f D w else F:=by
 obtain⟨V,Q,B,C,E⟩:=fh Tryz.Bv;obtain⟨X,j,x⟩:=P;refine og f y W Y 31 S b 70 V (.agg #[.slice none 0 0,.slice none 0 0]) 2 48 Tryz.underlying31 Q B C E rfl (by decide) I e.length X T j ⟨H,0,none⟩ 1 1 [.slice p G.length n,.slice q k.length o] U (by simp)
  (by intro Yd Yg a
      match Yd,a with
      |0,a=>simp at a;subst a;rw[cz];simpa using t
      |1,a=>simp at a;subst a;rw[cz];simpa using v)
  (by intro Yf A;simp at A;rcases A with rfl|rfl<;>rfl) (by decide) (by unfold maxLen;omega) (by omega) c f.heap.size rfl ?_
 intro g l w' s r _ _;exact Yc g l w' (dC.snoc (by decide) z r N O J K L M j x s) r ((ah b f).grown r c fun Ye Z=>(bn j Ye Z).1)
theorem uv{rest:List Oper}(l:World)(y:m.guard=none)(U W:Operand)
 (Q:m.op=.call {callee:=.builtin .append,args:=#[U,W],argTypes:=#[31,31]})(b f:Nat)(z:f<=b)(G:Value)(e:bg)(R:h.eval U=G)(N:dC d 70 b f l G e)
 (F:Nat)(q r:Option Addr)(E k:List Int)(o p:Nat)(S:h.eval W=.slice (some ⟨F,0,none⟩) 1 1)(t:l.cell? ⟨F,0,none⟩=some (.slice q E.length o))(v:l.cell? ⟨F,1,none⟩=some (.slice r k.length p))(L:fW d f l q E)(M:fW d f l r k)(H:E.length<=o)(I:o<=maxLen)(J:k.length<=p)(K:p<=maxLen)(P:e.length<=1000000)(c:b<=l.heap.size)
 (Y:∀g n w',dC d 70 b f w' (.slice (some ⟨g,0,none⟩) (e.length+1) n) (e++[(E,k)])->l.grownBy w' G.ownBlock->Below b l w'->wpList Tryz.prog u w rest (h.put m.dst (.slice (some ⟨g,0,none⟩) (e.length+1) n)) w'):wpList Tryz.prog u w (m::rest) h l:=by
 obtain⟨T,O,B,C,D⟩:=fh Tryz.Bv;obtain⟨V,j,x⟩:=N;refine fN l y U W 31 Q b 70 T (.agg #[.slice none 0 0,.slice none 0 0]) 2 48 Tryz.underlying31 O B C D rfl (by decide) G e.length V R j ⟨F,0,none⟩ 1 1 [.slice q E.length o,.slice r k.length p] S (by simp)
  (by intro Z Yf a
      match Z,a with
      |0,a=>simp at a;subst a;rw[cz];simpa using t
      |1,a=>simp at a;subst a;rw[cz];simpa using v)
  (by intro Ye A;simp at A;rcases A with rfl|rfl<;>rfl) (by unfold maxLen;omega) (by omega) c ?_
 intro Yd w' i s _;obtain⟨g,n,rfl⟩:=jy i;exact Y g n w' (dC.snoc (by decide) z s L M H I J K j x i) s ((ah b l).grown s c fun Yc X=>(bn j Yc X).1)
theorem Mb{rest:List Oper}(s:World)(A:m.guard=none)(Ye Yg:Operand)
 (N:m.op=.call {callee:=.builtin .append,args:=#[Ye,Yg],argTypes:=#[31,31]})(e f:Nat)(P:f<=e)(H:Value)(a:bg)(O:h.eval Ye=H)(Yl:dC d 70 e f s H a)
 (Y:Value)(c:bg)(R:h.eval Yg=Y)(X:Nat)(Yk:dC d 70 X f s Y c)(Ym:a.length+c.length<=100000)(j:e<=s.heap.size)
 (Yd:∀x w',dC d 70 e f w' x (a++c)->s.grownBy w' H.ownBlock->Below e s w'->wpList Tryz.prog u w rest (h.put m.dst x) w'):wpList Tryz.prog u w (m::rest) h s:=by
 obtain⟨V,K,S,T,U⟩:=fh Tryz.Bv;obtain⟨r,g,J⟩:=Yl;obtain⟨l,E,W⟩:=Yk;have Q:r.length=a.length*2:=g.1;have Yp:l.length=c.length*2:=E.1;have t:∀Yf∈l,∃h Yx Yu,Yf=.slice h Yx Yu:=fun Yf D=>by
  obtain⟨i,b,Yc⟩:=gQ D;have M:i/2<c.length:=by omega
  obtain⟨Yh,z,y,n,o,p,_⟩:=W (i/2) M;rcases jY i with Yj|Yj
  ·rw[show i/2*2=i by omega,an b,Yc]at o
   cases o;exact⟨_,_,_,rfl⟩
  ·rw[show i/2*2+1=i by omega,an b,Yc]at p
   cases p;exact⟨_,_,_,rfl⟩
 rcases E.2 with⟨rfl,Yn⟩|⟨Yv,I,Yr,rfl,Yw,Yt,Yy,Yz,YA⟩
 ·obtain rfl:c=[]:=bJ Yn
  refine ij A Ye Yg 31 N e 70 V 2 Tryz.underlying31 K H a.length r O g R (Yd H s (by rw[cW];exact⟨r,g,J⟩) ⟨rfl,rfl,rfl,af _,fun _ _ _=>rfl⟩ (ah _ _))
 ·refine fN s A Ye Yg 31 N e 70 V (.agg #[.slice none 0 0,.slice none 0 0]) 2 48 Tryz.underlying31 K S T U rfl (by decide) H a.length r O g ⟨Yv,0,none⟩ c.length I l R (by omega)
   (by intro q YB v
       have k:q<c.length*2:=by
        have:=(ig.1 v).1
        omega
       rw[cz];have:=dI E q k
       rw[v]at this;simpa using this)
   (by intro Yf D;obtain⟨_,_,_,rfl⟩:=t Yf D;rfl) (by unfold maxLen;omega) (by omega) j ?_
  intro x w' C B _;have Yo:∀i,H.ownBlock=some i->f<=i∧∃Yi,s.heap[i]?=some (.cells Yi 70 (0,0)):=fun i b=>⟨aK P (bn g i b).1,qP g b⟩
  have b:∀{h:Option Addr}{Z:List Int},fW d f s h Z->fW d f w' h Z:=fun Yd=>Yd.grown (by decide) B Yo
  refine Yd x w' ⟨r++l,by simpa using C,fun q v=>?_⟩ B ((ah e s).grown B j (fun i Yc=>(bn g i Yc).1));by_cases k:q<a.length
  ·obtain⟨Yh,z,y,n,o,p,F,G,Yq⟩:=J q k
   rw[aV k,aV (by omega),aV (by omega)];exact⟨Yh,z,y,n,o,p,b F,b G,Yq⟩
  ·have L:q-a.length<c.length:=by rw[ai]at v;omega
   obtain⟨Yh,z,y,n,o,p,F,G,Yq⟩:=W (q-a.length) L;rw[aU (by omega),aU (by omega),aU (by omega),Q];rw[show q*2-a.length*2=(q-a.length)*2 by omega,show q*2+1-a.length*2=(q-a.length)*2+1 by omega];exact⟨Yh,z,y,n,o,p,b F,b G,Yq⟩
theorem uQ(f:World)(y:m.guard=none)(W Y:Operand)
 (S:m.op=.call {callee:=.builtin .append,args:=#[W,Y],argTypes:=#[30,30]})(b i:Nat)(z:i<=b)(I:Value)(e:bg)(T:h.eval W=I)(P:dC d 79 b i f I e)
 (H:Nat)(p q:Option Addr)(G k:List Int)(n o:Nat)(U:h.eval Y=.slice (some ⟨H,0,none⟩) 1 1)(t:f.cell? ⟨H,0,none⟩=some (.slice p G.length n))(v:f.cell? ⟨H,1,none⟩=some (.slice q k.length o))(N:fW d i f p G)(O:fW d i f q k)(J:G.length<=n)(K:n<=maxLen)(L:k.length<=o)(M:o<=maxLen)(R:e.length<=1000000)(c:b<=f.heap.size)
 (Yc:∀g l w',dC d 79 b i w' (.slice (some ⟨g,0,none⟩) (e.length+1) l) (e++[(G,k)])->f.grownBy w' I.ownBlock->Below b f w'->D (h.put m.dst (.slice (some ⟨g,0,none⟩) (e.length+1) l)) w'):
 if Region.wanted m (yielded u h.tmps)=true then Oper.wp Tryz.prog m h f D w else F:=by
 obtain⟨V,Q,B,C,E⟩:=fh Tryz.uK;obtain⟨X,j,x⟩:=P;refine og f y W Y 30 S b 79 V (.agg #[.slice none 0 0,.slice none 0 0]) 2 48 Tryz.underlying30 Q B C E rfl (by decide) I e.length X T j ⟨H,0,none⟩ 1 1 [.slice p G.length n,.slice q k.length o] U (by simp)
  (by intro Yd Yg a
      match Yd,a with
      |0,a=>simp at a;subst a;rw[cz];simpa using t
      |1,a=>simp at a;subst a;rw[cz];simpa using v)
  (by intro Yf A;simp at A;rcases A with rfl|rfl<;>rfl) (by decide) (by unfold maxLen;omega) (by omega) c f.heap.size rfl ?_
 intro g l w' s r _ _;exact Yc g l w' (dC.snoc (by decide) z r N O J K L M j x s) r ((ah b f).grown r c fun Ye Z=>(bn j Ye Z).1)
theorem Nq{rest:List Oper}(l:World)(y:m.guard=none)(U W:Operand)
 (Q:m.op=.call {callee:=.builtin .append,args:=#[U,W],argTypes:=#[30,30]})(b f:Nat)(z:f<=b)(G:Value)(e:bg)(R:h.eval U=G)(N:dC d 79 b f l G e)
 (F:Nat)(q r:Option Addr)(E k:List Int)(o p:Nat)(S:h.eval W=.slice (some ⟨F,0,none⟩) 1 1)(t:l.cell? ⟨F,0,none⟩=some (.slice q E.length o))(v:l.cell? ⟨F,1,none⟩=some (.slice r k.length p))(L:fW d f l q E)(M:fW d f l r k)(H:E.length<=o)(I:o<=maxLen)(J:k.length<=p)(K:p<=maxLen)(P:e.length<=1000000)(c:b<=l.heap.size)
 (Y:∀g n w',dC d 79 b f w' (.slice (some ⟨g,0,none⟩) (e.length+1) n) (e++[(E,k)])->l.grownBy w' G.ownBlock->Below b l w'->wpList Tryz.prog u w rest (h.put m.dst (.slice (some ⟨g,0,none⟩) (e.length+1) n)) w'):wpList Tryz.prog u w (m::rest) h l:=by
 obtain⟨T,O,B,C,D⟩:=fh Tryz.uK;obtain⟨V,j,x⟩:=N;refine fN l y U W 30 Q b 79 T (.agg #[.slice none 0 0,.slice none 0 0]) 2 48 Tryz.underlying30 O B C D rfl (by decide) G e.length V R j ⟨F,0,none⟩ 1 1 [.slice q E.length o,.slice r k.length p] S (by simp)
  (by intro Z Yf a
      match Z,a with
      |0,a=>simp at a;subst a;rw[cz];simpa using t
      |1,a=>simp at a;subst a;rw[cz];simpa using v)
  (by intro Ye A;simp at A;rcases A with rfl|rfl<;>rfl) (by unfold maxLen;omega) (by omega) c ?_
 intro Yd w' i s _;obtain⟨g,n,rfl⟩:=jy i;exact Y g n w' (dC.snoc (by decide) z s L M H I J K j x i) s ((ah b l).grown s c fun Yc X=>(bn j Yc X).1)
theorem qu{rest:List Oper}(s:World)(A:m.guard=none)(Ye Yg:Operand)
 (N:m.op=.call {callee:=.builtin .append,args:=#[Ye,Yg],argTypes:=#[30,30]})(e f:Nat)(P:f<=e)(H:Value)(a:bg)(O:h.eval Ye=H)(Yl:dC d 79 e f s H a)
 (Y:Value)(c:bg)(R:h.eval Yg=Y)(X:Nat)(Yk:dC d 79 X f s Y c)(Ym:a.length+c.length<=100000)(j:e<=s.heap.size)
 (Yd:∀x w',dC d 79 e f w' x (a++c)->s.grownBy w' H.ownBlock->Below e s w'->wpList Tryz.prog u w rest (h.put m.dst x) w'):wpList Tryz.prog u w (m::rest) h s:=by
 obtain⟨V,K,S,T,U⟩:=fh Tryz.uK;obtain⟨r,g,J⟩:=Yl;obtain⟨l,E,W⟩:=Yk;have Q:r.length=a.length*2:=g.1;have Yp:l.length=c.length*2:=E.1;have t:∀Yf∈l,∃h Yx Yu,Yf=.slice h Yx Yu:=fun Yf D=>by
  obtain⟨i,b,Yc⟩:=gQ D;have M:i/2<c.length:=by omega
  obtain⟨Yh,z,y,n,o,p,_⟩:=W (i/2) M;rcases jY i with Yj|Yj
  ·rw[show i/2*2=i by omega,an b,Yc]at o
   cases o;exact⟨_,_,_,rfl⟩
  ·rw[show i/2*2+1=i by omega,an b,Yc]at p
   cases p;exact⟨_,_,_,rfl⟩
 rcases E.2 with⟨rfl,Yn⟩|⟨Yv,I,Yr,rfl,Yw,Yt,Yy,Yz,YA⟩
 ·obtain rfl:c=[]:=bJ Yn
  refine ij A Ye Yg 30 N e 79 V 2 Tryz.underlying30 K H a.length r O g R (Yd H s (by rw[cW];exact⟨r,g,J⟩) ⟨rfl,rfl,rfl,af _,fun _ _ _=>rfl⟩ (ah _ _))
 ·refine fN s A Ye Yg 30 N e 79 V (.agg #[.slice none 0 0,.slice none 0 0]) 2 48 Tryz.underlying30 K S T U rfl (by decide) H a.length r O g ⟨Yv,0,none⟩ c.length I l R (by omega)
   (by intro q YB v
       have k:q<c.length*2:=by
        have:=(ig.1 v).1
        omega
       rw[cz];have:=dI E q k
       rw[v]at this;simpa using this)
   (by intro Yf D;obtain⟨_,_,_,rfl⟩:=t Yf D;rfl) (by unfold maxLen;omega) (by omega) j ?_
  intro x w' C B _;have Yo:∀i,H.ownBlock=some i->f<=i∧∃Yi,s.heap[i]?=some (.cells Yi 79 (0,0)):=fun i b=>⟨aK P (bn g i b).1,qP g b⟩
  have b:∀{h:Option Addr}{Z:List Int},fW d f s h Z->fW d f w' h Z:=fun Yd=>Yd.grown (by decide) B Yo
  refine Yd x w' ⟨r++l,by simpa using C,fun q v=>?_⟩ B ((ah e s).grown B j (fun i Yc=>(bn g i Yc).1));by_cases k:q<a.length
  ·obtain⟨Yh,z,y,n,o,p,F,G,Yq⟩:=J q k
   rw[aV k,aV (by omega),aV (by omega)];exact⟨Yh,z,y,n,o,p,b F,b G,Yq⟩
  ·have L:q-a.length<c.length:=by rw[ai]at v;omega
   obtain⟨Yh,z,y,n,o,p,F,G,Yq⟩:=W (q-a.length) L;rw[aU (by omega),aU (by omega),aU (by omega),Q];rw[show q*2-a.length*2=(q-a.length)*2 by omega,show q*2+1-a.length*2=(q-a.length)*2+1 by omega];exact⟨Yh,z,y,n,o,p,b F,b G,Yq⟩
theorem ll.x{fl:Bool}{base eb:Nat}(w:ll base b l f)(a:fl=true∨eb<=base):dC fl 79 base eb b l f:=by
 obtain⟨t,j,k⟩:=w;refine⟨t,j,fun x m=>?_⟩;obtain⟨z,y,u,v,r,s⟩:=k x m;obtain⟨e,h,rfl,n,p,c⟩:=fW.new (base:=eb) r a;obtain⟨g,i,rfl,o,q,d⟩:=fW.new (base:=eb) s a;exact⟨e,h,g,i,u,v,n,o,p,c,q,d⟩
