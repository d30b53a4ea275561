/-
  Parts of the proof.
-/
import Derived.Test.YtglohanbpjaieaaGreatDoorBdp13
set_option maxHeartbeats 4000000
set_option maxRecDepth 100000
namespace Go.Proofs.YtglohanbpjaieaaGreatDoor
open Go.Proofs Go.RowKit Go.Shelf Go.Maps
variable {A:Fence}{D:Obj}{E:Exit->Act->World->Prop}{F U:TypeId}{H:Oper}{I:Array Value}{J:Program}{K:uC}{O:List Value}{P:Func}{Q:Option Addr}{T:Int}{V:Nat×Nat×List Int}{W:List Int×List Int}{X:Act->World->Prop}{b l L M R S:Nat}{d f B:World}{e y N:Value}{h G Y Z:List Int}{q:bg}{r:bu}{w:Array Oper}{z:Act}
def ky(rk:List Int)(rs:bu):Bool:=rs.all fun r=>dj rk r.1 r.2
def eh(rk:List Int)(rs:bu):Int:=if da rk=0 then cm rs else da rk
def eW(rk:List Int)(rs:bu):Bool:=if eh rk rs=0 then ky rk rs else false
theorem ze(c:gw r=0):∀k,k<r.length->ff (r[k]?.getD ([],[])).1 (r[k]?.getD ([],[])).2=0:=by
 induction r with
 |nil=>intro k b;simp at b
 |cons e f d=>
  rw[gw]at c;by_cases a:ff e.1 e.2=0
  ·rw[aD a]at c
   intro k b;cases k with
   |zero=>simpa using a
   |succ k=>simpa using d c k (by simpa using b)
  ·rw[aE a]at c;exact absurd c a
theorem dV(b:cm r=0):r.length<=8∧∀k,k<r.length->ff (r[k]?.getD ([],[])).1 (r[k]?.getD ([],[])).2=0:=by
 unfold cm at b;by_cases a:8<r.length
 ·rw[aD a]at b;omega
 ·rw[aE a]at b;exact⟨by omega,ze b⟩
theorem eo(a:ff h G=0):Tm.err h=0∧Tm.err G=0∧h.any ei=false∧G.any ei=false∧(0:Int)<=h[0]?.getD 0∧G.any (jN h)=false:=by
 unfold ff at a;by_cases b:Tm.err h=0
 ·rw[aD b]at a
  by_cases c:Tm.err G=0
  ·rw[aD c]at a
   cases d:h.any ei with
   |true=>rw[d,aD rfl]at a;omega
   |false=>
    rw[d,aE (by decide)]at a;cases e:G.any ei with
    |true=>rw[e,aD rfl]at a;omega
    |false=>
     rw[e,aE (by decide)]at a;by_cases f:h[0]?.getD 0<0
     ·rw[aD f]at a;omega
     ·rw[aE f]at a
      cases g:G.any (jN h)with
      |true=>rw[g,aD rfl]at a;omega
      |false=>exact⟨b,c,rfl,rfl,by omega,rfl⟩
  ·rw[aE c]at a;exact absurd a c
 ·rw[aE b]at a;exact absurd a b
theorem AK{rk:List Int}(a:b<r.length)(c:ky rk (r.take b)=true):ky rk (r.take (b+1))=dj rk (r[b]?.getD ([],[])).1 (r[b]?.getD ([],[])).2:=by
 unfold ky at*;rw[List.take_add_one,ru,c];simp[a]
theorem DX{rk:List Int}(a:b<r.length)(d:dj rk (r[b]?.getD ([],[])).1 (r[b]?.getD ([],[])).2=false):ky rk r=false:=by
 rw[kE];intro c;unfold ky at c;rw[dD]at c;have:=c r[b] (ee a)
 simp only[a,an,dy]at d;rw[d]at this;cases this
theorem CE(rk:List Int)(a:bu)(w R:Option Addr)(F B:Nat)(j:World)(n:cZ j.heap.size j w rk)(z:dw j.heap.size j R a):
 Calls Tryz.prog 165 #[.slice w rk.length F,.slice R a.length B] j fun C Yd=>C=.returned (.tuple #[.bool (eW rk a),.int .i64 (eh rk a)])∧Below j.heap.size j Yd:=by
 have s:=sB rk w F j n;have t:=lf a R B j z;by_cases d:da rk=0
 ·rw[d]at s
  have b:eh rk a=cm a:=by unfold eh;rw[aD d]
  by_cases e:cm a=0
  ·rw[e]at t
   have i:eW rk a=ky rk a:=by unfold eW;rw[b,aD e]
   rw[i,b,e];obtain⟨W,l⟩:=dV e;have Yh:(a.length:Int)<=8:=by omega
   have P:=hid (fun Yg(N:Below j.heap.size j Yg)c(A:c<a.length)u v x y X M S T U V=>pJ rk (a[c]?.getD ([],[])).1 (a[c]?.getD ([],[])).2 w u v F x y Yg ((n.below N).mono N.size) X M S T U V);have Q:=hid (fun c(A:c<a.length)=>jQ d (eo (l c A)).1 (eo (l c A)).2.1);clear b i d e l n W;go_enter Tryz.func165,Tryz.ntmps165;go_wp2_with fail;refine s.mono ?_;rintro C j⟨rfl,rfl⟩;go_wp2_with fail;refine t.mono ?_;rintro C Ye⟨rfl,D⟩;go_wp2_with fail;go_loopw [24](fun Yc wr=>∃c:Nat,c<=a.length∧Yc=.int .i64 (c:Int)∧Hid (ky rk (a.take c)=true)∧Below j.heap.size j wr)(fun Yc _=>a.length-(intOf Yc).toNat)
   case atStart=>exact⟨0,bf _,rfl,hid rfl,D⟩
   case round=>
    obtain⟨c,A,rfl,r,m⟩:=hrel;by_cases h:c<a.length
    ·have Y:(c:Int)<(a.length:Int):=by omega
     obtain⟨Yq,Yi,rfl,Yo,u,x,v,y,Yl,Ym,G,H,I,J,K,L⟩:=(z.below m) c h;have p:=hid (AK h r.out);have q:=hid (fun Yn=>DX (rk:=rk) h Yn);have b:=Q.out c h;have f:Below wr.heap.size wr (wr.alloc (.cells #[.slice u (a[c]?.getD ([],[])).1.length x,.slice v (a[c]?.getD ([],[])).2.length y] 70)):=(ah _ wr).alloc (af _) _;have g:=m.trans (f.mono m.size);have k:=hid (P.out _ g c h u v x y (((G.mono m.size).below f).mono f.size) (((H.mono m.size).below f).mono f.size) I J K L);rw[b]at k;generalize(a[c]?.getD ([],[])).1=Yj at*;generalize(a[c]?.getD ([],[])).2=Yk at*;clear b G H I J K L;cases o:dj rk Yj Yk with
     |true=>
      rw[o]at k p;clear o q;go_wp2_with(first
       |(go_at_call 84;refine k.out.mono ?_;clear k;rintro C Yf⟨rfl,E⟩))
      go_roundw
      case rel=>exact⟨c+1,by omega,by go_num,hid p.out,g.trans (E.mono g.size)⟩
      case measure=>simp[intOf];omega
     |false=>
      have O:=hid (q.out o);rw[o]at k;clear o p q;go_wp2_with(first
       |(go_at_call 84;refine k.out.mono ?_;clear k;rintro C Yf⟨rfl,E⟩))
      go_ret2
      exact⟨by rw[O.out];rfl,g.trans (E.mono g.size)⟩
    ·obtain rfl:c=a.length:=by omega
     rw[cJ]at r;go_wp2;go_ret2
     exact⟨by rw[r.out];rfl,m⟩
  ·have i:eW rk a=false:=by unfold eW;rw[b,aE e]
   have Z:(cm a !=0)=true:=by simpa using e
   rw[i,b];clear d e b i n z;generalize cm a=Yp at*;go_enter Tryz.func165,Tryz.ntmps165;go_wp2_with fail;refine s.mono ?_;rintro C j⟨rfl,rfl⟩;go_wp2_with fail;refine t.mono ?_;rintro C Ye⟨rfl,D⟩;go_wp2;go_ret2
   exact⟨rfl,D⟩
 ·have b:eh rk a=da rk:=by unfold eh;rw[aE d]
  have i:eW rk a=false:=by unfold eW;rw[b,aE d]
  have Z:(da rk !=0)=true:=by simpa using d
  rw[i,b];clear d b i n z t;generalize da rk=Yp at*;go_enter Tryz.func165,Tryz.ntmps165;go_wp2_with fail;refine s.mono ?_;rintro C j⟨rfl,rfl⟩;go_wp2;go_ret2
  exact⟨rfl,ah _ _⟩
def lg(ss:List (List Int))(t:List Int)(k:Int)(r:List Int):Int:=if dH ss r=0 then gZ t k (eJ ss r)else dH ss r
def mj(ss:List (List Int))(t:List Int)(k:Int)(r:List Int):List Int:=if dH ss r=0 then gj t k (eJ ss r)else []
theorem EV(a:List (List Int))(g d:List Int)(m:Int)(o i p:Option Addr)(w n u:Nat)(l:World)(r:np l.heap.size l o a)(A:cZ l.heap.size l i g)(q:cZ l.heap.size l p d)(x:g.length<=n)(y:n<=maxLen):
 Calls Tryz.prog 144 #[.slice i g.length n,.int .i64 m,.slice o a.length w,.slice p d.length u] l fun E B=>∃v,E=.returned (.tuple #[v,.int .i64 (lg a g m d)])∧cU l.heap.size B v (mj a g m d)∧Below l.heap.size l B:=by
 have h:=z7 a d o p w u l r q;by_cases c:dH a d=0
 ·have j:lg a g m d=gZ g m (eJ a d):=by unfold lg;rw[aD c]
  have k:mj a g m d=gj g m (eJ a d):=by unfold mj;rw[aD c]
  rw[j,k];rw[c]at h;clear j k c r q;generalize eJ a d=I at*;go_enter Tryz.func144,Tryz.ntmps144;go_wp2_with fail;refine h.mono ?_;rintro E C⟨G,rfl,b,e⟩;obtain⟨D,t,rfl,f,_⟩:=cU.ints b;have s:=Aw g I i D n t m C ((A.below e).mono e.size) f x y;clear h b f;go_wp2_with fail;refine s.mono ?_;rintro E K⟨J,rfl,z,F⟩;clear s;go_wp2;go_ret2
  exact⟨_,rfl,z.mono e.size,e.trans (F.mono e.size)⟩
 ·have j:lg a g m d=dH a d:=by unfold lg;rw[aE c]
  have k:mj a g m d=[]:=by unfold mj;rw[aE c]
  have H:(dH a d !=0)=true:=by simpa using c
  rw[j,k];clear j k c r q A x y;generalize dH a d=L at*;go_enter Tryz.func144,Tryz.ntmps144;go_wp2_with fail;refine h.mono ?_;rintro E C⟨G,rfl,b,e⟩;obtain⟨D,t,rfl,f,_⟩:=cU.ints b;clear h b f;go_wp2;go_ret2
  exact⟨_,rfl,cU.nil _ _,e⟩
abbrev qi:=List (Nat×Nat×List Int)
variable {s:qi}
def mw(base:Nat)(W:World)(v:Value)(pq:qi):Prop:=
 ∃us:List Value,W.ownsRow base 126 3 v pq.length us∧∀j,j<pq.length->∃u,us[j*3]?=some (.int .i64 ((pq[j]?.getD (0,0,[])).1:Int))∧us[j*3+1]?=some (.int .i64 ((pq[j]?.getD (0,0,[])).2.1:Int))∧us[j*3+2]?=some u∧cU base W u (pq[j]?.getD (0,0,[])).2.2
theorem mw.nil(base:Nat)(b:World):mw base b (.slice none 0 0) []:=⟨[],gq _ _ _ _,fun c a=>by simp at a⟩
theorem cU.M5{base:Nat}(j:cU base d e h)(k:d.ownsRow base 126 3 y b O):e.ownBlock=none∨e.ownBlock≠y.ownBlock:=by
 rcases j.2 with⟨rfl,_⟩|⟨r,l,m,rfl,p,i,s⟩
 ·exact .inl rfl
 ·right
  rcases k.2 with⟨rfl,_⟩|⟨o,f,g,rfl,n,a,q⟩
  ·intro c;cases c
  ·intro c
   simp only[Value.ownBlock,dx]at c;subst c;rw[i]at a;simp at a
theorem mw.below{base:Nat}(i:mw base d e s)(a:Below d.heap.size d f):mw base f e s:=by
 obtain⟨h,b,c⟩:=i;refine⟨h,dM b (gI a) (by cases i:e.ownBlock with|none=>exact .inl rfl|some p=>exact .inr (by simp)),fun n g=>?_⟩;obtain⟨o,j,k,l,m⟩:=c n g;exact⟨o,j,k,l,cU.below m a⟩
theorem Tryz.KV:(Tryz.prog.info? 126).map (fun a=>(a.zero,a.size,a.bytes))=some (some (.agg #[.int .i64 0,.int .i64 0,.slice none 0 0]),3,40):=by kernel_rfl
def mx(rs:bu)(t:List Int)(a k:Nat):Bool:=oE (rs[k]?.getD ([],[])).1 (cD t a)
def j3(rs:bu)(t:List Int)(a k:Nat):Int:=lg (lK (rs[k]?.getD ([],[])).1 (cD t a)) t (a:Int) (rs[k]?.getD ([],[])).2
def ob(rs:bu)(t:List Int)(a k:Nat):List Int:=mj (lK (rs[k]?.getD ([],[])).1 (cD t a)) t (a:Int) (rs[k]?.getD ([],[])).2
def jI(rs:bu)(t:List Int)(a:Nat):Nat->Int
 |0=>0
 |n+1=>if jI rs t a n=0 then(if mx rs t a n=true then j3 rs t a n else 0)else jI rs t a n
def jt(rs:bu)(t:List Int)(a:Nat):Nat->qi
 |0=>[]
 |n+1=>jt rs t a n++(if mx rs t a n=true then [(n,a,ob rs t a n)]else [])
def jv(rs:bu)(t:List Int):Nat->Int
 |0=>0
 |m+1=>if jv rs t m=0 then jI rs t m rs.length else jv rs t m
def iN(rs:bu)(t:List Int):Nat->qi
 |0=>[]
 |m+1=>iN rs t m++jt rs t m rs.length
def dS(rs:bu)(t:List Int):Int:=if cm rs=0 then(if Tm.err t=0 then jv rs t t.length else Tm.err t)else cm rs
def dT(rs:bu)(t:List Int):qi:=if dS rs t=0 then iN rs t t.length else []
theorem DF(d:jI r h l b≠0):∀m,b<=m->jI r h l m=jI r h l b:=by
 intro m e;induction m with
 |zero=>obtain rfl:b=0:=by omega
        rfl
 |succ m a=>
  by_cases c:b=m+1
  ·rw[c]
  ·rw[jI,aE (by rw[a (by omega)];exact d),a (by omega)]
theorem Dy(d:jv r h b≠0):∀m,b<=m->jv r h m=jv r h b:=by
 intro m e;induction m with
 |zero=>obtain rfl:b=0:=by omega
        rfl
 |succ m a=>
  by_cases c:b=m+1
  ·rw[c]
  ·rw[jv,aE (by rw[a (by omega)];exact d),a (by omega)]
theorem zq{rs:bu}{t:List Int}(f:jv rs t b=0)(h:jI rs t b l=0)(i:b<t.length)(j:l<rs.length)(g:mx rs t b l=true)(d:j3 rs t b l≠0):
 jv rs t t.length=j3 rs t b l:=by
 have a:jI rs t b (l+1)=j3 rs t b l:=by rw[jI,aD h,aD g]
 have e:jI rs t b rs.length=j3 rs t b l:=by rw[DF (by rw[a];exact d) rs.length (by omega),a]
 have c:jv rs t (b+1)=j3 rs t b l:=by rw[jv,aD f,e]
 rw[Dy (by rw[c];exact d) t.length (by omega),c]
theorem zK(a:jv r h b=0)(c:jI r h b r.length=0):jv r h (b+1)=0:=by rw[jv,aD a,c]
theorem CO{rs:bu}{t:List Int}(c:jI rs t b l=0)(a:mx rs t b l=false):jI rs t b (l+1)=0:=by rw[jI,aD c,a,aE (by decide)]
theorem AP{rs:bu}{t:List Int}(d:jI rs t b l=0)(a:mx rs t b l=true)(c:j3 rs t b l=0):jI rs t b (l+1)=0:=by rw[jI,aD d,aD a,c]
theorem CA{rs:bu}{t:List Int}{a n:Nat}(b:mx rs t a n=false):jt rs t a (n+1)=jt rs t a n:=by rw[jt,b,aE (by decide),cW]
theorem Av{rs:bu}{t:List Int}{a n:Nat}(b:mx rs t a n=true):jt rs t a (n+1)=jt rs t a n++[(n,a,ob rs t a n)]:=by rw[jt,aD b]
theorem yy(a:bu)(d:List Int)(b:Nat):∀n,(jt a d b n).length<=n:=by
 intro n;induction n with
 |zero=>simp[jt]
 |succ n c=>
  rw[jt,ai];split
  ·simp only[aI,bH];omega
  ·simp only[bH];omega
theorem yq(a:bu)(b:List Int):∀m,(iN a b m).length<=m*a.length:=by
 intro m;induction m with
 |zero=>simp[iN]
 |succ m c=>
  rw[iN,ai,Nat.succ_mul];have:=yy a b m a.length
  omega
theorem tk{t u:List Int}{a:Nat}:u.length<=(eI t a u).length:=by unfold eI;simp only[ai];omega
theorem yb(a:b<h.length):kq (b:Int) 0 ((h.length:Int)-1)=true:=by rw[td];omega
theorem Iu{t:List Int}{a:Nat}(l:Tm.err G=0)(i:Tm.err h=0)(e:Tm.err t=0)(d:a<t.length)(m:Tm.fit G (cD t a)=some K):
 lg (fH K 8) t (a:Int) h=(if 30<(eI t a (bo (fH K 8) h)).length then 2 else 0)∧
  mj (fH K 8) t (a:Int) h=(if 30<(eI t a (bo (fH K 8) h)).length then []else eI t a (bo (fH K 8) h)):=by
 have j:=sj l (fD e d) m;obtain⟨b,f⟩:=AH j i;have n:=tk (t:=t) (u:=bo (fH K 8) h) (a:=a);by_cases c:30<(bo (fH K 8) h).length
 ·rw[aD c]at b
  have g:¬(2:Int)=0:=by decide
  refine⟨?_,?_⟩
  ·unfold lg;rw[b,aE g,aD (by omega)]
  ·unfold mj;rw[b,aE g,aD (by omega)]
 ·rw[aE c]at b f
  have k:=nE (qO.of j) i (by omega);unfold lg mj;rw[b,aD rfl,aD rfl,f,uS e k (yb d),zG e k (yb d)];exact⟨rfl,rfl⟩
theorem AN{rs:bu}{k:Nat}(a:Tm.err (rs[k]?.getD ([],[])).1=0)(d:Tm.err h=0)(c:b<h.length):mx rs h b k=(Tm.fit (rs[k]?.getD ([],[])).1 (cD h b)).isSome:=by
 unfold mx oE;rw[aD (rM a (fD d c))]
theorem Cb{rs:bu}{k:Nat}{m:uC}(a:Tm.err (rs[k]?.getD ([],[])).1=0)(f:Tm.err (rs[k]?.getD ([],[])).2=0)(e:Tm.err h=0)(c:b<h.length)(d:Tm.fit (rs[k]?.getD ([],[])).1 (cD h b)=some m):
 j3 rs h b k=(if 30<(eI h b (bo (fH m 8) (rs[k]?.getD ([],[])).2)).length then 2 else 0)∧
  ob rs h b k=(if 30<(eI h b (bo (fH m 8) (rs[k]?.getD ([],[])).2)).length then []else eI h b (bo (fH m 8) (rs[k]?.getD ([],[])).2)):=by
 unfold j3 ob;rw[(BZ (rM a (fD e c)) d).2];exact Iu a f e c d
theorem uz{base:Nat}{size:Nat}(l:d.ownsRow base F size e b O){row:Option Nat}(g:∀k,row=some k->∀c p,d.heap[k]?≠some (.cells c F p)):e.ownBlock=none∨e.ownBlock≠row:=by
 rcases l.2 with⟨rfl,_⟩|⟨j,h,i,rfl,_,a,_⟩
 ·exact .inl rfl
 ·refine .inr fun f=>?_
  exact g j (by rw[<-f];rfl) _ _ a
theorem mw.grown{base:Nat}{row:Option Nat}(r:mw base d e s)(c:d.grownBy f row)(g:∀k,row=some k->∀a p,d.heap[k]?≠some (.cells a 126 p)∧d.heap[k]?≠some (.cells a 3 p)):mw base f e s:=by
 obtain⟨l,b,i⟩:=r;refine⟨l,b.kept c (uz b fun k h a p=>(g k h a p).1),fun t j=>?_⟩;obtain⟨u,n,o,q,m⟩:=i t j;exact⟨u,n,o,q,dM m c (uz m fun k h a p=>(g k h a p).2)⟩
theorem uh(g:Boxed d b F e)(c:F≠U)(f:Array Value)(h:Nat×Nat):d.heap[b]?≠some (.cells f U h):=by
 rw[show d.heap[b]?=_ from g];intro a;simp only[dx,fU]at a;exact c a.2.1
theorem mw.set{base:Nat}{v:Value}(j:mw base d v s)(c:Boxed d b F e)(f:F≠126)(g:F≠3)(h:Value):mw base (d.setCell ⟨b,0,none⟩ h) v s:=
 j.grown (uH d b h) fun k i a p=>by
  cases i;exact⟨uh c f a p,uh c g a p⟩
theorem mw.other{base:Nat}{row:Option Nat}(l:mw base d e s)(c:d.grownBy f row)(h:∀i,row=some i->∃o:Obj,d.heap[i]?=some o∧o.isCells=false):mw base f e s:=
 l.grown c fun m k j n=>by
  obtain⟨o,g,b⟩:=h m k;rw[g];refine⟨?_,?_⟩<;>(intro a;simp only[dx]at a;subst a;simp[Obj.isCells]at b)
theorem mw.mono{base:Nat}(t:mw base d e s)(g:b<=base):mw b d e s:=by
 obtain⟨m,f,k⟩:=t;refine⟨m,⟨f.1,f.2.elim .inl (fun⟨r,a,c,h,i,j⟩=>.inr ⟨r,a,c,h,aK g i,j⟩)⟩,fun u l=>?_⟩;obtain⟨v,n,o,p,q⟩:=k u l;exact⟨v,n,o,p,q.mono g⟩
theorem mw.block{base:Nat}(l:mw base d e s)(c:e.ownBlock=some b):base<=b∧∃f p,d.heap[b]?=some (.cells f 126 p):=by
 obtain⟨m,g,_⟩:=l;rcases g.2 with⟨rfl,_⟩|⟨k,i,j,rfl,h,a,_⟩
 ·cases c
 ·obtain rfl:k=b:=by simpa [Value.ownBlock]using c
  exact⟨h,_,_,a⟩
theorem mw.slice{base:Nat}(h:mw base d e s):∃g a,e=.slice g s.length a:=by
 obtain⟨i,c,_⟩:=h;rcases c.2 with⟨rfl,b⟩|⟨j,a,f,rfl,_⟩
 ·exact⟨none,0,by rw[b]⟩
 ·exact⟨_,_,rfl⟩
theorem Tryz.DK:Tryz.prog.underlying 101=some (.slice 126):=by kernel_rfl
theorem A5{rest:List Oper}(j:World)(x:H.guard=none)(Y Yc:Operand)
 (R:H.op=.call {callee:=.builtin .append,args:=#[Y,Yc],argTypes:=#[101,101]})(base:Nat)(M:Value)(a:qi)(S:z.eval Y=M)(O:mw base j M a)
 (p:Value)(L K:Nat)(Z:List Int)(q:Nat)(T:z.eval Yc=.slice (some ⟨q,0,none⟩) 1 1)(s:j.cell? ⟨q,0,none⟩=some (.int .i64 (L:Int)))(t:j.cell? ⟨q,1,none⟩=some (.int .i64 (K:Int)))(u:j.cell? ⟨q,2,none⟩=some p)(B:cU base j p Z)(Q:a.length<=1000000)(k:base<=j.heap.size)
 (Yd:∀i w',mw base w' i (a++[(L,K,Z)])->j.grownBy w' M.ownBlock->(∃g r,i=.slice (some ⟨g,0,none⟩) (a.length+1) r)->wpListIn A b Tryz.prog w E rest (z.put H.dst i) w'):wpListIn A b Tryz.prog w E (H::rest) z j:=by
 obtain⟨U,P,F,G,I⟩:=fh Tryz.KV;obtain⟨o,m,N⟩:=O;have C:o.length=a.length*3:=m.1;refine rC j x Y Yc 101 R base 126 U (.agg #[.int .i64 0,.int .i64 0,.slice none 0 0]) 3 40 Tryz.DK P F G I rfl (by decide) M a.length o S m ⟨q,0,none⟩ 1 1 [.int .i64 (L:Int),.int .i64 (K:Int),p] T (by simp)
  (by intro J Ye c
      match J,c with
      |0,c=>simp at c;subst c;rw[cz];simpa using s
      |1,c=>simp at c;subst c;rw[cz];simpa using t
      |2,c=>simp at c;subst c;rw[cz];simpa using u)
  (by intro Ye D;simp at D;obtain⟨_,_,rfl,_⟩:=cU.ints B;rcases D with rfl|rfl|rfl<;>rfl) (by unfold maxLen;omega) (by omega) k ?_
 intro i w' h v _;have e:∀(f:Value)(n:List Int),cU base j f n->cU base w' f n:=fun f n d=>dM d v (cU.M5 d m)
 refine Yd i w' ⟨o++[.int .i64 (L:Int),.int .i64 (K:Int),p],by simpa using h,fun J c=>?_⟩ v (jy h);by_cases l:J<a.length
 ·obtain⟨f,V,W,X,d⟩:=N J l
  rw[aV l,aV (by omega),aV (by omega),aV (by omega)];exact⟨f,V,W,X,e f _ d⟩
 ·have y:J=a.length:=by simp at c;omega
  subst y;rw[aU (af _),aU (by omega),aU (by omega),aU (by omega),C];refine⟨p,by simp,by simp,by simp,?_⟩;simpa using e p Z B
def ll(base:Nat)(W:World)(v:Value)(ps:bg):Prop:=
 ∃us:List Value,W.ownsRow base 79 2 v ps.length us∧∀j,j<ps.length->∃u u',us[j*2]?=some u∧us[j*2+1]?=some u'∧cU base W u (ps[j]?.getD ([],[])).1∧cU base W u' (ps[j]?.getD ([],[])).2
theorem ll.nil(base:Nat)(b:World):ll base b (.slice none 0 0) []:=⟨[],gq _ _ _ _,fun c a=>by simp at a⟩
theorem cU.MD{base:Nat}(j:cU base d e h)(k:d.ownsRow base 79 2 y b O):e.ownBlock=none∨e.ownBlock≠y.ownBlock:=by
 rcases j.2 with⟨rfl,_⟩|⟨r,l,m,rfl,p,i,s⟩
 ·exact .inl rfl
 ·right
  rcases k.2 with⟨rfl,_⟩|⟨o,f,g,rfl,n,a,q⟩
  ·intro c;cases c
  ·intro c
   simp only[Value.ownBlock,dx]at c;subst c;rw[i]at a;simp at a
theorem ll.below{base:Nat}(j:ll base d e q)(a:Below d.heap.size d f):ll base f e q:=by
 obtain⟨i,b,c⟩:=j;refine⟨i,dM b (gI a) (by cases j:e.ownBlock with|none=>exact .inl rfl|some r=>exact .inr (by simp)),fun o g=>?_⟩;obtain⟨p,h,k,l,m,n⟩:=c o g;exact⟨p,h,k,l,cU.below m a,cU.below n a⟩
theorem ll.grown{base:Nat}{row:Option Nat}(t:ll base d e q)(b:d.grownBy f row)(c:∀k,row=some k->∀a p,d.heap[k]?≠some (.cells a 79 p)∧d.heap[k]?≠some (.cells a 3 p)):ll base f e q:=by
 obtain⟨m,h,i⟩:=t;refine⟨m,h.kept b (uz h fun k g a p=>(c k g a p).1),fun u j=>?_⟩;obtain⟨v,l,r,s,n,o⟩:=i u j;exact⟨v,l,r,s,dM n b (uz n fun k g a p=>(c k g a p).2),dM o b (uz o fun k g a p=>(c k g a p).2)⟩
theorem ll.set{base:Nat}{v:Value}(i:ll base d v q){x:Value}(c:Boxed d b F x)(e:F≠79)(f:F≠3)(g:Value):ll base (d.setCell ⟨b,0,none⟩ g) v q:=
 i.grown (uH d b g) fun j h a p=>by
  cases h;exact⟨uh c e a p,uh c f a p⟩
theorem ll.other{base:Nat}{row:Option Nat}(l:ll base d e q)(c:d.grownBy f row)(h:∀i,row=some i->∃o:Obj,d.heap[i]?=some o∧o.isCells=false):ll base f e q:=
 l.grown c fun m k j n=>by
  obtain⟨o,g,b⟩:=h m k;rw[g];refine⟨?_,?_⟩<;>(intro a;simp only[dx]at a;subst a;simp[Obj.isCells]at b)
theorem ll.mono{base:Nat}(u:ll base d e q)(a:b<=base):ll b d e q:=by
 obtain⟨n,g,k⟩:=u;refine⟨n,⟨g.1,g.2.elim .inl (fun⟨t,c,f,h,i,j⟩=>.inr ⟨t,c,f,h,aK a i,j⟩)⟩,fun v l=>?_⟩;obtain⟨w,m,o,p,r,s⟩:=k v l;exact⟨w,m,o,p,r.mono a,s.mono a⟩
theorem ll.block{base:Nat}(l:ll base d e q)(c:e.ownBlock=some b):base<=b∧∃f p,d.heap[b]?=some (.cells f 79 p):=by
 obtain⟨m,g,_⟩:=l;rcases g.2 with⟨rfl,_⟩|⟨k,i,j,rfl,h,a,_⟩
 ·cases c
 ·obtain rfl:k=b:=by simpa [Value.ownBlock]using c
  exact⟨h,_,_,a⟩
theorem ll.slice{base:Nat}(h:ll base d e q):∃g a,e=.slice g q.length a:=by
 obtain⟨i,c,_⟩:=h;rcases c.2 with⟨rfl,b⟩|⟨j,a,f,rfl,_⟩
 ·exact⟨none,0,by rw[b]⟩
 ·exact⟨_,_,rfl⟩
theorem ll.at{base:Nat}{v:Value}(G:ll base d v q):∃C a,v=.slice C q.length a∧dw d.heap.size d C q∧q.length<=a∧a<=maxLen:=by
 obtain⟨B,b,m⟩:=G;have I:B.length=q.length*2:=b.1;rcases b.2 with⟨rfl,o⟩|⟨F,a,D,rfl,H,e,z,A,_⟩
 ·refine⟨none,0,by rw[o],fun E f=>by omega,by omega,by omega⟩
 ·refine⟨_,a,rfl,fun J n=>?_,z,A⟩
  obtain⟨L,K,x,y,u,w⟩:=m J n;obtain⟨i,k,rfl,p,s,g⟩:=cU.ints u;obtain⟨j,l,rfl,r,t,h⟩:=cU.ints w;have c:=fun E f=>dI b E f
  exact⟨F,0,rfl,(ak.1 e).1,i,k,j,l,by rw[cI,c _ (by omega),x],by rw[cI,c _ (by omega),y],p,r,s,g,t,h⟩
theorem Tryz.rT:Tryz.prog.underlying 30=some (.slice 79):=by kernel_rfl
theorem Bc{rest:List Oper}(h:World)(x:H.guard=none)(Z Yd:Operand)
 (R:H.op=.call {callee:=.builtin .append,args:=#[Z,Yd],argTypes:=#[30,30]})(base:Nat)(M:Value)(d:bg)(S:z.eval Z=M)(O:ll base h M d)
 (r u2:Value)(Yc o:List Int)(L:Nat)(T:z.eval Yd=.slice (some ⟨L,0,none⟩) 1 1)(t:h.cell? ⟨L,0,none⟩=some r)(u:h.cell? ⟨L,1,none⟩=some u2)(B:cU base h r Yc)(l:cU base h u2 o)(Q:d.length<=1000000)(i:base<=h.heap.size)
 (Yf:∀f w',ll base w' f (d++[(Yc,o)])->h.grownBy w' M.ownBlock->(∃g s,f=.slice (some ⟨g,0,none⟩) (d.length+1) s)->wpListIn A b Tryz.prog w E rest (z.put H.dst f) w'):wpListIn A b Tryz.prog w E (H::rest) z h:=by
 obtain⟨U,P,F,G,I⟩:=fh Tryz.uK;obtain⟨q,m,N⟩:=O;have C:q.length=d.length*2:=m.1;refine rC h x Z Yd 30 R base 79 U (.agg #[.slice none 0 0,.slice none 0 0]) 2 48 Tryz.rT P F G I rfl (by decide) M d.length q S m ⟨L,0,none⟩ 1 1 [r,u2] T (by simp)
  (by intro J Yg c
      match J,c with
      |0,c=>simp at c;subst c;rw[cz];simpa using t
      |1,c=>simp at c;subst c;rw[cz];simpa using u)
  (by intro Yg D;simp at D;obtain⟨_,_,rfl,_⟩:=cU.ints B;obtain⟨_,_,rfl,_⟩:=cU.ints l;rcases D with rfl|rfl<;>rfl) (by unfold maxLen;omega) (by omega) i ?_
 intro f w' e v _;have a:∀(p:Value)(n:List Int),cU base h p n->cU base w' p n:=fun p n j=>dM j v (cU.MD j m)
 refine Yf f w' ⟨q++[r,u2],by simpa using e,fun J c=>?_⟩ v (jy e);by_cases k:J<d.length
 ·obtain⟨Ye,K,X,Y,V,W⟩:=N J k
  rw[aV k,aV (by omega),aV (by omega)];exact⟨Ye,K,X,Y,a Ye _ V,a K _ W⟩
 ·have y:J=d.length:=by simp at c;omega
  subst y;rw[aU (af _),aU (by omega),aU (by omega),C];refine⟨r,u2,by simp,by simp,?_,?_⟩
  ·simpa using a r Yc B
  ·simpa using a u2 o l
section
attribute [local go_sem] Oper.semAt_some
theorem Cr(h:Fence)(hF:Pl h)(l:Nat)(i:Option Addr)(c a:Nat)(f:World):
 CallsIn h l Tryz.prog 142 #[.slice i c a] f fun k g=>k=.returned (.func (.func 172) #[] #[.pointer (some ⟨f.heap.size,0,none⟩)])∧
  g=f.alloc (.cells #[.slice i c a] 68):=by
 obtain⟨d,b,j⟩:=oG hF;have e:=b _ _ Tryz.func142;clear hF b;refine fE Tryz.func142 rfl e ?_ d;simp only[Tryz.ntmps142,cY,aI,bH,Nat.reduceAdd,Nat.reduceSub,bM,bQ,cE,bY,bV,bc];gi_wp2
 go_ret;exact⟨rfl,rfl⟩
def OE(zs:List Int)(i:Nat):Array Value:=#[.int .i64 (i:Int),.int .i64 (Tm.dn zs i:Int)]
def NA(Bt cap:Nat)(a:Option Addr)(zs:List Int)(W:World):Prop:=W.cell? ⟨Bt,0,none⟩=some (.slice a zs.length cap)∧cZ W.heap.size W a zs
theorem zD(A:Fence)(hF:Pl A)(z p h:Nat)(S:Option Addr)(a:List Int)(n:a.length<=5000):
 CD A z Tryz.prog 172 #[.pointer (some ⟨p,0,none⟩)] (OE a) a.length (NA p h S a):=by
 intro Z R F E G L c u q;obtain⟨x,k,j⟩:=oG hF;have B:=hid (fun z Yc G I J=>yX A hF a n S h _ Yc z (af _) I G J);clear hF;have m:=k _ _ Tryz.func172;have O:=k _ _ Tryz.func148;obtain⟨T,_⟩:=c 0 G q;have U:(a.length:Int)<=5000:=by omega
 have D:=hid u;have C:=hid c;clear u c;refine fE Tryz.func172 rfl m ?_ x;simp only[Tryz.ntmps172,cY,aI,bH,Nat.reduceAdd,Nat.reduceSub,bM,bQ,cE,bY,bV,bc];gi_wp2
 gi_loopw [6](fun P wr=>∃b:Nat,b<=a.length∧P=.int .i64 (b:Int)∧R b wr)(fun P _=>a.length-(intOf P).toNat)
 case atStart=>exact⟨0,bf _,rfl,q⟩
 case round=>
  obtain⟨b,X,rfl,e⟩:=hrel;obtain⟨M,r⟩:=C.out b wr e;by_cases v:b<a.length
  ·have o:(b:Int)<(a.length:Int):=by omega
   have i:=(B.out (z-1) b wr (by omega) r).mono (R':=fun d f=>d=.returned (.int .i64 (Tm.dn a b:Int))∧YieldAt A (z-1) Tryz.prog Z #[.int .i64 (b:Int),.int .i64 (Tm.dn a b:Int)] f fun d l=>
    (d=.returned (.bool true)∧R (b+1) l)∨(d=.returned (.bool false)∧F l)∨∃g,d=.panicked g∧E g l)
    (fun d f⟨N,K⟩=>⟨N,by
      have s:=L _ _ _ none e (gI K) (fun Yd d=>by cases d);refine vx (D.out b f s v) fun d H W=>?_
      exact W⟩)
   gi_wp2_with(first
    |((try refine⟨j _,?_⟩);gi_at_call 148;refine i.mono ?_;clear i;rintro d f⟨rfl,V,Q,assign,body,Y,c⟩)
    |((try refine⟨j _,?_⟩);refine c.mono ?_;clear c;rintro d H(⟨rfl,t⟩|⟨rfl,y⟩|⟨g,rfl,w⟩)))
   ·exact⟨⟨b+1,by omega,by go_num,t⟩,by simp[intOf];omega⟩
   ·refine fI (mb rfl _ _ _) rfl ?_
    exact .inl ⟨⟨_,rfl⟩,.inr y⟩
   ·exact⟨rfl,.inr ⟨g,rfl,w⟩⟩
  ·obtain rfl:b=a.length:=by omega
   have o:¬(a.length:Int)<(a.length:Int):=by omega
   gi_wp2
   go_end0
   exact .inl ⟨⟨_,rfl⟩,.inl e⟩
end
theorem vt(i:P.results=#[.cell b 101,.cell l 22])(e:I.getD b undef=.pointer (some ⟨L,0,none⟩))(f:I.getD l undef=.pointer (some ⟨M,0,none⟩))
 (g:d.cell? ⟨L,0,none⟩=some (.slice Q R S))(h:d.cell? ⟨M,0,none⟩=some (.int .i64 T)):(results P I).run Tryz.prog d=.ok (.tuple #[.slice Q R S,.int .i64 T]) d:=by
 have a:I[b]?.getD undef=.pointer (some ⟨L,0,none⟩):=by rw[<-e];simp
 have c:I[l]?.getD undef=.pointer (some ⟨M,0,none⟩):=by rw[<-f];simp
 simp only[results,i];simp[go_sem,a,c,g,h]
structure zo(w2:World)(B:Nat)(tv:Value)(l:qi)(W:World):Prop where
 out:∃v,Boxed W B 101 v∧mw B W v l
 bP:Boxed W (B+1) 68 tv
 kp:Below B w2 W
theorem zo.own{row:Option Nat}(p:b<=d.heap.size)(q:b<=l)(n:zo d b e s f)(a:f.grownBy B row)(c:∀g,row=some g->l<=g∧∃o:Obj,f.heap[g]?=some o∧o.isCells=false):zo d b e s B:=by
 obtain⟨⟨r,k,i⟩,bP,kp⟩:=n;exact⟨⟨r,gX k a c,i.other a (fun g h=>(c g h).2)⟩,gX bP a c,⟨a.os.trans kp.os,a.tape.trans kp.tape,a.output.trans kp.output,aK kp.size a.size,fun m j=>(a.block m (by have:=kp.size;omega) (fun h=>by have:=(c m h.symm).1;omega)).trans (kp.block m j)⟩⟩
theorem zo.below(g:b<=d.heap.size)(i:zo d b e s f)(a:Below f.heap.size f B):zo d b e s B:=by
 obtain⟨⟨j,c,h⟩,bP,kp⟩:=i;exact⟨⟨j,(a.block _ c.lt).trans c,h.below a⟩,(a.block _ bP.lt).trans bP,kp.trans (a.mono (aK g kp.size))⟩
theorem ju(a:Below d.heap.size d f):KeepsFrom b d f:=⟨a.size,fun e _ _ c _=>(a.block e (ak.1 c).1).trans c⟩
theorem LL{C:Nat}(w:b<=B.heap.size)(q:Boxed d b 101 y)(j:mw b d y s)(k:Boxed d (b+1) 68 N)(r:Below b B d)(n:mw b f e (s++[V]))(c:(d.alloc D).grownBy f y.ownBlock):
 Boxed f b 101 y∧zo B b N (s++[V]) (f.setCell ⟨b,0,none⟩ e)∧KeepsFrom C d (f.setCell ⟨b,0,none⟩ e):=by
 have m:b<=d.heap.size:=aK w r.size;have g:∀{E:Nat}{F:TypeId}{G:Value},Boxed d E F G->F≠126->some E≠y.ownBlock:=fun x z u=>by
  obtain⟨_,h,p,t⟩:=j.block u.symm;exact uh x z h p t
 have a:Boxed f b 101 y:=(q.alloc D).kept c (g q (by decide));have l:Boxed f (b+1) 68 N:=(k.alloc D).kept c (g k (by decide));refine⟨a,⟨⟨e,a.set e,n.set a (by decide) (by decide) e⟩,(aT f ⟨b,0,none⟩ e (b+1) (by show b+1≠b;omega)).trans l,r.trans ?_⟩,?_⟩
 ·refine(((ah b d).alloc m D).grown c (by simp;omega) fun A i=>(j.block i).1).setCell (p:=⟨b,0,none⟩) (af _) e
 ·refine uI (((KeepsOthers.alloc d D).trans (qc c fun A H i o=>?_)).trans (dO _ _ _)) C
  obtain⟨_,h,p,t⟩:=j.block i;have v:(d.alloc D).heap[A]?=some (.cells h 126 p):=(cM d D A (ak.1 t).1).trans t;rw[v]at o;cases o;rfl
def gH(L:List Int)(i j:Int)(m:Nat):Bool:=decide (L[m]?.getD 0<0)||(decide (m=0)&&decide (i=j))
theorem NN(d:List Int)(m:Option Addr)(r:Nat)(h i:Int)(c:Nat)(l j k:Nat)(g:World)(t:c<d.length)(n:cZ g.heap.size g m d)(D:g.cell? ⟨l,0,none⟩=some (.slice m d.length r))(B:g.cell? ⟨j,0,none⟩=some (.int .i64 h))(C:g.cell? ⟨k,0,none⟩=some (.int .i64 i)):
 Calls Tryz.prog 179 #[.int .i64 (c:Int),.pointer (some ⟨l,0,none⟩),.pointer (some ⟨j,0,none⟩),.pointer (some ⟨k,0,none⟩)] g fun A u=>A=.returned (.bool (gH d h i c))∧u=g:=by
 obtain⟨F,y,rfl,E,o⟩:=n.at (by omega);have p:=o c t;have w:(c:Int)<(d.length:Int):=by omega
 have e:Hid (gH d h i c=(decide (d[c]?.getD 0<0)||(decide (c=0)&&decide (h=i)))):=rfl;clear o n;generalize d[c]?.getD 0=z at*;by_cases q:z<0
 ·go_enter Tryz.func179,Tryz.ntmps179
  go_wp2;go_ret;exact⟨by rw[e.out];simp[q],rfl⟩
 ·have b:decide (z<0)=false:=by simpa using q
  by_cases f:c=0
  ·subst f
   rw[gp]at p;have x:(0:Int)<(d.length:Int):=by omega
   by_cases a:h=i
   ·subst a
    go_enter Tryz.func179,Tryz.ntmps179;go_wp2;go_ret;exact⟨by rw[e.out];simp[b],rfl⟩
   ·have s:(h==i)=false:=by simpa using a
    go_enter Tryz.func179,Tryz.ntmps179;go_wp2;go_ret;exact⟨by rw[e.out];simp[b,a],rfl⟩
  ·have v:((c:Int)==0)=false:=by simpa using f
   go_enter Tryz.func179,Tryz.ntmps179;go_wp2;go_ret;exact⟨by rw[e.out];simp[b,f],rfl⟩
theorem zf(i:P.results=#[.cell b 30,.cell l 22])(e:I.getD b undef=.pointer (some ⟨L,0,none⟩))(f:I.getD l undef=.pointer (some ⟨M,0,none⟩))
 (g:d.cell? ⟨L,0,none⟩=some (.slice Q R S))(h:d.cell? ⟨M,0,none⟩=some (.int .i64 T)):(results P I).run Tryz.prog d=.ok (.tuple #[.slice Q R S,.int .i64 T]) d:=by
 have a:I[b]?.getD undef=.pointer (some ⟨L,0,none⟩):=by rw[<-e];simp
 have c:I[l]?.getD undef=.pointer (some ⟨M,0,none⟩):=by rw[<-f];simp
 simp only[results,i];simp[go_sem,a,c,g,h]
structure ET(w2:World)(B:Nat)(tv:Value)(l:bg)(W:World):Prop where
 out:∃v,Boxed W B 30 v∧ll B W v l
 bP:Boxed W (B+1) 68 tv
 kp:Below B w2 W
theorem ET.own{row:Option Nat}(p:b<=d.heap.size)(r:b<=l)(n:ET d b e q f)(a:f.grownBy B row)(c:∀g,row=some g->l<=g∧∃o:Obj,f.heap[g]?=some o∧o.isCells=false):ET d b e q B:=by
 obtain⟨⟨s,k,i⟩,bP,kp⟩:=n;exact⟨⟨s,gX k a c,i.other a (fun g h=>(c g h).2)⟩,gX bP a c,⟨a.os.trans kp.os,a.tape.trans kp.tape,a.output.trans kp.output,aK kp.size a.size,fun m j=>(a.block m (by have:=kp.size;omega) (fun h=>by have:=(c m h.symm).1;omega)).trans (kp.block m j)⟩⟩
theorem ET.below(g:b<=d.heap.size)(i:ET d b e q f)(a:Below f.heap.size f B):ET d b e q B:=by
 obtain⟨⟨j,c,h⟩,bP,kp⟩:=i;exact⟨⟨j,(a.block _ c.lt).trans c,h.below a⟩,(a.block _ bP.lt).trans bP,kp.trans (a.mono (aK g kp.size))⟩
theorem Oq{C:Nat}(w:b<=B.heap.size)(r:Boxed d b 30 y)(j:ll b d y q)(k:Boxed d (b+1) 68 N)(s:Below b B d)(n:ll b f e (q++[W]))(c:(d.alloc D).grownBy f y.ownBlock):
 Boxed f b 30 y∧ET B b N (q++[W]) (f.setCell ⟨b,0,none⟩ e)∧KeepsFrom C d (f.setCell ⟨b,0,none⟩ e):=by
 have m:b<=d.heap.size:=aK w s.size;have g:∀{E:Nat}{F:TypeId}{G:Value},Boxed d E F G->F≠79->some E≠y.ownBlock:=fun x z u=>by
  obtain⟨_,h,p,t⟩:=j.block u.symm;exact uh x z h p t
 have a:Boxed f b 30 y:=(r.alloc D).kept c (g r (by decide));have l:Boxed f (b+1) 68 N:=(k.alloc D).kept c (g k (by decide));refine⟨a,⟨⟨e,a.set e,n.set a (by decide) (by decide) e⟩,(aT f ⟨b,0,none⟩ e (b+1) (by show b+1≠b;omega)).trans l,s.trans ?_⟩,?_⟩
 ·refine(((ah b d).alloc m D).grown c (by simp;omega) fun A i=>(j.block i).1).setCell (p:=⟨b,0,none⟩) (af _) e
 ·refine uI (((KeepsOthers.alloc d D).trans (qc c fun A H i o=>?_)).trans (dO _ _ _)) C
  obtain⟨_,h,p,t⟩:=j.block i;have v:(d.alloc D).heap[A]?=some (.cells h 79 p):=(cM d D A (ak.1 t).1).trans t;rw[v]at o;cases o;rfl
inductive gl(L1 R1 L2 R2:List Int)(pass:Nat->Bool):Nat->bg->Prop
 |zero:gl L1 R1 L2 R2 pass 0 []
 |pass{m:Nat}{l:bg}:gl L1 R1 L2 R2 pass m l->pass m=true->gl L1 R1 L2 R2 pass (m+1) l
 |no{m:Nat}{l:bg}{val:List (List Int)}:gl L1 R1 L2 R2 pass m l->pass m=false->fs [(cD L1 m,L2)] 0 false val->gl L1 R1 L2 R2 pass (m+1) l
 |yes{m:Nat}{l:bg}{val:List (List Int)}:gl L1 R1 L2 R2 pass m l->pass m=false->fs [(cD L1 m,L2)] 0 true val->gA val L1 R1 (m:Int) R2=0->gl L1 R1 L2 R2 pass (m+1) (l++[gY val L1 R1 (m:Int) R2])
theorem gl.len{pass:Nat->Bool}(c:gl h G Y Z pass b q):q.length<=b:=by
 induction c with
 |zero=>exact af _
 |pass _ _ a=>omega
 |no _ _ _ a=>omega
 |yes _ _ _ _ a=>rw[ai];simp;omega
def sl(L1 R1 L2 R2:List Int)(pass:Nat->Bool)(e:Int):Prop:=e≠0∧∃m l,m<L1.length∧gl L1 R1 L2 R2 pass m l∧pass m=false∧((∃is val,fs [(cD L1 m,L2)] e is val)∨(∃val,fs [(cD L1 m,L2)] 0 true val∧gA val L1 R1 (m:Int) R2=e))
def kr(L1 R1 L2 R2:List Int)(pass:Nat->Bool)(e:Int)(ps:bg):Prop:=(e=0∧gl L1 R1 L2 R2 pass L1.length ps)∨(sl L1 R1 L2 R2 pass e∧ps=[])
theorem Jv{next:Act->World->Prop}(c:∀z p,next z p->X z p)(k:Result Next)(e:H.uponIn A b J z next E k):H.uponIn (A.inRound l) b J z X E k:=by
 cases k with
 |ok n h=>
  cases n with
  |value m=>exact c _ _ e
  |skip=>exact c _ _ e
  |defer r=>exact c _ _ e
  |enter o d=>
   refine⟨e.1,(eS l e.2).mono fun i f a=>?_⟩;cases i with
   |returned m=>exact c _ _ a
   |panicked q=>exact a
   |outgrown=>exact a
  |row row d=>exact⟨e.1,RowsIn.mono (show RowsIn (A.inRound l) (b-1) J row d h _ from e.2) fun m f a=>c _ _ a⟩
  |round j o g assign body=>
   refine⟨e.1,RoundIn.mono (show RoundIn (A.inRound l) (b-1) J j o g assign body h _ from e.2) fun i f a=>?_⟩;cases i with
   |returned m=>exact c _ _ a
   |panicked q=>exact a
   |outgrown=>exact a
  |_=>exact e
 |halt n h=>cases n<;>exact e
theorem L9(k:A.round=none)(i:∀(j:Nat)(o:Oper)(c:Call),w[j]?=some o->o.op≠.defer c):
 ∀(a:List Nat)(g:Act)(n:World),wpOpsIn A l J w E a g n->wpOpsIn (A.inRound b) l J w E a g n:=by
 intro a;induction a with
 |nil=>exact fun _ _ d=>d
 |cons p rest f=>
  intro g n d;unfold wpOpsIn at d⊢;cases e:w[p]? with
  |none=>rw[e]at d;exact f g n d
  |some o=>
   rw[e]at d;by_cases m:Region.wanted o (yielded w g.tmps)=true
   ·simp only[m,xC]at d⊢
    refine⟨d.1,?_⟩;have h:=d.2;rw[k,Oper.semAt_none]at h;rw[show(A.inRound b).round=some b from rfl,Oper.semAt_some b _ _ (fun c=>i p o c e)];exact Jv f _ h
   ·simp only[m]at d⊢
    exact⟨d.1,f _ _ d.2⟩
def EH(ops:Array Oper):Bool:=ops.all fun o=>match o.op with|.defer _=>false|_=>true
theorem EN(b:EH w=true):∀(j:Nat)(o:Oper)(c:Call),w[j]?=some o->o.op≠.defer c:=by
 intro j o c d f;unfold EH at b;rw[Array.all_eq_true]at b;obtain⟨a,e⟩:=ak.1 d;have:=b j a
 rw[e,f]at this;simp at this
theorem ni{id:Nat}(c:A.round=none)(a:EH w=true)(e:J.follows .mixedOrders=true)
 (f:wpAnyIn A b J .any w E w.size (Array.replicate w.size false) z d.drew):(Code.region id w true).wpIn (A.inRound l) b J E z d:=
 wpIn_region_draw fun g=>by
  simp only[Region.schedule,e,Bool.true_or,xC];exact L9 c (EN a) _ _ _ (wpAnyIn_sound w.size g _ z _ f)
section
attribute [local go_sem] Oper.semAt_some
attribute [local go_sem ↓] Go.wp_at_zero Go.wp_at_succ
structure QI(L1 R1 L2 R2:List Int)(pass:Nat->Bool)(w2:World)(B:Nat)(tv:Value)(m:Nat)(W:World):Prop where
 inv:∃l,gl L1 R1 L2 R2 pass m l∧ET w2 B tv l W
structure QD(L1 R1 L2 R2:List Int)(pass:Nat->Bool)(w:World)(n:Nat)(c:Code)(W:World):Prop where
 ret:c=.ret
 kp:Below n w W
 bad:∃er,sl L1 R1 L2 R2 pass er∧Boxed W (n+1+1+1) 30 (.slice none 0 0)∧Boxed W (n+1+1+1+1) 22 (.int .i64 er)
theorem Kf(b a:World)(c d e f h:Value)(i:((((b.alloc (.cells #[c,d] 70)).alloc (.cells #[e,f] 70)).alloc (.cells #[h] 166)).alloc (.cells #[.slice none 0 0] 30)).alloc (.cells #[.int .i64 0] 22)=a):
 Below b.heap.size b a∧eT a b.heap.size 70 c d∧eT a (b.heap.size+1) 70 e f∧Boxed a (b.heap.size+1+1) 166 h∧Boxed a (b.heap.size+1+1+1) 30 (.slice none 0 0)∧Boxed a (b.heap.size+1+1+1+1) 22 (.int .i64 0)∧a.heap.size=b.heap.size+1+1+1+1+1:=by
 subst i;refine⟨(((((ah _ b).alloc (af _) _).alloc (by simp) _).alloc (by simp;omega) _).alloc (by simp;omega) _).alloc (by simp;omega) _,((((eT.new b _ _ _).alloc _).alloc _).alloc _).alloc _,?_,?_,?_,?_,by simp⟩
 ·have g:=eT.new (b.alloc (.cells #[c,d] 70)) 70 e f
  rw[bI]at g;exact((g.alloc _).alloc _).alloc _
 ·have g:=dt ((b.alloc (.cells #[c,d] 70)).alloc (.cells #[e,f] 70)) 166 h
  simp only[bI]at g;exact(g.alloc _).alloc _
 ·have g:=dt (((b.alloc (.cells #[c,d] 70)).alloc (.cells #[e,f] 70)).alloc (.cells #[h] 166)) 30 (.slice none 0 0)
  simp only[bI]at g;exact g.alloc _
 ·have g:=dt ((((b.alloc (.cells #[c,d] 70)).alloc (.cells #[e,f] 70)).alloc (.cells #[h] 166)).alloc (.cells #[.slice none 0 0] 30)) 22 (.int .i64 0)
  simpa only[bI]using g
theorem Oj(c m w o:List Int)(r Yp X Yq:Option Addr)(d Yy O Yz:Nat)(i YM:Int)(Yh Yf Yg:Nat)(b:World)(Zi:Tm.err c=0)(Zu:cZ b.heap.size b r c)(Zw:cZ b.heap.size b Yp m)(Zv:cZ b.heap.size b X w)(Zx:cZ b.heap.size b Yq o)(ZO:c.length<=d)(aU:d<=maxLen)(aV:w.length<=O)(aW:O<=maxLen)
 (ZK:b.cell? ⟨Yh,0,none⟩=some (.slice r c.length d))(ZI:b.cell? ⟨Yf,0,none⟩=some (.int .i64 i))(ZJ:b.cell? ⟨Yg,0,none⟩=some (.int .i64 YM)):
 Calls Tryz.prog 180 #[.agg #[.slice r c.length d,.slice Yp m.length Yy],.agg #[.slice X w.length O,.slice Yq o.length Yz],.func (.func 179) #[] #[.pointer (some ⟨Yh,0,none⟩),.pointer (some ⟨Yf,0,none⟩),.pointer (some ⟨Yg,0,none⟩)]] b fun Yc ZS=>∃j ps v,kr c m w o (gH c i YM) j ps∧Yc=.returned (.tuple #[v,.int .i64 j])∧ll b.heap.size ZS v ps∧Below b.heap.size b ZS:=by
 obtain⟨ZT,hF⟩:∃ZT,ZT=Fence.wide:=⟨_,rfl⟩;refine(gx (n:=3)).1 ?_;rw[<-hF];obtain⟨e,T,S,YC⟩:=jk hF;have Zn:Hid (Pl ZT):=by rw[hF];exact nj
 have bu:=hid hF;clear hF;have ai:=T 180;have bl:=T 142;have aj:=T 172;have bm:=T 201;have bn:=T 202;have bo:=T 179;clear T;have br:=cK Zi;have ZQ:=dU Zi;have aZ:=fx ZK;have aX:=fx ZI;have aY:=fx ZJ;obtain⟨q,Y6⟩:∃q,((((b.alloc (.cells #[.slice r c.length d,.slice Yp m.length Yy] 70)).alloc (.cells #[.slice X w.length O,.slice Yq o.length Yz] 70)).alloc (.cells #[.func (.func 179) #[] #[.pointer (some ⟨Yh,0,none⟩),.pointer (some ⟨Yf,0,none⟩),.pointer (some ⟨Yg,0,none⟩)]] 166)).alloc (.cells #[.slice none 0 0] 30)).alloc (.cells #[.int .i64 0] 22)=q:=⟨_,rfl⟩;obtain⟨ad,YZ,Zr,aG,Z3,Zq,YH⟩:=Kf b q _ _ _ _ _ Y6;have Zo:=hid Y6;clear Y6;have a6:(q.alloc (.cells #[.slice none 0 0] 30)).cell? ⟨b.heap.size,0,none⟩=some (.slice r c.length d):=(YZ.alloc _).cell0;refine eE Tryz.func180 rfl ai ?_ e;simp only[Tryz.ntmps180,cY,aI,bH,Nat.reduceAdd,Nat.reduceSub,bM,bQ,cE,bY,bV,bc];gi_wp2_with fail
 rw[Zo.out];gi_wp2_with(first
  |((try refine⟨S _,?_⟩);gi_at_call 142;refine(Cr ZT Zn.out _ _ _ _ _).mono ?_;rintro Yc ZS⟨rfl,rfl⟩))
 have P:Below q.heap.size q ((q.alloc (.cells #[.slice none 0 0] 30)).alloc (.cells #[.slice r c.length d] 68)):=((ah _ q).alloc (af _) _).alloc (by simp) _;have ZG:=(dt q 30 (.slice none 0 0)).alloc (.cells #[.slice r c.length d] 68);have Zh:=dt (q.alloc (.cells #[.slice none 0 0] 30)) 68 (.slice r c.length d);rw[bI]at Zh;rw[YH]at ZG Zh P;have Z0:QI c m w o (gH c i YM) q (b.heap.size+1+1+1+1+1) (.slice r c.length d) 0 ((q.alloc (.cells #[.slice none 0 0] 30)).alloc (.cells #[.slice r c.length d] 68)):=⟨⟨[],.zero,⟨⟨_,ZG,ll.nil _ _⟩,Zh,P⟩⟩⟩;have Zc:((q.alloc (.cells #[.slice none 0 0] 30)).alloc (.cells #[.slice r c.length d] 68)).heap.size=b.heap.size+1+1+1+1+1+1+1:=by simp[YH]
 obtain⟨Zg,Zy⟩:∃Zg,(q.alloc (.cells #[.slice none 0 0] 30)).alloc (.cells #[.slice r c.length d] 68)=Zg:=⟨_,rfl⟩;rw[Zy]at Z0 Zc⊢;have Yn:=hid Zu;have ZW:=hid Zw;have ZV:=hid Zv;have ZX:=hid Zx;have az:(c.length:Int)<=30:=by omega
 have a7:=hid YH;have aC:=hid ZK;have aA:=hid ZI;have aB:=hid ZJ;have YO:=hid ad;have U:b.heap.size+1+1+1+1+1<=q.heap.size:=by omega
 clear Zy ZG Zh P a6 Zu Zw Zv Zx ZK ZI ZJ YH Zo;refine jf e (by omega) (gf:=172) (lb:=#[.pointer (some ⟨b.heap.size+1+1+1+1+1+1,0,none⟩)]) rfl aj (iW Tryz.func172 (by kernel_rfl) rfl)
  (zD ZT Zn.out _ (b.heap.size+1+1+1+1+1+1) d r c (by omega)) (fun _=>rfl)
  (QI c m w o (gH c i YM) q (b.heap.size+1+1+1+1+1) (.slice r c.length d)) (QD c m w o (gH c i YM) b b.heap.size) (fun _ _=>False) (.inl fun _ _ h=>h)
  (by
    rintro g ZU bw row⟨ZP,aP,f⟩Ym Za;exact⟨ZP,aP,f.own U (by omega) Ym Za⟩)
  (by
    rintro bx ZU bw row⟨av,N,j,aw,ax,ay⟩Ym Za;exact⟨av,⟨Ym.os.trans N.os,Ym.tape.trans N.tape,Ym.output.trans N.output,aK N.size Ym.size,fun ZN Y7=>(Ym.block ZN (by have:=N.size;omega) (fun Yc=>by have:=(Za ZN Yc.symm).1;omega)).trans (N.block ZN Y7)⟩,j,aw,gX ax Ym Za,gX ay Ym Za⟩)
  (fun g F aN=>by
    obtain⟨ZP,_,f⟩:=aN;have ag:=YO.out.trans (f.kp.mono (by omega));exact⟨f.bP.cell,(Yn.out.below ag).mono ag.size⟩)
  Z0
  (fun g=>{tmps:=#[.agg #[.slice r c.length d,.slice Yp m.length Yy],.agg #[.slice X w.length O,.slice Yq o.length Yz],.func (.func 179) #[] #[.pointer (some ⟨Yh,0,none⟩),.pointer (some ⟨Yf,0,none⟩),.pointer (some ⟨Yg,0,none⟩)],.pointer (some ⟨b.heap.size,0,none⟩),.pointer (some ⟨b.heap.size+1,0,none⟩),.pointer (some ⟨b.heap.size+1+1,0,none⟩),.pointer (some ⟨b.heap.size+1+1+1,0,none⟩),.pointer (some ⟨b.heap.size+1+1+1+1,0,none⟩),.pointer (some ⟨b.heap.size+1+1+1+1+1,0,none⟩),.int .i64 (g:Int),.int .i64 (Tm.dn c g:Int),undef,undef,undef,undef,.pointer (some ⟨b.heap.size,0,none⟩),.slice r c.length d,.func (.func 172) #[] #[.pointer (some ⟨b.heap.size+1+1+1+1+1+1,0,none⟩)],.int .i64 (g:Int),.int .i64 (Tm.dn c g:Int),undef,undef,undef,undef,undef,undef,undef,undef,undef,undef,undef,undef,undef,undef,undef,undef,undef,undef,undef,undef,undef,undef,undef,undef,undef,undef,undef,undef,undef,undef,undef,undef,undef,undef,undef,undef],defers:=[]}) ?assign ?body ?done ?stop ?panic
 case assign=>
  intro ZP g F YE l;simp only[OE];gi_wp2
  exact l
 case body=>
  rintro ZP g F⟨W,E,f⟩Zj;have I:Below b.heap.size b F:=YO.out.trans (f.kp.mono (by omega));have bp:q.heap.size<=F.heap.size:=f.kp.size;have bz:F.cell? ⟨b.heap.size+1+1,0,none⟩=some (.func (.func 179) #[] #[.pointer (some ⟨Yh,0,none⟩),.pointer (some ⟨Yf,0,none⟩),.pointer (some ⟨Yg,0,none⟩)]):=(f.kp.cell (p:=⟨b.heap.size+1+1,0,none⟩) (by show b.heap.size+1+1<b.heap.size+1+1+1+1+1;omega)).trans aG.cell;have ZH:F.cell? ⟨b.heap.size,0,none⟩=some (.slice r c.length d):=(f.kp.cell (p:=⟨b.heap.size,0,none⟩) (by show b.heap.size<b.heap.size+1+1+1+1+1;omega)).trans YZ.cell0;have Z7:F.cell? ⟨b.heap.size,1,none⟩=some (.slice Yp m.length Yy):=(f.kp.cell (p:=⟨b.heap.size,1,none⟩) (by show b.heap.size<b.heap.size+1+1+1+1+1;omega)).trans YZ.dh;have Y0:F.cell? ⟨b.heap.size+1,0,none⟩=some (.slice X w.length O):=(f.kp.cell (p:=⟨b.heap.size+1,0,none⟩) (by show b.heap.size+1<b.heap.size+1+1+1+1+1;omega)).trans Zr.cell0;have Z8:F.cell? ⟨b.heap.size+1,1,none⟩=some (.slice Yq o.length Yz):=(f.kp.cell (p:=⟨b.heap.size+1,1,none⟩) (by show b.heap.size+1<b.heap.size+1+1+1+1+1;omega)).trans Zr.dh;have YK:=hid (eS ZP (YC (n:=0) (NN c r d i YM g Yh Yf Yg F Zj ((Yn.out.below I).mono I.size) ((I.cell (p:=⟨Yh,0,none⟩) aZ).trans aC.out) ((I.cell (p:=⟨Yf,0,none⟩) aX).trans aA.out) ((I.cell (p:=⟨Yg,0,none⟩) aY).trans aB.out))));have Zp:=hid E;have YQ:=hid f;have YD:=hid (fun(h:gH c i YM g=true)=>gl.pass E h);have Y8:=hid (fun(h:gH c i YM g=false)val Zb=>gl.no (val:=val) E h Zb);have Zd:=hid (fun(h:gH c i YM g=false)val Zb YL=>gl.yes (val:=val) E h Zb YL);have R:=hid (fun(h:gH c i YM g=false)Yc(Y2:Yc≠0)Zb=>(⟨Y2,g,W,Zj,E,h,Zb⟩:sl c m w o (gH c i YM) Yc));have aQ:=E.len;clear E f;by_cases J:gH c i YM g=true
  ·rw[J]at YK
   have aO:=hid (YD.out J);clear J YD Y8 Zd R;gi_wp2_with(first
    |((try refine⟨S _,?_⟩);gi_at_call 179;refine YK.out.mono ?_;clear YK;rintro Yc F⟨rfl,rfl⟩))
   exact⟨KeepsFrom.refl _ _,⟨W,aO.out,YQ.out⟩⟩
  ·have Yr:gH c i YM g=false:=by simpa using J
   rw[Yr]at YK;have YS:=hid (Y8.out Yr);have YT:=hid (Zd.out Yr);have Yi:=hid (R.out Yr);clear J Yr YD Y8 Zd R;obtain⟨Y,Z,rfl,bk,_⟩:=Yn.out.at ZQ;have bs:=Tm.im c g;have bt:=gL Zi Zj;have Y9:=fZ Zi Zj;have Zt:Below F.heap.size F F.drew:=bD (ah _ F) 1;have Yk:=I.trans (Zt.mono I.size);have YR:=Nr (cD c g) w (some ⟨Y,Z+g,none⟩) X (d-g) O F.drew (((Yn.out.sub g _).below Yk).mono Yk.size) ((ZV.out.below Yk).mono Yk.size) (by rw[Y9];omega) (by omega) aV aW;rw[Y9]at YR;have ZC:=hid (eS ZP (YC (n:=0) YR));have av:(g:Int)<=(Tm.dn c g:Int):=by omega
   have aw:(Tm.dn c g:Int)<=(d:Int):=by omega
   have ax:¬d-g=0:=by omega
   have ay:(0:Int)<=(g:Int):=by omega
   have bB:¬d=g:=by omega
   have Zl:Tryz.prog.follows .mixedOrders=true:=by kernel_rfl
   clear YR Y9;gi_wp2_with(first
    |((try refine⟨S _,?_⟩);gi_at_call 179;refine YK.out.mono ?_;clear YK;rintro Yc F⟨rfl,rfl⟩))
   have Yl:Hid (∀ZU:World,ET q (b.heap.size+1+1+1+1+1) (.slice (some ⟨Y,Z,none⟩) c.length d) W ZU->Boxed ZU (b.heap.size+1+1+1) 30 (.slice none 0 0)∧Boxed ZU (b.heap.size+1+1+1+1) 22 (.int .i64 0)):=fun ZU h=>⟨(h.kp.block _ (by omega)).trans Z3,(h.kp.block _ (by omega)).trans Zq⟩
   refine xD (Q:=fun Yc Z2 ZF=>Yc=.normal∧∃j s val Yv,Z2={tmps:=#[.agg #[.slice (some ⟨Y,Z,none⟩) c.length d,.slice Yp m.length Yy],.agg #[.slice X w.length O,.slice Yq o.length Yz],.func (.func 179) #[] #[.pointer (some ⟨Yh,0,none⟩),.pointer (some ⟨Yf,0,none⟩),.pointer (some ⟨Yg,0,none⟩)],.pointer (some ⟨b.heap.size,0,none⟩),.pointer (some ⟨b.heap.size+1,0,none⟩),.pointer (some ⟨b.heap.size+1+1,0,none⟩),.pointer (some ⟨b.heap.size+1+1+1,0,none⟩),.pointer (some ⟨b.heap.size+1+1+1+1,0,none⟩),.pointer (some ⟨b.heap.size+1+1+1+1+1,0,none⟩),.int .i64 (g:Int),.int .i64 (Tm.dn c g:Int),.slice Yv val.length val.length,.bool s,.int .i64 j,undef,.pointer (some ⟨b.heap.size,0,none⟩),.slice (some ⟨Y,Z,none⟩) c.length d,.func (.func 172) #[] #[.pointer (some ⟨b.heap.size+1+1+1+1+1+1,0,none⟩)],.int .i64 (g:Int),.int .i64 (Tm.dn c g:Int),.func (.func 179) #[] #[.pointer (some ⟨Yh,0,none⟩),.pointer (some ⟨Yf,0,none⟩),.pointer (some ⟨Yg,0,none⟩)],.int .i64 (g:Int),.bool false,.tuple #[.slice Yv val.length val.length,.bool s,.int .i64 j],.pointer (some ⟨b.heap.size,0,none⟩),.slice (some ⟨Y,Z,none⟩) c.length d,.int .i64 (g:Int),.int .i64 (Tm.dn c g:Int),.slice (some ⟨Y,Z+g,none⟩) (Tm.dn c g-g) (d-g),.pointer (some ⟨b.heap.size+1,0,none⟩),.slice X w.length O,.tuple #[.slice Yv val.length val.length,.bool s,.int .i64 j],.slice Yv val.length val.length,.bool s,.int .i64 j,undef,undef,undef,undef,undef,undef,undef,undef,undef,undef,undef,undef,undef,undef,undef,undef,undef,undef,undef,undef,undef],defers:=[]}∧fs [(cD c g,w)] j s val∧np ZF.heap.size ZF Yv val∧Below F.drew.heap.size F.drew ZF) ?reg ?cont
   case reg=>
    refine ni e (by kernel_rfl) Zl ?_;show wpAnyIn ZT _ _ _ _ _ 15 (Array.replicate 15 false) _ _;refine Rg (i:=0) (v:=.pointer (some ⟨b.heap.size,0,none⟩)) e rfl (by kernel_rfl) (by kernel_rfl) (by kernel_rfl) (fun _ _ _ h=>absurd h.1 (by simp)) ⟨Or.inl ⟨by rfl,fun b=>by go_simp⟩,fun _=>rfl⟩ ?_;refine Rg (i:=2) (v:=.int .i64 (g:Int)) e rfl (by kernel_rfl) (by kernel_rfl) (by kernel_rfl) (fun _ _ _ h=>absurd h.1 (by simp)) ⟨Or.inl ⟨by rfl,fun b=>by go_simp⟩,fun _=>rfl⟩ ?_;refine Rg (i:=3) (v:=.int .i64 (Tm.dn c g:Int)) e rfl (by kernel_rfl) (by kernel_rfl) (by kernel_rfl) (fun _ _ _ h=>absurd h.1 (by simp)) ⟨Or.inl ⟨by rfl,fun b=>by go_simp⟩,fun _=>rfl⟩ ?_;refine Rg (i:=5) (v:=.pointer (some ⟨b.heap.size+1,0,none⟩)) e rfl (by kernel_rfl) (by kernel_rfl) (by kernel_rfl) (fun _ _ _ h=>absurd h.1 (by simp)) ⟨Or.inl ⟨by rfl,fun b=>by go_simp⟩,fun _=>rfl⟩ ?_;refine Rc (rs:=[1,6]) (by kernel_rfl) (by simp) ?_;refine Ra rfl (fun YE l=>?_) (Ra rfl (fun YE l=>?_) Rb)
    ·go_simp
     refine l _ _ ?_;clear l YE;refine Rg (i:=4) (v:=.slice (some ⟨Y,Z+g,none⟩) (Tm.dn c g-g) (d-g)) e rfl (by kernel_rfl) (by kernel_rfl) (by kernel_rfl) (fun _ _ _ h=>absurd h.1 (by simp)) ⟨Or.inl ⟨by rfl,fun b=>by go_simp⟩,fun _=>rfl⟩ ?_;refine Rc (rs:=[6]) (by kernel_rfl) (by simp) ?_;refine Ra rfl (fun YE l=>?_) Rb;go_simp;refine l _ _ ?_;clear l YE;refine Rc (rs:=[7]) (by kernel_rfl) (by simp) ?_;refine Ra rfl (fun YE l=>?_) Rb;go_simp;gi_wp2_with(first|((try refine⟨S _,?_⟩);gi_at_call 201;refine ZC.out.mono ?_;rintro Yc G⟨YB,j,s,val,Yv,K,rfl,Yd⟩))
     refine Rg (i:=8) (v:=.tuple #[.slice Yv val.length val.length,.bool s,.int .i64 j]) e rfl (by kernel_rfl) (by kernel_rfl) (by kernel_rfl) (fun _ _ _ h=>absurd h.1 (by simp)) ⟨Or.inl ⟨by rfl,fun b=>by go_simp⟩,fun _=>rfl⟩ ?_;refine Rg (i:=9) (v:=.slice Yv val.length val.length) e rfl (by kernel_rfl) (by kernel_rfl) (by kernel_rfl) (fun _ _ _ h=>absurd h.1 (by simp)) ⟨Or.inl ⟨by rfl,fun b=>by go_simp⟩,fun _=>rfl⟩ ?_;refine Rg (i:=10) (v:=.bool s) e rfl (by kernel_rfl) (by kernel_rfl) (by kernel_rfl) (fun _ _ _ h=>absurd h.1 (by simp)) ⟨Or.inl ⟨by rfl,fun b=>by go_simp⟩,fun _=>rfl⟩ ?_;refine Rg (i:=11) (v:=.int .i64 j) e rfl (by kernel_rfl) (by kernel_rfl) (by kernel_rfl) (fun _ _ _ h=>absurd h.1 (by simp)) ⟨Or.inl ⟨by rfl,fun b=>by go_simp⟩,fun _=>rfl⟩ ?_;refine Rg (i:=12) (v:=.slice Yv val.length val.length) e rfl (by kernel_rfl) (by kernel_rfl) (by kernel_rfl) (fun _ _ _ h=>absurd h.1 (by simp)) ⟨Or.inl ⟨by rfl,fun b=>by go_simp⟩,fun _=>rfl⟩ ?_;refine Rg (i:=13) (v:=.bool s) e rfl (by kernel_rfl) (by kernel_rfl) (by kernel_rfl) (fun _ _ _ h=>absurd h.1 (by simp)) ⟨Or.inl ⟨by rfl,fun b=>by go_simp⟩,fun _=>rfl⟩ ?_;refine Rc (rs:=[14]) (by kernel_rfl) (by simp) ?_;refine Ra rfl (fun YE l=>?_) Rb;go_simp;refine l _ _ ?_;clear l YE;refine Rm (by kernel_rfl) ?_ _;exact⟨rfl,j,s,val,Yv,rfl,K,Yd,YB⟩
    ·go_simp
     refine l _ _ ?_;clear l YE;refine Rc (rs:=[1]) (by kernel_rfl) (by simp) ?_;refine Ra rfl (fun YE l=>?_) Rb;go_simp;refine l _ _ ?_;clear l YE;refine Rg (i:=4) (v:=.slice (some ⟨Y,Z+g,none⟩) (Tm.dn c g-g) (d-g)) e rfl (by kernel_rfl) (by kernel_rfl) (by kernel_rfl) (fun _ _ _ h=>absurd h.1 (by simp)) ⟨Or.inl ⟨by rfl,fun b=>by go_simp⟩,fun _=>rfl⟩ ?_;refine Rc (rs:=[7]) (by kernel_rfl) (by simp) ?_;refine Ra rfl (fun YE l=>?_) Rb;go_simp;gi_wp2_with(first|((try refine⟨S _,?_⟩);gi_at_call 201;refine ZC.out.mono ?_;rintro Yc G⟨YB,j,s,val,Yv,K,rfl,Yd⟩))
     refine Rg (i:=8) (v:=.tuple #[.slice Yv val.length val.length,.bool s,.int .i64 j]) e rfl (by kernel_rfl) (by kernel_rfl) (by kernel_rfl) (fun _ _ _ h=>absurd h.1 (by simp)) ⟨Or.inl ⟨by rfl,fun b=>by go_simp⟩,fun _=>rfl⟩ ?_;refine Rg (i:=9) (v:=.slice Yv val.length val.length) e rfl (by kernel_rfl) (by kernel_rfl) (by kernel_rfl) (fun _ _ _ h=>absurd h.1 (by simp)) ⟨Or.inl ⟨by rfl,fun b=>by go_simp⟩,fun _=>rfl⟩ ?_;refine Rg (i:=10) (v:=.bool s) e rfl (by kernel_rfl) (by kernel_rfl) (by kernel_rfl) (fun _ _ _ h=>absurd h.1 (by simp)) ⟨Or.inl ⟨by rfl,fun b=>by go_simp⟩,fun _=>rfl⟩ ?_;refine Rg (i:=11) (v:=.int .i64 j) e rfl (by kernel_rfl) (by kernel_rfl) (by kernel_rfl) (fun _ _ _ h=>absurd h.1 (by simp)) ⟨Or.inl ⟨by rfl,fun b=>by go_simp⟩,fun _=>rfl⟩ ?_;refine Rg (i:=12) (v:=.slice Yv val.length val.length) e rfl (by kernel_rfl) (by kernel_rfl) (by kernel_rfl) (fun _ _ _ h=>absurd h.1 (by simp)) ⟨Or.inl ⟨by rfl,fun b=>by go_simp⟩,fun _=>rfl⟩ ?_;refine Rg (i:=13) (v:=.bool s) e rfl (by kernel_rfl) (by kernel_rfl) (by kernel_rfl) (fun _ _ _ h=>absurd h.1 (by simp)) ⟨Or.inl ⟨by rfl,fun b=>by go_simp⟩,fun _=>rfl⟩ ?_;refine Rc (rs:=[14]) (by kernel_rfl) (by simp) ?_;refine Ra rfl (fun YE l=>?_) Rb;go_simp;refine l _ _ ?_;clear l YE;refine Rm (by kernel_rfl) ?_ _;exact⟨rfl,j,s,val,Yv,rfl,K,Yd,YB⟩
   case cont=>
    rintro Yc Z2 G⟨rfl,j,s,val,Yv,rfl,K,Yd,Zs⟩;have z:Below F.heap.size F G:=Zt.trans (Zs.mono (af _));have V:=YQ.out.below U z;have YI:KeepsFrom Zg.heap.size F G:=ju z;have D:=I.trans (z.mono I.size);have aR:=z.size;have Yj:=hid K;have ZY:=hid Yd;clear K Yd Zs ZC;by_cases YL:j=0
    ·subst YL
     cases s with
     |false=>
      gi_wp2
      exact⟨YI,⟨W,YS.out val Yj.out,V⟩⟩
     |true=>
      have bb:G.cell? ⟨b.heap.size,0,none⟩=some (.slice (some ⟨Y,Z,none⟩) c.length d):=(z.cell (p:=⟨b.heap.size,0,none⟩) (by show b.heap.size<_;omega)).trans ZH;have bd:G.cell? ⟨b.heap.size,1,none⟩=some (.slice Yp m.length Yy):=(z.cell (p:=⟨b.heap.size,1,none⟩) (by show b.heap.size<_;omega)).trans Z7;have bf:G.cell? ⟨b.heap.size+1,0,none⟩=some (.slice X w.length O):=(z.cell (p:=⟨b.heap.size+1,0,none⟩) (by show b.heap.size+1<_;omega)).trans Y0;have bg:G.cell? ⟨b.heap.size+1,1,none⟩=some (.slice Yq o.length Yz):=(z.cell (p:=⟨b.heap.size+1,1,none⟩) (by show b.heap.size+1<_;omega)).trans Z8;have Yo:=hid (eS ZP (YC (n:=0) (JM val c m o (g:Int) (some ⟨Y,Z,none⟩) Yp X Yq Yv d Yy w.length O Yz val.length G ((Yn.out.below D).mono D.size) ((ZW.out.below D).mono D.size) ((ZX.out.below D).mono D.size) ZY.out ZO aU)));have ZD:=hid (YT.out val Yj.out);have YP:=hid (fun Yc Y2 h=>Yi.out Yc Y2 (.inr ⟨val,Yj.out,h⟩));clear YS YT Yi;by_cases Ye:gA val c m (g:Int) o=0
      ·rw[Ye]at Yo
       have aE:=hid (ZD.out Ye);clear Ye YP ZD;generalize gY val c m (g:Int) o=ZR at*;obtain⟨t,u⟩:=ZR;have al:=hid (show W.length<=1000000 by omega);gi_wp2_with(first
        |((try refine⟨S _,?_⟩);gi_at_call 202;refine Yo.out.mono ?_;clear Yo;rintro Yc k⟨a1,u2,rfl,Zm,YJ,L⟩;obtain⟨A,x,rfl,_⟩:=cU.ints Zm;obtain⟨B,y,rfl,_⟩:=cU.ints YJ;have aq:=L.size;have Z1:=eT.new k 79 (.slice A t.length x) (.slice B u.length y);have bG:=Z1.cell0;have bJ:=Z1.dh;have M:Below k.heap.size k (k.alloc (.cells #[.slice A t.length x,.slice B u.length y] 79)):=(ah _ k).alloc (af _) _;have H:=(V.below U L).below U M;obtain⟨bE,Zz,Y5⟩:=H.out;obtain⟨Yt,Yu,rfl⟩:=Y5.slice;have aJ:=Zz.cell;have P:Below (k.alloc (.cells #[.slice A t.length x,.slice B u.length y] 79)).heap.size (k.alloc (.cells #[.slice A t.length x,.slice B u.length y] 79)) ((k.alloc (.cells #[.slice A t.length x,.slice B u.length y] 79)).alloc (.cells #[.slice A t.length x,.slice B u.length y] 79)):=(ah _ _).alloc (af _) _;have ZE:=eT.new (k.alloc (.cells #[.slice A t.length x,.slice B u.length y] 79)) 79 (.slice A t.length x) (.slice B u.length y);rw[bI]at ZE;have aL:=ZE.cell0;have aM:=ZE.dh)
        |(gi_at_builtin;(refine Bc _ rfl _ _ rfl (b.heap.size+1+1+1+1+1) _ W rfl (Y5.below P) (.slice A t.length x) (.slice B u.length y) t u (k.heap.size+1) rfl aL aM (cU.below (cU.below (Zm.mono (by omega)) M) P) (cU.below (cU.below (YJ.mono (by omega)) M) P) al.out (by have:=H.kp.size;simp;omega) ?_);intro bC bF ae ak ar;obtain⟨bA,a8,rfl⟩:=ar;have Zf:=Oq (C:=Zg.heap.size) U Zz Y5 H.bP H.kp ae ak;have ba:=Zf.1.cell;have bj:=Zf.1.frozen))
       exact⟨((YI.trans (ju L)).trans (ju M)).trans Zf.2.2,⟨_,aE.out,Zf.2.1⟩⟩
      ·have ZB:=hid (YP.out _ Ye rfl)
       have ao:(gA val c m (g:Int) o !=0)=true:=by simpa using Ye
       clear Ye YP ZD;generalize gA val c m (g:Int) o=bK at*;generalize gY val c m (g:Int) o=ZR at*;obtain⟨t,u⟩:=ZR;gi_wp2_with(first
        |((try refine⟨S _,?_⟩);gi_at_call 202;refine Yo.out.mono ?_;clear Yo;rintro Yc k⟨a1,u2,rfl,Zm,YJ,L⟩;obtain⟨A,x,rfl,_⟩:=cU.ints Zm;obtain⟨B,y,rfl,_⟩:=cU.ints YJ;have aq:=L.size;have M:Below k.heap.size k (k.alloc (.cells #[.slice A t.length x,.slice B u.length y] 79)):=(ah _ k).alloc (af _) _;have H:=(V.below U L).below U M;have YV:Boxed (k.alloc (.cells #[.slice A t.length x,.slice B u.length y] 79)) (b.heap.size+1+1+1) 30 (.slice none 0 0):=(Yl.out (k.alloc (.cells #[.slice A t.length x,.slice B u.length y] 79)) H).1;have YX:Boxed (k.alloc (.cells #[.slice A t.length x,.slice B u.length y] 79)) (b.heap.size+1+1+1+1) 22 (.int .i64 0):=(Yl.out (k.alloc (.cells #[.slice A t.length x,.slice B u.length y] 79)) H).2;have Zk:=YV.cell;have ZO:=YX.cell;have Z9:=YV.frozen;have aa:=YX.frozen;have Yx:Boxed ((k.alloc (.cells #[.slice A t.length x,.slice B u.length y] 79)).setCell ⟨b.heap.size+1+1+1,0,none⟩ (.slice none 0 0)) (b.heap.size+1+1+1+1) 22 (.int .i64 0):=(aT (k.alloc (.cells #[.slice A t.length x,.slice B u.length y] 79)) ⟨b.heap.size+1+1+1,0,none⟩ _ (b.heap.size+1+1+1+1) (by show b.heap.size+1+1+1+1≠b.heap.size+1+1+1;omega)).trans YX;have au:=Yx.cell;have ab:=Yx.frozen))
       refine⟨(((YI.trans (ju L)).trans (ju M)).trans ((dO _ _ _).from _)).trans ((dO _ _ _).from _),rfl,?_,_,ZB.out,?_,?_⟩
       ·exact(((D.trans (L.mono D.size)).trans (M.mono (by have:=D.size;omega))).setCell (p:=⟨b.heap.size+1+1+1,0,none⟩) (by show b.heap.size<=b.heap.size+1+1+1;omega) _).setCell (p:=⟨b.heap.size+1+1+1+1,0,none⟩) (by show b.heap.size<=b.heap.size+1+1+1+1;omega) _
       ·exact(aT _ ⟨b.heap.size+1+1+1+1,0,none⟩ _ (b.heap.size+1+1+1) (by show b.heap.size+1+1+1≠b.heap.size+1+1+1+1;omega)).trans (YV.set _)
       ·exact Yx.set _
    ·have aF:=hid (Yi.out j YL (.inl ⟨s,val,Yj.out⟩))
     have ao:(j !=0)=true:=by simpa using YL
     clear YL YS YT Yi;have YU:Boxed G (b.heap.size+1+1+1) 30 (.slice none 0 0):=(Yl.out G V).1;have YW:Boxed G (b.heap.size+1+1+1+1) 22 (.int .i64 0):=(Yl.out G V).2;have Zk:=YU.cell;have ZO:=YW.cell;have Z9:=YU.frozen;have aa:=YW.frozen;have Yw:Boxed (G.setCell ⟨b.heap.size+1+1+1,0,none⟩ (.slice none 0 0)) (b.heap.size+1+1+1+1) 22 (.int .i64 0):=(aT G ⟨b.heap.size+1+1+1,0,none⟩ _ (b.heap.size+1+1+1+1) (by show b.heap.size+1+1+1+1≠b.heap.size+1+1+1;omega)).trans YW;have au:=Yw.cell;have ab:=Yw.frozen;gi_wp2
     refine⟨(YI.trans ((dO _ _ _).from _)).trans ((dO _ _ _).from _),rfl,?_,_,aF.out,?_,?_⟩
     ·exact((D).setCell (p:=⟨b.heap.size+1+1+1,0,none⟩) (by show b.heap.size<=b.heap.size+1+1+1;omega) _).setCell (p:=⟨b.heap.size+1+1+1+1,0,none⟩) (by show b.heap.size<=b.heap.size+1+1+1+1;omega) _
     ·exact(aT _ ⟨b.heap.size+1+1+1+1,0,none⟩ _ (b.heap.size+1+1+1) (by show b.heap.size+1+1+1≠b.heap.size+1+1+1+1;omega)).trans (YU.set _)
     ·exact Yw.set _
 case done=>
  rintro YN F ZL⟨W,E,f⟩Y3;obtain⟨v,aS,ZM⟩:=f.out;obtain⟨Yt,Yu,rfl⟩:=ZM.slice;have aJ:=aS.cell;have YF:Boxed F (b.heap.size+1+1+1) 30 (.slice none 0 0):=(f.kp.block _ (by omega)).trans Z3;have YY:Boxed F (b.heap.size+1+1+1+1) 22 (.int .i64 0):=(f.kp.block _ (by omega)).trans Zq;have Zk:=YF.cell;have ZA:=YY.cell;have Z9:=YF.frozen;have aa:=YY.frozen;have Z4:=YF.set (.slice Yt W.length Yu);have YG:Boxed (F.setCell ⟨b.heap.size+1+1+1,0,none⟩ (.slice Yt W.length Yu)) (b.heap.size+1+1+1+1) 22 (.int .i64 0):=(aT F ⟨b.heap.size+1+1+1,0,none⟩ _ (b.heap.size+1+1+1+1) (by show b.heap.size+1+1+1+1≠b.heap.size+1+1+1;omega)).trans YY;have bq:=YG.cell;have bh:=YG.frozen;rw[Zc]at ZL;have aD:=hid ZM;have ZZ:=hid f.kp;have Zp:=hid E;clear ZM f E;generalize an:W.length=Ze at*;clear an;gi_wp2
  have Y4:((F.setCell ⟨b.heap.size+1+1+1,0,none⟩ (.slice Yt Ze Yu)).setCell ⟨b.heap.size+1+1+1+1,0,none⟩ (.int .i64 0)).heap[YN]?=some (.deferred (some [])):=
   (aT _ ⟨b.heap.size+1+1+1+1,0,none⟩ _ YN (show YN≠b.heap.size+1+1+1+1 by omega)).trans ((aT F ⟨b.heap.size+1+1+1,0,none⟩ _ YN (show YN≠b.heap.size+1+1+1 by omega)).trans Y3)
  have Z5:Boxed ((F.setCell ⟨b.heap.size+1+1+1,0,none⟩ (.slice Yt Ze Yu)).setCell ⟨b.heap.size+1+1+1+1,0,none⟩ (.int .i64 0)) (b.heap.size+1+1+1) 30 (.slice Yt Ze Yu):=
   (aT _ ⟨b.heap.size+1+1+1+1,0,none⟩ _ (b.heap.size+1+1+1) (by show b.heap.size+1+1+1≠b.heap.size+1+1+1+1;omega)).trans Z4
  have Z6:=YG.set (.int .i64 0);refine⟨by simp,.inl ⟨_,_,rfl,ed Y4,?_⟩⟩;refine⟨_,zf rfl rfl rfl ((aH (a:=⟨b.heap.size+1+1+1,0,none⟩) (cd (show b.heap.size+1+1+1≠YN by omega))).trans Z5.cell) ((aH (a:=⟨b.heap.size+1+1+1+1,0,none⟩) (cd (show b.heap.size+1+1+1+1≠YN by omega))).trans Z6.cell),?_⟩;refine⟨0,W,_,.inl ⟨rfl,Zp.out⟩,rfl,?_,?_⟩
  ·have YA:=((aD.out.set YF (by decide) (by decide) (.slice Yt Ze Yu)).set YG (by decide) (by decide) (.int .i64 0)).other (grownBy_putObj' _ YN (.deferred none)) (fun bL Yc=>by cases Yc;exact⟨_,Y4,rfl⟩)
   exact YA.mono (by omega)
  ·have Y2:=YO.out.trans (ZZ.out.mono (by omega))
   have YA:=(Y2.setCell (p:=⟨b.heap.size+1+1+1,0,none⟩) (by show b.heap.size<=b.heap.size+1+1+1;omega) (.slice Yt Ze Yu)).setCell (p:=⟨b.heap.size+1+1+1+1,0,none⟩) (by show b.heap.size<=b.heap.size+1+1+1+1;omega) (.int .i64 0);exact⟨YA.os,YA.tape,YA.output,by have:=YA.size;simpa using this,fun ZN Y7=>(cd (by omega)).trans (YA.block ZN Y7)⟩
 case stop=>
  rintro YN bx F ZL⟨rfl,N,j,R,ZH,Y0⟩Y3;rw[Zc]at ZL;have Zk:=ZH.cell;have ZA:=Y0.cell;gi_wp2
  refine⟨by simp,.inl ⟨_,_,rfl,ed Y3,?_⟩⟩;refine⟨_,zf rfl rfl rfl ((aH (a:=⟨b.heap.size+1+1+1,0,none⟩) (cd (show b.heap.size+1+1+1≠YN by omega))).trans Zk) ((aH (a:=⟨b.heap.size+1+1+1+1,0,none⟩) (cd (show b.heap.size+1+1+1+1≠YN by omega))).trans ZA),?_⟩;exact⟨j,[],_,.inr ⟨R,rfl⟩,rfl,ll.nil _ _,⟨N.os,N.tape,N.output,by have:=N.size;simpa using this,fun ZN Y7=>(cd (by omega)).trans (N.block ZN Y7)⟩⟩
 case panic=>exact fun _ _ _ _ h=>h.elim
end
theorem qN(j:Option Addr)(e b:Nat)(a:Int)(i:World):Calls Tryz.prog 178 #[.slice j e b,.int .i64 a] i fun k f=>k=.returned (.bool (decide (0<=a∧a<(e:Int))))∧f=i:=by
 by_cases c:0<=a
 ·by_cases d:a<(e:Int)
  ·go_enter Tryz.func178,Tryz.ntmps178
   go_wp2;go_ret;exact⟨by simp[c,d],rfl⟩
  ·have h:decide (a<(e:Int))=false:=by simpa using d
   go_enter Tryz.func178,Tryz.ntmps178;go_wp2;go_ret;exact⟨by simp,rfl⟩
 ·have g:decide (0<=a)=false:=by simpa using c
  go_enter Tryz.func178,Tryz.ntmps178;go_wp2;go_ret;exact⟨by simp,rfl⟩
def fi(rs:bu)(i j er:Int)(ps:bg):Prop:=
 (cm rs≠0∧er=cm rs∧ps=[])∨
 (cm rs=0∧¬(0<=i∧i<(rs.length:Int)∧0<=j∧j<(rs.length:Int))∧er=5∧ps=[])∨
 (cm rs=0∧∃a b:Nat,a<rs.length∧b<rs.length∧i=(a:Int)∧j=(b:Int)∧kr (rs[a]?.getD ([],[])).1 (rs[a]?.getD ([],[])).2 (bw (rs[b]?.getD ([],[])).1) (bw (rs[b]?.getD ([],[])).2) (gH (rs[a]?.getD ([],[])).1 i j) er ps)
def OG(rs:bu)(i j:Int)(w:World)(e:Ending)(w':World):Prop:=∃er ps v,fi rs i j er ps∧e=.returned (.tuple #[v,.int .i64 er])∧ll w.heap.size w' v ps∧Below w.heap.size w w'
theorem we(b:bu)(e f:Nat)(Yh:e<b.length)(Yi:f<b.length)(YK:Option Addr)(j:Nat)(i:World)(V:cm b=0)(T:dw i.heap.size i YK b):
 Calls Tryz.prog 145 #[.slice YK b.length j,.int .i64 (e:Int),.int .i64 (f:Int)] i fun Yk d=>OG b (e:Int) (f:Int) i Yk d:=by
 have Zh:∀(Yw:Fn)(first j:Array Value)(i:World),(Instr.makeFunc Yw first j).run Tryz.prog i=.ok (.func Yw first j) i:=fun _ _ _ _=>rfl
 have Zf:(e:Int)<(b.length:Int):=by omega
 have Zg:(f:Int)<(b.length:Int):=by omega
 obtain⟨Zq,n⟩:=dV V;obtain⟨Yv,YQ,_⟩:=eo (n e Yh);obtain⟨L,M,_⟩:=eo (n f Yi);obtain⟨u,m⟩:∃u,(i.alloc (.cells #[.int .i64 (e:Int)] 3)).alloc (.cells #[.int .i64 (f:Int)] 3)=u:=⟨_,rfl⟩;have q:Below i.heap.size i u:=by rw[<-m];exact((ah _ i).alloc (af _) _).alloc (by simp) _
 have Zi:u.heap.size=i.heap.size+2:=by rw[<-m];simp
 have Yd:Boxed u i.heap.size 3 (.int .i64 (e:Int)):=by rw[<-m];exact(dt i _ _).alloc _
 have Ye:Boxed u (i.heap.size+1) 3 (.int .i64 (f:Int)):=by
  rw[<-m];have o:=dt (i.alloc (.cells #[.int .i64 (e:Int)] 3)) 3 (.int .i64 (f:Int));rwa[bI]at o
 have Y:=hid (lf b YK j u ((T.below q).mono q.size));rw[V]at Y;have Yg:=hid (fun N R(o:kr (b[e]?.getD ([],[])).1 (b[e]?.getD ([],[])).2 (bw (b[f]?.getD ([],[])).1) (bw (b[f]?.getD ([],[])).2) (gH (b[e]?.getD ([],[])).1 (e:Int) (f:Int)) N R)=>(.inr (.inr ⟨V,e,f,Yh,Yi,rfl,rfl,o⟩):fi b (e:Int) (f:Int) N R));obtain⟨k,a,rfl,U,E,I,Yc,Yf,Yx,Yy,Yz,YA,YR,YS,Zo,Zp⟩:=T e Yh;obtain⟨Zm,Y3,YP,Ze,F,J,G,K,YD,YE,YF,YG,Zr,Zs,Zt,Zu⟩:=T f Yi;cases YP;generalize(b[e]?.getD ([],[])).1=B at*;generalize(b[e]?.getD ([],[])).2=Z at*;generalize(b[f]?.getD ([],[])).1=w at*;generalize(b[f]?.getD ([],[])).2=C at*;have P:decide (0<=(e:Int)∧(e:Int)<(b.length:Int))=true:=by simp;omega
 have Q:decide (0<=(f:Int)∧(f:Int)<(b.length:Int))=true:=by simp;omega
 have z:=hid (fun YJ=>qN (some ⟨k,a,none⟩) b.length j (e:Int) YJ);have A:=hid (fun YJ=>qN (some ⟨k,a,none⟩) b.length j (f:Int) YJ);rw[P]at z;rw[Q]at A;have Yn:=hid m;have YI:=hid n;clear m V T P Q n;go_enter Tryz.func145,Tryz.ntmps145;go_wp2_with fail;rw[Yn.out];refine Y.out.mono ?_;rintro Yk g⟨rfl,H⟩;have t:=q.trans (H.mono q.size);have YT:=H.size;have W:Boxed g i.heap.size 3 (.int .i64 (e:Int)):=(H.block _ Yd.lt).trans Yd;have X:Boxed g (i.heap.size+1) 3 (.int .i64 (f:Int)):=(H.block _ Ye.lt).trans Ye;have Yp:=W.cell;have Yq:=X.cell;clear Y;go_wp2_with fail;refine(z.out g).mono ?_;rintro Yk g⟨rfl,rfl⟩;go_wp2_with fail;refine(A.out g).mono ?_;rintro Yk g⟨rfl,rfl⟩;have Yr:=(t.cell (p:=⟨k,a+e*2,none⟩) U).trans Yx;have Yt:=(t.cell (p:=⟨k,a+e*2+1,none⟩) U).trans Yy;have Yu:=(t.cell (p:=⟨k,a+f*2,none⟩) U).trans YD;have S:=(t.cell (p:=⟨k,a+f*2+1,none⟩) U).trans YE;clear z A;go_wp2_with fail;obtain⟨c,r⟩:∃c,g.alloc (.cells #[.slice E B.length I] 68)=c:=⟨_,rfl⟩;rw[r];have Yo:Boxed c g.heap.size 68 (.slice E B.length I):=by rw[<-r];exact dt g _ _
 have v:Below g.heap.size g c:=by rw[<-r];exact(ah _ _).alloc (af _) _
 have Zj:c.heap.size=g.heap.size+1:=by rw[<-r];simp
 have h:=t.trans (v.mono t.size);have O:Hid (∀d,Below c.heap.size c d->d.cell? ⟨i.heap.size,0,none⟩=some (.int .i64 (e:Int))∧d.cell? ⟨i.heap.size+1,0,none⟩=some (.int .i64 (f:Int))∧d.cell? ⟨k,a+e*2,none⟩=some (.slice E B.length I)∧d.cell? ⟨k,a+e*2+1,none⟩=some (.slice Yc Z.length Yf)∧d.cell? ⟨k,a+f*2,none⟩=some (.slice F w.length J)∧d.cell? ⟨k,a+f*2+1,none⟩=some (.slice G C.length K)):=fun d o=>by
  have l:=v.trans (o.mono v.size);exact⟨(l.cell (p:=⟨i.heap.size,0,none⟩) (by show i.heap.size<_;omega)).trans Yp,(l.cell (p:=⟨i.heap.size+1,0,none⟩) (by show i.heap.size+1<_;omega)).trans Yq,(l.cell (p:=⟨k,a+e*2,none⟩) (by show k<_;omega)).trans Yr,(l.cell (p:=⟨k,a+e*2+1,none⟩) (by show k<_;omega)).trans Yt,(l.cell (p:=⟨k,a+f*2,none⟩) (by show k<_;omega)).trans Yu,(l.cell (p:=⟨k,a+f*2+1,none⟩) (by show k<_;omega)).trans S⟩
 have YH:=hid (fun D(s:Below c.heap.size c D)=>LZ w C F G J K D (by have o:=h.trans (s.mono h.size);exact(YF.below o).mono o.size) (by have o:=h.trans (s.mono h.size);exact(YG.below o).mono o.size) (by have:=cK L;omega) (by have:=cK M;omega) (fun YY Yj=>by have:=lT L YY Yj;omega) (fun YY Yj=>by have:=lT M YY Yj;omega));have Ym:=hid (fun D(s:Below c.heap.size c D)Zk YN Zl Zn(YU:cZ D.heap.size D Zk (bw w))(YV:cZ D.heap.size D Zl (bw C))(Y4:(bw w).length<=YN)(Y5:YN<=maxLen)=>Oj B Z (bw w) (bw C) E Yc Zk Zl I Yf YN Zn (e:Int) (f:Int) g.heap.size i.heap.size (i.heap.size+1) D Yv (by have o:=h.trans (s.mono h.size);exact(Yz.below o).mono o.size) (by have o:=h.trans (s.mono h.size);exact(YA.below o).mono o.size) YU YV YR YS Y4 Y5 ((s.cell (p:=⟨g.heap.size,0,none⟩) (by show g.heap.size<_;omega)).trans Yo.cell) (O.out D s).1 (O.out D s).2.1);have YB:=O.out _ (ah _ c);have y:=hid h;clear r v Yo Yp Yq Yr Yt Yu S Yx Yy Yz YA YD YE YF YG Yd Ye W X Yv YQ L M t H q;go_region_held3(fun d=>d.cell? ⟨i.heap.size,0,none⟩=some (.int .i64 (e:Int))∧d.cell? ⟨i.heap.size+1,0,none⟩=some (.int .i64 (f:Int))∧d.cell? ⟨k,a+e*2,none⟩=some (.slice E B.length I)∧d.cell? ⟨k,a+e*2+1,none⟩=some (.slice Yc Z.length Yf)∧d.cell? ⟨k,a+f*2,none⟩=some (.slice F w.length J)∧d.cell? ⟨k,a+f*2+1,none⟩=some (.slice G C.length K))(first|assumption|exact YB)(first
  |(go_at_call 181;refine(YH.out _ (bD (ah _ c) 1)).mono ?_;rintro Yk Y8⟨Zv,u4,rfl,Y0,YZ,YL⟩;obtain⟨Za,YO,rfl,YW,Y6,Y7⟩:=cU.ints Y0;obtain⟨Zb,S,rfl,YX,_⟩:=cU.ints YZ;have x:Below c.heap.size c Y8:=(bD (ah _ c) 1).trans (YL.mono (by exact af _));have Zc:=O.out _ x)
  |(go_at_call 180;refine(Ym.out _ x Za YO Zb S YW YX Y6 Y7).mono ?_;rintro Yk Y9⟨N,R,Zw,YC,rfl,Y2,YM⟩;have Yl:Below c.heap.size c Y9:=x.trans (YM.mono x.size);have Zd:=O.out _ Yl))
 all_goals(
  go_wp2;go_ret2
  exact⟨N,R,_,Yg.out N R YC,rfl,Y2.mono (by have:=y.out.size;have:=x.size;omega),y.out.trans (Yl.mono y.out.size)⟩)
theorem Ox(a:bu)(h l:Int)(z:Option Addr)(i:Nat)(k:World)(v:dw k.heap.size k z a):
 Calls Tryz.prog 145 #[.slice z a.length i,.int .i64 h,.int .i64 l] k fun A J=>OG a h l k A J:=by
 obtain⟨q,j⟩:∃q,(k.alloc (.cells #[.int .i64 h] 3)).alloc (.cells #[.int .i64 l] 3)=q:=⟨_,rfl⟩;have c:Below k.heap.size k q:=by rw[<-j];exact((ah _ k).alloc (af _) _).alloc (by simp) _
 have K:q.heap.size=k.heap.size+2:=by rw[<-j];simp
 have r:Boxed q k.heap.size 3 (.int .i64 h):=by rw[<-j];exact(dt k _ _).alloc _
 have s:Boxed q (k.heap.size+1) 3 (.int .i64 l):=by
  rw[<-j];have B:=dt (k.alloc (.cells #[.int .i64 h] 3)) 3 (.int .i64 l);rwa[bI]at B
 have m:=hid (lf a z i q ((v.below c).mono c.size));have u:=hid j;clear j;by_cases g:cm a=0
 ·by_cases w:0<=h∧h<(a.length:Int)
  ·by_cases C:0<=l∧l<(a.length:Int)
   ·obtain⟨G,rfl⟩:∃I:Nat,h=(I:Int):=⟨h.toNat,by omega⟩
    obtain⟨H,rfl⟩:∃I:Nat,l=(I:Int):=⟨l.toNat,by omega⟩;exact we a G H (by omega) (by omega) z i k g v
   ·have f:decide (0<=h∧h<(a.length:Int))=true:=by simpa using w
    have x:decide (0<=l∧l<(a.length:Int))=false:=by simpa using C
    have n:=hid (fun D=>qN z a.length i h D);have y:=hid (fun D=>qN z a.length i l D);rw[f]at n;rw[x]at y;have d:Hid (fi a h l 5 []):=.inr (.inl ⟨g,fun B=>C ⟨B.2.2.1,B.2.2.2⟩,rfl,rfl⟩);rw[g]at m;clear f x g v w C;go_enter Tryz.func145,Tryz.ntmps145;go_wp2_with fail;rw[u.out];refine m.out.mono ?_;rintro A b⟨rfl,e⟩;have t:=c.trans (e.mono c.size);have o:Boxed b k.heap.size 3 (.int .i64 h):=(e.block _ r.lt).trans r;have p:Boxed b (k.heap.size+1) 3 (.int .i64 l):=(e.block _ s.lt).trans s;have E:=o.cell;have F:=p.cell;clear m;go_wp2_with fail;refine(n.out b).mono ?_;rintro A b⟨rfl,rfl⟩;go_wp2_with fail;refine(y.out b).mono ?_;rintro A b⟨rfl,rfl⟩;go_wp2;go_ret2
    exact⟨5,[],_,d.out,rfl,ll.nil _ _,t⟩
  ·have f:decide (0<=h∧h<(a.length:Int))=false:=by simpa using w
   have n:=hid (fun D=>qN z a.length i h D);rw[f]at n;have d:Hid (fi a h l 5 []):=.inr (.inl ⟨g,fun B=>w ⟨B.1,B.2.1⟩,rfl,rfl⟩);rw[g]at m;clear f g v w;go_enter Tryz.func145,Tryz.ntmps145;go_wp2_with fail;rw[u.out];refine m.out.mono ?_;rintro A b⟨rfl,e⟩;have t:=c.trans (e.mono c.size);have o:Boxed b k.heap.size 3 (.int .i64 h):=(e.block _ r.lt).trans r;have p:Boxed b (k.heap.size+1) 3 (.int .i64 l):=(e.block _ s.lt).trans s;have E:=o.cell;have F:=p.cell;clear m;go_wp2_with fail;refine(n.out b).mono ?_;rintro A b⟨rfl,rfl⟩;go_wp2;go_ret2
   exact⟨5,[],_,d.out,rfl,ll.nil _ _,t⟩
 ·have d:Hid (fi a h l (cm a) []):=.inl ⟨g,rfl,rfl⟩
  have L:(cm a !=0)=true:=by simpa using g
  clear g v;unfold OG;generalize cm a=M at*;go_enter Tryz.func145,Tryz.ntmps145;go_wp2_with fail;rw[u.out];refine m.out.mono ?_;rintro A b⟨rfl,e⟩;have t:=c.trans (e.mono c.size);have o:Boxed b k.heap.size 3 (.int .i64 h):=(e.block _ r.lt).trans r;have p:Boxed b (k.heap.size+1) 3 (.int .i64 l):=(e.block _ s.lt).trans s;have E:=o.cell;have F:=p.cell;clear m;go_wp2;go_ret2
  exact⟨_,[],_,d.out,rfl,ll.nil _ _,t⟩
