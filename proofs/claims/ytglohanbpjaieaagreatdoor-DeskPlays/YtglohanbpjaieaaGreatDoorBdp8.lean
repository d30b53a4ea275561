/-
  Parts of the proof.
-/
import Derived.Test.YtglohanbpjaieaaGreatDoorBdp7
set_option maxHeartbeats 1000000
set_option maxRecDepth 100000
namespace Go.Proofs.YtglohanbpjaieaaGreatDoor
open Go.Proofs Go.RowKit Go.Shelf Go.Maps
variable {a c g s:Nat}{b d:List Int}{e u:World}{o w:Nat->Nat->Bool}{r:Int}{t:Bool}
theorem LK(a:Sd)(k:LW a):∀(n i j:Nat),(a.za.length-i)+(a.zb.length-j)<n->i<a.za.length->j<a.zb.length->pT a 113 i j (iu a.rk a.za a.zb i j) fun g h=>g<i∨h<j:=by
 intro n;induction n with
 |zero=>intro i j q;omega
 |succ n e=>
  intro i j p c d;exact JB a k i j c d (Gt a k i j c d fun g f b=>e g j (by omega) b d)
   (Dn a k i j c d (fun h f b=>e i h (by omega) c b) fun m=>Es a k i j c d m fun g h f b o l=>e g h (by omega) b l)
def iK(zs:List Int)(x:Int):Bool:=decide (x∈zs)
theorem Jg(e:∀j,j<a->b[j]?.getD 0≠r)(c:b[a]?.getD 0≠r):∀j,j<a+1->b[j]?.getD 0≠r:=fun j f=>by
 by_cases d:j=a
 ·rw[d];exact c
 ·exact e j (by omega)
theorem Fg{a:List Int}{e:Int}{d:Nat}(b:d<a.length)(c:a[d]?.getD 0=e):iK a e=true:=by
 unfold iK;rw[dJ,<-c];simp[b]
theorem CV(e:∀j,j<b.length->b[j]?.getD 0≠r):iK b r=false:=by
 unfold iK;rw[kB];intro c;obtain⟨j,a,d⟩:=List.mem_iff_getElem.1 c;exact e j a (by simp[a,d])
theorem Mv(a:List Int)(f:Int)(w:Option Addr)(g:Nat)(n:World)(h:cZ n.heap.size n w a)(q:a.length<=maxLen):
 Calls Tryz.prog 182 #[.slice w a.length g,.int .i64 f] n fun o v=>∃k:Int,o=.returned (.int .i64 k)∧decide (0<=k)=iK a f∧v=n:=by
 unfold maxLen at q;go_enter Tryz.func182,Tryz.ntmps182;go_wp2;go_loop [8](fun s=>∃k:Nat,k<=a.length∧s=.int .i64 (k:Int)∧∀t,t<k->a[t]?.getD 0≠f)(fun s=>a.length-(intOf s).toNat)
 case atStart=>exact⟨0,bf _,rfl,fun t A=>by omega⟩
 case round=>
  obtain⟨k,B,rfl,b⟩:=hrel;by_cases d:k<a.length
  ·have p:(k:Int)<(a.length:Int):=by omega
   obtain⟨C,y,rfl,z,j⟩:=h.at (by omega);have x:=j k d;have l:=hid (Jg b);have m:=hid (@Fg a f k d);clear j h b;generalize a[k]?.getD 0=u at*;by_cases c:u=f
   ·have i:(f==u)=true:=by simp[c]
    have e:=hid c;clear c;go_wp2;go_ret;exact⟨_,rfl,by rw[m.out e.out];simp,rfl⟩
   ·have i:(f==u)=false:=by simp;exact fun o=>c o.symm
    have e:=hid c;clear c;go_wp2;go_round
    case rel=>exact⟨k+1,by omega,by go_num,l.out e.out⟩
    case measure=>simp[intOf];omega
  ·obtain rfl:k=a.length:=by omega
   have r:=hid (CV b);clear b;go_wp2;go_ret;exact⟨-1,rfl,by rw[r.out];rfl,rfl⟩
theorem Fi(a:List Int)(k:Int)(g:Option Addr)(b:Nat)(c:World)(h:cZ c.heap.size c g a)(i:a.length<=maxLen):
 Calls Tryz.prog 146 #[.slice g a.length b,.int .i64 k] c fun l j=>l=.returned (.bool (iK a k))∧j=c:=by
 have d:=Mv a k g b c h i;go_enter Tryz.func146,Tryz.ntmps146;go_wp2_with fail;refine d.mono ?_;rintro l c⟨m,rfl,e,rfl⟩;have f:=hid e;clear e d;go_wp2;go_ret;exact⟨kM f.out,rfl⟩
def da(rk:List Int):Int:=if rk.length=6 then(if(List.range 6).all (fun n=>iK rk (n:Int))=true then 0 else 3)else 1
theorem Gi{rk:List Int}(b:rk.length=6)(c:a<6)(e:iK rk (a:Int)=false):da rk=3:=by
 unfold da;rw[aD b,aE];intro d;rw[dD]at d;have:=d a (Rd.2 c)
 rw[e]at this;cases this
theorem Ec{rk:List Int}(a:rk.length=6)(c:∀n:Nat,n<6->iK rk (n:Int)=true):da rk=0:=by
 unfold da;rw[aD a,aD];rw[dD];exact fun n b=>c n (Rd.1 b)
theorem sB(rk:List Int)(p:Option Addr)(i:Nat)(k:World)(t:cZ k.heap.size k p rk):
 Calls Tryz.prog 111 #[.slice p rk.length i] k fun l A=>l=.returned (.int .i64 (da rk))∧A=k:=by
 by_cases e:rk.length=6
 ·have s:=hid (fun(z:Nat)=>Fi rk (z:Int) p i k t (by unfold maxLen;omega))
  have f:=hid (fun(z:Nat)(q:z<6)r=>Gi e q r);have h:=hid (Ec e);have o:((rk.length:Int)!=6)=false:=by simp;omega
  clear e;generalize da rk=C at*;go_enter Tryz.func111,Tryz.ntmps111;go_wp2;go_loop [7](fun y=>∃d:Nat,d<=6∧y=.int .i64 (d:Int)∧∀j:Nat,j<d->iK rk (j:Int)=true)(fun y=>6-(intOf y).toNat)
  case atStart=>exact⟨0,bf _,rfl,fun j w=>by omega⟩
  case round=>
   obtain⟨d,B,rfl,a⟩:=hrel;by_cases n:d<6
   ·have x:(d:Int)<6:=by omega
    have b:=s.out d;cases c:iK rk (d:Int)with
    |true=>
     rw[c]at b;have g:=hid (fun(j:Nat)(w:j<d+1)=>show iK rk (j:Int)=true by
      by_cases l:j=d
      ·rw[l];exact c
      ·exact a j (by omega))
     clear c a;go_wp2_with(go_at_call 146;refine b.mono ?_;rintro l k⟨rfl,rfl⟩)
     go_round
     case rel=>exact⟨d+1,by omega,by go_num,g.out⟩
     case measure=>simp[intOf];omega
    |false=>
     rw[c]at b;have u:=hid (f.out d n c);clear c a f;go_wp2_with(go_at_call 146;refine b.mono ?_;rintro l k⟨rfl,rfl⟩)
     go_ret;exact⟨by rw[u.out];rfl,rfl⟩
   ·obtain rfl:d=6:=by omega
    have v:=hid (h.out a);clear a;go_wp2;go_ret;exact⟨by rw[v.out];rfl,rfl⟩
 ·have o:((rk.length:Int)!=6)=true:=by simp;omega
  have m:da rk=1:=by unfold da;rw[aE e]
  rw[m];clear e m;go_enter Tryz.func111,Tryz.ntmps111;go_wp2;go_ret;exact⟨rfl,rfl⟩
def fC(rk za zb:List Int):Int:=if da rk=0 then(if Tm.err za=0 then Tm.err zb else Tm.err za)else da rk
def dj(rk za zb:List Int):Bool:=if fC rk za zb=0 then Cs (lN rk) za zb else false
theorem xb{rk:List Int}(b:da rk=0):rk.length=6:=by
 unfold da at b;by_cases a:rk.length=6
 ·exact a
 ·rw[aE a]at b;omega
theorem Md(a:World)(e h m c f k d g l:Nat)(rk i j:List Int)(q:cZ a.heap.size a (some ⟨e,h,none⟩) rk)(o:cZ a.heap.size a (some ⟨c,f,none⟩) i)(p:cZ a.heap.size a (some ⟨d,g,none⟩) j):
 lr ⟨a.heap.size+1,a.heap.size,e,h,m,c,f,k,d,g,l,rk,i,j⟩ ((a.alloc (.map #[] 0)).alloc (.cells #[.slice (some ⟨e,h,none⟩) rk.length m,.slice (some ⟨c,f,none⟩) i.length k,.slice (some ⟨d,g,none⟩) j.length l,.map (some a.heap.size)] 151)) (fun _=>none):=by
 have b:Below a.heap.size a ((a.alloc (.map #[] 0)).alloc (.cells #[.slice (some ⟨e,h,none⟩) rk.length m,.slice (some ⟨c,f,none⟩) i.length k,.slice (some ⟨d,g,none⟩) j.length l,.map (some a.heap.size)] 151)):=((ah _ a).alloc (af _) _).alloc (by simp) _;refine⟨?_,(q.below b).mono b.size,(o.below b).mono b.size,(p.below b).mono b.size,0,(qo.made _ a).eV (cM _ _ _ (by simp)),(fun _ _ _ n=>by cases n),bf _⟩;have n:=aM (a.alloc (.map #[] 0)) (.cells #[.slice (some ⟨e,h,none⟩) rk.length m,.slice (some ⟨c,f,none⟩) i.length k,.slice (some ⟨d,g,none⟩) j.length l,.map (some a.heap.size)] 151);rw[bI]at n;exact n
theorem pJ(rk a b:List Int)(M K L:Option Addr)(u l m:Nat)(p:World)(H:cZ p.heap.size p M rk)(F:cZ p.heap.size p K a)(G:cZ p.heap.size p L b)(r:a.length<=l)(h:l<=maxLen)(s:b.length<=m)(i:m<=maxLen):
 Calls Tryz.prog 84 #[.slice M rk.length u,.slice K a.length l,.slice L b.length m] p fun x I=>x=.returned (.tuple #[.bool (dj rk a b),.int .i64 (fC rk a b)])∧Below p.heap.size p I:=by
 have k:=sB rk M u p H;by_cases g:da rk=0
 ·rw[g]at k
  have q:=jn a K l p F;by_cases f:Tm.err a=0
  ·rw[f]at q
   have t:=hid (fun I(o:Below p.heap.size p I)=>jn b L m I ((G.below o).mono o.size));have c:fC rk a b=Tm.err b:=by unfold fC;rw[aD g,aD f]
   by_cases n:Tm.err b=0
   ·rw[n]at t c
    have j:dj rk a b=iu rk a b 0 0:=by
     unfold dj iu;rw[aD c,jV (fS f),jV (fS n)]
    rw[c,j];have N:=xb g;obtain⟨D,E,rfl,T,_⟩:=H.at (by omega);obtain⟨v,y,rfl,R,_⟩:=F.at (dU f);obtain⟨w,z,rfl,S,_⟩:=G.at (dU n);have C:=hid (fun(e:World)(o:Below p.heap.size p e)=>LK ⟨e.heap.size+1,e.heap.size,D,E,u,v,y,l,w,z,m,rk,a,b⟩ ⟨f,n,N,r,s,h,i⟩ _ 0 0 (mE _) (dU f) (dU n)
     ((e.alloc (.map #[] 0)).alloc (.cells #[.slice (some ⟨D,E,none⟩) rk.length u,.slice (some ⟨v,y,none⟩) a.length l,.slice (some ⟨w,z,none⟩) b.length m,.map (some e.heap.size)] 151)) (fun _=>none) (Md e D E u v y l w z m rk a b ((H.below o).mono o.size) ((F.below o).mono o.size) ((G.below o).mono o.size)))
    clear g f n N c j H F G r s h i;have U:=@q7 Tryz.prog;go_enter Tryz.func84,Tryz.ntmps84;go_wp2_with(first
     |(go_at_call 111;refine k.mono ?_;clear k;rintro x p⟨rfl,rfl⟩)
     |(go_at_call_of 112(Value.slice (some ⟨v,y,none⟩) a.length l);refine q.mono ?_;clear q;rintro x P⟨rfl,d⟩)
     |(go_at_call_of 112(Value.slice (some ⟨w,z,none⟩) b.length m);refine(t.out _ d).mono ?_;clear t;rintro x e⟨rfl,A⟩;have B:=d.trans (A.mono d.size);have hF:=hid (C.out e B);clear C)
     |(go_at_call 113;refine hF.out.mono ?_;clear hF;rintro x W⟨rfl,Q,_⟩))
    go_ret2
    have J:Below e.heap.size e ((e.alloc (.map #[] 0)).alloc (.cells #[.slice (some ⟨D,E,none⟩) rk.length u,.slice (some ⟨v,y,none⟩) a.length l,.slice (some ⟨w,z,none⟩) b.length m,.map (some e.heap.size)] 151)):=((ah _ e).alloc (af _) _).alloc (by simp) _;exact⟨rfl,B.trans ((J.trans ((Q.mono J.size).below (af _))).mono B.size)⟩
   ·have j:dj rk a b=false:=by unfold dj;rw[c,aE n]
    have O:(Tm.err b !=0)=true:=by simpa using n
    rw[c,j];clear g f n c j r s h i;generalize Tm.err b=V at*;go_enter Tryz.func84,Tryz.ntmps84;go_wp2_with fail;refine k.mono ?_;rintro x p⟨rfl,rfl⟩;go_wp2_with fail;refine q.mono ?_;rintro x P⟨rfl,d⟩;go_wp2_with fail;refine(t.out _ d).mono ?_;rintro x e⟨rfl,A⟩;go_wp2;go_ret2
    exact⟨rfl,d.trans (A.mono d.size)⟩
  ·have c:fC rk a b=Tm.err a:=by unfold fC;rw[aD g,aE f]
   have j:dj rk a b=false:=by unfold dj;rw[c,aE f]
   have O:(Tm.err a !=0)=true:=by simpa using f
   rw[c,j];clear g f c j r s h i;generalize Tm.err a=V at*;go_enter Tryz.func84,Tryz.ntmps84;go_wp2_with fail;refine k.mono ?_;rintro x p⟨rfl,rfl⟩;go_wp2_with fail;refine q.mono ?_;rintro x P⟨rfl,d⟩;go_wp2;go_ret2
   exact⟨rfl,d⟩
 ·have c:fC rk a b=da rk:=by unfold fC;rw[aE g]
  have j:dj rk a b=false:=by unfold dj;rw[c,aE g]
  have O:(da rk !=0)=true:=by simpa using g
  rw[c,j];clear g c j r s h i;generalize da rk=V at*;go_enter Tryz.func84,Tryz.ntmps84;go_wp2_with fail;refine k.mono ?_;rintro x p⟨rfl,rfl⟩;go_wp2;go_ret2
  exact⟨rfl,ah _ _⟩
def wM:List Int:=[0,1,2,3,4,5]
theorem Ff(d o:List Int)(u:Tm.err o=0):∀(n i k:Nat)(m c:uC),d.length-i=n->i<=d.length->ko d o i k->(∀x l,m x=some l->Tm.err l=0)->eD o (d.drop i) k m=some c->∀x l,c x=some l->Tm.err l=0:=by
 intro n;induction n with
 |zero=>
  intro i k m c t r e f b;obtain rfl:i=d.length:=by omega
  rw[eu,mO]at b;cases b;exact f
 |succ n q=>
  intro i k m c t r e f b;have a:i<d.length:=by omega
  have s:=e.pos a;rw[bZ a,eD]at b;by_cases h:d[i]<0
  ·rw[aD h]at b
   by_cases p:(m d[i]).isSome=true∧m d[i]≠some (cD o k)
   ·rw[aD p]at b;cases b
   ·rw[aE p]at b
    refine q (i+1) (Tm.dn o k) _ c (by omega) (by omega) (e.var a (by simpa [a]using h)) (fun x l g=>?_) b;by_cases v:x=d[i]
    ·subst v;rw[nC]at g;cases g;exact fD u s
    ·rw[my _ _ v]at g;exact f x l g
  ·rw[aE h]at b
   by_cases j:o[k]?.getD 0=d[i]
   ·rw[aD j]at b
    exact q (i+1) (k+1) m c (by omega) (by omega) (e.sym a (by simpa [a]using j)) f b
   ·rw[aE j]at b;cases b
theorem Ak:∀(l:List (List Int)),(∀c∈l,Tm.err c=0)->ez l=0:=by
 intro l;induction l with
 |nil=>intro _;rfl
 |cons c l b=>
  intro d;unfold ez;rw[aD (d c (by simp))];exact b (fun e a=>d e (by simp[a]))
theorem Kv(a:Nat)(b:a<8):Tm.err [-1-(a:Int)]=0:=by
 refine nQ (by simp) ?_ ?_
 ·simp[Tm.known];omega
 ·rw[show(1:Nat)=0+1 from rfl,Tm.fT,tg (by omega),Tm.gu];rfl
theorem sj{m:uC}(g:Tm.err b=0)(e:Tm.err d=0)(k:Tm.fit b d=some m):e7 (fH m 8)=0:=by
 have f:=Ff b d e _ 0 0 (fun _=>none) m rfl (by omega) (ko.start g e) (fun l i a=>by cases a) (by simpa [Tm.fit]using k);unfold e7;rw[aD (nr _ _)];refine Ak _ fun l a=>?_
 unfold fH at a;rw[Rl]at a;obtain⟨h,c,rfl⟩:=a;rw[Rd]at c;rw[aD c];cases j:m (-1-(h:Int))with
 |none=>exact Kv h c
 |some i=>exact f _ i j
theorem jQ{rk:List Int}(a:da rk=0)(c:Tm.err b=0)(e:Tm.err d=0):fC rk b d=0:=by unfold fC;rw[aD a,aD c,e]
theorem Cu{rk:List Int}(e:fC rk b d=0):da rk=0∧Tm.err b=0∧Tm.err d=0:=by
 unfold fC at e;by_cases a:da rk=0
 ·rw[aD a]at e
  by_cases c:Tm.err b=0
  ·rw[aD c]at e;exact⟨a,c,e⟩
  ·rw[aE c]at e;exact absurd e c
 ·rw[aE a]at e;exact absurd e a
theorem rh{rk:List Int}(a:fC rk b d=0):dj rk b d=true↔iw (lN rk) b d:=by
 unfold dj;rw[aD a];exact vh
theorem Nc{x:Int}(d:a<b.length):iK (b.take (a+1)) x=(iK (b.take a) x||(b[a]?.getD 0==x)):=by
 unfold iK;rw[qv d,ry];simp only[dJ,dZ,Rj,RR,RQ];exact⟨fun c=>c.imp id Eq.symm,fun c=>c.imp id Eq.symm⟩
theorem qC(rk:List Int)(G:Option Addr)(o:Nat)(u:World)(A:cZ u.heap.size u G rk):
 Calls Tryz.prog 53 #[.slice G rk.length o] u fun w F=>w=.returned (.int .i64 (da rk))∧F=u:=by
 by_cases f:rk.length=6
 ·have m:=hid (fun(a:Nat)(y:a<6)z=>Gi f y z)
  have i:=hid (Ec f);have t:((rk.length:Int)!=6)=false:=by simp;omega
  have I:(rk.length:Int)<=6:=by omega
  obtain⟨O,J,rfl,L,q⟩:=A.at (by omega);have v:=hid q;clear f q;generalize da rk=P at*;go_enter Tryz.func53,Tryz.ntmps53;go_wp2;go_loop [3](fun n=>∃a:Nat,a<=6∧n=.int .i64 (a:Int)∧∀l:Nat,l<a->iK rk (l:Int)=true)(fun n=>6-(intOf n).toNat)
  case atStart=>exact⟨0,bf _,rfl,fun l C=>by omega⟩
  case round=>
   obtain⟨a,N,rfl,g⟩:=hrel;have e:=hid g;clear g;by_cases s:a<6
   ·have E:(a:Int)<6:=by omega
    go_wp2;go_loop [4,5](fun K n=>∃d:Nat,d<=rk.length∧n=.int .i64 (d:Int)∧K=.bool (iK (rk.take d) (a:Int)))(fun _ n=>rk.length-(intOf n).toNat)
    case atStart=>exact⟨0,bf _,rfl,by simp[iK]⟩
    case round=>
     obtain⟨d,M,rfl,rfl⟩:=hrel;by_cases k:d<rk.length
     ·have D:(d:Int)<(rk.length:Int):=by omega
      have H:=v.out d k;have c:=hid (Nc (x:=(a:Int)) k);generalize rk[d]?.getD 0=Q at*;cases b:iK (rk.take d) (a:Int)with
      |true=>
       rw[b]at c;clear b;go_wp2;go_round
       case rel=>exact⟨d+1,by omega,by go_num,by rw[c.out];rfl⟩
       case measure=>simp[intOf];omega
      |false=>
       rw[b]at c;clear b;go_wp2;go_round
       case rel=>exact⟨d+1,by omega,by go_num,by rw[c.out];rfl⟩
       case measure=>simp[intOf];omega
     ·obtain rfl:d=rk.length:=by omega
      rw[cJ];cases j:iK rk (a:Int)with
      |true=>
       have h:=hid (fun l(C:l<a+1)=>show iK rk ((l:Nat):Int)=true by
        by_cases w:l=a
        ·rw[w];exact j
        ·exact e.out l (by omega))
       clear j;go_wp2;go_round
       case rel=>exact⟨a+1,by omega,by go_num,h.out⟩
       case measure=>simp[intOf];omega
      |false=>
       have p:=hid (m.out a s j);clear j;go_wp2;go_ret;exact⟨by rw[p.out];rfl,rfl⟩
   ·obtain rfl:a=6:=by omega
    have B:=hid (i.out e.out);go_wp2;go_ret;exact⟨by rw[B.out];rfl,rfl⟩
 ·have t:((rk.length:Int)!=6)=true:=by simp;omega
  have r:da rk=1:=by unfold da;rw[aE f]
  rw[r];clear f r;go_enter Tryz.func53,Tryz.ntmps53;go_wp2;go_ret;exact⟨rfl,rfl⟩
def nW(t:List Int)(k m:Nat):List Int:=(List.range m).map fun i=>(Tm.pos t k i:Int)
theorem wT(c:List Int)(b a:Nat):(nW c b a).length=a:=by simp[nW]
theorem Ez(c:List Int)(a b:Nat):nW c a (b+1)=nW c a b++[(Tm.pos c a b:Int)]:=by simp[nW,List.range_succ]
theorem CZ(d:List Int)(b:Nat)(e:a<c):(nW d b c)[a]?.getD 0=(Tm.pos d b a:Int):=by simp[nW,e]
theorem z6(c:Tm.err b=0)(d:a<b.length){m:Nat}(f:m<Tm.room (b[a]?.getD 0)):Tm.pos b a m<b.length:=by
 have g:=mL c d m (by omega);have e:=mY (fD c d) (m:=m) (by rw[j8 c d];exact f);rw[fZ c d]at e;have h:=gL c d;omega
theorem AT(a:List Int)(I:Option Addr)(f b:Nat)(d:World)(l:cZ d.heap.size d I a)(u:a.length<=f)(w:f<=maxLen)(j:Tm.err a=0)(r:b<a.length):
 Calls Tryz.prog 93 #[.slice I a.length f,.int .i64 (b:Int)] d fun t G=>∃v,t=.returned v∧cU d.heap.size G v (nW a b (Tm.room (a[b]?.getD 0)))∧Below d.heap.size d G:=by
 have L:=cK j;have H:(a.length:Int)<=30:=by omega
 have T:(b:Int)<(a.length:Int):=by omega
 have o:=iC (lM (fw j) r);have q:=hid (fun k(e:Below d.heap.size d k)X(K:X<a.length)=>xq a I f X k ((l.below e).mono e.size) u w j K);have s:=hid (fun c(A:c<Tm.room (a[b]?.getD 0))=>z6 j r A);have g:=hid (fun k(e:Below d.heap.size d k)=>((l.below e).mono e.size));have W:=Tm.room_le (a[b]?.getD 0);have D:=hid (fun k=>y9 (a[b]?.getD 0) k o);obtain⟨Yc,E,rfl,Yg,_⟩:=l.at (by omega);have y:=hid (fun k(e:Below d.heap.size d k)=>show k.cell? ⟨Yc,E+b,none⟩=some (.int .i64 (a[b]?.getD 0))by
  obtain⟨Yd,Q,t,_,J⟩:=g.out k e b r;cases t;exact J)
 clear l u w j o g;generalize O:Tm.room (a[b]?.getD 0)=F at*;clear O;generalize a[b]?.getD 0=Yl at*;go_enter Tryz.func93,Tryz.ntmps93;go_wp2;go_loopw [5,6,7](fun v Yh P wr=>∃c:Nat,c<=F∧P=.int .i64 (c:Int)∧Yh=.int .i64 (Tm.pos a b c:Int)∧cU d.heap.size wr v (nW a b c)∧Below d.heap.size d wr)(fun _ _ P _=>F-(intOf P).toNat)
 case atStart=>exact⟨0,bf _,rfl,by rw[Tm.iI];rfl,cU.nil _ _,ah _ _⟩
 case round=>
  obtain⟨c,A,rfl,rfl,p,h⟩:=hrel;obtain⟨Y,Ye,rfl,_⟩:=cU.ints p;have R:=y.out wr h;have V:(nW a b c).length<=2:=by rw[wT];omega
  by_cases z:c<F
  ·have M:(c:Int)<(F:Int):=by omega
   have N:=s.out c z;have C:=hid (Ez a b c);have B:=hid (Tm.jL a b c);go_wp2_with(first
    |(go_at_call 116;refine(D.out _).mono ?_;rintro t wr⟨rfl,rfl⟩)
    |(at_builtin;go_loud(refine pN _ rfl _ _ rfl d.heap.size _ (nW a b c) rfl (cU.alloc p _) wr.heap.size (Tm.pos a b c:Int) rfl (l0 _ _ _ _ rfl) (by omega) (by have:=h.size;simp;omega) ?_);intro Yi Yj n S x;obtain⟨Z,Yf,rfl,_⟩:=cU.ints n;have i:=(h.alloc h.size _).trans x)
    |(go_at_call 122;refine(q.out _ i _ N).mono ?_;rintro t Yk⟨rfl,m⟩))
   go_roundw
   case rel=>exact⟨c+1,by omega,by go_num,by rw[B.out],by rw[C.out];exact cU.below (by simpa using n) m,i.trans (m.mono i.size)⟩
   case measure=>simp[intOf];omega
  ·obtain rfl:c=F:=by omega
   have U:¬(c:Int)<(c:Int):=by omega
   go_wp2_with(first
    |(go_at_call 116;refine(D.out _).mono ?_;rintro t wr⟨rfl,rfl⟩))
   go_ret;exact⟨_,rfl,p,h⟩
def zL(W:World)(B:Nat)(f:Nat->Nat->Bool):Prop:=B<W.heap.size∧∀i j,i<30->j<30->W.cell? ⟨B,i*30+j,none⟩=some (.bool (f i j))∧W.frozen? ⟨B,i*30+j,none⟩=false
theorem zL.below{f:Nat->Nat->Bool}(c:zL e a f)(b:Below e.heap.size e u):zL u a f:=
 ⟨df c.1 b.size,fun h i d g=>⟨(b.cell (p:=⟨a,h*30+i,none⟩) c.1).trans (c.2 h i d g).1,(b.frozen (p:=⟨a,h*30+i,none⟩) c.1).trans (c.2 h i d g).2⟩⟩
theorem zL.drew(c:zL e a o)(b:Nat):zL (e.drewN b) a o:=c
def Fz(f:Nat->Nat->Bool)(i j:Nat)(v:Bool):Nat->Nat->Bool:=fun p q=>if p=i∧q=j then v else f p q
theorem yW(d:Nat->Nat->Bool)(a b:Nat)(c:Bool):Fz d a b c a b=c:=by simp[Fz]
theorem xz(b:Nat->Nat->Bool)(d:Bool)(e:a≠g∨c≠s):Fz b g s d a c=b a c:=by
 unfold Fz;rw[aE];rintro⟨rfl,rfl⟩;omega
theorem K9(c:Nat->Nat->Bool)(a b:Nat)(e d:Bool):Fz (Fz c a b e) a b d=Fz c a b d:=by
 funext f g
 simp only[Fz];split<;>rfl
theorem zL.set(h:zL e a o){i j:Nat}(k:i<30)(l:j<30)(v:Bool):zL (e.setCell ⟨a,i*30+j,none⟩ (.bool v)) a (Fz o i j v):=by
 refine⟨df h.1 (ef e _ _).size,fun p d b c=>⟨?_,by rw[qj];exact(h.2 p d b c).2⟩⟩;by_cases g:p=i∧d=j
 ·obtain⟨rfl,rfl⟩:=g
  rw[yW];exact RY _ _ _ (h.2 p d b c).1
 ·rw[xz _ _ (by omega),oi (h:=fun f=>by
   simp only[RC,oH,Se]at f;omega)]
  exact(h.2 p d b c).1
theorem zL.eq(c:zL e a o)(b:o=w):zL e a w:=b▸c
def AE(rk za zb:List Int)(n m p q:Nat):Bool:=if p<za.length∧q<zb.length∧(n<p∨(p=n∧m<=q))then iu rk za zb p q else false
def MA(rk za zb:List Int)(n p q:Nat):Bool:=if p<za.length∧q<zb.length∧n<=p then iu rk za zb p q else false
theorem Ly(rk b a:List Int)(d:Nat):MA rk b a (d+1)=AE rk b a d a.length:=by
 funext e f
 unfold MA AE;by_cases c:e<b.length∧f<a.length∧d+1<=e
 ·rw[aD c,aD ⟨c.1,c.2.1,by omega⟩]
 ·rw[aE c,aE (by omega)]
theorem O6(rk a b:List Int)(d:Nat):AE rk a b d 0=MA rk a b d:=by
 funext e f
 unfold MA AE;by_cases c:e<a.length∧f<b.length∧d<=e
 ·rw[aD ⟨c.1,c.2.1,by omega⟩,aD c]
 ·rw[aE (by omega),aE c]
theorem Nw{rk:List Int}(g:a<b.length)(h:c<d.length):Fz (AE rk b d a (c+1)) a c (iu rk b d a c)=AE rk b d a c:=by
 funext f i
 by_cases j:f=a∧i=c
 ·obtain⟨rfl,rfl⟩:=j
  rw[yW];unfold AE;rw[aD ⟨g,h,by omega⟩]
 ·rw[xz _ _ (by omega)]
  unfold AE;by_cases e:f<b.length∧i<d.length∧(a<f∨(f=a∧c<=i))
  ·rw[aD e,aD ⟨e.1,e.2.1,by omega⟩]
  ·rw[aE e,aE (by omega)]
theorem Nv(rk a b:List Int)(c d:Nat):AE rk a b c (d+1) c d=false:=by unfold AE;rw[aE (by omega)]
theorem Pt{rk:List Int}(e:a<b.length)(f:c<d.length)(h:g<a):AE rk b d g s a c=iu rk b d a c:=by unfold AE;rw[aD ⟨e,f,.inl h⟩]
theorem Pk{rk:List Int}(e:a<b.length)(f:c<d.length)(h:g<=c):AE rk b d a g a c=iu rk b d a c:=by unfold AE;rw[aD ⟨e,f,.inr ⟨rfl,h⟩⟩]
theorem zL.off{rk:List Int}(m:zL e g (Fz (AE rk b d a (c+1)) a c t)){p q:Nat}(i:p<b.length)(j:q<d.length)(h:a<p∨(p=a∧c<q))(k:p<30)(l:q<30):e.cell? ⟨g,p*30+q,none⟩=some (.bool (iu rk b d p q)):=by
 have f:=(m.2 p q k l).1;rw[xz _ _ (by omega)]at f;rcases h with h|⟨rfl,h⟩
 ·rw[Pt i j h]at f;exact f
 ·rw[Pk i j (by omega)]at f;exact f
theorem zL.on(h:zL e g (Fz o a c t))(d:a<30)(f:c<30):e.cell? ⟨g,a*30+c,none⟩=some (.bool t):=by
 have b:=(h.2 a c d f).1;rw[yW]at b;exact b
theorem Oe:Tryz.zeroCells128=(List.replicate 900 (Value.bool false)).toArray:=by kernel_rfl
theorem zL.new(e:World)(rk a c:List Int):zL (e.alloc (.cells Tryz.zeroCells128 128)) e.heap.size (MA rk a c a.length):=by
 refine⟨by simp,fun f g h i=>?_⟩;have b:=aM e (.cells Tryz.zeroCells128 128);have d:MA rk a c a.length f g=false:=by unfold MA;rw[aE (by omega)]
 rw[d];constructor
 ·rw[dp b,Oe]
  have:f*30+g<900:=by omega
  rw[List.getElem?_toArray,List.getElem?_replicate,aD this]
 ·unfold World.frozen?
  rw[b];simp
theorem Me(rk a b:List Int)(c d:Nat):AE rk a b c (d+1)=Fz (AE rk a b c (d+1)) c d false:=by
 funext f g
 by_cases e:f=c∧g=d
 ·obtain⟨rfl,rfl⟩:=e;rw[yW,Nv]
 ·rw[xz _ _ (by omega)]
