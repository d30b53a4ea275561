/-
  Parts of the proof.
-/
import Derived.Test.YtglohanbpjaieaaGreatDoorBdp23
import Derived.Shelf.Strings.OnBuilder
import Derived.Shelf.Small.Strs
import Derived.Shelf.Strconv.Itoa3
import Derived.Shelf.Strings.Shaped
import Derived.Shelf.Strings.Prefix
import Derived.Shelf.Strings.SplitShaped
import Derived.Shelf.Unicode.DecodeSlow
import Derived.Shelf.Strings.BuilderCap
set_option maxHeartbeats 2000000
set_option maxRecDepth 100000
namespace Go.Proofs.YtglohanbpjaieaaGreatDoor
open Go.Proofs Go.RowKit Go.Shelf Go.Maps
variable {A:Act}{B:Oper}{G:List UInt8}{I R:TypeId}{L:Exit->Act->World->Prop}{O:Array Oper}{P:Array Value}{Q:Nat×Nat}{S:Fence}{T:Act->World->Prop}{U:Bool}{V:List (List Int)}{b t H:Nat}{d u F:World}{e:bu}{f w D E:List Int}{h y K N:Int}{m J M:Value}{q:List (List UInt8)}{r z:bg}
theorem GO(c:dY f w≠0):ff f w=dY f w:=by
 unfold dY at c⊢;unfold ff;simp only[ez]at c⊢;by_cases a:Tm.err f=0
 ·rw[aD a]at c⊢
  rw[aD a];by_cases b:Tm.err w=0
  ·rw[aD b]at c;exact absurd rfl c
  ·rw[aE b,aE b]
 ·rw[aE a,aE a]
theorem Ex(c:dY f w=0):ff f w=(if f.any ei=true then 3 else if w.any ei=true then 3 else if f[0]?.getD 0<0 then 1 else if w.any (jN f)=true then 4 else 0):=by
 obtain⟨a,b⟩:=pE c;unfold ff;rw[aD a,aD b]
theorem qS(a:Below b d u)(c:Nat):Below b d (u.drewN c):=⟨a.os,a.tape,a.output,a.size,a.block⟩
theorem pS(g:bu)(YD:Option Addr)(Yh:Nat)(Yf:World)(Z:dw Yf.heap.size Yf YD g):
 Calls Tryz.prog 35 #[.slice YD g.length Yh] Yf fun F YC=>F=.returned (.int .i64 (cm g))∧Below Yf.heap.size Yf YC:=by
 by_cases R:8<g.length
 ·have Yk:(8:Int)<(g.length:Int):=by omega
  have O:cm g=2:=by unfold cm;rw[aD R]
  rw[O];clear R O Z;go_enter Tryz.func35,Tryz.ntmps35;go_wp2;go_ret;exact⟨rfl,ah _ _⟩
 ·have Yk:(g.length:Int)<=8:=by omega
  have O:cm g=gw g:=by unfold cm;rw[aE R]
  rw[O];clear O R;go_enter Tryz.func35,Tryz.ntmps35;go_wp2;go_loopw [3](fun Ye wr=>∃Q:Nat,Q<=g.length∧Ye=.int .i64 (Q:Int)∧Hid (gw g=gw (g.drop Q))∧Below Yf.heap.size Yf wr)(fun Ye _=>g.length-(intOf Ye).toNat)
  case atStart=>exact⟨0,bf _,rfl,hid rfl,ah _ _⟩
  case round=>
   obtain⟨Q,YM,rfl,s,G⟩:=hrel;obtain⟨u0,rfl⟩:∃u0,u0=wr:=⟨wr,rfl⟩;by_cases L:Q<g.length
   ·have YA:(Q:Int)<(g.length:Int):=by omega
    obtain⟨YR,YG,rfl,YL,o,b,c,d,Yy,Yz,X,Y,_⟩:=(Z.below G) Q L;have r:=hid (sW L);have h:=hid (vB L);obtain⟨e,Yl⟩:∃e,(g[Q]?.getD ([],[])).1=e:=⟨_,rfl⟩;obtain⟨f,Ym⟩:∃f,(g[Q]?.getD ([],[])).2=f:=⟨_,rfl⟩;rw[Yl]at Yy X r h;rw[Ym]at Yz Y r h;have w:Below u0.heap.size u0 (u0.alloc (.cells #[.slice o e.length b,.slice c f.length d] 70)):=(ah _ u0).alloc (af _) _;have A:=aM u0 (.cells #[.slice o e.length b,.slice c f.length d] 70);have Yj:(u0.alloc (.cells #[.slice o e.length b,.slice c f.length d] 70)).cell? ⟨u0.heap.size,0,none⟩=some (.slice o e.length b):=by rw[dp A];rfl
    have W:(u0.alloc (.cells #[.slice o e.length b,.slice c f.length d] 70)).cell? ⟨u0.heap.size,1,none⟩=some (.slice c f.length d):=by rw[dp A];rfl
    have M:u0.heap.size<(u0.alloc (.cells #[.slice o e.length b,.slice c f.length d] 70)).heap.size:=by simp
    have P:=((X.mono G.size).below w).mono w.size;have T:=((Y.mono G.size).below w).mono w.size;have l:=G.trans (w.mono G.size);have m:=hid (qA e f o c b d (u0.alloc (.cells #[.slice o e.length b,.slice c f.length d] 70)) P T);clear Yl Ym X Y Z A;by_cases x:dY e f=0
    ·obtain⟨Yd,Yo⟩:=pE x
     have YP:=cK Yd;have YQ:=cK Yo;have Yp:=dU Yd;have YI:(0:Int)<(e.length:Int):=by omega
     have YF:(f.length:Int)<=30:=by omega
     have a:=Ex x;rw[x]at m;have u:=hid (yA e o b (u0.alloc (.cells #[.slice o e.length b,.slice c f.length d] 70)) P (by unfold maxLen;omega));have v:=hid (yA f c d (u0.alloc (.cells #[.slice o e.length b,.slice c f.length d] 70)) T (by unfold maxLen;omega));obtain⟨i,j,rfl,_,Yi⟩:=P.at Yp;have Yw:=Yi 0 Yp;simp only[gp]at Yw;clear Yi x Yd Yo;have Yu:=hid (fun E(q:Below (u0.alloc (.cells #[.slice (some ⟨i,j,none⟩) e.length b,.slice c f.length d] 70)).heap.size (u0.alloc (.cells #[.slice (some ⟨i,j,none⟩) e.length b,.slice c f.length d] 70)) E)=>(P.below q).mono q.size);have Yv:=hid (fun E(q:Below (u0.alloc (.cells #[.slice (some ⟨i,j,none⟩) e.length b,.slice c f.length d] 70)).heap.size (u0.alloc (.cells #[.slice (some ⟨i,j,none⟩) e.length b,.slice c f.length d] 70)) E)=>(T.below q).mono q.size);have Yr:=hid (fun E(q:Below (u0.alloc (.cells #[.slice (some ⟨i,j,none⟩) e.length b,.slice c f.length d] 70)).heap.size (u0.alloc (.cells #[.slice (some ⟨i,j,none⟩) e.length b,.slice c f.length d] 70)) E)=>(q.cell (p:=⟨u0.heap.size,0,none⟩) M).trans Yj);have Yt:=hid (fun E(q:Below (u0.alloc (.cells #[.slice (some ⟨i,j,none⟩) e.length b,.slice c f.length d] 70)).heap.size (u0.alloc (.cells #[.slice (some ⟨i,j,none⟩) e.length b,.slice c f.length d] 70)) E)=>(q.cell (p:=⟨u0.heap.size,1,none⟩) M).trans W);clear P T;cases B:e.any ei with
     |true=>
      rw[B,aD rfl]at a;rw[B]at u;have n:=hid ((h.out (by rw[a];decide)).trans a);clear B a r h v;go_wp2_with(first
       |(go_at_call 59;refine m.out.mono ?_;clear m;rintro F t⟨rfl,rfl⟩)
       |(go_at_call 60;refine u.out.mono ?_;clear u;rintro F t⟨rfl,rfl⟩))
      go_ret;exact⟨rQ (s.out.trans n.out).symm,l⟩
     |false=>
      rw[B,aE (by decide)]at a;rw[B]at u;cases I:f.any ei with
      |true=>
       rw[I,aD rfl]at a;rw[I]at v;have n:=hid ((h.out (by rw[a];decide)).trans a);clear B I a r h;go_wp2_with(first
        |(go_at_call 59;refine m.out.mono ?_;clear m;rintro F t⟨rfl,rfl⟩)
        |(go_at_call_of 60(Value.slice (some ⟨i,j,none⟩) e.length b);refine u.out.mono ?_;clear u;rintro F t⟨rfl,rfl⟩)
        |(go_at_call_of 60(Value.slice c f.length d);refine v.out.mono ?_;clear v;rintro F t⟨rfl,rfl⟩))
       go_ret;exact⟨rQ (s.out.trans n.out).symm,l⟩
      |false=>
       rw[I,aE (by decide)]at a;rw[I]at v;clear B I;generalize e[0]?.getD 0=Yq at*;by_cases S:Yq<0
       ·rw[aD S]at a
        have n:=hid ((h.out (by rw[a];decide)).trans a);clear a r h;go_wp2_with(first
         |(go_at_call 59;refine m.out.mono ?_;clear m;rintro F t⟨rfl,rfl⟩)
         |(go_at_call_of 60(Value.slice (some ⟨i,j,none⟩) e.length b);refine u.out.mono ?_;clear u;rintro F t⟨rfl,rfl⟩)
         |(go_at_call_of 60(Value.slice c f.length d);refine v.out.mono ?_;clear v;rintro F t⟨rfl,rfl⟩))
        go_ret;exact⟨rQ (s.out.trans n.out).symm,l⟩
       ·rw[aE S]at a
        have YE:decide (Yq<0)=false:=by simpa using S
        have U:=hid a;clear a S;go_wp2_with(first
         |(go_at_call 59;refine m.out.mono ?_;clear m;rintro F t⟨rfl,rfl⟩)
         |(go_at_call_of 60(Value.slice (some ⟨i,j,none⟩) e.length b);refine u.out.mono ?_;clear u;rintro F t⟨rfl,rfl⟩)
         |(go_at_call_of 60(Value.slice c f.length d);refine v.out.mono ?_;clear v;rintro F t⟨rfl,rfl⟩))
        go_loopw [6](fun Ye E=>∃J:Nat,J<=f.length∧Ye=.int .i64 (J:Int)∧Hid ((f.take J).any (jN e)=false)∧Below (u0.alloc (.cells #[.slice (some ⟨i,j,none⟩) e.length b,.slice c f.length d] 70)).heap.size (u0.alloc (.cells #[.slice (some ⟨i,j,none⟩) e.length b,.slice c f.length d] 70)) E)(fun Ye _=>f.length-(intOf Ye).toNat)
        case atStart=>exact⟨0,bf _,rfl,hid (by simp),ah _ _⟩
        case round=>
         obtain⟨J,YN,rfl,K,k⟩:=hrel;have Yj:=Yr.out wr k;have W:=Yt.out wr k;by_cases N:J<f.length
         ·have YB:(J:Int)<(f.length:Int):=by omega
          obtain⟨YJ,YH,Yx,_,YK⟩:=(Yv.out wr k) J N;rw[Yx]at W;have y:=hid (xd (p:=jN e) N K.out);have D:=hid (zB (p:=jN e) N);have C:=hid (fun E(q:Below (u0.alloc (.cells #[.slice (some ⟨i,j,none⟩) e.length b,.slice c f.length d] 70)).heap.size (u0.alloc (.cells #[.slice (some ⟨i,j,none⟩) e.length b,.slice c f.length d] 70)) E)=>Dz e (f[J]?.getD 0) (some ⟨i,j,none⟩) b E (Yu.out E q) (by unfold maxLen;omega));generalize f[J]?.getD 0=Yg at*;by_cases Yc:Yg<0
          ·cases H:iK e Yg with
           |true=>
            rw[H]at C;have z:jN e Yg=false:=by unfold jN;rw[H];simp
            have V:=hid (y.out z);clear z H y D;go_wp2_with fail;go_quiet((go_at_call 61;exact ou (C.out _ (qS k _))))
            go_wp2;go_roundw
            case rel=>exact⟨J+1,by omega,by go_num,hid V.out,qS k _⟩
            case measure=>simp[intOf];omega
           |false=>
            rw[H]at C;have z:jN e Yg=true:=by unfold jN;rw[H,Rw Yc];rfl
            have a:=U.out;rw[D.out z,aD rfl]at a;have n:=hid ((h.out (by rw[a];decide)).trans a);clear z H y D a;go_wp2_with fail;go_quiet((go_at_call 61;exact ou (C.out _ (qS k _))))
            go_wp2;go_ret;exact⟨rQ (s.out.trans n.out).symm,l.trans ((qS k _).mono l.size)⟩
          ·have Yn:decide (Yg<0)=false:=by simpa using Yc
           have z:jN e Yg=false:=by unfold jN;rw[Yn];rfl
           have V:=hid (y.out z);clear z y D Yc;go_wp2_with fail;go_quiet(fail)
           go_wp2;go_roundw
           case rel=>exact⟨J+1,by omega,by go_num,hid V.out,qS k _⟩
           case measure=>simp[intOf];omega
         ·obtain rfl:J=f.length:=by omega
          rw[cJ]at K;have a:=U.out;rw[K.out,aE (by decide)]at a;have n:=hid (r.out a);clear a;go_wp2;go_roundw
          case rel=>exact⟨Q+1,by omega,by go_num,hid (s.out.trans n.out),l.trans (k.mono l.size)⟩
          case measure=>simp[intOf];omega
    ·have YO:(dY e f !=0)=true:=by simpa using x
     have a:=GO x;have n:=hid ((h.out (by rw[a];exact x)).trans a);clear x a r h;generalize dY e f=YS at*;go_wp2_with(first
      |(go_at_call 59;refine m.out.mono ?_;clear m;rintro F t⟨rfl,rfl⟩))
     go_ret;exact⟨rQ (s.out.trans n.out).symm,l⟩
   ·obtain rfl:Q=g.length:=by omega
    go_wp2;go_ret;exact⟨by rw[s.out,eu];rfl,G⟩
theorem Df(e:List Int):∀n,Tm.run (bw e) n=Tm.run e n:=by
 induction e with
 |nil=>intro n;rfl
 |cons b f d=>
  intro n;cases n with
  |zero=>rw[Tm.gu,Tm.gu]
  |succ n=>
   show Tm.run (nB b::bw f) (n+1)=_;have c:Tm.room (nB b)=Tm.room b:=by
    unfold nB;by_cases a:b<0
    ·rw[aD a,Wb.lV a,Wb.lV (by omega)]
    ·rw[aE a]
   rw[Tm.fT,Tm.fT,c,d]
theorem nc(b:Tm.err f=0)(d:f.any ei=false):Tm.err (bw f)=0:=by
 refine nQ (by rw[kV];exact cK b) ?_ (by rw[Df,kV];exact fS b);rw[dD];intro j e;obtain⟨i,a,rfl⟩:=Rl.1 e;obtain⟨g,h⟩:=jU b a;have c:=kD.1 d i a;simp only[ei,dJ]at c;refine te ?_ ?_<;>(unfold nB;split<;>omega)
theorem fs.bad(a:fs r h U V)(c:du r=0)(b:h≠0):h=2:=by
 rcases a with⟨d,_⟩|⟨_,_,a,_⟩|⟨_,_,_,_,a,_⟩|⟨_,_,_,_,a,_⟩
 ·exact absurd c d
 ·exact absurd a b
 ·exact absurd a b
 ·exact a
theorem sl.two{pass:Nat->Bool}(m:sl f w D E pass h)(e:Tm.err f=0)(l:Tm.err w=0)(k:Tm.err D=0)(g:Tm.err E=0):h=2:=by
 obtain⟨i,r,q,j,n,o,⟨p,val,c⟩|⟨val,c,a⟩⟩:=m
 ·exact c.bad (by rw[ug,oP];exact⟨fD e j,k⟩) i
 ·obtain⟨d,_⟩:=zm c
  rcases BN (val:=val) d e l g j with⟨_,_,b,_⟩|⟨_,b⟩
  ·rw[b]at a;exact absurd a.symm i
  ·rw[b]at a;exact a.symm
theorem kr.one{pass:Nat->Bool}(n:kr f w D E pass h r)(b:kr f w D E pass y z)(d:Tm.err f=0)(g:Tm.err w=0)(e:Tm.err D=0)(a:Tm.err E=0):h=y∧r=z:=by
 have l:=n;rcases n with⟨rfl,c⟩|⟨i,rfl⟩
 ·obtain⟨k,m⟩:=b.right c
  exact⟨k.symm,m.symm⟩
 ·have o:=b
  rcases b with⟨rfl,c⟩|⟨j,rfl⟩
  ·obtain⟨k,m⟩:=l.right c
   exact absurd k i.1
  ·rw[i.two d g e a,j.two d g e a]
   exact⟨rfl,rfl⟩
theorem fi.one(x:fi e h y K r)(n:fi e h y N z):K=N∧r=z:=by
 rcases x with⟨a,rfl,rfl⟩|⟨a,d,rfl,rfl⟩|⟨a,q,s,o,p,rfl,rfl,d⟩<;>rcases n with⟨b,rfl,rfl⟩|⟨b,f,rfl,rfl⟩|⟨b,t,u,A,B,v,w,f⟩
 ·exact⟨rfl,rfl⟩
 ·exact absurd b a
 ·exact absurd b a
 ·exact absurd a b
 ·exact⟨rfl,rfl⟩
 ·exact absurd ⟨by omega,by omega,by omega,by omega⟩ d
 ·exact absurd a b
 ·exact absurd ⟨by omega,by omega,by omega,by omega⟩ f
 ·obtain rfl:q=t:=by omega
  obtain rfl:s=u:=by omega
  obtain⟨_,c⟩:=dV a;obtain⟨j,k,_⟩:=eo (c q o);obtain⟨g,i,l,m,_⟩:=eo (c s p);exact d.one f j k (nc g l) (nc i m)
def NC(rs:bu)(i j:Int)(w:World)(e:Ending)(w':World):Prop:=Below w.heap.size w w'∧∃er ps v,fi rs i j er ps∧e=.returned (.tuple #[v,.int .i64 er])∧mn w.heap.size w' v ps
theorem Aa(a:bu)(f g:Nat)(h:f<a.length)(i:g<a.length)(m:Option Addr)(c:Nat)(k:World)(j:cm a=0)(v:dw k.heap.size k m a):
 Calls Tryz.prog 117 #[.slice m a.length c,.int .i64 (f:Int),.int .i64 (g:Int)] k fun y l=>NC a (f:Int) (g:Int) k y l:=by
 obtain⟨s,b⟩:=dV j;obtain⟨n,o,_⟩:=eo (b f h);obtain⟨d,e,q,r,_⟩:=eo (b g i);refine(Gm (a[f]?.getD ([],[])).1 (a[f]?.getD ([],[])).2 (a[g]?.getD ([],[])).1 (a[g]?.getD ([],[])).2 a f g h i m c k s v rfl rfl n o d e (nc d q) (nc e r)).mono ?_;rintro y l⟨t,p,x,z,w,rfl,u⟩;exact⟨t,p,x,z,.inr (.inr ⟨j,f,g,h,i,rfl,rfl,w⟩),rfl,u⟩
theorem fi.Q7(b:fi e h y K r):r.length<=1000:=by
 rcases b with⟨_,_,rfl⟩|⟨_,_,_,rfl⟩|⟨d,f,i,c,_,_,_,⟨_,b⟩|⟨_,rfl⟩⟩
 ·simp
 ·simp
 ·have g:=b.len
  obtain⟨a,_⟩:=eo ((dV d).2 f c);have:=cK a
  omega
 ·simp
theorem iJ.pre(d:iJ e b t r):(∀i j,j<=e.length->(i<b∨(i=b∧j<=t))->∃l,iJ e i j l∧l.length<=r.length)∧(∀i j,j<e.length->(i<b∨(i=b∧j<t))->∃ps,fi e (i:Int) (j:Int) 0 ps):=by
 induction d with
 |zero=>
  refine⟨fun i j _ d=>?_,fun i j _ d=>by omega⟩;obtain⟨rfl,rfl⟩:i=0∧j=0:=by omega
  exact⟨[],.zero,af _⟩
 |@next b t k ps d n h c=>
  refine⟨fun i j a f=>?_,fun i j a f=>?_⟩
  ·by_cases g:i=b∧j=t+1
   ·obtain⟨rfl,rfl⟩:=g
    exact⟨_,.next d n h,af _⟩
   ·obtain⟨l,m,o⟩:=c.1 i j a (by omega)
    exact⟨l,m,by rw[ai];omega⟩
  ·by_cases g:i=b∧j=t
   ·obtain⟨rfl,rfl⟩:=g
    exact⟨ps,h⟩
   ·exact c.2 i j a (by omega)
 |@row b k d c=>
  refine⟨fun i j a f=>?_,fun i j a f=>?_⟩
  ·by_cases g:i=b+1
   ·subst g
    obtain rfl:j=0:=by omega
    exact⟨_,.row d,af _⟩
   ·exact c.1 i j a (by omega)
  ·exact c.2 i j a (by omega)
theorem fi.bad(w:fi e (b:Int) (t:Int) h r)(x:b<e.length)(y:t<e.length)(p:h≠0):h=if cm e=0 then 2 else cm e:=by
 rcases w with⟨a,rfl,_⟩|⟨a,d,_,_⟩|⟨a,q,s,n,o,u,v,d⟩
 ·rw[aE a]
 ·exact absurd ⟨by omega,by omega,by omega,by omega⟩ d
 ·rw[aD a]
  obtain⟨_,c⟩:=dV a;obtain⟨j,k,_⟩:=eo (c q n);obtain⟨g,i,l,m,_⟩:=eo (c s o);rcases d with⟨f,_⟩|⟨f,_⟩
  ·exact absurd f p
  ·exact f.two j k (nc g l) (nc i m)
theorem iJ.one(j:iJ e b t r):b<=e.length->∀{a},iJ e b t a->r=a:=by
 induction j with
 |zero=>intro _ a c;cases c;rfl
 |@next b t i m j l k f=>
  intro g a c;cases c with
  |next d _ h=>rw[f g d,(k.one h).2]
 |@row b i j f=>
  intro g a c;cases c with
  |row d=>exact f (by omega) d
def pg(rs:bu)(er:Int)(ps:bg):Prop:=jF rs er ps∨(cm rs=0∧er=2∧ps=[]∧∃i j l,i<rs.length∧j<=rs.length∧iJ rs i j l∧40<l.length)
theorem jF.one(p:jF e h r)(q:jF e y z):h=y∧r=z:=by
 have l:∀{C:bg}{w x:Nat}{h:Int}{o:bg},iJ e e.length 0 C->w<e.length->x<e.length->fi e (w:Int) (x:Int) h o->h≠0->False:=fun u c d f b=>by
  obtain⟨r,p⟩:=u.pre.2 _ _ d (.inl c);exact b (f.one p).1
 rcases p with⟨F,m,v⟩|⟨w,x,F,o,c,d,m,f,b,rfl⟩<;>rcases q with⟨A,a,n⟩|⟨D,E,A,B,i,j,a,k,g,rfl⟩
 ·obtain rfl:=m.one (af _) a
  rcases v with⟨s,rfl,rfl⟩|⟨s,rfl,rfl⟩<;>rcases n with⟨t,rfl,rfl⟩|⟨t,rfl,rfl⟩
  ·exact⟨rfl,rfl⟩
  ·omega
  ·omega
  ·exact⟨rfl,rfl⟩
 ·exact(l m i j k g).elim
 ·exact(l a c d f b).elim
 ·exact⟨by rw[f.bad c d b,k.bad i j g],rfl⟩
theorem jF.ref(o:jF e h r)(a:pg e y z):h=y∧r=z:=by
 rcases a with a|⟨m,rfl,rfl,t,u,D,j,k,l,p⟩
 ·exact o.one a
 ·rcases o with⟨A,d,⟨b,rfl,rfl⟩|⟨b,rfl,rfl⟩⟩|⟨B,C,w,x,f,g,q,n,i,rfl⟩
  ·obtain⟨v,c,s⟩:=d.pre.1 t u k (.inl j)
   obtain rfl:=l.one (by omega) c;omega
  ·exact⟨rfl,rfl⟩
  ·exact⟨by rw[n.bad f g i,aD m],rfl⟩
theorem Ay{rest:List Oper}(m:World)(t:B.guard=none)(Yc Ye:Operand)
 (P:B.op=.call {callee:=.builtin .append,args:=#[Yc,Ye],argTypes:=#[30,30]})(base:Nat)(Y:Value)(a:bg)(Q:A.eval Yc=Y)(Yi:mn base m Y a)
 (Z:Value)(b:bg)(S:A.eval Ye=Z)(Yh:mn base m Z b)(Yj:a.length+b.length<=100000)(d:base<=m.heap.size)
 (E:∀q w',mn base w' q (a++b)->Below base m w'->wpList Tryz.prog O L rest (A.put B.dst q) w'):wpList Tryz.prog O L (B::rest) A m:=by
 obtain⟨W,K,T,U,V⟩:=fh Tryz.uK;obtain⟨l,h,I⟩:=Yi;obtain⟨f,x,X⟩:=Yh;have R:l.length=a.length*2:=h.1;have Yl:f.length=b.length*2:=x.1;have n:∀Yd∈f,∃A Yr Yp,Yd=.slice A Yr Yp:=fun Yd w=>by
  obtain⟨p,c,D⟩:=gQ w;have N:p/2<b.length:=by omega
  obtain⟨Yf,s,r,g,i,j,_⟩:=X (p/2) N;rcases jY p with Yg|Yg
  ·rw[show p/2*2=p by omega,an c,D]at i
   cases i;exact⟨_,_,_,rfl⟩
  ·rw[show p/2*2+1=p by omega,an c,D]at j
   cases j;exact⟨_,_,_,rfl⟩
 rcases x.2 with⟨rfl,Yk⟩|⟨Yq,F,H,rfl,u,Yn,Yt,Yu,Yv⟩
 ·obtain rfl:b=[]:=bJ Yk
  refine ij t Yc Ye 30 P base 79 W 2 Tryz.rT K Y a.length l Q h S (E Y m (by rw[cW];exact⟨l,h,I⟩) (ah _ _))
 ·refine fN m t Yc Ye 30 P base 79 W (.agg #[.slice none 0 0,.slice none 0 0]) 2 48 Tryz.rT K T U V rfl (by decide) Y a.length l Q h ⟨Yq,0,none⟩ b.length F f S (by omega)
   (by intro k Yw o
       have e:k<b.length*2:=by
        have:=(ig.1 o).1
        omega
       rw[cz];have:=dI x k e
       rw[o]at this;simpa using this)
   (by intro Yd w;obtain⟨_,_,_,rfl⟩:=n Yd w;rfl) (by unfold maxLen;omega) (by omega) d ?_
  intro q w' v J _;have c:∀C,base<=C->(∃G Yo,m.heap[C]?=some (.cells G 3 Yo))->w'.heap[C]?=m.heap[C]?:=fun C _⟨G,Yo,u⟩=>J.block C (ak.1 u).1 fun D=>by
   obtain⟨H,E⟩:=uA h D.symm;rw[u]at E;simp only[dx,fU]at E;exact absurd E.2.1 (by decide)
  refine E q w' ⟨l++f,by simpa using v,fun k o=>?_⟩ ((ah base m).grown J d (fun p D=>(bn h p D).1));by_cases e:k<a.length
  ·obtain⟨Yf,s,r,g,i,j,y,z,Ym⟩:=I k e
   rw[aV e,aV (by omega),aV (by omega)];exact⟨Yf,s,r,g,i,j,y.eV c,z.eV c,Ym⟩
  ·have M:k-a.length<b.length:=by rw[ai]at o;omega
   obtain⟨Yf,s,r,g,i,j,y,z,Ym⟩:=X (k-a.length) M;rw[aU (by omega),aU (by omega),aU (by omega),R];rw[show k*2-a.length*2=(k-a.length)*2 by omega,show k*2+1-a.length*2=(k-a.length)*2+1 by omega];exact⟨Yf,s,r,g,i,j,y.eV c,z.eV c,Ym⟩
theorem Bb(a:bu)(P:Option Addr)(y:Nat)(m:World)(C:cm a=0)(J:dw m.heap.size m P a):
 Calls Tryz.prog 89 #[.slice P a.length y] m fun X N=>Below m.heap.size m N∧∃i ps v,pg a i ps∧X=.returned (.tuple #[v,.int .i64 i])∧mn m.heap.size N v ps:=by
 have Ye:=(dV C).1;have Y:(a.length:Int)<=8:=by omega
 have O:=hid J;have G:=hid C;clear J C;go_enter Tryz.func89,Tryz.ntmps89;go_wp2;go_loopw [4,5](fun v D wr=>∃(n:Nat)(h:bg),n<=a.length∧D=.int .i64 (n:Int)∧h.length<=40∧Hid (iJ a n 0 h)∧Hid (mn m.heap.size wr v h)∧Hid (Below m.heap.size m wr))(fun _ D _=>a.length-(intOf D).toNat)
 case atStart=>exact⟨0,[],bf _,rfl,by simp,.zero,mn.nil _ _,ah _ _⟩
 case round=>
  obtain⟨n,h,Yf,rfl,c,j,e,d⟩:=hrel;by_cases r:n<a.length
  ·have R:(n:Int)<(a.length:Int):=by omega
   obtain⟨L,M,rfl,_⟩:=e.out.at;go_wp2;go_loopw [4,6](fun v D wr=>∃(t:Nat)(h:bg),t<=a.length∧D=.int .i64 (t:Int)∧h.length<=40∧Hid (iJ a n t h)∧Hid (mn m.heap.size wr v h)∧Hid (Below m.heap.size m wr))(fun _ D _=>a.length-(intOf D).toNat)
   case atStart=>exact⟨0,h,bf _,rfl,c,j,e,d⟩
   case round=>
    clear j e d c;obtain⟨t,h,Yg,rfl,c,j,e,d⟩:=hrel;obtain⟨L,M,rfl,_⟩:=e.out.at;by_cases l:t<a.length
    ·have S:(t:Int)<(a.length:Int):=by omega
     have I:=hid (Aa a n t r l P y wr G.out ((O.out.below d.out).mono d.out.size));go_wp2_with fail;refine I.out.mono ?_;rintro X Yi⟨z,i,ps,Yh,s,rfl,p⟩;clear I;obtain⟨Yj,Yk,rfl,_⟩:=p.at;have g:=hid (d.out.trans (z.mono d.out.size));have A:=hid (e.out.below z);have q:=hid (p.mono d.out.size);clear e p;by_cases u:i=0
     ·subst u
      have o:=hid (iJ.next j.out l s);have Yc:=s.Q7;obtain⟨x,w⟩:∃x,h++ps=x:=⟨_,rfl⟩;rw[w]at o;have F:=hid w;have Yd:(x.length:Int)<=2000:=by rw[<-w,ai];omega
      clear s w;by_cases H:40<x.length
      ·have B:(40:Int)<(x.length:Int):=by omega
       go_wp2_with(at_builtin;refine Ay _ rfl _ _ rfl m.heap.size _ h rfl A.out _ ps rfl q.out (by omega) g.out.size ?_;intro T U b f;rw[F.out]at b;obtain⟨V,W,rfl,_⟩:=b.at;have k:=hid (g.out.trans f);clear b f)
       go_ret2
       exact⟨k.out,2,[],_,.inr ⟨G.out,rfl,rfl,n,t+1,x,r,l,o.out,H⟩,rfl,mn.nil _ _⟩
      ·have B:decide ((40:Int)<(x.length:Int))=false:=by simp;omega
       have Q:decide (40<x.length)=false:=by simp;omega
       go_wp2_with(at_builtin;refine Ay _ rfl _ _ rfl m.heap.size _ h rfl A.out _ ps rfl q.out (by omega) g.out.size ?_;intro T U b f;rw[F.out]at b;obtain⟨V,W,rfl,_⟩:=b.at;have E:=hid b;have k:=hid (g.out.trans f);clear b f)
       go_roundw
       case rel=>exact⟨t+1,x,by omega,by go_num,by omega,o,E,k⟩
       case measure=>simp[intOf];omega
     ·have Z:(i !=0)=true:=by simpa using u
      have K:Hid (pg a i []):=.inl (.inr ⟨n,t,h,ps,r,l,j.out,s,u,rfl⟩);clear u s;go_wp2;go_ret2
      exact⟨g.out,i,[],_,K.out,rfl,mn.nil _ _⟩
    ·obtain rfl:t=a.length:=by omega
     go_wp2;go_roundw
     case rel=>exact⟨n+1,h,by omega,by go_num,c,.row j.out,e,d⟩
     case measure=>simp[intOf];omega
  ·obtain rfl:n=a.length:=by omega
   obtain⟨L,M,rfl,_⟩:=e.out.at;go_wp2;go_ret2
   exact⟨d.out,0,h,_,.inl (.inl ⟨h,j.out,.inl ⟨c,rfl,rfl⟩⟩),rfl,e.out⟩
theorem A2(a:bu)(p:Option Addr)(d:Nat)(i:World)(g:dw i.heap.size i p a):
 Calls Tryz.prog 57 #[.slice p a.length d] i fun q o=>Below i.heap.size i o∧∃f ps v,pg a f ps∧q=.returned (.tuple #[v,.int .i64 f])∧mn i.heap.size o v ps:=by
 have e:=hid (pS a p d i g);by_cases c:cm a=0
 ·rw[c]at e
  have m:=hid (fun u(n:Below i.heap.size i u)=>Bb a p d u c ((g.below n).mono n.size));clear c g;go_enter Tryz.func57,Tryz.ntmps57;go_wp2_with fail;refine e.out.mono ?_;rintro q t⟨rfl,b⟩;clear e;go_wp2_with fail;refine(m.out _ b).mono ?_;rintro q y⟨l,f,ps,v,h,rfl,k⟩;obtain⟨C,z,rfl,_⟩:=k.at;have s:=hid h;have r:=hid k;clear m h k;go_wp2;go_ret2
  exact⟨b.trans (l.mono b.size),f,ps,_,s.out,rfl,r.out.mono b.size⟩
 ·have w:(cm a !=0)=true:=by simpa using c
  have j:0<a.length:=by
   cases a with
   |nil=>exact absurd rfl c
   |cons B A=>simp
  have h:Hid (pg a (cm a) []):=.inl (.inr ⟨0,0,[],[],j,j,.zero,.inl ⟨c,rfl,rfl⟩,c,rfl⟩);clear c g j;generalize cm a=x at*;go_enter Tryz.func57,Tryz.ntmps57;go_wp2_with fail;refine e.out.mono ?_;rintro q t⟨rfl,b⟩;clear e;go_wp2;go_ret2
  exact⟨b,x,[],_,h.out,rfl,mn.nil _ _⟩
def kj:List UInt8:=[99,108,111,115,101]
def jO:List UInt8:=[114,117,108,101,115]
def mA:List UInt8:=[109,101,101,116]
def nI:List UInt8:=[102,111,114,109]
def nh:List UInt8:=[115,97,109,101]
def kS:List UInt8:=[97,98,111,118,101]
def pK:List UInt8:=[115,97,121]
def mr:List UInt8:=[114,117,108,101]
def qY(b:Bool):List UInt8:=if b then [121,101,115]else [110,111]
def OJ:List UInt8:=[111,107]
def tK:List UInt8:=[101,114,114,111,114,32]
def kh(t:List Int)(l:List UInt8):Prop:=∃x:Tr,x.ok∧x.ow∧x.flat=t∧x.flat.length<=30∧l=x.show
theorem kh.one{l:List UInt8}(p:kh f l)(k:kh f G):l=G:=by
 obtain⟨q,e,d,m,g,rfl⟩:=p;obtain⟨o,h,c,i,j,rfl⟩:=k;rcases s9 (l:=q.show) e d (Tr.FA d).symm g with⟨_,n⟩|⟨n,_⟩
 ·rcases s9 (l:=o.show) e d (by rw[Tr.FA c,i,m]) g with⟨b,_⟩|⟨_,b⟩
  ·exact b
  ·rcases s9 (l:=o.show) h c (Tr.FA c).symm j with⟨_,a⟩|⟨a,_⟩
   ·rw[b]at a
    simp at a
   ·exact absurd rfl a
 ·exact absurd rfl n
def fg:bu->List (List UInt8)->Prop
 |[],ss=>ss=[]
 |r::rs,ss=>∃a b Mz,kh r.1 a∧kh r.2 b∧ss=(a++[32,62,32]++b)::Mz∧fg rs Mz
theorem fg.one:∀{rs:bu}{b a:List (List UInt8)},fg rs b->fg rs a->b=a
 |[],_,_,j,f=>j.trans f.symm
 |_::_,_,_,⟨_,_,_,g,h,rfl,i⟩,⟨_,_,_,c,d,rfl,e⟩=>by rw[g.one c,h.one d,i.one e]
def dm(E:bg)(R:bu)(ws:List (List UInt8))(E':bg)(R':bu)(out:List UInt8)(er:Int):Prop:=
 match ws with
 |[w]=>
  if w=kj then E'=E∧∃rs n,jC wM E er rs n∧R'=(if er=0 then rs else R)∧(er=0->out=Lib.decDigits rs.length++[32]++Lib.decDigits n)
  else if w=jO then E'=E∧R'=R∧er=0∧∃ss,fg R ss∧out=(if R=[]then [45]else Lib.join ss [59,32])
  else if w=mA then E'=E∧R'=R∧∃is,mJ R is er∧(er=0->out=qY is)
  else E'=E∧R'=R∧er=1
 |[w,a]=>
  if w=nI∧(aO a).2=0 then E'=E∧R'=R∧er=(bU R (aO a).1).2.2∧(er=0->∃l,kh (bU R (aO a).1).1 l∧out=l++[32]++Lib.decDigits (bU R (aO a).1).2.1)
  else E'=E∧R'=R∧er=1
 |[w,a,b]=>
  if w=nh∧(aO a).2=0∧(aO b).2=0 then E'=E∧R'=R∧er=dF R (aO a).1 (aO b).1∧(er=0->out=qY (fX R (aO a).1 (aO b).1))
  else if w=kS∧(aO a).2=0∧(aO b).2=0 then E'=E∧R'=R∧er=fC wM (aO a).1 (aO b).1∧(er=0->out=qY (dj wM (aO a).1 (aO b).1))
  else E'=E∧R'=R∧er=1
 |[w,a,m,b]=>
  if w=pK∧m=[61]∧(aO a).2=0∧(aO b).2=0 then R'=R∧er=fQ (E++[((aO a).1,(aO b).1)])∧E'=(if er=0 then E++[((aO a).1,(aO b).1)]else E)∧out=OJ
  else if w=mr∧m=[62]∧(aO a).2=0∧(aO b).2=0 then E'=E∧er=cm (R++[((aO a).1,(aO b).1)])∧R'=(if er=0 then R++[((aO a).1,(aO b).1)]else R)∧out=OJ
  else E'=E∧R'=R∧er=1
 |_=>E'=E∧R'=R∧er=1
def sf(er:Int):List PanicEntry:=[{v:=.iface 22 (.int .i64 er),recovered:=false}]
theorem s8(b:World):Calls Tryz.prog 74 #[.int .i64 0] b fun c a=>c=.returned (.tuple #[])∧a=b:=by
 go_enter Tryz.func74,Tryz.ntmps74;go_wp2;go_end0
 exact⟨rfl,rfl⟩
theorem r8(a:Int)(c:a≠0)(e:World):Calls Tryz.prog 74 #[.int .i64 a] e fun f b=>f=.panicked (sf a)∧b=e:=by
 have d:(a !=0)=true:=by simpa using c
 clear c;go_enter Tryz.func74,Tryz.ntmps74;go_wp2;exact⟨rfl,rfl,rfl⟩
theorem wG(a:Bool)(c:World):Calls Tryz.prog 82 #[.bool a] c fun d b=>d=.returned (.string ⟨(if a then [121,101,115]else [110,111]:List UInt8).toArray⟩)∧b=c:=by
 cases a
 all_goals(
  go_enter Tryz.func82,Tryz.ntmps82;go_wp2;go_ret;exact⟨rfl,rfl⟩)
theorem DZ(g:World):Calls Tryz.prog 77 #[] g fun z h=>∃x c,z=.returned (.slice x 6 c)∧cZ h.heap.size h x wM∧6<=c∧c<=maxLen∧Below g.heap.size g h:=by
 go_enter Tryz.func77,Tryz.ntmps77;go_wp2;go_loopw [1,3](fun t u wr=>∃a:Nat,a<=6∧u=.int .i64 (a:Int)∧cU g.heap.size wr t (wM.take a)∧Below g.heap.size g wr)(fun _ u _=>6-(intOf u).toNat)
 case atStart=>exact⟨0,bf _,rfl,cU.nil _ _,ah _ _⟩
 case round=>
  obtain⟨a,B,rfl,f,b⟩:=hrel;obtain⟨v,w,rfl,l,m,n⟩:=cU.ints f;by_cases y:a<6
  ·have r:(a:Int)<6:=by omega
   have k:(wM.take a).length=a:=by rw[cX];unfold wM;simp;omega
   have e:Below wr.heap.size wr (wr.alloc (.cells #[.int .i64 (a:Int)] 3)):=(ah _ _).alloc (af _) _;have j:=hid (f.below e);have d:=hid (b.trans (e.mono b.size));have q:Hid ((wr.alloc (.cells #[.int .i64 (a:Int)] 3)).cell? ⟨wr.heap.size,0,none⟩=some (.int .i64 (a:Int))):=(dp (aM wr _) 0).trans rfl;have s:Hid (wM.take a++[(a:Int)]=wM.take (a+1)):=by
    show wM.take a++[(a:Int)]=wM.take (a+1);rcases(by omega:a=0∨a=1∨a=2∨a=3∨a=4∨a=5)with rfl|rfl|rfl|rfl|rfl|rfl<;>rfl
   have o:=hid k;clear f b l m n e k;go_wp2_with(at_builtin;refine pN _ rfl _ _ rfl g.heap.size _ (wM.take a) rfl j.out wr.heap.size (a:Int) rfl q.out (by rw[o.out];omega) d.out.size ?_;intro C D i A p;rw[s.out]at i)
   go_roundw
   case rel=>exact⟨a+1,by omega,by go_num,i,d.out.trans p⟩
   case measure=>simp[intOf];omega
  ·obtain rfl:a=6:=by omega
   go_wp2;go_ret;exact⟨v,w,rfl,l,m,n,b⟩
theorem CQ(c:Int)(e:World)(b:Tm.known c=true):Calls Tryz.prog 170 #[.int .i64 c] e fun f d=>f=.returned (.string ⟨#[kO c]⟩)∧d=e:=by
 rcases pM b with a|a|a|a|a|a|a|a|a|a|a|a|a|a<;>subst a
 all_goals
  go_enter Tryz.func170,Tryz.ntmps170;go_wp2;go_ret;exact⟨rfl,rfl⟩
theorem xQ(c:Int)(e:World)(b:Tm.known c=true):Calls Tryz.prog 87 #[.int .i64 c] e fun f d=>f=.returned (.int .u8 ((kO c).toNat:Int))∧d=e:=by
 rcases pM b with a|a|a|a|a|a|a|a|a|a|a|a|a|a<;>subst a
 all_goals
  go_enter Tryz.func87,Tryz.ntmps87;go_wp2;go_ret;exact⟨rfl,rfl⟩
theorem wF(b:World)(a:UInt8)(c:TypeId):Sem.run Tryz.prog (convert 35 9 (.slice (some ⟨b.heap.size,0,none⟩) 1 1)) (b.alloc (.cells #[.int .u8 (a.toNat:Int)] c))=.ok (.string ⟨#[a]⟩) (b.alloc (.cells #[.int .u8 (a.toNat:Int)] c)):=by
 have e:=run_convert_bytes_back (P:=Tryz.prog) (b.alloc (.cells #[.int .u8 (a.toNat:Int)] c)) 35 9 5 ⟨b.heap.size,0,none⟩ 1 [a] Tryz.underlying35 Tryz.underlying5 Tryz.underlying9 (fun f d=>by
  obtain rfl:f=0:=by simp at d;omega
  exact World.cell?_alloc_mark b #[.int .u8 (a.toNat:Int)] c (0,0) 0)
 exact e
abbrev sv(l:List UInt8):Value:=.string ⟨l.toArray⟩
theorem uU(a b:List UInt8):(⟨a.toArray⟩:ByteArray)++⟨b.toArray⟩=⟨(a++b).toArray⟩:=by
 apply tU;rw[ByteArray.data_append];simp
theorem Tr.FI(a:Tr):a.show.length<=4*a.flat.length:=by
 induction a with
 |leaf d=>simp[Tr.show,Tr.flat]
 |one d e f=>simp only[Tr.show,Tr.flat,aI,ai,bH];omega
 |two d e g b c=>simp only[Tr.show,Tr.flat,aI,ai,bH];omega
theorem zh(a:Tr)(b:a.flat.length<=1000):a.show.length<=4000:=by
 have:=Tr.FI a
 omega
theorem K7{e:Type}{c:List e}(d:c.length=2):∃a b,c=[a,b]:=by
 match c,d with
 |[a,b],_=>exact⟨a,b,rfl⟩
theorem EF(YJ:gv H t d b f):f.length<=1000->(∀s∈f,Tm.known s=true)->∃x:Tr,x.ok∧x.flat=f∧∀W',(∀k,H<=k->k<t->W'.heap[k]?=d.heap[k]?)->t<=W'.heap.size->
 Calls Tryz.prog 55 #[lh b] W' fun Yd YA=>Yd=.returned (sv x.show)∧Below W'.heap.size W' YA:=by
 induction YJ with
 |mk b s YM YI R M N D Yw F Yg _ G=>
  intro n C;obtain⟨a,S,rfl,E⟩:=Yw;have W:=C s Rz;have Yf:=hid (fun d=>xQ s d W);have YG:=iC W;by_cases Yk:s<2
  ·rw[uu Yk]at F
   obtain rfl:=bJ F;obtain rfl:=bJ (show R.length=0 by simpa using Yg);refine⟨.leaf s,Yk,rfl,fun u m V=>?_⟩;have e:Node u b s (.slice a 0 S):=(m b M N).trans D;have X:=e.cell0;have YH:=hid e;unfold Tr.show;generalize kO s=U at*;have c:Below u.heap.size u (u.alloc (.cells #[.int .u8 (U.toNat:Int)] 5)):=(ah _ _).alloc (af _) _;have l:Node (u.alloc (.cells #[.int .u8 (U.toNat:Int)] 5)) b s (.slice a 0 S):=(c.block b e.lt).trans e;have Y:=l.dh;clear D e G E m l;go_enter Tryz.func55,Tryz.ntmps55;go_wp2_with(first
    |(go_at_call 87;refine(Yf.out _).mono ?_;rintro Yd u⟨rfl,rfl⟩)
    |(rw[wF]))
   refine ft 1 ?_;rw[eK];go_wp2;go_ret;exact⟨rfl,c⟩
  ·by_cases Yl:s=2∨s=3
   ·rw[wK Yl]at F
    obtain⟨Yc,rfl⟩:=RF.1 F;obtain⟨YC,rfl⟩:=RF.1 (show R.length=1 by simpa using Yg);obtain⟨Q,Yh,z,y⟩:=G 0 (by simp) (by simp at n⊢;omega) (fun Yt w=>C Yt (by simp at w;simp[w]));simp only[fG,dy]at z y;refine⟨.one s Q,⟨Yl,Yh⟩,by simp[Tr.flat,z],fun u m V=>?_⟩;obtain⟨h,g,rfl,A,B,i⟩:=E 0 (by simp);simp only[fG,dy,gp]at i;have e:Node u b s (.slice (some ⟨h,g,none⟩) 1 S):=(m b M N).trans D;have X:=e.cell0;have Yx:=zh Q (by rw[z];simp at n;omega);unfold Tr.show;generalize kO s=U at*;have c:Below u.heap.size u (u.alloc (.cells #[.int .u8 (U.toNat:Int)] 5)):=(ah _ _).alloc (af _) _;obtain⟨j,q⟩:∃j,u.alloc (.cells #[.int .u8 (U.toNat:Int)] 5)=j:=⟨_,rfl⟩;rw[q]at c;have I:=hid q;have l:Node j b s (.slice (some ⟨h,g,none⟩) 1 S):=(c.block b e.lt).trans e;have Y:=l.dh;have Yp:j.cell? ⟨h,g,none⟩=some (lh Yc):=(aH (a:=⟨h,g,none⟩) ((c.block h (by omega)).trans (m h A B))).trans i;have L:=hid (y j (fun k J K=>(c.block k (by omega)).trans (m k J K)) (by have:=c.size;omega));have o:=hid l;clear D e G E m l y i q;go_enter Tryz.func55,Tryz.ntmps55;go_wp2_with(first
     |(go_at_call 87;refine(Yf.out _).mono ?_;rintro Yd u⟨rfl,rfl⟩)
     |(rw[wF]))
    rw[I.out];refine ft 2 ?_;rw[eK];go_wp2_with(go_at_call 55;refine L.out.mono ?_;rintro Yd P⟨rfl,v⟩;have Yq:=(show Node P b s (.slice (some ⟨h,g,none⟩) 1 S)from(v.block b o.out.lt).trans o.out).dh)
    rw[eK];go_wp2;go_ret;refine⟨?_,c.trans (v.mono c.size)⟩;simp only[uU];simp
   ·have Ym:s=4∨s=5:=by omega
    rw[wZ Ym]at F;obtain⟨Yc,Yu,rfl⟩:=K7 F;obtain⟨YC,YL,rfl⟩:=K7 (show R.length=2 by simpa using Yg);obtain⟨Q,Yh,z,y⟩:=G 0 (by simp) (by simp at n⊢;omega) (fun Yt w=>C Yt (by simp at w;simp[w]));obtain⟨Yr,Yy,Ye,Z⟩:=G 1 (by simp) (by simp at n⊢;omega) (fun Yt w=>C Yt (by simp at w;simp[w]));simp only[fG,Rt,dy]at z y Ye Z;refine⟨.two s Q Yr,⟨Ym,Yh,Yy⟩,by simp[Tr.flat,z,Ye],fun u m V=>?_⟩;obtain⟨h,g,rfl,A,B,i⟩:=E 0 (by simp);obtain⟨YD,Yz,Yn,_,_,r⟩:=E 1 (by simp);simp only[dx,RC]at Yn;obtain⟨rfl,rfl,_⟩:=Yn;simp only[fG,Rt,dy,gp]at i r;have e:Node u b s (.slice (some ⟨h,g,none⟩) 2 S):=(m b M N).trans D;have X:=e.cell0;have Yx:=zh Q (by rw[z];simp at n;omega);have YK:=zh Yr (by rw[Ye];simp at n;omega);unfold Tr.show;generalize kO s=U at*;have c:Below u.heap.size u (u.alloc (.cells #[.int .u8 (U.toNat:Int)] 5)):=(ah _ _).alloc (af _) _;obtain⟨j,q⟩:∃j,u.alloc (.cells #[.int .u8 (U.toNat:Int)] 5)=j:=⟨_,rfl⟩;rw[q]at c;have I:=hid q;have l:Node j b s (.slice (some ⟨h,g,none⟩) 2 S):=(c.block b e.lt).trans e;have Y:=l.dh;have Yp:j.cell? ⟨h,g,none⟩=some (lh Yc):=(aH (a:=⟨h,g,none⟩) ((c.block h (by omega)).trans (m h A B))).trans i;have O:j.cell? ⟨h,g+1,none⟩=some (lh Yu):=(aH (a:=⟨h,g+1,none⟩) ((c.block h (by omega)).trans (m h A B))).trans r;have Yj:=hid (fun d(T:Below j.heap.size j d)=>(T.cell (p:=⟨h,g+1,none⟩) (by simpa using fx O)).trans O);have L:=hid (y j (fun k J K=>(c.block k (by omega)).trans (m k J K)) (by have:=c.size;omega));have Yo:=hid (fun d(T:Below j.heap.size j d)=>Z d (fun k J K=>(T.block k (by have:=c.size;omega)).trans ((c.block k (by omega)).trans (m k J K))) (by have:=c.size;have:=T.size;omega));have o:=hid l;clear D e G E m l y Z i r q O;go_enter Tryz.func55,Tryz.ntmps55;go_wp2_with(first
     |(go_at_call 87;refine(Yf.out _).mono ?_;rintro Yd u⟨rfl,rfl⟩)
     |(rw[wF]))
    rw[I.out];refine ft 3 ?_;rw[eK];go_wp2_with(go_at_call 55;refine L.out.mono ?_;rintro Yd P⟨rfl,v⟩;have Yq:=(show Node P b s (.slice (some ⟨h,g,none⟩) 2 S)from(v.block b o.out.lt).trans o.out).dh;have YE:=Yj.out P v)
    rw[eK];go_wp2_with(go_at_call 55;refine(Yo.out P v).mono ?_;rintro Yd YB⟨rfl,Yv⟩;have Yi:=v.trans (Yv.mono v.size);have YF:=(show Node YB b s (.slice (some ⟨h,g,none⟩) 2 S)from(Yi.block b o.out.lt).trans o.out).dh)
    rw[eK];go_wp2;go_ret;refine⟨?_,c.trans (Yi.mono c.size)⟩;simp only[uU];simp
end Go.Proofs.YtglohanbpjaieaaGreatDoor
namespace Go.Proofs
open Go.Shelf
def Tryz.lays169_ren:Go.Shelf.Ren:=⟨fun|169=>14|n=>n,fun|70=>34|9=>9|0=>0|72=>37|37=>35|127=>63|3=>3|5=>5|n=>n,fun|n=>n⟩
theorem Tryz.lays169:Go.Proofs.Lays.n169 Tryz.prog Tryz.lays169_ren:={
 mixed:=by kernel_rfl
 f169:=Tryz.func14.trans (congrArg some (by kernel_rfl))
 t0:=Tryz.underlying0
 a0:=Tryz.isAgg0
 z0:=Tryz.sizeOf0
 v0:=Tryz.zeroValue0
 t3:=Tryz.underlying3
 a3:=Tryz.isAgg3
 z3:=Tryz.sizeOf3
 v3:=Tryz.zeroValue3
 t9:=Tryz.underlying9
 a9:=Tryz.isAgg9
 z9:=Tryz.sizeOf9
 v9:=Tryz.zeroValue9
 t37:=Tryz.underlying35
 a37:=Tryz.isAgg35
 z37:=Tryz.sizeOf35
 v37:=Tryz.zeroValue35
 t70:=Tryz.underlying34
 a70:=Tryz.isAgg34
 z70:=Tryz.sizeOf34
 v70:=Tryz.zeroValue34
 t72:=Tryz.underlying37
 a72:=Tryz.isAgg37
 z72:=Tryz.sizeOf37
 v72:=Tryz.zeroValue37
 t127:=Tryz.underlying63
 a127:=Tryz.isAgg63
 z127:=Tryz.sizeOf63
 v127:=Tryz.zeroValue63}
theorem Tryz.Builder_Extra_169:Builder.Extra Tryz.prog Tryz.lays169_ren:={
 sizeBuilder:=by kernel_rfl
 liesBuilder:=by kernel_rfl
 t5:=Tryz.underlying5
 a5:=Tryz.isAgg5
 z5:=Tryz.sizeOf5
 v5:=Tryz.zeroValue5
 infoByte:=by kernel_rfl
 cellsByte:=by kernel_rfl
 sizeByte:=by kernel_rfl
 neB5:=by decide}
def Tryz.lays156_ren:Go.Shelf.Ren:=⟨fun|156=>79|165=>106|166=>10|169=>14|240=>23|241=>141|276=>42|277=>171|n=>n,fun|31=>56|9=>9|3=>3|4=>4|0=>0|20=>20|72=>37|76=>43|70=>34|37=>35|75=>42|127=>63|164=>85|5=>5|80=>48|n=>n,fun|n=>n⟩
theorem Tryz.lays156:Go.Proofs.Lays.n156 Tryz.prog Tryz.lays156_ren:={
 mixed:=by kernel_rfl
 f156:=Tryz.func79.trans (congrArg some (by kernel_rfl))
 f165:=Tryz.func106.trans (congrArg some (by kernel_rfl))
 f166:=Tryz.func10.trans (congrArg some (by kernel_rfl))
 f169:=Tryz.func14.trans (congrArg some (by kernel_rfl))
 f240:=Tryz.func23.trans (congrArg some (by kernel_rfl))
 f241:=Tryz.func141.trans (congrArg some (by kernel_rfl))
 f276:=Tryz.func42.trans (congrArg some (by kernel_rfl))
 f277:=Tryz.func171.trans (congrArg some (by kernel_rfl))
 t0:=Tryz.underlying0
 a0:=Tryz.isAgg0
 z0:=Tryz.sizeOf0
 v0:=Tryz.zeroValue0
 t3:=Tryz.underlying3
 a3:=Tryz.isAgg3
 z3:=Tryz.sizeOf3
 v3:=Tryz.zeroValue3
 t4:=Tryz.underlying4
 a4:=Tryz.isAgg4
 z4:=Tryz.sizeOf4
 v4:=Tryz.zeroValue4
 t9:=Tryz.underlying9
 a9:=Tryz.isAgg9
 z9:=Tryz.sizeOf9
 v9:=Tryz.zeroValue9
 t20:=Tryz.underlying20
 a20:=Tryz.isAgg20
 z20:=Tryz.sizeOf20
 v20:=Tryz.zeroValue20
 t31:=Tryz.underlying56
 a31:=Tryz.isAgg56
 z31:=Tryz.sizeOf56
 v31:=Tryz.zeroValue56
 t37:=Tryz.underlying35
 a37:=Tryz.isAgg35
 z37:=Tryz.sizeOf35
 v37:=Tryz.zeroValue35
 t70:=Tryz.underlying34
 a70:=Tryz.isAgg34
 z70:=Tryz.sizeOf34
 v70:=Tryz.zeroValue34
 t72:=Tryz.underlying37
 a72:=Tryz.isAgg37
 z72:=Tryz.sizeOf37
 v72:=Tryz.zeroValue37
 t75:=Tryz.underlying42
 a75:=Tryz.isAgg42
 z75:=Tryz.sizeOf42
 v75:=Tryz.zeroValue42
 t76:=Tryz.underlying43
 a76:=Tryz.isAgg43
 z76:=Tryz.sizeOf43
 v76:=Tryz.zeroValue43
 t127:=Tryz.underlying63
 a127:=Tryz.isAgg63
 z127:=Tryz.sizeOf63
 v127:=Tryz.zeroValue63
 t164:=Tryz.underlying85
 a164:=Tryz.isAgg85
 z164:=Tryz.sizeOf85
 v164:=Tryz.zeroValue85}
theorem Tryz.Builder_Extra_156:Builder.Extra Tryz.prog Tryz.lays156_ren:={
 sizeBuilder:=by kernel_rfl
 liesBuilder:=by kernel_rfl
 t5:=Tryz.underlying5
 a5:=Tryz.isAgg5
 z5:=Tryz.sizeOf5
 v5:=Tryz.zeroValue5
 infoByte:=by kernel_rfl
 cellsByte:=by kernel_rfl
 sizeByte:=by kernel_rfl
 neB5:=by decide}
open Go.RowKit in
theorem Tryz.strings_Join(bk o c:Nat)(xs:List ByteArray)(sep:ByteArray)(w:World)(hcells:∀(j:Nat)x,xs[j]?=some x->w.cell? ⟨bk,o+j,none⟩=some (.string x))(hbk:bk<w.heap.size)(hN:xs.length<=140737488355328)(hcap:xs.length<=c)(hlen:(Lib.join (xs.map (·.data.toList)) sep.data.toList).length<=140737488355328):
 Calls Tryz.prog 79 #[.slice (some ⟨bk,o,none⟩) xs.length c,.string sep] w fun e w'=>e=.returned (.string ⟨(Lib.join (xs.map (·.data.toList)) sep.data.toList).toArray⟩)∧Below w.heap.size w w':=Any.strings_Join Tryz.lays156 Tryz.Builder_Extra_156 bk o c xs sep w hcells hbk hN hcap hlen
def Tryz.lays137_ren:Go.Shelf.Ren:=⟨fun|137=>22|217=>41|266=>69|n=>n,fun|9=>9|5=>5|3=>3|n=>n,fun|n=>n⟩
theorem Tryz.lays137:Go.Proofs.Lays.n137 Tryz.prog Tryz.lays137_ren:={
 mixed:=by kernel_rfl
 f137:=Tryz.func22.trans (congrArg some (by kernel_rfl))
 f217:=Tryz.func41.trans (congrArg some (by kernel_rfl))
 f266:=Tryz.func69.trans (congrArg some (by kernel_rfl))
 t3:=Tryz.underlying3
 a3:=Tryz.isAgg3
 z3:=Tryz.sizeOf3
 v3:=Tryz.zeroValue3
 t5:=Tryz.underlying5
 a5:=Tryz.isAgg5
 z5:=Tryz.sizeOf5
 v5:=Tryz.zeroValue5
 t9:=Tryz.underlying9
 a9:=Tryz.isAgg9
 z9:=Tryz.sizeOf9
 v9:=Tryz.zeroValue9}
open Go.RowKit in
theorem Tryz.strings_IndexByte(s:ByteArray)(c:Int)(w:World):
 Calls Tryz.prog 22 #[.string s,.int .u8 c] w fun e w'=>e=.returned (.int .i64 (Lib.indexByte s.data.toList c.toNat.toUInt8))∧w'=w:=Any.strings_IndexByte Tryz.lays137 s c w
open Go.RowKit in
theorem Tryz.Builder_String_any_k(B b:Nat)(l:List UInt8)(w:World)(h:Lib.IsBuilderF 37 5 B b (Lib.byteCells l) w)(hBw:B<=w.heap.size):
 Calls Tryz.prog 14 #[.pointer (some ⟨b,0,none⟩)] w fun e w'=>e=.returned (.string ⟨l.toArray⟩)∧(Lib.IsBuilderF 37 5 B b (Lib.byteCells l) w'∧Below B w w'∧Lib.OthersKept 5 (some b) w w'):=Any.Builder_String_any_k Tryz.lays169 Tryz.Builder_Extra_169 B b l w h hBw
def Tryz.lays171_ren:Go.Shelf.Ren:=⟨fun|171=>25|243=>43|246=>70|283=>96|284=>97|285=>98|286=>99|129=>124|317=>123|318=>125|319=>126|320=>127|337=>158|338=>159|n=>n,fun|3=>3|9=>9|2=>2|4=>4|171=>134|0=>0|53=>135|37=>35|5=>5|173=>138|212=>164|51=>131|20=>20|213=>165|46=>107|232=>224|233=>225|n=>n,fun|17=>1|18=>2|19=>3|n=>n⟩
theorem Tryz.lays171:Go.Proofs.Lays.n171 Tryz.prog Tryz.lays171_ren:={
 mixed:=by kernel_rfl
 f129:=Tryz.func124.trans (congrArg some (by kernel_rfl))
 f171:=Tryz.func25.trans (congrArg some (by kernel_rfl))
 f243:=Tryz.func43.trans (congrArg some (by kernel_rfl))
 f246:=Tryz.func70.trans (congrArg some (by kernel_rfl))
 f283:=Tryz.func96.trans (congrArg some (by kernel_rfl))
 f284:=Tryz.func97.trans (congrArg some (by kernel_rfl))
 f285:=Tryz.func98.trans (congrArg some (by kernel_rfl))
 f286:=Tryz.func99.trans (congrArg some (by kernel_rfl))
 f317:=Tryz.func123.trans (congrArg some (by kernel_rfl))
 f318:=Tryz.func125.trans (congrArg some (by kernel_rfl))
 f319:=Tryz.func126.trans (congrArg some (by kernel_rfl))
 f320:=Tryz.func127.trans (congrArg some (by kernel_rfl))
 f337:=Tryz.func158.trans (congrArg some (by kernel_rfl))
 f338:=Tryz.func159.trans (congrArg some (by kernel_rfl))
 t0:=Tryz.underlying0
 a0:=Tryz.isAgg0
 z0:=Tryz.sizeOf0
 v0:=Tryz.zeroValue0
 t2:=Tryz.underlying2
 a2:=Tryz.isAgg2
 z2:=Tryz.sizeOf2
 v2:=Tryz.zeroValue2
 t3:=Tryz.underlying3
 a3:=Tryz.isAgg3
 z3:=Tryz.sizeOf3
 v3:=Tryz.zeroValue3
 t4:=Tryz.underlying4
 a4:=Tryz.isAgg4
 z4:=Tryz.sizeOf4
 v4:=Tryz.zeroValue4
 t5:=Tryz.underlying5
 a5:=Tryz.isAgg5
 z5:=Tryz.sizeOf5
 v5:=Tryz.zeroValue5
 t9:=Tryz.underlying9
 a9:=Tryz.isAgg9
 z9:=Tryz.sizeOf9
 v9:=Tryz.zeroValue9
 t20:=Tryz.underlying20
 a20:=Tryz.isAgg20
 z20:=Tryz.sizeOf20
 v20:=Tryz.zeroValue20
 t37:=Tryz.underlying35
 a37:=Tryz.isAgg35
 z37:=Tryz.sizeOf35
 v37:=Tryz.zeroValue35
 t46:=Tryz.underlying107
 a46:=Tryz.isAgg107
 z46:=Tryz.sizeOf107
 v46:=Tryz.zeroValue107
 t51:=Tryz.underlying131
 a51:=Tryz.isAgg131
 z51:=Tryz.sizeOf131
 v51:=Tryz.zeroValue131
 t53:=Tryz.underlying135
 a53:=Tryz.isAgg135
 z53:=Tryz.sizeOf135
 v53:=Tryz.zeroValue135
 t171:=Tryz.underlying134
 a171:=Tryz.isAgg134
 z171:=Tryz.sizeOf134
 v171:=Tryz.zeroValue134
 t173:=Tryz.underlying138
 a173:=Tryz.isAgg138
 z173:=Tryz.sizeOf138
 v173:=Tryz.zeroValue138
 t212:=Tryz.underlying164
 a212:=Tryz.isAgg164
 z212:=Tryz.sizeOf164
 v212:=Tryz.zeroValue164
 t213:=Tryz.underlying165
 a213:=Tryz.isAgg165
 z213:=Tryz.sizeOf165
 t232:=Tryz.underlying224
 a232:=Tryz.isAgg224
 z232:=Tryz.sizeOf224
 v232:=Tryz.zeroValue224
 t233:=Tryz.underlying225
 a233:=Tryz.isAgg225
 z233:=Tryz.sizeOf225
 v233:=Tryz.zeroValue225
 g17:=by kernel_rfl
 g18:=by kernel_rfl
 g19:=by kernel_rfl}
open Go.RowKit Go.Sort Go.Lib in
theorem Tryz.strconv_Itoa_small(i:Nat)(hi:i<100)(w:World):
 Calls Tryz.prog 25 #[.int .i64 i] w fun e w'=>e=.returned (.string ⟨(Lib.decDigits i).toArray⟩)∧w'=w:=Any.strconv_Itoa_small Tryz.lays171 i hi w
def Tryz.lays138_ren:Go.Shelf.Ren:=⟨fun|138=>7|195=>17|218=>18|143=>19|219=>40|217=>41|225=>66|224=>67|267=>68|266=>69|314=>95|n=>n,fun|9=>9|3=>3|4=>4|5=>5|0=>0|46=>107|146=>132|51=>131|n=>n,fun|1=>0|n=>n⟩
theorem Tryz.lays138:Go.Proofs.Lays.n138 Tryz.prog Tryz.lays138_ren:={
 mixed:=by kernel_rfl
 f138:=Tryz.func7.trans (congrArg some (by kernel_rfl))
 f143:=Tryz.func19.trans (congrArg some (by kernel_rfl))
 f195:=Tryz.func17.trans (congrArg some (by kernel_rfl))
 f217:=Tryz.func41.trans (congrArg some (by kernel_rfl))
 f218:=Tryz.func18.trans (congrArg some (by kernel_rfl))
 f219:=Tryz.func40.trans (congrArg some (by kernel_rfl))
 f224:=Tryz.func67.trans (congrArg some (by kernel_rfl))
 f225:=Tryz.func66.trans (congrArg some (by kernel_rfl))
 f266:=Tryz.func69.trans (congrArg some (by kernel_rfl))
 f267:=Tryz.func68.trans (congrArg some (by kernel_rfl))
 f314:=Tryz.func95.trans (congrArg some (by kernel_rfl))
 t0:=Tryz.underlying0
 a0:=Tryz.isAgg0
 z0:=Tryz.sizeOf0
 v0:=Tryz.zeroValue0
 t3:=Tryz.underlying3
 a3:=Tryz.isAgg3
 z3:=Tryz.sizeOf3
 v3:=Tryz.zeroValue3
 t4:=Tryz.underlying4
 a4:=Tryz.isAgg4
 z4:=Tryz.sizeOf4
 v4:=Tryz.zeroValue4
 t5:=Tryz.underlying5
 a5:=Tryz.isAgg5
 z5:=Tryz.sizeOf5
 v5:=Tryz.zeroValue5
 t9:=Tryz.underlying9
 a9:=Tryz.isAgg9
 z9:=Tryz.sizeOf9
 v9:=Tryz.zeroValue9
 t46:=Tryz.underlying107
 a46:=Tryz.isAgg107
 z46:=Tryz.sizeOf107
 v46:=Tryz.zeroValue107
 t51:=Tryz.underlying131
 a51:=Tryz.isAgg131
 z51:=Tryz.sizeOf131
 v51:=Tryz.zeroValue131
 t146:=Tryz.underlying132
 a146:=Tryz.isAgg132
 z146:=Tryz.sizeOf132
 v146:=Tryz.zeroValue132
 g1:=by kernel_rfl}
open Go.RowKit Go.Lib in
theorem Tryz.strings_Count_one(s:ByteArray)(c:UInt8)(w:World):
 Calls Tryz.prog 7 #[.string s,.string ⟨#[c]⟩] w fun e w'=>e=.returned (.int .i64 (Lib.countByte s.data.toList c))∧w'=w:=Any.strings_Count_one Tryz.lays138 s c w
def Tryz.lays100_ren:Go.Shelf.Ren:=⟨fun|100=>8|207=>20|n=>n,fun|9=>9|4=>4|3=>3|n=>n,fun|n=>n⟩
theorem Tryz.lays100:Go.Proofs.Lays.n100 Tryz.prog Tryz.lays100_ren:={
 mixed:=by kernel_rfl
 f100:=Tryz.func8.trans (congrArg some (by kernel_rfl))
 f207:=Tryz.func20.trans (congrArg some (by kernel_rfl))
 t3:=Tryz.underlying3
 a3:=Tryz.isAgg3
 z3:=Tryz.sizeOf3
 v3:=Tryz.zeroValue3
 t4:=Tryz.underlying4
 a4:=Tryz.isAgg4
 z4:=Tryz.sizeOf4
 v4:=Tryz.zeroValue4
 t9:=Tryz.underlying9
 a9:=Tryz.isAgg9
 z9:=Tryz.sizeOf9
 v9:=Tryz.zeroValue9}
open Go.RowKit Go.Lib in
theorem Tryz.strings_HasSuffix(s p:ByteArray)(w:World)(hs:s.size<=9223372036854775807):
 Calls Tryz.prog 8 #[.string s,.string p] w fun e w'=>e=.returned (.bool (Lib.hasSuffix s.data.toList p.data.toList))∧w'=w:=Any.strings_HasSuffix Tryz.lays100 s p w hs
def Tryz.lays102_ren:Go.Shelf.Ren:=⟨fun|102=>12|209=>28|207=>20|n=>n,fun|9=>9|4=>4|3=>3|n=>n,fun|n=>n⟩
theorem Tryz.lays102:Go.Proofs.Lays.n102 Tryz.prog Tryz.lays102_ren:={
 mixed:=by kernel_rfl
 f102:=Tryz.func12.trans (congrArg some (by kernel_rfl))
 f207:=Tryz.func20.trans (congrArg some (by kernel_rfl))
 f209:=Tryz.func28.trans (congrArg some (by kernel_rfl))
 t3:=Tryz.underlying3
 a3:=Tryz.isAgg3
 z3:=Tryz.sizeOf3
 v3:=Tryz.zeroValue3
 t4:=Tryz.underlying4
 a4:=Tryz.isAgg4
 z4:=Tryz.sizeOf4
 v4:=Tryz.zeroValue4
 t9:=Tryz.underlying9
 a9:=Tryz.isAgg9
 z9:=Tryz.sizeOf9
 v9:=Tryz.zeroValue9}
open Go.RowKit Go.Lib in
theorem Tryz.strings_TrimSuffix(s p:ByteArray)(w:World)(hs:s.size<=9223372036854775807):
 Calls Tryz.prog 12 #[.string s,.string p] w fun e w'=>e=.returned (.string ⟨(Lib.trimSuffix s.data.toList p.data.toList).toArray⟩)∧w'=w:=Any.strings_TrimSuffix Tryz.lays102 s p w hs
def Tryz.lays146_ren:Go.Shelf.Ren:=⟨fun|146=>44|221=>71|268=>100|138=>7|143=>19|195=>17|197=>128|218=>18|219=>40|260=>160|217=>41|225=>66|224=>67|267=>68|266=>69|314=>95|n=>n,fun|9=>9|31=>56|3=>3|4=>4|0=>0|105=>168|21=>21|5=>5|46=>107|119=>226|139=>229|138=>228|146=>132|51=>131|n=>n,fun|1=>0|3=>4|4=>5|n=>n⟩
theorem Tryz.lays146:Go.Proofs.Lays.n146 Tryz.prog Tryz.lays146_ren:={
 mixed:=by kernel_rfl
 f138:=Tryz.func7.trans (congrArg some (by kernel_rfl))
 f143:=Tryz.func19.trans (congrArg some (by kernel_rfl))
 f146:=Tryz.func44.trans (congrArg some (by kernel_rfl))
 f195:=Tryz.func17.trans (congrArg some (by kernel_rfl))
 f197:=Tryz.func128.trans (congrArg some (by kernel_rfl))
 f217:=Tryz.func41.trans (congrArg some (by kernel_rfl))
 f218:=Tryz.func18.trans (congrArg some (by kernel_rfl))
 f219:=Tryz.func40.trans (congrArg some (by kernel_rfl))
 f221:=Tryz.func71.trans (congrArg some (by kernel_rfl))
 f224:=Tryz.func67.trans (congrArg some (by kernel_rfl))
 f225:=Tryz.func66.trans (congrArg some (by kernel_rfl))
 f260:=Tryz.func160.trans (congrArg some (by kernel_rfl))
 f266:=Tryz.func69.trans (congrArg some (by kernel_rfl))
 f267:=Tryz.func68.trans (congrArg some (by kernel_rfl))
 f268:=Tryz.func100.trans (congrArg some (by kernel_rfl))
 f314:=Tryz.func95.trans (congrArg some (by kernel_rfl))
 t0:=Tryz.underlying0
 a0:=Tryz.isAgg0
 z0:=Tryz.sizeOf0
 v0:=Tryz.zeroValue0
 t3:=Tryz.underlying3
 a3:=Tryz.isAgg3
 z3:=Tryz.sizeOf3
 v3:=Tryz.zeroValue3
 t4:=Tryz.underlying4
 a4:=Tryz.isAgg4
 z4:=Tryz.sizeOf4
 v4:=Tryz.zeroValue4
 t5:=Tryz.underlying5
 a5:=Tryz.isAgg5
 z5:=Tryz.sizeOf5
 v5:=Tryz.zeroValue5
 t9:=Tryz.underlying9
 a9:=Tryz.isAgg9
 z9:=Tryz.sizeOf9
 v9:=Tryz.zeroValue9
 t21:=Tryz.underlying21
 a21:=Tryz.isAgg21
 z21:=Tryz.sizeOf21
 v21:=Tryz.zeroValue21
 t31:=Tryz.underlying56
 a31:=Tryz.isAgg56
 z31:=Tryz.sizeOf56
 v31:=Tryz.zeroValue56
 t46:=Tryz.underlying107
 a46:=Tryz.isAgg107
 z46:=Tryz.sizeOf107
 v46:=Tryz.zeroValue107
 t51:=Tryz.underlying131
 a51:=Tryz.isAgg131
 z51:=Tryz.sizeOf131
 v51:=Tryz.zeroValue131
 t105:=Tryz.underlying168
 a105:=Tryz.isAgg168
 z105:=Tryz.sizeOf168
 v105:=Tryz.zeroValue168
 t119:=Tryz.underlying226
 a119:=Tryz.isAgg226
 z119:=Tryz.sizeOf226
 t138:=Tryz.underlying228
 a138:=Tryz.isAgg228
 z138:=Tryz.sizeOf228
 v138:=Tryz.zeroValue228
 t139:=Tryz.underlying229
 a139:=Tryz.isAgg229
 z139:=Tryz.sizeOf229
 v139:=Tryz.zeroValue229
 t146:=Tryz.underlying132
 a146:=Tryz.isAgg132
 z146:=Tryz.sizeOf132
 v146:=Tryz.zeroValue132
 g1:=by kernel_rfl
 g3:=by kernel_rfl
 g4:=by kernel_rfl}
open Go.RowKit Go.Lib in
theorem Tryz.strings_Split(s sep:ByteArray)(m:Int)(w:World)(hs:s.size<4294967281)(hm:w.cell? ⟨0,0,none⟩=some (.int .i64 m))(h1:1<=sep.size):
 Calls Tryz.prog 44 #[.string s,.string sep] w fun e w'=>
  e=.returned (.slice (some ⟨w.heap.size,0,none⟩) (Lib.countB s sep+1) (Lib.countB s sep+1))∧w'=w.alloc (.cells ((Lib.splitB sep 0 (Lib.countB s sep) s).map Value.string).toArray 9):=Any.strings_Split Tryz.lays146 (by kernel_rfl) s sep m w hs hm h1
end Go.Proofs
namespace Go.Proofs.YtglohanbpjaieaaGreatDoor
open Go.Proofs Go.RowKit Go.Shelf Go.Maps
variable {A:Act}{B:Oper}{G:List UInt8}{I R:TypeId}{L:Exit->Act->World->Prop}{O:Array Oper}{P:Array Value}{Q:Nat×Nat}{S:Fence}{T:Act->World->Prop}{U:Bool}{V:List (List Int)}{b t H:Nat}{d u F:World}{e:bu}{f w D E:List Int}{h y K N:Int}{m J M:Value}{q:List (List UInt8)}{r z:bg}
def iq(base:Nat)(W:World)(v:Value)(ss:List (List UInt8)):Prop:=W.ownsRow base 9 1 v ss.length (ss.map sv)
theorem iq.nil(base:Nat)(a:World):iq base a (.slice none 0 0) []:=gq _ _ _ _
theorem iq.slice{base:Nat}(g:iq base d m q):∃f c,m=.slice f q.length c:=by
 rcases g.2 with⟨rfl,a⟩|⟨h,b,e,rfl,_⟩
 ·exact⟨none,0,by rw[a]⟩
 ·exact⟨_,_,rfl⟩
theorem iq.at{base:Nat}{v:Value}(l:iq base d v q)(s:0<q.length):∃g c,v=.slice (some ⟨g,0,none⟩) q.length c∧q.length<=c∧g<d.heap.size∧∀j x,(q.map fun t=>(⟨t.toArray⟩:ByteArray))[j]?=some x->d.cell? ⟨g,0+j,none⟩=some (.string x):=by
 rcases l.2 with⟨rfl,m⟩|⟨g,b,k,rfl,r,i,f,n,o,p⟩
 ·omega
 ·refine⟨g,b,rfl,f,(ak.1 i).1,fun j x a=>?_⟩
  have e:j<q.length:=by
   have:=(ig.1 a).1
   simpa using this
  have h:=dI (show d.ownsRow base 9 1 (.slice (some ⟨g,0,none⟩) q.length b) q.length (q.map sv)from l) j (by omega);rw[cI,h];rw[ic,an e]at a;simp only[rv,dx]at a;subst a;rw[ic,an e];rfl
theorem EX{row:Option Nat}(c:d.heap[b]?=some (.cells P I Q))(f:d.grownBy u row)(g:∀h,row=some h->t<=h∧∃o:Obj,d.heap[h]?=some o∧o.isCells=false):u.heap[b]?=some (.cells P I Q):=
 (f.block b (ak.1 c).1 (fun i=>by
   obtain⟨_,o,a,e⟩:=g b i.symm;rw[c]at a;cases a;simp[Obj.isCells]at e)).trans c
theorem iq.kept{base:Nat}{row:Option Nat}(i:iq base d m q)(e:d.grownBy u row)(f:∀k,row=some k->∀b p,d.heap[k]?≠some (.cells b 9 p)):iq base u m q:=by
 refine dM i e ?_;rcases i.2 with⟨rfl,_⟩|⟨j,g,h,rfl,_,a,_⟩
 ·exact .inl rfl
 ·exact .inr fun c=>f j (by rw[<-c];rfl) _ _ a
theorem iq.block{base:Nat}(j:iq base d m q)(c:m.ownBlock=some b):base<=b∧∃e p,d.heap[b]?=some (.cells e 9 p):=by
 rcases j.2 with⟨rfl,_⟩|⟨i,g,h,rfl,f,a,_⟩
 ·cases c
 ·obtain rfl:i=b:=by simpa [Value.ownBlock]using c
  exact⟨f,_,_,a⟩
theorem iq.below{base:Nat}(c:iq base d m q)(a:Below d.heap.size d u):iq base u m q:=
 c.kept (gI a) (fun e b=>by cases b)
theorem PI(f:Boxed d b I m)(c:I≠R)(e:Array Value)(p:Nat×Nat):d.heap[b]?≠some (.cells e R p):=by
 rw[show d.heap[b]?=_ from f];intro a;simp only[dx,fU]at a;exact c a.2.1
theorem Tryz.Qu:(Tryz.prog.info? 9).map (fun a=>(a.zero,a.size,a.bytes))=some (some (.string ⟨#[]⟩),1,16):=by kernel_rfl
theorem Ce(e:World)(j:TypeId)(base:Nat)(o:Value)(a:List (List UInt8))(r:iq base e o a)(l:Nat)(k:List UInt8)(q:e.cell? ⟨l,0,none⟩=some (sv k))(u:a.length<=1000000)(b:base<=e.heap.size):
 ∃d w',(Builtin.append_ #[56,56] j #[o,.slice (some ⟨l,0,none⟩) 1 1]).run Tryz.prog e=.ok d w'∧iq base w' d (a++[k])∧e.grownBy w' o.ownBlock:=by
 obtain⟨w,t,g,h,i⟩:=fh Tryz.Qu;have s:∀m n,[sv k][m]?=some n->e.cell? ((⟨l,0,none⟩:Addr).add m)=some n:=by
  intro m z c;match m,c with
  |0,c=>simp at c;subst c;rw[cz];simpa using q
 have p:∀n∈[sv k],n.oneCell'=true:=by intro z f;simp at f;subst f;rfl
 obtain⟨d,w',v,x,y,_⟩:=aZ (P:=Tryz.prog) e base 56 j 9 w (.string ⟨#[]⟩) 1 16 Tryz.underlying56 t g h i rfl (by decide) o a.length (a.map sv) r ⟨l,0,none⟩ 1 1 [sv k] (by simp) s p (by unfold maxLen;omega) (by omega) b;exact⟨d,w',v,by simpa [iq]using x,y⟩
theorem pD(h:World)(s t:Operand)
 (f:B.op=.call {callee:=.builtin .append,args:=#[s,t],argTypes:=#[56,56]})(base:Nat)(j:Value)(c:List (List UInt8))(n:A.eval s=j)(m:iq base h j c)
 (k:Nat)(r:List UInt8)(o:A.eval t=.slice (some ⟨k,0,none⟩) 1 1)(l:h.cell? ⟨k,0,none⟩=some (sv r))(e:c.length<=1000000)(a:base<=h.heap.size)
 (u:∀d w',iq base w' d (c++[r])->h.grownBy w' j.ownBlock->T (A.put B.dst d) w'):Oper.wpIn S b Tryz.prog B A h T L:=by
 obtain⟨d,w',g,p,q⟩:=Ce h B.type base j c m k r l e a;unfold Oper.wpIn;refine⟨?_,?_⟩
 ·simp[Oper.about,f,resolve,Target.leads,Sem.run_pure]
 ·rw[od S _ _ (by rw[f];intro v i;cases i)]
  simp[execOp,f,resolve,invoke,builtin,n,o,g,Result.andThen];exact u d w' p q
structure uq(w:World)(n:Nat)(tv:Value)(k:Nat)(ss:List (List UInt8))(W:World):Prop where
 bT:Boxed W n 68 tv
 out:∃v,Boxed W (n+1) 56 v∧iq n W v ss
 bP:Boxed W (n+1+1) 68 tv
 bK:Boxed W (n+1+1+1) 3 (.int .i64 (k:Int))
 kp:Below n w W
theorem uq.own{row:Option Nat}(v:b<=d.heap.size)(s:b<=t)(r:uq d b m H q u)(a:u.grownBy F row)(c:∀n,row=some n->t<=n∧∃o:Obj,u.heap[n]?=some o∧o.isCells=false):uq d b m H q F:=by
 obtain⟨bT,⟨w,l,h⟩,bP,bK,kp⟩:=r;refine⟨EX bT a c,⟨w,EX l a c,h.kept a fun f g p x e=>?_⟩,EX bP a c,EX bK a c,⟨a.os.trans kp.os,a.tape.trans kp.tape,a.output.trans kp.output,aK kp.size a.size,fun f k=>(a.block f (by have:=kp.size;omega) (fun g=>by have:=(c f g.symm).1;omega)).trans (kp.block f k)⟩⟩;obtain⟨_,o,j,i⟩:=c f g;rw[j]at e;cases e;simp[Obj.isCells]at i
theorem Ma{C:Nat}(E:b<=F.heap.size)(n:Boxed d b 68 M)(w:Boxed d (b+1) 56 J)(h:iq b d J q)(k:Boxed d (b+1+1) 68 M)(i:Boxed d (b+1+1+1) 3 (.int .i64 (t:Int)))(x:Below b F d)
 (r:iq b u m (q++[G]))(c:d.grownBy u J.ownBlock):Boxed u (b+1) 56 J∧uq F b M t (q++[G]) (u.setCell ⟨b+1,0,none⟩ m)∧KeepsFrom C d (u.setCell ⟨b+1,0,none⟩ m):=by
 have a:∀{H:Nat}{y:TypeId}{K:Value},Boxed d H y K->y≠9->some H≠J.ownBlock:=fun B D z=>by
  obtain⟨_,f,p,A⟩:=h.block z.symm;exact PI B D f p A
 have v:b<=d.heap.size:=aK E x.size;have o:=n.kept c (a n (by decide));have e:=w.kept c (a w (by decide));have l:=k.kept c (a k (by decide));have j:=i.kept c (a i (by decide));refine⟨e,⟨o.other (by omega) m,⟨m,e.set m,r.kept (uH u (b+1) m) fun N y f p=>?_⟩,l.other (by omega) m,j.other (by omega) m,x.trans ?_⟩,?_⟩
 ·cases y
  exact PI e (by decide) f p
 ·exact((ah b d).grown c v fun I g=>(h.block g).1).setCell (p:=⟨b+1,0,none⟩) (by show b<=b+1;omega) m
 ·refine uI ((qc c fun I L g s=>?_).trans (dO _ _ _)) C
  obtain⟨_,f,p,A⟩:=h.block g;rw[A]at s;cases s;rfl
