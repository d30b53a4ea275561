/-
  Parts of the proof.
-/
import Derived.Test.YtglohanbpjaieaaGreatDoorBdp29
import Derived.Test.YtglohanbpjaieaaGreatDoorBdp9
import Derived.Test.YtglohanbpjaieaaGreatDoorBdp28
set_option maxHeartbeats 8000000
set_option maxRecDepth 100000
namespace Go.Proofs.YtglohanbpjaieaaGreatDoor
open Go.Proofs Go.RowKit Go.Shelf Go.Maps
variable {E F:Bool}{I:TypeId}{d t H:World}{e u:bu}{g i:Nat}{h q C:bg}{j o:Option Addr}{s y B D:List Int}{w A:Value}{x G:Int}{z:Array Value}
theorem GH(h:dS e s=0)(d:g<(dT e s).length):Tm.err ((dT e s)[g]?.getD (0,0,[])).2.2=0:=by
 obtain⟨a,k,c⟩:=mW h;have r:dT e s=iN e s s.length:=by unfold dT;rw[aD h]
 rw[r]at d⊢;obtain⟨t,l⟩:∃t,(iN e s s.length)[g]?.getD (0,0,[])=t:=⟨_,rfl⟩;have p:t∈iN e s s.length:=by rw[<-l,an d,dy];exact ee d
 rw[l];obtain⟨b,f,i,q⟩:=GY _ p;have o:=Gv _ c _ b _ f i;obtain⟨m,n,_⟩:=eo ((dV a).2 _ f);obtain⟨u,j⟩:=Gn a k b f i o;rw[<-q]at j;exact(j.parts m n k b).2.2.2
theorem wU(b:bu)(w:List Int)(A m:Option Addr)(F t:Nat)(s:World)(e:cm b=0)(Yg:Tm.err w=0)(K:dw s.heap.size s A b)(Yc:cZ s.heap.size s m w)(Y:w.length<=t)(Z:t<=maxLen):
 Calls Tryz.prog 63 #[.slice A b.length F,.slice m w.length t] s fun G S=>∃v,G=.returned (.tuple #[v,.int .i64 ((bU b w).2.1:Int),.int .i64 (bU b w).2.2])∧cU s.heap.size S v (bU b w).1∧Below s.heap.size s S:=by
 unfold bU;generalize Yd:mX b 61 w 0=R;have U:=hid K;have V:=hid e;clear K e;go_enter Tryz.func63,Tryz.ntmps63;go_wp2;go_loopw [1,7](fun Ym v wr=>∃(k:Nat)(l:List Int)(T:Option Addr)(D:Nat),k<=60∧v=.int .i64 (k:Int)∧Ym=.slice T l.length D∧Hid (cZ wr.heap.size wr T l)∧Hid (Tm.err l=0)∧l.length<=D∧D<=maxLen∧Hid (mX b (61-k) l k=R)∧Below s.heap.size s wr)(fun _ v _=>61-(intOf v).toNat)
 case atStart=>exact⟨0,w,m,t,by omega,rfl,rfl,hid Yc,hid Yg,Y,Z,hid Yd,ah _ _⟩
 case round=>
  obtain⟨k,l,T,D,YA,rfl,rfl,o,q,L,M,g,h⟩:=hrel;have d:=hid (zy b l A T F D wr V.out q.out ((U.out.below h).mono h.size) o.out L M);obtain⟨f,N⟩:∃f,61-k=f+1:=⟨60-k,by omega⟩;rw[N]at g;have Yt:(k:Int)<=60:=by omega
  unfold l7 at d;by_cases i:dS b l=0
  ·by_cases p:(dT b l).length=0
   ·have e:=hid ((xA (f:=f) (k:=k) i p).symm.trans g.out)
    have Yr:=cK q.out;have B:=dU q.out;obtain⟨Yx,Q,X,_,_⟩:=o.out.at B;subst X;rw[i,bJ p]at d;have Yw:=hid p;clear i p g;go_wp2_with(first
     |(go_at_call 92;refine d.out.mono ?_;clear d;rintro G c⟨C,rfl,a,j⟩;obtain⟨Yn,Yo,rfl⟩:=a.slice;clear a;have Yf:cU c.heap.size (c.alloc (.cells #[] 3)) (.slice (some ⟨c.heap.size,0,none⟩) 0 0) []:=cU.lit c.heap.size c [] (af _) (by unfold maxLen;simp);have n:Below c.heap.size c (c.alloc (.cells #[] 3)):=(ah _ _).alloc (af _) _;have Yi:=(o.out.below j).mono j.size;have Yj:=(Yi.below n).mono n.size)
     |(at_builtin;go_loud(refine dB _ rfl _ _ rfl c.heap.size _ [] rfl Yf (some ⟨Yx,Q,none⟩) l D rfl (fun Yz=>by cases Yz) Yj (by simp;omega) (by simp) ?_);intro YB YC J I;obtain⟨YD,YE,rfl,_⟩:=cU.ints J))
    go_ret3
    have z:=h.trans (j.mono h.size);rw[<-e.out];exact⟨_,rfl,cU.mono J z.size,z.trans ((n.trans I).mono z.size)⟩
   ·have u:0<(dT b l).length:=by omega
    have e:=hid ((zC (f:=f) (k:=k) i u).symm.trans g.out);have P:=hid (GH i u);rw[i]at d;clear i p g o q;generalize dT b l=r at*;have Yu:(0:Int)<(r.length:Int):=by omega
    have O:((r.length:Int)==0)=false:=Jc (by omega);by_cases H:k=60
    ·subst H
     obtain rfl:f=0:=by omega
     rw[mX]at e;go_wp2_with(first
      |(go_at_call 92;refine d.out.mono ?_;clear d;rintro G c⟨C,rfl,a,j⟩;obtain⟨Yy,W,rfl⟩:=a.slice;clear a))
     go_ret3
     rw[<-e.out];exact⟨_,rfl,cU.nil _ _,h.trans (j.mono h.size)⟩
    ·have Ye:((k:Int)==60)=false:=by rw[aW];omega
     have y:f=61-(k+1):=by omega
     rw[y]at e;clear N y;go_wp2_with(first
      |(go_at_call 92;refine d.out.mono ?_;clear d;rintro G c⟨C,rfl,a,j⟩;obtain⟨Yy,W,rfl,x⟩:=a.at u;obtain⟨Yp,Yq,_,_,E,Yh,Yk,Yl⟩:=x 0 u;clear x;simp only[RO,cI]at E;have Yv:=hid a;clear a;generalize(r[0]?.getD (0,0,[])).2.2=u1 at*))
     go_roundw
     case rel=>exact⟨k+1,u1,Yp,Yq,by omega,by go_num,rfl,hid Yh,hid P.out,Yk,Yl,hid e.out,h.trans (j.mono h.size)⟩
     case measure=>simp[intOf];omega
  ·have e:=hid ((ur (f:=f) (k:=k) i).symm.trans g.out)
   have O:(dS b l !=0)=true:=by simpa using i
   clear i g o q;generalize dS b l=YF at*;go_wp2_with(first
    |(go_at_call 92;refine d.out.mono ?_;clear d;rintro G c⟨C,rfl,a,j⟩;obtain⟨Yn,Yo,rfl⟩:=a.slice;clear a))
   go_ret3
   rw[<-e.out];exact⟨_,rfl,cU.nil _ _,h.trans (j.mono h.size)⟩
theorem yr(a:bu)(c:List Int)(l b:Option Addr)(q g:Nat)(i:World)(m:dw i.heap.size i l a)(n:cZ i.heap.size i b c)(r:c.length<=g)(s:g<=maxLen):
 Calls Tryz.prog 37 #[.slice l a.length q,.slice b c.length g] i fun z x=>∃v,z=.returned (.tuple #[v,.int .i64 ((bU a c).2.1:Int),.int .i64 (bU a c).2.2])∧cU i.heap.size x v (bU a c).1∧Below i.heap.size i x:=by
 have j:=IM a c l b q g i m n r s;unfold l7 at j;by_cases e:dS a c=0
 ·obtain⟨u,w,_⟩:=mW e
  have A:=hid (fun F(o:Below i.heap.size i F)=>wU a c l b q g F u w ((m.below o).mono o.size) ((n.below o).mono o.size) r s);rw[e]at j;clear e u w m n;generalize bU a c=H at*;go_enter Tryz.func37,Tryz.ntmps37;go_wp2_with fail;refine j.mono ?_;rintro z y⟨D,rfl,h,d⟩;obtain⟨E,C,rfl⟩:=h.slice;go_wp2_with fail;refine(A.out y d).mono ?_;rintro z K⟨J,rfl,p,B⟩;obtain⟨L,I,rfl,_⟩:=cU.ints p;go_wp2;go_ret3
  exact⟨_,rfl,p.mono d.size,d.trans (B.mono d.size)⟩
 ·have t:bU a c=([],0,dS a c):=ur (f:=60) (k:=0) e
  have G:(dS a c !=0)=true:=by simpa using e
  rw[t];clear e t m n;generalize dS a c=M at*;go_enter Tryz.func37,Tryz.ntmps37;go_wp2_with fail;refine j.mono ?_;rintro z y⟨D,rfl,h,d⟩;obtain⟨E,C,rfl⟩:=h.slice;go_wp2;go_ret3
  exact⟨_,rfl,cU.nil _ _,d⟩
theorem Fv{rk za zb:List Int}(c:da rk=0):fC rk za zb=dY za zb:=by
 unfold fC dY;rw[aD c];simp only[ez];by_cases a:Tm.err za=0
 ·by_cases b:Tm.err zb=0
  ·simp[a,b]
  ·simp[a,b]
 ·simp[a]
theorem GA(rk za zb:List Int)(p n o:Option Addr)(q k l:Nat)(f:World)(u:cZ f.heap.size f p rk)(s:cZ f.heap.size f n za)(t:cZ f.heap.size f o zb)(h:za.length<=k)(c:k<=maxLen)(i:zb.length<=l)(d:l<=maxLen):
 Calls Tryz.prog 39 #[.slice p rk.length q,.slice n za.length k,.slice o zb.length l] f fun r A=>r=.returned (.tuple #[.bool (dj rk za zb),.int .i64 (fC rk za zb)])∧Below f.heap.size f A:=by
 have g:=qC rk p q f u;by_cases b:da rk=0
 ·rw[b]at g
  have m:=qA za zb n o k l f s t;have a:=Fv (za:=za) (zb:=zb) b;rw[a];by_cases j:dY za zb=0
  ·rw[j]at m⊢
   rw[j]at a;obtain⟨_,v,w⟩:=Cu a;have e:dj rk za zb=iu rk za zb 0 0:=by
    unfold dj iu;rw[aD a,jV (fS v),jV (fS w)]
   rw[e];have x:=rI rk za zb p n o q k l f u s t h c i d v w (xb b);clear b j a e u s t h i c d v w;generalize iu rk za zb 0 0=B at*;go_enter Tryz.func39,Tryz.ntmps39;go_wp2_with fail;refine g.mono ?_;rintro r f⟨rfl,rfl⟩;go_wp2_with fail;refine m.mono ?_;rintro r f⟨rfl,rfl⟩;go_wp2_with fail;refine x.mono ?_;rintro r C⟨rfl,y⟩;go_wp2;go_ret2
   exact⟨rfl,y⟩
  ·have e:dj rk za zb=false:=by unfold dj;rw[a,aE j]
   have z:(dY za zb !=0)=true:=by simpa using j
   rw[e];clear b j a e h i c d;generalize dY za zb=B at*;go_enter Tryz.func39,Tryz.ntmps39;go_wp2_with fail;refine g.mono ?_;rintro r f⟨rfl,rfl⟩;go_wp2_with fail;refine m.mono ?_;rintro r f⟨rfl,rfl⟩;go_wp2;go_ret2
   exact⟨rfl,ah _ _⟩
 ·have a:fC rk za zb=da rk:=by unfold fC;rw[aE b]
  have e:dj rk za zb=false:=by unfold dj;rw[a,aE b]
  have z:(da rk !=0)=true:=by simpa using b
  rw[a,e];clear b a e h i c d;generalize da rk=B at*;go_enter Tryz.func39,Tryz.ntmps39;go_wp2_with fail;refine g.mono ?_;rintro r f⟨rfl,rfl⟩;go_wp2;go_ret2
  exact⟨rfl,ah _ _⟩
theorem At{rk:List Int}(c:fP rk s y=(ja B,ke B D))(d:nD u q B D x e h):
 ((fP rk s y).1≠0∧x=(fP rk s y).1∧e=[]∧h=[])∨((fP rk s y).1=0∧jm u q (fP rk s y).2.1 (fP rk s y).2.2 x e h):=by
 rw[c];rcases d with⟨a,b⟩|⟨a,b⟩
 ·exact .inl ⟨a,b⟩
 ·refine .inr ⟨a,?_⟩
  unfold ke;rw[aD a];exact b
theorem GZ(rk:List Int)(a:bu)(p:List Int×List Int)(V:bg)(Zw Yr aq:Option Addr)(ZF YC G:Nat)(e:World)(Z0:cZ e.heap.size e Zw rk)(Zz:dw e.heap.size e Yr a)(ZM:dw e.heap.size e aq (p::V))(ZC:Yr=none->YC=0)(ar:V.length+1<=G)(Z2:G<=maxLen)(ZN:iD rk a (p::V)=0):
 Calls Tryz.prog 86 #[.slice Zw rk.length ZF,.slice Yr a.length YC,.slice aq (V.length+1) G] e fun C ZT=>∃i d c v av m,eH rk a (p::V) i d c∧C=.returned (.tuple #[v,av,.int .i64 i])∧dC true 70 m m ZT v d∧dC true 79 m m ZT av c∧Below e.heap.size e ZT:=by
 obtain⟨ag,Z4,Z5,Zr,ai,aj,ak⟩:=rr ZN;have YD:Hid (∀i d c,((dF a p.1 p.2≠0∧i=dF a p.1 p.2∧d=[]∧c=[])∨
  (dF a p.1 p.2=0∧(bU a p.1).1=(bU a p.2).1∧i=0∧d=a∧c=V)∨
  (dF a p.1 p.2=0∧(bU a p.1).1≠(bU a p.2).1∧(fP rk (bU a p.1).1 (bU a p.2).1).1≠0∧i=(fP rk (bU a p.1).1 (bU a p.2).1).1∧d=[]∧c=[])∨
  (dF a p.1 p.2=0∧(bU a p.1).1≠(bU a p.2).1∧(fP rk (bU a p.1).1 (bU a p.2).1).1=0∧jm a V (fP rk (bU a p.1).1 (bU a p.2).1).2.1 (fP rk (bU a p.1).1 (bU a p.2).1).2.2 i d c))->eH rk a (p::V) i d c):=fun i d c Zm=>.inr ⟨ZN,p,V,rfl,Zm⟩
 have Y6:=pW Z5 0 (by simp);simp only[fG,dy]at Y6;obtain⟨ay,_⟩:=dV Zr;have ae:V.length<=39:=by simp at Z4;omega
 obtain⟨Zg,U,rfl,Z1,ZW,ZY,ZX,ZZ,Zx,Zy,ZI,ZJ,ZK,Z8,ZL,Z9⟩:=ZM 0 (by simp);rw[RO,gp]at Zx Zy;simp only[fG,dy]at Zx Zy ZI ZJ ZK ZL;have Zp:=hid ZM.tail;have D:=hid (fun YE(X:Below e.heap.size e YE)=>(show YE.cell? ⟨Zg,U,none⟩=some (.slice ZW p.1.length ZY)∧YE.cell? ⟨Zg,U+1,none⟩=some (.slice ZX p.2.length ZZ)from⟨(X.cell (p:=⟨Zg,U,none⟩) Z1).trans Zx,(X.cell (p:=⟨Zg,U+1,none⟩) Z1).trans Zy⟩));have Y7:=hid (fun YE(X:Below e.heap.size e YE)=>Zz.below X);have ZV:=hid (fun YE(X:Below e.heap.size e YE)=>(Z0.below X).mono X.size);have q:=hid (wU a p.1 Yr ZW YC ZY e Zr Y6.1 Zz ZI ZK Z8);have t:=hid (fun YE(X:Below e.heap.size e YE)=>wU a p.2 Yr ZX YC ZZ YE Zr Y6.2 ((Zz.below X).mono X.size) ((ZJ.below X).mono X.size) ZL Z9);have Yp:=hid ag;have Y4:=hid Zr;obtain⟨Y5,Zc⟩:=p;dsimp only at YD q t D Zx Zy ZK ZL
 have S:Hid (dF a Y5 Zc=if(bU a Y5).2.2=0 then(bU a Zc).2.2 else(bU a Y5).2.2):=rfl;have Z7:(V.length:Int)<=39:=by omega
 have ad:(0:Int)<(V.length:Int)+1:=by omega
 have aa:(G:Int)<=9223372036854775807:=by unfold maxLen at Z2;omega
 have ab:(V.length:Int)+1<=(G:Int):=by omega
 clear Z0 Zz ZM ZI ZJ ZN Z4 Z5 ai aj ak Y6 Zr;by_cases YK:(bU a Y5).2.2=0
 ·rw[aD YK]at S
  have Yq:=mZ YK;rw[YK]at q;by_cases Y8:(bU a Zc).2.2=0
  ·have Yt:=mZ Y8
   rw[Y8]at t S;rw[S.out]at YD;clear YK Y8 S;generalize(bU a Y5).1=Ye at*;generalize(bU a Zc).1=Yf at*;generalize(bU a Y5).2.1=al at*;generalize(bU a Zc).2.1=aB at*;have az:=cK Yq;have aA:=cK Yt;have L:=hid (fun YE Zd Zf Zh Zj Zs Zt=>wx Ye Yf Zd Zf Zh Zj YE Zs Zt (by unfold maxLen;omega));have aC:(1:Int)<=(V.length:Int)+1:=by omega
   have aF:(1:Int)<=(G:Int):=by omega
   by_cases Yv:Ye=Yf
   ·rw[show lJ Ye Yf=true by simp[lJ,Yv]]at L
    have W:=hid (YD.out 0 a V (.inr (.inl ⟨rfl,Yv,rfl,rfl,rfl⟩)));clear YD Yv;by_cases Yz:G=1
    ·subst Yz
     obtain rfl:V=[]:=bJ (by omega);simp only[bH,cI];go_enter Tryz.func86,Tryz.ntmps86;go_wp2_with fail;refine q.out.mono ?_;rintro C E⟨YR,rfl,B,g⟩;obtain⟨u,w,rfl,Yh,Yd,J⟩:=cU.ints B;obtain⟨Yk,Yl⟩:=D.out E g;clear q;go_wp2_with fail;refine(t.out E g).mono ?_;rintro C Yj⟨YY,rfl,K,n⟩;obtain⟨x,y,rfl,I,Yi,M⟩:=cU.ints K;have N:=g.trans (n.mono g.size);have j:=(Yh.below n).mono n.size;clear t Yk Yl B K;go_wp2_with fail;refine(L.out Yj u x w y j I).mono ?_;rintro C h⟨rfl,k⟩;have l:=N.trans (k.mono N.size);have Yg:e.heap.size<=h.heap.size:=l.size;have Zo:=hid (fun f(b:Below e.heap.size e f)=>Y7.out f b);have Zn:=hid (fun f(b:Below e.heap.size e f)=>(show dw e.heap.size f (some ⟨Zg,U,none⟩) []from fun au Zq=>by simp at Zq));have ZG:Hid (∀f,lq f (h.alloc (.cells #[] 70))->oh 70 e.heap.size e f h.heap.size):=fun f b=>(oh.new _ l Yg).same b
     have ZH:Hid (∀f,lq f (h.alloc (.cells #[] 79))->oh 79 e.heap.size e f h.heap.size):=fun f b=>(oh.new _ l Yg).same b
     have YI:Hid (∀f,lq f ((h.alloc (.cells #[] 70)).alloc (.cells #[] 79))->oh 70 e.heap.size e f h.heap.size∧oh 79 e.heap.size e f (h.heap.size+1)):=fun f b=>by
      have Q:=oh.new 70 l Yg;have Yu:=oh.new 79 Q.2 Q.2.size;rw[bI]at Yu;exact⟨(Q.alloc Q.2.size _).same b,Yu.same b⟩
     have YJ:Hid (∀f,lq f ((h.alloc (.cells #[] 79)).alloc (.cells #[] 70))->oh 79 e.heap.size e f h.heap.size∧oh 70 e.heap.size e f (h.heap.size+1)):=fun f b=>by
      have Q:=oh.new 79 l Yg;have Yu:=oh.new 70 Q.2 Q.2.size;rw[bI]at Yu;exact⟨(Q.alloc Q.2.size _).same b,Yu.same b⟩
     go_wp2;go_region_held3(fun _=>True)(first|trivial)
      (first
        |(refine CB _ (by rfl) _ _ (by rfl) e.heap.size _ e (by rfl) (by first|exact ZG.out _ ⟨by rfl,by rfl,by rfl,by rfl⟩|exact(YI.out _ ⟨by rfl,by rfl,by rfl,by rfl⟩).1|exact(YJ.out _ ⟨by rfl,by rfl,by rfl,by rfl⟩).2|exact(YX.out _ ⟨by rfl,by rfl,by rfl,by rfl⟩).1|exact(YQ.out _ ⟨by rfl,by rfl,by rfl,by rfl⟩).1) Yr YC a (by rfl) ZC Zo.out (af _) (by omega) ?_;intro ao YM Yo Zv Zl YO;obtain⟨Y0,Y3,rfl⟩:=Yo.slice;
          have YP:Hid (∀f,lq f (YM.alloc (.cells #[] 79))->oh 79 e.heap.size e f YM.heap.size∧dC true 70 e.heap.size e.heap.size f (.slice Y0 a.length Y3) a):=fun f b=>⟨(oh.new _ YO YO.size).same b,(Yo.below ((ah _ _).alloc (af _) _)).same b.1⟩;
          (try have YW:Hid (∀f,lq f YM->oh 79 e.heap.size e f (h.heap.size+1)∧dC true 70 e.heap.size e.heap.size f (.slice Y0 a.length Y3) a):=fun f b=>⟨(Zl _ (YI.out _ ⟨by rfl,by rfl,by rfl,by rfl⟩).2).same b,Yo.same b.1⟩);
          (try have YW:Hid (∀f,lq f YM->oh 79 e.heap.size e f h.heap.size∧dC true 70 e.heap.size e.heap.size f (.slice Y0 a.length Y3) a):=fun f b=>⟨(Zl _ (YJ.out _ ⟨by rfl,by rfl,by rfl,by rfl⟩).1).same b,Yo.same b.1⟩);
          (try have O:=hid (And.intro Yo (And.intro (Zv _ _ (YX.out _ ⟨by rfl,by rfl,by rfl,by rfl⟩).2) YO)));
          (try have O:=hid (And.intro Yo (And.intro (Zv _ _ (YQ.out _ ⟨by rfl,by rfl,by rfl,by rfl⟩).2) YO))))
        |(refine Cw _ (by rfl) _ _ (by rfl) e.heap.size _ e (by rfl) (by first|exact ZH.out _ ⟨by rfl,by rfl,by rfl,by rfl⟩|exact(YI.out _ ⟨by rfl,by rfl,by rfl,by rfl⟩).2|exact(YJ.out _ ⟨by rfl,by rfl,by rfl,by rfl⟩).1|exact(YW.out _ ⟨by rfl,by rfl,by rfl,by rfl⟩).1|exact(YP.out _ ⟨by rfl,by rfl,by rfl,by rfl⟩).1) (some ⟨Zg,U,none⟩) 0 [] (by rfl) (fun C=>by cases C) Zn.out (af _) (by omega) ?_;intro an YL Yn Zu Zk YN;obtain⟨YZ,Y2,rfl⟩:=Yn.slice;
          have YQ:Hid (∀f,lq f (YL.alloc (.cells #[] 70))->oh 70 e.heap.size e f YL.heap.size∧dC true 79 e.heap.size e.heap.size f (.slice YZ 0 Y2) []):=fun f b=>⟨(oh.new _ YN YN.size).same b,(Yn.below ((ah _ _).alloc (af _) _)).same b.1⟩;
          (try have YX:Hid (∀f,lq f YL->oh 70 e.heap.size e f h.heap.size∧dC true 79 e.heap.size e.heap.size f (.slice YZ 0 Y2) []):=fun f b=>⟨(Zk _ (YI.out _ ⟨by rfl,by rfl,by rfl,by rfl⟩).1).same b,Yn.same b.1⟩);
          (try have YX:Hid (∀f,lq f YL->oh 70 e.heap.size e f (h.heap.size+1)∧dC true 79 e.heap.size e.heap.size f (.slice YZ 0 Y2) []):=fun f b=>⟨(Zk _ (YJ.out _ ⟨by rfl,by rfl,by rfl,by rfl⟩).2).same b,Yn.same b.1⟩);
          (try have O:=hid (And.intro (Zu _ _ (YW.out _ ⟨by rfl,by rfl,by rfl,by rfl⟩).2) (And.intro Yn YN)));
          (try have O:=hid (And.intro (Zu _ _ (YP.out _ ⟨by rfl,by rfl,by rfl,by rfl⟩).2) (And.intro Yn YN)))))
     all_goals(
      go_wp2;go_ret3
      exact⟨0,a,[],_,_,_,W.out,rfl,O.out.1,O.out.2.1,O.out.2.2⟩)
    ·have Z6:¬G-1=0:=by omega
     go_enter Tryz.func86,Tryz.ntmps86;go_wp2_with fail;refine q.out.mono ?_;rintro C E⟨YR,rfl,B,g⟩;obtain⟨u,w,rfl,Yh,Yd,J⟩:=cU.ints B;obtain⟨Yk,Yl⟩:=D.out E g;clear q;go_wp2_with fail;refine(t.out E g).mono ?_;rintro C Yj⟨YY,rfl,K,n⟩;obtain⟨x,y,rfl,I,Yi,M⟩:=cU.ints K;have N:=g.trans (n.mono g.size);have j:=(Yh.below n).mono n.size;clear t Yk Yl B K;go_wp2_with fail;refine(L.out Yj u x w y j I).mono ?_;rintro C h⟨rfl,k⟩;have l:=N.trans (k.mono N.size);have Yg:e.heap.size<=h.heap.size:=l.size;have Zo:=hid (fun f(b:Below e.heap.size e f)=>Y7.out f b);have Zn:=hid (fun f(b:Below e.heap.size e f)=>Zp.out.below b);have ZG:Hid (∀f,lq f (h.alloc (.cells #[] 70))->oh 70 e.heap.size e f h.heap.size):=fun f b=>(oh.new _ l Yg).same b
     have ZH:Hid (∀f,lq f (h.alloc (.cells #[] 79))->oh 79 e.heap.size e f h.heap.size):=fun f b=>(oh.new _ l Yg).same b
     have YI:Hid (∀f,lq f ((h.alloc (.cells #[] 70)).alloc (.cells #[] 79))->oh 70 e.heap.size e f h.heap.size∧oh 79 e.heap.size e f (h.heap.size+1)):=fun f b=>by
      have Q:=oh.new 70 l Yg;have Yu:=oh.new 79 Q.2 Q.2.size;rw[bI]at Yu;exact⟨(Q.alloc Q.2.size _).same b,Yu.same b⟩
     have YJ:Hid (∀f,lq f ((h.alloc (.cells #[] 79)).alloc (.cells #[] 70))->oh 79 e.heap.size e f h.heap.size∧oh 70 e.heap.size e f (h.heap.size+1)):=fun f b=>by
      have Q:=oh.new 79 l Yg;have Yu:=oh.new 70 Q.2 Q.2.size;rw[bI]at Yu;exact⟨(Q.alloc Q.2.size _).same b,Yu.same b⟩
     go_wp2;go_region_held3(fun _=>True)(first|trivial)
      (first
        |(refine CB _ (by rfl) _ _ (by rfl) e.heap.size _ e (by rfl) (by first|exact ZG.out _ ⟨by rfl,by rfl,by rfl,by rfl⟩|exact(YI.out _ ⟨by rfl,by rfl,by rfl,by rfl⟩).1|exact(YJ.out _ ⟨by rfl,by rfl,by rfl,by rfl⟩).2|exact(YX.out _ ⟨by rfl,by rfl,by rfl,by rfl⟩).1|exact(YQ.out _ ⟨by rfl,by rfl,by rfl,by rfl⟩).1) Yr YC a (by rfl) ZC Zo.out (af _) (by omega) ?_;intro ao YM Yo Zv Zl YO;obtain⟨Y0,Y3,rfl⟩:=Yo.slice;
          have YP:Hid (∀f,lq f (YM.alloc (.cells #[] 79))->oh 79 e.heap.size e f YM.heap.size∧dC true 70 e.heap.size e.heap.size f (.slice Y0 a.length Y3) a):=fun f b=>⟨(oh.new _ YO YO.size).same b,(Yo.below ((ah _ _).alloc (af _) _)).same b.1⟩;
          (try have YW:Hid (∀f,lq f YM->oh 79 e.heap.size e f (h.heap.size+1)∧dC true 70 e.heap.size e.heap.size f (.slice Y0 a.length Y3) a):=fun f b=>⟨(Zl _ (YI.out _ ⟨by rfl,by rfl,by rfl,by rfl⟩).2).same b,Yo.same b.1⟩);
          (try have YW:Hid (∀f,lq f YM->oh 79 e.heap.size e f h.heap.size∧dC true 70 e.heap.size e.heap.size f (.slice Y0 a.length Y3) a):=fun f b=>⟨(Zl _ (YJ.out _ ⟨by rfl,by rfl,by rfl,by rfl⟩).1).same b,Yo.same b.1⟩);
          (try have O:=hid (And.intro Yo (And.intro (Zv _ _ (YX.out _ ⟨by rfl,by rfl,by rfl,by rfl⟩).2) YO)));
          (try have O:=hid (And.intro Yo (And.intro (Zv _ _ (YQ.out _ ⟨by rfl,by rfl,by rfl,by rfl⟩).2) YO))))
        |(refine Cw _ (by rfl) _ _ (by rfl) e.heap.size _ e (by rfl) (by first|exact ZH.out _ ⟨by rfl,by rfl,by rfl,by rfl⟩|exact(YI.out _ ⟨by rfl,by rfl,by rfl,by rfl⟩).2|exact(YJ.out _ ⟨by rfl,by rfl,by rfl,by rfl⟩).1|exact(YW.out _ ⟨by rfl,by rfl,by rfl,by rfl⟩).1|exact(YP.out _ ⟨by rfl,by rfl,by rfl,by rfl⟩).1) (some ⟨Zg,U+2,none⟩) (G-1) V (by rfl) (fun C=>by cases C) Zn.out (af _) (by omega) ?_;intro an YL Yn Zu Zk YN;obtain⟨YZ,Y2,rfl⟩:=Yn.slice;
          have YQ:Hid (∀f,lq f (YL.alloc (.cells #[] 70))->oh 70 e.heap.size e f YL.heap.size∧dC true 79 e.heap.size e.heap.size f (.slice YZ V.length Y2) V):=fun f b=>⟨(oh.new _ YN YN.size).same b,(Yn.below ((ah _ _).alloc (af _) _)).same b.1⟩;
          (try have YX:Hid (∀f,lq f YL->oh 70 e.heap.size e f h.heap.size∧dC true 79 e.heap.size e.heap.size f (.slice YZ V.length Y2) V):=fun f b=>⟨(Zk _ (YI.out _ ⟨by rfl,by rfl,by rfl,by rfl⟩).1).same b,Yn.same b.1⟩);
          (try have YX:Hid (∀f,lq f YL->oh 70 e.heap.size e f (h.heap.size+1)∧dC true 79 e.heap.size e.heap.size f (.slice YZ V.length Y2) V):=fun f b=>⟨(Zk _ (YJ.out _ ⟨by rfl,by rfl,by rfl,by rfl⟩).2).same b,Yn.same b.1⟩);
          (try have O:=hid (And.intro (Zu _ _ (YW.out _ ⟨by rfl,by rfl,by rfl,by rfl⟩).2) (And.intro Yn YN)));
          (try have O:=hid (And.intro (Zu _ _ (YP.out _ ⟨by rfl,by rfl,by rfl,by rfl⟩).2) (And.intro Yn YN)))))
     all_goals(
      go_wp2;go_ret3
      exact⟨0,a,V,_,_,_,W.out,rfl,O.out.1,O.out.2.1,O.out.2.2⟩)
   ·rw[show lJ Ye Yf=false by unfold lJ;exact Rr Yv]at L
    have P:=hid (fun YE(X:Below e.heap.size e YE)Zd Zf Zh Zj Zs Zt ZO ZP ZQ ZR=>rI rk Ye Yf Zw Zd Zf ZF Zh Zj YE (ZV.out YE X) Zs Zt ZO ZP ZQ ZR Yq Yt (xb Yp.out));have Y:=hid (fun YE(X:Below e.heap.size e YE)Zd Zf Zh Zj Zs Zt ZO ZP ZQ ZR=>rI rk Yf Ye Zw Zd Zf ZF Zh Zj YE (ZV.out YE X) Zs Zt ZO ZP ZQ ZR Yt Yq (xb Yp.out));have ZA:Hid (iu rk Ye Yf 0 0=dj rk Ye Yf):=by
     show _=_;unfold dj iu;rw[aD (jQ Yp.out Yq Yt),jV (fS Yq),jV (fS Yt)]
    have ZB:Hid (iu rk Yf Ye 0 0=dj rk Yf Ye):=by
     show _=_;unfold dj iu;rw[aD (jQ Yp.out Yt Yq),jV (fS Yt),jV (fS Yq)]
    rw[ZA.out]at P;rw[ZB.out]at Y;have H:Hid (fP rk Ye Yf=if dj rk Ye Yf=true then(ja Ye,ke Ye Yf)else if dj rk Yf Ye=true then(ja Yf,ke Yf Ye)else(6,[],[])):=rfl;have YF:Hid (∀i d c,(((fP rk Ye Yf).1≠0∧i=(fP rk Ye Yf).1∧d=[]∧c=[])∨((fP rk Ye Yf).1=0∧jm a V (fP rk Ye Yf).2.1 (fP rk Ye Yf).2.2 i d c))->eH rk a ((Y5,Zc)::V) i d c):=fun i d c Zm=>YD.out i d c (Zm.elim (fun Zm=>.inr (.inr (.inl ⟨rfl,Yv,Zm⟩))) (fun Zm=>.inr (.inr (.inr ⟨rfl,Yv,Zm⟩))))
    clear YD ZA ZB Yv;cases Yx:dj rk Ye Yf with
    |true=>
     rw[Yx,aD rfl]at H;rw[Yx]at P;have YA:Hid (∀i d c,nD a V Ye Yf i d c->eH rk a ((Y5,Zc)::V) i d c):=fun i d c Zm=>YF.out i d c (At H.out Zm)
     have Za:=hid Yx;clear YF Y Yx H;by_cases Yz:G=1
     ·subst Yz
      obtain rfl:V=[]:=bJ (by omega);simp only[bH,cI];go_enter Tryz.func86,Tryz.ntmps86;go_wp2_with fail;refine q.out.mono ?_;rintro C E⟨YR,rfl,B,g⟩;obtain⟨u,w,rfl,Yh,Yd,J⟩:=cU.ints B;obtain⟨Yk,Yl⟩:=D.out E g;clear q;go_wp2_with fail;refine(t.out E g).mono ?_;rintro C Yj⟨YY,rfl,K,n⟩;obtain⟨x,y,rfl,I,Yi,M⟩:=cU.ints K;have N:=g.trans (n.mono g.size);have j:=(Yh.below n).mono n.size;clear t Yk Yl B K;go_wp2_with fail;refine(L.out Yj u x w y j I).mono ?_;rintro C h⟨rfl,k⟩;have l:=N.trans (k.mono N.size);have r:=(j.below k).mono k.size;have s:=(I.below k).mono k.size;clear L j I;have hA1:=hid (P.out h l u x w y r s Yd J Yi M);clear P;go_wp2_with fail;refine hA1.out.mono ?_;rintro C YB⟨rfl,o⟩;have F:=l.trans (o.mono l.size);have z:=(r.below o).mono o.size;have A:=(s.below o).mono o.size;clear hA1 r s;have Yw:=hid (sU rk a [] Ye Yf Yr (some ⟨Zg,U,none⟩) u x YC 0 w y YB Yp.out Y4.out Yq Yt Za.out (by simp) ((Y7.out YB F).mono F.size) (fun au Zq=>by simp at Zq) (fun C=>by cases C) z A);clear z A;go_wp2_with fail;refine Yw.out.mono ?_;rintro C ZU⟨i,d,c,ZS,u9,T,rfl,Yc,Z,YV⟩;obtain⟨ZD,ZE,rfl⟩:=Yc.slice;obtain⟨Ze,Zi,rfl⟩:=Z.slice;have W:=hid (YA.out i d c T);have YS:=F.trans (YV.mono F.size);have YU:=hid Yc;have YT:=hid Z;clear Yw T Yc Z;go_wp2;go_ret3
      exact⟨i,d,c,_,_,_,W.out,rfl,YU.out,YT.out,YS⟩
     ·have Z6:¬G-1=0:=by omega
      go_enter Tryz.func86,Tryz.ntmps86;go_wp2_with fail;refine q.out.mono ?_;rintro C E⟨YR,rfl,B,g⟩;obtain⟨u,w,rfl,Yh,Yd,J⟩:=cU.ints B;obtain⟨Yk,Yl⟩:=D.out E g;clear q;go_wp2_with fail;refine(t.out E g).mono ?_;rintro C Yj⟨YY,rfl,K,n⟩;obtain⟨x,y,rfl,I,Yi,M⟩:=cU.ints K;have N:=g.trans (n.mono g.size);have j:=(Yh.below n).mono n.size;clear t Yk Yl B K;go_wp2_with fail;refine(L.out Yj u x w y j I).mono ?_;rintro C h⟨rfl,k⟩;have l:=N.trans (k.mono N.size);have r:=(j.below k).mono k.size;have s:=(I.below k).mono k.size;clear L j I;have hA1:=hid (P.out h l u x w y r s Yd J Yi M);clear P;go_wp2_with fail;refine hA1.out.mono ?_;rintro C YB⟨rfl,o⟩;have F:=l.trans (o.mono l.size);have z:=(r.below o).mono o.size;have A:=(s.below o).mono o.size;clear hA1 r s;have Yw:=hid (sU rk a V Ye Yf Yr (some ⟨Zg,U+2,none⟩) u x YC (G-1) w y YB Yp.out Y4.out Yq Yt Za.out (by omega) ((Y7.out YB F).mono F.size) ((Zp.out.below F).mono F.size) (fun C=>by cases C) z A);clear z A;go_wp2_with fail;refine Yw.out.mono ?_;rintro C ZU⟨i,d,c,ZS,u9,T,rfl,Yc,Z,YV⟩;obtain⟨ZD,ZE,rfl⟩:=Yc.slice;obtain⟨Ze,Zi,rfl⟩:=Z.slice;have W:=hid (YA.out i d c T);have YS:=F.trans (YV.mono F.size);have YU:=hid Yc;have YT:=hid Z;clear Yw T Yc Z;go_wp2;go_ret3
      exact⟨i,d,c,_,_,_,W.out,rfl,YU.out,YT.out,YS⟩
    |false=>
     rw[Yx,aE (by decide)]at H;rw[Yx]at P;clear Yx;cases Yy:dj rk Yf Ye with
     |true=>
      rw[Yy,aD rfl]at H;rw[Yy]at Y;have YA:Hid (∀i d c,nD a V Yf Ye i d c->eH rk a ((Y5,Zc)::V) i d c):=fun i d c Zm=>YF.out i d c (At H.out Zm)
      have Zb:=hid Yy;clear YF Yy H;by_cases Yz:G=1
      ·subst Yz
       obtain rfl:V=[]:=bJ (by omega);simp only[bH,cI];go_enter Tryz.func86,Tryz.ntmps86;go_wp2_with fail;refine q.out.mono ?_;rintro C E⟨YR,rfl,B,g⟩;obtain⟨u,w,rfl,Yh,Yd,J⟩:=cU.ints B;obtain⟨Yk,Yl⟩:=D.out E g;clear q;go_wp2_with fail;refine(t.out E g).mono ?_;rintro C Yj⟨YY,rfl,K,n⟩;obtain⟨x,y,rfl,I,Yi,M⟩:=cU.ints K;have N:=g.trans (n.mono g.size);have j:=(Yh.below n).mono n.size;clear t Yk Yl B K;go_wp2_with fail;refine(L.out Yj u x w y j I).mono ?_;rintro C h⟨rfl,k⟩;have l:=N.trans (k.mono N.size);have r:=(j.below k).mono k.size;have s:=(I.below k).mono k.size;clear L j I;have hA1:=hid (P.out h l u x w y r s Yd J Yi M);clear P;go_wp2_with fail;refine hA1.out.mono ?_;rintro C YB⟨rfl,o⟩;have F:=l.trans (o.mono l.size);have z:=(r.below o).mono o.size;have A:=(s.below o).mono o.size;clear hA1 r s;have hA2:=hid (Y.out YB F x u y w A z Yi M Yd J);clear Y;go_wp2_with fail;refine hA2.out.mono ?_;rintro C Y9⟨rfl,R⟩;have Ym:=F.trans (R.mono F.size);have YG:=(z.below R).mono R.size;have YH:=(A.below R).mono R.size;clear hA2 z A;have Yw:=hid (sU rk a [] Yf Ye Yr (some ⟨Zg,U,none⟩) x u YC 0 y w Y9 Yp.out Y4.out Yt Yq Zb.out (by simp) ((Y7.out Y9 Ym).mono Ym.size) (fun au Zq=>by simp at Zq) (fun C=>by cases C) YH YG);clear YH YG;go_wp2_with fail;refine Yw.out.mono ?_;rintro C ZU⟨i,d,c,ZS,u9,T,rfl,Yc,Z,YV⟩;obtain⟨ZD,ZE,rfl⟩:=Yc.slice;obtain⟨Ze,Zi,rfl⟩:=Z.slice;have W:=hid (YA.out i d c T);have YS:=Ym.trans (YV.mono Ym.size);have YU:=hid Yc;have YT:=hid Z;clear Yw T Yc Z;go_wp2;go_ret3
       exact⟨i,d,c,_,_,_,W.out,rfl,YU.out,YT.out,YS⟩
      ·have Z6:¬G-1=0:=by omega
       go_enter Tryz.func86,Tryz.ntmps86;go_wp2_with fail;refine q.out.mono ?_;rintro C E⟨YR,rfl,B,g⟩;obtain⟨u,w,rfl,Yh,Yd,J⟩:=cU.ints B;obtain⟨Yk,Yl⟩:=D.out E g;clear q;go_wp2_with fail;refine(t.out E g).mono ?_;rintro C Yj⟨YY,rfl,K,n⟩;obtain⟨x,y,rfl,I,Yi,M⟩:=cU.ints K;have N:=g.trans (n.mono g.size);have j:=(Yh.below n).mono n.size;clear t Yk Yl B K;go_wp2_with fail;refine(L.out Yj u x w y j I).mono ?_;rintro C h⟨rfl,k⟩;have l:=N.trans (k.mono N.size);have r:=(j.below k).mono k.size;have s:=(I.below k).mono k.size;clear L j I;have hA1:=hid (P.out h l u x w y r s Yd J Yi M);clear P;go_wp2_with fail;refine hA1.out.mono ?_;rintro C YB⟨rfl,o⟩;have F:=l.trans (o.mono l.size);have z:=(r.below o).mono o.size;have A:=(s.below o).mono o.size;clear hA1 r s;have hA2:=hid (Y.out YB F x u y w A z Yi M Yd J);clear Y;go_wp2_with fail;refine hA2.out.mono ?_;rintro C Y9⟨rfl,R⟩;have Ym:=F.trans (R.mono F.size);have YG:=(z.below R).mono R.size;have YH:=(A.below R).mono R.size;clear hA2 z A;have Yw:=hid (sU rk a V Yf Ye Yr (some ⟨Zg,U+2,none⟩) x u YC (G-1) y w Y9 Yp.out Y4.out Yt Yq Zb.out (by omega) ((Y7.out Y9 Ym).mono Ym.size) ((Zp.out.below Ym).mono Ym.size) (fun C=>by cases C) YH YG);clear YH YG;go_wp2_with fail;refine Yw.out.mono ?_;rintro C ZU⟨i,d,c,ZS,u9,T,rfl,Yc,Z,YV⟩;obtain⟨ZD,ZE,rfl⟩:=Yc.slice;obtain⟨Ze,Zi,rfl⟩:=Z.slice;have W:=hid (YA.out i d c T);have YS:=Ym.trans (YV.mono Ym.size);have YU:=hid Yc;have YT:=hid Z;clear Yw T Yc Z;go_wp2;go_ret3
       exact⟨i,d,c,_,_,_,W.out,rfl,YU.out,YT.out,YS⟩
     |false=>
      rw[Yy,aE (by decide)]at H;rw[Yy]at Y;have W:=hid (YF.out 6 [] [] (.inl ⟨by rw[H.out];decide,by rw[H.out],rfl,rfl⟩));clear YF Yy H;go_enter Tryz.func86,Tryz.ntmps86;go_wp2_with fail;refine q.out.mono ?_;rintro C E⟨YR,rfl,B,g⟩;obtain⟨u,w,rfl,Yh,Yd,J⟩:=cU.ints B;obtain⟨Yk,Yl⟩:=D.out E g;clear q;go_wp2_with fail;refine(t.out E g).mono ?_;rintro C Yj⟨YY,rfl,K,n⟩;obtain⟨x,y,rfl,I,Yi,M⟩:=cU.ints K;have N:=g.trans (n.mono g.size);have j:=(Yh.below n).mono n.size;clear t Yk Yl B K;go_wp2_with fail;refine(L.out Yj u x w y j I).mono ?_;rintro C h⟨rfl,k⟩;have l:=N.trans (k.mono N.size);have r:=(j.below k).mono k.size;have s:=(I.below k).mono k.size;clear L j I;have hA1:=hid (P.out h l u x w y r s Yd J Yi M);clear P;go_wp2_with fail;refine hA1.out.mono ?_;rintro C YB⟨rfl,o⟩;have F:=l.trans (o.mono l.size);have z:=(r.below o).mono o.size;have A:=(s.below o).mono o.size;clear hA1 r s;have hA2:=hid (Y.out YB F x u y w A z Yi M Yd J);clear Y;go_wp2_with fail;refine hA2.out.mono ?_;rintro C Y9⟨rfl,R⟩;have Ym:=F.trans (R.mono F.size);have YG:=(z.below R).mono R.size;have YH:=(A.below R).mono R.size;clear hA2 z A;go_wp2;go_ret3
      exact⟨6,[],[],_,_,0,W.out,rfl,dC.nil _ _ _ _,dC.nil _ _ _ _,Ym⟩
  ·have Z3:((bU a Zc).2.2 !=0)=true:=by simpa using Y8
   have W:=hid (YD.out (bU a Zc).2.2 [] [] (.inl ⟨by rw[S.out];exact Y8,S.out.symm,rfl,rfl⟩));clear YD S YK Y8 Yq;generalize(bU a Y5).1=Ye at*;generalize(bU a Y5).2.1=al at*;generalize bU a Zc=ax at*;go_enter Tryz.func86,Tryz.ntmps86;go_wp2_with fail;refine q.out.mono ?_;rintro C E⟨YR,rfl,B,g⟩;obtain⟨u,w,rfl,Yh,Yd,J⟩:=cU.ints B;obtain⟨Yk,Yl⟩:=D.out E g;clear q;go_wp2_with fail;refine(t.out E g).mono ?_;rintro C Yj⟨YY,rfl,K,n⟩;obtain⟨x,y,rfl,_⟩:=cU.ints K;go_wp2;go_ret3
   exact⟨_,[],[],_,_,0,W.out,rfl,dC.nil _ _ _ _,dC.nil _ _ _ _,g.trans (n.mono g.size)⟩
 ·rw[aE YK]at S
  have Z3:((bU a Y5).2.2 !=0)=true:=by simpa using YK
  have W:=hid (YD.out (bU a Y5).2.2 [] [] (.inl ⟨by rw[S.out];exact YK,S.out.symm,rfl,rfl⟩));clear YD S YK t;generalize bU a Y5=aw at*;go_enter Tryz.func86,Tryz.ntmps86;go_wp2_with fail;refine q.out.mono ?_;rintro C E⟨YR,rfl,B,g⟩;obtain⟨u,w,rfl,_⟩:=cU.ints B;go_wp2;go_ret3
  exact⟨_,[],[],_,_,0,W.out,rfl,dC.nil _ _ _ _,dC.nil _ _ _ _,g⟩
theorem Mr(b c:List Int):dY b c=eU b c:=by
 unfold eU;by_cases a:Tm.err b=0
 ·rw[aD a]
  simp only[dY,ez,a,xC];by_cases d:Tm.err c=0<;>simp[d]
 ·rw[aE a]
  simp[dY,ez,a]
theorem vg(a:bg)(J:Option Addr)(q:Nat)(o:World)(n:dw o.heap.size o J a):
 Calls Tryz.prog 36 #[.slice J a.length q] o fun w I=>w=.returned (.int .i64 (fQ a))∧Below o.heap.size o I:=by
 by_cases p:40<a.length
 ·have P:(40:Int)<(a.length:Int):=by omega
  have e:fQ a=2:=by unfold fQ;rw[aD p]
  rw[e];clear e n p;go_enter Tryz.func36,Tryz.ntmps36;go_wp2;go_ret;exact⟨rfl,ah _ _⟩
 ·have S:decide ((40:Int)<(a.length:Int))=false:=by simp;omega
  have A:(a.length:Int)<=40:=by omega
  have e:fQ a=du a:=by unfold fQ;rw[aE p]
  rw[e];have r:=hid n;clear n p e;go_enter Tryz.func36,Tryz.ntmps36;go_wp2;go_loopw [3](fun B wr=>∃b:Nat,b<=a.length∧B=.int .i64 (b:Int)∧Hid (∀i,i<b->eU (a[i]?.getD ([],[])).1 (a[i]?.getD ([],[])).2=0)∧Hid (Below o.heap.size o wr))(fun B _=>a.length-(intOf B).toNat)
  case atStart=>exact⟨0,bf _,rfl,(fun i z=>by omega),ah _ _⟩
  case round=>
   obtain⟨b,R,rfl,h,f⟩:=hrel;by_cases m:b<a.length
   ·have M:(b:Int)<(a.length:Int):=by omega
    obtain⟨U,O,rfl,Q,s,u,t,v,K,L,k,l,E,F,G,H⟩:=(r.out.below f.out) b m;have d:=hid (xY b m h.out);have c:Hid (eU (a[b]?.getD ([],[])).1 (a[b]?.getD ([],[])).2=0->∀i,i<b+1->eU (a[i]?.getD ([],[])).1 (a[i]?.getD ([],[])).2=0):=fun p i z=>by
     by_cases w:i=b
     ·subst w;exact p
     ·exact h.out i (by omega)
    have j:=hid (fun T:Nat=>qA (a[b]?.getD ([],[])).1 (a[b]?.getD ([],[])).2 s t u v (wr.drewN T) (k.mono f.out.size) (l.mono f.out.size));rw[Mr]at j;clear k l E F G H;by_cases g:eU (a[b]?.getD ([],[])).1 (a[b]?.getD ([],[])).2=0
    ·have y:=hid (c.out g)
     rw[g]at j;clear g c d;generalize(a[b]?.getD ([],[])).1.length=C at*;generalize(a[b]?.getD ([],[])).2.length=D at*;go_wp2;go_quiet((go_at_call 59;exact ou (j.out _)))
     go_wp2;go_roundw
     case rel=>exact⟨b+1,by omega,by go_num,y,bD f.out _⟩
     case measure=>simp[intOf];omega
    ·have x:=hid (d.out g)
     have N:(eU (a[b]?.getD ([],[])).1 (a[b]?.getD ([],[])).2 !=0)=true:=by simpa using g
     clear g c d;generalize(a[b]?.getD ([],[])).1.length=C at*;generalize(a[b]?.getD ([],[])).2.length=D at*;generalize eU (a[b]?.getD ([],[])).1 (a[b]?.getD ([],[])).2=V at*;go_wp2;go_quiet((go_at_call 59;exact ou (j.out _)))
     go_wp2;go_ret;exact⟨rQ x.out.symm,bD f.out _⟩
   ·obtain rfl:b=a.length:=by omega
    have e:=hid (xN h.out);go_wp2;go_ret;exact⟨rQ e.out.symm,f.out⟩
section
attribute [local go_sem ↓] Go.wp_at_zero Go.wp_at_succ
theorem Eu(rk:List Int)(a:bu)(z Ym:Option Addr)(F E:Nat)(v:World)(R:cZ v.heap.size v z rk)(Yh:dw v.heap.size v Ym a)(C:da rk=0)(O:cm a=0):
 Calls Tryz.prog 114 #[.slice z rk.length F,.slice Ym a.length E] v fun Yc h=>Yc=.returned (.bool (ky rk a))∧Below v.heap.size v h:=by
 obtain⟨Yg,g⟩:=dV O;have Yn:(a.length:Int)<=8:=by omega
 have P:=xb C;have Y:=hid (fun D(f:Below v.heap.size v D)b(o:b<a.length)k l m n Yi S Yd Ye Yf Q=>rI rk (a[b]?.getD ([],[])).1 (a[b]?.getD ([],[])).2 z k l F m n D ((R.below f).mono f.size) Yi S Yd Ye Yf Q (eo (g b o)).1 (eo (g b o)).2.1 P);have Z:=hid (fun b(o:b<a.length)=>show iu rk (a[b]?.getD ([],[])).1 (a[b]?.getD ([],[])).2 0 0=dj rk (a[b]?.getD ([],[])).1 (a[b]?.getD ([],[])).2 by
  have G:=(eo (g b o)).1;have H:=(eo (g b o)).2.1;unfold dj iu;rw[aD (jQ C G H),jV (fS G),jV (fS H)])
 clear C O P g Yg R;go_enter Tryz.func114,Tryz.ntmps114;go_wp2;go_loopw [5](fun Yl wr=>∃b:Nat,b<=a.length∧Yl=.int .i64 (b:Int)∧Hid (ky rk (a.take b)=true)∧Below v.heap.size v wr)(fun Yl _=>a.length-(intOf Yl).toNat)
 case atStart=>exact⟨0,bf _,rfl,hid rfl,ah _ _⟩
 case round=>
  obtain⟨b,o,rfl,u,e⟩:=hrel;by_cases i:b<a.length
  ·have Yk:(b:Int)<(a.length:Int):=by omega
   obtain⟨x,c,rfl,Yj,k,m,l,n,A,B,I,J,K,L,M,N⟩:=(Yh.below e) b i;have y:x<wr.heap.size:=df Yj e.size;have s:=hid (AK i u.out);have t:=hid (fun Yo=>DX (rk:=rk) i Yo);have j:=hid (fun D(f:Below wr.heap.size wr D)=>Y.out D (e.trans (f.mono e.size)) b i k l m n (((I.mono e.size).below f).mono f.size) (((J.mono e.size).below f).mono f.size) K L M N);rw[Z.out b i]at j;generalize(a[b]?.getD ([],[])).1=W at*;generalize(a[b]?.getD ([],[])).2=X at*;have T:=hid (fun h(f:Below wr.heap.size wr h)=>(show h.cell? ⟨x,c+b*2,none⟩=some (.slice k W.length m)∧h.cell? ⟨x,c+b*2+1,none⟩=some (.slice l X.length n)from
    ⟨(f.cell (p:=⟨x,c+b*2,none⟩) y).trans A,(f.cell (p:=⟨x,c+b*2+1,none⟩) y).trans B⟩))
   clear I J K L M N;cases r:dj rk W X with
   |true=>
    rw[r]at j s;clear r t;go_wp2_with fail;go_region_held3(fun h=>h.cell? ⟨x,c+b*2,none⟩=some (.slice k W.length m)∧h.cell? ⟨x,c+b*2+1,none⟩=some (.slice l X.length n))(first|assumption|exact⟨A,B⟩)(first
     |(go_at_call 65;refine(j.out _ (ie (ah _ wr))).mono ?_;clear j;rintro Yc w⟨rfl,d⟩;have q:Below wr.heap.size wr w:=⟨d.os,d.tape,d.output,d.size,d.block⟩;have U:=T.out w q))
    all_goals(
     go_wp2;go_roundw
     case rel=>exact⟨b+1,by omega,by go_num,hid s.out,e.trans (q.mono e.size)⟩
     case measure=>simp[intOf];omega)
   |false=>
    have V:=hid (t.out r);rw[r]at j;clear r s t;go_wp2_with fail;go_region_held3(fun h=>h.cell? ⟨x,c+b*2,none⟩=some (.slice k W.length m)∧h.cell? ⟨x,c+b*2+1,none⟩=some (.slice l X.length n))(first|assumption|exact⟨A,B⟩)(first
     |(go_at_call 65;refine(j.out _ (ie (ah _ wr))).mono ?_;clear j;rintro Yc w⟨rfl,d⟩;have q:Below wr.heap.size wr w:=⟨d.os,d.tape,d.output,d.size,d.block⟩;have U:=T.out w q))
    all_goals(
     go_wp2;go_ret;exact⟨by rw[V.out];rfl,e.trans (q.mono e.size)⟩)
  ·obtain rfl:b=a.length:=by omega
   rw[cJ]at u;go_wp2;go_ret;exact⟨by rw[u.out];rfl,e⟩
theorem G5(rk:List Int)(a:bu)(m r:Option Addr)(o h:Nat)(f:World)(j:cZ f.heap.size f m rk)(i:dw f.heap.size f r a):
 Calls Tryz.prog 85 #[.slice m rk.length o,.slice r a.length h] f fun p v=>p=.returned (.tuple #[.bool (eW rk a),.int .i64 (eh rk a)])∧Below f.heap.size f v:=by
 have k:=qC rk m o f j;have l:=pS a r h f i;by_cases c:da rk=0
 ·rw[c]at k
  have b:eh rk a=cm a:=by unfold eh;rw[aD c]
  by_cases d:cm a=0
  ·have s:=hid (fun w(n:Below f.heap.size f w)=>Eu rk a m r o h w ((j.below n).mono n.size) ((i.below n).mono n.size) c d)
   rw[d]at l;have e:eW rk a=ky rk a:=by unfold eW;rw[b,aD d]
   rw[e,b,d];clear c d b e j i;generalize ky rk a=x at*;go_enter Tryz.func85,Tryz.ntmps85;go_wp2_with fail;refine k.mono ?_;rintro p f⟨rfl,rfl⟩;go_wp2_with fail;refine l.mono ?_;rintro p q⟨rfl,g⟩;go_wp2_with fail;refine(s.out q g).mono ?_;rintro p y⟨rfl,t⟩;go_wp2;go_ret2
   exact⟨rfl,g.trans (t.mono g.size)⟩
  ·have e:eW rk a=false:=by unfold eW;rw[b,aE d]
   have u:(cm a !=0)=true:=by simpa using d
   rw[e,b];clear c d b e j i;generalize cm a=x at*;go_enter Tryz.func85,Tryz.ntmps85;go_wp2_with fail;refine k.mono ?_;rintro p f⟨rfl,rfl⟩;go_wp2_with fail;refine l.mono ?_;rintro p q⟨rfl,g⟩;go_wp2;go_ret2
   exact⟨rfl,g⟩
 ·have b:eh rk a=da rk:=by unfold eh;rw[aE c]
  have e:eW rk a=false:=by unfold eW;rw[b,aE c]
  have u:(da rk !=0)=true:=by simpa using c
  rw[e,b];clear c b e j i l;generalize da rk=x at*;go_enter Tryz.func85,Tryz.ntmps85;go_wp2_with fail;refine k.mono ?_;rintro p f⟨rfl,rfl⟩;go_wp2;go_ret2
  exact⟨rfl,ah _ _⟩
end
theorem dC.QV(n:dC true I g i d w h):∃c a,w=.slice c h.length a∧dw d.heap.size d c h∧h.length<=a∧a<=maxLen∧(c=none->a=0):=by
 obtain⟨c,a,rfl,e,f,j⟩:=n.at;refine⟨c,a,rfl,e,f,j,fun l=>?_⟩;obtain⟨o,k,_⟩:=n;rcases k.2 with⟨b,_⟩|⟨q,p,m,b,_⟩
 ·simp only[iS]at b;exact b.2.2
 ·subst l;cases b
theorem Dx(rk:List Int)(g:bu)(c:bg)(C B V:Option Addr)(F E r:Nat)(n:World)(p:cZ n.heap.size n C rk)(t:dw n.heap.size n B g)(u:dw n.heap.size n V c)(S:B=none->E=0)(Q:c.length<=r)(I:r<=maxLen):
 Calls Tryz.prog 54 #[.slice C rk.length F,.slice B g.length E,.slice V c.length r] n fun s N=>∃G A z v Yc m,eH rk g c G A z∧s=.returned (.tuple #[v,Yc,.int .i64 G])∧dC true 70 m m N v A∧dC true 79 m m N Yc z∧Below n.heap.size n N:=by
 have R:(c.length:Int)<=9223372036854775807:=by unfold maxLen at I;omega
 have q:=hid (qC rk C F n p);have j:=hid (vg c V r n u);have k:=hid (fun O(i:Below n.heap.size n O)=>G5 rk g C B F E O ((p.below i).mono i.size) ((t.below i).mono i.size));have a:Hid (iD rk g c=if gn rk c=0 then(if eh rk g=0 then(if eW rk g=true then(if c.length=0 then 5 else 0)else 6)else eh rk g)else gn rk c):=rfl;have e:Hid (gn rk c=if da rk=0 then fQ c else da rk):=rfl;have b:Hid (iD rk g c≠0->eH rk g c (iD rk g c) [] []):=fun Yk=>.inl ⟨Yk,rfl,rfl,rfl⟩
 by_cases h:da rk=0
 ·rw[h]at q
  rw[aD h]at e;by_cases l:fQ c=0
  ·rw[l]at j
   rw[e.out,aD l]at a;by_cases o:eh rk g=0
   ·rw[aD o]at a
    rw[o]at k;cases y:eW rk g with
    |true=>
     rw[y,aD rfl]at a;rw[y]at k;cases c with
     |nil=>
      rw[aD (by simp)]at a;have f:=hid (b.out (by rw[a.out];decide));rw[a.out]at f;simp only[bH]at j⊢;clear b a e h l o y p t u;go_enter Tryz.func54,Tryz.ntmps54;go_wp2_with fail;refine q.out.mono ?_;rintro s n⟨rfl,rfl⟩;go_wp2_with fail;refine j.out.mono ?_;rintro s w⟨rfl,d⟩;go_wp2_with fail;refine(k.out w d).mono ?_;rintro s H⟨rfl,x⟩;go_wp2;go_ret3
      exact⟨5,[],[],_,_,0,f.out,rfl,dC.nil _ _ _ _,dC.nil _ _ _ _,d.trans (x.mono d.size)⟩
     |cons Yg T=>
      rw[aE (by simp)]at a;have P:=hid (fun O(i:Below n.heap.size n O)=>GZ rk g Yg T C B V F E r O ((p.below i).mono i.size) ((t.below i).mono i.size) ((u.below i).mono i.size) S Q I a.out);have D:(Yg::T).length=T.length+1:=rfl;have Yl:((T.length:Int)+1==0)=false:=by rw[aW];omega
      rw[D]at j R⊢;have Yf:(T.length:Int)+1<=9223372036854775807:=by omega
      clear b a e h l o y p t u D R;go_enter Tryz.func54,Tryz.ntmps54;go_wp2_with fail;refine q.out.mono ?_;rintro s n⟨rfl,rfl⟩;go_wp2_with fail;refine j.out.mono ?_;rintro s w⟨rfl,d⟩;go_wp2_with fail;refine(k.out w d).mono ?_;rintro s H⟨rfl,x⟩;have K:=d.trans (x.mono d.size);clear q j k;go_wp2_with fail;refine(P.out H K).mono ?_;rintro s Ym⟨G,A,z,v,Yc,m,f,rfl,M,L,Z⟩;obtain⟨Yh,Yi,rfl⟩:=M.slice;obtain⟨Yd,Ye,rfl⟩:=L.slice;have W:=hid f;have Y:=hid M;have X:=hid L;clear P f M L;go_wp2;go_ret3
      exact⟨G,A,z,_,_,m,W.out,rfl,Y.out,X.out,K.trans (Z.mono K.size)⟩
    |false=>
     rw[y,aE (by decide)]at a;rw[y]at k;have f:=hid (b.out (by rw[a.out];decide));rw[a.out]at f;clear b a e h l o y p t u;go_enter Tryz.func54,Tryz.ntmps54;go_wp2_with fail;refine q.out.mono ?_;rintro s n⟨rfl,rfl⟩;go_wp2_with fail;refine j.out.mono ?_;rintro s w⟨rfl,d⟩;go_wp2_with fail;refine(k.out w d).mono ?_;rintro s H⟨rfl,x⟩;go_wp2;go_ret3
     exact⟨6,[],[],_,_,0,f.out,rfl,dC.nil _ _ _ _,dC.nil _ _ _ _,d.trans (x.mono d.size)⟩
   ·rw[aE o]at a
    have J:(eh rk g !=0)=true:=by simpa using o
    have f:=hid (b.out (by rw[a.out];exact o));rw[a.out]at f;clear b a e h l o p t u;generalize eh rk g=U at*;generalize eW rk g=Yj at*;go_enter Tryz.func54,Tryz.ntmps54;go_wp2_with fail;refine q.out.mono ?_;rintro s n⟨rfl,rfl⟩;go_wp2_with fail;refine j.out.mono ?_;rintro s w⟨rfl,d⟩;go_wp2_with fail;refine(k.out w d).mono ?_;rintro s H⟨rfl,x⟩;go_wp2;go_ret3
    exact⟨U,[],[],_,_,0,f.out,rfl,dC.nil _ _ _ _,dC.nil _ _ _ _,d.trans (x.mono d.size)⟩
  ·rw[e.out,aE l]at a
   have J:(fQ c !=0)=true:=by simpa using l
   have f:=hid (b.out (by rw[a.out];exact l));rw[a.out]at f;clear b a e h l p t u k;generalize fQ c=U at*;go_enter Tryz.func54,Tryz.ntmps54;go_wp2_with fail;refine q.out.mono ?_;rintro s n⟨rfl,rfl⟩;go_wp2_with fail;refine j.out.mono ?_;rintro s w⟨rfl,d⟩;go_wp2;go_ret3
   exact⟨U,[],[],_,_,0,f.out,rfl,dC.nil _ _ _ _,dC.nil _ _ _ _,d⟩
 ·rw[aE h]at e
  rw[e.out,aE h]at a;have J:(da rk !=0)=true:=by simpa using h
  have f:=hid (b.out (by rw[a.out];exact h));rw[a.out]at f;clear b a e h p t u j k;generalize da rk=U at*;go_enter Tryz.func54,Tryz.ntmps54;go_wp2_with fail;refine q.out.mono ?_;rintro s n⟨rfl,rfl⟩;go_wp2;go_ret3
  exact⟨U,[],[],_,_,0,f.out,rfl,dC.nil _ _ _ _,dC.nil _ _ _ _,ah _ _⟩
theorem JY(rk:List Int)(b:bg)(C Yq:Option Addr)(M o:Nat)(q:World)(R:cZ q.heap.size q C rk)(Q:dw q.heap.size q Yq b)(Yd:b.length<=o)(Ye:o<=maxLen):
  Calls Tryz.prog 29 #[.slice C rk.length M,.slice Yq b.length o] q fun N U=>∃d rs n j f,jC rk b d rs n∧N=.returned (.tuple #[.slice j rs.length f,.int .i64 (n:Int),.int .i64 d])∧dw U.heap.size U j rs∧rs.length<=f∧f<=maxLen∧(j=none->f=0)∧Below q.heap.size q U:=by
 have v:=hid (qC rk C M q R);have w:=hid (vg b Yq o q Q);have Yu:=hid (fun Yy(z:Below q.heap.size q Yy)=>(R.below z).mono z.size);have Yt:=hid (fun Yy(z:Below q.heap.size q Yy)=>(Q.below z).mono z.size);have c:Hid (gn rk b=if da rk=0 then fQ b else da rk):=rfl;have i:Hid (gn rk b≠0->jC rk b (gn rk b) [] 0):=fun YC=>.inl ⟨YC,rfl,rfl,rfl⟩
 clear R Q;by_cases p:da rk=0
 ·rw[p]at v
  rw[aD p]at c;by_cases u:fQ b=0
  ·rw[u]at w
   have s:Hid (∀d rs n,(∃h A a,h<=30∧jr rk b h A a∧
  ((a=[]∧d=0∧rs=A∧n=h)∨(0<a.length∧h=30∧d=2∧rs=[]∧n=0)∨(0<a.length∧h<30∧d≠0∧(∃m l,eH rk A a d m l)∧rs=[]∧n=0)))->jC rk b d rs n):=fun d rs n YC=>.inr ⟨by rw[c.out];exact u,YC⟩
   clear i c p u;go_enter Tryz.func29,Tryz.ntmps29;go_wp2_with fail;refine v.out.mono ?_;rintro N q⟨rfl,rfl⟩;go_wp2_with fail;refine w.out.mono ?_;rintro N F⟨rfl,r⟩;clear v w;go_wp2;go_loopw [1,9,10](fun YB YE Yr wr=>∃(h:Nat)(rs a:bg)(B j:Option Addr)(y f:Nat),h<=30∧Yr=.int .i64 (h:Int)∧YB=.slice B a.length y∧YE=.slice j rs.length f∧Hid (dw wr.heap.size wr B a)∧Hid (dw wr.heap.size wr j rs)∧Hid (a.length<=y∧y<=maxLen∧rs.length<=f∧f<=maxLen∧(j=none->f=0))∧Hid (jr rk b h rs a)∧Below F.heap.size F wr)(fun _ _ Yr _=>31-(intOf Yr).toNat)
   case atStart=>exact⟨0,[],b,Yq,none,o,0,by omega,rfl,rfl,rfl,hid (Yt.out F r),fun h g=>by simp at g,hid ⟨Yd,Ye,by simp,by simp,fun _=>rfl⟩,hid ⟨rfl,rfl⟩,ah _ _⟩
   case round=>
    obtain⟨h,rs,a,B,j,y,f,g,rfl,rfl,rfl,Z,P,G,e,O⟩:=hrel;have K:=r.trans (O.mono r.size);obtain⟨Yi,S,Yj,Yk,T⟩:=G.out;have YI:(a.length:Int)<=9223372036854775807:=by unfold maxLen at S;omega
    by_cases t:0<a.length
    ·have YH:(0:Int)<(a.length:Int):=by omega
     by_cases Y:h=30
     ·subst Y
      have x:=hid (s.out 2 [] 0 ⟨30,rs,a,af _,e.out,.inr (.inl ⟨t,rfl,rfl,rfl,rfl⟩)⟩);clear s e t;go_wp2;go_ret3
      exact⟨2,[],0,none,0,x.out,rfl,(fun h g=>by simp at g),by simp,by simp,(fun _=>rfl),K⟩
     ·have YD:((h:Int)==30)=false:=by rw[aW];omega
      have YG:(h:Int)<=29:=by omega
      have Yc:=hid (Dx rk rs a C j B M f y wr (Yu.out wr K) P.out Z.out T Yi S);clear Z P G Yi S Yj Yk T;go_wp2_with fail;refine Yc.out.mono ?_;rintro N YK⟨d,m,l,Yr,YL,YJ,k,rfl,Yl,Ym,YA⟩;obtain⟨X,D,rfl,Yn,Yg,I,Yp⟩:=Yl.QV;obtain⟨Yz,L,rfl,Yo,Yh,J,_⟩:=Ym.QV;have V:=O.trans (YA.mono O.size);have Yv:=hid (show l.length<=L∧L<=maxLen∧m.length<=D∧D<=maxLen∧(X=none->D=0)from⟨Yh,J,Yg,I,Yp⟩);have Yw:=hid Yn;have Yx:=hid Yo;clear Yc Yl Ym Yn Yo Yg I Yp Yh J;by_cases E:d=0
      ·subst E
       have W:Hid (jr rk b (h+1) m l):=⟨rs,a,e.out,t,k⟩;clear k e s t;go_wp2;go_roundw
       case rel=>exact⟨h+1,m,l,Yz,X,L,D,by omega,by go_num,rfl,rfl,Yx,Yw,Yv,W,V⟩
       case measure=>simp[intOf];omega
      ·have H:(d !=0)=true:=by simpa using E
       have x:=hid (s.out d [] 0 ⟨h,rs,a,g,e.out,.inr (.inr ⟨t,by omega,E,⟨m,l,k⟩,rfl,rfl⟩)⟩);clear k e s t E;go_wp2;go_ret3
       exact⟨d,[],0,none,0,x.out,rfl,(fun h g=>by simp at g),by simp,by simp,(fun _=>rfl),r.trans (V.mono r.size)⟩
    ·have Yf:a=[]:=bJ (by omega)
     subst Yf;have x:=hid (s.out 0 rs h ⟨h,rs,[],g,e.out,.inl ⟨rfl,rfl,rfl,rfl⟩⟩);clear s e t;go_wp2;go_ret3
     exact⟨0,rs,h,j,f,x.out,rfl,P.out,Yj,Yk,T,K⟩
  ·have H:(fQ b !=0)=true:=by simpa using u
   have k:=hid (i.out (by rw[c.out];exact u));rw[c.out]at k;clear i c p u;generalize fQ b=YF at*;go_enter Tryz.func29,Tryz.ntmps29;go_wp2_with fail;refine v.out.mono ?_;rintro N q⟨rfl,rfl⟩;go_wp2_with fail;refine w.out.mono ?_;rintro N F⟨rfl,r⟩;go_wp2;go_ret3
   exact⟨YF,[],0,none,0,k.out,rfl,(fun h g=>by simp at g),by simp,by simp,(fun _=>rfl),r⟩
 ·rw[aE p]at c
  have H:(da rk !=0)=true:=by simpa using p
  have k:=hid (i.out (by rw[c.out];exact p));rw[c.out]at k;clear i c p w;generalize da rk=YF at*;go_enter Tryz.func29,Tryz.ntmps29;go_wp2_with fail;refine v.out.mono ?_;rintro N q⟨rfl,rfl⟩;go_wp2;go_ret3
  exact⟨YF,[],0,none,0,k.out,rfl,(fun h g=>by simp at g),by simp,by simp,(fun _=>rfl),ah _ _⟩
theorem pg.len(a:pg e x h):h.length<=40:=by
 rcases a with a|⟨_,_,rfl,_⟩
 ·exact a.len
 ·simp
def uR(rs:bu)(is:Bool)(er:Int):Prop:=∃vw ps,pg rs vw ps∧((vw≠0∧is=false∧er=vw)∨(vw=0∧(is,er)=jT rs ps))
theorem mJ.ref(n:mJ e E x)(c:uR e F G):E=F∧x=G:=by
 obtain⟨l,o,d,f⟩:=n;obtain⟨m,j,g,h⟩:=c;obtain⟨rfl,rfl⟩:=d.ref g;rcases f with⟨a,rfl,rfl⟩|⟨a,k⟩<;>rcases h with⟨b,rfl,rfl⟩|⟨b,i⟩
 ·exact⟨rfl,rfl⟩
 ·exact absurd b a
 ·exact absurd a b
 ·rw[<-k]at i
  cases i;exact⟨rfl,rfl⟩
theorem vG(b:bu)(e f:List Int)(B t u:Option Addr)(H o p:Nat)(n:World)(J:dw n.heap.size n B b)(P:cZ n.heap.size n t e)(Q:cZ n.heap.size n u f)(U:e.length<=o)(V:o<=maxLen)(W:f.length<=p)(X:p<=maxLen):
 Calls Tryz.prog 38 #[.slice B b.length H,.agg #[.slice t e.length o,.slice u f.length p]] n fun I Yg=>I=.returned (.tuple #[.bool (fX b e f),.int .i64 (dF b e f)])∧Below n.heap.size n Yg:=by
 obtain⟨j,l⟩:∃j,n.alloc (.cells #[.slice t e.length o,.slice u f.length p] 79)=j:=⟨_,rfl⟩;have a:Below n.heap.size n j:=by rw[<-l];exact(ah _ _).alloc (af _) _
 have w:eT j n.heap.size 79 (.slice t e.length o) (.slice u f.length p):=by rw[<-l];exact eT.new n _ _ _
 have Yk:=w.cell0;have i:=hid (yr b e B t H o j ((J.below a).mono a.size) ((P.below a).mono a.size) U V);have r:=hid (fun Yh(R:Below j.heap.size j Yh)=>yr b f B u H p Yh (by have N:=a.trans (R.mono a.size);exact(J.below N).mono N.size) (by have N:=a.trans (R.mono a.size);exact(Q.below N).mono N.size) W X);have c:Hid (dF b e f=if(bU b e).2.2=0 then(bU b f).2.2 else(bU b e).2.2):=rfl;have k:Hid (fX b e f=(decide (dF b e f=0)&&lJ (bU b e).1 (bU b f).1)):=rfl;have s:=hid l;clear l J P Q U V W X;generalize bU b e=Yl at*;generalize bU b f=Ym at*;obtain⟨Yi,Yp,M⟩:=Yl;obtain⟨Yj,Yo,E⟩:=Ym;dsimp only at i r c k
 by_cases q:M=0
 ·subst q
  rw[aD rfl]at c;by_cases m:E=0
  ·subst m
   have g:=hid (show fX b e f=lJ Yi Yj by rw[k.out,c.out];simp);rw[c.out,g.out];clear k c g;go_enter Tryz.func38,Tryz.ntmps38;go_wp2_with fail;rw[s.out];go_wp2_with fail;refine i.out.mono ?_;rintro I D⟨Y,rfl,h,d⟩;obtain⟨K,G,rfl,y,T,F⟩:=cU.ints h;have x:=(w.below d w.lt).dh;clear i h;go_wp2_with fail;refine(r.out D d).mono ?_;rintro I Z⟨Yf,rfl,z,v⟩;obtain⟨Yc,L,rfl,C,_⟩:=cU.ints z;have A:=d.trans (v.mono d.size);have O:=wx Yi Yj K Yc G L Z ((y.below v).mono v.size) C (by unfold maxLen at*;omega);clear r z y C x;go_wp2_with fail;refine O.mono ?_;rintro I Yn⟨rfl,Ye⟩;go_wp2;go_ret2
   have Yd:=A.trans (Ye.mono A.size);exact⟨rfl,a.trans (Yd.mono a.size)⟩
  ·have g:=hid (show fX b e f=false by rw[k.out,c.out];simp[m])
   have S:(E !=0)=true:=by simpa using m
   rw[c.out,g.out];clear k c g m;go_enter Tryz.func38,Tryz.ntmps38;go_wp2_with fail;rw[s.out];go_wp2_with fail;refine i.out.mono ?_;rintro I D⟨Y,rfl,h,d⟩;obtain⟨K,G,rfl,y,T,F⟩:=cU.ints h;have x:=(w.below d w.lt).dh;clear i h;go_wp2_with fail;refine(r.out D d).mono ?_;rintro I Z⟨Yf,rfl,z,v⟩;obtain⟨Yc,L,rfl,C,_⟩:=cU.ints z;have A:=d.trans (v.mono d.size);clear r z y C x;go_wp2;go_ret2
   exact⟨rfl,a.trans (A.mono a.size)⟩
 ·have g:=hid (show fX b e f=false by rw[k.out,c.out,aE q];simp[q])
  rw[aE q]at c;have S:(M !=0)=true:=by simpa using q
  rw[c.out,g.out];clear k c g q;go_enter Tryz.func38,Tryz.ntmps38;go_wp2_with fail;rw[s.out];go_wp2_with fail;refine i.out.mono ?_;rintro I D⟨Y,rfl,h,d⟩;obtain⟨K,G,rfl,y,T,F⟩:=cU.ints h;clear i h;go_wp2;go_ret2
  exact⟨rfl,a.trans (d.mono a.size)⟩
theorem Ct(rs:bu)(F:Option Addr)(k:Nat)(w:World)(u:dw w.heap.size w F rs):
 Calls Tryz.prog 31 #[.slice F rs.length k] w fun G U=>∃s d,uR rs s d∧G=.returned (.tuple #[.bool s,.int .i64 d])∧Below w.heap.size w U:=by
 have z:=hid (A2 rs F k w u);have I:=hid u;clear u;go_enter Tryz.func31,Tryz.ntmps31;go_wp2_with fail;refine z.out.mono ?_;rintro G C⟨t,d,a,Yl,c,rfl,A⟩;obtain⟨Yi,Yj,rfl,B,_⟩:=A.at;clear z A;by_cases r:d=0
 ·subst r
  have X:=c.len;have R:(a.length:Int)<=40:=by omega
  have H:=hid B;have b:=hid (fun s d Yf=>(⟨0,a,c,.inr ⟨rfl,Yf⟩⟩:uR rs s d));clear c B;go_wp2;go_loopw [6](fun W wr=>∃p:Nat,p<=a.length∧W=.int .i64 (p:Int)∧Hid (jT rs a=jT rs (a.drop p))∧Below C.heap.size C wr)(fun W _=>a.length-(intOf W).toNat)
  case atStart=>exact⟨0,bf _,rfl,hid rfl,ah _ _⟩
  case round=>
   obtain⟨p,Yh,rfl,f,h⟩:=hrel;have e:=t.trans (h.mono t.size);by_cases m:p<a.length
   ·have S:(p:Int)<(a.length:Int):=by omega
    obtain⟨Yk,Yc,rfl,Yg,J,L,K,M,Yd,Ye,x,y,N,O,P,Q⟩:=(H.out.below h) p m;have n:=hid (xI (rs:=rs) m);have o:=hid (AJ (rs:=rs) m);generalize(a[p]?.getD ([],[])).1=D at*;generalize(a[p]?.getD ([],[])).2=E at*;have i:=hid (vG rs D E F J K k L M wr ((I.out.below e).mono e.size) (x.mono h.size) (y.mono h.size) N O P Q);clear x y;by_cases j:fX rs D E=true
    ·rw[j,xZ j]at i
     have g:=hid (n.out j);clear j n o;go_wp2_with fail;refine i.out.mono ?_;rintro G V⟨rfl,q⟩;clear i;go_wp2;go_roundw
     case rel=>exact⟨p+1,by omega,by go_num,hid (f.out.trans g.out),h.trans (q.mono h.size)⟩
     case measure=>simp[intOf];omega
    ·have l:fX rs D E=false:=by simpa using j
     rw[l]at i;have g:=hid (o.out l);clear j l n o;generalize dF rs D E=T at*;go_wp2_with fail;refine i.out.mono ?_;rintro G V⟨rfl,q⟩;clear i;by_cases v:T=0
     ·subst v
      go_wp2;go_ret2
      exact⟨false,0,b.out _ _ (by rw[f.out,g.out]),rfl,e.trans (q.mono e.size)⟩
     ·have Z:(T !=0)=true:=by simpa using v
      clear v;go_wp2;go_ret2
      exact⟨false,T,b.out _ _ (by rw[f.out,g.out]),rfl,e.trans (q.mono e.size)⟩
   ·obtain rfl:p=a.length:=by omega
    have g:=hid (f.out.trans (by rw[eu];rfl:jT rs (a.drop a.length)=(true,0)));go_wp2;go_ret2
    exact⟨true,0,b.out _ _ g.out.symm,rfl,e⟩
 ·have Y:(d !=0)=true:=by simpa using r
  have b:Hid (uR rs false d):=⟨d,a,c,.inl ⟨r,rfl,rfl⟩⟩;clear r c;go_wp2;go_ret2
  exact⟨false,d,b.out,rfl,t⟩
theorem IC{fn:Func}{b c:Nat}(k:fn.results=#[.cell g 50,.tmp b,.tmp c])(j:z.getD g undef=.pointer (some ⟨i,0,none⟩))(e:eT d i 50 w A):(results fn z).run Tryz.prog d=.ok (.tuple #[.agg #[w,A],z.getD b undef,z.getD c undef]) d:=by
 have f:=e.cell0;have h:=e.dh;have a:z[g]?.getD undef=.pointer (some ⟨i,0,none⟩):=by rw[<-j];simp
 simp only[results,k];simp[go_sem,a,f,h]
def eM(E':bg)(R':bu)(out:List UInt8)(er:Int)(w:World)(e:Ending)(w':World):Prop:=Below w.heap.size w w'∧∃ax nx cx ay ny cy o2,e=.returned (.tuple #[.agg #[.slice ax nx cx,.slice ay ny cy],sv o2,.int .i64 er])∧
 (er=0->nx=E'.length∧ny=R'.length∧o2=out∧dw w'.heap.size w' ax E'∧E'.length<=cx∧cx<=maxLen∧dw w'.heap.size w' ay R'∧R'.length<=cy∧cy<=maxLen∧(ax=none->cx=0)∧(ay=none->cy=0))
def rV(rs:bg):Prop:=∀k,k<rs.length->0<(rs[k]?.getD ([],[])).1.length∧0<(rs[k]?.getD ([],[])).2.length
theorem lW.pos(f:lW h e):rV h∧rV e:=by
 refine⟨fun c b=>?_,fun c b=>?_⟩
 ·have a:=f.1
  unfold fQ at a;split at a
  ·cases a
  ·exact⟨dU (pW a c b).1,dU (pW a c b).2⟩
 ·obtain⟨a,d,_⟩:=eo ((dV f.2).2 c b)
  exact⟨dU a,dU d⟩
theorem dw.put{a:Option Addr}(N:dw d.heap.size d a h)(I:rV h)(G:eT d g 50 (.slice none 0 0) (.slice none 0 0))(O:d.heap.size<=t.heap.size)(m:∀c,c≠g->c<d.heap.size->t.heap[c]?=d.heap[c]?):dw t.heap.size t a h:=fun x k=>by
 obtain⟨c,e,o,r,y,A,z,B,p,D,E,F,R⟩:=N x k;obtain⟨P,Q⟩:=I x k;have u:∀v K,d.cell? ⟨g,v,none⟩=some K->K=.slice none 0 0:=fun v K b=>by
  rw[dp G v]at b;match v,b with
  |0,b=>simpa using b.symm
  |1,b=>simpa using b.symm
  |v+2,b=>simp at b
 have l:c≠g:=fun o=>by
  subst o;have:=u _ _ p
  simp only[iS]at this;omega
 have q:∀{M:Option Addr}{w:List Int},cZ d.heap.size d M w->cZ t.heap.size t M w:=fun J L H=>by
  obtain⟨i,f,C,s,j⟩:=J L H;have n:i≠g:=fun o=>by
   subst o;have:=u _ _ j
   simp at this
  exact⟨i,f,C,by omega,(aH (a:=⟨i,f+L,none⟩) (m i n s)).trans j⟩
 exact⟨c,e,o,by omega,y,A,z,B,(aH (a:=⟨c,e+x*2,none⟩) (m c l r)).trans p,(aH (a:=⟨c,e+x*2+1,none⟩) (m c l r)).trans D,q E,q F,R⟩
theorem ED{p:Value}(j:eT d g 50 p w)(e f:Value):eT ((d.setCell ⟨g,0,none⟩ e).setCell ⟨g,1,none⟩ f) g 50 e f∧(∀a,a≠g->((d.setCell ⟨g,0,none⟩ e).setCell ⟨g,1,none⟩ f).heap[a]?=d.heap[a]?)∧∀n i,n<=g->Below n i d->Below n i ((d.setCell ⟨g,0,none⟩ e).setCell ⟨g,1,none⟩ f):=
 ⟨(xv (xv j e).1 f).2,fun a b=>(aT _ ⟨g,1,none⟩ _ a b).trans (aT _ ⟨g,0,none⟩ _ a b),fun _ _ c h=>(h.setCell (p:=⟨g,0,none⟩) c _).setCell (p:=⟨g,1,none⟩) c _⟩
theorem eM.fin{out o2:List UInt8}{er:Int}{tmps:Array Value}(F:lW C e)(z:Below d.heap.size d t)(f:eT t (d.heap.size+1) 50 (.slice none 0 0) (.slice none 0 0))
 (p:er=0->h=C∧q=e∧o2=out)(A:dw t.heap.size t j h)(l:h.length<=g)(m:g<=maxLen)(n:j=none->g=0)(B:dw t.heap.size t o q)(r:q.length<=i)(s:i<=maxLen)(u:o=none->i=0)
 (D:tmps.getD 4 undef=.pointer (some ⟨d.heap.size+1,0,none⟩))(a:tmps.getD 5 undef=sv o2)(E:tmps.getD 6 undef=.int .i64 er):
 bodyPost Tryz.prog Tryz.f15 (eM C e out er d) .ret {tmps:=tmps,defers:=[]} ((t.setCell ⟨d.heap.size+1,0,none⟩ (.slice j h.length g)).setCell ⟨d.heap.size+1,1,none⟩ (.slice o q.length i)):=by
 obtain⟨w,k,x⟩:=ED f (.slice j h.length g) (.slice o q.length i);have v:=IC (fn:=Tryz.f15) (b:=5) (c:=6) rfl D w;rw[a,E]at v;refine fI v rfl ⟨x _ _ (by omega) z,j,_,g,o,_,i,o2,rfl,fun y=>?_⟩;obtain⟨rfl,rfl,rfl⟩:=p y;obtain⟨G,H⟩:=F.pos;exact⟨rfl,rfl,rfl,A.put G f (by simp) (fun b a _=>k b a),l,m,B.put H f (by simp) (fun b a _=>k b a),r,s,n,u⟩
structure pd(w:World)(sE sR:Value)(V:World):Prop where
 d:eT V w.heap.size 50 sE sR
 r:eT V (w.heap.size+1) 50 (.slice none 0 0) (.slice none 0 0)
 k:cZ V.heap.size V (some ⟨w.heap.size+1+1,0,none⟩) wM
 b:Below w.heap.size w V
theorem pd.below(b:pd t w A d)(a:Below d.heap.size d H):pd t w A H:=⟨b.d.below a b.d.lt,b.r.below a b.r.lt,(b.k.below a).mono a.size,b.b.trans (a.mono b.b.size)⟩
theorem pd.new(d:World)(a b:Value):pd d a b (((d.alloc (.cells #[a,b] 50)).alloc (.cells #[.slice none 0 0,.slice none 0 0] 50)).alloc (.cells #[.int .i64 0,.int .i64 1,.int .i64 2,.int .i64 3,.int .i64 4,.int .i64 5] 3)):=by
 have e:=eT.new (d.alloc (.cells #[a,b] 50)) 50 (.slice none 0 0) (.slice none 0 0);have f:=aM ((d.alloc (.cells #[a,b] 50)).alloc (.cells #[.slice none 0 0,.slice none 0 0] 50)) (.cells #[.int .i64 0,.int .i64 1,.int .i64 2,.int .i64 3,.int .i64 4,.int .i64 5] 3);simp only[bI]at e f;refine⟨((eT.new d _ _ _).alloc _).alloc _,e.alloc _,fun g c=>⟨_,0,rfl,by simp,?_⟩,(((ah _ d).alloc (af _) _).alloc (by simp) _).alloc (by simp;omega) _⟩;rw[cI,dp f g];match g,c with
 |0,_=>rfl
 |1,_=>rfl
 |2,_=>rfl
 |3,_=>rfl
 |4,_=>rfl
 |5,_=>rfl
 |g+6,c=>simp[wM]at c;omega
def mR(E:bg)(R:bu)(ae ar:Option Addr)(ce cr:Nat)(w:World):Prop:=dw w.heap.size w ae E∧E.length<=ce∧ce<=maxLen∧(ae=none->ce=0)∧dw w.heap.size w ar R∧R.length<=cr∧cr<=maxLen∧(ar=none->cr=0)∧lW E R
theorem Gk(Yi:mR q u o j i g d){out:List UInt8}{er:Int}(T:dm q u [mA] h e out er):
 Calls Tryz.prog 15 #[.agg #[.slice o q.length i,.slice j u.length g],sv mA] d fun O W=>eM h e out er d O W:=by
 obtain⟨t,v,w,x,n,A,B,C,F⟩:=Yi;obtain⟨rfl,rfl,V,E,G⟩:=T;have b:=pd.new d (.slice o h.length i) (.slice j e.length g);obtain⟨m,f⟩:∃m,(((d.alloc (.cells #[.slice o h.length i,.slice j e.length g] 50)).alloc (.cells #[.slice none 0 0,.slice none 0 0] 50)).alloc (.cells #[.int .i64 0,.int .i64 1,.int .i64 2,.int .i64 3,.int .i64 4,.int .i64 5] 3))=m:=⟨_,rfl⟩;rw[f]at b;have p:=hid b;have s:=hid f;have z:=hid (Ct e j g m ((n.below b.b).mono b.b.size));have H:=hid (fun M(c:Below d.heap.size d M)=>(t.below c).mono c.size);have I:=hid (fun M(c:Below d.heap.size d M)=>(n.below c).mono c.size);have J:=hid E;have K:=hid F;have L:=hid G;clear f b E t n F G;go_enter Tryz.func15,Tryz.ntmps15;go_wp2_with fail;rw[s.out];refine z.out.mono ?_;rintro O X⟨Z,Y,l,rfl,N⟩;obtain⟨rfl,rfl⟩:=J.out.ref l;have a:=p.out.below N;have Yc:=a.d.cell0;have Yd:=a.d.dh;have Ye:=a.r.cell0;have Yf:=a.r.dh;have Yg:=a.r.frozen 0;have Yh:=a.r.frozen 1;have r:=hid a;clear l z p a;go_wp2;go_region_with(go_at_call 32;refine(yu _ _).mono ?_;rintro O Yj⟨rfl,rfl⟩)
 all_goals(
  have k:=r.out.below (bD (ah _ X) 1);have y:=H.out _ k.b;have D:=I.out _ k.b;have U:=hid (fun tmps Q R S=>eM.fin (tmps:=tmps) (er:=er) (out:=out) (o2:=qY V) K.out k.b k.r (fun P=>⟨rfl,rfl,(L.out P).symm⟩) y v w x D A B C Q R S);go_wp2;exact U.out _ rfl rfl rfl)
theorem EZ(P:mR q u j o g i d){out:List UInt8}{er:Int}(Yg:dm q u [kj] h e out er):
 Calls Tryz.prog 15 #[.agg #[.slice j q.length g,.slice o u.length i],sv kj] d fun Yj Yz=>eM h e out er d Yj Yz:=by
 obtain⟨Q,p,r,z,Yc,Yd,Ye,Yf,Yh⟩:=P;have f:=hid (Yg.ok Yh).1;obtain⟨rfl,YW,n,v,A,Yi⟩:=Yg;obtain⟨w,t⟩:∃w,(((d.alloc (.cells #[.slice j h.length g,.slice o u.length i] 50)).alloc (.cells #[.slice none 0 0,.slice none 0 0] 50)).alloc (.cells #[.int .i64 0,.int .i64 1,.int .i64 2,.int .i64 3,.int .i64 4,.int .i64 5] 3))=w:=⟨_,rfl⟩;have l:=pd.new d (.slice j h.length g) (.slice o u.length i);rw[t]at l;have K:=hid l;have M:=hid t;have E:=hid (fun F(s:Below d.heap.size d F)=>(Q.below s).mono s.size);have Ym:=hid (fun F(s:Below d.heap.size d F)=>(Yc.below s).mono s.size);have U:=hid (JY wM h _ j 6 g w l.k (E.out w l.b) p r);have k:=hid v;have Yn:=hid Yi;have L:=hid A;clear t l v Q Yc Yh Yi A;go_enter Tryz.func15,Tryz.ntmps15;go_wp2_with fail;rw[M.out];refine U.out.mono ?_;rintro Yj x⟨YC,YI,YV,YJ,YO,B,rfl,V,W,X,Y,Yp⟩;obtain⟨rfl,rfl,rfl⟩:=jC.one (fun _ _ _ _ _ _ _ P Yt=>P.one Yt) k.out B;have b:=K.out.below Yp;have YK:=b.d.cell0;have YL:=b.d.dh;have YP:=b.r.cell0;have YQ:=b.r.dh;have YR:=b.r.frozen 0;have YS:=b.r.frozen 1;have a:=hid b;have Yl:=hid V;clear B U K b V;by_cases m:er=0
 ·subst m
  have O:=L.out;rw[aD rfl]at O;subst O;have YH:e.length<=8:=(dV f.out.2).1;have Yu:n<=30:=(xt k.out).2;have Yw:(e.length:Int)<=8:=by omega
  have Yk:(n:Int)<=30:=by omega
  have S:=hid (fun F=>qE e.length (by omega) F);have T:=hid (fun F=>qE n (by omega) F);have YT:=nZ (n:=e.length) (by omega);have YU:=nZ (n:=n) (by omega);have Yv:¬9223372036854775807<(Lib.decDigits e.length).length+1:=by omega
  have YG:¬9223372036854775807<(Lib.decDigits e.length).length+1+(Lib.decDigits n).length:=by omega
  have y:Below x.heap.size x x.drew:=bD (ah _ x) 1;have N:=hid (Yn.out rfl);generalize Lib.decDigits e.length=Yx at*;generalize Lib.decDigits n=Yy at*;go_wp2;go_region_with(first
   |(go_at_call_of 16(Value.int .i64 (e.length:Int));refine(S.out _).mono ?_;rintro Yj YX⟨rfl,Yq⟩;have C:=y.trans (Yq.mono y.size);have Yo:=a.out.below C;have YM:=Yo.d.cell0)
   |(go_at_call_of 16(Value.int .i64 (n:Int));refine(T.out _).mono ?_;rintro Yj YY⟨rfl,Yr⟩;have D:=C.trans (Yr.mono C.size);have c:=a.out.below D;have YN:=c.d.cell0;have YA:=c.r.cell0;have YB:=c.r.dh;have YD:=c.r.frozen 0;have YE:=c.r.frozen 1))
  all_goals(
   have R:=E.out _ c.b;have Z:=(Yl.out.below D).mono D.size;have J:=hid (fun tmps G H I=>eM.fin (tmps:=tmps) (er:=0) (out:=out) (o2:=Yx++[32]++Yy) f.out c.b c.r (fun m=>⟨rfl,rfl,N.out.symm⟩) R p r z Z W X Y G H I);go_wp2;exact J.out _ rfl rfl rfl)
 ·have YF:(er !=0)=true:=by simpa using m
  have J:=hid (fun tmps G H I=>eM.fin (tmps:=tmps) (er:=er) (out:=out) (o2:=[]) f.out a.out.b a.out.r (fun P=>absurd P m) (E.out _ a.out.b) p r z (Ym.out _ a.out.b) Yd Ye Yf G H I);clear m;go_wp2;exact J.out _ rfl rfl rfl
theorem Mh(b:List (List UInt8))(c a:List UInt8):Lib.join (b++[c]) a=if b=[]then c else Lib.join b a++a++c:=by
 cases b with
 |nil=>rw[bV,Lib.join_one,aD rfl]
 |cons e d=>rw[bc,tW,tW,aE (by simp)];simp[Lib.joinTail]
theorem wJ(c:List Int)(h:Option Addr)(a:Nat)(b:World)(m:Tm.err c=0)(i:c.length<=a)(j:a<=maxLen)(k:cZ b.heap.size b h c):Calls Tryz.prog 30 #[.slice h c.length a] b fun n d=>∃l,kh c l∧n=.returned (sv l)∧Below b.heap.size b d:=by
 obtain⟨o,e,f,rfl,g⟩:=Tr.we m;refine(yY o h a b e f g i j k).mono ?_;rintro n d⟨rfl,p⟩;exact⟨_,⟨o,e,f,rfl,g,rfl⟩,rfl,p⟩
theorem Fu(Zh:mR q u j o i g d){out:List UInt8}{er:Int}(Y0:dm q u [jO] h e out er):
 Calls Tryz.prog 15 #[.agg #[.slice j q.length i,.slice o u.length g],sv jO] d fun YC P=>eM h e out er d YC P:=by
 obtain⟨YH,Y,Z,Yc,YJ,Yd,Ye,Yf,D⟩:=Zh;obtain⟨rfl,rfl,rfl,Zo,Yk,YM⟩:=Y0;obtain⟨Yx,I⟩:∃Yx,(((d.alloc (.cells #[.slice j h.length i,.slice o e.length g] 50)).alloc (.cells #[.slice none 0 0,.slice none 0 0] 50)).alloc (.cells #[.int .i64 0,.int .i64 1,.int .i64 2,.int .i64 3,.int .i64 4,.int .i64 5] 3))=Yx:=⟨_,rfl⟩;have Q:=pd.new d (.slice j h.length i) (.slice o e.length g);rw[I]at Q;have YP:=hid Q;have Yq:=hid I;have Yp:=hid (fun F(k:Below d.heap.size d F)=>(YH.below k).mono k.size);have Ym:=hid (fun F(k:Below d.heap.size d F)=>(YJ.below k).mono k.size);obtain⟨Zi,Yi⟩:=dV D.2;have YZ:=hid (fun b D=>eo (Yi b D));have Y6:(e.length:Int)<=8:=by omega
 have Yr:=hid D;have Yu:=hid Yk;have Yt:=hid YM;have YA:=Q.d.cell0;clear I Q YH YJ D YM Yk Yi YA;go_enter Tryz.func15,Tryz.ntmps15;go_wp2;rw[Yq.out];go_loopw [11,12](fun Y3 Y4 wr=>∃(b:Nat)(v:List (List UInt8))(w:List UInt8),b<=e.length∧Y4=.int .i64 (b:Int)∧Y3=sv w∧Hid (fg (e.take b) v∧w=Lib.join v [59,32])∧Hid (pd d (.slice j h.length i) (.slice o e.length g) wr))(fun _ Y4 _=>e.length-(intOf Y4).toNat)
 case atStart=>exact⟨0,[],[],bf _,rfl,rfl,hid ⟨rfl,rfl⟩,YP⟩
 case round=>
  obtain⟨b,v,w,D,rfl,rfl,m,H⟩:=hrel;have s:=H.out;have YB:=s.d.dh;have Zp:w.length<=72000:=by
   have x:=m.out.1.join;rw[cX]at x;rw[m.out.2];have:min b e.length<=8:=by omega
   omega
  by_cases M:b<e.length
  ·have Y2:(b:Int)<(e.length:Int):=by omega
   obtain⟨V,f,rfl,YK,R,T,S,U,YS,YT,YF,YG,YU,YV,YW,YX⟩:=Ym.out wr s.b b M;obtain⟨YD,YE,_⟩:=YZ.out b M;have Yj:=hid (qn M);have y:Below wr.heap.size wr wr.drew:=bD (ah _ wr) 1;have A:=m.out.1.len.1;rw[cX]at A;generalize(e[b]?.getD ([],[])).1=B at*;generalize(e[b]?.getD ([],[])).2=C at*;have W:=hid (wJ B R T wr.drew YD YU YV ((YF.below y).mono y.size));have X:=hid (fun F(k:Below wr.heap.size wr F)=>wJ C S U F YE YW YX ((YG.below k).mono k.size));have z:=hid (fun F(k:Below wr.heap.size wr F)=>show F.cell? ⟨d.heap.size,1,none⟩=some (.slice (some ⟨V,f,none⟩) e.length g)∧F.cell? ⟨V,f+b*2,none⟩=some (.slice R B.length T)∧F.cell? ⟨V,f+b*2+1,none⟩=some (.slice S C.length U)from⟨(k.cell (p:=⟨d.heap.size,1,none⟩) s.d.lt).trans YB,(k.cell (p:=⟨V,f+b*2,none⟩) YK).trans YS,(k.cell (p:=⟨V,f+b*2+1,none⟩) YK).trans YT⟩);have Yg:=z.out wr (ah _ _);have K:(0:Int)<=(b:Int):=by omega
   have J:Hid (∀c t,kh B c->kh C t->fg (e.take (b+1)) (v++[c++[32,62,32]++t])∧(if b=0 then w else w++[59,32])++c++[32,62,32]++t=Lib.join (v++[c++[32,62,32]++t]) [59,32]):=fun c t x G=>by
    refine⟨by rw[Yj.out];exact fg.snoc (r:=(B,C)) x G m.out.1,?_⟩;rw[Mh,<-m.out.2];by_cases K:b=0
    ·have:v=[]:=bJ (by omega)
     rw[aD K,aD this,m.out.2,this];simp[Lib.join_nil]
    ·have:v≠[]:=fun YC=>by rw[YC]at A;simp at A;omega
     rw[aE K,aE this];simp
   clear YF YG YD YE m A s Yj YB;by_cases L:b=0
   all_goals(
    first|have YL:¬(0:Int)<(b:Int):=by omega|have YL:(0:Int)<(b:Int):=by omega
    have l:=J.out;first|rw[aD L]at l|rw[aE L]at l
    have YQ:=hid l;clear J l L;have Zj:¬9223372036854775807<w.length+2:=by omega
    go_wp2;go_region_held3(fun P=>P.cell? ⟨d.heap.size,1,none⟩=some (.slice (some ⟨V,f,none⟩) e.length g)∧P.cell? ⟨V,f+b*2,none⟩=some (.slice R B.length T)∧P.cell? ⟨V,f+b*2+1,none⟩=some (.slice S C.length U))(first|assumption|exact Yg|exact a|exact Yh)(first
     |(go_at_call_of 30(Value.slice R B.length T);refine W.out.mono ?_;rintro YC YO⟨c,N,rfl,Yy⟩;have E:=y.trans (Yy.mono y.size);have a:=z.out YO E;have Y7:=N.len;have Yv:=hid N;clear N;have Zk:¬9223372036854775807<w.length+c.length:=(by omega);have Zl:¬9223372036854775807<w.length+c.length+3:=(by omega);have Y9:¬9223372036854775807<w.length+2+c.length:=(by omega);have Za:¬9223372036854775807<w.length+2+c.length+3:=(by omega))
     |(go_at_call_of 30(Value.slice S C.length U);refine(X.out YO E).mono ?_;rintro YC Y5⟨t,O,rfl,Yz⟩;have Yl:=E.trans (Yz.mono E.size);have Yh:=z.out Y5 Yl;have Y8:=O.len;have Yw:=hid O;clear O;have Zm:¬9223372036854775807<w.length+c.length+3+t.length:=(by omega);have Zb:¬9223372036854775807<w.length+2+c.length+3+t.length:=(by omega))
     |fail)
    have YI:=hid (H.out.below Yl);clear Yg a Yh W X z Yy Yz E Yl H;go_wp2;go_roundw
    case rel=>
     refine⟨_,_,_,_,_,_,_,_,_,_,_,_,_,_,_,_,_,_,_,_,_,_,_,_,_,_,_,_,_,_,_,?_,rfl⟩;exact⟨b+1,_,_,by omega,by go_num,rfl,YQ.out c t Yv.out Yw.out,YI⟩
    case measure=>simp[intOf];omega)
  ·obtain rfl:b=e.length:=by omega
   have a:=m.out;rw[cJ]at a;have YR:=a.1.one Yu.out;subst YR;have Zd:=s.r.cell0;have Ze:=s.r.dh;have Zf:=s.r.frozen 0;have Zg:=s.r.frozen 1;have YA:=s.d.cell0;by_cases n:e=[]
   ·have YN:w=[]:=by rw[a.2];have:=a.1.len.1;rw[n]at this;rw[bJ this];rfl
    have Yo:=hid (fun tmps x G Yn=>eM.fin (tmps:=tmps) (er:=0) (out:=out) (o2:=[45]) Yr.out s.b s.r (fun YY=>⟨rfl,rfl,by rw[Yt.out,aD n]⟩) (Yp.out _ s.b) Y Z Yc (Ym.out _ s.b) Yd Ye Yf x G Yn);subst YN;clear m a s H n;go_wp2;exact Yo.out _ rfl rfl rfl
   ·have YN:w.isEmpty=false:=by
     rw[a.2];match e,v,a.1,n with
     |r::Zn,_,⟨Zq,Zr,Zc,_,_,rfl,_⟩,_=>rw[tW];simp
    have Yo:=hid (fun tmps x G Yn=>eM.fin (tmps:=tmps) (er:=0) (out:=out) (o2:=w) Yr.out s.b s.r (fun YY=>⟨rfl,rfl,by rw[Yt.out,aE n];exact a.2⟩) (Yp.out _ s.b) Y Z Yc (Ym.out _ s.b) Yd Ye Yf x G Yn);clear m a s H n;go_wp2;exact Yo.out _ rfl rfl rfl
