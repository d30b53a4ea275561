/-
  Parts of the proof.
-/
import Derived.Test.YtglohanbpjaieaaGreatDoorBdp31
set_option maxHeartbeats 4000000
set_option maxRecDepth 100000
namespace Go.Proofs.YtglohanbpjaieaaGreatDoor
open Go.Proofs Go.RowKit Go.Shelf Go.Maps
variable {F:List (Nat×Nat)}{M:Bool}{N:List (List UInt8)}{d v:bg}{e w:bu}{f:Int}{g u y C D G J K:Nat}{h A:List UInt8}{k B:World}{m r H I:Option Addr}{z:List Int×List Int}
theorem dm.kept(a:dm d e N v w h f)(g:f≠0):v=d∧w=e:=by
 unfold dm at a;simp only[aE g]at a;split at a
 all_goals(repeat' split at a)
 all_goals first
  |exact⟨a.1,a.2.1⟩
  |(obtain⟨b,_,_,_,c,_⟩:=a;exact⟨b,c⟩)
  |exact⟨a.2.2.1,a.1⟩
  |exact⟨a.1,a.2.2.1⟩
  |fail
def DG(n:Nat)(E:bg)(R:bu)(ae ar:Option Addr)(ce cr:Nat)(V:World):Prop:=mR E R ae ar ce cr V∧eT V n 50 (.slice ae E.length ce) (.slice ar R.length cr)
theorem mR.below(p:mR d e m r g u k)(a:Below k.heap.size k B):mR d e m r g u B:=by
 obtain⟨b,c,f,h,i,j,l,n,o⟩:=p;exact⟨(b.below a).mono a.size,c,f,h,(i.below a).mono a.size,j,l,n,o⟩
theorem DG.below(b:DG g d e m r u y k)(a:Below k.heap.size k B):DG g d e m r u y B:=⟨b.1.below a,b.2.below a b.2.lt⟩
theorem FY{wr:World}(a:World)(Q:DG y v w H I J K wr)(i:lW d e)
 (L:f=0->C=d.length∧D=e.length∧A=h∧dw k.heap.size k m d∧d.length<=g∧g<=maxLen∧dw k.heap.size k r e∧e.length<=u∧u<=maxLen∧(m=none->g=0)∧(r=none->u=0))
 (O:eT a G 50 (.slice m C g) (.slice r D u))(c:Below wr.heap.size wr a)(o:∀P rs,rV rs->dw k.heap.size k P rs->dw a.heap.size a P rs):
 ∃X,a=X∧eT X G 50 (.slice m C g) (.slice r D u)∧Below wr.heap.size wr X∧DG y v w H I J K X∧
 (f=0->A=h∧C=d.length∧D=e.length∧DG y d e m r g u ((X.setCell ⟨y,0,none⟩ (.slice m C g)).setCell ⟨y,1,none⟩ (.slice r D u))):=by
 have b:=Q.below c;refine⟨a,rfl,O,c,b,fun F=>?_⟩;obtain⟨rfl,rfl,rfl,p,q,s,t,x,z,B,E⟩:=L F;obtain⟨u1,u2,u3⟩:=ED b.2 (.slice m d.length g) (.slice r e.length u);obtain⟨j,l⟩:=i.pos;have n:a.heap.size<=(((a.setCell ⟨y,0,none⟩ (.slice m d.length g)).setCell ⟨y,1,none⟩ (.slice r e.length u))).heap.size:=(u3 0 a (bf _) (ah 0 a)).size;have M:=o m d j p;have N:=o r e l t;exact⟨rfl,rfl,rfl,⟨M.Qz j b.2 b.1.1 n u2,q,s,B,N.Qz l b.2 b.1.1 n u2,x,z,E,i⟩,u1⟩
theorem NK(k:h=[]∨h.getLast?=some 10)(c:10∉(h.drop g).take (h.length-g))(m:jZ d e (gV (h.drop g)) v w A):A=[]:=by
 rw[Ry (by rw[cH];omega)]at c;have f:h.drop g=[]:=by
  by_cases a:h.length<=g
  ·exact vz a
  ·have j:=k.resolve_left (fun f=>by subst f;simp at a)
   have b:=List.getLast?_drop (l:=h) (i:=g);rw[aE a,j]at b;exact absurd (List.mem_of_getLast? b) c
 rw[f]at m;exact m.2.2
theorem IF(a:List UInt8)(l:World)(ZL:a.length<=4096)(YE:a.count 10<=40)(Yl:a=[]∨a.getLast?=some 10)(Yk:jZ [] [] (gV a) d e h):Calls Tryz.prog 5 #[sv a] l fun Zb Zu=>Zb=.returned (.tuple #[sv h,.int .i64 0])∧Below l.heap.size l Zu:=by
 have ZF:(a.length:Int)<=9223372036854775807:=by omega
 have Ze:=hid Yk;clear Yk;go_enter Tryz.func5,Tryz.ntmps5;go_wp2;go_loopw [4,5](fun Zi C wr=>∃b U:Nat,b<=a.length∧C=.int .i64 (b:Int)∧Zi=.int .i64 (U:Int)∧Hid (U=(a.take b).count 10)∧U<=41∧wr=l)(fun _ C _=>a.length-(intOf C).toNat)
 case atStart=>exact⟨0,0,bf _,rfl,rfl,hid (by simp),by omega,rfl⟩
 case round=>
  obtain⟨b,U,Zn,rfl,rfl,Y,Zm,YZ⟩:=hrel;obtain rfl:=YZ.symm;have Zc:(U:Int)<=41:=by omega
  by_cases g:b<a.length
  ·have YG:(b:Int)<(a.length:Int):=by omega
   have YW:(0:Int)<=(b:Int):=by omega
   by_cases Zx:U<=40
   ·have Zl:(U:Int)<=40:=by omega
    have f:(⟨a.toArray⟩:ByteArray)[b]'(by show b<a.toArray.size;simpa using g)=a[b]?.getD 0:=by rw[an g];rfl
    have J:=yD g;by_cases m:a[b]?.getD 0=10
    ·have I:((((⟨a.toArray⟩:ByteArray)[b]'(by show b<a.toArray.size;simpa using g)).toNat:Int)==10)=true:=by rw[f,m];rfl
     have Z:Hid (U+1=(a.take (b+1)).count 10):=by show _=_;rw[J,aD m,Y.out]
     clear f m J;go_wp2;go_roundw
     case rel=>exact⟨b+1,U+1,by omega,by go_num,by go_num,Z,by omega,(by first|rfl|trivial)⟩
     case measure=>simp[intOf];omega
    ·have I:((((⟨a.toArray⟩:ByteArray)[b]'(by show b<a.toArray.size;simpa using g)).toNat:Int)==10)=false:=by
      rw[f,aW];intro YL;exact m (kJ.1 (by show(a[b]?.getD 0).toNat=10;omega))
     have Z:Hid (U=(a.take (b+1)).count 10):=by show _=_;rw[J,aE m,Y.out,gp]
     clear f m J;go_wp2;go_roundw
     case rel=>exact⟨b+1,U,by omega,by go_num,rfl,Z,by omega,(by first|rfl|trivial)⟩
     case measure=>simp[intOf];omega
   ·exact absurd (aK (vT 10 (List.take_sublist b a)) YE) (by rw[<-Y.out];omega)
  ·obtain rfl:b=a.length:=by omega
   have Yt:=Y.out;rw[cJ]at Yt;have Zw:¬(4096:Int)<(a.length:Int):=by omega
   have Zy:¬(40:Int)<(U:Int):=by omega
   clear Yt Y;have Zf:=hid Yl;by_cases S:a=[];focus
    have YY:¬(0:Int)<(a.length:Int):=by rw[S];simp
    have Y0:=hid (show a.length=0 from by rw[S];rfl);clear Yl S;go_wp2
   rotate_left
   focus
    have Yk:0<a.length:=kN.2 S;have Y0:=hid Yk;have YY:(0:Int)<(a.length:Int):=by omega
    obtain⟨L,R⟩:∃L,a.length=L+1:=⟨a.length-1,by omega⟩;have u:L<a.length:=by omega
    have f:(⟨a.toArray⟩:ByteArray)[L]'(by show L<a.toArray.size;simpa using u)=a[L]?.getD 0:=by rw[an u];rfl
    have I:((((⟨a.toArray⟩:ByteArray)[L]'(by show L<a.toArray.size;simpa using u)).toNat:Int)!=10)=false:=by
     have YL:=Yl.resolve_left S;rw[sO,R,Nat.add_sub_cancel,an u]at YL;rw[f,an u,show a[L]=10 from rz YL];rfl
    have ZE:(a.length:Int)-1=(L:Int):=by omega
    have Zo:(L:Int)<(a.length:Int):=by omega
    have ZD:(0:Int)<=(L:Int):=by omega
    clear f Yl R S;go_wp2
   all_goals(
    have YM:Hid (DG l.heap.size [] [] none none 0 0 (l.alloc (.cells #[.slice none 0 0,.slice none 0 0] 50))∧Below l.heap.size l (l.alloc (.cells #[.slice none 0 0,.slice none 0 0] 50))):=⟨⟨⟨fun L R=>absurd R (by simp),af _,bf _,fun _=>rfl,fun L R=>absurd R (by simp),af _,bf _,fun _=>rfl,⟨rfl,rfl⟩⟩,eT.new _ _ _ _⟩,(ah _ l).alloc (af _) _⟩;generalize l.alloc (.cells #[.slice none 0 0,.slice none 0 0] 50)=ZK at*;go_loopw [7,8,9](fun Zq Zj C wr=>∃(b q:Nat)(YJ:bg)(YK:bu)(o j:List UInt8)(M N:Option Addr)(P Q:Nat),b<=a.length∧q<=b∧Zq=sv o∧Zj=.int .i64 (q:Int)∧C=.int .i64 (b:Int)∧Hid (10∉(a.drop q).take (b-q)∧jZ YJ YK (gV (a.drop q)) d e j∧h=o++j∧o.length<=q*90000)∧Hid (DG l.heap.size YJ YK M N P Q wr∧Below l.heap.size l wr))(fun _ _ C _=>a.length-(intOf C).toNat)
    case atStart=>exact⟨0,0,[],[],[],h,none,none,0,0,bf _,af _,rfl,rfl,rfl,hid ⟨by simp,Ze.out,rfl,by simp⟩,YM⟩
    case round=>
     obtain⟨b,q,YJ,YK,o,j,M,N,P,Q,Zn,YV,rfl,rfl,rfl,r,Yj⟩:=hrel;have ZA:(q:Int)<=(b:Int):=by omega
     have ZB:(0:Int)<=(q:Int):=by omega
     have YW:(0:Int)<=(b:Int):=by omega
     have ZC:(b:Int)<=(a.length:Int):=by omega
     by_cases g:b<a.length
     ·first
      |(exfalso;have:=Y0.out;omega)
      |(
      have YG:(b:Int)<(a.length:Int):=by omega
      have f:(⟨a.toArray⟩:ByteArray)[b]'(by show b<a.toArray.size;simpa using g)=a[b]?.getD 0:=by rw[an g];rfl
      by_cases m:a[b]?.getD 0=10
      ·have I:((((⟨a.toArray⟩:ByteArray)[b]'(by show b<a.toArray.size;simpa using g)).toNat:Int)==10)=true:=by rw[f,m];rfl
       obtain⟨Y2,Y3,Ym,Zp⟩:=r.out;rw[JN g YV Y2 m]at Y3;obtain⟨s,t,ZV,YB,c,X,YR,rfl⟩:=Y3;have Yw:=JF a q b;have YX:((a.drop q).take (b-q)).length<=4096:=by rw[cX,cH];omega
       generalize ZM:(a.drop q).take (b-q)=ZW at*;obtain⟨i,G⟩:=Yj.out;obtain⟨F,K⟩:=dm.ok X i.1.2.2.2.2.2.2.2.2;have Yc:=sA X i.1.2.2.2.2.2.2.2.2;have ZR:o.length<=368640000:=by omega
       have k:Below wr.heap.size wr wr.drew:=bD (ah _ wr) 1;have YF:=hid (fun Yf(B:Below wr.heap.size wr Yf)=>Kg (i.1.below B) YX X);have Yp:=hid (YF.out wr.drew k);have Yq:=hid (YF.out (wr.drew.alloc (.cells #[.slice none 0 0,.slice none 0 0] 50)) (k.alloc (af _) _));have H:=hid (fun Yf(B:Below wr.heap.size wr Yf)=>show Yf.cell? ⟨l.heap.size,0,none⟩=some (.slice M YJ.length P)∧Yf.cell? ⟨l.heap.size,1,none⟩=some (.slice N YK.length Q)from⟨(i.2.below B i.2.lt).cell0,(i.2.below B i.2.lt).dh⟩);have Zr:=H.out wr (ah _ _);have Zs:=H.out wr.drew k;have Zt:=H.out (wr.alloc (.cells #[.slice none 0 0,.slice none 0 0] 50)) ((ah _ wr).alloc (af _) _);obtain⟨Y5,Y6⟩:=Zr;obtain⟨Y7,Y8⟩:=Zs;obtain⟨Y9,Za⟩:=Zt;have W:=hid X;have Yd:=hid r.out;have E:=hid YR;clear f m Y2 Zp X YR YF H r;go_wp2;go_region_with(first
        |(go_at_call 15;first|rw[Yw]|skip;refine Yp.out.mono ?_;rintro Zb T⟨O,x,YH,z,y,YI,A,D,rfl,Yi⟩;have Zg:=hid (FY (T.alloc (.cells #[.slice x YH z,.slice y YI A] 50)) i F Yi (eT.new T _ _ _) ((k.trans (O.mono k.size)).alloc (k.trans (O.mono k.size)).size _) (fun ZX ZU _ YL=>(YL.below ((ah _ T).alloc (af _) _)).mono (by simp)));have n:=eT.new T 50 (.slice none 0 0) (.slice none 0 0);have YP:=n.cell0;have YQ:=n.dh;have YC:=n.frozen 0;have YD:=n.frozen 1)
        |(go_at_call 15;first|rw[Yw]|skip;refine Yq.out.mono ?_;rintro Zb T⟨O,x,YH,z,y,YI,A,D,rfl,Yi⟩;have n:eT T wr.heap.size 50 (.slice none 0 0) (.slice none 0 0):=(eT.new wr.drew 50 (.slice none 0 0) (.slice none 0 0)).below O (by simp);obtain⟨Yn,Yo,_,Y4⟩:=Ph n (.slice x YH z) (.slice y YI A);have Zg:=hid (FY _ i F Yi Yn (Y4 _ _ (af _) ((k.alloc (af _) (.cells #[.slice none 0 0,.slice none 0 0] 50)).trans (O.mono (k.alloc (af _) (.cells #[.slice none 0 0,.slice none 0 0] 50)).size))) Yo);have YP:=n.cell0;have YQ:=n.dh;have YC:=n.frozen 0;have YD:=n.frozen 1;clear Yn Yo Y4)
        |fail)
       all_goals(
        clear YP YQ YC YD n Yi O Yp Yq Y5 Y6 Y7 Y8 Y9 Za;obtain⟨Yg,Yr,Ye,Yz,w,YA⟩:=Zg.out;rw[Yr];clear Yr Zg;have ZP:=Ye.cell0;have ZQ:=Ye.dh;have Yx:=hid (G.trans (Yz.mono G.size));by_cases Yh:YB=0
        ·subst Yh
         obtain⟨rfl,rfl,rfl,YO⟩:=YA rfl;have ZN:=w.2.cell0;have ZO:=w.2.dh;have YC:=w.2.frozen 0;have YD:=w.2.frozen 1;have Yy:Hid (DG l.heap.size s t x y z A ((Yg.setCell ⟨l.heap.size,0,none⟩ (.slice x s.length z)).setCell ⟨l.heap.size,1,none⟩ (.slice y t.length A))∧Below l.heap.size l ((Yg.setCell ⟨l.heap.size,0,none⟩ (.slice x s.length z)).setCell ⟨l.heap.size,1,none⟩ (.slice y t.length A))):=⟨YO,(Yx.out.setCell (p:=⟨l.heap.size,0,none⟩) (af _) _).setCell (p:=⟨l.heap.size,1,none⟩) (af _) _⟩;have ZG:D.length<=80000:=Yc;have Yn:¬9223372036854775807<o.length+D.length:=by omega
         have Yo:¬9223372036854775807<o.length+D.length+1:=by omega
         have V:Hid (10∉(a.drop (b+1)).take (b+1-(b+1))∧jZ s t (gV (a.drop (b+1))) d e c∧h=o++D++[10]++c∧(o++D++[10]).length<=(b+1)*90000):=⟨by simp,E.out,by rw[Ym];simp[gW],by have:=Yd.out.2.2.2;simp;omega⟩;clear Ym Yc K F i G Ye Yz w YA YO Yd E W;go_wp2;refine⟨⟨b+1,b+1,s,t,o++D++[10],c,x,y,z,A,by omega,af _,?_,by go_num,by go_num,V,Yy⟩,?_⟩
         ·rw[uU,uU]
         ·simp[intOf];omega
        ·obtain⟨v,rfl⟩:∃v:Nat,YB=(v:Int):=⟨YB.toNat,by have:=K.1;omega⟩
         have Yv:v<100:=by have:=K.2;omega
         have Zz:=nZ Yv;have Zd:=hid (qE v Yv);obtain⟨rfl,rfl⟩:=dm.kept W.out Yh;have ZS:((v:Int)==0)=false:=by rw[aW];exact Yh
         have V:Hid (10∉(a.drop (b+1)).take (b+1-(b+1))∧jZ s t (gV (a.drop (b+1))) d e c∧h=o++(tK++Lib.decDigits v)++[10]++c∧(o++(tK++Lib.decDigits v)++[10]).length<=(b+1)*90000):=⟨by simp,E.out,by rw[Ym,wv _ Yh];simp,by have:=Yd.out.2.2.2;have Zk:tK.length=6:=rfl;simp[Zk];omega⟩;have Yy:=hid (fun Yf(B:Below Yg.heap.size Yg Yf)=>(⟨w.below B,Yx.out.trans (B.mono Yx.out.size)⟩:DG l.heap.size s t M N P Q Yf∧Below l.heap.size l Yf));clear Ym Yc K F i G Ye Yz w YA Yd E W;go_wp2_with(go_at_call 16;refine(Zd.out _).mono ?_;rintro Zb Zv⟨rfl,Zh⟩;generalize Lib.decDigits v=dg at*;have Yn:¬9223372036854775807<6+dg.length:=(by omega);have ZH:¬9223372036854775807<dg.length+6:=(by omega);have Yo:¬9223372036854775807<o.length+(6+dg.length):=(by omega);have ZI:¬9223372036854775807<o.length+(dg.length+6):=(by omega);have ZT:¬9223372036854775807<o.length+(6+dg.length)+1:=(by omega);have ZJ:¬9223372036854775807<o.length+(dg.length+6)+1:=(by omega))
         have YN:=hid (Yy.out Zv Zh);refine⟨⟨b+1,b+1,s,t,o++(tK++dg)++[10],c,M,N,P,Q,by omega,af _,?_,by go_num,by go_num,V,YN⟩,?_⟩
         ·rw[uU,uU,uU];rfl
         ·simp[intOf];omega)
      ·have I:((((⟨a.toArray⟩:ByteArray)[b]'(by show b<a.toArray.size;simpa using g)).toNat:Int)==10)=false:=by
        rw[f,aW];intro YL;exact m (kJ.1 (by show(a[b]?.getD 0).toNat=10;omega))
       have YT:Hid (10∉(a.drop q).take (b+1-q)∧jZ YJ YK (gV (a.drop q)) d e j∧h=o++j∧o.length<=q*90000):=⟨Pw g YV r.out.1 m,r.out.2⟩;clear f m;go_wp2;go_roundw
       case rel=>exact⟨b+1,q,YJ,YK,o,j,M,N,P,Q,by omega,by omega,rfl,rfl,by go_num,YT,Yj⟩
       case measure=>simp[intOf];omega)
     ·obtain rfl:b=a.length:=by omega
      have YU:=NK Zf.out r.out.1 r.out.2.1;have Yu:=r.out.2.2.1;rw[YU,cW]at Yu;have YS:=hid Yj.out.2;clear r Yj;subst Yu;go_wp2;go_ret2
      exact⟨rfl,YS.out⟩)
theorem yj(m:Nat->bg)(c:∀j,j<F.length->∀l b,fi e ((F[j]?.getD (0,0)).1:Int) ((F[j]?.getD (0,0)).2:Int) l b->l=0∧b=m j)(n:gO e F f d):f=0∧d=((List.range F.length).map m).flatten:=by
 rcases n with⟨rfl,p,g,rfl⟩|⟨h,_,o,b,i,_,k⟩
 ·refine⟨rfl,?_⟩
  congr 1;refine gm fun j a=>?_
  rw[Rd]at a;exact(c j a _ _ (g j a)).2
 ·exact absurd (c o i _ _ k).1 h
theorem lS{rs:bu}{a b:Nat}(h:cm rs=0)(e:a<rs.length)(g:b<rs.length)(i:qM (rs[a]?.getD ([],[])).1 (bw (rs[b]?.getD ([],[])).1) (gH (rs[a]?.getD ([],[])).1 (a:Int) (b:Int)) 0 (rs[a]?.getD ([],[])).1.length=true)(c:fi rs (a:Int) (b:Int) f d):f=0∧d=[]:=by
 refine c.right h e g ?_;have:=gl.run (.zero:gl (rs[a]?.getD ([],[])).1 (rs[a]?.getD ([],[])).2 (bw (rs[b]?.getD ([],[])).1) (bw (rs[b]?.getD ([],[])).2) (gH (rs[a]?.getD ([],[])).1 (a:Int) (b:Int)) 0 []) (rs[a]?.getD ([],[])).1.length (by rw[cI];exact i)
 rwa[cI]at this
theorem rU{rs:bu}{b:Nat}(a:List (List Int))(s:List Int×List Int)(o:cm rs=0)(m:0<rs.length)(n:b<rs.length)(g:rs[0]?.getD ([],[])=([2,2,-1],[-1]))(p:fs [([2,-1],bw (rs[b]?.getD ([],[])).1)] 0 true a)
 (h:qM [2,2,-1] (bw (rs[b]?.getD ([],[])).1) (gH [2,2,-1] 0 (b:Int)) 0 1=true)(i:qM [2,2,-1] (bw (rs[b]?.getD ([],[])).1) (gH [2,2,-1] 0 (b:Int)) 2 3=true)
 (j:gH [2,2,-1] 0 (b:Int) 1=false)(k:gA a [2,2,-1] [-1] 1 (bw (rs[b]?.getD ([],[])).2)=0)(l:gY a [2,2,-1] [-1] 1 (bw (rs[b]?.getD ([],[])).2)=s)(e:fi rs ((0:Nat):Int) (b:Int) f d):f=0∧d=[s]:=by
 refine e.right o m n ?_;rw[g];have q:gl [2,2,-1] [-1] (bw (rs[b]?.getD ([],[])).1) (bw (rs[b]?.getD ([],[])).2) (gH [2,2,-1] 0 (b:Int)) 1 []:=gl.run .zero 1 h;have r:=gl.yes (val:=a) q j (by rw[show cD [2,2,-1] 1=[2,-1]from by decide+kernel];exact p) k;have c:=gl.run r 1 i;rw[show gY a [2,2,-1] [-1] ((1:Nat):Int) (bw (rs[b]?.getD ([],[])).2)=s from l]at c;exact c
theorem rX{t:List Int}(a:List (List Int))(j:a=[t,[-2],[-3],[-4],[-5],[-6],[-7],[-8]])(e:du [([2,-1],2::t)]=0)(d:e7 a=0)(i:Wb.App (sw a) [2,-1]=Wb.App (sw a) (2::t))(h:z8 a=true):fs [([2,-1],2::t)] 0 true a:=by
 refine LG e d (NH d (fun o g=>?_) h fun b m l n f=>?_)
 ·obtain rfl:o=0:=by simp at g;omega
  exact i
 ·have k:Wb.App b [2,-1]=Wb.App b (2::t):=l 0 (by simp)
  rw[Wb.jo b 2 [-1],Wb.jo b 2 t,aE (by omega)]at k;have c:=(RD k).2;rw[Wb.FQ b (by omega)]at c;subst j;match n,f with
  |0,_=>exact c
  |1,_=>exact(Wb.FQ b (by omega)).symm
  |2,_=>exact(Wb.FQ b (by omega)).symm
  |3,_=>exact(Wb.FQ b (by omega)).symm
  |4,_=>exact(Wb.FQ b (by omega)).symm
  |5,_=>exact(Wb.FQ b (by omega)).symm
  |6,_=>exact(Wb.FQ b (by omega)).symm
  |7,_=>exact(Wb.FQ b (by omega)).symm
def PQ:bu:=[([2,2,-1],[-1])]
def Mg:bu:=[([2,2,-1],[-1]),([2,0],[1])]
def qt:bu:=[([2,2,-1],[-1]),([2,0],[1]),([2,1],[0])]
theorem Qf(e:gO PQ (js 0) f d):f=0∧d=[([2,-1],[2,-1])]:=by
 refine yj (fun _=>[([2,-1],[2,-1])]) (fun g a i h c=>?_) e;obtain rfl:g=0:=by rw[oY]at a;omega
 exact rU (rs:=PQ) (b:=0) [[2,-5],[-2],[-3],[-4],[-5],[-6],[-7],[-8]] ([2,-1],[2,-1]) (by decide+kernel) (by decide) (by decide) rfl (show fs [([2,-1],bw (PQ[0]?.getD ([],[])).1)] 0 true [[2,-5],[-2],[-3],[-4],[-5],[-6],[-7],[-8]]from by rw[show bw (PQ[0]?.getD ([],[])).1=2::[2,-5]from by decide+kernel];exact rX (t:=[2,-5]) [[2,-5],[-2],[-3],[-4],[-5],[-6],[-7],[-8]] rfl (by decide+kernel) (by decide+kernel) (by decide+kernel) (by decide+kernel)) (by decide+kernel) (by decide+kernel) (by decide+kernel) (by decide+kernel) (by decide+kernel) c
theorem Qd(h:gO Mg (js 1) f d):f=0∧d=[([2,1],[0])]:=by
 refine yj (fun g=>if g=0 then [([2,1],[0])]else []) (fun g e j i c=>?_) h;rw[oY]at e;match g,e with
 |0,_=>exact rU (rs:=Mg) (b:=1) [[0],[-2],[-3],[-4],[-5],[-6],[-7],[-8]] ([2,1],[0]) (by decide+kernel) (by decide) (by decide) rfl (show fs [([2,-1],bw (Mg[1]?.getD ([],[])).1)] 0 true [[0],[-2],[-3],[-4],[-5],[-6],[-7],[-8]]from by rw[show bw (Mg[1]?.getD ([],[])).1=2::[0]from by decide+kernel];exact rX (t:=[0]) [[0],[-2],[-3],[-4],[-5],[-6],[-7],[-8]] rfl (by decide+kernel) (by decide+kernel) (by decide+kernel) (by decide+kernel)) (by decide+kernel) (by decide+kernel) (by decide+kernel) (by decide+kernel) (by decide+kernel) c
 |1,_=>exact lS (rs:=Mg) (a:=1) (b:=0) (by decide+kernel) (by decide) (by decide) (by decide+kernel) c
 |2,_=>exact lS (rs:=Mg) (a:=1) (b:=1) (by decide+kernel) (by decide) (by decide) (by decide+kernel) c
theorem Qp(h:gO qt (js 2) f d):f=0∧d=[([2,0],[1])]:=by
 refine yj (fun g=>if g=0 then [([2,0],[1])]else []) (fun g e j i c=>?_) h;rw[oY]at e;match g,e with
 |0,_=>exact rU (rs:=qt) (b:=2) [[1],[-2],[-3],[-4],[-5],[-6],[-7],[-8]] ([2,0],[1]) (by decide+kernel) (by decide) (by decide) rfl (show fs [([2,-1],bw (qt[2]?.getD ([],[])).1)] 0 true [[1],[-2],[-3],[-4],[-5],[-6],[-7],[-8]]from by rw[show bw (qt[2]?.getD ([],[])).1=2::[1]from by decide+kernel];exact rX (t:=[1]) [[1],[-2],[-3],[-4],[-5],[-6],[-7],[-8]] rfl (by decide+kernel) (by decide+kernel) (by decide+kernel) (by decide+kernel)) (by decide+kernel) (by decide+kernel) (by decide+kernel) (by decide+kernel) (by decide+kernel) c
 |1,_=>exact lS (rs:=qt) (a:=2) (b:=0) (by decide+kernel) (by decide) (by decide) (by decide+kernel) c
 |2,_=>exact lS (rs:=qt) (a:=1) (b:=2) (by decide+kernel) (by decide) (by decide) (by decide+kernel) c
 |3,_=>exact lS (rs:=qt) (a:=2) (b:=1) (by decide+kernel) (by decide) (by decide) (by decide+kernel) c
 |4,_=>exact lS (rs:=qt) (a:=2) (b:=2) (by decide+kernel) (by decide) (by decide) (by decide+kernel) c
theorem zr{rk:List Int}(c:iD rk e (z::d)=0)(g:dF e z.1 z.2=0)(b:(bU e z.1).1=(bU e z.2).1)(a:eH rk e (z::d) f w v):f=0∧w=e∧v=d:=by
 rcases a with⟨a,_⟩|⟨_,j,i,h,a⟩
 ·exact absurd c a
 ·cases h
  rcases a with⟨a,_⟩|⟨_,_,a⟩|⟨_,a,_⟩|⟨_,a,_⟩
  ·exact absurd g a
  ·exact a
  ·exact absurd b a
  ·exact absurd b a
theorem wD{rk:List Int}{rs:bu}{p:List Int×List Int}{L R:List Int}{q:bg}(h:iD rk rs (p::d)=0)(i:dF rs p.1 p.2=0)(j:(bU rs p.1).1≠(bU rs p.2).1)(g:fP rk (bU rs p.1).1 (bU rs p.2).1=(0,L,R))
 (k:fK L rs=rs)(l:fY L rs=[])(o:rs.length<=7)(m:∀c b,gO (rs++[(L,R)]) (js rs.length) c b->c=0∧b=q)(r:(d++q).length<=40)(a:eH rk rs (p::d) f e v):f=0∧e=rs++[(L,R)]∧v=d++q:=by
 rcases a with⟨a,_⟩|⟨_,t,s,c,a⟩
 ·exact absurd h a
 ·cases c
  rcases a with⟨a,_⟩|⟨_,a,_⟩|⟨_,_,a,_⟩|⟨_,_,_,a⟩
  ·exact absurd i a
  ·exact absurd a j
  ·rw[g]at a;exact absurd rfl a
  ·rw[g]at a
   unfold jm at a;dsimp only at a
   rw[k,l,cW]at a;rcases a with⟨a,_⟩|⟨_,c,b,n,a⟩
   ·omega
   ·obtain⟨rfl,rfl⟩:=m _ _ n
    rcases a with⟨a,_⟩|⟨_,a,_⟩|⟨_,_,a⟩
    ·exact absurd rfl a
    ·omega
    ·exact a
def gE:bg:=[([2,2,-1],[-1]),([2,0],[1])]
theorem NF(b:eH wM [] gE f e d):f=0∧e=PQ∧d=[([2,0],[1]),([2,-1],[2,-1])]:=
 wD (rs:=[]) (p:=([2,2,-1],[-1])) (L:=[2,2,-1]) (R:=[-1]) (q:=[([2,-1],[2,-1])]) (by decide+kernel) (by decide+kernel) (by decide+kernel) (by decide+kernel) rfl rfl (by decide) (fun g c a=>Qf a) (by decide) b
theorem NX(b:eH wM PQ [([2,0],[1]),([2,-1],[2,-1])] f e d):f=0∧e=Mg∧d=[([2,-1],[2,-1]),([2,1],[0])]:=
 wD (rs:=PQ) (p:=([2,0],[1])) (L:=[2,0]) (R:=[1]) (q:=[([2,1],[0])]) (by decide+kernel) (by decide+kernel) (by decide+kernel) (by decide+kernel) (by decide+kernel) (by decide+kernel) (by decide) (fun g c a=>Qd a) (by decide) b
theorem NY(a:eH wM Mg [([2,-1],[2,-1]),([2,1],[0])] f e d):f=0∧e=Mg∧d=[([2,1],[0])]:=
 zr (by decide+kernel) (by decide+kernel) (by decide+kernel) a
theorem OA(b:eH wM Mg [([2,1],[0])] f e d):f=0∧e=qt∧d=[([2,0],[1])]:=
 wD (rs:=Mg) (p:=([2,1],[0])) (L:=[2,1]) (R:=[0]) (q:=[([2,0],[1])]) (by decide+kernel) (by decide+kernel) (by decide+kernel) (by decide+kernel) (by decide+kernel) (by decide+kernel) (by decide) (fun g c a=>Qp a) (by decide) b
theorem Ng(a:eH wM qt [([2,0],[1])] f e d):f=0∧e=qt∧d=[]:=
 zr (by decide+kernel) (by decide+kernel) (by decide+kernel) a
theorem LJ(b:jr wM gE g e d):(g=0∧e=[]∧d=gE)∨(g=1∧e=PQ∧d=[([2,0],[1]),([2,-1],[2,-1])])∨(g=2∧e=Mg∧d=[([2,-1],[2,-1]),([2,1],[0])])∨(g=3∧e=Mg∧d=[([2,1],[0])])∨(g=4∧e=qt∧d=[([2,0],[1])])∨(g=5∧e=qt∧d=[]):=by
 induction g generalizing e d with
 |zero=>exact .inl ⟨rfl,b.1,b.2⟩
 |succ g h=>
  obtain⟨j,i,c,f,a⟩:=b;rcases h c with⟨rfl,rfl,rfl⟩|⟨rfl,rfl,rfl⟩|⟨rfl,rfl,rfl⟩|⟨rfl,rfl,rfl⟩|⟨rfl,rfl,rfl⟩|⟨rfl,rfl,rfl⟩
  ·obtain⟨_,rfl,rfl⟩:=NF a;exact .inr (.inl ⟨rfl,rfl,rfl⟩)
  ·obtain⟨_,rfl,rfl⟩:=NX a;exact .inr (.inr (.inl ⟨rfl,rfl,rfl⟩))
  ·obtain⟨_,rfl,rfl⟩:=NY a;exact .inr (.inr (.inr (.inl ⟨rfl,rfl,rfl⟩)))
  ·obtain⟨_,rfl,rfl⟩:=OA a;exact .inr (.inr (.inr (.inr (.inl ⟨rfl,rfl,rfl⟩))))
  ·obtain⟨_,rfl,rfl⟩:=Ng a;exact .inr (.inr (.inr (.inr (.inr ⟨rfl,rfl,rfl⟩))))
  ·simp at f
theorem O7(c:jC wM gE f e g):f=0∧e=qt∧g=5:=by
 rcases c with⟨c,_⟩|⟨_,q,n,p,o,d,c⟩
 ·exact absurd (by decide+kernel) c
 ·rcases LJ d with⟨rfl,rfl,rfl⟩|⟨rfl,rfl,rfl⟩|⟨rfl,rfl,rfl⟩|⟨rfl,rfl,rfl⟩|⟨rfl,rfl,rfl⟩|⟨rfl,rfl,rfl⟩<;>rcases c with⟨a,i,j,k⟩|⟨_,a,_⟩|⟨h,_,a,⟨m,l,b⟩,_⟩
  ·cases a
  ·omega
  ·exact absurd (NF b).1 a
  ·cases a
  ·omega
  ·exact absurd (NX b).1 a
  ·cases a
  ·omega
  ·exact absurd (NY b).1 a
  ·cases a
  ·omega
  ·exact absurd (OA b).1 a
  ·cases a
  ·omega
  ·exact absurd (Ng b).1 a
  ·exact⟨i,j,k⟩
  ·omega
  ·simp at h
theorem JR(d:h.length<=maxLen)(a:jE h A f):Calls Tryz.prog 5 #[sv h] k fun e c=>e=.returned (.tuple #[sv A,.int .i64 f])∧Below k.heap.size k c:=by
 unfold jE at a;split at a
 ·next j=>
  obtain⟨rfl,rfl⟩:=a;refine(Im h k d j).mono ?_;rintro e c⟨rfl,rfl⟩;exact⟨rfl,ah _ _⟩
 ·next j=>
  split at a
  ·next b=>
   obtain⟨rfl,rfl⟩:=a;refine(Iz h k d (by omega) (by omega) b).mono ?_;rintro e c⟨rfl,rfl⟩;exact⟨rfl,ah _ _⟩
  ·next b=>
   obtain⟨rfl,l,m,a⟩:=a;exact IF h k (by omega) (by omega) (Classical.or_iff_not_imp_left.2 fun g=>Classical.not_not.1 fun i=>b ⟨g,i⟩) a
theorem zw:∀{l:bg},(∀p∈l,fX e p.1 p.2=true)->jT e l=(true,0)
 |[],_=>rfl
 |p::l,b=>by rw[jT,aD (b p (by simp)),zw fun c a=>b c (by simp[a])]
theorem Cc{ps:bg}(a:fX qt z.1 z.2=true)(b:f=0∧ps=[z]):f=0∧ps.length<=1∧∀p∈ps,fX qt p.1 p.2=true:=by
 obtain⟨rfl,rfl⟩:=b;exact⟨rfl,by simp,by simpa using a⟩
theorem rW{ps:bg}(a:f=0∧ps=[]):f=0∧ps.length<=1∧∀p∈ps,fX qt p.1 p.2=true:=by
 obtain⟨rfl,rfl⟩:=a;exact⟨rfl,by simp,by simp⟩
theorem KX{ps:bg}:∀a b:Nat,a<3->b<3->fi qt (a:Int) (b:Int) f ps->f=0∧ps.length<=1∧∀p∈ps,fX qt p.1 p.2=true
 |0,0,_,_,c=>Cc (by decide+kernel) (rU (rs:=qt) (b:=0) [[2,-5],[-2],[-3],[-4],[-5],[-6],[-7],[-8]] ([2,-1],[2,-1]) (by decide+kernel) (by decide) (by decide) rfl (show fs [([2,-1],bw (qt[0]?.getD ([],[])).1)] 0 true [[2,-5],[-2],[-3],[-4],[-5],[-6],[-7],[-8]]from by rw[show bw (qt[0]?.getD ([],[])).1=2::[2,-5]from by decide+kernel];exact rX (t:=[2,-5]) [[2,-5],[-2],[-3],[-4],[-5],[-6],[-7],[-8]] rfl (by decide+kernel) (by decide+kernel) (by decide+kernel) (by decide+kernel)) (by decide+kernel) (by decide+kernel) (by decide+kernel) (by decide+kernel) (by decide+kernel) c)
 |0,1,_,_,c=>Cc (by decide+kernel) (rU (rs:=qt) (b:=1) [[0],[-2],[-3],[-4],[-5],[-6],[-7],[-8]] ([2,1],[0]) (by decide+kernel) (by decide) (by decide) rfl (show fs [([2,-1],bw (qt[1]?.getD ([],[])).1)] 0 true [[0],[-2],[-3],[-4],[-5],[-6],[-7],[-8]]from by rw[show bw (qt[1]?.getD ([],[])).1=2::[0]from by decide+kernel];exact rX (t:=[0]) [[0],[-2],[-3],[-4],[-5],[-6],[-7],[-8]] rfl (by decide+kernel) (by decide+kernel) (by decide+kernel) (by decide+kernel)) (by decide+kernel) (by decide+kernel) (by decide+kernel) (by decide+kernel) (by decide+kernel) c)
 |0,2,_,_,c=>Cc (by decide+kernel) (rU (rs:=qt) (b:=2) [[1],[-2],[-3],[-4],[-5],[-6],[-7],[-8]] ([2,0],[1]) (by decide+kernel) (by decide) (by decide) rfl (show fs [([2,-1],bw (qt[2]?.getD ([],[])).1)] 0 true [[1],[-2],[-3],[-4],[-5],[-6],[-7],[-8]]from by rw[show bw (qt[2]?.getD ([],[])).1=2::[1]from by decide+kernel];exact rX (t:=[1]) [[1],[-2],[-3],[-4],[-5],[-6],[-7],[-8]] rfl (by decide+kernel) (by decide+kernel) (by decide+kernel) (by decide+kernel)) (by decide+kernel) (by decide+kernel) (by decide+kernel) (by decide+kernel) (by decide+kernel) c)
 |1,0,_,_,c=>rW (lS (rs:=qt) (a:=1) (b:=0) (by decide+kernel) (by decide) (by decide) (by decide+kernel) c)
 |1,1,_,_,c=>rW (lS (rs:=qt) (a:=1) (b:=1) (by decide+kernel) (by decide) (by decide) (by decide+kernel) c)
 |1,2,_,_,c=>rW (lS (rs:=qt) (a:=1) (b:=2) (by decide+kernel) (by decide) (by decide) (by decide+kernel) c)
 |2,0,_,_,c=>rW (lS (rs:=qt) (a:=2) (b:=0) (by decide+kernel) (by decide) (by decide) (by decide+kernel) c)
 |2,1,_,_,c=>rW (lS (rs:=qt) (a:=2) (b:=1) (by decide+kernel) (by decide) (by decide) (by decide+kernel) c)
 |2,2,_,_,c=>rW (lS (rs:=qt) (a:=2) (b:=2) (by decide+kernel) (by decide) (by decide) (by decide+kernel) c)
theorem Lb{i:Nat}{l:bg}(m:iJ qt i g l):i<=3->l.length<=3*i+g∧∀p∈l,fX qt p.1 p.2=true:=by
 induction m with
 |zero=>intro _;exact⟨by simp,by simp⟩
 |@next i g l t m o j d=>
  intro e;have h:g<3:=o;obtain⟨c,b⟩:=d e;by_cases f:i=3
  ·subst f
   rcases j with⟨c,_⟩|⟨_,_,b,_⟩|⟨_,q,u,n,_,r,_⟩
   ·exact absurd (by decide+kernel) c
   ·omega
   ·have:q<3:=n
    omega
  ·obtain⟨_,s,k⟩:=KX i g (by omega) h j
   refine⟨by rw[ai];omega,fun p a=>?_⟩;rcases dZ.1 a with a|a
   ·exact b p a
   ·exact k p a
 |@row i l m d=>
  intro e;obtain⟨c,b⟩:=d (by omega);have:qt.length=3:=rfl
  exact⟨by omega,b⟩
theorem Lx(a:mJ qt M f):M=true∧f=0:=by
 obtain⟨h,m,c,a⟩:=a;rcases c with⟨l,b,⟨_,rfl,rfl⟩|⟨j,_⟩⟩|⟨i,k,l,n,e,g,b,c,d,_⟩
 ·rcases a with⟨a,_⟩|⟨_,a⟩
  ·exact absurd rfl a
  ·rw[zw (Lb (i:=3) b (af _)).2]at a
   cases a;exact⟨rfl,rfl⟩
 ·have:=(Lb (i:=3) b (af _)).1
  omega
 ·exact absurd (KX i k e g c).1 d
section
def QT:List UInt8:=[114,117,108,101,115,10,115,97,121,32,103,40,103,40,120,41,41,32,61,32,120,10,115,97,121,32,103,40,97,41,32,61,32,98,10,99,108,111,115,101,10,114,117,108,101,115,10,102,111,114,109,32,103,40,103,40,103,40,98,41,41,41,10,115,97,109,101,32,103,40,98,41,32,97,10,115,97,109,101,32,97,32,98,10,109,101,101,116,10,97,98,111,118,101,32,102,40,120,44,121,41,32,103,40,120,41,10,97,98,111,118,101,32,120,32,121,10,114,117,108,101,32,120,32,62,32,97,10,114,117,108,101,32,104,40,120,41,32,62,32,103,40,120,41,10,102,111,114,109,32,104,40,97,41,10,115,97,121,32,102,40,120,41,32,61,32,97,10,120,10]
def Q2:List UInt8:=[45,10,111,107,10,111,107,10,51,32,53,10,103,40,103,40,120,41,41,32,62,32,120,59,32,103,40,97,41,32,62,32,98,59,32,103,40,98,41,32,62,32,97,10,97,32,50,10,121,101,115,10,110,111,10,121,101,115,10,121,101,115,10,110,111,10,101,114,114,111,114,32,49,10,111,107,10,98,32,50,10,101,114,114,111,114,32,49,10,101,114,114,111,114,32,49,10]
theorem gP{E E':bg}{R R':bu}{j:List UInt8}{e ws:List (List UInt8)}{c:bg}{d:bu}{o x:List UInt8}(f:jZ E R (j::e) c d o)(g:fV 32 j=ws)(h:∀E1 R1 b er,dm E R ws E1 R1 b er->E1=E'∧R1=R'∧gW b er=x):∃a,jZ E' R' e c d a∧o=x++10::a:=by
 obtain⟨E1,R1,b,er,a,i,f,rfl⟩:=f;rw[g]at i;obtain⟨rfl,rfl,rfl⟩:=h _ _ _ _ i;exact⟨a,f,rfl⟩
section
variable{E E1:bg}{R R1:bu}{o:List UInt8}{er:Int}{a b:List UInt8}{ta tb:List Int}
theorem Tm.MM{b:Int}(c:E1=E∧R1=R∧er=b)(a:b≠0):E1=E∧R1=R∧gW o er=tK++Lib.decDigits b.toNat:=by
 obtain⟨rfl,rfl,rfl⟩:=c;exact⟨rfl,rfl,aE a⟩
theorem Tm.MY(c:aO a=(ta,0))(d:aO b=(tb,0))(f:fQ (E++[(ta,tb)])=0)(e:dm E R [pK,a,[61],b] E1 R1 o er):E1=E++[(ta,tb)]∧R1=R∧gW o er=OJ:=by
 unfold dm at e;dsimp only at e
 rw[aD ⟨rfl,rfl,by rw[c],by rw[d]⟩,c,d,f]at e;obtain⟨rfl,rfl,rfl,rfl⟩:=e;exact⟨aD rfl,rfl,rfl⟩
theorem Tm.KN{c:Int}(e:aO a=(ta,0))(f:aO b=(tb,0))(g:cm (R++[(ta,tb)])=c)(d:dm E R [mr,a,[62],b] E1 R1 o er):E1=E∧R1=(if c=0 then R++[(ta,tb)]else R)∧gW o er=(if c=0 then OJ else tK++Lib.decDigits c.toNat):=by
 unfold dm at d;dsimp only at d
 rw[aE (by rintro⟨d,_⟩;exact absurd d (by decide)),aD ⟨rfl,rfl,by rw[e],by rw[f]⟩,e,f,g]at d;obtain⟨rfl,rfl,rfl,rfl⟩:=d;exact⟨rfl,rfl,rfl⟩
theorem Tm.KK{t':List Int}{n:Nat}{g:List UInt8}(c:aO a=(ta,0))(e:bU R ta=(t',n,0))(f:kh t' g)(b:dm E R [nI,a] E1 R1 o er):E1=E∧R1=R∧gW o er=g++[32]++Lib.decDigits n:=by
 unfold dm at b;dsimp only at b
 rw[aD ⟨rfl,by rw[c]⟩,c,e]at b;obtain⟨rfl,rfl,rfl,b⟩:=b;obtain⟨h,d,rfl⟩:=b rfl;rw[d.one f];exact⟨rfl,rfl,rfl⟩
theorem Tm.KR(d:aO a=(ta,0))(e:aO b=(tb,0))(f:dF R ta tb=0)(c:dm E R [nh,a,b] E1 R1 o er):E1=E∧R1=R∧gW o er=qY (fX R ta tb):=by
 unfold dm at c;dsimp only at c
 rw[aD ⟨rfl,by rw[d],by rw[e]⟩,d,e,f]at c;obtain⟨rfl,rfl,rfl,c⟩:=c;rw[c rfl];exact⟨rfl,rfl,rfl⟩
theorem Tm.FO(d:aO a=(ta,0))(e:aO b=(tb,0))(f:fC wM ta tb=0)(c:dm E R [kS,a,b] E1 R1 o er):E1=E∧R1=R∧gW o er=qY (dj wM ta tb):=by
 unfold dm at c;dsimp only at c
 rw[aE (by rintro⟨c,_⟩;exact absurd c (by decide)),aD ⟨rfl,by rw[d],by rw[e]⟩,d,e,f]at c;obtain⟨rfl,rfl,rfl,c⟩:=c;rw[c rfl];exact⟨rfl,rfl,rfl⟩
theorem Tm.FJ{ss:List (List UInt8)}(c:fg R ss)(a:dm E R [jO] E1 R1 o er):E1=E∧R1=R∧gW o er=(if R=[]then [45]else Lib.join ss [59,32]):=by
 unfold dm at a;dsimp only at a
 rw[aE (by decide),aD rfl]at a;obtain⟨rfl,rfl,rfl,d,b,rfl⟩:=a;rw[b.one c];exact⟨rfl,rfl,rfl⟩
theorem Tm.MW(a:dm gE R [kj] E1 R1 o er):E1=gE∧R1=qt∧gW o er=Lib.decDigits 3++[32]++Lib.decDigits 5:=by
 unfold dm at a;dsimp only at a
 rw[aD rfl]at a;obtain⟨rfl,c,d,b,rfl,a⟩:=a;obtain⟨rfl,rfl,rfl⟩:=O7 b;rw[a rfl];exact⟨rfl,rfl,rfl⟩
theorem Tm.OO(a:dm E qt [mA] E1 R1 o er):E1=E∧R1=qt∧gW o er=qY true:=by
 unfold dm at a;dsimp only at a
 rw[aE (by decide),aE (by decide),aD rfl]at a;obtain⟨rfl,rfl,c,b,a⟩:=a;obtain⟨rfl,rfl⟩:=Lx b;rw[a rfl];exact⟨rfl,rfl,rfl⟩
end
theorem wj(x:Tr){t:List Int}{l:List UInt8}(a:x.ok)(b:∀s∈x.flat,Tm.known s=true)(c:x.flat=t)(d:x.flat.length<=30)(e:l=x.show):kh t l:=⟨x,a,b,c,d,e⟩
theorem J4{d:List UInt8}{er:Int}(e:jE QT d er):d=Q2∧er=0:=by
 unfold jE at e;rw[aE (by decide+kernel),aE (by decide+kernel)]at e;obtain⟨rfl,J,K,f⟩:=e;rw[show gV QT=[[114,117,108,101,115],[115,97,121,32,103,40,103,40,120,41,41,32,61,32,120],[115,97,121,32,103,40,97,41,32,61,32,98],[99,108,111,115,101],[114,117,108,101,115],[102,111,114,109,32,103,40,103,40,103,40,98,41,41,41],[115,97,109,101,32,103,40,98,41,32,97],[115,97,109,101,32,97,32,98],[109,101,101,116],[97,98,111,118,101,32,102,40,120,44,121,41,32,103,40,120,41],[97,98,111,118,101,32,120,32,121],[114,117,108,101,32,120,32,62,32,97],[114,117,108,101,32,104,40,120,41,32,62,32,103,40,120,41],[102,111,114,109,32,104,40,97,41],[115,97,121,32,102,40,120,41,32,61,32,97],[120]]from by decide+kernel]at f;obtain⟨L,q,rfl⟩:=gP (E':=[]) (R':=[]) (x:=[45]) f (ws:=[jO]) (by decide+kernel) (fun _ _ _ _ b=>by have a:=Tm.FJ (R:=[]) (ss:=[]) rfl b;first|exact a|exact⟨a.1,a.2.1,a.2.2.trans (by decide+kernel)⟩);obtain⟨M,r,rfl⟩:=gP (E':=[([2,2,-1],[-1])]) (R':=[]) (x:=[111,107]) q (ws:=[pK,[103,40,103,40,120,41,41],[61],[120]]) (by decide+kernel) (fun _ _ _ _ b=>by have a:=Tm.MY (show aO [103,40,103,40,120,41,41]=([2,2,-1],0)from by decide+kernel) (show aO [120]=([-1],0)from by decide+kernel) (by decide+kernel) b;first|exact a|exact⟨a.1,a.2.1,a.2.2.trans (by decide+kernel)⟩);obtain⟨N,s,rfl⟩:=gP (E':=gE) (R':=[]) (x:=[111,107]) r (ws:=[pK,[103,40,97,41],[61],[98]]) (by decide+kernel) (fun _ _ _ _ b=>by have a:=Tm.MY (show aO [103,40,97,41]=([2,0],0)from by decide+kernel) (show aO [98]=([1],0)from by decide+kernel) (by decide+kernel) b;first|exact a|exact⟨a.1,a.2.1,a.2.2.trans (by decide+kernel)⟩);obtain⟨O,u,rfl⟩:=gP (E':=gE) (R':=qt) (x:=[51,32,53]) s (ws:=[kj]) (by decide+kernel) (fun _ _ _ _ b=>by have a:=Tm.MW b;first|exact a|exact⟨a.1,a.2.1,a.2.2.trans (by decide+kernel)⟩);obtain⟨P,v,rfl⟩:=gP (E':=gE) (R':=qt) (x:=[103,40,103,40,120,41,41,32,62,32,120,59,32,103,40,97,41,32,62,32,98,59,32,103,40,98,41,32,62,32,97]) u (ws:=[jO]) (by decide+kernel) (fun _ _ _ _ b=>by have a:=Tm.FJ (R:=qt) (ss:=[[103,40,103,40,120,41,41,32,62,32,120],[103,40,97,41,32,62,32,98],[103,40,98,41,32,62,32,97]]) ⟨_,_,_,(wj (.one 2 (.one 2 (.leaf (-1)))) (t:=[2,2,-1]) (l:=[103,40,103,40,120,41,41]) (by simp[Tr.ok]) (by decide+kernel) rfl (by decide) (by decide+kernel)),(wj (.leaf (-1)) (t:=[-1]) (l:=[120]) (by simp[Tr.ok]) (by decide+kernel) rfl (by decide) (by decide+kernel)),rfl,_,_,_,(wj (.one 2 (.leaf 0)) (t:=[2,0]) (l:=[103,40,97,41]) (by simp[Tr.ok]) (by decide+kernel) rfl (by decide) (by decide+kernel)),(wj (.leaf 1) (t:=[1]) (l:=[98]) (by simp[Tr.ok]) (by decide+kernel) rfl (by decide) (by decide+kernel)),rfl,_,_,_,(wj (.one 2 (.leaf 1)) (t:=[2,1]) (l:=[103,40,98,41]) (by simp[Tr.ok]) (by decide+kernel) rfl (by decide) (by decide+kernel)),(wj (.leaf 0) (t:=[0]) (l:=[97]) (by simp[Tr.ok]) (by decide+kernel) rfl (by decide) (by decide+kernel)),rfl,rfl⟩ b;first|exact a|exact⟨a.1,a.2.1,a.2.2.trans (by decide+kernel)⟩);obtain⟨Q,w,rfl⟩:=gP (E':=gE) (R':=qt) (x:=[97,32,50]) v (ws:=[nI,[103,40,103,40,103,40,98,41,41,41]]) (by decide+kernel) (fun _ _ _ _ b=>by have a:=Tm.KK (t':=[0]) (n:=2) (show aO [103,40,103,40,103,40,98,41,41,41]=([2,2,2,1],0)from by decide+kernel) (by decide+kernel) (wj (.leaf 0) (t:=[0]) (l:=[97]) (by simp[Tr.ok]) (by decide+kernel) rfl (by decide) (by decide+kernel)) b;first|exact a|exact⟨a.1,a.2.1,a.2.2.trans (by decide+kernel)⟩);obtain⟨S,y,rfl⟩:=gP (E':=gE) (R':=qt) (x:=[121,101,115]) w (ws:=[nh,[103,40,98,41],[97]]) (by decide+kernel) (fun _ _ _ _ b=>by have a:=Tm.KR (show aO [103,40,98,41]=([2,1],0)from by decide+kernel) (show aO [97]=([0],0)from by decide+kernel) (by decide+kernel) b;first|exact a|exact⟨a.1,a.2.1,a.2.2.trans (by decide+kernel)⟩);obtain⟨T,z,rfl⟩:=gP (E':=gE) (R':=qt) (x:=[110,111]) y (ws:=[nh,[97],[98]]) (by decide+kernel) (fun _ _ _ _ b=>by have a:=Tm.KR (show aO [97]=([0],0)from by decide+kernel) (show aO [98]=([1],0)from by decide+kernel) (by decide+kernel) b;first|exact a|exact⟨a.1,a.2.1,a.2.2.trans (by decide+kernel)⟩);obtain⟨U,A,rfl⟩:=gP (E':=gE) (R':=qt) (x:=[121,101,115]) z (ws:=[mA]) (by decide+kernel) (fun _ _ _ _ b=>by have a:=Tm.OO b;first|exact a|exact⟨a.1,a.2.1,a.2.2.trans (by decide+kernel)⟩);obtain⟨C,g,rfl⟩:=gP (E':=gE) (R':=qt) (x:=[121,101,115]) A (ws:=[kS,[102,40,120,44,121,41],[103,40,120,41]]) (by decide+kernel) (fun _ _ _ _ b=>by have a:=Tm.FO (show aO [102,40,120,44,121,41]=([4,-1,-2],0)from by decide+kernel) (show aO [103,40,120,41]=([2,-1],0)from by decide+kernel) (by decide+kernel) b;first|exact a|exact⟨a.1,a.2.1,a.2.2.trans (by decide+kernel)⟩);obtain⟨D,h,rfl⟩:=gP (E':=gE) (R':=qt) (x:=[110,111]) g (ws:=[kS,[120],[121]]) (by decide+kernel) (fun _ _ _ _ b=>by have a:=Tm.FO (show aO [120]=([-1],0)from by decide+kernel) (show aO [121]=([-2],0)from by decide+kernel) (by decide+kernel) b;first|exact a|exact⟨a.1,a.2.1,a.2.2.trans (by decide+kernel)⟩);obtain⟨E,i,rfl⟩:=gP (E':=gE) (R':=qt) (x:=[101,114,114,111,114,32,49]) h (ws:=[mr,[120],[62],[97]]) (by decide+kernel) (fun _ _ _ _ b=>by have a:=Tm.KN (c:=1) (show aO [120]=([-1],0)from by decide+kernel) (show aO [97]=([0],0)from by decide+kernel) (by decide+kernel) b;first|exact a|exact⟨a.1,a.2.1,a.2.2.trans (by decide+kernel)⟩);obtain⟨F,j,rfl⟩:=gP (E':=gE) (R':=(qt++[([3,-1],[2,-1])])) (x:=[111,107]) i (ws:=[mr,[104,40,120,41],[62],[103,40,120,41]]) (by decide+kernel) (fun _ _ _ _ b=>by have a:=Tm.KN (c:=0) (show aO [104,40,120,41]=([3,-1],0)from by decide+kernel) (show aO [103,40,120,41]=([2,-1],0)from by decide+kernel) (by decide+kernel) b;first|exact a|exact⟨a.1,a.2.1,a.2.2.trans (by decide+kernel)⟩);obtain⟨G,k,rfl⟩:=gP (E':=gE) (R':=(qt++[([3,-1],[2,-1])])) (x:=[98,32,50]) j (ws:=[nI,[104,40,97,41]]) (by decide+kernel) (fun _ _ _ _ b=>by have a:=Tm.KK (t':=[1]) (n:=2) (show aO [104,40,97,41]=([3,0],0)from by decide+kernel) (by decide+kernel) (wj (.leaf 1) (t:=[1]) (l:=[98]) (by simp[Tr.ok]) (by decide+kernel) rfl (by decide) (by decide+kernel)) b;first|exact a|exact⟨a.1,a.2.1,a.2.2.trans (by decide+kernel)⟩);obtain⟨H,m,rfl⟩:=gP (E':=gE) (R':=(qt++[([3,-1],[2,-1])])) (x:=[101,114,114,111,114,32,49]) k (ws:=[pK,[102,40,120,41],[61],[97]]) (by decide+kernel) (fun _ _ B _ b=>by
  unfold dm at b;dsimp only at b
  rw[aE (by rintro⟨_,_,e,_⟩;revert e;decide+kernel),aE (by rintro⟨e,_⟩;exact absurd e (by decide))]at b;have a:=Tm.MM (o:=B) b (by decide);exact⟨a.1,a.2.1,a.2.2.trans (by decide+kernel)⟩)
 obtain⟨I,p,rfl⟩:=gP (E':=gE) (R':=(qt++[([3,-1],[2,-1])])) (x:=[101,114,114,111,114,32,49]) m (ws:=[[120]]) (by decide+kernel) (fun _ _ B _ b=>by
  unfold dm at b;dsimp only at b
  rw[aE (by decide),aE (by decide),aE (by decide)]at b;have a:=Tm.MM (o:=B) b (by decide);exact⟨a.1,a.2.1,a.2.2.trans (by decide+kernel)⟩)
 obtain⟨_,_,rfl⟩:=p;exact⟨by decide+kernel,rfl⟩
end
theorem DD(g:Int)(c:World)(f:c.cell? ⟨0,0,none⟩=some (.int .i64 g)):Calls Tryz.prog 6 #[] c fun j h=>j=.returned (.bool true)∧Below c.heap.size c h:=by
 have a:=hid (fun(i:World)(e:i.cell? ⟨0,0,none⟩=some (.int .i64 g))=>IG QT g i e (by unfold maxLen;decide));have m:(Q2==[45,10,111,107,10,111,107,10,51,32,53,10,103,40,103,40,120,41,41,32,62,32,120,59,32,103,40,97,41,32,62,32,98,59,32,103,40,98,41,32,62,32,97,10,97,32,50,10,121,101,115,10,110,111,10,121,101,115,10,121,101,115,10,110,111,10,101,114,114,111,114,32,49,10,111,107,10,98,32,50,10,101,114,114,111,114,32,49,10,101,114,114,111,114,32,49,10])=true:=by decide+kernel
 go_enter Tryz.func6,Tryz.ntmps6;go_wp2_with fail;refine(a.out _ f).mono ?_;rintro j n⟨k,l,b,rfl,d⟩;obtain⟨rfl,rfl⟩:=J4 b;clear b a;go_wp2;go_ret;exact⟨rfl,d⟩
theorem Dw(o:List UInt8)(n:Int)(e:World)(b:e.cell? ⟨0,0,none⟩=some (.int .i64 n))(h:o.length<=maxLen):Calls Tryz.prog 3 #[sv o] e fun j q=>j=.returned (.bool true)∧Below e.heap.size e q:=by
 have m:0<e.heap.size:=fx b;go_enter Tryz.func3,Tryz.ntmps3;go_wp2_with fail;refine(IG o n e b h).mono ?_;rintro j u⟨s,t,i,rfl,d⟩;have l:=hid i;clear i;go_wp2_with fail;refine(JR h l.out).mono ?_;rintro j r⟨rfl,f⟩;have a:=d.trans (f.mono d.size);have c:=(a.cell (p:=⟨0,0,none⟩) m).trans b;go_wp2_with fail;refine(DD n r c).mono ?_;rintro j v⟨rfl,g⟩;have k:=a.trans (g.mono a.size);clear d f g a c b;go_wp2;go_ret;exact⟨rfl,k⟩
