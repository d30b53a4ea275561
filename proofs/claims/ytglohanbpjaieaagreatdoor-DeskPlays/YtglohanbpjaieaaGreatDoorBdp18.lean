/-
  Parts of the proof.
-/
import Derived.Test.YtglohanbpjaieaaGreatDoorBdp17
set_option maxHeartbeats 4000000
set_option maxRecDepth 100000
namespace Go.Proofs.YtglohanbpjaieaaGreatDoor
open Go.Proofs Go.RowKit Go.Shelf Go.Maps
variable {a f o p:Nat}{b:bu}{c d w:World}{e:Bool}{g h s y:Value}{j l:Option Addr}{q r:List Int}{t u z:bg}
def kW(L:List Int)(r:List Int×List Int):Bool:=decide (0<(mf r.1 L).length)
def fY(L:List Int)(rs:bu):bg:=rs.filter (kW L)
def fK(L:List Int)(rs:bu):bu:=rs.filter fun r=> !kW L r
def jm(rs:bu)(ps:bg)(L R:List Int)(er:Int)(iy:bu)(iY:bg):Prop:=
 (8<(fK L rs).length+1∧er=2∧iy=[]∧iY=[])∨
 ((fK L rs).length+1<=8∧∃e q,gO (fK L rs++[(L,R)]) (js (fK L rs).length) e q∧
   ((e≠0∧er=e∧iy=[]∧iY=[])∨(e=0∧40<(ps++fY L rs++q).length∧er=2∧iy=[]∧iY=[])∨(e=0∧(ps++fY L rs++q).length<=40∧er=0∧iy=fK L rs++[(L,R)]∧iY=ps++fY L rs++q)))
theorem sZ(b:List Int)(a:bu):(fK b a).length<=a.length:=ki _ _
theorem tq(b:List Int)(a:bu):(fY b a).length<=a.length:=ki _ _
theorem xK{L:List Int}(d:a<b.length):fK L (b.take (a+1))=fK L (b.take a)++(if kW L ((b[a]?.getD ([],[])).1,(b[a]?.getD ([],[])).2)=true then []else [((b[a]?.getD ([],[])).1,(b[a]?.getD ([],[])).2)]):=by
 unfold fK;rw[qn d,RU];congr 1;by_cases c:kW L ((b[a]?.getD ([],[])).1,(b[a]?.getD ([],[])).2)=true
 ·rw[aD c];simp[c]
 ·rw[aE c];simp[c]
theorem xU{L:List Int}(d:a<b.length):fY L (b.take (a+1))=fY L (b.take a)++(if kW L ((b[a]?.getD ([],[])).1,(b[a]?.getD ([],[])).2)=true then [((b[a]?.getD ([],[])).1,(b[a]?.getD ([],[])).2)]else []):=by
 unfold fY;rw[qn d,RU];congr 1;by_cases c:kW L ((b[a]?.getD ([],[])).1,(b[a]?.getD ([],[])).2)=true
 ·rw[aD c];simp[c]
 ·rw[aE c];simp[c]
structure tm(fl:Bool)(b n:Nat)(w:World)(lv:Value)(rs:bu)(aL aR:Option Addr)(cL cR:Nat)(L R:List Int)(ev OI:Value)(es ss:bg)(W:World):Prop where
 ne:dC fl 79 b b W ev es
 ns:dC fl 70 (n+1) b W OI ss
 nl:dC fl 70 b b W lv rs
 bx:eT W n 70 (.slice aL L.length cL) (.slice aR R.length cR)
 iL:fW fl b W aL L
 iR:fW fl b W aR R
 kp:Below b w W
theorem tm.below(k:tm e a f c g b j l o p q r h s t u d)(m:a<=c.heap.size)(i:Below d.heap.size d w):tm e a f c g b j l o p q r h s t u w:=
 ⟨k.ne.below i,k.ns.below i,k.nl.below i,k.bx.below i k.bx.lt,k.iL.below i,k.iR.below i,k.kp.trans (i.mono (aK m k.kp.size))⟩
theorem tm.pair(v:tm e a f w h b j l o p q r g y z u c)(x:c.grownBy d g.ownBlock)(I:Below a c d)(J:dC e 79 a a d s t):tm e a f w h b j l o p q r s y t u d:=by
 have k:∀A,g.ownBlock=some A->a<=A∧∃B,c.heap[A]?=some (.cells B 79 (0,0)):=fun A i=>⟨(v.ne.block i).1,(v.ne.block i).2.2⟩
 have F:∀{L:Value}{H:Nat}{G:bg},dC e 70 H a c L G->dC e 70 H a d L G:=fun E=>E.grown (e':=79) (by decide) x fun A i=>⟨(k A i).1,(k A i).2,fun C=>by
  obtain⟨_,_,B,m⟩:=E.block C;obtain⟨K,n⟩:=(k A i).2;rw[m]at n;simp only[dx,fU]at n;exact absurd n.2.1 (by decide)⟩
 refine⟨J,F v.ns,F v.nl,v.bx.kept x fun C=>?_,v.iL.grown (by decide) x k,v.iR.grown (by decide) x k,v.kp.trans I⟩;obtain⟨_,B,m⟩:=k f C.symm;have D:=v.bx;unfold eT at D;rw[D]at m;simp only[dx,fU]at m;exact absurd m.2.1 (by decide)
theorem tm.Lk(v:tm e f a w g b j l o p q r s h t z c)(H:f<=a)(F:∀k,g.ownBlock=some k->k<a)(A:c.grownBy d h.ownBlock)(C:Below (a+1) c d)(D:dC e 70 (a+1) f d y u):tm e f a w g b j l o p q r s y t u d:=by
 have m:∀k,h.ownBlock=some k->f<=k∧∃B,c.heap[k]?=some (.cells B 70 (0,0)):=fun k i=>⟨by have:=(v.ns.block i).1;omega,(v.ns.block i).2.2⟩
 refine⟨v.ne.grown (e':=70) (by decide) A fun k i=>⟨(m k i).1,(m k i).2,fun n=>?_⟩,D,v.nl.grown (e':=70) (by decide) A fun k i=>⟨(m k i).1,(m k i).2,fun n=>?_⟩,v.bx.kept A fun n=>?_,v.iL.grown (by decide) A m,v.iR.grown (by decide) A m,v.kp.trans (C.mono (by omega))⟩
 ·obtain⟨_,_,B,E⟩:=v.ne.block n
  obtain⟨G,x⟩:=(m k i).2;rw[E]at x;simp only[dx,fU]at x;exact absurd x.2.1 (by decide)
 ·have:=F k n
  have:=(v.ns.block i).1
  omega
 ·have:=(v.ns.block n.symm).1
  omega
theorem IK(w:Nat)(a:bu)(h:bg)(L B:List Int)(YA Yw:Value)(q u:Option Addr)(o r:Nat)(D:World)(c:w<=D.heap.size)(Yz:dC false 70 w w D YA a)(N:dC false 79 w w D Yw h)(Zf:fW false w D q L)(Zg:fW false w D u B)(Zv:Tm.err L=0)(YO:L.length<=o)(YP:o<=maxLen)(Y4:B.length<=r)(Y5:r<=maxLen)
  (YL:∀k,k<a.length->Tm.err (a[k]?.getD ([],[])).1=0)(ZY:a.length<=8)(ZH:h.length<=40):
  Calls Tryz.prog 139 #[YA,Yw,.agg #[.slice q L.length o,.slice u B.length r]] D fun Yv YU=>∃p t s v ZO,jm a h L B p t s∧Yv=.returned (.tuple #[v,ZO,.int .i64 p])∧dC false 70 w w YU v t∧dC false 79 w w YU ZO s∧Below w D YU:=by
 obtain⟨Yi,W⟩:∃Yi,D.alloc (.cells #[.slice q L.length o,.slice u B.length r] 70)=Yi:=⟨_,rfl⟩;have J:Below D.heap.size D Yi:=by rw[<-W];exact(ah _ _).alloc (af _) _
 have Y3:eT Yi D.heap.size 70 (.slice q L.length o) (.slice u B.length r):=by rw[<-W];exact eT.new D _ _ _
 have Zn:Hid (tm false w D.heap.size D YA a q u o r L B Yw (.slice none 0 0) (h++fY L (a.take 0)) (fK L (a.take 0)) Yi):=⟨by simpa [fY]using N.below J,by simpa [fK]using dC.nil _ _ _ _,Yz.below J,Y3,Zf.below J,Zg.below J,J.mono c⟩;have Yn:=hid (fun k(Zi:YA.ownBlock=some k)=>(Yz.block Zi).2.1);have Y0:=hid YL;have YY:=hid W;have ZJ:(h++fY L (a.take 0)).length<=1000:=by simp[fY];omega
 obtain⟨Zq,Zu,rfl⟩:=Yz.slice;obtain⟨Y2,Y6,R,rfl,ZK⟩:∃Y2 Y6 R,Yw=.slice Y2 R Y6∧R=h.length:=by
  obtain⟨ZP,ZR,YR⟩:=N.slice;exact⟨ZP,ZR,_,YR,rfl⟩
 have ZI:(a.length:Int)<=8:=by omega
 clear Yz N Zf Zg YL W Y3;go_enter Tryz.func139,Tryz.ntmps139;go_wp2_with fail;rw[YY.out];go_loopw [1,9,18](fun ZF ZG v wr=>∃k:Nat,k<=a.length∧v=.int .i64 (k:Int)∧Hid (tm false w D.heap.size D (.slice Zq a.length Zu) a q u o r L B ZF ZG (h++fY L (a.take k)) (fK L (a.take k)) wr))(fun _ _ v _=>a.length-(intOf v).toNat)
 case atStart=>exact⟨0,bf _,rfl,Zn⟩
 case round=>
  obtain⟨k,Zi,rfl,x⟩:=hrel;obtain⟨Z5,Z6,rfl⟩:=x.out.ne.slice;obtain⟨Z7,Z8,rfl⟩:=x.out.ns.slice;have ZM:D.heap.size+1<=wr.heap.size:=x.out.bx.lt;by_cases X:k<a.length
  ·have Zy:(k:Int)<(a.length:Int):=by omega
   obtain⟨Z9,ZU,e,g,i,j,Y8,ZZ,Y9,Za,Yx,Zb,Yy,YQ,Zc,Zd⟩:=x.out.nl.elem X;simp only[iS,Se]at Y8;obtain⟨rfl,rfl⟩:=Y8;rw[cI]at Y9 Za;have Zw:=Y0.out k X;have Y:=hid (xK (L:=L) X);have Z:=hid (show h++fY L (a.take (k+1))=(h++fY L (a.take k))++(if kW L ((a[k]?.getD ([],[])).1,(a[k]?.getD ([],[])).2)=true then [((a[k]?.getD ([],[])).1,(a[k]?.getD ([],[])).2)]else [])by rw[xU (L:=L) X,dE]);have Zj:(h++fY L (a.take k)).length<=48:=by have:=tq L (a.take k);rw[ai];rw[cX]at this;omega
   have Zk:(fK L (a.take k)).length<=8:=by have:=sZ L (a.take k);rw[cX]at this;omega
   have YK:Hid (kW L ((a[k]?.getD ([],[])).1,(a[k]?.getD ([],[])).2)=decide (0<(mf (a[k]?.getD ([],[])).1 L).length)):=rfl;generalize(a[k]?.getD ([],[])).1=G at*;generalize(a[k]?.getD ([],[])).2=H at*;generalize h++fY L (a.take k)=Q at*;generalize fK L (a.take k)=y at*;generalize kW L (G,H)=YB at*;obtain⟨Yj,M⟩:∃Yj,wr.alloc (.cells #[.slice e G.length g,.slice i H.length j] 70)=Yj:=⟨_,rfl⟩;have V:Below wr.heap.size wr Yj:=by rw[<-M];exact(ah _ _).alloc (af _) _
   have Yk:eT Yj wr.heap.size 70 (.slice e G.length g) (.slice i H.length j):=by rw[<-M];exact eT.new wr _ _ _
   have YZ:=hid M;have Yt:=hid (x.out.below c V);have YV:=Yk.cell0;have YW:=Yt.out.bx.cell0;have YM:=YV;have YN:=YW;rw[<-M]at YM YN;have Ye:=hid (Ok G L e q g o Yj (Yx.below V).ints Yt.out.iL.ints ⟨Yy,YQ,yh Yx.ints (dU Zw)⟩ ⟨YO,YP,yh x.out.iL.ints (dU Zv)⟩);generalize mf G L=Yr at*;clear M x;go_wp2_with fail;rw[YZ.out];go_wp2_with fail;refine Ye.out.mono ?_;rintro Yv b⟨Z2,rfl,YH,Yu⟩;obtain⟨Z4,ZV,rfl,_⟩:=cU.ints YH;have Yg:=hid (Yt.out.below c Yu);have YE:=Yk.below Yu Yk.lt;have Z0:=YE.cell0;have Z1:=YE.dh;have Zl:=hid ((Yx.below V).below Yu);have Zm:=hid ((Zb.below V).below Yu);have ZA:Hid (Yr.length=Yr.length):=rfl;clear Ye YH Yt YV YW YM YN Y9 Za Yx Zb;have Zz:D.heap.size+1<=b.heap.size:=Yg.out.bx.lt;have ZB:w<=b.heap.size:=by omega
   by_cases Yc:0<Yr.length
   ·have YT:(0:Int)<(Yr.length:Int):=by omega
    have Yo:Hid (YB=true):=by show YB=true;rw[YK.out];exact Rw Yc
    rw[Yo.out,aD rfl]at Y Z;have d:=hid (Yg.out.below c ((ah b.heap.size b).alloc (af _) (.cells #[.slice e G.length g,.slice i H.length j] 79)));have C:=(ah b.heap.size b).alloc (af _) (.cells #[.slice e G.length g,.slice i H.length j] 79);have f:=aM b (.cells #[.slice e G.length g,.slice i H.length j] 79);have E:=hid ((dp f 0).trans rfl:(b.alloc (.cells #[.slice e G.length g,.slice i H.length j] 79)).cell? ⟨b.heap.size,0,none⟩=some (.slice e G.length g));have F:=hid ((dp f 1).trans rfl:(b.alloc (.cells #[.slice e G.length g,.slice i H.length j] 79)).cell? ⟨b.heap.size,1,none⟩=some (.slice i H.length j));have Yp:=hid (Zl.out.below C);have Yq:=hid (Zm.out.below C);clear Yc f C;go_wp2_with(at_builtin;go_loud(refine Nq _ rfl _ _ rfl w w (af _) _ Q rfl d.out.ne b.heap.size e i G H g j rfl E.out F.out Yp.out Yq.out Yy YQ Zc Zd (by omega) (by simp;omega) ?_);intro YG YF U m n l)
    have A:=hid (d.out.pair n l m);clear m n l d Yg;go_roundw
    case rel=>exact⟨k+1,by omega,by go_num,by rw[Y.out,Z.out,cW];simpa [Hid]using A⟩
    case measure=>simp[intOf];omega
   ·have YT:¬(0:Int)<(Yr.length:Int):=by omega
    have Yo:Hid (YB=false):=by show YB=false;rw[YK.out];exact Rr Yc
    rw[Yo.out,aE (by simp)]at Y Z;have d:=hid (Yg.out.below c ((ah b.heap.size b).alloc (af _) (.cells #[.slice e G.length g,.slice i H.length j] 70)));have C:=(ah b.heap.size b).alloc (af _) (.cells #[.slice e G.length g,.slice i H.length j] 70);have f:=aM b (.cells #[.slice e G.length g,.slice i H.length j] 70);have E:=hid ((dp f 0).trans rfl:(b.alloc (.cells #[.slice e G.length g,.slice i H.length j] 70)).cell? ⟨b.heap.size,0,none⟩=some (.slice e G.length g));have F:=hid ((dp f 1).trans rfl:(b.alloc (.cells #[.slice e G.length g,.slice i H.length j] 70)).cell? ⟨b.heap.size,1,none⟩=some (.slice i H.length j));have Yp:=hid (Zl.out.below C);have Yq:=hid (Zm.out.below C);clear Yc f C;go_wp2_with(at_builtin;go_loud(refine uv _ rfl _ _ rfl (D.heap.size+1) w (by omega) _ y rfl d.out.ns b.heap.size e i G H g j rfl E.out F.out Yp.out Yq.out Yy YQ Zc Zd (by omega) (by simp;omega) ?_);intro YG YF U m n l)
    have A:=hid (d.out.Lk c Yn.out n l m);clear m n l d Yg;go_roundw
    case rel=>exact⟨k+1,by omega,by go_num,by rw[Y.out,Z.out,cW];simpa [Hid]using A⟩
    case measure=>simp[intOf];omega
  ·obtain rfl:k=a.length:=by omega
   rw[cJ]at x;have S:Hid (∀p t s,((8<(fK L a).length+1∧p=2∧t=[]∧s=[])∨
 ((fK L a).length+1<=8∧∃Yv T,gO (fK L a++[(L,B)]) (js (fK L a).length) Yv T∧
  ((Yv≠0∧p=Yv∧t=[]∧s=[])∨(Yv=0∧40<(h++fY L a++T).length∧p=2∧t=[]∧s=[])∨(Yv=0∧(h++fY L a++T).length<=40∧p=0∧t=fK L a++[(L,B)]∧s=h++fY L a++T))))->jm a h L B p t s):=fun p t s YR=>YR
   have Zj:(h++fY L a).length<=48:=by have:=tq L a;rw[ai];omega
   have Zk:(fK L a).length<=8:=by have:=sZ L a;omega
   rw[cJ];generalize h++fY L a=Q at*;generalize fK L a=y at*;have YV:=x.out.bx.cell0;have YW:=x.out.bx.dh;have C:=(ah wr.heap.size wr).alloc (af _) (.cells #[.slice q L.length o,.slice u B.length r] 70);have d:=hid (x.out.below c C);have f:=aM wr (.cells #[.slice q L.length o,.slice u B.length r] 70);have E:=hid ((dp f 0).trans rfl:(wr.alloc (.cells #[.slice q L.length o,.slice u B.length r] 70)).cell? ⟨wr.heap.size,0,none⟩=some (.slice q L.length o));have F:=hid ((dp f 1).trans rfl:(wr.alloc (.cells #[.slice q L.length o,.slice u B.length r] 70)).cell? ⟨wr.heap.size,1,none⟩=some (.slice u B.length r));clear f C x;by_cases Zx:8<y.length+1
   ·have Ze:(8:Int)<(y.length:Int)+1:=by omega
    go_wp2_with(at_builtin;go_loud(refine uv _ rfl _ _ rfl (D.heap.size+1) w (by omega) _ y rfl d.out.ns wr.heap.size q u L B o r rfl E.out F.out d.out.iL d.out.iR YO YP Y4 Y5 (by omega) (by simp;omega) ?_);intro YG YF U m n l)
    have A:=hid (d.out.Lk c Yn.out n l m);go_ret3
    exact⟨2,[],[],_,_,S.out _ _ _ (.inl ⟨Zx,rfl,rfl,rfl⟩),rfl,dC.nil _ _ _ _,dC.nil _ _ _ _,A.out.kp⟩
   ·have Ze:¬(8:Int)<(y.length:Int)+1:=by omega
    go_wp2_with(first
     |(at_builtin;go_loud(refine uv _ rfl _ _ rfl (D.heap.size+1) w (by omega) _ y rfl d.out.ns wr.heap.size q u L B o r rfl E.out F.out d.out.iL d.out.iR YO YP Y4 Y5 (by omega) (by simp;omega) ?_);intro Yy ZS U m n l;have A:=hid (d.out.Lk c Yn.out n l m);clear m n l)
     |(go_at_call 168;fail))
    have Zh:w<=U.heap.size:=aK c A.out.kp.size;obtain⟨Zo,Zs,Y7,YI,_⟩:=A.out.ns.at;have Ye:=J6 w (y++[(L,B)]) Zo Zs U Zh YI (by simp) (by simp;omega);rw[<-Y7,show(y++[(L,B)]).length-1=y.length by simp]at Ye;have YX:=hid Ye;clear Ye Y7 YI;refine YX.out.mono ?_;rintro Yv ZD⟨p,T,Z3,P,rfl,Ym,Zr⟩;have Yd:=hid (A.out.below c Zr);obtain⟨ZQ,ZT,rfl⟩:=Ym.slice;have YC:=hid Ym;clear YX Ym A d;by_cases N:p=0
    ·subst N
     have ZN:T.length<=1000:=by
      rcases P with⟨_,YR⟩|⟨YR,_⟩
      ·have ZW:=YR.len;have ZX:=oY y.length;omega
      ·exact absurd rfl YR
     have YD:=hid P;have YJ:w<=ZD.heap.size:=aK c Yd.out.kp.size;clear P;by_cases I:40<(Q++T).length
     ·have YS:(40:Int)<(Q.length:Int)+(T.length:Int):=by rw[ai]at I;omega
      have Yf:=hid (S.out 2 [] [] (.inr ⟨by omega,0,T,YD.out,.inr (.inl ⟨rfl,I,rfl,rfl,rfl⟩)⟩));clear I S;go_wp2_with(at_builtin;go_loud(refine qu _ rfl _ _ rfl w w (af _) _ Q rfl Yd.out.ne _ T rfl U.heap.size YC.out (by omega) YJ ?_);intro ZC ZE z O K;have Yh:=hid (Yd.out.pair O K z);obtain⟨Zp,Zt,Yl⟩:=z.slice;rw[ai]at Yl;subst Yl;clear z O K)
      go_ret3
      exact⟨2,[],[],_,_,Yf.out,rfl,dC.nil _ _ _ _,dC.nil _ _ _ _,Yh.out.kp⟩
     ·have YS:¬(40:Int)<(Q.length:Int)+(T.length:Int):=by rw[ai]at I;omega
      have Yf:=hid (S.out 0 (y++[(L,B)]) (Q++T) (.inr ⟨by omega,0,T,YD.out,.inr (.inr ⟨rfl,by omega,rfl,rfl,rfl⟩)⟩));clear I S;go_wp2_with(at_builtin;go_loud(refine qu _ rfl _ _ rfl w w (af _) _ Q rfl Yd.out.ne _ T rfl U.heap.size YC.out (by omega) YJ ?_);intro ZC ZE z O K;have Yh:=hid (Yd.out.pair O K z);obtain⟨Zp,Zt,Yl⟩:=z.slice;rw[ai]at Yl;subst Yl;clear z O K)
      go_ret3
      exact⟨0,_,_,_,_,Yf.out,rfl,Yh.out.ns.mono (by omega),Yh.out.ne,Yh.out.kp⟩
    ·have ZL:(p !=0)=true:=by simpa using N
     have Yf:=hid (S.out p [] [] (.inr ⟨by omega,p,T,P,.inl ⟨N,rfl,rfl,rfl⟩⟩));clear N S P;go_wp2;go_ret3
     exact⟨p,[],[],_,_,Yf.out,rfl,dC.nil _ _ _ _,dC.nil _ _ _ _,Yd.out.kp⟩
section
section
variable{L1 R1 L2 R2:List Int}{pass:Nat->Bool}
theorem gl.at{k:Nat}{f:bg}(b:gl L1 R1 L2 R2 pass k f):∀m,m<k->∃j,gl L1 R1 L2 R2 pass m j∧(pass m=true∨(∃val,fs [(cD L1 m,L2)] 0 false val)∨(∃val,fs [(cD L1 m,L2)] 0 true val∧gA val L1 R1 (m:Int) R2=0)):=by
 induction b with
 |zero=>intro m c;omega
 |@pass h f b d a=>
  intro m c;by_cases g:m=h
  ·subst g;exact⟨f,b,.inl d⟩
  ·exact a m (by omega)
 |@no h f val b d e a=>
  intro m c;by_cases g:m=h
  ·subst g;exact⟨f,b,.inr (.inl ⟨val,e⟩)⟩
  ·exact a m (by omega)
 |@yes h f val b d e i a=>
  intro m c;by_cases g:m=h
  ·subst g;exact⟨f,b,.inr (.inr ⟨val,e,i⟩)⟩
  ·exact a m (by omega)
theorem gl.one{k:Nat}{j h:bg}(i:gl L1 R1 L2 R2 pass k j)(f:gl L1 R1 L2 R2 pass k h):j=h:=by
 induction i generalizing h with
 |zero=>cases f;rfl
 |pass i c e=>
  cases f with
  |pass d _=>exact e d
  |no _ a _=>rw[c]at a;cases a
  |yes _ a _ _=>rw[c]at a;cases a
 |no i c g e=>
  cases f with
  |pass _ a=>rw[c]at a;cases a
  |no d _ _=>exact e d
  |yes _ _ b _=>have:=(g.one b).2.1;cases this
 |yes i c g l e=>
  cases f with
  |pass _ a=>rw[c]at a;cases a
  |no _ _ b=>have:=(g.one b).2.1;cases this
  |yes d _ b _=>
   obtain⟨_,_,rfl⟩:=g.one b;rw[e d]
theorem kr.right{q e:bg}{n:Int}(o:gl L1 R1 L2 R2 pass L1.length q)(g:kr L1 R1 L2 R2 pass n e):n=0∧e=q:=by
 rcases g with⟨rfl,h⟩|⟨⟨c,s,r,i,p,j,a⟩,rfl⟩
 ·exact⟨rfl,h.one o⟩
 ·obtain⟨_,_,b|⟨f,b⟩|⟨f,b,l⟩⟩:=o.at s i
  ·rw[j]at b;cases b
  ·rcases a with⟨k,m,a⟩|⟨m,a,_⟩
   ·exact absurd (b.one a).1.symm c
   ·have:=(b.one a).2.1;cases this
  ·rcases a with⟨k,m,a⟩|⟨m,a,d⟩
   ·exact absurd (b.one a).1.symm c
   ·obtain⟨_,_,rfl⟩:=b.one a
    rw[l]at d;exact absurd d.symm c
end
theorem fi.right{a:bu}{b c:Nat}{m d:bg}{l:Int}(k:cm a=0)(q:b<a.length)(r:c<a.length)(p:gl (a[b]?.getD ([],[])).1 (a[b]?.getD ([],[])).2 (bw (a[c]?.getD ([],[])).1) (bw (a[c]?.getD ([],[])).2) (gH (a[b]?.getD ([],[])).1 (b:Int) (c:Int)) (a[b]?.getD ([],[])).1.length m)(g:fi a (b:Int) (c:Int) l d):l=0∧d=m:=by
 rcases g with⟨h,_⟩|⟨_,i,_⟩|⟨_,e,f,_,_,n,o,j⟩
 ·exact absurd k h
 ·exact absurd ⟨by omega,by omega,by omega,by omega⟩ i
 ·obtain rfl:b=e:=by omega
  obtain rfl:c=f:=by omega
  exact j.right p
def qV:List Int->List Int->Bool
 |s::x,t::y=>if s<0∨t<0 then false else if s=t then qV x y else true
 |_,_=>false
theorem Ic(i:Wb.Sb):∀(x c:List Int),qV x c=true->Wb.App i x≠Wb.App i c:=by
 intro x;induction x with
 |nil=>intro c a;simp[qV]at a
 |cons g x e=>
  intro c a;cases c with
  |nil=>simp[qV]at a
  |cons h c=>
   rw[qV]at a;by_cases d:g<0∨h<0
   ·rw[aD d]at a;cases a
   ·rw[aE d]at a
    rw[Wb.jo,Wb.jo,aE (by omega),aE (by omega),gz,gz];by_cases f:g=h
    ·rw[aD f]at a
     intro b;exact e c a (RD b).2
    ·intro b
     exact f (RD b).1
theorem OD{a b:List Int}(e:du [(a,b)]=0)(c:qV a b=true):fs [(a,b)] 0 false []:=
 .inr (.inl ⟨e,fun f _ d=>Ic f a b c (d 0 (by simp)),rfl,rfl,rfl⟩)
def z8(vs:List (List Int)):Bool:=(List.range 8).all fun i:Nat=>(vs[i]?.getD []).length !=1||decide (0<=(vs[i]?.getD []).headD 0)||decide (-1-(i:Int)<=(vs[i]?.getD []).headD 0)
theorem NH{d:bg}{b:List (List Int)}(f:e7 b=0)(o:Wb.xE d d.length (sw b))(j:z8 b=true)(n:∀m,Wb.jJ m->Wb.xE d d.length m->∀i:Nat,i<8->m (-1-(i:Int))=Wb.App m (b[i]?.getD [])):Wb.Lr d (sw b):=by
 have t:=(jx f).1;have g:∀e:Int,-8<=e->e<0->∃i:Nat,i<8∧e= -1-(i:Int):=fun e k l=>⟨(-1-e).toNat,by omega,by omega⟩
 refine⟨Ik f,fun e k l r c=>?_,o,fun m p s e k l=>?_,fun e v k l q u=>?_⟩
 ·obtain⟨i,a,rfl⟩:=g e k l
  rw[uo b a]at c;have h:=fw (j6 (jx f).2 i (by omega));rw[dD]at h;exact⟨j7 (h r c),iC (h r c)⟩
 ·obtain⟨i,a,rfl⟩:=g e k l
  rw[uo b a];exact n m p s i a
 ·obtain⟨i,a,rfl⟩:=g e k l
  rw[uo b a]at q;unfold z8 at j;rw[dD]at j;have:=j i (Rd.2 a)
  rw[q]at this;simp at this;omega
theorem LG{a:bg}{b:List (List Int)}(d:du a=0)(c:e7 b=0)(g:Wb.Lr a (sw b)):fs a 0 true b:=by
 have e:=(jx c).1;refine .inr (.inr (.inl ⟨d,_,g,fun h f=>?_,rfl,rfl,(Kq e).symm⟩));rw[uo _ f];exact cK (j6 (jx c).2 h (by omega))
theorem gl.clash{L1 R1 L2 R2:List Int}{pass:Nat->Bool}{b:Nat}{g:bg}(f:gl L1 R1 L2 R2 pass b g)(e:pass b=true∨(pass b=false∧du [(cD L1 b,L2)]=0∧qV (cD L1 b) L2=true)):gl L1 R1 L2 R2 pass (b+1) g:=by
 rcases e with a|⟨a,c,d⟩
 ·exact .pass f a
 ·exact .no f a (OD c d)
def qM(L1 L2:List Int)(pass:Nat->Bool)(Lf upto:Nat):Bool:=(List.range (upto-Lf)).all fun k=>pass (Lf+k)||(decide (du [(cD L1 (Lf+k),L2)]=0)&&qV (cD L1 (Lf+k)) L2)
theorem gl.run{L1 R1 L2 R2:List Int}{pass:Nat->Bool}{d:Nat}{f:bg}(g:gl L1 R1 L2 R2 pass d f):∀n,qM L1 L2 pass d (d+n)=true->gl L1 R1 L2 R2 pass (d+n) f:=by
 intro n;induction n with
 |zero=>intro _;exact g
 |succ n c=>
  intro b;unfold qM at b c;rw[mD]at b c;rw[Rv,ru,dW]at b;refine(c b.1).clash ?_;have a:=b.2;simp at a;cases e:pass (d+n)with
  |true=>exact .inl rfl
  |false=>
   rw[e]at a;simp at a;exact .inr ⟨rfl,a.1,a.2⟩
end
