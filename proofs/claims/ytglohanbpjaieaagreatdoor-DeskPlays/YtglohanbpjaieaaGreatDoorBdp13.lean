/-
  Parts of the proof.
-/
import Derived.Test.YtglohanbpjaieaaGreatDoorBdp12
import Derived.Test.YtglohanbpjaieaaGreatDoorBdp8
set_option maxHeartbeats 30000000
set_option maxRecDepth 100000
namespace Go.Proofs.YtglohanbpjaieaaGreatDoor
open Go.Proofs Go.RowKit Go.Shelf Go.Maps
variable {A:Prop}{C:Func}{G H:Bool}{J:Ending}{K:List (Nat×Nat)}{M:Bool->Act}{a n u N O:Nat}{b f o B:List Int}{d w:World}{e I:List (List Int)}{h F:Int}{l:Nat->Nat}{m E:Wb.Sb}{q D:Value}{r:Option Addr}{s:Array Value}{y:Act}{z:_}
def gA(ss:List (List Int))(L1 R1:List Int)(k:Int)(R2:List Int):Int:=if gZ L1 k R2=0 then(if dH ss (gj L1 k R2)=0 then dH ss R1 else dH ss (gj L1 k R2))else gZ L1 k R2
def gY(ss:List (List Int))(L1 R1:List Int)(k:Int)(R2:List Int):List Int×List Int:=if gA ss L1 R1 k R2=0 then(dN (eJ ss (gj L1 k R2)),gD (eJ ss (gj L1 k R2)) (eJ ss R1))else([],[])
theorem vF(c:dH e b=0):Tm.err (eJ e b)=0:=by
 by_cases a:e7 e=0
 ·by_cases d:Tm.err b=0
  ·unfold eJ
   rw[aD c];unfold dH at c;rw[aD a,aD d]at c;by_cases f:30<(bo e b).length
   ·rw[aD f]at c;omega
   ·exact nE (qO.of a) d (by omega)
  ·unfold dH at c
   rw[aD a,aE d]at c;exact absurd c d
 ·unfold dH at c
  rw[aE a]at c;exact absurd c a
theorem rN(f:C.results=#[.cell a 79,.tmp u])(e:s.getD a undef=.pointer (some ⟨n,0,none⟩))(c:eT d n 79 q D):(results C s).run Tryz.prog d=.ok (.tuple #[.agg #[q,D],s.getD u undef]) d:=by
 have b:s[a]?.getD undef=.pointer (some ⟨n,0,none⟩):=by rw[<-e];simp
 simp only[results,f];simp[go_sem,b,c.cell0,c.dh]
def QU(n:Nat)(W:World)(e:Exit)(b:Act)(w4:World):Prop:=e=.normal∧b.tmps.getD 8 undef=.pointer (some ⟨n,0,none⟩)∧b.tmps.getD 9 undef=.int .i64 0∧b.defers=[]∧w4=W.drew
theorem QU.panic(b:QU a d (.panic z) y w):A:=by
 cases b.1
theorem il.two{base:Nat}(r:il base d q [b,f]):∃g a u0 u1,q=.slice (some ⟨g,0,none⟩) 2 a∧base<=g∧d.cell? ⟨g,0,none⟩=some u0∧d.cell? ⟨g,1,none⟩=some u1∧cU base d u0 b∧cU base d u1 f:=by
 obtain⟨t,e,h⟩:=r;obtain⟨u0,i,n⟩:=h 0 (by simp);obtain⟨u1,j,o⟩:=h 1 (by simp);rcases e.2 with⟨rfl,m⟩|⟨g,a,p,rfl,k,u⟩
 ·simp at m
 ·have c:=fun s l=>dI e s l
  exact⟨g,a,u0,u1,rfl,k,by rw[c 0 (by simp),i],by rw[c 1 (by simp),j],n,o⟩
theorem JM(e:List (List Int))(a f b:List Int)(t:Int)(T g YC r YI:Option Addr)(R Yf YG YF Yq YX:Nat)(d:World)(YM:cZ d.heap.size d T a)(YO:cZ d.heap.size d g f)(YP:cZ d.heap.size d r b)(Y0:np d.heap.size d YI e)(YJ:a.length<=R)(Zb:R<=maxLen):
 Calls Tryz.prog 202 #[.agg #[.slice T a.length R,.slice g f.length Yf],.agg #[.slice YC YG YF,.slice r b.length Yq],.int .i64 t,.slice YI e.length YX] d fun YA Y5=>∃v Zv,YA=.returned (.tuple #[.agg #[v,Zv],.int .i64 (gA e a f t b)])∧cU d.heap.size Y5 v (gY e a f t b).1∧cU d.heap.size Y5 Zv (gY e a f t b).2∧Below d.heap.size d Y5:=by
 obtain⟨y,J⟩:∃y,((d.alloc (.cells #[.slice T a.length R,.slice g f.length Yf] 70)).alloc (.cells #[.slice YC YG YF,.slice r b.length Yq] 70)).alloc (.cells #[.slice none 0 0,.slice none 0 0] 79)=y:=⟨_,rfl⟩;have Zq:y.heap.size=d.heap.size+3:=by rw[<-J];simp
 have l:Below d.heap.size d y:=by rw[<-J];exact(((ah _ d).alloc (af _) _).alloc (by simp) _).alloc (by simp;omega) _
 have YE:eT y d.heap.size 70 (.slice T a.length R) (.slice g f.length Yf):=by rw[<-J];exact((eT.new d 70 _ _).alloc _).alloc _
 have YL:eT y (d.heap.size+1) 70 (.slice YC YG YF) (.slice r b.length Yq):=by
  rw[<-J];have X:=eT.new (d.alloc (.cells #[.slice T a.length R,.slice g f.length Yf] 70)) 70 (.slice YC YG YF) (.slice r b.length Yq);rw[bI]at X;exact X.alloc _
 have YV:eT y (d.heap.size+1+1) 79 (.slice none 0 0) (.slice none 0 0):=by
  rw[<-J];have X:=eT.new ((d.alloc (.cells #[.slice T a.length R,.slice g f.length Yf] 70)).alloc (.cells #[.slice YC YG YF,.slice r b.length Yq] 70)) 79 (.slice none 0 0) (.slice none 0 0);simpa only[bI]using X
 have B:Hid (∀S,Below y.heap.size y S->eT S d.heap.size 70 (.slice T a.length R) (.slice g f.length Yf)∧eT S (d.heap.size+1+1) 79 (.slice none 0 0) (.slice none 0 0)):=fun S s=>⟨YE.below s YE.lt,YV.below s YV.lt⟩
 have Zr:=YE.cell0;have Zs:=YE.dh;have Zt:=YL.dh;have P:=hid (Aw a b T r R Yq t y ((YM.below l).mono l.size) ((YP.below l).mono l.size) YJ Zb);have Z:=hid (fun S(s:Below y.heap.size y S)(Zu:List Int)YQ YW(Yh:cZ S.heap.size S YQ Zu)=>z7 e Zu YI YQ YX YW S (((((Y0.below l).mono l.size).below s).mono s.size)) Yh);have Yc:=hid (fun S(s:Below y.heap.size y S)=>z7 e f YI g YX Yf S (((((Y0.below l).mono l.size).below s).mono s.size)) ((((YO.below l).mono l.size).below s).mono s.size));have YK:Tryz.prog.follows .mixedOrders=true:=by kernel_rfl
 have Yn:=hid J;have w:=hid l;clear J YM YO YP Y0 YJ Zb YE YL YV l;by_cases o:gZ a t b=0
 ·rw[o]at P
  by_cases q:dH e (gj a t b)=0
  ·by_cases K:dH e f=0
   ·have H:Hid (gA e a f t b=0):=by show _=_;unfold gA;rw[aD o,aD q,K]
    have I:Hid (gY e a f t b=(dN (eJ e (gj a t b)),gD (eJ e (gj a t b)) (eJ e f))):=by show _=_;unfold gY;rw[aD H.out]
    have YY:=hid (vF q);have YZ:=hid (vF K);have u:=hid (fun S s YQ YW Yh=>Z.out S s (gj a t b) YQ YW Yh);rw[q]at u;rw[K]at Yc;clear o q K Z;generalize eJ e (gj a t b)=YB at*;generalize eJ e f=YU at*;generalize gj a t b=Zj at*;go_enter Tryz.func202,Tryz.ntmps202;go_wp2_with fail;rw[Yn.out];refine P.out.mono ?_;rintro YA L⟨Y4,rfl,n,g⟩;obtain⟨Yx,Yr,rfl,x,_⟩:=cU.ints n;have c:=B.out L g;have N:=c.1.cell0;have O:=c.1.dh;have C:=c.2.cell0;have m:=c.2.dh;have z:=c.2.frozen 0;have A:=c.2.frozen 1;have k:=(c.2.ld (.slice none 0 0)).dh;have j:=(c.2.ld (.slice none 0 0)).frozen 1;clear P n;go_wp2_with fail;refine(u.out L g Yx Yr x).mono ?_;rintro YA Yl⟨Zf,rfl,E,r⟩;obtain⟨Ym,Yg,rfl,M,_⟩:=cU.ints E;have D:=g.trans (r.mono g.size);have F:=B.out Yl D;clear u x E r N O C m z A k j;have m:=F.1.dh;go_wp2_with fail;refine(Yc.out Yl D).mono ?_;rintro YA G⟨Zo,rfl,V,Ye⟩;obtain⟨Yy,Yt,rfl,Yo,_⟩:=cU.ints V;have Y:=D.trans (Ye.mono D.size);have Y8:=(M.below Ye).mono Ye.size;have Yu:Below G.heap.size G (G.alloc (.cells #[.slice Ym YB.length Yg,.slice Yy YU.length Yt] 68)):=(ah _ _).alloc (af _) _;have YD:=aM G (.cells #[.slice Ym YB.length Yg,.slice Yy YU.length Yt] 68);have Zy:=cK YY.out;have Zz:=cK YZ.out;have Y6:=hid (DR YB YU Ym Yy Yg Yt G.heap.size (G.alloc (.cells #[.slice Ym YB.length Yg,.slice Yy YU.length Yt] 68)) (by omega) (by omega) (lT YY.out) (xB YY.out) (lT YZ.out) (xB YZ.out) ((dp YD 0).trans rfl) ((dp YD 1).trans rfl) ((Y8.below Yu).mono Yu.size) ((Yo.below Yu).mono Yu.size));have YS:=Y.trans (Yu.mono Y.size);have YT:=hid Y;clear Yc M V Ye Y8 Yo YD D F m Y Yu;go_wp2_with fail;refine Y6.out.mono ?_;rintro YA YH⟨ZA,rfl,YN,Y9⟩;obtain⟨Zg,Za,u0,u1,rfl,Zw,ZC,ZD,Y2,Y3⟩:=il.two YN;obtain⟨W,U,rfl,_⟩:=cU.ints Y2;obtain⟨Yz,Yp,rfl,_⟩:=cU.ints Y3;have YR:=YS.trans (Y9.mono YS.size);have Zl:G.heap.size<=(G.alloc (.cells #[.slice Ym YB.length Yg,.slice Yy YU.length Yt] 68)).heap.size:=by simp
    have Yk:=B.out YH YR;have Zp:d.heap.size+1+1<G.heap.size:=by have:=YT.out.size;omega
    have C:=Yk.2.cell0;have m:=Yk.2.dh;have z:=Yk.2.frozen 0;have A:=Yk.2.frozen 1;have k:=(Yk.2.ld (.slice W (dN YB).length U)).dh;have j:=(Yk.2.ld (.slice W (dN YB).length U)).frozen 1;have Zh:=hid Y2;have Zi:=hid Y3;have Y7:=hid YR;clear Y6 YN Y9 YS Y2 Y3 YR;generalize dN YB=Yv at*;generalize gD YB YU=Yw at*;go_wp2_with fail;refine wp_mono (Q:=QU (d.heap.size+1+1) ((YH.setCell ⟨d.heap.size+1+1,0,none⟩ (.slice W Yv.length U)).setCell ⟨d.heap.size+1+1,1,none⟩ (.slice Yz Yw.length Yp))) ?reg ?aft
    case reg=>
     refine wp_region_any YK ?_;change wpAny _ _ _ _ _ _ _ (World.drew _);show wpAny _ _ _ _ 9 (Array.replicate 9 false) _ _;refine Rp (i:=0) (v:=.slice (some ⟨Zg,0,none⟩) 2 Za) rfl (by kernel_rfl) (by kernel_rfl) (by kernel_rfl) (fun _ _ _ X=>X.panic) (Or.inl ⟨by rfl,fun d=>by go_simp⟩) ?_;refine Rp (i:=3) (v:=.slice (some ⟨Zg,0,none⟩) 2 Za) rfl (by kernel_rfl) (by kernel_rfl) (by kernel_rfl) (fun _ _ _ X=>X.panic) (Or.inl ⟨by rfl,fun d=>by go_simp⟩) ?_;refine Rp (i:=1) (v:=.pointer (some ⟨Zg,0,none⟩)) rfl (by kernel_rfl) (by kernel_rfl) (by kernel_rfl) (fun _ _ _ X=>X.panic) (Or.inl ⟨by rfl,fun d=>by go_simp⟩) ?_;refine Rp (i:=4) (v:=.pointer (some ⟨Zg,1,none⟩)) rfl (by kernel_rfl) (by kernel_rfl) (by kernel_rfl) (fun _ _ _ X=>X.panic) (Or.inl ⟨by rfl,fun d=>by go_simp⟩) ?_;refine Ri (rs:=[2,5]) (by kernel_rfl) (by simp) ?_;refine Rf rfl (fun Yd h=>?_) (Rf rfl (fun Yd h=>?_) Rh)
     ·go_simp
      refine h _ _ ?_;clear h Yd;refine Ri (rs:=[5]) (by kernel_rfl) (by simp) ?_;refine Rf rfl (fun Yd h=>?_) Rh;go_simp;refine h _ _ ?_;clear h Yd;refine Rp (i:=6) (v:=.agg #[.slice W Yv.length U,.slice Yz Yw.length Yp]) rfl (by kernel_rfl) (by kernel_rfl) (by kernel_rfl) (fun _ _ _ X=>X.panic) (Or.inl ⟨by rfl,fun d=>by go_simp⟩) ?_;refine Ri (rs:=[7]) (by kernel_rfl) (by simp) ?_;refine Rf rfl (fun Yd h=>?_) Rh;go_simp;refine h _ _ ?_;clear h Yd;refine Ri (rs:=[8]) (by kernel_rfl) (by simp) ?_;refine Rf rfl (fun Yd h=>?_) Rh;go_simp;refine h _ _ ?_;clear h Yd;refine RM (by kernel_rfl) ?_ _;exact⟨rfl,rfl,rfl,rfl,rfl⟩
     ·go_simp
      refine h _ _ ?_;clear h Yd;refine Ri (rs:=[2]) (by kernel_rfl) (by simp) ?_;refine Rf rfl (fun Yd h=>?_) Rh;go_simp;refine h _ _ ?_;clear h Yd;refine Rp (i:=6) (v:=.agg #[.slice W Yv.length U,.slice Yz Yw.length Yp]) rfl (by kernel_rfl) (by kernel_rfl) (by kernel_rfl) (fun _ _ _ X=>X.panic) (Or.inl ⟨by rfl,fun d=>by go_simp⟩) ?_;refine Ri (rs:=[7]) (by kernel_rfl) (by simp) ?_;refine Rf rfl (fun Yd h=>?_) Rh;go_simp;refine h _ _ ?_;clear h Yd;refine Ri (rs:=[8]) (by kernel_rfl) (by simp) ?_;refine Rf rfl (fun Yd h=>?_) Rh;go_simp;refine h _ _ ?_;clear h Yd;refine RM (by kernel_rfl) ?_ _;exact⟨rfl,rfl,rfl,rfl,rfl⟩
    case aft=>
     rintro YA ZE ZB⟨rfl,Zm,Zn,Zk,rfl⟩;go_wp2;(try simp only[Exit.inBlock,Exit.then])
     have Zd:∀Yi,G.heap.size<=Yi->((YH.setCell ⟨d.heap.size+1+1,0,none⟩ (.slice W Yv.length U)).setCell ⟨d.heap.size+1+1,1,none⟩ (.slice Yz Yw.length Yp)).heap[Yi]?=YH.heap[Yi]?:=fun Yi Zx=>(aT _ _ _ Yi (show Yi≠d.heap.size+1+1 by omega)).trans (aT _ _ _ Yi (show Yi≠d.heap.size+1+1 by omega))
     have Zc:eT (World.drew ((YH.setCell ⟨d.heap.size+1+1,0,none⟩ (.slice W Yv.length U)).setCell ⟨d.heap.size+1+1,1,none⟩ (.slice Yz Yw.length Yp))) (d.heap.size+1+1) 79 (.slice W Yv.length U) (.slice Yz Yw.length Yp):=(Yk.2.ld _).A0 _;refine fI (rN rfl Zm Zc) Zk ?_;refine⟨_,_,by rw[H.out,Zn],by rw[I.out];exact cU.drewN ((Zh.out.KH (fun Yi YJ _=>Zd Yi (by omega))).mono (by have:=w.out.size;omega)) 1,by rw[I.out];exact cU.drewN ((Zi.out.KH (fun Yi YJ _=>Zd Yi (by omega))).mono (by have:=w.out.size;omega)) 1,?_⟩;exact bD (((w.out.trans (Y7.out.mono w.out.size)).setCell (p:=⟨d.heap.size+1+1,0,none⟩) (by show d.heap.size<=d.heap.size+1+1;omega) _).setCell (p:=⟨d.heap.size+1+1,1,none⟩) (by show d.heap.size<=d.heap.size+1+1;omega) _) 1
   ·have H:Hid (gA e a f t b=dH e f):=by show _=_;unfold gA;rw[aD o,aD q]
    have I:Hid (gY e a f t b=([],[])):=by show _=_;unfold gY;rw[aE (by rw[H.out];exact K)]
    have Ze:(dH e f !=0)=true:=by simpa using K
    have u:=hid (fun S s YQ YW Yh=>Z.out S s (gj a t b) YQ YW Yh);rw[q]at u;clear o q K Z;generalize dH e f=Yi at*;generalize eJ e f=YU at*;generalize eJ e (gj a t b)=YB at*;generalize gj a t b=Zj at*;go_enter Tryz.func202,Tryz.ntmps202;go_wp2_with fail;rw[Yn.out];refine P.out.mono ?_;rintro YA L⟨Y4,rfl,n,g⟩;obtain⟨Yx,Yr,rfl,x,_⟩:=cU.ints n;have c:=B.out L g;have N:=c.1.cell0;have O:=c.1.dh;have C:=c.2.cell0;have m:=c.2.dh;have z:=c.2.frozen 0;have A:=c.2.frozen 1;have k:=(c.2.ld (.slice none 0 0)).dh;have j:=(c.2.ld (.slice none 0 0)).frozen 1;clear P n;go_wp2_with fail;refine(u.out L g Yx Yr x).mono ?_;rintro YA Yl⟨Zf,rfl,E,r⟩;obtain⟨Ym,Yg,rfl,M,_⟩:=cU.ints E;have D:=g.trans (r.mono g.size);have F:=B.out Yl D;clear u x E M r N O C m z A k j;have m:=F.1.dh;go_wp2_with fail;refine(Yc.out Yl D).mono ?_;rintro YA G⟨Zo,rfl,V,Ye⟩;obtain⟨Yy,Yt,rfl,Yo,_⟩:=cU.ints V;have Y:=D.trans (Ye.mono D.size);have Yj:=B.out G Y;have C:=Yj.2.cell0;have m:=Yj.2.dh;have z:=Yj.2.frozen 0;have A:=Yj.2.frozen 1;have k:=(Yj.2.ld (.slice none 0 0)).dh;have j:=(Yj.2.ld (.slice none 0 0)).frozen 1;clear Yc V Yo Ye;go_wp2;(try simp only[Exit.inBlock,Exit.then])
    refine fI (rN rfl rfl ((Yj.2.ld _).A0 _)) rfl ?_;exact⟨_,_,by rw[H.out];rfl,by rw[I.out];exact cU.nil _ _,by rw[I.out];exact cU.nil _ _,((w.out.trans (Y.mono w.out.size)).setCell (p:=⟨d.heap.size+1+1,0,none⟩) (by show d.heap.size<=d.heap.size+1+1;omega) _).setCell (p:=⟨d.heap.size+1+1,1,none⟩) (by show d.heap.size<=d.heap.size+1+1;omega) _⟩
  ·have H:Hid (gA e a f t b=dH e (gj a t b)):=by show _=_;unfold gA;rw[aD o,aE q]
   have I:Hid (gY e a f t b=([],[])):=by show _=_;unfold gY;rw[aE (by rw[H.out];exact q)]
   have Ze:(dH e (gj a t b)!=0)=true:=by simpa using q
   have u:=hid (fun S s YQ YW Yh=>Z.out S s (gj a t b) YQ YW Yh);clear o q Z Yc;generalize dH e (gj a t b)=Yi at*;generalize eJ e (gj a t b)=YB at*;generalize gj a t b=Zj at*;go_enter Tryz.func202,Tryz.ntmps202;go_wp2_with fail;rw[Yn.out];refine P.out.mono ?_;rintro YA L⟨Y4,rfl,n,g⟩;obtain⟨Yx,Yr,rfl,x,_⟩:=cU.ints n;have c:=B.out L g;have N:=c.1.cell0;have O:=c.1.dh;have C:=c.2.cell0;have m:=c.2.dh;have z:=c.2.frozen 0;have A:=c.2.frozen 1;have k:=(c.2.ld (.slice none 0 0)).dh;have j:=(c.2.ld (.slice none 0 0)).frozen 1;clear P n;go_wp2_with fail;refine(u.out L g Yx Yr x).mono ?_;rintro YA Yl⟨Zf,rfl,E,r⟩;obtain⟨Ym,Yg,rfl,M,_⟩:=cU.ints E;have D:=g.trans (r.mono g.size);have F:=B.out Yl D;clear u x E M r N O C m z A k j;have C:=F.2.cell0;have m:=F.2.dh;have z:=F.2.frozen 0;have A:=F.2.frozen 1;have k:=(F.2.ld (.slice none 0 0)).dh;have j:=(F.2.ld (.slice none 0 0)).frozen 1;go_wp2;(try simp only[Exit.inBlock,Exit.then])
   refine fI (rN rfl rfl ((F.2.ld _).A0 _)) rfl ?_;exact⟨_,_,by rw[H.out];rfl,by rw[I.out];exact cU.nil _ _,by rw[I.out];exact cU.nil _ _,((w.out.trans (D.mono w.out.size)).setCell (p:=⟨d.heap.size+1+1,0,none⟩) (by show d.heap.size<=d.heap.size+1+1;omega) _).setCell (p:=⟨d.heap.size+1+1,1,none⟩) (by show d.heap.size<=d.heap.size+1+1;omega) _⟩
 ·have H:Hid (gA e a f t b=gZ a t b):=by show _=_;unfold gA;rw[aE o]
  have I:Hid (gY e a f t b=([],[])):=by show _=_;unfold gY;rw[aE (by rw[H.out];exact o)]
  have Ze:(gZ a t b !=0)=true:=by simpa using o
  clear o Z Yc;generalize gZ a t b=Yi at*;generalize gj a t b=Zj at*;go_enter Tryz.func202,Tryz.ntmps202;go_wp2_with fail;rw[Yn.out];refine P.out.mono ?_;rintro YA L⟨Y4,rfl,n,g⟩;obtain⟨Yx,Yr,rfl,x,_⟩:=cU.ints n;have c:=B.out L g;have N:=c.1.cell0;have O:=c.1.dh;have C:=c.2.cell0;have m:=c.2.dh;have z:=c.2.frozen 0;have A:=c.2.frozen 1;have k:=(c.2.ld (.slice none 0 0)).dh;have j:=(c.2.ld (.slice none 0 0)).frozen 1;clear P n x;go_wp2;(try simp only[Exit.inBlock,Exit.then])
  refine fI (rN rfl rfl ((c.2.ld _).A0 _)) rfl ?_;exact⟨_,_,by rw[H.out];rfl,by rw[I.out];exact cU.nil _ _,by rw[I.out];exact cU.nil _ _,((w.out.trans (g.mono w.out.size)).setCell (p:=⟨d.heap.size+1+1,0,none⟩) (by show d.heap.size<=d.heap.size+1+1;omega) _).setCell (p:=⟨d.heap.size+1+1,1,none⟩) (by show d.heap.size<=d.heap.size+1+1;omega) _⟩
abbrev bg:=List (List Int×List Int)
variable {c:bg}
namespace Wb
theorem DJ{pre t post:List Int}(a:Tm.err t=0):cont (pre++(t++post)) pre.length=t:=by
 have b:=s7 (pre:=pre) (t:=t) (post:=post) (k:=0) (by omega) (by rw[jK,fS a];exact af _);rw[gp]at b;unfold cont;rw[b];unfold cD;rw[jK,fS a];simp
def xE(ps:bg)(k:Nat)(θ:Sb):Prop:=∀j,j<k->App θ (ps[j]?.getD ([],[])).1=App θ (ps[j]?.getD ([],[])).2
structure uM(ps:bg)(k:Nat)(zs:List Int)(h:Nat->Nat):Prop where
 xG:Good zs
 st:∃T,St zs T h
 closed:qm zs h []
 len:zs.length<=8+60*k
 sound:∀θ,jJ θ->xE ps k θ->nO zs h θ
 tied:∀j,j<k->∃p q,p<zs.length∧q<zs.length∧cont zs p=(ps[j]?.getD ([],[])).1∧cont zs q=(ps[j]?.getD ([],[])).2∧hd zs h p=hd zs h q
theorem uM.start(c:bg):uM c 0 (eight 8) (fun b=>b):=by
 refine⟨Pz,⟨_,St.start _⟩,fun b g a _ e _ _=>?_,by rw[pr 8 (by omega)];omega,fun h _ _ b _ _=>rfl,fun f d=>by omega⟩;rw[pr 8 (by omega)]at a;have:=Pz.vars b a
 omega
theorem qm.more(m:qm b l []):qm b l K:=fun j k f g h i n=>by
 obtain⟨a,c⟩:=m j k f g h i n;exact⟨a,fun o d=>(c o d).move (fun _ _ _ _ l=>l) (fun j k e=>by simp at e)⟩
theorem xE.succ{b:bg}{c:Sb}(d:xE b (a+1) c):xE b a c∧App c (b[a]?.getD ([],[])).1=App c (b[a]?.getD ([],[])).2:=⟨fun f e=>d f (by omega),d a (by omega)⟩
theorem uM.PF{e:bg}(g:uM e a o l)(c:Tm.err b=0)(d:Tm.err f=0)(i:b.length<=30)(j:f.length<=30)(h:a<40):Good (o++b++f):=by
 have:=g.len
 exact(g.xG.ext c (by omega)).ext d (by rw[ai];omega)
theorem uM.QZ{zs R:List Int}(a:Tm.err b=0):cont (zs++b++R) zs.length=b:=by rw[dE];exact DJ a
theorem uM.QX{zs L:List Int}(a:Tm.err b=0):cont (zs++L++b) (zs++L).length=b:=by
 have:=DJ (pre:=zs++L) (post:=[]) a
 rwa[cW]at this
theorem uM.step{e:bg}{zs:List Int}(c:uM e a zs l){L R:List Int}(h:Tm.err L=0)(q:Tm.err R=0)(G:L.length<=30)(H:R.length<=30)(F:a<40)(o:(e[a]?.getD ([],[])).1=L)(p:(e[a]?.getD ([],[])).2=R)(N:0<L.length)(O:0<R.length){h':Nat->Nat}(b:qG (zs++L++R) l h' [(zs.length,(zs++L).length)])(A:∃B,St (zs++L++R) B h'):uM e (a+1) (zs++L++R) h':=by
 obtain⟨B,z⟩:=c.st;have d:=c.xG.ext h (by have:=c.len;omega);have j:=c.PF h q G H F;have k:St (zs++L) B l:=z.ext;have i:(zs++L++R).length=zs.length+L.length+R.length:=by rw[ai,ai]
 have m:=uM.QZ (zs:=zs) (R:=R) h;have n:=uM.QX (zs:=zs) (L:=L) q;refine⟨j,A,b.close [] ((qm.ext d k j (qm.ext c.xG z d c.closed)).more),by have:=c.len;omega,fun J u K=>?_,fun I P=>?_⟩
 ·obtain⟨x,y⟩:=K.succ
  refine b.sound J u ((c.sound J u x).ext c.xG z|>.ext d k) fun v w r=>?_
  simp only[dA,Rn,RL,tN]at r;obtain⟨rfl,rfl⟩:=r;rw[m,n,<-o,<-p];exact y
 ·by_cases M:I=a
  ·subst M
   exact⟨zs.length,(zs++L).length,by omega,by rw[i,ai];omega,by rw[m,o],by rw[n,p],b.tied _ _ (by simp)⟩
  ·obtain⟨v,w,s,t,C,D,E⟩:=c.tied I (by omega)
   have f:v<(zs++L).length:=by rw[ai];omega
   have g:w<(zs++L).length:=by rw[ai];omega
   refine⟨v,w,by omega,by omega,by rw[tZ d f,tZ c.xG s,C],by rw[tZ d g,tZ c.xG t,D],b.coarse v w (by omega) (by omega) ?_⟩;rw[zT f,zT s,zT g,zT t,E]
theorem uM.no{a:bg}{f:Nat}{zs:List Int}{n:Nat->Nat}(b:uM a f zs n){L R:List Int}(c:Tm.err L=0)(p:Tm.err R=0)(u:L.length<=30)(t:f<40)(l:(a[f]?.getD ([],[])).1=L)(m:(a[f]?.getD ([],[])).2=R)(o:No (zs++L++R) n [(zs.length,(zs++L).length)]):∀g,jJ g->¬xE a (f+1) g:=fun g e r=>by
 obtain⟨s,q⟩:=b.st;have h:=b.xG.ext c (by have:=b.len;omega);have k:St (zs++L) s n:=q.ext;obtain⟨i,j⟩:=r.succ;refine o g e ((b.sound g e i).ext b.xG q|>.ext h k) fun v w d=>?_
 simp only[dA,Rn,RL,tN]at d;obtain⟨rfl,rfl⟩:=d;rw[uM.QZ (zs:=zs) (R:=R) c,uM.QX (zs:=zs) (L:=L) p,<-l,<-m];exact j
structure Lr(ps:bg)(σ:Sb):Prop where
 term:jJ σ
 vars:∀v,-8<=v->v<0->∀s∈σ v,-8<=s∧s<6
 same:xE ps ps.length σ
 most:∀θ,jJ θ->xE ps ps.length θ->∀v,-8<=v->v<0->θ v=App θ (σ v)
 least:∀v u,-8<=v->v<0->σ v=[u]->u<0->v<=u
theorem uM.Q4{d:bg}(c:uM d d.length b l)(u:∀i,i<8->Fin b l i):∃g,Lr d g∧∀i,i<8->xo b l i (g (-1-(i:Int))):=by
 obtain⟨D,h⟩:=c.st;obtain⟨g,a⟩:=Sigma.of c.xG h c.closed u;have q:∀e,-8<=e->e<0->∀s∈g e,-8<=s∧s<6:=fun e y z=>by
  have f:=a.exp (-1-e).toNat (by omega);rw[show-1-(((-1-e).toNat:Nat):Int)=e from by omega]at f;exact f.vars c.xG h (by have:=c.xG.eight;omega)
 refine⟨g,⟨a.term,q,fun A n=>?_,fun t r v=>a.most t (c.sound t r v),a.least⟩,a.exp⟩;obtain⟨B,C,o,p,j,k,m⟩:=c.tied A n;have w:=xo.yO c.xG h c.closed a.exp _ B (af _) o;have x:=xo.yO c.xG h c.closed a.exp _ C (af _) p;have:=(w.move m).one _ x
 rw[j,k]at this;exact this
theorem Lr.one{f:bg}{h i:Sb}(d:Lr f h)(e:Lr f i):∀v,-8<=v->v<0->h v=i v:=
 Lh d.term e.term (fun v a b g c _=>(d.vars v a b g c).1) (fun v a b g c _=>(e.vars v a b g c).1) (e.most h d.term d.same) (d.most i e.term e.same) d.least e.least
end Wb
abbrev bu:=List (List Int×List Int)
variable {j:bu}
def dw(n:Nat)(W:World)(a:Option Addr)(rs:bu):Prop:=
 ∀k,k<rs.length->∃b off,a=some ⟨b,off,none⟩∧b<n∧∃aL cL aR cR,W.cell? ⟨b,off+k*2,none⟩=some (.slice aL (rs[k]?.getD ([],[])).1.length cL)∧W.cell? ⟨b,off+k*2+1,none⟩=some (.slice aR (rs[k]?.getD ([],[])).2.length cR)∧
  cZ n W aL (rs[k]?.getD ([],[])).1∧cZ n W aR (rs[k]?.getD ([],[])).2∧(rs[k]?.getD ([],[])).1.length<=cL∧cL<=maxLen∧(rs[k]?.getD ([],[])).2.length<=cR∧cR<=maxLen
theorem dw.below(e:Below a d w)(q:dw a d r j):dw a w r j:=fun t s=>by
 obtain⟨h,b,u,c,f,i,g,k,l,m,n,o,v⟩:=q t s;exact⟨h,b,u,c,f,i,g,k,(e.cell (p:=⟨h,b+t*2,none⟩) c).trans l,(e.cell (p:=⟨h,b+t*2+1,none⟩) c).trans m,n.below e,o.below e,v⟩
theorem dw.mono(p:a<=n)(m:dw a d r j):dw n d r j:=fun u o=>by
 obtain⟨q,b,s,t,c,f,e,g,h,i,k,l,v⟩:=m u o;exact⟨q,b,s,by omega,c,f,e,g,h,i,k.mono p,l.mono p,v⟩
def eU(L R:List Int):Int:=if Tm.err L=0 then Tm.err R else Tm.err L
def du:bg->Int
 |[]=>0
 |r::l=>if eU r.1 r.2=0 then du l else eU r.1 r.2
theorem yT(d:a<c.length)(b:eU (c[a]?.getD ([],[])).1 (c[a]?.getD ([],[])).2=0):du (c.drop a)=du (c.drop (a+1)):=by
 rw[bZ d,du];simp only[d,an,dy]at b;rw[aD b]
theorem A7(d:a<c.length)(b:eU (c[a]?.getD ([],[])).1 (c[a]?.getD ([],[])).2≠0):du (c.drop a)=eU (c[a]?.getD ([],[])).1 (c[a]?.getD ([],[])).2:=by
 rw[bZ d,du];simp only[d,an,dy]at b⊢;rw[aE b]
theorem yF(e:du c=0):∀k,k<c.length->Tm.err (c[k]?.getD ([],[])).1=0∧Tm.err (c[k]?.getD ([],[])).2=0:=by
 induction c with
 |nil=>intro k d;simp at d
 |cons g h f=>
  rw[du]at e;by_cases a:eU g.1 g.2=0
  ·rw[aD a]at e
   intro k d;cases k with
   |zero=>
    simp only[fG,dy];unfold eU at a;by_cases b:Tm.err g.1=0
    ·rw[aD b]at a;exact⟨b,a⟩
    ·rw[aE b]at a;exact absurd a b
   |succ k=>
    simp only[Rt];exact f e k (by simpa using d)
  ·rw[aE a]at e
   exact absurd e a
def Qj(ps:bg)(W:World)(e:Ending):Prop:=
 ((∀θ,Wb.jJ θ->¬Wb.xE ps ps.length θ)∧e=.returned (.tuple #[.slice none 0 0,.bool false,.int .i64 0]))∨
 ∃σ,Wb.Lr ps σ∧(((∀i:Nat,i<8->(σ (-1-(i:Int))).length<=30)∧∃a,e=.returned (.tuple #[.slice a 8 8,.bool true,.int .i64 0])∧np W.heap.size W a ((List.range 8).map fun i:Nat=>σ (-1-(i:Int))))∨
  ((∃i:Nat,i<8∧30<(σ (-1-(i:Int))).length)∧e=.returned (.tuple #[.slice none 0 0,.bool false,.int .i64 2])))
def Fc(ps:bg)(W:World)(e:Ending):Prop:=
 (du ps≠0∧e=.returned (.tuple #[.slice none 0 0,.bool false,.int .i64 (du ps)]))∨(du ps=0∧Qj ps W e)
def Od(F:Bool->Act)(n:Nat)(wr:World)(B1 B0:Nat)(zs:List Int)(h:Nat->Nat)(p q:Nat)(e:Exit)(a':Act)(w4:World):Prop:=
 e=.normal∧∃(qb:Bool)(v3:Value),a'=F qb∧Below n wr w4∧((qb=true∧∃h',Wb.qG zs h h' [(p,q)]∧FW w4 B1 B0 v3 zs h')∨(qb=false∧Wb.No zs h [(p,q)]))
theorem Od.panic{wr:World}(c:Od M a wr n u b l N O (.panic z) y d):A:=by
 cases c.1
theorem NT(k:bg)(Z3:k.length<=40)(Z1:Option Addr)(Yy:Nat)(M:World)(Zr:dw M.heap.size M Z1 k):
 Calls Tryz.prog 209 #[.slice Z1 k.length Yy] M fun A ZC=>Below M.heap.size M ZC∧Fc k ZC A:=by
 have ZP:(k.length:Int)<=40:=by omega
 have Zn:=hid Zr;clear Zr;go_enter Tryz.func209,Tryz.ntmps209;go_wp2_with fail;go_loopw [14](fun v wr=>∃L:Nat,L<=k.length∧v=.int .i64 (L:Int)∧Hid (du k=du (k.drop L))∧Below M.heap.size M wr)(fun v _=>k.length-(intOf v).toNat)
 case atStart=>exact⟨0,bf _,rfl,hid rfl,ah _ _⟩
 case round=>
  obtain⟨L,Yn,rfl,Yq,Yg⟩:=hrel;by_cases Ye:L<k.length
  ·have Zj:(L:Int)<(k.length:Int):=by omega
   obtain⟨YV,Yt,rfl,ZU,c,e,d,f,Ze,Zf,Yk,Yl,_⟩:=(Zn.out.below Yg) L Ye;have Yf:=hid (yT Ye);have X:=hid (A7 Ye);obtain⟨h,Yv⟩:∃h,(k[L]?.getD ([],[])).1=h:=⟨_,rfl⟩;obtain⟨l,Yw⟩:∃l,(k[L]?.getD ([],[])).2=l:=⟨_,rfl⟩;rw[Yv]at Ze Yk Yf X;rw[Yw]at Zf Yl Yf X;have r:Below wr.heap.size wr (wr.alloc (.cells #[.slice c h.length e,.slice d l.length f] 79)):=(ah _ wr).alloc (af _) _;have s:=hid (jn h c e (wr.alloc (.cells #[.slice c h.length e,.slice d l.length f] 79)) (((Yk.mono Yg.size).below r).mono r.size));have w:=hid (fun b(q:Below (wr.alloc (.cells #[.slice c h.length e,.slice d l.length f] 79)).heap.size (wr.alloc (.cells #[.slice c h.length e,.slice d l.length f] 79)) b)=>jn l d f b (((((Yl.mono Yg.size).below r).mono r.size).below q).mono q.size));have D:=Yg.trans (r.mono Yg.size);have F:Hid (eU h l=if Tm.err h=0 then Tm.err l else Tm.err h):=rfl;have Y:(wr.alloc (.cells #[.slice c h.length e,.slice d l.length f] 79)).heap.size=wr.heap.size+1:=by simp
   have Y7:(wr.alloc (.cells #[.slice c h.length e,.slice d l.length f] 79)).cell? ⟨wr.heap.size,1,none⟩=some (.slice d l.length f):=(dp (aM wr _) 1).trans rfl;clear Yv Yw Yk Yl;by_cases t:Tm.err h=0
   ·rw[t]at s
    by_cases V:Tm.err l=0
    ·rw[V]at w
     have YD:=hid (Yf.out (by rw[F.out,aD t,V]));clear t V Yf X F;go_wp2_with(first
      |(go_at_call_of 112(Value.slice c h.length e);refine s.out.mono ?_;clear s;rintro A b⟨rfl,N⟩;have Zu:=(N.cell (p:=⟨wr.heap.size,1,none⟩) (by rw[Y];exact mE _)).trans Y7)
      |(go_at_call_of 112(Value.slice d l.length f);refine(w.out b N).mono ?_;clear w;rintro A ZD⟨rfl,Zd⟩))
     go_roundw
     case rel=>exact⟨L+1,by omega,by go_num,hid (Yq.out.trans YD.out),(D.trans (N.mono D.size)).trans (Zd.mono (D.trans (N.mono D.size)).size)⟩
     case measure=>simp[intOf];omega
    ·have ZV:(Tm.err l !=0)=true:=by simpa using V
     have YD:=hid (X.out (by rw[F.out,aD t];exact V));have Zb:=hid (show eU h l=Tm.err l by rw[F.out,aD t]);have YK:=hid V;clear t V Yf X F;generalize Tm.err l=Za at*;go_wp2_with(first
      |(go_at_call_of 112(Value.slice c h.length e);refine s.out.mono ?_;clear s;rintro A b⟨rfl,N⟩;have Zu:=(N.cell (p:=⟨wr.heap.size,1,none⟩) (by rw[Y];exact mE _)).trans Y7)
      |(go_at_call_of 112(Value.slice d l.length f);refine(w.out b N).mono ?_;clear w;rintro A ZD⟨rfl,Zd⟩))
     go_ret3
     have YJ:=Yq.out.trans (YD.out.trans Zb.out);exact⟨(D.trans (N.mono D.size)).trans (Zd.mono (D.trans (N.mono D.size)).size),.inl ⟨by rw[YJ];exact YK.out,by rw[YJ];rfl⟩⟩
   ·have ZV:(Tm.err h !=0)=true:=by simpa using t
    have YD:=hid (X.out (by rw[F.out,aE t];exact t));have Zb:=hid (show eU h l=Tm.err h by rw[F.out,aE t]);have YK:=hid t;clear t Yf X F;generalize Tm.err h=Za at*;go_wp2_with(first
     |(go_at_call_of 112(Value.slice c h.length e);refine s.out.mono ?_;clear s;rintro A b⟨rfl,N⟩))
    go_ret3
    have YJ:=Yq.out.trans (YD.out.trans Zb.out);exact⟨D.trans (N.mono D.size),.inl ⟨by rw[YJ];exact YK.out,by rw[YJ];rfl⟩⟩
  ·obtain rfl:L=k.length:=by omega
   have Yp:Hid (du k=0):=by
    show _=_;rw[Yq.out,eu];rfl
   go_wp2_with(first
    |(go_at_call 210;refine(Jr wr).mono ?_;rintro A ZD⟨ZY,rfl,Y0,YX⟩))
   have Zx:=Yg.size;have Zg:=Yg.trans (YX.mono Yg.size);have YU:=hid Y0;obtain⟨g,YH⟩:∃ZG,ZG=wr.heap.size:=⟨_,rfl⟩;rw[<-YH]at YU Zx;clear Y0 Yq;go_wp2_with fail;rw[<-YH];clear YH YX Yg;go_loopw [34](fun Yj ZE=>∃(L:Nat)(B:List Int)(y:Nat->Nat)(v:Value),L<=k.length∧Yj=.int .i64 (L:Int)∧Hid (Wb.uM k L B y)∧Hid (FW ZE (g+1) g v B y)∧Hid (Below M.heap.size M ZE))(fun Yj _=>k.length-(intOf Yj).toNat)
   case atStart=>exact⟨0,_,_,ZY,by omega,rfl,Wb.uM.start k,YU,Zg⟩
   case round=>
    obtain⟨L,B,y,v,Z4,rfl,T,hF,C⟩:=hrel;by_cases Ye:L<k.length
    ·have Zj:(L:Int)<(k.length:Int):=by omega
     obtain⟨YV,Yt,rfl,ZU,c,e,d,f,Ze,Zf,Yk,Yl,_⟩:=(Zn.out.below C.out) L Ye;obtain⟨O,P⟩:=yF Yp.out L Ye;obtain⟨h,Yv⟩:∃h,(k[L]?.getD ([],[])).1=h:=⟨_,rfl⟩;obtain⟨l,Yw⟩:∃l,(k[L]?.getD ([],[])).2=l:=⟨_,rfl⟩;rw[Yv]at Ze Yk O;rw[Yw]at Zf Yl P;have Zl:=cK O;have Zz:=cK P;have ZA:=dU O;have ZB:=dU P;have Z6:=T.out.len;have ZJ:=hid (T.out.PF O P Zl Zz (by omega));have YC:=C.out.size;have Z5:=hF.out.lt;obtain⟨p,YL⟩:∃p,p=B.length:=⟨_,rfl⟩;obtain⟨Za,F⟩:∃Za,Za=(B++h).length:=⟨_,rfl⟩;have Zw:Za=p+h.length:=by rw[YL,F,ai]
     have r:Below wr.heap.size wr ((wr.alloc (.cells #[.slice c h.length e,.slice d l.length f] 79)).drewN 1):=bD ((ah _ wr).alloc (af _) _) 1;have Y:((wr.alloc (.cells #[.slice c h.length e,.slice d l.length f] 79)).drewN 1).heap.size=wr.heap.size+1:=by show(wr.alloc _).heap.size=_;simp
     have Yx:((wr.alloc (.cells #[.slice c h.length e,.slice d l.length f] 79)).drewN 1).heap[wr.heap.size]?=some (.cells #[.slice c h.length e,.slice d l.length f] 79):=aM wr _;have Yh:∀{Yj:Option Addr}{ZH:List Int}{Zc:World}{ZG Zp:Nat},cZ ZG Zc Yj ZH->0<ZH.length->Yj=none->ZH.length=0∧Zp=0:=fun{Yj ZH Zc ZG Zp}ZR ZO A=>by
      obtain⟨Z8,ZW,Zq,_⟩:=ZR.at ZO;rw[A]at Zq;cases Zq
     have s:=hid (Kl B h y (g+1) g v c e _ (hF.out.eV r) (((Yk.mono YC).below r).mono r.size) (Yh Yk ZA) (by omega));have w:=hid (fun b Yc(E:FW b (g+1) g Yc (B++h) y)(q:Below M.heap.size wr b)=>Kl (B++h) l y (g+1) g Yc d f b E ((Yl.below q).mono (by have:=q.size;omega)) (Yh Yl ZB) (by rw[ai];omega));rw[<-YL]at s;rw[<-F]at w;have YP:(B++h++l).length=p+h.length+l.length:=by rw[YL,ai,ai]
     have YN:=hid (fun m G(S:FW m (g+1) g G (B++h++l) y)=>Qm (B++h++l) ZJ.out y (g+1) g G p Za m (by omega) (by omega) S);have YB:=hid (fun h' YG YM=>T.out.step O P Zl Zz (by omega) Yv Yw ZA ZB (h':=h') YG YM);have Y8:=hid (fun ZS=>T.out.no O P Zl (by omega) Yv Yw ZS);rw[<-YL,<-F]at YB Y8;have Z:Hid (∀(YS b:World)(ZX:Value)(ZF:List Int)(Zv:Nat->Nat),FW YS (g+1) g ZX ZF Zv->Oa YS b (g+1) g ZX->Below M.heap.size YS b):=fun YS b ZX ZF Zv YO Yn=>⟨Yn.1,Yn.2.1,Yn.2.2.1,Yn.2.2.2.1,fun Yj Zk=>Yn.2.2.2.2 Yj (by have:=YO.lt;omega) (by omega) (by omega) (fun A=>by have:=(bn YO.own.2 Yj A.symm).1;omega)⟩
     have Yz:=hid (hF.out.eV r);have Yr:=hid (fun Yj(A:v.ownBlock=some Yj)=>(bn hF.out.own.2 Yj A).2);clear Yv Yw Yk Yl YL F Yh T hF O P Zw YP;have x:Hid (∀Zc:World,Zc.heap[wr.heap.size]?=some (.cells #[.slice c h.length e,.slice d l.length f] 79)->Zc.cell? ⟨wr.heap.size,0,none⟩=some (.slice c h.length e)∧Zc.cell? ⟨wr.heap.size,1,none⟩=some (.slice d l.length f)):=fun Zc Zt=>⟨(dp Zt 0).trans rfl,(dp Zt 1).trans rfl⟩
     have YA:Hid (∀(b:World),Oa ((wr.alloc (.cells #[.slice c h.length e,.slice d l.length f] 79)).drewN 1) b (g+1) g v->b.heap[wr.heap.size]?=some (.cells #[.slice c h.length e,.slice d l.length f] 79)):=fun b Yn=>(Yn.2.2.2.2 wr.heap.size (by rw[Y];omega) (by omega) (by omega) (fun A=>by have:=Yr.out _ A.symm;omega)).trans Yx
     have Y3:=x.out _ Yx;have Zi:(wr.alloc (.cells #[.slice c h.length e,.slice d l.length f] 79)).cell? ⟨wr.heap.size,0,none⟩=some (.slice c h.length e)∧(wr.alloc (.cells #[.slice c h.length e,.slice d l.length f] 79)).cell? ⟨wr.heap.size,1,none⟩=some (.slice d l.length f):=Y3;go_wp2_with fail;have YR:Tryz.prog.follows .mixedOrders=true:=by kernel_rfl
     refine wp_mono (Q:=Od (fun Yi=>{tmps:=#[.slice (some ⟨YV,Yt,none⟩) k.length Yy,undef,u2,u3,u4,undef,u6,u7,u8,.pointer (some ⟨g+1,0,none⟩),undef,.pointer (some ⟨wr.heap.size,0,none⟩),.slice (some ⟨YV,Yt,none⟩) k.length Yy,.int .i64 (k.length:Int),.int .i64 (k.length:Int),.bool false,u16,u17,u18,u19,u20,u21,u22,u23,u24,u25,u26,u27,u28,u29,u30,.pointer (some ⟨g+1,0,none⟩),.slice (some ⟨YV,Yt,none⟩) k.length Yy,.int .i64 (k.length:Int),.int .i64 (L:Int),.bool true,.pointer (some ⟨YV,Yt+L*2,none⟩),.agg #[.slice c h.length e,.slice d l.length f],.pointer (some ⟨g+1,0,none⟩),.pointer (some ⟨g+1,0,none⟩),.pointer (some ⟨wr.heap.size,0,none⟩),.slice c h.length e,.int .i64 (p:Int),.pointer (some ⟨g+1,0,none⟩),.pointer (some ⟨wr.heap.size,1,none⟩),.slice d l.length f,.int .i64 (Za:Int),.bool Yi,.bool !Yi,u49,undef,undef,undef,undef,undef,undef,undef],defers:=[]}) M.heap.size wr (g+1) g (B++h++l) y p Za) ?reg ?aft
     case reg=>
      refine wp_region_any YR ?_;change wpAny _ _ _ _ _ _ _ (World.drew _);show wpAny _ _ _ _ 11 (Array.replicate 11 false) _ _;refine Rp (i:=0) (v:=.pointer (some ⟨g+1,0,none⟩)) rfl (by kernel_rfl) (by kernel_rfl) (by kernel_rfl) (fun _ _ _ y=>y.panic) (Or.inl ⟨by rfl,fun M=>by go_simp⟩) ?_;refine Rp (i:=1) (v:=.pointer (some ⟨g+1,0,none⟩)) rfl (by kernel_rfl) (by kernel_rfl) (by kernel_rfl) (fun _ _ _ y=>y.panic) (Or.inl ⟨by rfl,fun M=>by go_simp⟩) ?_;refine Rp (i:=2) (v:=.pointer (some ⟨wr.heap.size,0,none⟩)) rfl (by kernel_rfl) (by kernel_rfl) (by kernel_rfl) (fun _ _ _ y=>y.panic) (Or.inl ⟨by rfl,fun M=>by go_simp⟩) ?_;refine Rp (i:=5) (v:=.pointer (some ⟨g+1,0,none⟩)) rfl (by kernel_rfl) (by kernel_rfl) (by kernel_rfl) (fun _ _ _ y=>y.panic) (Or.inl ⟨by rfl,fun M=>by go_simp⟩) ?_;refine Rp (i:=6) (v:=.pointer (some ⟨wr.heap.size,1,none⟩)) rfl (by kernel_rfl) (by kernel_rfl) (by kernel_rfl) (fun _ _ _ y=>y.panic) (Or.inl ⟨by rfl,fun M=>by go_simp⟩) ?_;refine Ri (rs:=[3,7]) (by kernel_rfl) (by simp) ?_;refine Rf rfl (fun z a=>?_) (Rf rfl (fun z a=>?_) Rh)
      ·go_simp
       refine a _ _ ?_;clear a z;refine Ri (rs:=[4,7]) (by kernel_rfl) (by simp) ?_;refine Rf rfl (fun z a=>?_) (Rf rfl (fun z a=>?_) Rh)
       ·go_simp
        refine s.out.mono ?_;rintro A b⟨rfl,Yc,E,J,Yo⟩;have n:=YA.out b J;have Ym:b.cell? ⟨wr.heap.size,0,none⟩=some (.slice c h.length e)∧b.cell? ⟨wr.heap.size,1,none⟩=some (.slice d l.length f):=x.out b n;have YW:=Ym.2;have q:Below M.heap.size wr b:=(r.mono YC).trans (Z.out _ b v _ _ Yz.out J);refine a _ _ ?_;clear a z;refine Ri (rs:=[7]) (by kernel_rfl) (by simp) ?_;refine Rf rfl (fun z a=>?_) Rh;go_simp;refine a _ _ ?_;clear a z;refine Ri (rs:=[8]) (by kernel_rfl) (by simp) ?_;refine Rf rfl (fun z a=>?_) Rh;go_simp;refine(w.out b Yc E q).mono ?_;rintro A m⟨rfl,G,S,K,Y9⟩;have o:m.heap[wr.heap.size]?=some (.cells #[.slice c h.length e,.slice d l.length f] 79):=(K.2.2.2.2 wr.heap.size (ak.1 n).1 (by omega) (by omega) (fun A=>by rcases Yo _ A.symm with y|y;exact absurd (Yr.out _ y) (Sf _);rw[Y]at y;omega)).trans n;have Y4:m.cell? ⟨wr.heap.size,0,none⟩=some (.slice c h.length e)∧m.cell? ⟨wr.heap.size,1,none⟩=some (.slice d l.length f):=x.out m o;have H:Below M.heap.size wr m:=q.trans (Z.out _ m Yc _ _ E K);refine a _ _ ?_;clear a z;refine Ri (rs:=[9]) (by kernel_rfl) (by simp) ?_;refine Rf rfl (fun z a=>?_) Rh;go_simp;refine(YN.out m G S).mono ?_;rintro A u⟨Yi,rfl,j,W⟩;have U:u.heap[wr.heap.size]?=some (.cells #[.slice c h.length e,.slice d l.length f] 79):=(j.block _ (ak.1 o).1 (by omega)).trans o;have Y5:u.cell? ⟨wr.heap.size,0,none⟩=some (.slice c h.length e)∧u.cell? ⟨wr.heap.size,1,none⟩=some (.slice d l.length f):=x.out u U;have I:Below M.heap.size wr u:=H.trans ⟨j.os,j.tape,j.output,j.size,fun Yj Zk=>j.block Yj (by have:=H.size;omega) (by omega)⟩;refine a _ _ ?_;clear a z;refine Ri (rs:=[10]) (by kernel_rfl) (by simp) ?_;refine Rf rfl (fun z a=>?_) Rh;go_simp;refine a _ _ ?_;clear a z;refine RM (by kernel_rfl) ?_ _;exact⟨rfl,Yi,G,rfl,I,W⟩
       ·go_simp
        refine a _ _ ?_;clear a z;refine Ri (rs:=[4]) (by kernel_rfl) (by simp) ?_;refine Rf rfl (fun z a=>?_) Rh;go_simp;refine s.out.mono ?_;rintro A b⟨rfl,Yc,E,J,Yo⟩;have n:=YA.out b J;have Ym:b.cell? ⟨wr.heap.size,0,none⟩=some (.slice c h.length e)∧b.cell? ⟨wr.heap.size,1,none⟩=some (.slice d l.length f):=x.out b n;have YW:=Ym.2;have q:Below M.heap.size wr b:=(r.mono YC).trans (Z.out _ b v _ _ Yz.out J);refine a _ _ ?_;clear a z;refine Ri (rs:=[8]) (by kernel_rfl) (by simp) ?_;refine Rf rfl (fun z a=>?_) Rh;go_simp;refine(w.out b Yc E q).mono ?_;rintro A m⟨rfl,G,S,K,Y9⟩;have o:m.heap[wr.heap.size]?=some (.cells #[.slice c h.length e,.slice d l.length f] 79):=(K.2.2.2.2 wr.heap.size (ak.1 n).1 (by omega) (by omega) (fun A=>by rcases Yo _ A.symm with y|y;exact absurd (Yr.out _ y) (Sf _);rw[Y]at y;omega)).trans n;have Y4:m.cell? ⟨wr.heap.size,0,none⟩=some (.slice c h.length e)∧m.cell? ⟨wr.heap.size,1,none⟩=some (.slice d l.length f):=x.out m o;have H:Below M.heap.size wr m:=q.trans (Z.out _ m Yc _ _ E K);refine a _ _ ?_;clear a z;refine Ri (rs:=[9]) (by kernel_rfl) (by simp) ?_;refine Rf rfl (fun z a=>?_) Rh;go_simp;refine(YN.out m G S).mono ?_;rintro A u⟨Yi,rfl,j,W⟩;have U:u.heap[wr.heap.size]?=some (.cells #[.slice c h.length e,.slice d l.length f] 79):=(j.block _ (ak.1 o).1 (by omega)).trans o;have Y5:u.cell? ⟨wr.heap.size,0,none⟩=some (.slice c h.length e)∧u.cell? ⟨wr.heap.size,1,none⟩=some (.slice d l.length f):=x.out u U;have I:Below M.heap.size wr u:=H.trans ⟨j.os,j.tape,j.output,j.size,fun Yj Zk=>j.block Yj (by have:=H.size;omega) (by omega)⟩;refine a _ _ ?_;clear a z;refine Ri (rs:=[10]) (by kernel_rfl) (by simp) ?_;refine Rf rfl (fun z a=>?_) Rh;go_simp;refine a _ _ ?_;clear a z;refine RM (by kernel_rfl) ?_ _;exact⟨rfl,Yi,G,rfl,I,W⟩
      ·go_simp
       refine a _ _ ?_;clear a z;refine Ri (rs:=[3]) (by kernel_rfl) (by simp) ?_;refine Rf rfl (fun z a=>?_) Rh;go_simp;refine a _ _ ?_;clear a z;refine Ri (rs:=[4]) (by kernel_rfl) (by simp) ?_;refine Rf rfl (fun z a=>?_) Rh;go_simp;refine s.out.mono ?_;rintro A b⟨rfl,Yc,E,J,Yo⟩;have n:=YA.out b J;have Ym:b.cell? ⟨wr.heap.size,0,none⟩=some (.slice c h.length e)∧b.cell? ⟨wr.heap.size,1,none⟩=some (.slice d l.length f):=x.out b n;have YW:=Ym.2;have q:Below M.heap.size wr b:=(r.mono YC).trans (Z.out _ b v _ _ Yz.out J);refine a _ _ ?_;clear a z;refine Ri (rs:=[8]) (by kernel_rfl) (by simp) ?_;refine Rf rfl (fun z a=>?_) Rh;go_simp;refine(w.out b Yc E q).mono ?_;rintro A m⟨rfl,G,S,K,Y9⟩;have o:m.heap[wr.heap.size]?=some (.cells #[.slice c h.length e,.slice d l.length f] 79):=(K.2.2.2.2 wr.heap.size (ak.1 n).1 (by omega) (by omega) (fun A=>by rcases Yo _ A.symm with y|y;exact absurd (Yr.out _ y) (Sf _);rw[Y]at y;omega)).trans n;have Y4:m.cell? ⟨wr.heap.size,0,none⟩=some (.slice c h.length e)∧m.cell? ⟨wr.heap.size,1,none⟩=some (.slice d l.length f):=x.out m o;have H:Below M.heap.size wr m:=q.trans (Z.out _ m Yc _ _ E K);refine a _ _ ?_;clear a z;refine Ri (rs:=[9]) (by kernel_rfl) (by simp) ?_;refine Rf rfl (fun z a=>?_) Rh;go_simp;refine(YN.out m G S).mono ?_;rintro A u⟨Yi,rfl,j,W⟩;have U:u.heap[wr.heap.size]?=some (.cells #[.slice c h.length e,.slice d l.length f] 79):=(j.block _ (ak.1 o).1 (by omega)).trans o;have Y5:u.cell? ⟨wr.heap.size,0,none⟩=some (.slice c h.length e)∧u.cell? ⟨wr.heap.size,1,none⟩=some (.slice d l.length f):=x.out u U;have I:Below M.heap.size wr u:=H.trans ⟨j.os,j.tape,j.output,j.size,fun Yj Zk=>j.block Yj (by have:=H.size;omega) (by omega)⟩;refine a _ _ ?_;clear a z;refine Ri (rs:=[10]) (by kernel_rfl) (by simp) ?_;refine Rf rfl (fun z a=>?_) Rh;go_simp;refine a _ _ ?_;clear a z;refine RM (by kernel_rfl) ?_ _;exact⟨rfl,Yi,G,rfl,I,W⟩
     case aft=>
      rintro A Z7 u⟨rfl,Yi,G,rfl,I,W⟩;clear s w YN YA x Y3 Zi Z Yz Yr Yx r;rcases W with⟨rfl,h',YG,YZ⟩|⟨rfl,YF⟩
      ·go_wp2
       go_roundw
       case rel=>
        have Yu:=C.out.trans I;have Zm:=hid YZ;obtain⟨_,ZM,_,_,ZL,_⟩:=YZ;exact⟨L+1,B++h++l,h',G,by omega,by go_num,hid (YB.out h' YG ⟨ZM,ZL⟩),Zm,hid Yu⟩
       case measure=>simp[intOf];omega
      ·go_wp2
       go_ret3
       have Yu:=C.out.trans I;exact⟨Yu,.inr ⟨Yp.out,.inl ⟨fun θ YQ ZK=>Y8.out YF θ YQ (fun aa Z9=>ZK aa (by omega)),rfl⟩⟩⟩
    ·obtain rfl:L=k.length:=by omega
     obtain⟨ad,ZT⟩:=T.out.st;obtain⟨YV,Zp,rfl,Zo,Z0,YM,YI,_⟩:=hF.out.st (by have:=T.out.xG.eight;omega);have Y6:=hid (Di B T.out.xG Zo y YM (g+1) g YV 0 Zp Z0 wr YI);have Y2:=hid (fun YT(Yd:Below wr.heap.size wr YT)Z2(YO:∀i,i<8->Wb.xo B y i (Z2 i))=>OF B T.out.xG Zo y YM (g+1) g YV 0 Zp Z0 Z2 YO YT (YI.below Yd));clear YI ZT;go_wp2_with(first
      |(go_at_call 213;refine Y6.out.mono ?_;clear Y6;rintro A YT⟨Yd,(⟨rfl,YF⟩|⟨rfl,Zh⟩)⟩)
      |(go_at_call 214;obtain⟨σ,Zy,ZQ⟩:=T.out.Q4 Zh;refine(Y2.out YT Yd (fun i:Nat=>σ (-1-(i:Int))) ZQ).mono ?_;clear Y2;rintro A ab⟨YY,(⟨YE,ZN,rfl,Zs⟩|⟨YE,rfl⟩)⟩))
     ·go_ret3
      exact⟨C.out.trans (Yd.mono C.out.size),.inr ⟨Yp.out,.inl ⟨fun θ YQ ZK=>YF θ YQ (T.out.sound θ YQ ZK),rfl⟩⟩⟩
     ·go_ret3
      have R:=C.out.trans (Yd.mono C.out.size);exact⟨R.trans (YY.mono R.size),.inr ⟨Yp.out,.inr ⟨σ,Zy,.inl ⟨YE,ZN,rfl,Zs⟩⟩⟩⟩
     ·go_ret3
      have R:=C.out.trans (Yd.mono C.out.size);exact⟨R.trans (YY.mono R.size),.inr ⟨Yp.out,.inr ⟨σ,Zy,.inr ⟨YE,rfl⟩⟩⟩⟩
theorem te(a: -8<=h)(b:h<6):Tm.known h=true:=by
 simp[Tm.known];omega
theorem wV(c:∀k,k<e.length->Tm.err (e[k]?.getD [])=0):ez e=0:=by
 induction e with
 |nil=>rfl
 |cons f d b=>
  rw[ez,aD (by simpa using c 0 (by simp))];exact b fun k a=>by simpa using c (k+1) (by simpa using a)
def jS(σ:Wb.Sb):List (List Int):=(List.range 8).map fun i:Nat=>σ (-1-(i:Int))
theorem je(a:Wb.Sb):(jS a).length=8:=by simp[jS]
theorem uB(b:Wb.Sb)(c:a<8):(jS b)[a]?.getD []=b (-1-(a:Int)):=by
 unfold jS;rw[ic,oo c];rfl
theorem zE(b:∀v,-8<=v->v<0->m v=E v):jS m=jS E:=by
 unfold jS;refine gm fun c a=>?_
 have:=Rd.1 a
 exact b _ (by omega) (by omega)
theorem Ep(b:Wb.Sb)(c: -8<=h):gh (jS b) h=if h<0 then b h else [h]:=by
 unfold gh;by_cases a:h<0
 ·rw[aD a,aD a,uB b (by omega),show-1-(((-1-h).toNat:Nat):Int)=h from by omega]
 ·rw[aE a,aE a]
theorem si(d:Wb.Sb):∀(a:List Int),a.all Tm.known=true->bo (jS d) a=Wb.App d a:=by
 intro a;induction a with
 |nil=>intro _;rfl
 |cons f e c=>
  intro b;rw[ng,dW]at b;rw[jw,Wb.jo,c b.2,Ep d (j7 b.1)]
def sw(us:List (List Int))(s:Int):List Int:=if-8<=s then us[(-1-s).toNat]?.getD []else [s]
theorem uo(b:List (List Int))(c:a<8):sw b (-1-(a:Int))=b[a]?.getD []:=by
 unfold sw;rw[aD (by omega),show(-1-(-1-(a:Int))).toNat=a from by omega]
theorem Kq(d:e.length=8):jS (sw e)=e:=by
 refine iA (by rw[je,d]) fun f a c=>?_
 rw[je]at a;have b:=uB (sw e) a;rw[uo e a]at b;rw[an (by rw[je];exact a),an c]at b;exact b
theorem Ik(f:e7 e=0):Wb.jJ (sw e):=fun d c=>by
 unfold sw;obtain⟨g,b⟩:=jx f;by_cases a: -8<=d
 ·rw[aD a]
  exact fS (j6 b _ (by omega))
 ·rw[aE a]
  have:Tm.room d=0:=Wb.lV c
  rw[show(1:Nat)=0+1 from rfl,Tm.fT,this,Tm.gu];rfl
def fs(ps:bg)(er:Int)(is:Bool)(val:List (List Int)):Prop:=
 (du ps≠0∧er=du ps∧is=false∧val=[])∨
 (du ps=0∧(∀θ,Wb.jJ θ->¬Wb.xE ps ps.length θ)∧er=0∧is=false∧val=[])∨
 (du ps=0∧∃σ,Wb.Lr ps σ∧(∀i:Nat,i<8->(σ (-1-(i:Int))).length<=30)∧er=0∧is=true∧val=jS σ)∨
 (du ps=0∧∃σ,Wb.Lr ps σ∧(∃i:Nat,i<8∧30<(σ (-1-(i:Int))).length)∧er=2∧is=false∧val=[])
theorem fs.one(q:fs c h G e)(r:fs c F H I):h=F∧G=H∧e=I:=by
 rcases q with⟨d,rfl,rfl,rfl⟩|⟨d,a,rfl,rfl,rfl⟩|⟨d,m,a,g,rfl,rfl,rfl⟩|⟨d,m,a,⟨o,k,g⟩,rfl,rfl,rfl⟩<;>
 rcases r with⟨f,rfl,rfl,rfl⟩|⟨f,b,rfl,rfl,rfl⟩|⟨f,n,b,i,rfl,rfl,rfl⟩|⟨f,n,b,⟨p,l,i⟩,rfl,rfl,rfl⟩
 ·exact⟨rfl,rfl,rfl⟩
 ·exact absurd f d
 ·exact absurd f d
 ·exact absurd f d
 ·exact absurd d f
 ·exact⟨rfl,rfl,rfl⟩
 ·exact absurd b.same (a n b.term)
 ·exact absurd b.same (a n b.term)
 ·exact absurd d f
 ·exact absurd a.same (b m a.term)
 ·exact⟨rfl,rfl,zE (a.one b)⟩
 ·have:=a.one b (-1-(p:Int)) (by omega) (by omega)
  have j:=g p l;rw[this]at j;omega
 ·exact absurd d f
 ·exact absurd a.same (b m a.term)
 ·have:=a.one b (-1-(o:Int)) (by omega) (by omega)
  have j:=i o k;rw[<-this]at j;omega
 ·exact⟨rfl,rfl,rfl⟩
theorem Wb.Lr.QR(f:Wb.Lr c m)(g:∀i:Nat,i<8->(m (-1-(i:Int))).length<=30):e7 (jS m)=0:=by
 have a:ez (jS m)=0:=by
  refine wV fun i b=>?_
  rw[je]at b;rw[uB m b];refine nQ (g i b) ?_ (f.term _ (by omega));rw[dD];intro h e;obtain⟨a,d⟩:=f.vars _ (by omega) (by omega) h e;exact te a d
 unfold e7;rw[aD (je m),a]
theorem ug(a b:List Int):du [(a,b)]=eU a b:=by
 rw[du];by_cases c:eU a b=0
 ·rw[aD c,c];rfl
 ·rw[aE c]
theorem oP:eU b f=0↔Tm.err b=0∧Tm.err f=0:=by
 unfold eU;by_cases c:Tm.err b=0
 ·rw[aD c];exact⟨fun a=>⟨c,a⟩,fun a=>a.2⟩
 ·rw[aE c];exact⟨fun a=>absurd a c,fun a=>absurd a.1 c⟩
theorem zm{val:List (List Int)}(q:fs [(b,f)] 0 true val):e7 val=0∧Tm.err b=0∧Tm.err f=0∧bo val b=bo val f∧tn val val=0∧Ar val val=val:=by
 rcases q with⟨_,_,j,_⟩|⟨_,_,_,j,_⟩|⟨c,a,i,e,_,_,rfl⟩|⟨_,a,_,_,_,j,_⟩
 ·cases j
 ·cases j
 ·rw[ug,oP]at c
  have d:=i.QR e;have g:xp (jS a) (jS a)=jS a:=by
   unfold xp;rw[jS,RP];refine gm fun p h=>?_
   have:=Rd.1 h
   show bo (jS a) (a _)=a _;rw[si a _ (by
    rw[dD];intro s d;obtain⟨m,n⟩:=i.vars _ (by omega) (by omega) s d;exact te m n)]
   exact(i.most a i.term i.same _ (by omega) (by omega)).symm
  have k:tn (jS a) (jS a)=0:=by
   unfold tn;rw[aD d,aD d,aD];rw[dD];intro t o;have l:bo (jS a) t∈xp (jS a) (jS a):=RS o;rw[g]at l;unfold Le;rw[dJ];obtain⟨p,h,r⟩:=Rl.1 l;rw[<-r];exact e p (Rd.1 h)
  refine⟨d,c.1,c.2,?_,k,by unfold Ar;rw[aD k,g]⟩;rw[si a b (fw c.1),si a f (fw c.2)];exact i.same 0 (by simp)
 ·cases j
theorem Fc.says(l:Fc c d J):∃e f val g,fs c e f val∧J=.returned (.tuple #[.slice g val.length val.length,.bool f,.int .i64 e])∧np d.heap.size d g val:=by
 rcases l with⟨a,rfl⟩|⟨a,⟨h,rfl⟩|⟨j,k,⟨b,g,rfl,i⟩|⟨b,rfl⟩⟩⟩
 ·exact⟨_,_,[],none,.inl ⟨a,rfl,rfl,rfl⟩,rfl,np.nil _ _ _⟩
 ·exact⟨_,_,[],none,.inr (.inl ⟨a,h,rfl,rfl,rfl⟩),rfl,np.nil _ _ _⟩
 ·exact⟨_,_,jS j,g,.inr (.inr (.inl ⟨a,j,k,b,rfl,rfl,rfl⟩)),by rw[je],i⟩
 ·exact⟨_,_,[],none,.inr (.inr (.inr ⟨a,j,k,b,rfl,rfl,rfl⟩)),rfl,np.nil _ _ _⟩
theorem Nr(g h:List Int)(e f:Option Addr)(b c:Nat)(d:World)(o:cZ d.heap.size d e g)(p:cZ d.heap.size d f h)(u:g.length<=b)(v:b<=maxLen)(w:h.length<=c)(y:c<=maxLen):
 Calls Tryz.prog 201 #[.slice e g.length b,.slice f h.length c] d fun D m=>Below d.heap.size d m∧∃k l val x,fs [(g,h)] k l val∧D=.returned (.tuple #[.slice x val.length val.length,.bool l,.int .i64 k])∧np m.heap.size m x val:=by
 have a:Below d.heap.size d (d.alloc (.cells #[.slice e g.length b,.slice f h.length c] 79)):=(ah _ d).alloc (af _) _;have i:(d.alloc (.cells #[.slice e g.length b,.slice f h.length c] 79)).heap[d.heap.size]?=some (.cells #[.slice e g.length b,.slice f h.length c] 79):=aM d _;have s:dw (d.alloc (.cells #[.slice e g.length b,.slice f h.length c] 79)).heap.size (d.alloc (.cells #[.slice e g.length b,.slice f h.length c] 79)) (some ⟨d.heap.size,0,none⟩) [(g,h)]:=by
  intro E C;obtain rfl:E=0:=by simp at C;omega
  exact⟨d.heap.size,0,rfl,by simp,e,b,f,c,(dp i 0).trans rfl,(dp i 1).trans rfl,(o.below a).mono a.size,(p.below a).mono a.size,u,v,w,y⟩
 have r:=hid (NT [(g,h)] (by simp) (some ⟨d.heap.size,0,none⟩) 1 _ s);have n:=hid a;clear s i o p a;go_enter Tryz.func201,Tryz.ntmps201;go_wp2_with fail;refine r.out.mono ?_;rintro D F⟨q,j⟩;obtain⟨k,l,val,x,z,rfl,t⟩:=j.says;have B:=hid z;have A:=hid t;clear r j z t;go_wp2;go_ret3
 exact⟨n.out.trans (q.mono n.out.size),k,l,val,x,B.out,rfl,A.out⟩
theorem Wb.split(d:Tm.run b 1=b.length)(e:Tm.run f 1=f.length)(g:b++o=f++B):b=f∧o=B:=by
 have a:=mh b o 1 (by omega);have c:=mh f B 1 (by omega);rw[g,c,d,e]at a;exact List.append_inj g a.symm
theorem Wb.FQ(a:Wb.Sb)(b:h<0):Wb.App a [h]=a h:=by rw[Wb.jo,aD b,Wb.sQ,cW]
theorem Tryz.uK:(Tryz.prog.info? 79).map (fun a=>(a.zero,a.size,a.bytes))=some (some (.agg #[.slice none 0 0,.slice none 0 0]),2,48):=by kernel_rfl
theorem Jd(a:List Int)(f:Int)(w:Option Addr)(g:Nat)(n:World)(h:cZ n.heap.size n w a)(q:a.length<=maxLen):
 Calls Tryz.prog 163 #[.slice w a.length g,.int .i64 f] n fun o v=>∃k:Int,o=.returned (.int .i64 k)∧decide (0<=k)=iK a f∧v=n:=by
 unfold maxLen at q;go_enter Tryz.func163,Tryz.ntmps163;go_wp2;go_loop [8](fun s=>∃k:Nat,k<=a.length∧s=.int .i64 (k:Int)∧∀t,t<k->a[t]?.getD 0≠f)(fun s=>a.length-(intOf s).toNat)
 case atStart=>exact⟨0,bf _,rfl,fun t A=>by omega⟩
 case round=>
  obtain⟨k,B,rfl,b⟩:=hrel;by_cases d:k<a.length
  ·have p:(k:Int)<(a.length:Int):=by omega
   obtain⟨C,y,rfl,z,j⟩:=h.at (by omega);have x:=j k d;have l:=hid (Jg b);have m:=hid (@Fg a f k d);clear j h b;generalize a[k]?.getD 0=u at*;by_cases c:u=f
   ·have i:(f==u)=true:=by simp[c]
    have e:=hid c;clear c;go_wp2;go_ret;exact⟨_,rfl,by rw[m.out e.out];simp,rfl⟩
   ·have i:(f==u)=false:=by simp;exact fun o=>c o.symm
    have e:=hid c;clear c;go_wp2;go_round
    case rel=>exact⟨k+1,by omega,by go_num,l.out e.out⟩
    case measure=>simp[intOf];omega
  ·obtain rfl:k=a.length:=by omega
   have r:=hid (CV b);clear b;go_wp2;go_ret;exact⟨-1,rfl,by rw[r.out];rfl,rfl⟩
theorem Du(a:List Int)(k:Int)(g:Option Addr)(b:Nat)(c:World)(h:cZ c.heap.size c g a)(i:a.length<=maxLen):
 Calls Tryz.prog 132 #[.slice g a.length b,.int .i64 k] c fun l j=>l=.returned (.bool (iK a k))∧j=c:=by
 have d:=Jd a k g b c h i;go_enter Tryz.func132,Tryz.ntmps132;go_wp2_with fail;refine d.mono ?_;rintro l c⟨m,rfl,e,rfl⟩;have f:=hid e;clear e d;go_wp2;go_ret;exact⟨kM f.out,rfl⟩
theorem xd{p:Int->Bool}(c:a<b.length)(e:(b.take a).any p=false)(d:p (b[a]?.getD 0)=false):(b.take (a+1)).any p=false:=by
 rw[qv c,vI,e];simpa using d
theorem zB{p:Int->Bool}(c:a<b.length)(d:p (b[a]?.getD 0)=true):b.any p=true:=by
 rw[Rs];exact⟨b[a],ee c,by simpa [c]using d⟩
def ei(s:Int):Bool:=decide (s< -4)
def jN(L:List Int)(s:Int):Bool:=decide (s<0)&& !iK L s
theorem IE(b:Int)(c:World):Calls Tryz.prog 130 #[.int .i64 b] c fun d a=>d=.returned (.bool (ei b))∧a=c:=by
 go_enter Tryz.func130,Tryz.ntmps130;go_wp2;go_ret;exact⟨rfl,rfl⟩
theorem Nh(b:List Int)(c:Int)(l:Nat)(d:Option Addr)(g:Nat)(f:World)(o:f.cell? ⟨l,0,none⟩=some (.slice d b.length g))(i:cZ f.heap.size f d b)(j:b.length<=maxLen):
 Calls Tryz.prog 131 #[.int .i64 c,.pointer (some ⟨l,0,none⟩)] f fun m k=>m=.returned (.bool (jN b c))∧k=f:=by
 have h:=Du b c d g f i j;by_cases e:c<0
 ·have a:jN b c= !iK b c:=by unfold jN;rw[Rw e];rfl
  rw[a];clear a;generalize iK b c=p at*;go_enter Tryz.func131,Tryz.ntmps131;go_wp2_with(first
   |(go_at_call 132;refine h.mono ?_;rintro m f⟨rfl,rfl⟩))
  go_ret;exact⟨rfl,rfl⟩
 ·have a:jN b c=false:=by unfold jN;rw[Rr e];rfl
  have n:decide (c<0)=false:=by simpa using e
  rw[a];clear a;go_enter Tryz.func131,Tryz.ntmps131;go_wp2;go_ret;exact⟨rfl,rfl⟩
theorem GI(a:List Int)(w:Option Addr)(j:Nat)(i:World)(l:cZ i.heap.size i w a)(s:a.length<=maxLen):
 Calls Tryz.prog 164 #[.slice w a.length j,.func (.func 130) #[] #[]] i fun q v=>∃k:Int,q=.returned (.int .i64 k)∧decide (0<=k)=a.any (fun f=>ei f)∧v=i:=by
 unfold maxLen at s;have hF:=fun f=>IE f i
 go_enter Tryz.func164,Tryz.ntmps164;go_wp2;go_loop [8](fun u=>∃k:Nat,k<=a.length∧u=.int .i64 (k:Int)∧(a.take k).any (fun f=>ei f)=false)(fun u=>a.length-(intOf u).toNat)
 case atStart=>exact⟨0,bf _,rfl,by simp⟩
 case round=>
  obtain⟨k,A,rfl,b⟩:=hrel;by_cases e:k<a.length
  ·have r:(k:Int)<(a.length:Int):=by omega
   obtain⟨B,y,rfl,z,m⟩:=l.at (by omega);have x:=m k e;have g:=hid (xd (p:=fun f=>ei f) e b);have h:=hid (zB (p:=fun f=>ei f) e);have c:=hid (hF (a[k]?.getD 0));clear m l b;generalize a[k]?.getD 0=f at*;cases d:(ei f)with
   |true=>
    rw[d]at c;have o:=hid (h.out d);clear d g;go_wp2_with(go_at_call 130;refine c.out.mono ?_;rintro q i⟨rfl,rfl⟩)
    go_ret;exact⟨_,rfl,by rw[o.out];simp,rfl⟩
   |false=>
    rw[d]at c;have n:=hid (g.out d);clear d h;go_wp2_with(go_at_call 130;refine c.out.mono ?_;rintro q i⟨rfl,rfl⟩)
    go_round
    case rel=>exact⟨k+1,by omega,by go_num,n.out⟩
    case measure=>simp[intOf];omega
  ·obtain rfl:k=a.length:=by omega
   rw[cJ]at b;have t:=hid b;clear b;go_wp2;go_ret;exact⟨-1,rfl,by rw[t.out];rfl,rfl⟩
theorem wH(a:List Int)(g:Option Addr)(b:Nat)(c:World)(h:cZ c.heap.size c g a)(i:a.length<=maxLen):
 Calls Tryz.prog 133 #[.slice g a.length b,.func (.func 130) #[] #[]] c fun k j=>k=.returned (.bool (a.any (fun l=>ei l)))∧j=c:=by
 have d:=GI a g b c h i;go_enter Tryz.func133,Tryz.ntmps133;go_wp2_with fail;refine d.mono ?_;rintro k c⟨m,rfl,e,rfl⟩;have f:=hid e;clear e d;go_wp2;go_ret;exact⟨kM f.out,rfl⟩
theorem F0(a:List Int)(h:List Int)(u:Nat)(m:Option Addr)(n:Nat)(D:Option Addr)(o:Nat)(g:World)(r:cZ g.heap.size g D a)(z:a.length<=maxLen)(q:g.cell? ⟨u,0,none⟩=some (.slice m h.length n))(s:cZ g.heap.size g m h)(i:h.length<=maxLen):
 Calls Tryz.prog 164 #[.slice D a.length o,.func (.func 131) #[] #[.pointer (some ⟨u,0,none⟩)]] g fun x C=>∃k:Int,x=.returned (.int .i64 k)∧decide (0<=k)=a.any (fun f=>jN h f)∧C=g:=by
 unfold maxLen at z;have hF:=fun f=>Nh h f u m n g q s i
 clear q s i;go_enter Tryz.func164,Tryz.ntmps164;go_wp2;go_loop [8](fun B=>∃k:Nat,k<=a.length∧B=.int .i64 (k:Int)∧(a.take k).any (fun f=>jN h f)=false)(fun B=>a.length-(intOf B).toNat)
 case atStart=>exact⟨0,bf _,rfl,by simp⟩
 case round=>
  obtain⟨k,H,rfl,b⟩:=hrel;by_cases e:k<a.length
  ·have y:(k:Int)<(a.length:Int):=by omega
   obtain⟨I,F,rfl,G,t⟩:=r.at (by omega);have E:=t k e;have j:=hid (xd (p:=fun f=>jN h f) e b);have l:=hid (zB (p:=fun f=>jN h f) e);have c:=hid (hF (a[k]?.getD 0));clear t r b;generalize a[k]?.getD 0=f at*;cases d:(jN h f)with
   |true=>
    rw[d]at c;have w:=hid (l.out d);clear d j;go_wp2_with(go_at_call 131;refine c.out.mono ?_;rintro x g⟨rfl,rfl⟩)
    go_ret;exact⟨_,rfl,by rw[w.out];simp,rfl⟩
   |false=>
    rw[d]at c;have v:=hid (j.out d);clear d l;go_wp2_with(go_at_call 131;refine c.out.mono ?_;rintro x g⟨rfl,rfl⟩)
    go_round
    case rel=>exact⟨k+1,by omega,by go_num,v.out⟩
    case measure=>simp[intOf];omega
  ·obtain rfl:k=a.length:=by omega
   rw[cJ]at b;have A:=hid b;clear b;go_wp2;go_ret;exact⟨-1,rfl,by rw[A.out];rfl,rfl⟩
theorem CK(a:List Int)(e:List Int)(j:Nat)(d:Option Addr)(f:Nat)(l:Option Addr)(c:Nat)(b:World)(n:cZ b.heap.size b l a)(p:a.length<=maxLen)(m:b.cell? ⟨j,0,none⟩=some (.slice d e.length f))(o:cZ b.heap.size b d e)(i:e.length<=maxLen):
 Calls Tryz.prog 133 #[.slice l a.length c,.func (.func 131) #[] #[.pointer (some ⟨j,0,none⟩)]] b fun r q=>r=.returned (.bool (a.any (fun s=>jN e s)))∧q=b:=by
 have g:=F0 a e j d f l c b n p m o i;go_enter Tryz.func133,Tryz.ntmps133;go_wp2_with fail;refine g.mono ?_;rintro r b⟨t,rfl,h,rfl⟩;have k:=hid h;clear h g;go_wp2;go_ret;exact⟨kM k.out,rfl⟩
def ff(L R:List Int):Int:=
 if Tm.err L=0 then(if Tm.err R=0 then(if L.any ei=true then 3 else if R.any ei=true then 3 else if L[0]?.getD 0<0 then 1 else if R.any (jN L)=true then 4 else 0)else Tm.err R)else Tm.err L
theorem EJ(j l:List Int)(u e:Option Addr)(f h:Nat)(w:World)(O:cZ w.heap.size w u j)(P:cZ w.heap.size w e l):
 Calls Tryz.prog 102 #[.agg #[.slice u j.length f,.slice e l.length h]] w fun q G=>q=.returned (.int .i64 (ff j l))∧Below w.heap.size w G:=by
 have y:Below w.heap.size w (w.alloc (.cells #[.slice u j.length f,.slice e l.length h] 70)):=(ah _ w).alloc (af _) _;have z:=aM w (.cells #[.slice u j.length f,.slice e l.length h] 70);obtain⟨d,N⟩:∃d,w.alloc (.cells #[.slice u j.length f,.slice e l.length h] 70)=d:=⟨_,rfl⟩;rw[N]at y z;have C:=hid N;clear N;have V:d.cell? ⟨w.heap.size,0,none⟩=some (.slice u j.length f):=by simp[World.cell?,z]
 have Y:d.cell? ⟨w.heap.size,1,none⟩=some (.slice e l.length h):=by simp[World.cell?,z]
 have S:w.heap.size<d.heap.size:=(ak.1 z).1;have v:=(O.below y).mono y.size;have A:=(P.below y).mono y.size;have o:=jn j u f d v;have s:=hid (fun r(i:Below d.heap.size d r)=>jn l e h r ((A.below i).mono i.size));have E:=hid (fun r(i:Below d.heap.size d r)=>(i.cell (p:=⟨w.heap.size,0,none⟩) S).trans V);have t:=hid (fun r(i:Below d.heap.size d r)=>(i.cell (p:=⟨w.heap.size,1,none⟩) S).trans Y);have Yg:(w.alloc (.cells #[.slice u j.length f,.slice e l.length h] 70)).cell? ⟨w.heap.size,0,none⟩=some (.slice u j.length f):=by rw[C.out];exact V
 have Yh:∀(W:Fn)(first R:Array Value)(w:World),(Instr.makeFunc W first R).run Tryz.prog w=.ok (.func W first R) w:=fun _ _ _ _=>rfl
 have g:=hid y;clear z y;by_cases x:Tm.err j=0
 ·by_cases F:Tm.err l=0
  ·have Yl:=cK x
   have Ym:=cK F;have X:=dU x;have Yj:(0:Int)<(j.length:Int):=by omega
   have H:=hid (fun r(i:Below d.heap.size d r)=>wH j u f r ((v.below i).mono i.size) (by unfold maxLen;omega));have B:=hid (fun r(i:Below d.heap.size d r)=>wH l e h r ((A.below i).mono i.size) (by unfold maxLen;omega));have T:=hid (fun r(i:Below d.heap.size d r)=>CK l j w.heap.size u f e h r ((A.below i).mono i.size) (by unfold maxLen;omega) (E.out r i) ((v.below i).mono i.size) (by unfold maxLen;omega));obtain⟨K,n,rfl,_,_⟩:=v.at X;have J:=hid (fun r(i:Below d.heap.size d r)=>show r.cell? ⟨K,n+0,none⟩=some (.int .i64 (j[0]?.getD 0))by
    obtain⟨_,_,q,_,Z⟩:=((v.below i).mono i.size) 0 X;cases q;exact Z)
   simp only[gp]at J;have D:ff j l=(if j.any ei=true then 3 else if l.any ei=true then 3 else if j[0]?.getD 0<0 then 1 else if l.any (jN j)=true then 4 else 0):=by unfold ff;rw[aD x,aD F]
   rw[D];rw[x]at o;rw[F]at s;clear x F D O P v A;generalize j[0]?.getD 0=Yk at*;change Hid (∀r,Below d.heap.size d r->Calls _ _ _ r fun q G=>q=.returned (.bool (l.any (jN j)))∧G=r)at T;change Hid (∀r,Below d.heap.size d r->Calls _ _ _ r fun q G=>q=.returned (.bool (j.any ei))∧G=r)at H;change Hid (∀r,Below d.heap.size d r->Calls _ _ _ r fun q G=>q=.returned (.bool (l.any ei))∧G=r)at B;generalize l.any (jN j)=Yf at*;generalize j.any ei=Yd at*;generalize l.any ei=Ye at*;cases Yd with
   |true=>
    rw[aD rfl];go_enter Tryz.func102,Tryz.ntmps102;go_wp2_with(first
     |(go_at_call_of 112(Value.slice (some ⟨K,n,none⟩) j.length f);rw[C.out];refine o.mono ?_;clear o;rintro q k⟨rfl,c⟩;have I:=t.out k c)
     |(go_at_call_of 112(Value.slice e l.length h);refine(s.out k c).mono ?_;clear s;rintro q a⟨rfl,m⟩;have b:=c.trans (m.mono c.size);have L:=E.out a b;have M:=t.out a b)
     |(go_at_call_of 133(Value.slice (some ⟨K,n,none⟩) j.length f);refine(H.out a b).mono ?_;rintro q a⟨rfl,rfl⟩))
    go_ret;exact⟨rfl,g.out.trans (b.mono g.out.size)⟩
   |false=>
    rw[aE (by decide)];cases Ye with
    |true=>
     rw[aD rfl];go_enter Tryz.func102,Tryz.ntmps102;go_wp2_with(first
      |(go_at_call_of 112(Value.slice (some ⟨K,n,none⟩) j.length f);rw[C.out];refine o.mono ?_;clear o;rintro q k⟨rfl,c⟩;have I:=t.out k c)
      |(go_at_call_of 112(Value.slice e l.length h);refine(s.out k c).mono ?_;clear s;rintro q a⟨rfl,m⟩;have b:=c.trans (m.mono c.size);have L:=E.out a b;have M:=t.out a b)
      |(go_at_call_of 133(Value.slice (some ⟨K,n,none⟩) j.length f);refine(H.out a b).mono ?_;rintro q a⟨rfl,rfl⟩)
      |(go_at_call_of 133(Value.slice e l.length h);refine(B.out a b).mono ?_;clear B;rintro q a⟨rfl,rfl⟩;have U:=J.out a b))
     go_ret;exact⟨rfl,g.out.trans (b.mono g.out.size)⟩
    |false=>
     rw[aE (by decide)];by_cases Q:Yk<0
     ·rw[aD Q]
      go_enter Tryz.func102,Tryz.ntmps102;go_wp2_with(first
       |(go_at_call_of 112(Value.slice (some ⟨K,n,none⟩) j.length f);rw[C.out];refine o.mono ?_;clear o;rintro q k⟨rfl,c⟩;have I:=t.out k c)
       |(go_at_call_of 112(Value.slice e l.length h);refine(s.out k c).mono ?_;clear s;rintro q a⟨rfl,m⟩;have b:=c.trans (m.mono c.size);have L:=E.out a b;have M:=t.out a b)
       |(go_at_call_of 133(Value.slice (some ⟨K,n,none⟩) j.length f);refine(H.out a b).mono ?_;rintro q a⟨rfl,rfl⟩)
       |(go_at_call_of 133(Value.slice e l.length h);refine(B.out a b).mono ?_;clear B;rintro q a⟨rfl,rfl⟩;have U:=J.out a b))
      go_ret;exact⟨rfl,g.out.trans (b.mono g.out.size)⟩
     ·rw[aE Q]
      have Yi:decide (Yk<0)=false:=by simpa using Q
      clear Q;cases Yf with
      |true=>
       rw[aD rfl];go_enter Tryz.func102,Tryz.ntmps102;go_wp2_with(first
        |(go_at_call_of 112(Value.slice (some ⟨K,n,none⟩) j.length f);rw[C.out];refine o.mono ?_;clear o;rintro q k⟨rfl,c⟩;have I:=t.out k c)
        |(go_at_call_of 112(Value.slice e l.length h);refine(s.out k c).mono ?_;clear s;rintro q a⟨rfl,m⟩;have b:=c.trans (m.mono c.size);have L:=E.out a b;have M:=t.out a b)
        |(go_at_call_of 133(Value.slice (some ⟨K,n,none⟩) j.length f);refine(H.out a b).mono ?_;rintro q a⟨rfl,rfl⟩)
        |(go_at_call_of 133(Value.slice e l.length h);refine(B.out a b).mono ?_;clear B;rintro q a⟨rfl,rfl⟩;have U:=J.out a b)
        |(go_at_call_of 133(Value.slice e l.length h);refine(T.out a b).mono ?_;rintro q a⟨rfl,rfl⟩))
       go_ret;exact⟨rfl,g.out.trans (b.mono g.out.size)⟩
      |false=>
       rw[aE (by decide)];go_enter Tryz.func102,Tryz.ntmps102;go_wp2_with(first
        |(go_at_call_of 112(Value.slice (some ⟨K,n,none⟩) j.length f);rw[C.out];refine o.mono ?_;clear o;rintro q k⟨rfl,c⟩;have I:=t.out k c)
        |(go_at_call_of 112(Value.slice e l.length h);refine(s.out k c).mono ?_;clear s;rintro q a⟨rfl,m⟩;have b:=c.trans (m.mono c.size);have L:=E.out a b;have M:=t.out a b)
        |(go_at_call_of 133(Value.slice (some ⟨K,n,none⟩) j.length f);refine(H.out a b).mono ?_;rintro q a⟨rfl,rfl⟩)
        |(go_at_call_of 133(Value.slice e l.length h);refine(B.out a b).mono ?_;clear B;rintro q a⟨rfl,rfl⟩;have U:=J.out a b)
        |(go_at_call_of 133(Value.slice e l.length h);refine(T.out a b).mono ?_;rintro q a⟨rfl,rfl⟩))
       go_ret;exact⟨rfl,g.out.trans (b.mono g.out.size)⟩
  ·have D:ff j l=Tm.err l:=by unfold ff;rw[aD x,aE F]
   have Yc:(Tm.err l !=0)=true:=by simpa using F
   rw[D];rw[x]at o;clear x F D O P v A;generalize Tm.err l=Yn at*;go_enter Tryz.func102,Tryz.ntmps102;go_wp2_with(first
    |(go_at_call_of 112(Value.slice u j.length f);rw[C.out];refine o.mono ?_;clear o;rintro q k⟨rfl,c⟩;have I:=t.out k c)
    |(go_at_call_of 112(Value.slice e l.length h);refine(s.out k c).mono ?_;clear s;rintro q a⟨rfl,m⟩;have b:=c.trans (m.mono c.size);have L:=E.out a b;have M:=t.out a b))
   go_ret;exact⟨rfl,g.out.trans (b.mono g.out.size)⟩
 ·have D:ff j l=Tm.err j:=by unfold ff;rw[aE x]
  have Yc:(Tm.err j !=0)=true:=by simpa using x
  rw[D];clear x D O P v A;generalize Tm.err j=Yn at*;go_enter Tryz.func102,Tryz.ntmps102;go_wp2_with(first
   |(go_at_call_of 112(Value.slice u j.length f);rw[C.out];refine o.mono ?_;clear o;rintro q k⟨rfl,c⟩;have I:=t.out k c))
  go_ret;exact⟨rfl,g.out.trans (c.mono g.out.size)⟩
def gw:bu->Int
 |[]=>0
 |r::l=>if ff r.1 r.2=0 then gw l else ff r.1 r.2
def cm(rs:bu):Int:=if 8<rs.length then 2 else gw rs
theorem sW(c:a<j.length)(b:ff (j[a]?.getD ([],[])).1 (j[a]?.getD ([],[])).2=0):gw (j.drop a)=gw (j.drop (a+1)):=by
 rw[bZ c,gw];simp only[c,an,dy]at b;rw[aD b]
theorem vB(c:a<j.length)(b:ff (j[a]?.getD ([],[])).1 (j[a]?.getD ([],[])).2≠0):gw (j.drop a)=ff (j[a]?.getD ([],[])).1 (j[a]?.getD ([],[])).2:=by
 rw[bZ c,gw];simp only[c,an,dy]at b⊢;rw[aE b]
theorem lf(a:bu)(K:Option Addr)(z:Nat)(y:World)(x:dw y.heap.size y K a):
 Calls Tryz.prog 75 #[.slice K a.length z] y fun D I=>D=.returned (.int .i64 (cm a))∧Below y.heap.size y I:=by
 by_cases m:8<a.length
 ·have A:(8:Int)<(a.length:Int):=by omega
  have k:cm a=2:=by unfold cm;rw[aD m]
  rw[k];clear m k x;go_enter Tryz.func75,Tryz.ntmps75;go_wp2;go_ret;exact⟨rfl,ah _ _⟩
 ·have A:(a.length:Int)<=8:=by omega
  have k:cm a=gw a:=by unfold cm;rw[aE m]
  rw[k];clear k m;go_enter Tryz.func75,Tryz.ntmps75;go_wp2;go_loopw [11](fun H wr=>∃l:Nat,l<=a.length∧H=.int .i64 (l:Int)∧Hid (gw a=gw (a.drop l))∧Below y.heap.size y wr)(fun H _=>a.length-(intOf H).toNat)
  case atStart=>exact⟨0,bf _,rfl,hid rfl,ah _ _⟩
  case round=>
   obtain⟨l,N,rfl,j,f⟩:=hrel;by_cases i:l<a.length
   ·have G:(l:Int)<(a.length:Int):=by omega
    obtain⟨P,L,rfl,M,q,t,r,u,E,F,v,w,_⟩:=(x.below f) l i;have c:=hid (sW i);have d:=hid (vB i);obtain⟨n,B⟩:∃n,(a[l]?.getD ([],[])).1=n:=⟨_,rfl⟩;obtain⟨o,C⟩:∃o,(a[l]?.getD ([],[])).2=o:=⟨_,rfl⟩;rw[B]at E v c d;rw[C]at F w c d;have b:Below wr.heap.size wr (wr.alloc (.cells #[.slice q n.length t,.slice r o.length u] 70)):=(ah _ wr).alloc (af _) _;have h:=hid (EJ n o q r t u (wr.alloc (.cells #[.slice q n.length t,.slice r o.length u] 70)) (((v.mono f.size).below b).mono b.size) (((w.mono f.size).below b).mono b.size));have e:=f.trans (b.mono f.size);clear B C v w x;by_cases g:ff n o=0
    ·rw[g]at h
     have p:=hid (c.out g);clear g c d;go_wp2_with(first
      |(go_at_call 102;refine h.out.mono ?_;clear h;rintro D J⟨rfl,s⟩))
     go_roundw
     case rel=>exact⟨l+1,by omega,by go_num,hid (j.out.trans p.out),e.trans (s.mono e.size)⟩
     case measure=>simp[intOf];omega
    ·have O:(ff n o !=0)=true:=by simpa using g
     have p:=hid (d.out g);clear g c d;generalize ff n o=Q at*;go_wp2_with(first
      |(go_at_call 102;refine h.out.mono ?_;clear h;rintro D J⟨rfl,s⟩))
     go_ret;exact⟨rQ (j.out.trans p.out).symm,e.trans (s.mono e.size)⟩
   ·obtain rfl:l=a.length:=by omega
    go_wp2;go_ret;exact⟨by rw[j.out,eu];rfl,f⟩
