/-
  Parts of the proof.
-/
import Derived.Test.YtglohanbpjaieaaGreatDoorBdp14
set_option maxHeartbeats 4000000
set_option maxRecDepth 100000
namespace Go.Proofs.YtglohanbpjaieaaGreatDoor
open Go.Proofs Go.RowKit Go.Shelf Go.Maps
variable {a:Option Addr}{b:List Int}{c e:Nat}{d:World}
section
attribute [local go_sem] Oper.semAt_some
attribute [local go_sem ↓] Go.wp_at_zero Go.wp_at_succ
theorem yh(j:cZ c d a b)(g:0<b.length):a=none->e=0:=fun i=>by
 obtain⟨k,h,f,_⟩:=j 0 g;rw[i]at f;cases f
theorem wX(d a:World)(e b:Option Addr)(g f i h:Nat)(c:(((d.alloc (.cells #[.slice e g f] 31)).alloc (.cells #[.slice b i h] 68)).alloc (.cells #[.slice none 0 0] 101)).alloc (.cells #[.int .i64 0] 22)=a):
 Below d.heap.size d a∧Boxed a d.heap.size 31 (.slice e g f)∧Boxed a (d.heap.size+1) 68 (.slice b i h)∧Boxed a (d.heap.size+1+1) 101 (.slice none 0 0)∧Boxed a (d.heap.size+1+1+1) 22 (.int .i64 0)∧a.heap.size=d.heap.size+1+1+1+1:=by
 have k:Below d.heap.size d a:=by rw[<-c];exact((((ah _ d).alloc (af _) _).alloc (by simp) _).alloc (by simp;omega) _).alloc (by simp;omega) _
 have o:Boxed a d.heap.size 31 (.slice e g f):=by rw[<-c];exact(((dt d 31 (.slice e g f)).alloc _).alloc _).alloc _
 have p:Boxed a (d.heap.size+1) 68 (.slice b i h):=by
  rw[<-c];have j:=dt (d.alloc (.cells #[.slice e g f] 31)) 68 (.slice b i h);rw[bI]at j;exact(j.alloc _).alloc _
 have m:Boxed a (d.heap.size+1+1) 101 (.slice none 0 0):=by
  rw[<-c];have j:=dt ((d.alloc (.cells #[.slice e g f] 31)).alloc (.cells #[.slice b i h] 68)) 101 (.slice none 0 0);simp only[bI]at j;exact j.alloc _
 have n:Boxed a (d.heap.size+1+1+1) 22 (.int .i64 0):=by
  rw[<-c];have j:=dt (((d.alloc (.cells #[.slice e g f] 31)).alloc (.cells #[.slice b i h] 68)).alloc (.cells #[.slice none 0 0] 101)) 22 (.int .i64 0);simpa only[bI]using j
 have l:a.heap.size=d.heap.size+1+1+1+1:=by rw[<-c];simp
 exact⟨k,o,p,m,n,l⟩
def l7(rs:bu)(t:List Int)(w:World)(e:Ending)(w':World):Prop:=∃v,e=.returned (.tuple #[v,.int .i64 (dS rs t)])∧mw w.heap.size w' v (dT rs t)∧Below w.heap.size w w'
structure QH(rs:bu)(t:List Int)(w2:World)(B:Nat)(tv:Value)(m:Nat)(W:World):Prop where
 no:jv rs t m=0
 inv:zo w2 B tv (iN rs t m) W
structure QK(rs:bu)(t:List Int)(w:World)(n:Nat)(c:Code)(W:World):Prop where
 ret:c=.ret
 bad:jv rs t t.length≠0
 b0:Boxed W (n+1+1) 101 (.slice none 0 0)
 b1:Boxed W (n+1+1+1) 22 (.int .i64 (jv rs t t.length))
 kp:Below n w W
theorem GW(rs:bu)(t:List Int)(Yl g:Option Addr)(R d:Nat)(b:World)(M:cm rs=0)(Yt:Tm.err t=0)(ZP:dw b.heap.size b Yl rs)(ZQ:cZ b.heap.size b g t)(E:t.length<=d)(Za:d<=maxLen):
 Calls Tryz.prog 107 #[.slice Yl rs.length R,.slice g t.length d] b fun Ye az=>l7 rs t b Ye az:=by
 obtain⟨ZV,hF⟩:∃ZV,ZV=Fence.wide:=⟨_,rfl⟩;refine(gx (n:=3)).1 ?_;rw[<-hF];obtain⟨f,D,I,U⟩:=jk hF;have Zd:Hid (Pl ZV):=by rw[hF];exact nj
 have bS:=hid hF;clear hF;have ar:=D 107;have bt:=D 75;have bw:=D 112;have bx:=D 142;have au:=D 172;have bz:=D 143;have bA:=D 144;clear D;have bO:=cK Yt;have ZU:=dU Yt;obtain⟨a8,YW⟩:=dV M;obtain⟨YD,YV⟩:∃YD,(((b.alloc (.cells #[.slice Yl rs.length R] 31)).alloc (.cells #[.slice g t.length d] 68)).alloc (.cells #[.slice none 0 0] 101)).alloc (.cells #[.int .i64 0] 22)=YD:=⟨_,rfl⟩;obtain⟨A,Z6,ZL,ZI,ZJ,bE⟩:=wX b YD Yl g rs.length R t.length d YV;have Ze:=hid YV;clear YV;have Zl:=Z6.cell;have ZD:=hid (U (n:=2) (lf rs Yl R YD ((ZP.below A).mono A.size)));rw[M]at ZD;have ZE:=hid (fun Yc(aq:Below YD.heap.size YD Yc)=>U (n:=2) (jn t g d Yc ((ZQ.below (A.trans (aq.mono A.size))).mono (aK A.size aq.size))));rw[Yt]at ZE;refine eE Tryz.func107 rfl ar ?_ f;simp only[Tryz.ntmps107,cY,aI,bH,Nat.reduceAdd,Nat.reduceSub,bM,bQ,cE,bY,bV,bc];gi_wp2_with fail
 rw[Ze.out];gi_wp2_with(first
  |((try refine⟨I _,?_⟩);gi_at_call 75;refine ZD.out.mono ?_;rintro Ye bk⟨rfl,Yf⟩;have Z9:=(Yf.cell (p:=⟨b.heap.size+1,0,none⟩) (by show b.heap.size+1<_;omega)).trans ZL.cell)
  |((try refine⟨I _,?_⟩);gi_at_call 112;refine(ZE.out bk Yf).mono ?_;rintro Ye e⟨rfl,Zn⟩;have u:=Yf.trans (Zn.mono Yf.size);have Zm:=(u.cell (p:=⟨b.heap.size+1,0,none⟩) (by show b.heap.size+1<_;omega)).trans ZL.cell;have aa:(e.alloc (.cells #[.slice none 0 0] 101)).cell? ⟨b.heap.size+1,0,none⟩=some (.slice g t.length d):=(aH (a:=⟨b.heap.size+1,0,none⟩) (cM e _ (b.heap.size+1) (by have:=u.size;omega))).trans Zm)
  |((try refine⟨I _,?_⟩);gi_at_call 142;refine(Cr ZV Zd.out _ _ _ _ _).mono ?_;rintro Ye az⟨rfl,rfl⟩))
 have Yo:Below b.heap.size b e:=A.trans (u.mono A.size);have bB:b.heap.size+1+1+1+1<=e.heap.size:=by have:=u.size;omega
 have Z8:=(u.cell (p:=⟨b.heap.size,0,none⟩) (by show b.heap.size<_;omega)).trans Zl;have Zh:Boxed e (b.heap.size+1+1) 101 (.slice none 0 0):=(u.block _ ZI.lt).trans ZI;have Zj:Boxed e (b.heap.size+1+1+1) 22 (.int .i64 0):=(u.block _ ZJ.lt).trans ZJ;have Z7:=(dt e 101 (.slice none 0 0)).alloc (.cells #[.slice g t.length d] 68);have ZK:=dt (e.alloc (.cells #[.slice none 0 0] 101)) 68 (.slice g t.length d);rw[bI]at ZK;have Zo:Below e.heap.size e ((e.alloc (.cells #[.slice none 0 0] 101)).alloc (.cells #[.slice g t.length d] 68)):=((ah _ e).alloc (af _) _).alloc (by simp) _;have Z0:QH rs t e e.heap.size (.slice g t.length d) 0 ((e.alloc (.cells #[.slice none 0 0] 101)).alloc (.cells #[.slice g t.length d] 68)):=⟨rfl,⟨⟨_,Z7,mw.nil _ _⟩,ZK,Zo⟩⟩;have Y2:((e.alloc (.cells #[.slice none 0 0] 101)).alloc (.cells #[.slice g t.length d] 68)).heap.size=e.heap.size+1+1:=by simp
 obtain⟨YE,Zs⟩:∃YE,(e.alloc (.cells #[.slice none 0 0] 101)).alloc (.cells #[.slice g t.length d] 68)=YE:=⟨_,rfl⟩;rw[Zs]at Z0 Y2⊢;have aF:=hid ZP;have Y7:=hid ZQ;have ZG:=hid YW;have Yu:=hid (show dS rs t=jv rs t t.length by unfold dS;rw[aD M,aD Yt]);have aB:(t.length:Int)<=30:=by omega
 have br:(rs.length:Int)<=8:=by omega
 clear Zs Z7 ZK Zo Z9 aa Yf Zn ZD ZE Ze Zl Z6 ZL ZI ZJ ZP ZQ YW M A;refine jf f (by omega) (gf:=172) (lb:=#[.pointer (some ⟨e.heap.size+1,0,none⟩)]) rfl au (iW Tryz.func172 (by kernel_rfl) rfl)
  (zD ZV Zd.out _ (e.heap.size+1) d g t (by omega)) (fun _=>rfl)
  (QH rs t e e.heap.size (.slice g t.length d)) (QK rs t b b.heap.size) (fun _ _=>False) (.inl fun _ _ o=>o)
  (by
    rintro c YJ bT row⟨no,r⟩V M;exact⟨no,r.own (af _) (by omega) V M⟩)
  (by
    rintro bU YJ bT row⟨E,Za,ak,a7,F⟩V M;exact⟨E,Za,gX ak V M,gX a7 V M,⟨V.os.trans F.os,V.tape.trans F.tape,V.output.trans F.output,aK F.size V.size,fun h YI=>(V.block h (by have:=F.size;omega) (fun Ye=>by have:=(M h Ye.symm).1;omega)).trans (F.block h YI)⟩⟩)
  (fun c Yc an=>⟨an.inv.bP.cell,by
    have S:=Yo.trans (an.inv.kp.mono (by omega));exact(Y7.out.below S).mono S.size⟩)
  Z0
  (fun c=>{tmps:=#[.slice Yl rs.length R,.slice g t.length d,.pointer (some ⟨b.heap.size,0,none⟩),.pointer (some ⟨b.heap.size+1,0,none⟩),.pointer (some ⟨b.heap.size+1+1,0,none⟩),.pointer (some ⟨b.heap.size+1+1+1,0,none⟩),.int .i64 0,.int .i64 0,.pointer (some ⟨e.heap.size,0,none⟩),.int .i64 (c:Int),.int .i64 (Tm.dn t c:Int),
    undef,undef,undef,undef,undef,undef,undef,.slice Yl rs.length R,.int .i64 0,.int .i64 0,.bool false,undef,.slice g t.length d,.int .i64 0,.int .i64 0,.bool false,undef,.slice g t.length d,.func (.func 172) #[] #[.pointer (some ⟨e.heap.size+1,0,none⟩)],.int .i64 (c:Int),.int .i64 (Tm.dn t c:Int),
    undef,undef,undef,undef,undef,undef,undef,undef,undef,undef,undef,undef,undef,undef,undef,undef,undef,undef,undef,undef,undef,undef,undef,undef,undef,undef,undef,undef,undef,undef,undef,undef,undef,undef,undef,undef,undef,undef,undef,undef,undef],defers:=[]}) ?assign ?body ?done ?stop ?panic
 case assign=>
  intro bg c Yc Yw k;simp only[OE];gi_wp2
  exact k
 case body=>
  rintro bg c Yc⟨no,r⟩Zb;have bX:=(r.kp.cell (p:=⟨b.heap.size,0,none⟩) (by show b.heap.size<_;omega)).trans Z8;have Z:=hid no;have ZH:=hid r;clear no r;gi_wp2_with fail
  gi_loopw [34](fun v YJ=>∃h:Nat,h<=rs.length∧v=.int .i64 (h:Int)∧Hid (jI rs t c h=0)∧Hid (zo e e.heap.size (.slice g t.length d) (iN rs t c++jt rs t c h) YJ)∧KeepsFrom YE.heap.size Yc YJ)(fun v _=>rs.length-(intOf v).toNat)
  case atStart=>exact⟨0,bf _,rfl,hid rfl,hid (by rw[jt,cW];exact ZH.out),KeepsFrom.refl _ _⟩
  case round=>
   obtain⟨h,YI,rfl,W,x,YX⟩:=hrel;by_cases YY:h<rs.length
   ·have bb:(h:Int)<(rs.length:Int):=by omega
    have P:=Yo.trans (x.out.kp.mono (by omega));obtain⟨aA,YC,rfl,S,Yk,H,YG,YH,b0,b1,ZM,ae,ag,aj,aZ,a1⟩:=(aF.out.below P) h YY;obtain⟨Y9,aW,_⟩:=eo (ZG.out h YY);have YZ:=hid (CO (rs:=rs) (t:=t) W.out);have Y3:=hid (AP (rs:=rs) (t:=t) W.out);have YS:=hid (CA (rs:=rs) (t:=t) (a:=c) (n:=h));have YT:=hid (Av (rs:=rs) (t:=t) (a:=c) (n:=h));have X:=hid (zq (rs:=rs) (t:=t) Z.out W.out Zb YY);have Zu:mx rs t c h=oE (rs[h]?.getD ([],[])).1 (cD t c):=rfl;have Zv:j3 rs t c h=lg (lK (rs[h]?.getD ([],[])).1 (cD t c)) t (c:Int) (rs[h]?.getD ([],[])).2:=rfl;have ZA:ob rs t c h=mj (lK (rs[h]?.getD ([],[])).1 (cD t c)) t (c:Int) (rs[h]?.getD ([],[])).2:=rfl;generalize(rs[h]?.getD ([],[])).1=Zg at*;generalize(rs[h]?.getD ([],[])).2=ZW at*;have b3:=cK Y9;have bh:=dU Y9;have bP:=Tm.im t c;have bR:=gL Yt Zb;have Y0:=fZ Yt Zb;have Zx:=fD Yt Zb;obtain⟨L,N,rfl,bs,_⟩:=Y7.out.at ZU;have y:Below wr.heap.size wr (wr.alloc (.cells #[.slice Yk Zg.length H,.slice YG ZW.length YH] 70)):=(ah _ wr).alloc (af _) _;have T:=aM wr (.cells #[.slice Yk Zg.length H,.slice YG ZW.length YH] 70);obtain⟨j,YB⟩:∃j,wr.alloc (.cells #[.slice Yk Zg.length H,.slice YG ZW.length YH] 70)=j:=⟨_,rfl⟩;have bF:j.heap.size=wr.heap.size+1:=by rw[<-YB];simp
    rw[YB]at y T;have bZ:j.cell? ⟨wr.heap.size,0,none⟩=some (.slice Yk Zg.length H):=by simp[World.cell?,T]
    have aR:j.cell? ⟨wr.heap.size,1,none⟩=some (.slice YG ZW.length YH):=by simp[World.cell?,T]
    have O:Below b.heap.size b j:=P.trans (y.mono P.size);have ab:j.cell? ⟨b.heap.size+1,0,none⟩=some (.slice (some ⟨L,N,none⟩) t.length d):=by
     have aw:Below e.heap.size e j:=x.out.kp.trans (y.mono x.out.kp.size);exact(aw.cell (p:=⟨b.heap.size+1,0,none⟩) (by show b.heap.size+1<_;omega)).trans Zm
    have Y4:=hid (x.out.below (af _) y);have ZB:KeepsFrom YE.heap.size Yc j:=YX.trans (ju y);have G:=hid (fun YJ(Yp:Below j.heap.size j YJ)=>OY Zg (cD t c) Yk (some ⟨L,N+c,none⟩) H (d-c) YJ
     ((((ZM.mono P.size).below y).mono y.size|>.below Yp).mono Yp.size)
     (by have S:=O.trans (Yp.mono O.size);exact((Y7.out.sub c _).below S).mono S.size)
     ⟨ag,aj,yh ZM bh⟩ ⟨by rw[Y0];omega,by omega,fun Ye=>by cases Ye⟩)
    rw[Y0,rM Y9 Zx]at G;have Yv:=hid (fun YJ(Yp:Below j.heap.size j YJ)s(l:Option Addr)m(ba:np YJ.heap.size YJ l s)=>EV s t ZW (c:Int) l (some ⟨L,N,none⟩) YG m d YH YJ ba
     (by have S:=O.trans (Yp.mono O.size);exact(Y7.out.below S).mono S.size)
     ((((ae.mono P.size).below y).mono y.size|>.below Yp).mono Yp.size) E Za)
    have b4:(c:Int)<=(Tm.dn t c:Int):=by omega
    have b5:(Tm.dn t c:Int)<=(d:Int):=by omega
    have b6:¬d-c=0:=by omega
    have b7:(0:Int)<=(c:Int):=by omega
    have b8:¬d=c:=by omega
    rw[<-Zu]at G;have YP:Below j.heap.size j j.drew:=bD (ah _ j) 1;have ZY:=hid (eS bg (U (n:=0) (G.out j.drew YP)));have ZX:=hid YB;have Zc:Tryz.prog.follows .mixedOrders=true:=by kernel_rfl
    clear YB T G ZM ae ag aj aZ a1 Y9 aW Zx Y0 P Zu;generalize mx rs t c h=K at*;generalize lK Zg (cD t c)=s at*;gi_wp2_with fail
    rw[ZX.out];refine xD (Q:=fun Ye Z2 Z1=>Ye=.normal∧∃l m,Z2={tmps:=#[.slice (some ⟨aA,YC,none⟩) rs.length R,.slice (some ⟨L,N,none⟩) t.length d,.pointer (some ⟨b.heap.size,0,none⟩),.pointer (some ⟨b.heap.size+1,0,none⟩),.pointer (some ⟨b.heap.size+1+1,0,none⟩),.pointer (some ⟨b.heap.size+1+1+1,0,none⟩),.int .i64 0,.int .i64 0,.pointer (some ⟨e.heap.size,0,none⟩),.int .i64 (c:Int),.int .i64 (Tm.dn t c:Int),.int .i64 (h:Int),.pointer (some ⟨wr.heap.size,0,none⟩),.slice l s.length m,.bool K,.int .i64 0,u16,u17,.slice (some ⟨aA,YC,none⟩) rs.length R,.int .i64 0,.int .i64 0,.bool false,undef,.slice (some ⟨L,N,none⟩) t.length d,.int .i64 0,.int .i64 0,.bool false,undef,.slice (some ⟨L,N,none⟩) t.length d,.func (.func 172) #[] #[.pointer (some ⟨e.heap.size+1,0,none⟩)],.int .i64 (c:Int),.int .i64 (Tm.dn t c:Int),.slice (some ⟨aA,YC,none⟩) rs.length R,.int .i64 (rs.length:Int),.int .i64 (h:Int),.bool true,.int .i64 (h:Int),.pointer (some ⟨aA,YC+h*2,none⟩),.agg #[.slice Yk Zg.length H,.slice YG ZW.length YH],.tuple #[.slice l s.length m,.bool K,.int .i64 0],.pointer (some ⟨wr.heap.size,0,none⟩),.slice Yk Zg.length H,.slice (some ⟨L,N,none⟩) t.length d,.int .i64 (c:Int),.int .i64 (Tm.dn t c:Int),.slice (some ⟨L,N+c,none⟩) (Tm.dn t c-c) (d-c),.tuple #[.slice l s.length m,.bool K,.int .i64 0],.slice l s.length m,.bool K,.int .i64 0,u50,u51,u52,u53,u54,u55,u56,u57,u58,u59,u60,u61,u62,u63,u64,u65,u66,u67,u68,u69,u70,u71,undef],defers:=[]}∧il j.drew.heap.size Z1 (.slice l s.length m) s∧Below j.drew.heap.size j.drew Z1) ?reg ?cont
    case reg=>
     refine ni f (by kernel_rfl) Zc ?_;show wpAnyIn ZV _ _ _ _ _ 14 (Array.replicate 14 false) _ _;refine Rg (i:=0) (v:=.pointer (some ⟨wr.heap.size,0,none⟩)) f rfl (by kernel_rfl) (by kernel_rfl) (by kernel_rfl) (fun _ _ _ o=>absurd o.1 (by simp)) ⟨Or.inl ⟨by rfl,fun b=>by go_simp⟩,fun _=>rfl⟩ ?_;refine Rg (i:=3) (v:=.int .i64 (c:Int)) f rfl (by kernel_rfl) (by kernel_rfl) (by kernel_rfl) (fun _ _ _ o=>absurd o.1 (by simp)) ⟨Or.inl ⟨by rfl,fun b=>by go_simp⟩,fun _=>rfl⟩ ?_;refine Rg (i:=4) (v:=.int .i64 (Tm.dn t c:Int)) f rfl (by kernel_rfl) (by kernel_rfl) (by kernel_rfl) (fun _ _ _ o=>absurd o.1 (by simp)) ⟨Or.inl ⟨by rfl,fun b=>by go_simp⟩,fun _=>rfl⟩ ?_;refine Rc (rs:=[1,2]) (by kernel_rfl) (by simp) ?_;refine Ra rfl (fun Yw k=>?_) (Ra rfl (fun Yw k=>?_) Rb)
     ·go_simp
      refine k _ _ ?_;clear k Yw;refine Rc (rs:=[2]) (by kernel_rfl) (by simp) ?_;refine Ra rfl (fun Yw k=>?_) Rb;go_simp;refine k _ _ ?_;clear k Yw;refine Rg (i:=5) (v:=.slice (some ⟨L,N+c,none⟩) (Tm.dn t c-c) (d-c)) f rfl (by kernel_rfl) (by kernel_rfl) (by kernel_rfl) (fun _ _ _ o=>absurd o.1 (by simp)) ⟨Or.inl ⟨by rfl,fun b=>by go_simp⟩,fun _=>rfl⟩ ?_;refine Rc (rs:=[6]) (by kernel_rfl) (by simp) ?_;refine Ra rfl (fun Yw k=>?_) Rb;go_simp;gi_wp2_with(first|((try refine⟨I _,?_⟩);gi_at_call 143;refine ZY.out.mono ?_;rintro Ye aN⟨v,rfl,Yg,Yn⟩;obtain⟨l,m,rfl,_⟩:=Yg.qg))
      refine Rg (i:=7) (v:=.tuple #[.slice l s.length m,.bool K,.int .i64 0]) f rfl (by kernel_rfl) (by kernel_rfl) (by kernel_rfl) (fun _ _ _ o=>absurd o.1 (by simp)) ⟨Or.inl ⟨by rfl,fun b=>by go_simp⟩,fun _=>rfl⟩ ?_;refine Rg (i:=8) (v:=.slice l s.length m) f rfl (by kernel_rfl) (by kernel_rfl) (by kernel_rfl) (fun _ _ _ o=>absurd o.1 (by simp)) ⟨Or.inl ⟨by rfl,fun b=>by go_simp⟩,fun _=>rfl⟩ ?_;refine Rg (i:=9) (v:=.bool K) f rfl (by kernel_rfl) (by kernel_rfl) (by kernel_rfl) (fun _ _ _ o=>absurd o.1 (by simp)) ⟨Or.inl ⟨by rfl,fun b=>by go_simp⟩,fun _=>rfl⟩ ?_;refine Rg (i:=10) (v:=.int .i64 0) f rfl (by kernel_rfl) (by kernel_rfl) (by kernel_rfl) (fun _ _ _ o=>absurd o.1 (by simp)) ⟨Or.inl ⟨by rfl,fun b=>by go_simp⟩,fun _=>rfl⟩ ?_;refine Rg (i:=11) (v:=.slice l s.length m) f rfl (by kernel_rfl) (by kernel_rfl) (by kernel_rfl) (fun _ _ _ o=>absurd o.1 (by simp)) ⟨Or.inl ⟨by rfl,fun b=>by go_simp⟩,fun _=>rfl⟩ ?_;refine Rg (i:=12) (v:=.bool K) f rfl (by kernel_rfl) (by kernel_rfl) (by kernel_rfl) (fun _ _ _ o=>absurd o.1 (by simp)) ⟨Or.inl ⟨by rfl,fun b=>by go_simp⟩,fun _=>rfl⟩ ?_;refine Rc (rs:=[13]) (by kernel_rfl) (by simp) ?_;refine Ra rfl (fun Yw k=>?_) Rb;go_simp;refine k _ _ ?_;clear k Yw;refine Rm (by kernel_rfl) ?_ _;exact⟨rfl,l,m,rfl,Yg,Yn⟩
     ·go_simp
      refine k _ _ ?_;clear k Yw;refine Rg (i:=5) (v:=.slice (some ⟨L,N+c,none⟩) (Tm.dn t c-c) (d-c)) f rfl (by kernel_rfl) (by kernel_rfl) (by kernel_rfl) (fun _ _ _ o=>absurd o.1 (by simp)) ⟨Or.inl ⟨by rfl,fun b=>by go_simp⟩,fun _=>rfl⟩ ?_;refine Rc (rs:=[1]) (by kernel_rfl) (by simp) ?_;refine Ra rfl (fun Yw k=>?_) Rb;go_simp;refine k _ _ ?_;clear k Yw;refine Rc (rs:=[6]) (by kernel_rfl) (by simp) ?_;refine Ra rfl (fun Yw k=>?_) Rb;go_simp;gi_wp2_with(first|((try refine⟨I _,?_⟩);gi_at_call 143;refine ZY.out.mono ?_;rintro Ye aN⟨v,rfl,Yg,Yn⟩;obtain⟨l,m,rfl,_⟩:=Yg.qg))
      refine Rg (i:=7) (v:=.tuple #[.slice l s.length m,.bool K,.int .i64 0]) f rfl (by kernel_rfl) (by kernel_rfl) (by kernel_rfl) (fun _ _ _ o=>absurd o.1 (by simp)) ⟨Or.inl ⟨by rfl,fun b=>by go_simp⟩,fun _=>rfl⟩ ?_;refine Rg (i:=8) (v:=.slice l s.length m) f rfl (by kernel_rfl) (by kernel_rfl) (by kernel_rfl) (fun _ _ _ o=>absurd o.1 (by simp)) ⟨Or.inl ⟨by rfl,fun b=>by go_simp⟩,fun _=>rfl⟩ ?_;refine Rg (i:=9) (v:=.bool K) f rfl (by kernel_rfl) (by kernel_rfl) (by kernel_rfl) (fun _ _ _ o=>absurd o.1 (by simp)) ⟨Or.inl ⟨by rfl,fun b=>by go_simp⟩,fun _=>rfl⟩ ?_;refine Rg (i:=10) (v:=.int .i64 0) f rfl (by kernel_rfl) (by kernel_rfl) (by kernel_rfl) (fun _ _ _ o=>absurd o.1 (by simp)) ⟨Or.inl ⟨by rfl,fun b=>by go_simp⟩,fun _=>rfl⟩ ?_;refine Rg (i:=11) (v:=.slice l s.length m) f rfl (by kernel_rfl) (by kernel_rfl) (by kernel_rfl) (fun _ _ _ o=>absurd o.1 (by simp)) ⟨Or.inl ⟨by rfl,fun b=>by go_simp⟩,fun _=>rfl⟩ ?_;refine Rg (i:=12) (v:=.bool K) f rfl (by kernel_rfl) (by kernel_rfl) (by kernel_rfl) (fun _ _ _ o=>absurd o.1 (by simp)) ⟨Or.inl ⟨by rfl,fun b=>by go_simp⟩,fun _=>rfl⟩ ?_;refine Rc (rs:=[13]) (by kernel_rfl) (by simp) ?_;refine Ra rfl (fun Yw k=>?_) Rb;go_simp;refine k _ _ ?_;clear k Yw;refine Rm (by kernel_rfl) ?_ _;exact⟨rfl,l,m,rfl,Yg,Yn⟩
    case cont=>
     rintro Ye Z2 YF⟨rfl,l,m,rfl,Zq,al⟩;have w:Below j.heap.size j YF:=YP.trans (al.mono YP.size);have bd:j.heap.size<=YF.heap.size:=w.size;have bK:e.heap.size<=wr.heap.size:=x.out.kp.size;have J:=Y4.out.below (af _) w;have Y5:KeepsFrom YE.heap.size Yc YF:=ZB.trans (ju w);cases K with
     |false=>
      gi_wp2
      go_roundw
      case rel=>exact⟨h+1,by omega,by go_num,hid (YZ.out rfl),hid (by rw[YS.out rfl];exact J),Y5⟩
      case measure=>simp[intOf];omega
     |true=>
      obtain⟨_,_,ad,Zr,_⟩:=Zq.qg;cases ad;have bm:=(w.cell (p:=⟨b.heap.size+1,0,none⟩) (by show b.heap.size+1<_;omega)).trans ab;have bn:=(w.cell (p:=⟨wr.heap.size,1,none⟩) (by show wr.heap.size<_;omega)).trans aR;have z:=hid (eS bg (U (n:=0) (Yv.out YF w s l m Zr)));rw[<-Zv,<-ZA]at z;clear Yv Zq Zr Zv ZA;have Zi:Boxed YF (b.heap.size+1+1) 101 (.slice none 0 0):=(J.kp.block _ (by omega)).trans Zh;have Zk:Boxed YF (b.heap.size+1+1+1) 22 (.int .i64 0):=(J.kp.block _ (by omega)).trans Zj;have Zt:=O.trans (w.mono O.size);have Zw:=hid (show(iN rs t c++jt rs t c h).length<=1000000 by
       have E:=yq rs t c;have Za:=yy rs t c h;have ak:c*rs.length<=30*8:=sK (by omega) a8;rw[ai];omega)
      have Zf:=hid J;clear J Y4 x YX ZB;by_cases Yr:j3 rs t c h=0
      ·have aL:=hid (Y3.out rfl Yr)
       obtain⟨YL,Yq⟩:∃YL,iN rs t c++jt rs t c h=YL:=⟨_,rfl⟩;rw[Yq]at Zf Zw;have ZF:=hid Yq;clear Yq;rw[Yr]at z;have aJ:=hid (YT.out rfl);clear Yr X Y3 YZ YS YT;generalize ob rs t c h=ZC at*;gi_wp2_with(first
        |((try refine⟨I _,?_⟩);gi_at_call 144;refine z.out.mono ?_;clear z;rintro Ye q⟨bj,rfl,YA,B⟩;obtain⟨Yj,Yd,rfl,_⟩:=cU.ints YA;have Y:=Zf.out.below (af _) B;have bG:=B.size;obtain⟨ca,Zz,YU⟩:=Y.out;obtain⟨Yh,Yi,rfl⟩:=YU.slice;have aQ:=Zz.cell;have Zp:Below q.heap.size q (q.alloc (.cells #[.int .i64 (h:Int),.int .i64 (c:Int),.slice Yj ZC.length Yd] 126)):=(ah _ q).alloc (af _) _;have Yz:=aM q (.cells #[.int .i64 (h:Int),.int .i64 (c:Int),.slice Yj ZC.length Yd] 126);have aS:(q.alloc (.cells #[.int .i64 (h:Int),.int .i64 (c:Int),.slice Yj ZC.length Yd] 126)).cell? ⟨q.heap.size,0,none⟩=some (.int .i64 (h:Int)):=(by rw[dp Yz];rfl);have aU:(q.alloc (.cells #[.int .i64 (h:Int),.int .i64 (c:Int),.slice Yj ZC.length Yd] 126)).cell? ⟨q.heap.size,1,none⟩=some (.int .i64 (c:Int)):=(by rw[dp Yz];rfl);have aV:(q.alloc (.cells #[.int .i64 (h:Int),.int .i64 (c:Int),.slice Yj ZC.length Yd] 126)).cell? ⟨q.heap.size,2,none⟩=some (.slice Yj ZC.length Yd):=(by rw[dp Yz];rfl);clear Yz)
        |(gi_at_builtin;(refine A5 _ rfl _ _ rfl e.heap.size _ YL rfl (YU.below Zp) (.slice Yj ZC.length Yd) h c ZC q.heap.size rfl aS aU aV (cU.below (YA.mono (by omega)) Zp) Zw.out (by have:=Y.kp.size;simp;omega) ?_);intro b9 cb ao av ax;obtain⟨b2,bW,rfl⟩:=ax;have Y8:=LL (C:=YE.heap.size) (af _) Zz YU Y.bP Y.kp ao av;have bl:=Y8.1.cell;have bq:=Y8.1.frozen))
       go_roundw
       case rel=>exact⟨h+1,by omega,by go_num,hid aL.out,hid (by rw[aJ.out,<-dE,ZF.out];exact Y8.2.1),(Y5.trans (ju B)).trans Y8.2.2⟩
       case measure=>simp[intOf];omega
      ·have Zy:=hid (X.out rfl Yr)
       have bC:(j3 rs t c h !=0)=true:=by simpa using Yr
       have aG:=hid Yr;clear Yr X Y3 YZ YS YT;generalize j3 rs t c h=cc at*;gi_wp2_with(first
        |((try refine⟨I _,?_⟩);gi_at_call 144;refine z.out.mono ?_;clear z;rintro Ye q⟨bj,rfl,YA,B⟩;obtain⟨Yj,Yd,rfl,_⟩:=cU.ints YA;have YM:Boxed q (b.heap.size+1+1) 101 (.slice none 0 0):=(B.block _ Zi.lt).trans Zi;have YN:Boxed q (b.heap.size+1+1+1) 22 (.int .i64 0):=(B.block _ Zk.lt).trans Zk;have ZS:=YM.cell;have ZT:=YN.cell;have aX:=YM.frozen;have aY:=YN.frozen;have Ym:Boxed (q.setCell ⟨b.heap.size+1+1,0,none⟩ (.slice none 0 0)) (b.heap.size+1+1+1) 22 (.int .i64 0):=(aT q ⟨b.heap.size+1+1,0,none⟩ _ (b.heap.size+1+1+1) (by show b.heap.size+1+1+1≠b.heap.size+1+1;omega)).trans YN;have bL:=Ym.cell;have bo:=Ym.frozen))
       refine⟨((Y5.trans (ju B)).trans ((dO _ _ _).from _)).trans ((dO _ _ _).from _),rfl,by rw[Zy.out];exact aG.out,?_,?_,?_⟩
       ·exact(aT _ ⟨b.heap.size+1+1+1,0,none⟩ _ (b.heap.size+1+1) (by show b.heap.size+1+1≠b.heap.size+1+1+1;omega)).trans (YM.set _)
       ·rw[Zy.out];exact Ym.set _
       ·exact((Zt.trans (B.mono Zt.size)).setCell (p:=⟨b.heap.size+1+1,0,none⟩) (by show b.heap.size<=b.heap.size+1+1;omega) _).setCell (p:=⟨b.heap.size+1+1+1,0,none⟩) (by show b.heap.size<=b.heap.size+1+1+1;omega) _
   ·obtain rfl:h=rs.length:=by omega
    gi_wp2
    exact⟨YX,⟨zK Z.out W.out,x.out⟩⟩
 case done=>
  rintro YK Yc ZN⟨no,r⟩YQ;obtain⟨v,ay,ZO⟩:=r.out;obtain⟨Yh,Yi,rfl⟩:=ZO.slice;have aQ:=ay.cell;have Yx:Boxed Yc (b.heap.size+1+1) 101 (.slice none 0 0):=(r.kp.block _ (by omega)).trans Zh;have YO:Boxed Yc (b.heap.size+1+1+1) 22 (.int .i64 0):=(r.kp.block _ (by omega)).trans Zj;have ZS:=Yx.cell;have ZT:=YO.cell;have aX:=Yx.frozen;have aY:=YO.frozen;have Z3:=Yx.set (.slice Yh (iN rs t t.length).length Yi);have Yy:Boxed (Yc.setCell ⟨b.heap.size+1+1,0,none⟩ (.slice Yh (iN rs t t.length).length Yi)) (b.heap.size+1+1+1) 22 (.int .i64 0):=(aT Yc ⟨b.heap.size+1+1,0,none⟩ _ (b.heap.size+1+1+1) (by show b.heap.size+1+1+1≠b.heap.size+1+1;omega)).trans YO;have bN:=Yy.cell;have bp:=Yy.frozen;rw[Y2]at ZN;have bJ:=ay;have aC:=hid ZO;have ZZ:=hid r.kp;have Z:=hid no;clear ZO r no;generalize(iN rs t t.length).length=Y6 at*;gi_wp2
  have YR:((Yc.setCell ⟨b.heap.size+1+1,0,none⟩ (.slice Yh Y6 Yi)).setCell ⟨b.heap.size+1+1+1,0,none⟩ (.int .i64 0)).heap[YK]?=some (.deferred (some [])):=
   (aT _ ⟨b.heap.size+1+1+1,0,none⟩ _ YK (show YK≠b.heap.size+1+1+1 by omega)).trans ((aT Yc ⟨b.heap.size+1+1,0,none⟩ _ YK (show YK≠b.heap.size+1+1 by omega)).trans YQ)
  have Z4:Boxed ((Yc.setCell ⟨b.heap.size+1+1,0,none⟩ (.slice Yh Y6 Yi)).setCell ⟨b.heap.size+1+1+1,0,none⟩ (.int .i64 0)) (b.heap.size+1+1) 101 (.slice Yh Y6 Yi):=
   (aT _ ⟨b.heap.size+1+1+1,0,none⟩ _ (b.heap.size+1+1) (by show b.heap.size+1+1≠b.heap.size+1+1+1;omega)).trans Z3
  have Z5:=Yy.set (.int .i64 0);refine⟨by simp,.inl ⟨_,_,rfl,ed YR,?_⟩⟩;refine⟨_,vt rfl rfl rfl ((aH (a:=⟨b.heap.size+1+1,0,none⟩) (cd (show b.heap.size+1+1≠YK by omega))).trans Z4.cell) ((aH (a:=⟨b.heap.size+1+1+1,0,none⟩) (cd (show b.heap.size+1+1+1≠YK by omega))).trans Z5.cell),?_⟩;refine⟨_,by rw[Yu.out,Z.out],?_,?_⟩
  ·have E:=((aC.out.set Yx (by decide) (by decide) (.slice Yh Y6 Yi)).set Yy (by decide) (by decide) (.int .i64 0)).other (grownBy_putObj' _ YK (.deferred none)) (fun cf Ye=>by cases Ye;exact⟨_,YR,rfl⟩)
   rw[show dT rs t=iN rs t t.length by unfold dT;rw[Yu.out,aD Z.out]];exact E.mono (by omega)
  ·have a6:=Yo.trans (ZZ.out.mono (by omega))
   have E:=(a6.setCell (p:=⟨b.heap.size+1+1,0,none⟩) (by show b.heap.size<=b.heap.size+1+1;omega) (.slice Yh Y6 Yi)).setCell (p:=⟨b.heap.size+1+1+1,0,none⟩) (by show b.heap.size<=b.heap.size+1+1+1;omega) (.int .i64 0);exact⟨E.os,E.tape,E.output,by have:=E.size;simpa using this,fun h YI=>(cd (by omega)).trans (E.block h YI)⟩
 case stop=>
  rintro YK bU Yc ZN⟨rfl,ZR,aO,aP,F⟩YQ;rw[Y2]at ZN;have ZS:=aO.cell;have ZT:=aP.cell;gi_wp2
  refine⟨by simp,.inl ⟨_,_,rfl,ed YQ,?_⟩⟩;refine⟨_,vt rfl rfl rfl ((aH (a:=⟨b.heap.size+1+1,0,none⟩) (cd (show b.heap.size+1+1≠YK by omega))).trans ZS) ((aH (a:=⟨b.heap.size+1+1+1,0,none⟩) (cd (show b.heap.size+1+1+1≠YK by omega))).trans ZT),?_⟩;refine⟨_,by rw[Yu.out],?_,⟨F.os,F.tape,F.output,by have:=F.size;simpa using this,fun h YI=>(cd (by omega)).trans (F.block h YI)⟩⟩;rw[show dT rs t=[]by unfold dT;rw[Yu.out,aE ZR]];exact mw.nil _ _
 case panic=>exact fun _ _ _ _ o=>o.elim
end
