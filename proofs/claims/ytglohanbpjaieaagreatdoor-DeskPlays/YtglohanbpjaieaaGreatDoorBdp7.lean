/-
  Parts of the proof.
-/
import Derived.Test.YtglohanbpjaieaaGreatDoorBdp6
set_option maxHeartbeats 2000000
set_option maxRecDepth 100000
namespace Go.Proofs.YtglohanbpjaieaaGreatDoor
open Go.Proofs Go.RowKit Go.Shelf Go.Maps
variable {a b n o:Nat}{c:Sd}{d e:World}{f q:Value->Option Value}{g:Nat->Nat->Prop}{h k:List Int}{p:Bool}
section
attribute [local go_sem] Oper.semAt_some
attribute [local go_sem ↓] Go.wp_at_zero Go.wp_at_succ
theorem O3{rk:List Int}(g:n<o)(c:qW rk h k a b (n+1)=false):qW rk h k a b o=false:=by
 rw[kE]at*;intro d;apply c;simp only[qW,dD,Rd]at*;exact fun f e=>d f (by omega)
theorem Bo(n:nH c d f g a b e)(o:Nat):nH c d f g a b (e.drewN o):=by
 obtain⟨⟨m,l,i⟩,k,j,h⟩:=n;exact⟨⟨m,l.eV rfl,i⟩,k,j,⟨h.os,h.tape,h.output,h.size,h.block⟩⟩
theorem Nx(l:lr c d q)(k:nH c d f g a b e):BU c p g f d (.returned (.bool p)) e:=by
 obtain⟨j,h,i⟩:=k.yI l;exact⟨rfl,k.kp,j,h,i⟩
theorem Nz{rk za zb:List Int}{i j:Nat}(a:0<=za[i]?.getD 0)(b:0<=zb[j]?.getD 0):rA rk za zb i j=(qW rk za zb i j (Tm.room (zb[j]?.getD 0))&&(if za[i]?.getD 0=zb[j]?.getD 0 then sr rk za zb i j (Tm.room (za[i]?.getD 0))else decide (lN rk (zb[j]?.getD 0)<lN rk (za[i]?.getD 0)))):=by
 unfold rA;rw[Rw a,Rw b,RX,RX]
structure PO(C:Sd)(w:World)(kI:Value->Option Value)(i j m:Nat)(W:World):Prop where
 no:qW C.rk C.za C.zb i j m=true
 sd:nH C w kI (fun k l=>k<i∨l<=j) i j W
 bR:Boxed W (w.heap.size+1+1) 4 (.bool false)
 bT:Boxed W (w.heap.size+1+1+1) 68 (.slice (some ⟨C.bb,C.fb,none⟩) C.zb.length C.cb)
 bK:Boxed W (w.heap.size+1+1+1+1) 3 (.int .i64 (j:Int))
theorem Dn(b:Sd)(Yl:LW b)(i j:Nat)(Zz:i<b.za.length)(O:j<b.zb.length)
 (YJ:∀l,j<l->l<b.zb.length->pT b 113 i l (iu b.rk b.za b.zb i l) fun ZY Z1=>ZY<i∨Z1<l)
 (D:b.za[i]?.getD 0=b.zb[j]?.getD 0->pT b 184 i j (sr b.rk b.za b.zb i j (Tm.room (b.za[i]?.getD 0))) fun h l=>h<=i∨l<=j):
 pT b 150 i j (rA b.rk b.za b.zb i j) fun h l=>h<i∨l<=j:=by
 intro c C Zc;obtain⟨Zb,hF⟩:∃Zb,Zb=Fence.wide:=⟨_,rfl⟩;refine(gx (n:=3)).1 ?_;rw[<-hF];obtain⟨Yf,B,Yw,Yu⟩:=jk hF;have Yk:Hid (Pl Zb):=by rw[hF];exact nj
 have Yj:=hid hF;clear hF;have Yy:=B 150;have Z5:=B 113;have Z6:=B 169;have Zx:=B 196;have Z7:=B 184;clear B;have aw:=cK Yl.ea;have d:=Zc.Qq;have ZV:=Zc.lt;obtain⟨u,v⟩:∃u,((c.alloc (.cells #[.pointer (some ⟨b.S,0,none⟩)] 148)).alloc (.cells #[.int .i64 (i:Int),.int .i64 (j:Int)] 154)).alloc (.cells #[.bool false] 4)=u:=⟨_,rfl⟩;have Yc:Below c.heap.size c u:=by rw[<-v];exact(((ah _ c).alloc (af _) _).alloc (by simp) _).alloc (by simp;omega) _
 have Y4:Boxed u c.heap.size 148 (.pointer (some ⟨b.S,0,none⟩)):=by rw[<-v];exact((dt c 148 (.pointer (some ⟨b.S,0,none⟩))).alloc _).alloc _
 have YF:u.heap[c.heap.size+1]?=some (.cells #[.int .i64 (i:Int),.int .i64 (j:Int)] 154 (0,0)):=by
  rw[<-v];have K:=aM (c.alloc (.cells #[.pointer (some ⟨b.S,0,none⟩)] 148)) (.cells #[.int .i64 (i:Int),.int .i64 (j:Int)] 154);rw[bI]at K;exact(cM _ _ _ (by simp)).trans K
 have e:Boxed u (c.heap.size+1+1) 4 (.bool false):=by
  rw[<-v];have K:=dt ((c.alloc (.cells #[.pointer (some ⟨b.S,0,none⟩)] 148)).alloc (.cells #[.int .i64 (i:Int),.int .i64 (j:Int)] 154)) 4 (.bool false);simpa using K
 have YZ:u.heap.size=c.heap.size+1+1+1:=by rw[<-v];simp
 have Y:=hid v;clear v;have S:=Zc.below Yc;have YG:=S.c1;have ZK:=Y4.cell;have ZH:=oU YF;have Zk:=S.c2;have ZI:=qp YF;have lb:=cK Yl.eb;obtain⟨_,_,YH,_,YT⟩:=S.ia.at (by omega);cases YH;obtain⟨_,_,Zt,_,YU⟩:=S.ib.at (by omega);cases Zt;have Zo:=YT i Zz;have Zp:=YU j O;have aa:(i:Int)<(b.za.length:Int):=by omega
 have ab:(j:Int)<(b.zb.length:Int):=by omega
 clear YT YU;have YE:=hid (show nH b c C (fun h l=>h<i∨l<=j) i j u from⟨⟨C,Zc.FD.eV (Yc.block _ d),fun _ _ _=>rfl⟩,Y4,YF,eZ.kd Yc⟩);have w:=hid Zc;by_cases Yx:b.za[i]?.getD 0<0
 ·have f:rA b.rk b.za b.zb i j=false:=by unfold rA;rw[Rr (by omega)];rfl
  rw[f];clear YJ D f S;generalize b.za[i]?.getD 0=I at*;generalize b.zb[j]?.getD 0=y at*;have ZJ:=e.cell;have ZN:=e.frozen;refine fE Tryz.func150 rfl Yy ?_ Yf;simp only[Tryz.ntmps150,cY,aI,bH,Nat.reduceAdd,Nat.reduceSub,bM,bQ,cE,bY,bV,bc];gi_wp2_with fail
  rw[Y.out,Yj.out];refine RN.2 ?_;go_quiet(fail)
  gi_wp2
  refine fI (kP rfl rfl (Boxed.set (W:=u.drewN nq) (.bool false) e).cell) rfl ?_;exact Nx w.out (su (Bo YE.out nq) d (by omega) _)
 by_cases YV:b.zb[j]?.getD 0<0
 ·have f:rA b.rk b.za b.zb i j=false:=by unfold rA;rw[Rr (p:=0<=b.zb[j]?.getD 0) (by omega)];simp
  have Y6:decide (b.za[i]?.getD 0<0)=false:=by simpa using Yx
  rw[f];clear YJ D f S;generalize b.za[i]?.getD 0=I at*;generalize b.zb[j]?.getD 0=y at*;have ZJ:=e.cell;have ZN:=e.frozen;refine fE Tryz.func150 rfl Yy ?_ Yf;simp only[Tryz.ntmps150,cY,aI,bH,Nat.reduceAdd,Nat.reduceSub,bM,bQ,cE,bY,bV,bc];gi_wp2_with fail
  rw[Y.out,Yj.out];refine RN.2 ?_;go_quiet(fail)
  gi_wp2
  refine fI (kP rfl rfl (Boxed.set (W:=u.drewN nq) (.bool false) e).cell) rfl ?_;exact Nx w.out (su (Bo YE.out nq) d (by omega) _)
 have f:=Nz (rk:=b.rk) (i:=i) (j:=j) (za:=b.za) (zb:=b.zb) (by omega) (by omega);have ZZ:=iC (lM (fw Yl.ea) Zz);have Z0:=iC (lM (fw Yl.eb) O);obtain⟨I,YK⟩:=Rx (show 0<=b.za[i]?.getD 0 by omega);obtain⟨y,s⟩:=Rx (show 0<=b.zb[j]?.getD 0 by omega);have Yz:∀m,m<Tm.room (b.zb[j]?.getD 0)->Tm.pos b.zb j m<b.zb.length:=fun m Y9=>by
  have K:=mL Yl.eb O m (by omega);have ZS:=mY (fD Yl.eb O) (m:=m) (by rw[j8 Yl.eb O];exact Y9);rw[fZ Yl.eb O]at ZS;have av:=gL Yl.eb O;omega
 have YX:=hid (mH Zb Yk.out (3-1) (c.heap.size+1+1+1+1) (c.heap.size+1+1+1) j b.cb (some ⟨b.bb,b.fb,none⟩) b.zb (by omega) O (nw Zb Yk.out b.zb (by omega) _ b.cb j));rw[YK,s]at f;rw[YK,s]at D;rw[YK]at Zo ZZ Yx;rw[s]at Zp Z0 YV Yz YX;have J:=hid f;have Zf:=hid Yz;have ZD:=hid YJ;have Y2:=hid D;have ZE:=hid Yl;have Y6:decide ((I:Int)<0)=false:=by simp
 have ZU:decide ((y:Int)<0)=false:=by simp
 have Zi:=hid e;clear f Yz YJ D S Yl YK s Yx YV;refine eE Tryz.func150 rfl Yy ?_ Yf;simp only[Tryz.ntmps150,cY,aI,bH,Nat.reduceAdd,Nat.reduceSub,bM,bQ,cE,bY,bV,bc];gi_wp2_with fail
 rw[Y.out,Yj.out];refine RN.2 ?_;go_quiet(fail)
 obtain⟨g,M⟩:∃g,u.drewN nq=g:=⟨_,rfl⟩;rw[M];have R:nH b c C (fun h l=>h<i∨l<=j) i j g:=by rw[<-M];exact Bo YE.out nq
 have q:Boxed g (c.heap.size+1+1) 4 (.bool false):=by rw[<-M];exact e
 have YB:g.heap.size=c.heap.size+1+1+1:=by rw[<-M];exact YZ
 clear M e Zi YF Y4 ZH ZI ZK YG Zk Zo Zp YZ YE Y Yc;obtain⟨Z2,Zh,_⟩:=R.yI w.out;have Zq:=Zh.c2;have Zr:=R.bS.cell;have Zs:=qp R.bA;have Y8:c.heap.size+1<g.heap.size:=by omega
 have V:=hid (fun r(Y5:Below g.heap.size g r)=>(show r.cell? ⟨b.S,2,none⟩=some (.slice (some ⟨b.bb,b.fb,none⟩) b.zb.length b.cb)∧r.cell? ⟨c.heap.size,0,none⟩=some (.pointer (some ⟨b.S,0,none⟩))∧r.cell? ⟨c.heap.size+1,1,none⟩=some (.int .i64 (j:Int))from
  ⟨(Y5.cell Zh.lt).trans Zq,(Y5.cell R.bS.lt).trans Zr,(Y5.cell (p:=⟨c.heap.size+1,1,none⟩) Y8).trans Zs⟩))
 obtain⟨x,A⟩:∃x,((g.alloc (.cells #[.slice (some ⟨b.bb,b.fb,none⟩) b.zb.length b.cb] 68)).alloc (.cells #[.int .i64 (j:Int)] 3)).drew=x:=⟨_,rfl⟩;have T:Below g.heap.size g x:=by rw[<-A];exact ie (((ah _ g).alloc (af _) _).alloc (by simp) _)
 have YQ:Boxed x (c.heap.size+1+1+1) 68 (.slice (some ⟨b.bb,b.fb,none⟩) b.zb.length b.cb):=by
  rw[<-A,<-YB];exact(dt g 68 (.slice (some ⟨b.bb,b.fb,none⟩) b.zb.length b.cb)).alloc _
 have YO:Boxed x (c.heap.size+1+1+1+1) 3 (.int .i64 (j:Int)):=by
  have K:=dt (g.alloc (.cells #[.slice (some ⟨b.bb,b.fb,none⟩) b.zb.length b.cb] 68)) 3 (.int .i64 (j:Int));rw[bI,YB]at K;rw[<-A];exact K
 have Y0:x.heap.size=c.heap.size+1+1+1+1+1:=by rw[<-A];show((g.alloc _).alloc _).heap.size=_;simp[YB]
 have Ze:=hid A;clear A;have YP:Boxed x (c.heap.size+1+1) 4 (.bool false):=(T.block _ q.lt).trans q;have Zd:=hid (show PO b c C i j 0 x from⟨rfl,Ii R T d,YP,YQ,YO⟩);clear YQ YO YP T;gi_wp2_with fail
 rw[Yj.out];refine RN.2 ?_;have Zv:=V.out _ (ah _ g);go_region_held3(fun r=>r.cell? ⟨b.S,2,none⟩=some (.slice (some ⟨b.bb,b.fb,none⟩) b.zb.length b.cb)∧r.cell? ⟨c.heap.size,0,none⟩=some (.pointer (some ⟨b.S,0,none⟩))∧r.cell? ⟨c.heap.size+1,1,none⟩=some (.int .i64 (j:Int)))(first|assumption|exact V.out _ (ah _ g)|exact V.out _ (bD (ah _ g) 1))(first
  |(go_at_call 169;refine(gx.1 (pf Fence.wide nj 0 _ _ _ _ _)).mono ?_;rintro YR r⟨rfl,rfl⟩;have Zw:=V.out _ (((bD (ah _ g) 1).alloc (af _) (.cells #[.slice (some ⟨b.bb,b.fb,none⟩) b.zb.length b.cb] 68)).alloc (by simp) (.cells #[.int .i64 (j:Int)] 3))))
 rw[Ze.out];rename_i hHeld;clear V Zv Zw hHeld Zq Zr Zs;gi_wp2_with fail
 refine jf Yf (by omega) (gf:=196) (lb:=#[.pointer (some ⟨c.heap.size+1+1+1+1,0,none⟩),.pointer (some ⟨c.heap.size+1+1+1,0,none⟩)]) rfl Zx (iW Tryz.func196 (by kernel_rfl) rfl)
  YX.out (fun _=>rfl)
  (PO b c C i j)
  (fun ZG W=>ZG=.ret∧qW b.rk b.za b.zb i j (Tm.room (y:Int))=false∧nH b c C (fun h l=>h<i∨l<=j) i j W∧Boxed W (c.heap.size+1+1) 4 (.bool false)) (fun _ _=>False) (.inl fun _ _ YI=>YI)
  (by
    rintro m al an row⟨no,k,e,Yq,Yn⟩s X;exact⟨no,k.own d (by omega) s X,gX e s X,gX Yq s X,gX Yn s X⟩)
  (by
    rintro ZG al an row⟨YR,YA,k,e⟩s X;exact⟨YR,YA,k.own d (by omega) s X,gX e s X⟩)
  (fun m W Yr=>⟨Yr.bK.cell,Yr.bT.cell,by obtain⟨H,V,_⟩:=Yr.sd.yI w.out;exact V.ib⟩)
  Zd.out
  (fun m=>{tmps:=#[.pointer (some ⟨b.S,0,none⟩),.agg #[.int .i64 (i:Int),.int .i64 (j:Int)],.pointer (some ⟨c.heap.size,0,none⟩),.pointer (some ⟨c.heap.size+1,0,none⟩),.pointer (some ⟨c.heap.size+1+1,0,none⟩),.int .i64 (I:Int),.int .i64 (y:Int),.int .i64 (Tm.pos b.zb j m:Int),.pointer (some ⟨b.S,0,none⟩),.pointer (some ⟨b.S,0,none⟩),.pointer (some ⟨b.S,1,none⟩),.slice (some ⟨b.ba,b.fa,none⟩) b.za.length b.ca,.pointer (some ⟨c.heap.size+1,0,none⟩),.int .i64 (i:Int),.pointer (some ⟨b.ba,b.fa+i,none⟩),.int .i64 (I:Int),.pointer (some ⟨b.S,0,none⟩),.pointer (some ⟨b.S,0,none⟩),.pointer (some ⟨b.S,2,none⟩),.slice (some ⟨b.bb,b.fb,none⟩) b.zb.length b.cb,.pointer (some ⟨c.heap.size+1,1,none⟩),.int .i64 (j:Int),.pointer (some ⟨b.bb,b.fb+j,none⟩),.int .i64 (y:Int),.int .i64 (I:Int),.bool false,.bool false,.int .i64 (y:Int),.bool false,.bool false,.pointer (some ⟨b.S,0,none⟩),.pointer (some ⟨b.S,0,none⟩),.pointer (some ⟨b.S,2,none⟩),.slice (some ⟨b.bb,b.fb,none⟩) b.zb.length b.cb,.pointer (some ⟨c.heap.size+1,1,none⟩),.int .i64 (j:Int),.func (.func 196) #[] #[.pointer (some ⟨c.heap.size+1+1+1+1,0,none⟩),.pointer (some ⟨c.heap.size+1+1+1,0,none⟩)],.int .i64 (Tm.pos b.zb j m:Int),.int .i64 (Tm.pos b.zb j (m+1):Int),undef,undef,undef,undef,undef,undef,undef,undef,undef,undef,undef,undef,undef,undef,undef,undef,undef,undef,undef,undef,undef,undef,undef,undef,undef,undef,undef,undef],defers:=[]}) ?assign ?body ?done ?stop ?panic
 case assign=>
  intro l m W ay ZT;simp only[rL];gi_wp2
  exact ZT
 case body=>
  rintro l m W Yr Y9;obtain⟨no,k,e,Yq,Yn⟩:=Yr;have YW:m<Tm.room (y:Int):=Y9;have ZX:=Zf.out m YW;have Zy:=Tm.om b.zb j m;obtain⟨H,t,Yg⟩:=k.yI w.out;have ZL:=k.bS.cell;have ar:=oU k.bA;have z:=hid (eS l (Yu (n:=0) (ZD.out (Tm.pos b.zb j m) Zy ZX W H t)));have Ye:=hid (Cx b.rk b.za b.zb i j m);have ad:=k.kp;have YN:=hid k;have YM:=hid Yg;have Zg:=hid no;clear k t Yg no;have Yd:=fun(h:Nat)(Za:Obj)(P:x.heap.size<=h)(E:W.heap[h]?=some Za)=>(show h<W.heap.size∧h≠b.M from⟨(ak.1 E).1,by omega⟩)
  cases YY:iu b.rk b.za b.zb i (Tm.pos b.zb j m)with
  |false=>
   rw[YY]at z Ye;gi_wp2_with(first
    |((try refine⟨Yw _,?_⟩);gi_at_call 113;refine z.out.mono ?_;clear z;rintro YR Z⟨rfl,o,YL,Ym,YC⟩;have Q:∀h,c.heap.size<=h->h≠b.M:=(fun h P YR=>by omega);have q:Boxed Z (c.heap.size+1+1) 4 (.bool false):=(o.block _ e.lt (Q _ (by omega))).trans e;have Zl:=q.cell;have Zu:=q.frozen))
   have YA:qW b.rk b.za b.zb i j (Tm.room (y:Int))=false:=O3 YW (by rw[Ye.out];simp);refine⟨(⟨o.size,fun h Za P E _=>(o.block h (Yd h Za P E).1 (Yd h Za P E).2).trans E⟩:KeepsFrom x.heap.size W Z).trans ((dO _ _ _).from _),rfl,YA,?_,q.set _⟩;exact su (xx YN.out (ah _ W) o d Ym.FD (fun h l YI=>(YC h l (by omega)).trans (YM.out h l YI))) d (by omega) _
  |true=>
   rw[YY]at z Ye;gi_wp2_with(first
    |((try refine⟨Yw _,?_⟩);gi_at_call 113;refine z.out.mono ?_;clear z;rintro YR Z⟨rfl,o,YL,Ym,YC⟩;have Q:∀h,c.heap.size<=h->h≠b.M:=(fun h P YR=>by omega);have q:Boxed Z (c.heap.size+1+1) 4 (.bool false):=(o.block _ e.lt (Q _ (by omega))).trans e;have Zl:=q.cell;have Zu:=q.frozen))
   refine⟨⟨o.size,fun h Za P E _=>(o.block h (Yd h Za P E).1 (Yd h Za P E).2).trans E⟩,?_⟩;refine⟨by rw[Ye.out,Zg.out];rfl,xx YN.out (ah _ W) o d Ym.FD (fun h l YI=>(YC h l (by omega)).trans (YM.out h l YI)),q,?_,?_⟩
   ·exact(o.block _ Yq.lt (Q _ (by omega))).trans Yq
   ·exact(o.block _ Yn.lt (Q _ (by omega))).trans Yn
 case done=>
  rintro Yi W D⟨no,k,e,Yq,Yn⟩L;have YG:=e.cell;have Zk:=e.frozen;rw[Y0]at D;have Yh:qW b.rk b.za b.zb i j (Tm.room (y:Int))=true:=no;have YH:=k.bS.cell;have Zt:=oU k.bA;have ZL:=qp k.bA;obtain⟨H,t,Yg⟩:=k.yI w.out;by_cases N:(I:Int)=(y:Int)
  ·have f:=J.out
   rw[Yh,aD N,RX]at f;have YD:=hid f;have YS:=hid (Yu (n:=0) (Y2.out N W H t));generalize sr b.rk b.za b.zb i j (Tm.room (I:Int))=aj at*;have Y7:((I:Int)==(y:Int))=true:=by simp;omega
   clear N f no Yh J Y2 t;gi_wp2_with(first
    |((try refine⟨Yw _,?_⟩);gi_at_call 184;refine(Jl Yk.out YS.out).mono ?_;clear YS;rintro YR Y3⟨rfl,Yt,Z3,ZF,ZC⟩;have Yo:Boxed Y3 (c.heap.size+1+1) 4 (.bool false):=(Yt.block _ e.lt (by omega)).trans e;have aq:=Yo.cell;have au:=Yo.frozen))
   have Yp:=Yo.set (.bool aj);have U:(Y3.setCell ⟨c.heap.size+1+1,0,none⟩ (.bool aj)).heap[Yi]?=some (.deferred (some [])):=(aT Y3 ⟨c.heap.size+1+1,0,none⟩ _ Yi (show Yi≠c.heap.size+1+1 by omega)).trans ((Yt.block Yi (ak.1 L).1 (by omega)).trans L);refine⟨by simp,.inl ⟨_,_,rfl,ed U,?_⟩⟩;refine⟨_,kP rfl rfl ((aH (a:=⟨c.heap.size+1+1,0,none⟩) (cd (show c.heap.size+1+1≠Yi by omega))).trans Yp.cell),?_⟩;rw[YD.out];exact uY w.out d (su (xx k (ah _ W) Yt d ZF.FD (fun h l YI=>(ZC h l (by omega)).trans (Yg h l YI))) d (by omega) _) (by omega)
  ·have f:=J.out
   rw[Yh,aE N,RX]at f;have YD:=hid f;have Y7:((I:Int)==(y:Int))=false:=by simpa using N
   have ae:=ZE.out.er;obtain⟨_,_,ZM,_,Yv⟩:=t.ir.at (by omega);cases ZM;have ag:I<6:=by omega
   have ai:y<6:=by omega
   have Zm:=Yv I (by omega);have Zn:=Yv y (by omega);have ZA:Hid (lN b.rk (I:Int)=b.rk[I]?.getD 0):=rfl;have ZB:Hid (lN b.rk (y:Int)=b.rk[y]?.getD 0):=rfl;have Zj:=t.c0;have Z8:(I:Int)<(b.rk.length:Int):=by omega
   have Z9:(y:Int)<(b.rk.length:Int):=by omega
   clear f no Yh J Y2 Yv;rw[ZA.out,ZB.out]at YD;generalize b.rk[I]?.getD 0=F at*;generalize b.rk[y]?.getD 0=G at*;gi_wp2_with fail
   rw[Yj.out];refine RN.2 ?_;have ZW:b.br≠c.heap.size+1+1:=fun YR=>by
    obtain⟨ao,ax,eq,Z4,_⟩:=w.out.ir.at (by omega);cases eq;omega
   have ZO:=(aH (a:=⟨c.heap.size,0,none⟩) (aT W ⟨c.heap.size+1+1,0,none⟩ (.bool (decide (G<F))) c.heap.size (show c.heap.size≠c.heap.size+1+1 by omega))).trans YH;have ZP:=(aH (a:=⟨b.S,0,none⟩) (aT W ⟨c.heap.size+1+1,0,none⟩ (.bool (decide (G<F))) b.S (show b.S≠c.heap.size+1+1 by omega))).trans Zj;have ZQ:=(aH (a:=⟨b.br,b.fr+I,none⟩) (aT W ⟨c.heap.size+1+1,0,none⟩ (.bool (decide (G<F))) b.br (show b.br≠c.heap.size+1+1 by omega))).trans Zm;have ZR:=(aH (a:=⟨b.br,b.fr+y,none⟩) (aT W ⟨c.heap.size+1+1,0,none⟩ (.bool (decide (G<F))) b.br (show b.br≠c.heap.size+1+1 by omega))).trans Zn;go_region_held3(fun r=>r.cell? ⟨c.heap.size,0,none⟩=some (.pointer (some ⟨b.S,0,none⟩))∧r.cell? ⟨b.S,0,none⟩=some (.slice (some ⟨b.br,b.fr,none⟩) b.rk.length b.cr)∧r.cell? ⟨b.br,b.fr+I,none⟩=some (.int .i64 F)∧r.cell? ⟨b.br,b.fr+y,none⟩=some (.int .i64 G))(first|assumption|exact⟨YH,Zj,Zm,Zn⟩|exact⟨ZO,ZP,ZQ,ZR⟩)(first|fail)
   all_goals(
    gi_wp2
    have Yp:Boxed (W.drew.setCell ⟨c.heap.size+1+1,0,none⟩ (.bool (decide (G<F)))) (c.heap.size+1+1) 4 (.bool (decide (G<F))):=Boxed.set (W:=W.drew) (.bool (decide (G<F))) e;have U:(W.drew.setCell ⟨c.heap.size+1+1,0,none⟩ (.bool (decide (G<F)))).heap[Yi]?=some (.deferred (some [])):=(aT W.drew ⟨c.heap.size+1+1,0,none⟩ _ Yi (show Yi≠c.heap.size+1+1 by omega)).trans L;refine⟨by simp,.inl ⟨_,_,rfl,ed U,?_⟩⟩;refine⟨_,kP rfl rfl ((aH (a:=⟨c.heap.size+1+1,0,none⟩) (cd (show c.heap.size+1+1≠Yi by omega))).trans Yp.cell),?_⟩;rw[YD.out];exact uY w.out d (su (Bo k 1) d (by omega) _) (by omega))
 case stop=>
  rintro Yi ZG W D⟨rfl,YA,k,e⟩L;have YG:=e.cell;rw[Y0]at D;gi_wp2
  refine⟨by simp,.inl ⟨_,_,rfl,ed L,?_⟩⟩;refine⟨_,kP rfl rfl ((aH (a:=⟨c.heap.size+1+1,0,none⟩) (cd (show c.heap.size+1+1≠Yi by omega))).trans YG),?_⟩;rw[J.out,YA];exact uY w.out d k (by omega)
 case panic=>exact fun _ _ _ _ YI=>YI.elim
end
