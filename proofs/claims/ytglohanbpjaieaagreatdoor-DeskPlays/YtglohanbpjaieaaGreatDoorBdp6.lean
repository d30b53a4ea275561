/-
  Parts of the proof.
-/
import Derived.Test.YtglohanbpjaieaaGreatDoorBdp5
set_option maxHeartbeats 2000000
set_option maxRecDepth 100000
namespace Go.Proofs.YtglohanbpjaieaaGreatDoor
open Go.Proofs Go.RowKit Go.Shelf Go.Maps
variable {a d i q:World}{b c h x:Nat}{e:Sd}{f j:Value->Option Value}{g:Nat->Nat->Prop}{n:Array Value}{p:Bool}{r:Obj}{s:Func}{t:TypeId}{u:Nat×Nat}{v w:List Int}
section
attribute [local go_sem] Oper.semAt_some
attribute [local go_sem ↓] Go.wp_at_zero Go.wp_at_succ
theorem kP(g:s.results=#[.cell b 4])(f:n.getD b undef=.pointer (some ⟨c,0,none⟩))(e:a.cell? ⟨c,0,none⟩=some (.bool p)):(results s n).run Tryz.prog a=.ok (.bool p) a:=by
 have d:n[b]?.getD undef=.pointer (some ⟨c,0,none⟩):=by rw[<-f];simp
 simp only[results,g];simp[go_sem,d,e]
theorem gX{row:Option Nat}(f:a.heap[b]?=some (.cells n t u))(h:a.grownBy d row)(i:∀j,row=some j->c<=j∧∃o:Obj,a.heap[j]?=some o∧o.isCells=false):d.heap[b]?=some (.cells n t u):=
 (h.block b (ak.1 f).1 (fun k=>by
   obtain⟨_,o,e,g⟩:=i b k.symm;rw[f]at e;cases e;simp[Obj.isCells]at g)).trans f
theorem LI{row:Option Nat}(q:b<=a.heap.size)(p:b<=h)(f:eZ b c a d)(e:d.grownBy i row)(k:∀m,row=some m->h<=m∧∃o:Obj,d.heap[m]?=some o∧o.isCells=false):eZ b c a i:=
 ⟨e.os.trans f.os,e.tape.trans f.tape,e.output.trans f.output,aK f.size e.size,fun l g j=>(e.block l (by have:=f.size;omega) (fun n=>by have:=(k l n.symm).1;omega)).trans (f.block l g j)⟩
structure nH(C:Sd)(w:World)(kI:Value->Option Value)(yG:Nat->Nat->Prop)(i j:Nat)(W:World):Prop where
 FD:∃mB,Found C W mB∧∀k l,yG k l->mB (pk k l)=kI (pk k l)
 bS:Boxed W w.heap.size 148 (.pointer (some ⟨C.S,0,none⟩))
 bA:W.heap[w.heap.size+1]?=some (.cells #[.int .i64 (i:Int),.int .i64 (j:Int)] 154 (0,0))
 kp:eZ w.heap.size C.M w W
theorem nH.own{row:Option Nat}(t:e.M<a.heap.size)(m:a.heap.size<=h)(s:nH e a f g b c d)(j:d.grownBy i row)(k:∀q,row=some q->h<=q∧∃o:Obj,d.heap[q]?=some o∧o.isCells=false):nH e a f g b c i:=by
 obtain⟨⟨l,n,p⟩,bS,bA,kp⟩:=s;exact⟨⟨l,n.eV (j.block _ (by have:=kp.size;omega) (fun r=>by have:=(k _ r.symm).1;omega)),p⟩,gX bS j k,gX bA j k,LI (af _) m kp j k⟩
theorem nH.yI(n:lr e a j)(o:nH e a f g b c d):∃h,lr e d h∧∀k l,g k l->h (pk k l)=f (pk k l):=by
 obtain⟨⟨h,i,m⟩,bS,bA,kp⟩:=o;exact⟨h,n.eV kp i,m⟩
theorem oU(d:a.heap[b]?=some (.cells #[.int .i64 (c:Int),.int .i64 (h:Int)] 154 (0,0))):a.cell? ⟨b,0,none⟩=some (.int .i64 (c:Int)):=by simp[World.cell?,d]
theorem qp(d:a.heap[b]?=some (.cells #[.int .i64 (h:Int),.int .i64 (c:Int)] 154 (0,0))):a.cell? ⟨b,1,none⟩=some (.int .i64 (c:Int)):=by simp[World.cell?,d]
theorem Ld{rk:List Int}(g:h<x)(a:oD rk v w b c (h+1)=true):oD rk v w b c x=true:=by
 simp only[oD,Rs,Rd]at*;obtain⟨f,d,e⟩:=a;exact⟨f,by omega,e⟩
theorem su(s:nH e d f g c h a)(u:e.M<d.heap.size)(t:d.heap.size+1<b)(l:Value):nH e d f g c h (a.setCell ⟨b,0,none⟩ l):=by
 obtain⟨⟨j,o,q⟩,n,m,r⟩:=s;have i:∀k,k≠b->(a.setCell ⟨b,0,none⟩ l).heap[k]?=a.heap[k]?:=fun k p=>aT a ⟨b,0,none⟩ l k (by show k≠b;exact p)
 exact⟨⟨j,o.eV (i _ (by omega)),q⟩,(i _ (by omega)).trans n,(i _ (by omega)).trans m,DP r (by omega) l⟩
theorem xx(w:nH e a f g b c i)(h:Below i.heap.size i d)(m:eZ d.heap.size e.M d q)(x:e.M<a.heap.size)(u:Found e q j)(v:∀k l,g k l->j (pk k l)=f (pk k l)):nH e a f g b c q:=by
 obtain⟨_,o,n,t⟩:=w;have r:=(ak.1 o).1;have p:=(ak.1 n).1;have s:eZ a.heap.size e.M a d:=t.trans (eZ.kd (h.mono t.size));exact⟨⟨j,u,v⟩,(m.block _ (df r h.size) (by omega)).trans ((h.block _ r).trans o),(m.block _ (df p h.size) (by omega)).trans ((h.block _ p).trans n),s.trans (m.mono s.size)⟩
theorem uY(v:lr e a j)(q:e.M<a.heap.size)(y:nH e a f g c h d)(z:a.heap.size<=b):BU e p g f a (.returned (.bool p)) (d.putObj b r):=by
 obtain⟨⟨n,s,u⟩,x,w,i⟩:=y;have o:∀m,m<a.heap.size->(d.putObj b r).heap[m]?=d.heap[m]?:=fun m l=>cd (by omega)
 have k:eZ a.heap.size e.M a (d.putObj b r):=⟨i.os,i.tape,i.output,by have:=i.size;simp;omega,fun m l t=>(o m l).trans (i.block m l t)⟩;exact⟨rfl,k,n,v.eV k (s.eV (o _ q)),u⟩
structure PL(C:Sd)(w:World)(kI:Value->Option Value)(i j m:Nat)(W:World):Prop where
 no:oD C.rk C.za C.zb i j m=false
 sd:nH C w kI (fun k l=>k<=i∨l<j) i j W
 bR:Boxed W (w.heap.size+1+1) 4 (.bool false)
 bT:Boxed W (w.heap.size+1+1+1) 68 (.slice (some ⟨C.ba,C.fa,none⟩) C.za.length C.ca)
 bK:Boxed W (w.heap.size+1+1+1+1) 3 (.int .i64 (i:Int))
theorem Gt(b:Sd)(Yp:LW b)(f r:Nat)(Z:f<b.za.length)(Zt:r<b.zb.length)
 (Zd:∀k,f<k->k<b.za.length->pT b 113 k r (iu b.rk b.za b.zb k r) fun Zv T=>Zv<k∨T<r):
 pT b 149 f r (oD b.rk b.za b.zb f r (Tm.room (b.za[f]?.getD 0))) fun k T=>k<=f∨T<r:=by
 intro d W YV;obtain⟨YW,hF⟩:∃YW,YW=Fence.wide:=⟨_,rfl⟩;refine(gx (n:=3)).1 ?_;rw[<-hF];obtain⟨YF,J,N,Yi⟩:=jk hF;have Yu:Hid (Pl YW):=by rw[hF];exact nj
 have Zn:=hid hF;clear hF;have Zg:=J 149;have Zz:=J 113;have ZA:=J 169;have Zh:=J 196;have ZB:=J 183;clear J;have ZI:=cK Yp.ea;have i:=YV.Qq;have Zu:=YV.lt;obtain⟨j,E⟩:∃j,((d.alloc (.cells #[.pointer (some ⟨b.S,0,none⟩)] 148)).alloc (.cells #[.int .i64 (f:Int),.int .i64 (r:Int)] 154)).alloc (.cells #[.bool false] 4)=j:=⟨_,rfl⟩;have V:Below d.heap.size d j:=by rw[<-E];exact(((ah _ d).alloc (af _) _).alloc (by simp) _).alloc (by simp;omega) _
 have Yc:Boxed j d.heap.size 148 (.pointer (some ⟨b.S,0,none⟩)):=by rw[<-E];exact((dt d 148 (.pointer (some ⟨b.S,0,none⟩))).alloc _).alloc _
 have YK:j.heap[d.heap.size+1]?=some (.cells #[.int .i64 (f:Int),.int .i64 (r:Int)] 154 (0,0)):=by
  rw[<-E];have M:=aM (d.alloc (.cells #[.pointer (some ⟨b.S,0,none⟩)] 148)) (.cells #[.int .i64 (f:Int),.int .i64 (r:Int)] 154);rw[bI]at M;exact(cM _ _ _ (by simp)).trans M
 have h:Boxed j (d.heap.size+1+1) 4 (.bool false):=by
  rw[<-E];have M:=dt ((d.alloc (.cells #[.pointer (some ⟨b.S,0,none⟩)] 148)).alloc (.cells #[.int .i64 (f:Int),.int .i64 (r:Int)] 154)) 4 (.bool false);simpa using M
 have Yl:j.heap.size=d.heap.size+1+1+1:=by rw[<-E];simp
 have YY:=hid E;clear E;have YI:=YV.below V;have Ye:=YI.c1;have Y7:=Yc.cell;have Y4:=oU YK;have P:=hid (fun K(YO:Below j.heap.size j K)=>(show K.cell? ⟨b.S,1,none⟩=some (.slice (some ⟨b.ba,b.fa,none⟩) b.za.length b.ca)∧K.cell? ⟨d.heap.size,0,none⟩=some (.pointer (some ⟨b.S,0,none⟩))∧K.cell? ⟨d.heap.size+1,0,none⟩=some (.int .i64 (f:Int))from
  ⟨(YO.cell YI.lt).trans Ye,(YO.cell Yc.lt).trans Y7,(YO.cell (p:=⟨d.heap.size+1,0,none⟩) (by show d.heap.size+1<_;omega)).trans Y4⟩))
 obtain⟨w,I⟩:∃w,((j.alloc (.cells #[.slice (some ⟨b.ba,b.fa,none⟩) b.za.length b.ca] 68)).alloc (.cells #[.int .i64 (f:Int)] 3)).drew=w:=⟨_,rfl⟩;have C:Below j.heap.size j w:=by rw[<-I];exact ie (((ah _ j).alloc (af _) _).alloc (by simp) _)
 have YB:Boxed w (d.heap.size+1+1+1) 68 (.slice (some ⟨b.ba,b.fa,none⟩) b.za.length b.ca):=by
  rw[<-I,<-Yl];exact(dt j 68 (.slice (some ⟨b.ba,b.fa,none⟩) b.za.length b.ca)).alloc _
 have Yy:Boxed w (d.heap.size+1+1+1+1) 3 (.int .i64 (f:Int)):=by
  have M:=dt (j.alloc (.cells #[.slice (some ⟨b.ba,b.fa,none⟩) b.za.length b.ca] 68)) 3 (.int .i64 (f:Int));rw[bI,Yl]at M;rw[<-I];exact M
 have YG:w.heap.size=d.heap.size+1+1+1+1+1:=by rw[<-I];show((j.alloc _).alloc _).heap.size=_;simp[Yl]
 have YZ:=hid I;clear I;have YA:Boxed w d.heap.size 148 (.pointer (some ⟨b.S,0,none⟩)):=(C.block _ Yc.lt).trans Yc;have Yx:=(C.block _ (by omega)).trans YK;have Yz:Boxed w (d.heap.size+1+1) 4 (.bool false):=(C.block _ h.lt).trans h;have Yf:Below d.heap.size d w:=V.trans (C.mono V.size);have Y3:PL b d W f r 0 w:=⟨rfl,⟨⟨W,YV.FD.eV (Yf.block _ i),fun _ _ _=>rfl⟩,YA,Yx,eZ.kd Yf⟩,Yz,YB,Yy⟩;have YC:∀m,m<Tm.room (b.za[f]?.getD 0)->Tm.pos b.za f m<b.za.length:=fun m YS=>by
  have M:=mL Yp.ea Z m (by omega);have Zq:=mY (fD Yp.ea Z) (m:=m) (by rw[j8 Yp.ea Z];exact YS);rw[fZ Yp.ea Z]at Zq;have ZH:=gL Yp.ea Z;omega
 have YX:=hid Y3;have Y0:=hid YC;have Yo:=hid YV;have Zm:=hid Zd;have Zo:=hid Yp;have Zy:=hid (cK Yp.eb);clear YI Ye Y7 Y4 Yc YK h YB Yy YA Yx Yz Y3 YC Zd C Yf V YV Yp;refine eE Tryz.func149 rfl Zg ?_ YF;simp only[Tryz.ntmps149,cY,aI,bH,Nat.reduceAdd,Nat.reduceSub,bM,bQ,cE,bY,bV,bc];gi_wp2_with fail
 rw[YY.out];rw[Zn.out];refine RN.2 ?_;have Ze:=P.out _ (ah _ j);go_region_held3(fun K=>K.cell? ⟨b.S,1,none⟩=some (.slice (some ⟨b.ba,b.fa,none⟩) b.za.length b.ca)∧K.cell? ⟨d.heap.size,0,none⟩=some (.pointer (some ⟨b.S,0,none⟩))∧K.cell? ⟨d.heap.size+1,0,none⟩=some (.int .i64 (f:Int)))(first|assumption|exact P.out _ (ah _ j)|exact P.out _ (bD (ah _ j) 1))(first
  |(go_at_call 169;refine(gx.1 (pf Fence.wide nj 0 _ _ _ _ _)).mono ?_;rintro Yt K⟨rfl,rfl⟩;have Zf:=P.out _ (((bD (ah _ j) 1).alloc (af _) (.cells #[.slice (some ⟨b.ba,b.fa,none⟩) b.za.length b.ca] 68)).alloc (by simp) (.cells #[.int .i64 (f:Int)] 3))))
 rw[YZ.out];rename_i hHeld;clear P Ze Zf hHeld;gi_wp2_with fail
 refine jf YF (by omega) (gf:=196) (lb:=#[.pointer (some ⟨d.heap.size+1+1+1+1,0,none⟩),.pointer (some ⟨d.heap.size+1+1+1,0,none⟩)]) rfl Zh (iW Tryz.func196 (by kernel_rfl) rfl)
  (mH YW Yu.out _ (d.heap.size+1+1+1+1) (d.heap.size+1+1+1) f b.ca (some ⟨b.ba,b.fa,none⟩) b.za (by omega) Z (nw YW Yu.out b.za (by omega) _ b.ca f)) (fun _=>rfl)
  (PL b d W f r)
  (fun Zp o=>Zp=.ret∧oD b.rk b.za b.zb f r (Tm.room (b.za[f]?.getD 0))=true∧nH b d W (fun k T=>k<=f∨T<r) f r o∧Boxed o (d.heap.size+1+1) 4 (.bool true)) (fun _ _=>False) (.inl fun _ _ YN=>YN)
  (by
    rintro m ZC ZD row⟨no,s,h,Y,X⟩Q S;exact⟨no,s.own i (by omega) Q S,gX h Q S,gX Y Q S,gX X Q S⟩)
  (by
    rintro Zp ZC ZD row⟨Yt,R,s,h⟩Q S;exact⟨Yt,R,s.own i (by omega) Q S,gX h Q S⟩)
  (fun m o Yh=>⟨Yh.bK.cell,Yh.bT.cell,by obtain⟨U,P,_⟩:=Yh.sd.yI Yo.out;exact P.ia⟩)
  YX.out
  (fun m=>{tmps:=#[.pointer (some ⟨b.S,0,none⟩),.agg #[.int .i64 (f:Int),.int .i64 (r:Int)],.pointer (some ⟨d.heap.size,0,none⟩),.pointer (some ⟨d.heap.size+1,0,none⟩),.pointer (some ⟨d.heap.size+1+1,0,none⟩),.int .i64 (Tm.pos b.za f m:Int),undef,
    .pointer (some ⟨b.S,0,none⟩),.pointer (some ⟨b.S,0,none⟩),.pointer (some ⟨b.S,1,none⟩),.slice (some ⟨b.ba,b.fa,none⟩) b.za.length b.ca,.pointer (some ⟨d.heap.size+1,0,none⟩),.int .i64 (f:Int),.func (.func 196) #[] #[.pointer (some ⟨d.heap.size+1+1+1+1,0,none⟩),.pointer (some ⟨d.heap.size+1+1+1,0,none⟩)],
    .int .i64 (Tm.pos b.za f m:Int),.int .i64 (Tm.pos b.za f (m+1):Int),undef,undef,undef,undef,undef,undef,undef,undef,undef,undef,undef,undef],defers:=[]}) ?assign ?body ?done ?stop ?panic
 case assign=>
  intro T m o ZJ Zr;simp only[rL];gi_wp2
  exact Zr
 case body=>
  rintro T m o Yh YS;obtain⟨no,s,h,Y,X⟩:=Yh;have Yk:m<Tm.room (b.za[f]?.getD 0):=YS;have Zj:=Y0.out m Yk;have Zi:=Tm.om b.za f m;obtain⟨U,Yw,YH⟩:=s.yI Yo.out;have y:Below o.heap.size o (o.alloc (.cells #[.int .i64 (Tm.pos b.za f m:Int),.int .i64 (r:Int)] 154)):=(ah _ o).alloc (af _) _;have Yd:=aM o (.cells #[.int .i64 (Tm.pos b.za f m:Int),.int .i64 (r:Int)] 154);have Yq:=Yw.below y;have B:Boxed (o.alloc (.cells #[.int .i64 (Tm.pos b.za f m:Int),.int .i64 (r:Int)] 154)) d.heap.size 148 (.pointer (some ⟨b.S,0,none⟩)):=(y.block _ s.bS.lt).trans s.bS;have YL:=oU Yd;have YM:=qp Yd;have ZF:=B.cell;have ZG:=qp s.bA;have x:o.heap.size<(o.alloc (.cells #[.int .i64 (Tm.pos b.za f m:Int),.int .i64 (r:Int)] 154)).heap.size:=by simp
  have t:=hid (eS T (Yi (n:=0) (xJ b Zo.out (Tm.pos b.za f m) r Zj Zt (o.alloc (.cells #[.int .i64 (Tm.pos b.za f m:Int),.int .i64 (r:Int)] 154)) U Yq)));unfold pk at t;have F:=hid (CL b.rk b.za b.zb f r m);have Yj:=s.kp;have D:=hid (fun l(e:Below (o.alloc (.cells #[.int .i64 (Tm.pos b.za f m:Int),.int .i64 (r:Int)] 154)).heap.size (o.alloc (.cells #[.int .i64 (Tm.pos b.za f m:Int),.int .i64 (r:Int)] 154)) l)=>eS T (Yi (n:=0) (Zm.out (Tm.pos b.za f m) Zi Zj l U (Yq.below e))));have Zx:=hid Yq;have H:=hid s;have Yv:=hid YH;have Y2:=hid no;clear s Yq Yw YH no;have G:=fun(k:Nat)(Yn:Obj)(z:w.heap.size<=k)(v:o.heap[k]?=some Yn)=>(show k<o.heap.size∧k≠b.M from⟨(ak.1 v).1,by omega⟩)
  cases YD:ph b.za b.zb (Tm.pos b.za f m) r with
  |true=>
   rw[YD]at t F;clear D;gi_wp2_with(first
    |((try refine⟨N _,?_⟩);gi_at_call 183;refine t.out.mono ?_;clear t;rintro Yt l⟨rfl,e⟩;have c:Below o.heap.size o l:=y.trans (e.mono y.size);have g:Boxed l (d.heap.size+1+1) 4 (.bool false):=(c.block _ h.lt).trans h;have Y5:=g.cell;have Y8:=g.frozen;have Za:=(e.cell (p:=⟨o.heap.size,0,none⟩) x).trans YL;have Zb:=(e.cell (p:=⟨o.heap.size,1,none⟩) x).trans YM;have L:Boxed l d.heap.size 148 (.pointer (some ⟨b.S,0,none⟩)):=(e.block _ B.lt).trans B;have Zc:=L.cell))
   have R:oD b.rk b.za b.zb f r (Tm.room (b.za[f]?.getD 0))=true:=Ld Yk (by rw[F.out];simp);refine⟨(⟨c.size,fun k Yn z v _=>(c.block k (G k Yn z v).1).trans v⟩:KeepsFrom w.heap.size o l).trans ((dO _ _ _).from _),rfl,R,?_,g.set _⟩;have YR:eZ d.heap.size b.M d l:=Yj.trans (eZ.kd (c.mono Yj.size));obtain⟨Zw,Zs,Zk⟩:=H.out.FD;exact su ⟨⟨Zw,Zs.eV (c.block _ (by have:=Yj.size;omega)),Zk⟩,(c.block _ H.out.bS.lt).trans H.out.bS,(c.block _ (by have:=h.lt;omega)).trans H.out.bA,YR⟩ i (by omega) _
  |false=>
   rw[YD]at t F;cases YE:iu b.rk b.za b.zb (Tm.pos b.za f m) r with
   |true=>
    rw[YE]at D F;gi_wp2_with(first
     |((try refine⟨N _,?_⟩);gi_at_call 183;refine t.out.mono ?_;clear t;rintro Yt l⟨rfl,e⟩;have c:Below o.heap.size o l:=y.trans (e.mono y.size);have g:Boxed l (d.heap.size+1+1) 4 (.bool false):=(c.block _ h.lt).trans h;have Y5:=g.cell;have Y8:=g.frozen;have Za:=(e.cell (p:=⟨o.heap.size,0,none⟩) x).trans YL;have Zb:=(e.cell (p:=⟨o.heap.size,1,none⟩) x).trans YM;have L:Boxed l d.heap.size 148 (.pointer (some ⟨b.S,0,none⟩)):=(e.block _ B.lt).trans B;have Zc:=L.cell)
     |((try refine⟨N _,?_⟩);gi_at_call 113;refine(D.out l e).mono ?_;clear D;rintro Yt Yr⟨rfl,q,YT,YJ,Ym⟩;have O:∀k,d.heap.size<=k->k≠b.M:=(fun k z Yt=>by omega);have u:=c.size;have A:Boxed Yr (d.heap.size+1+1) 4 (.bool false):=(q.block _ g.lt (O _ (by omega))).trans g;have Y6:=A.cell;have Y9:=A.frozen))
    have R:oD b.rk b.za b.zb f r (Tm.room (b.za[f]?.getD 0))=true:=Ld Yk (by rw[F.out];simp);refine⟨(⟨aK c.size q.size,fun k Yn z v _=>((q.block k (df (G k Yn z v).1 u) (G k Yn z v).2).trans (c.block k (G k Yn z v).1)).trans v⟩:KeepsFrom w.heap.size o Yr).trans ((dO _ _ _).from _),rfl,R,?_,A.set _⟩;exact su (xx H.out c q i YJ.FD (fun k T YN=>(Ym k T (by omega)).trans (Yv.out k T YN))) i (by omega) _
   |false=>
    rw[YE]at D F;gi_wp2_with(first
     |((try refine⟨N _,?_⟩);gi_at_call 183;refine t.out.mono ?_;clear t;rintro Yt l⟨rfl,e⟩;have c:Below o.heap.size o l:=y.trans (e.mono y.size);have g:Boxed l (d.heap.size+1+1) 4 (.bool false):=(c.block _ h.lt).trans h;have Y5:=g.cell;have Y8:=g.frozen;have Za:=(e.cell (p:=⟨o.heap.size,0,none⟩) x).trans YL;have Zb:=(e.cell (p:=⟨o.heap.size,1,none⟩) x).trans YM;have L:Boxed l d.heap.size 148 (.pointer (some ⟨b.S,0,none⟩)):=(e.block _ B.lt).trans B;have Zc:=L.cell)
     |((try refine⟨N _,?_⟩);gi_at_call 113;refine(D.out l e).mono ?_;clear D;rintro Yt Yr⟨rfl,q,YT,YJ,Ym⟩;have O:∀k,d.heap.size<=k->k≠b.M:=(fun k z Yt=>by omega);have u:=c.size;have A:Boxed Yr (d.heap.size+1+1) 4 (.bool false):=(q.block _ g.lt (O _ (by omega))).trans g;have Y6:=A.cell;have Y9:=A.frozen))
    refine⟨⟨aK c.size q.size,fun k Yn z v _=>((q.block k (df (G k Yn z v).1 u) (G k Yn z v).2).trans (c.block k (G k Yn z v).1)).trans v⟩,?_⟩;refine⟨by rw[F.out,Y2.out];rfl,xx H.out c q i YJ.FD (fun k T YN=>(Ym k T (by omega)).trans (Yv.out k T YN)),A,?_,?_⟩
    ·exact(q.block _ (df Y.lt u) (O _ (by omega))).trans ((c.block _ Y.lt).trans Y)
    ·exact(q.block _ (df X.lt u) (O _ (by omega))).trans ((c.block _ X.lt).trans X)
 case done=>
  rintro YU o YP⟨no,s,h,Y,X⟩Yg;have Ye:=h.cell;have ZE:=h.frozen;rw[YG]at YP;have Zl:oD b.rk b.za b.zb f r (Tm.room (b.za[f]?.getD 0))=false:=no;gi_wp2
  have g:=h.set (.bool false);have YQ:(o.setCell ⟨d.heap.size+1+1,0,none⟩ (.bool false)).heap[YU]?=some (.deferred (some [])):=(aT o ⟨d.heap.size+1+1,0,none⟩ _ YU (show YU≠d.heap.size+1+1 by omega)).trans Yg;refine⟨by simp,.inl ⟨_,_,rfl,ed YQ,?_⟩⟩;refine⟨_,kP rfl rfl ((aH (a:=⟨d.heap.size+1+1,0,none⟩) (cd (show d.heap.size+1+1≠YU by omega))).trans g.cell),?_⟩;rw[Zl];exact uY Yo.out i (su s i (by omega) _) (by omega)
 case stop=>
  rintro YU Zp o YP⟨rfl,R,s,h⟩Yg;have Ye:=h.cell;rw[YG]at YP;gi_wp2
  refine⟨by simp,.inl ⟨_,_,rfl,ed Yg,?_⟩⟩;refine⟨_,kP rfl rfl ((aH (a:=⟨d.heap.size+1+1,0,none⟩) (cd (show d.heap.size+1+1≠YU by omega))).trans Ye),?_⟩;rw[R];exact uY Yo.out i s (by omega)
 case panic=>exact fun _ _ _ _ YN=>YN.elim
end
section
attribute [local go_sem] Oper.semAt_some
attribute [local go_sem ↓] Go.wp_at_zero Go.wp_at_succ
theorem Ii(p:nH e a f g b c d)(h:Below d.heap.size d i)(q:e.M<a.heap.size):nH e a f g b c i:=by
 obtain⟨⟨o,n,m⟩,l,k,j⟩:=p;exact⟨⟨o,n.eV (h.block _ (by have:=j.size;omega)),m⟩,(h.block _ (ak.1 l).1).trans l,(h.block _ (ak.1 k).1).trans k,j.trans (eZ.kd (h.mono j.size))⟩
structure PK(C:Sd)(w:World)(kI:Value->Option Value)(i j m:Nat)(W:World):Prop where
 no:qy C.za C.zb i j m=true
 sd:nH C w kI (fun k l=>k<=i∨l<=j) i j W
 bR:Boxed W (w.heap.size+1+1) 4 (.bool false)
 bG:Boxed W (w.heap.size+1+1+1) 3 (.int .i64 (Tm.pos C.zb j m:Int))
 bT:Boxed W (w.heap.size+1+1+1+1) 68 (.slice (some ⟨C.ba,C.fa,none⟩) C.za.length C.ca)
 bK:Boxed W (w.heap.size+1+1+1+1+1) 3 (.int .i64 (i:Int))
theorem Es(b:Sd)(N:LW b)(d h:Nat)(W:d<b.za.length)(Yn:h<b.zb.length)(Yt:b.za[d]?.getD 0=b.zb[h]?.getD 0)
 (Zf:∀k l,d<k->k<b.za.length->h<l->l<b.zb.length->pT b 113 k l (iu b.rk b.za b.zb k l) fun ZF ZG=>ZF<k∨ZG<l):
 pT b 184 d h (sr b.rk b.za b.zb d h (Tm.room (b.za[d]?.getD 0))) fun k l=>k<=d∨l<=h:=by
 intro c V YZ;obtain⟨YY,hF⟩:∃YY,YY=Fence.wide:=⟨_,rfl⟩;refine(gx (n:=3)).1 ?_;rw[<-hF];obtain⟨YJ,z,S,Ym⟩:=jk hF;have X:Hid (Pl YY):=by rw[hF];exact nj
 have Zt:=hid hF;clear hF;have Zj:=z 184;have ZK:=z 113;have ZL:=z 169;have Zk:=z 196;have ZM:=z 183;have YU:=z;clear z;have ZN:=YU 148;have Z0:=cK N.ea;have lb:=cK N.eb;have g:=YZ.Qq;have ZE:=YZ.lt;obtain⟨e,x⟩:∃e,(((c.alloc (.cells #[.pointer (some ⟨b.S,0,none⟩)] 148)).alloc (.cells #[.int .i64 (d:Int),.int .i64 (h:Int)] 154)).alloc (.cells #[.bool false] 4)).alloc (.cells #[.int .i64 ((h:Int)+1)] 3)=e:=⟨_,rfl⟩;have P:Below c.heap.size c e:=by rw[<-x];exact((((ah _ c).alloc (af _) _).alloc (by simp) _).alloc (by simp;omega) _).alloc (by simp;omega) _
 have Ye:Boxed e c.heap.size 148 (.pointer (some ⟨b.S,0,none⟩)):=by rw[<-x];exact(((dt c 148 (.pointer (some ⟨b.S,0,none⟩))).alloc _).alloc _).alloc _
 have YO:e.heap[c.heap.size+1]?=some (.cells #[.int .i64 (d:Int),.int .i64 (h:Int)] 154 (0,0)):=by
  rw[<-x];have u:=aM (c.alloc (.cells #[.pointer (some ⟨b.S,0,none⟩)] 148)) (.cells #[.int .i64 (d:Int),.int .i64 (h:Int)] 154);rw[bI]at u;exact(cM _ _ _ (by simp)).trans ((cM _ _ _ (by simp)).trans u)
 have i:Boxed e (c.heap.size+1+1) 4 (.bool false):=by
  rw[<-x];have u:=dt ((c.alloc (.cells #[.pointer (some ⟨b.S,0,none⟩)] 148)).alloc (.cells #[.int .i64 (d:Int),.int .i64 (h:Int)] 154)) 4 (.bool false);simp only[bI]at u;exact u.alloc _
 have A:Boxed e (c.heap.size+1+1+1) 3 (.int .i64 (Tm.pos b.zb h 0:Int)):=by
  rw[<-x,Tm.iI];have u:=dt (((c.alloc (.cells #[.pointer (some ⟨b.S,0,none⟩)] 148)).alloc (.cells #[.int .i64 (d:Int),.int .i64 (h:Int)] 154)).alloc (.cells #[.bool false] 4)) 3 (.int .i64 ((h:Int)+1));simp only[bI]at u;exact u
 have Yr:e.heap.size=c.heap.size+1+1+1+1:=by rw[<-x];simp
 have Y3:=hid x;clear x;have YM:=YZ.below P;have Yi:=YM.c1;have Zb:=Ye.cell;have Za:=oU YO;have L:=hid (fun H(YR:Below e.heap.size e H)=>(show H.cell? ⟨b.S,1,none⟩=some (.slice (some ⟨b.ba,b.fa,none⟩) b.za.length b.ca)∧H.cell? ⟨c.heap.size,0,none⟩=some (.pointer (some ⟨b.S,0,none⟩))∧H.cell? ⟨c.heap.size+1,0,none⟩=some (.int .i64 (d:Int))from
  ⟨(YR.cell YM.lt).trans Yi,(YR.cell Ye.lt).trans Zb,(YR.cell (p:=⟨c.heap.size+1,0,none⟩) (by show c.heap.size+1<_;omega)).trans Za⟩))
 obtain⟨q,D⟩:∃q,((e.alloc (.cells #[.slice (some ⟨b.ba,b.fa,none⟩) b.za.length b.ca] 68)).alloc (.cells #[.int .i64 (d:Int)] 3)).drew=q:=⟨_,rfl⟩;have w:Below e.heap.size e q:=by rw[<-D];exact ie (((ah _ e).alloc (af _) _).alloc (by simp) _)
 have YF:Boxed q (c.heap.size+1+1+1+1) 68 (.slice (some ⟨b.ba,b.fa,none⟩) b.za.length b.ca):=by
  rw[<-D,<-Yr];exact(dt e 68 (.slice (some ⟨b.ba,b.fa,none⟩) b.za.length b.ca)).alloc _
 have YC:Boxed q (c.heap.size+1+1+1+1+1) 3 (.int .i64 (d:Int)):=by
  have u:=dt (e.alloc (.cells #[.slice (some ⟨b.ba,b.fa,none⟩) b.za.length b.ca] 68)) 3 (.int .i64 (d:Int));rw[bI,Yr]at u;rw[<-D];exact u
 have YK:q.heap.size=c.heap.size+1+1+1+1+1+1:=by rw[<-D];show((e.alloc _).alloc _).heap.size=_;simp[Yr]
 have Y4:=hid D;clear D;have YE:Boxed q c.heap.size 148 (.pointer (some ⟨b.S,0,none⟩)):=(w.block _ Ye.lt).trans Ye;have YA:=(w.block _ (by omega)).trans YO;have YD:Boxed q (c.heap.size+1+1) 4 (.bool false):=(w.block _ i.lt).trans i;have YB:Boxed q (c.heap.size+1+1+1) 3 (.int .i64 (Tm.pos b.zb h 0:Int)):=(w.block _ A.lt).trans A;have Yj:Below c.heap.size c q:=P.trans (w.mono P.size);have Y7:PK b c V d h 0 q:=⟨rfl,⟨⟨V,YZ.FD.eV (Yj.block _ g),fun _ _ _=>rfl⟩,YE,YA,eZ.kd Yj⟩,YD,YB,YF,YC⟩;have YH:∀m,m<Tm.room (b.za[d]?.getD 0)->Tm.pos b.za d m<b.za.length:=fun m Yp=>by
  have u:=mL N.ea W m (by omega);have YQ:=mY (fD N.ea W) (m:=m) (by rw[j8 N.ea W];exact Yp);rw[fZ N.ea W]at YQ;have ZC:=gL N.ea W;omega
 have Yo:∀m,m<Tm.room (b.za[d]?.getD 0)->Tm.pos b.zb h m<b.zb.length:=fun m Yp=>by
  have u:=mL N.eb Yn m (by rw[<-Yt];omega);have YQ:=mY (fD N.eb Yn) (m:=m) (by rw[j8 N.eb Yn,<-Yt];exact Yp);rw[fZ N.eb Yn]at YQ;have ZC:=gL N.eb Yn;omega
 have YN:=hid Yo;have ZO:(h:Int)<30:=by omega
 have Y0:=hid Y7;have Y6:=hid YH;have Yu:=hid YZ;have Zs:=hid Zf;have Zu:=hid N;clear YM Yi Zb Za Ye YO i A YF YC YE YA YD YB Y7 YH Yo Yt Zf w Yj P YZ N;refine eE Tryz.func184 rfl Zj ?_ YJ;simp only[Tryz.ntmps184,cY,aI,bH,Nat.reduceAdd,Nat.reduceSub,bM,bQ,cE,bY,bV,bc];gi_wp2_with fail
 rw[Y3.out];rw[Zt.out];refine RN.2 ?_;have Zh:=L.out _ (ah _ e);go_region_held3(fun H=>H.cell? ⟨b.S,1,none⟩=some (.slice (some ⟨b.ba,b.fa,none⟩) b.za.length b.ca)∧H.cell? ⟨c.heap.size,0,none⟩=some (.pointer (some ⟨b.S,0,none⟩))∧H.cell? ⟨c.heap.size+1,0,none⟩=some (.int .i64 (d:Int)))(first|assumption|exact L.out _ (ah _ e)|exact L.out _ (bD (ah _ e) 1))(first
  |(go_at_call 169;refine(gx.1 (pf Fence.wide nj 0 _ _ _ _ _)).mono ?_;rintro YP H⟨rfl,rfl⟩;have Zi:=L.out _ (((bD (ah _ e) 1).alloc (af _) (.cells #[.slice (some ⟨b.ba,b.fa,none⟩) b.za.length b.ca] 68)).alloc (by simp) (.cells #[.int .i64 (d:Int)] 3))))
 rw[Y4.out];rename_i hHeld;clear L Zh Zi hHeld;gi_wp2_with fail
 refine jf YJ (by omega) (gf:=196) (lb:=#[.pointer (some ⟨c.heap.size+1+1+1+1+1,0,none⟩),.pointer (some ⟨c.heap.size+1+1+1+1,0,none⟩)]) rfl Zk (iW Tryz.func196 (by kernel_rfl) rfl)
  (mH YY X.out _ (c.heap.size+1+1+1+1+1) (c.heap.size+1+1+1+1) d b.ca (some ⟨b.ba,b.fa,none⟩) b.za (by omega) W (nw YY X.out b.za (by omega) _ b.ca d)) (fun _=>rfl)
  (PK b c V d h)
  (fun Zw o=>Zw=.ret∧nH b c V (fun k l=>k<=d∨l<=h) d h o∧Boxed o (c.heap.size+1+1) 4 (.bool (sr b.rk b.za b.zb d h (Tm.room (b.za[d]?.getD 0))))) (fun _ _=>False) (.inl fun _ _ Ze=>Ze)
  (by
    rintro m ZQ ZR row⟨no,s,i,A,Yg,Yc⟩J K;exact⟨no,s.own g (by omega) J K,gX i J K,gX A J K,gX Yg J K,gX Yc J K⟩)
  (by
    rintro Zw ZQ ZR row⟨YP,s,i⟩J K;exact⟨YP,s.own g (by omega) J K,gX i J K⟩)
  (fun m o Yl=>⟨Yl.bK.cell,Yl.bT.cell,by obtain⟨M,L,_⟩:=Yl.sd.yI Yu.out;exact L.ia⟩)
  Y0.out
  (fun m=>{tmps:=#[.pointer (some ⟨b.S,0,none⟩),.agg #[.int .i64 (d:Int),.int .i64 (h:Int)],.pointer (some ⟨c.heap.size,0,none⟩),.pointer (some ⟨c.heap.size+1,0,none⟩),.pointer (some ⟨c.heap.size+1+1,0,none⟩),.pointer (some ⟨c.heap.size+1+1+1,0,none⟩),.int .i64 (Tm.pos b.za d m:Int),undef,
    .pointer (some ⟨c.heap.size+1,1,none⟩),.int .i64 (h:Int),.int .i64 ((h:Int)+1),
    .pointer (some ⟨b.S,0,none⟩),.pointer (some ⟨b.S,0,none⟩),.pointer (some ⟨b.S,1,none⟩),.slice (some ⟨b.ba,b.fa,none⟩) b.za.length b.ca,.pointer (some ⟨c.heap.size+1,0,none⟩),.int .i64 (d:Int),.func (.func 196) #[] #[.pointer (some ⟨c.heap.size+1+1+1+1+1,0,none⟩),.pointer (some ⟨c.heap.size+1+1+1+1,0,none⟩)],
    .int .i64 (Tm.pos b.za d m:Int),.int .i64 (Tm.pos b.za d (m+1):Int),undef,undef,undef,undef,undef,undef,undef,undef,undef,undef,undef,undef,undef,undef,undef,undef],defers:=[]}) ?assign ?body ?done ?stop ?panic
 case assign=>
  intro l m o Z1 ZD;simp only[rL];gi_wp2
  exact ZD
 case body=>
  rintro l m o Yl Yp;obtain⟨no,s,i,A,Yg,Yc⟩:=Yl;have Yq:m<Tm.room (b.za[d]?.getD 0):=Yp;have Zn:=Y6.out m Yq;have YI:=YN.out m Yq;have Zl:=Tm.om b.za d m;have YV:=Tm.om b.zb h m;obtain⟨M,Yz,YL⟩:=s.yI Yu.out;have B:Below o.heap.size o (o.alloc (.cells #[.int .i64 (Tm.pos b.za d m:Int),.int .i64 (Tm.pos b.zb h m:Int)] 154)):=(ah _ o).alloc (af _) _;have Yh:=aM o (.cells #[.int .i64 (Tm.pos b.za d m:Int),.int .i64 (Tm.pos b.zb h m:Int)] 154);have Yv:=Yz.below B;have I:Boxed (o.alloc (.cells #[.int .i64 (Tm.pos b.za d m:Int),.int .i64 (Tm.pos b.zb h m:Int)] 154)) c.heap.size 148 (.pointer (some ⟨b.S,0,none⟩)):=(B.block _ s.bS.lt).trans s.bS;have Zc:=oU Yh;have Zd:=qp Yh;have ZW:=I.cell;have ZX:=A.cell;have F:o.heap.size<(o.alloc (.cells #[.int .i64 (Tm.pos b.za d m:Int),.int .i64 (Tm.pos b.zb h m:Int)] 154)).heap.size:=by simp
  have y:=hid (eS l (Ym (n:=0) (xJ b Zu.out (Tm.pos b.za d m) (Tm.pos b.zb h m) Zn YI (o.alloc (.cells #[.int .i64 (Tm.pos b.za d m:Int),.int .i64 (Tm.pos b.zb h m:Int)] 154)) M Yv)));unfold pk at y;have ZP:=s.kp;have Q:=hid (fun t(j:Below (o.alloc (.cells #[.int .i64 (Tm.pos b.za d m:Int),.int .i64 (Tm.pos b.zb h m:Int)] 154)).heap.size (o.alloc (.cells #[.int .i64 (Tm.pos b.za d m:Int),.int .i64 (Tm.pos b.zb h m:Int)] 154)) t)=>eS l (Ym (n:=0) (Zs.out (Tm.pos b.za d m) (Tm.pos b.zb h m) Zl Zn YV YI t M (Yv.below j))));have Y2:=hid Yv;have Yy:=hid s;have Y5:=hid YL;have Yx:=hid no;clear s Yv Yz YL no;have T:=fun(k:Nat)(YW:Obj)(E:q.heap.size<=k)(G:o.heap[k]?=some YW)=>(show k<o.heap.size∧k≠b.M from⟨(ak.1 G).1,by omega⟩)
  cases U:ph b.za b.zb (Tm.pos b.za d m) (Tm.pos b.zb h m)with
  |false=>
   rw[U]at y;have YG:=Iw (rk:=b.rk) Yq Yx.out U;rw[<-YG]at Q;generalize sr b.rk b.za b.zb d h (Tm.room (b.za[d]?.getD 0))=Z2 at*;clear YG;gi_wp2_with(first
    |((try refine⟨S _,?_⟩);gi_at_call 183;refine y.out.mono ?_;clear y;rintro YP t⟨rfl,j⟩;have f:Below o.heap.size o t:=B.trans (j.mono B.size);have r:Boxed t (c.heap.size+1+1) 4 (.bool false):=(f.block _ i.lt).trans i;have Zx:=r.cell;have Zy:=r.frozen;have Zz:=(j.cell (p:=⟨o.heap.size,0,none⟩) F).trans Zc;have ZA:=(j.cell (p:=⟨o.heap.size,1,none⟩) F).trans Zd;have Yf:Boxed t c.heap.size 148 (.pointer (some ⟨b.S,0,none⟩)):=(j.block _ I.lt).trans I;have ZB:=Yf.cell)
    |((try refine⟨S _,?_⟩);gi_at_call 113;refine(Q.out t j).mono ?_;clear Q;rintro YP Y9⟨rfl,R,ZH,Zv,Zp⟩;have Zm:∀k,c.heap.size<=k->k≠b.M:=(fun k E YP=>by omega);have Yw:=f.size;have Yd:Boxed Y9 (c.heap.size+1+1) 4 (.bool false):=(R.block _ r.lt (Zm _ (by omega))).trans r;have ZI:=Yd.cell;have ZJ:=Yd.frozen))
   refine⟨(⟨aK f.size R.size,fun k YW E G _=>((R.block k (df (T k YW E G).1 Yw) (T k YW E G).2).trans (f.block k (T k YW E G).1)).trans G⟩:KeepsFrom q.heap.size o Y9).trans ((dO _ _ _).from _),rfl,?_,Yd.set _⟩;exact su (xx Yy.out f R g Zv.FD (fun k l Ze=>(Zp k l (by omega)).trans (Y5.out k l Ze))) g (by omega) _
  |true=>
   rw[U]at y;clear Q;gi_wp2_with(first
    |((try refine⟨S _,?_⟩);gi_at_call 183;refine y.out.mono ?_;clear y;rintro YP t⟨rfl,j⟩;have f:Below o.heap.size o t:=B.trans (j.mono B.size);have r:Boxed t (c.heap.size+1+1) 4 (.bool false):=(f.block _ i.lt).trans i;have Zx:=r.cell;have Zy:=r.frozen;have Zz:=(j.cell (p:=⟨o.heap.size,0,none⟩) F).trans Zc;have ZA:=(j.cell (p:=⟨o.heap.size,1,none⟩) F).trans Zd;have Yf:Boxed t c.heap.size 148 (.pointer (some ⟨b.S,0,none⟩)):=(j.block _ I.lt).trans I;have ZB:=Yf.cell))
   have Y8:=Y2.out.below j;have ZU:=Y8.c2;have O:Boxed t (c.heap.size+1+1+1) 3 (.int .i64 (Tm.pos b.zb h m:Int)):=(f.block _ A.lt).trans A;have ZT:=O.cell;have ZY:=O.frozen;have Zr:Tryz.prog.follows .mixedOrders=true:=by kernel_rfl
   have Zo:=hid (Tm.jL b.zb h m);have Zg:=hid (yX YY X.out b.zb (by omega) (some ⟨b.bb,b.fb,none⟩) b.cb _ (Tm.pos b.zb h m) 0 (af _) (by omega) t.drew Y8.ib);gi_region_with_o(first|((try refine⟨S _,?_⟩);gi_at_call 148;refine(eS l Zg.out).mono ?_;rintro YP Y⟨rfl,C⟩;have Z:Boxed Y (c.heap.size+1+1+1) 3 (.int .i64 (Tm.pos b.zb h m:Int)):=(C.block _ O.lt).trans O;have ZV:=Z.cell;have ZZ:=Z.frozen))
   all_goals(
    gi_wp2
    have v:Below o.heap.size o Y:=f.trans ⟨C.os,C.tape,C.output,C.size,fun k E=>C.block k (df E f.size)⟩;refine⟨(⟨v.size,fun k YW E G _=>(v.block k (T k YW E G).1).trans G⟩:KeepsFrom q.heap.size o Y).trans ((dO _ _ _).from _),?_⟩;refine⟨by rw[sV,Yx.out,U];rfl,su (Ii Yy.out v g) g (by omega) _,nK ((v.block _ i.lt).trans i) (by omega) _,by rw[Zo.out];exact Z.set _,nK ((v.block _ Yg.lt).trans Yg) (by omega) _,nK ((v.block _ Yc.lt).trans Yc) (by omega) _⟩)
 case done=>
  rintro YX o YS⟨no,s,i,A,Yg,Yc⟩Yk;have Yi:=i.cell;have ZS:=i.frozen;rw[YK]at YS;have Zq:sr b.rk b.za b.zb d h (Tm.room (b.za[d]?.getD 0))=false:=BT no;gi_wp2
  have r:=i.set (.bool false);have YT:(o.setCell ⟨c.heap.size+1+1,0,none⟩ (.bool false)).heap[YX]?=some (.deferred (some [])):=(aT o ⟨c.heap.size+1+1,0,none⟩ _ YX (show YX≠c.heap.size+1+1 by omega)).trans Yk;refine⟨by simp,.inl ⟨_,_,rfl,ed YT,?_⟩⟩;refine⟨_,kP rfl rfl ((aH (a:=⟨c.heap.size+1+1,0,none⟩) (cd (show c.heap.size+1+1≠YX by omega))).trans r.cell),?_⟩;rw[Zq];exact uY Yu.out g (su s g (by omega) _) (by omega)
 case stop=>
  rintro YX Zw o YS⟨rfl,s,i⟩Yk;have Yi:=i.cell;rw[YK]at YS;gi_wp2
  refine⟨by simp,.inl ⟨_,_,rfl,ed Yk,?_⟩⟩;refine⟨_,kP rfl rfl ((aH (a:=⟨c.heap.size+1+1,0,none⟩) (cd (show c.heap.size+1+1≠YX by omega))).trans Yi),?_⟩;exact uY Yu.out g s (by omega)
 case panic=>exact fun _ _ _ _ Ze=>Ze.elim
end
