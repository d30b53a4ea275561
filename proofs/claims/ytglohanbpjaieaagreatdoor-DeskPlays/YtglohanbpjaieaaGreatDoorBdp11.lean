/-
  Parts of the proof.
-/
import Derived.Test.YtglohanbpjaieaaGreatDoorBdp10
import Derived.WalkLawsBesides
set_option maxHeartbeats 2000000
set_option maxRecDepth 100000
namespace Go.Proofs.YtglohanbpjaieaaGreatDoor
open Go.Proofs Go.RowKit Go.Shelf Go.Maps
variable {A:Value}{D:Option Addr}{H:Int}{I:Oper}{J:Act}{N:Int->Option Value}{O:Array Value}{P:Fence}{Q:Act->World->Prop}{T:Exit->Act->World->Prop}{U:List (List Int)}{a w:List Int}{b h j y B C G K L R S:Nat}{d u E M:Nat->Nat}{e z F:World}{r:Nat->Option Nat}
section
attribute [local go_sem] Oper.semAt_some
theorem Db.eV{W':World}{i:List Int}(u:Db e j y (some ⟨b,B,none⟩) C i d)(l:j<h)(m:y<h)(n:b<h)(E:h<=W'.heap.size)(f:∀k,k<h->W'.heap[k]?=e.heap[k]?):Db W' j y (some ⟨b,B,none⟩) C i d:=by
 obtain⟨z,w,x,c,p⟩:=u;refine⟨z,w,x,⟨(f j l).trans c.FC,fun t r=>?_,?_⟩,p⟩
 ·obtain⟨A,s,D,_,q⟩:=c.ints t r
  cases D;exact⟨b,B,rfl,by omega,(aH (a:=⟨b,B+t,none⟩) (f b n)).trans q⟩
 ·obtain⟨v,o,g⟩:=c.ties
  exact⟨v,o.eV (f y m),g⟩
theorem Db.ints(f:Db e b h D j a d):cZ e.heap.size e D a:=by
 obtain⟨l,i,k,c,g⟩:=f;exact c.ints
theorem Db.cell0(f:Db e b j D h a d):e.cell? ⟨b,0,none⟩=some (.slice D a.length h):=by
 obtain⟨l,i,k,c,g⟩:=f;exact c.cell0
theorem Db.lt(f:Db e b h D j a d):b<e.heap.size∧h<e.heap.size:=by
 obtain⟨l,i,k,c,g⟩:=f;exact c.lt
theorem zH{row:Option Nat}(m:b<=j)(c:eZ b h e z)(a:z.grownBy F row)(g:∀k,row=some k->j<=k∧∃o:Obj,z.heap[k]?=some o∧o.isCells=false)(n:b<=e.heap.size:=by exact af _):eZ b h e F:=
 ⟨a.os.trans c.os,a.tape.trans c.tape,a.output.trans c.output,aK c.size a.size,fun i d f=>(a.block i (by have:=c.size;omega) (fun l=>by have:=(g i l.symm).1;omega)).trans (c.block i d f)⟩
theorem BY(a:eZ h j z e)(i:h<=b)(g:Value):eZ h j z (e.setCell ⟨b,0,none⟩ g):=
 ⟨a.os,a.tape,a.output,aK a.size (ef e _ g).size,fun f c d=>(aT e ⟨b,0,none⟩ g f (by show f≠b;omega)).trans (a.block f c d)⟩
structure K6(w:World)(Bw Bm b off cap:Nat)(zs:List Int)(h:Nat->Nat)(one other i:Nat)(W:World):Prop where
 st:∃h',Wb.qG zs h h' (Wb.lE zs one other i)∧Db W Bw Bm (some ⟨b,off,none⟩) cap zs h'∧Wb.rt zs h'<=Wb.rt zs h
 bA:Boxed W (w.heap.size+1+1) 3 (.int .i64 (Tm.pos zs other i:Int))
 bW:Boxed W w.heap.size 243 (.pointer (some ⟨Bw,0,none⟩))
 bR:Boxed W (w.heap.size+1) 4 (.bool false)
 bK:Boxed W (w.heap.size+1+1+1+1) 3 (.int .i64 (one:Int))
 bT:Boxed W (w.heap.size+1+1+1) 68 (.slice (some ⟨b,off,none⟩) zs.length cap)
 kp:eZ w.heap.size Bm w W
theorem K6.own{one:Nat}(o:h<e.heap.size)(p:j<e.heap.size)(q:y<e.heap.size)(r:e.heap.size<=b):OwnFrom b (K6 e h j y B C a d one G):=by
 rintro E w x row⟨⟨n,s,t,v⟩,bA,bW,bR,bK,bT,i⟩g f;have c:∀{k:Nat}{l:TypeId}{m:Value},Boxed w k l m->Boxed x k l m:=fun{k l m}u=>(pn k l (fun _:Unit=>m)).from b () w x row u g f
 refine⟨⟨n,s,t.eV o p q (aK i.size g.size) fun z D=>g.block z (by have:=i.size;omega) (fun A=>by have:=(f z A.symm).1;omega),v⟩,c bA,c bW,c bR,c bK,c bT,zH r i g f⟩
theorem De(c:List Int)(YI:Wb.Good c)(Yd:Nat->Nat)(h r B g:Nat)(f one b:Nat)(e:World)(Yi:Db e h r (some ⟨B,g,none⟩) f c Yd)(YQ:one<c.length)(Y9:b<c.length)(Y2:Wb.sg c b=Wb.sg c one)
 (YT:∀(h':Nat->Nat)(p q:Nat)(u:World),Wb.rt c h'<=Wb.rt c Yd->p<c.length->q<c.length->Db u h r (some ⟨B,g,none⟩) f c h'->
   Calls Tryz.prog 211 #[.pointer (some ⟨h,0,none⟩),.int .i64 (p:Int),.int .i64 (q:Int)] u fun Q YL=>eZ u.heap.size r u YL∧Ae YL Q h r (some ⟨B,g,none⟩) f c h' [(p,q)]):
 Calls Tryz.prog 216 #[.pointer (some ⟨h,0,none⟩),.int .i64 (one:Int),.int .i64 (b:Int)] e fun Q YH=>eZ e.heap.size r e YH∧Ae YH Q h r (some ⟨B,g,none⟩) f c Yd (Wb.lE c one b (Tm.room (Wb.sg c one))):=by
 obtain⟨Yy,hF⟩:∃Yy,Yy=Fence.wide:=⟨_,rfl⟩;refine(gx (n:=3)).1 ?_;rw[<-hF];obtain⟨Yw,v,Y,YD⟩:=jk hF;have I:Hid (Pl Yy):=by rw[hF];exact nj
 clear hF;have YV:=v 216;have Zi:=v 211;have Zj:=v 169;have YW:=v 196;have Zk:=v 148;clear v;have Z:=YI.len;have Zc:(c.length:Int)<=5000:=by omega
 have R:(b:Int)<(c.length:Int):=by omega
 have Zh:(one:Int)<(c.length:Int):=by omega
 have Y4:=Yi.cell0;have k:=Yi.lt;obtain⟨Zu,Zg,Q,Yg,YU⟩:=Yi.ints.at (by omega);cases Q;have S:Below e.heap.size e (((e.alloc (.cells #[.pointer (some ⟨h,0,none⟩)] 243)).alloc (.cells #[.bool false] 4)).alloc (.cells #[.int .i64 ((b:Int)+1)] 3)):=
  (((ah _ e).alloc (af _) _).alloc (by simp) _).alloc (by simp;omega) _
 have YE:=(S.cell (p:=⟨h,0,none⟩) k.1).trans Y4;have D:=((dt e 243 (.pointer (some ⟨h,0,none⟩))).alloc (.cells #[.bool false] 4)).alloc (.cells #[.int .i64 ((b:Int)+1)] 3);have l:=(dt (e.alloc (.cells #[.pointer (some ⟨h,0,none⟩)] 243)) 4 (.bool false)).alloc (.cells #[.int .i64 ((b:Int)+1)] 3);have z:=dt ((e.alloc (.cells #[.pointer (some ⟨h,0,none⟩)] 243)).alloc (.cells #[.bool false] 4)) 3 (.int .i64 ((b:Int)+1));simp only[bI]at l z;have x:(((e.alloc (.cells #[.pointer (some ⟨h,0,none⟩)] 243)).alloc (.cells #[.bool false] 4)).alloc (.cells #[.int .i64 ((b:Int)+1)] 3)).heap.size=e.heap.size+1+1+1:=by simp
 obtain⟨G,K⟩:∃G,((e.alloc (.cells #[.pointer (some ⟨h,0,none⟩)] 243)).alloc (.cells #[.bool false] 4)).alloc (.cells #[.int .i64 ((b:Int)+1)] 3)=G:=⟨_,rfl⟩;have Yj:=hid K;have YK:Hid (G.heap.size=e.heap.size+1+1+1):=by show _=_;rw[<-K];exact x
 rw[K]at S D l z;clear K x;refine eE Tryz.func216 rfl YV ?_ Yw;simp only[Tryz.ntmps216,cY,aI,bH,Nat.reduceAdd,Nat.reduceSub,bM,bQ,cE,bY,bV,bc];gi_wp2_with(first
  |((try refine⟨Y _,?_⟩);gi_at_call 169;refine(pf Yy I.out _ _ _ _ _ _).mono ?_;rintro Q YH⟨rfl,rfl⟩))
 rw[Yj.out];have x:=YK.out;have YP:=(D.alloc (.cells #[.slice (some ⟨B,g,none⟩) c.length f] 68)).alloc (.cells #[.int .i64 (one:Int)] 3);have YO:=(l.alloc (.cells #[.slice (some ⟨B,g,none⟩) c.length f] 68)).alloc (.cells #[.int .i64 (one:Int)] 3);have YM:=(z.alloc (.cells #[.slice (some ⟨B,g,none⟩) c.length f] 68)).alloc (.cells #[.int .i64 (one:Int)] 3);have Yo:=(dt G 68 (.slice (some ⟨B,g,none⟩) c.length f)).alloc (.cells #[.int .i64 (one:Int)] 3);have Ym:=dt (G.alloc (.cells #[.slice (some ⟨B,g,none⟩) c.length f] 68)) 3 (.int .i64 (one:Int));rw[bI,x]at Ym;rw[x]at Yo;have T:Below e.heap.size e ((G.alloc (.cells #[.slice (some ⟨B,g,none⟩) c.length f] 68)).alloc (.cells #[.int .i64 (one:Int)] 3)):=(S.alloc (by omega) _).alloc (by simp;omega) _;have y:((G.alloc (.cells #[.slice (some ⟨B,g,none⟩) c.length f] 68)).alloc (.cells #[.int .i64 (one:Int)] 3)).heap.size=e.heap.size+1+1+1+1+1:=by simp[x]
 have Zo:=Tm.room_le (Wb.sg c one);have F:∀s,s<Tm.room (Wb.sg c one)->Tm.pos c one s<c.length∧Tm.pos c b s<c.length:=fun s Yh=>⟨Wb.pw YI YQ Yh,Wb.pw YI Y9 (by rw[Y2];exact Yh)⟩
 have Zr:=hid YI;have Y6:=hid YT;have Yk:=hid F;clear YT F YI D l z YE YU Yj;refine jf Yw (by omega) (gf:=196) (lb:=#[.pointer (some ⟨e.heap.size+1+1+1+1,0,none⟩),.pointer (some ⟨e.heap.size+1+1+1,0,none⟩)]) rfl YW (iW Tryz.func196 (by kernel_rfl) rfl)
  (mH Yy I.out _ (e.heap.size+1+1+1+1) (e.heap.size+1+1+1) one f (some ⟨B,g,none⟩) c Z YQ (nw Yy I.out c Z _ f one)) (fun _=>rfl)
  (K6 e h r B g f c Yd one b)
  (fun Y7 u=>Y7=.ret∧Wb.No c Yd (Wb.lE c one b (Tm.room (Wb.sg c one)))∧Boxed u (e.heap.size+1) 4 (.bool false)∧eZ e.heap.size r e u) (fun _ _=>False) (.inl fun _ _ Yd=>Yd)
  (K6.own k.1 k.2 Yg (by rw[y];omega))
  (by
    rintro Y7 Zs Zt row⟨Q,V,Za,i⟩YX L;exact⟨Q,V,(pn (e.heap.size+1) 4 (fun _:Unit=>.bool false)).from _ () Zs Zt row Za YX L,zH (by rw[y];omega) i YX L⟩)
  (fun s u H=>⟨H.bK.cell,H.bT.cell,by obtain⟨h',_,W,_⟩:=H.st;exact W.ints⟩)
  ⟨⟨Yd,Wb.qG.nil _ _,Yi.eV k.1 k.2 Yg T.size (fun o t=>T.block o t),af _⟩,by rw[Tm.iI];exact YM,YP,YO,Ym,Yo,eZ.kd T⟩
  (fun s=>{tmps:=#[.pointer (some ⟨h,0,none⟩),.int .i64 (one:Int),.int .i64 (b:Int),.pointer (some ⟨e.heap.size,0,none⟩),undef,undef,.pointer (some ⟨e.heap.size+1,0,none⟩),.pointer (some ⟨e.heap.size+1+1,0,none⟩),.int .i64 (Tm.pos c one s:Int),.int .i64 (b:Int),.int .i64 ((b:Int)+1),
    .pointer (some ⟨h,0,none⟩),.pointer (some ⟨h,0,none⟩),.pointer (some ⟨h,0,none⟩),.slice (some ⟨B,g,none⟩) c.length f,.int .i64 (one:Int),.func (.func 196) #[] #[.pointer (some ⟨e.heap.size+1+1+1+1,0,none⟩),.pointer (some ⟨e.heap.size+1+1+1,0,none⟩)],
    .int .i64 (Tm.pos c one s:Int),.int .i64 (Tm.pos c one (s+1):Int),undef,undef,undef,undef,undef,undef,undef,undef,undef,undef,undef],defers:=[]}) ?assign ?body ?done ?stop ?panic
 case assign=>
  intro Zf s u ZE i;simp only[rL];gi_wp2
  exact i
 case body=>
  rintro Zf s u H Yh;obtain⟨⟨h',YC,W,L⟩,z,D,l,Ye,Yf,i⟩:=H;have Yt:s<Tm.room (Wb.sg c one):=Yh;obtain⟨YZ,Y0⟩:=Yk.out s Yt;have Yp:=hid (eS Zf (YD (n:=0) (O9 (Y6.out h' (Tm.pos c one s) (Tm.pos c b s) u L YZ Y0 W))));have Yz:=D.cell;have Y8:=z.cell;have Zm:=Yf.lt;have Zl:=Ye.lt;have Yq:=hid i;have Yr:=hid YC;have w:∀o,e.heap.size<=o->o≠r:=fun o t Q=>by have:=k.2;omega
  have Y5:Tryz.prog.follows .mixedOrders=true:=by kernel_rfl
  have Yv:Tm.pos c b (s+1)=Tm.dn c (Tm.pos c b s):=Tm.jL c b s;have YJ:=hid Yv;have Zd:(Tm.pos c b s:Int)<(c.length:Int):=by omega
  clear Yv;gi_wp2_with(first
   |((try refine⟨Y _,?_⟩);gi_at_call 211;refine Yp.out.mono ?_;clear Yp;rintro Q A⟨q,rfl,m,Ze⟩;have J:Boxed A (e.heap.size+1+1) 3 (.int .i64 (Tm.pos c b s:Int)):=(m.block _ z.lt (w _ (by omega))).trans z;have P:Boxed A e.heap.size 243 (.pointer (some ⟨h,0,none⟩)):=(m.block _ D.lt (w _ (by omega))).trans D;have C:Boxed A (e.heap.size+1) 4 (.bool false):=(m.block _ l.lt (w _ (by omega))).trans l;have Yl:Boxed A (e.heap.size+1+1+1+1) 3 (.int .i64 (one:Int)):=(m.block _ Ye.lt (w _ (by omega))).trans Ye;have Yn:Boxed A (e.heap.size+1+1+1) 68 (.slice (some ⟨B,g,none⟩) c.length f):=(m.block _ Yf.lt (w _ (by omega))).trans Yf;have Zz:=C.cell;have ZC:=C.frozen;have E:eZ e.heap.size r e A:=Yq.out.trans (m.mono Yq.out.size);have Yu:KeepsFrom (e.heap.size+1+1+1+1+1) u A:=⟨m.size,fun o ZD t Yc _=>(m.block o (ak.1 Yc).1 (w o (by omega))).trans Yc⟩;rcases Ze with⟨rfl,R,YS,X,Zn⟩|⟨rfl,V⟩))
  ·skip
   have Zv:=P.cell;have Zw:=J.cell;have ZA:=J.frozen;have Zx:=X.cell0;have YR:=hid (yX Yy I.out c Z (some ⟨B,g,none⟩) f _ (Tm.pos c b s) 0 (af _) (by omega) A.drew X.ints);gi_region_with_o(first|((try refine⟨Y _,?_⟩);gi_at_call 148;refine(eS Zf YR.out).mono ?_;rintro Q N⟨rfl,j⟩;have O:Boxed N (e.heap.size+1+1) 3 (.int .i64 (Tm.pos c b s:Int)):=(j.block _ J.lt).trans J;have Zy:=O.cell;have ZB:=O.frozen))
   all_goals(
    gi_wp2
    rw[y];refine⟨(Yu.trans ⟨j.size,fun o ZD _ Yc _=>(j.block o (ak.1 Yc).1).trans Yc⟩).trans ((dO _ _ _).from _),?_⟩;have YY:∀(p q:Nat),(p,q)∈Wb.lE c one b s->p<c.length∧q<c.length:=fun p q M=>by
     obtain⟨Zp,Zb,rfl,rfl⟩:=Wb.sP M;exact Yk.out Zp (by omega)
    have Y3:Db (N.setCell ⟨e.heap.size+1+1,0,none⟩ (.int .i64 (Tm.dn c (Tm.pos c b s):Int))) h r (some ⟨B,g,none⟩) f c R:=
     X.eV k.1 k.2 Yg (aK (aK E.size j.size) (ef N _ _).size) fun o t=>(aT N ⟨e.heap.size+1+1,0,none⟩ _ o (show o≠e.heap.size+1+1 by omega)).trans (j.block o (by have:=E.size;exact df t this))
    have YF:eZ e.heap.size r e N:=E.trans (CT (d:=1) (eZ.kd (j.mono E.size)));refine⟨⟨R,?_,Y3,by omega⟩,?_,nK ((j.block _ P.lt).trans P) (by omega) _,nK ((j.block _ C.lt).trans C) (by omega) _,nK ((j.block _ Yl.lt).trans Yl) (by omega) _,nK ((j.block _ Yn.lt).trans Yn) (by omega) _,BY YF (by omega) _⟩
    ·rw[Wb.Em];exact Yr.out.snoc YS YY
    ·rw[YJ.out];exact O.set _)
  ·skip
   rw[y];exact⟨Yu.trans ((dO _ _ _).from _),rfl,Wb.No.later Yr.out V (fun Zq M=>by
    obtain⟨p,q⟩:=Zq;obtain⟨Zp,Zb,rfl,rfl⟩:=Wb.sP M;exact Wb.vX (by omega)) (fun Zq M=>by simp at M;subst M;exact Wb.vX Yt),C.set _,BY E (by omega) _⟩
 case done=>
  rintro Yx u YA H U;obtain⟨⟨h',YC,W,L⟩,z,D,l,Ye,Yf,i⟩:=H;have Yz:=l.cell;have Y8:=l.frozen;rw[y]at YA;gi_wp2
  have YN:=l.set (.bool true);have YB:(u.setCell ⟨e.heap.size+1,0,none⟩ (.bool true)).heap[Yx]?=some (.deferred (some [])):=(aT u ⟨e.heap.size+1,0,none⟩ _ Yx (show Yx≠e.heap.size+1 by omega)).trans U;refine⟨by simp,.inl ⟨_,_,rfl,ed YB,?_⟩⟩;have F:∀o,o<e.heap.size->((u.setCell ⟨e.heap.size+1,0,none⟩ (.bool true)).putObj Yx (.deferred none)).heap[o]?=u.heap[o]?:=fun o t=>(cd (by omega)).trans (aT u ⟨e.heap.size+1,0,none⟩ _ o (show o≠e.heap.size+1 by omega))
  refine⟨_,nS rfl rfl ((aH (a:=⟨e.heap.size+1,0,none⟩) (cd (show e.heap.size+1≠Yx by omega))).trans YN.cell),?_⟩;refine⟨?_,.inl ⟨rfl,h',YC,W.eV k.1 k.2 Yg ?_ F,L⟩⟩
  ·exact⟨i.os,i.tape,i.output,by have:=i.size;have:=(ef u ⟨e.heap.size+1,0,none⟩ (.bool true)).size;simp;omega,fun o t YG=>(F o t).trans (i.block o t YG)⟩
  ·have:=i.size;have:=(ef u ⟨e.heap.size+1,0,none⟩ (.bool true)).size;simp;omega
 case stop=>
  rintro Yx Y7 u YA⟨rfl,V,l,i⟩U;have Yz:=l.cell;rw[y]at YA;gi_wp2
  refine⟨by simp,.inl ⟨_,_,rfl,ed U,?_⟩⟩;refine⟨_,nS rfl rfl ((aH (a:=⟨e.heap.size+1,0,none⟩) (cd (show e.heap.size+1≠Yx by omega))).trans Yz),?_⟩;exact⟨⟨i.os,i.tape,i.output,by have:=i.size;simp;omega,fun o t YG=>(cd (by omega)).trans (i.block o t YG)⟩,.inr ⟨rfl,V⟩⟩
 case panic=>exact fun _ _ _ _ Yd=>Yd.elim
theorem Po(b:List Int)(q:Wb.Good b)(e d s f c:Nat):∀(m:Nat)(h:Nat->Nat),Wb.rt b h<=m->∀(one a:Nat)(g:World),one<b.length->a<b.length->Db g e d (some ⟨s,f,none⟩) c b h->
 Calls Tryz.prog 211 #[.pointer (some ⟨e,0,none⟩),.int .i64 (one:Int),.int .i64 (a:Int)] g fun G p=>eZ g.heap.size d g p∧Ae p G e d (some ⟨s,f,none⟩) c b h [(one,a)]:=by
 intro m;induction m with
 |zero=>
  intro h u one a g i j k;exact GJ b q h e d _ c one a g k i j (fun l E F C z=>by omega)
 |succ m B=>
  intro h u one a g i j k;exact GJ b q h e d _ c one a g k i j (fun l E F C z v w _ A t=>De b q l e d s f c E F C t v w A (fun n H I r D x y o=>B n (by omega) H I r x y o))
end
namespace Wb
inductive Fin(zs:List Int)(h:Nat->Nat):Nat->Prop
 |mk(p:Nat):(∀i,i<Tm.room (sg zs (hd zs h p))->Fin zs h (Tm.pos zs (hd zs h p) i))->Fin zs h p
inductive xo(zs:List Int)(h:Nat->Nat):Nat->List Int->Prop
 |mk(p:Nat)(ls:List (List Int)):ls.length=Tm.room (sg zs (hd zs h p))->(∀i,i<Tm.room (sg zs (hd zs h p))->xo zs h (Tm.pos zs (hd zs h p) i) (ls[i]?.getD []))->xo zs h p (sg zs (hd zs h p)::ls.flatten)
theorem Fin.exp(k:Fin a d b):∃l,xo a d b l:=by
 induction k with
 |mk b _ j=>
  have g:∀e,∃l,e<Tm.room (sg a (hd a d b))->xo a d (Tm.pos a (hd a d b) e) l:=fun e=>by
   by_cases c:e<Tm.room (sg a (hd a d b))
   ·obtain⟨l,i⟩:=j e c
    exact⟨l,fun _=>i⟩
   ·exact⟨[],fun f=>absurd f c⟩
  obtain⟨m,h⟩:=RZ g;refine⟨_,xo.mk b ((List.range (Tm.room (sg a (hd a d b)))).map m) (by simp) fun e c=>?_⟩;have:=h e c
  simpa [c]using this
theorem xo.one(m:xo a d b w):∀c,xo a d b c->w=c:=by
 induction m with
 |mk b o n _ i=>
  intro c f;cases f with
  |mk _ l j e=>
   congr 2;refine iA (by omega) fun k g h=>?_
   have:=i k (by omega) _ (e k (by omega))
   simpa [g,h]using this
theorem xo.move(g:xo a d h w)(i:hd a d h=hd a d b):xo a d b w:=by
 cases g with
 |mk _ f e c=>
  rw[i]at e c⊢;exact xo.mk b f e c
theorem xo.most(g:Good a)(q:St a r d){l:Sb}(p:nO a d l)(o:xo a d b w):b<a.length->App l (cont a b)=App l w:=by
 induction o with
 |mk b k h _ n=>
  intro i;obtain⟨e,_,_⟩:=tX g q i;rw[p.hd g i];by_cases f:sg a (hd a d b)<0
  ·have:k=[]:=bJ (by rw[h,lV f])
   rw[wa g e f,this];rfl
  ·rw[wg g l e (by omega),jo,aE f,qJ]
   congr 2;refine iA (by simp[kids,h]) fun j m t=>?_
   have c:j<Tm.room (sg a (hd a d b)):=by simpa [kids]using m
   have:=n j c (pw g e c)
   rw[kZ,kZ];have s:(kids a (hd a d b))[j]'(by simpa [kids]using c)=Tm.pos a (hd a d b) j:=by simp[kids]
   rw[s,this];simp[show j<k.length by omega]
theorem Kz(j:Fy a d [] b h):hd a d b=hd a d h:=by
 induction j with
 |base b h _ _ c=>exact c
 |pair b h e=>simp at e
 |symm b h _ i=>exact i.symm
 |trans b h k _ _ f g=>exact f.trans g
theorem MX(k:Good a)(i:b<a.length)(g:h<Tm.room (sg a b)):(cont a (Tm.pos a b h)).length<(cont a b).length:=by
 rw[Bj k i,aI];have:cont a (Tm.pos a b h)∈(kids a b).map (cont a):=Rl.2 ⟨_,Rl.2 ⟨h,Rd.2 g,rfl⟩,rfl⟩
 have f:∀(d:List (List Int))(e:List Int),e∈d->e.length<=d.flatten.length:=by
  intro d;induction d with
  |nil=>intro e c;simp at c
  |cons l d j=>
   intro e c;rw[fO,ai];rcases dA.1 c with rfl|c
   ·omega
   ·have:=j e c;omega
 have:=f _ _ this
 omega
theorem xo.yO(e:Good a)(A:St a r d)(C:qm a d []){o:Sb}(x:∀i,i<8->xo a d i (o (-1-(i:Int)))):∀(n p:Nat),(cont a p).length<=n->p<a.length->xo a d p (App o (cont a p)):=by
 intro n;induction n with
 |zero=>intro p h b;rw[Bj e b]at h;simp at h
 |succ n y=>
  intro p h b;by_cases j:sg a p<0
  ·have E:=e.known p b
   have t:can a p=(-1-sg a p).toNat:=by unfold can;rw[aD j]
   have l:=x (-1-sg a p).toNat (by omega);rw[show(-1-(((-1-sg a p).toNat:Nat):Int))=sg a p from by omega,<-t]at l;rw[wa e b j,jo,aD j,sQ,cW];exact l.move (by unfold hd;rw[yN e b])
  ·have k:can a p=p:=uL (by omega)
   obtain⟨w,D,z⟩:=tX e A b;have B:=Py e A b;have m:hd a d p=d p:=by unfold hd;rw[k]
   obtain⟨f,q⟩:=C p (hd a d p) b w (by omega) (by omega) (by rw[z,m]);rw[wg e o b (by omega),f];have g:((kids a p).map fun F=>App o (cont a F)).length=Tm.room (sg a (hd a d p)):=by rw[en,FB,f]
   refine xo.mk p _ g fun i u=>?_
   have c:i<Tm.room (sg a p):=by rw[f];exact u
   have s:=y (Tm.pos a p i) (by have:=MX e b c;omega) (pw e b c);have v:=s.move (Kz (q i c));rw[ic,BG c];exact v
theorem MK{f:Int->List Int}(b:∀s,1<=(f s).length):∀l:List Int,l.flatMap f=l->∀s∈l,f s=[s]:=by
 have c:∀l:List Int,l.length<=(l.flatMap f).length:=by
  intro l;induction l with
  |nil=>simp
  |cons s l e=>rw[kC,ai,aI];have:=b s;omega
 intro l;induction l with
 |nil=>intro _ s a;simp at a
 |cons k l e=>
  intro g s a;rw[kC]at g;have m:=b k;have n:=c l;have h:=RG List.length g;rw[ai,aI]at h;have i:(f k).length=1:=by omega
  obtain⟨o,d⟩:=RF.1 i;rw[d,gz]at g;obtain⟨rfl,j⟩:=RD g;rcases dA.1 a with rfl|a
  ·exact d
  ·exact e j s a
theorem BH{c:Sb}(b:jJ c)(a:H<0):1<=(c H).length:=by
 have:=b H a
 have d:=Tm.Ef (c H) 1;omega
theorem MT{c:Sb}(b:jJ c):∀l:List Int,l.length<=(App c l).length:=by
 intro l;induction l with
 |nil=>simp
 |cons e l d=>
  rw[jo,ai,aI];by_cases a:e<0
  ·rw[aD a];have:=BH b a;omega
  ·rw[aE a];simp;omega
def IZ(l:List Int):Prop:=∀s∈l,s<0-> -8<=s
theorem Lh{d e:Sb}(y:jJ d)(z:jJ e)(I:∀v,-8<=v->v<0->IZ (d v))(J:∀v,-8<=v->v<0->IZ (e v))(D:∀v,-8<=v->v<0->d v=App d (e v))(t:∀v,-8<=v->v<0->e v=App e (d v))
 (B:∀v h,-8<=v->v<0->d v=[h]->h<0->v<=h)(C:∀v h,-8<=v->v<0->e v=[h]->h<0->v<=h):∀v,-8<=v->v<0->d v=e v:=by
 intro v i j;have q:(d v).flatMap (fun b=>App d (if b<0 then e b else [b]))=d v:=by
  have k:App d (App e (d v))=d v:=by rw[<-t v i j,<-D v i j]
  conv=>rhs;rw[<-k]
  unfold App;rw[List.flatMap_assoc]
 have r:=MK (f:=fun b=>App d (if b<0 then e b else [b])) (fun b=>by
  by_cases g:b<0
  ·have o:=MT y (e b)
   have E:=BH z g;simp only[g,xC];omega
  ·simp[g,App]) (d v) q
 have l:∀b∈d v,b<0->e b=[b]:=fun h w a=>by
  have n:=I v i j h w a;have k:=r h w;simp only[a,xC]at k;have F:(e h).length=1:=by
   have o:=MT y (e h);have E:=BH z a;rw[k]at o;simp at o;omega
  obtain⟨A,m⟩:=RF.1 F;rw[m,jo,sQ,cW]at k;by_cases c:A<0
  ·rw[aD c]at k
   have x:=J h n a A (by rw[m];simp) c;have L:=B A h x c k a;have M:=C h A n a m c;rw[m];congr 1;omega
  ·rw[aE c]at k
   cases k;exact absurd a c
 rw[t v i j];have p:∀s:List Int,(∀b∈s,b<0->e b=[b])->App e s=s:=by
  intro s;induction s with
  |nil=>intro _;rfl
  |cons b s H=>
   intro u;rw[jo,H (fun K G=>u K (by simp[G]))];by_cases g:b<0
   ·rw[aD g,u b (by simp) g];rfl
   ·rw[aE g];rfl
 exact(p _ l).symm
end Wb
namespace Wb
def Sz(zs:List Int)(θ:Sb)(p:Nat):Nat:=(App θ (cont zs p)).length
theorem PX(n:Good a)(g:Sb)(k:b<a.length)(e:h<Tm.room (sg a b)):Sz a g (Tm.pos a b h)<Sz a g b:=by
 have l:0<=sg a b:=by
  by_cases o:sg a b<0
  ·rw[lV o]at e;omega
  ·omega
 unfold Sz;rw[wg n g k l,aI];have j:App g (cont a (Tm.pos a b h))∈(kids a b).map fun p=>App g (cont a p):=Rl.2 ⟨_,Rl.2 ⟨h,Rd.2 e,rfl⟩,rfl⟩
 have i:∀(d:List (List Int))(f:List Int),f∈d->f.length<=d.flatten.length:=by
  intro d;induction d with
  |nil=>intro f c;simp at c
  |cons q d m=>
   intro f c;rw[fO,ai];rcases dA.1 c with rfl|c
   ·omega
   ·have:=m f c;omega
 have:=i _ _ j
 omega
theorem PH(f:Good a){e:Sb}(g:nO a d e)(c:b<a.length):Sz a e b=Sz a e (hd a d b):=by
 unfold Sz;rw[g.hd f c]
def ML(zs:List Int)(h:Nat->Nat):Prop:=∀θ,jJ θ->nO zs h θ->False
def Bq(zs:List Int)(h:Nat->Nat)(st:Nat->Nat)(p:Nat):Prop:=∀θ,jJ θ->nO zs h θ->∀q,q<zs.length->st q=1->Sz zs θ p<Sz zs θ q
def yL(zs:List Int)(h:Nat->Nat)(st:Nat->Nat):Prop:=∀q,q<zs.length->st q=2->Fin zs h q
def rb(st:Nat->Nat)(p v:Nat):Nat->Nat:=fun q=>if q=p then v else st q
def fr(zs:List Int)(st:Nat->Nat):Nat:=((List.range zs.length).filter fun q=>decide (st q=0)).length
theorem MC{v:Nat}(g:b<a.length)(f:d b=0)(e:v≠0):fr a (rb d b v)<fr a d:=by
 refine filter_lt _ _ _ (fun i _ c=>?_) b (Rd.2 g) ?_ ?_
 ·simp only[dJ]at c⊢
  unfold rb at c;by_cases h:i=b
  ·rw[aD h]at c;exact absurd c e
  ·rw[aE h]at c;exact c
 ·simp[rb,e]
 ·simp[f]
theorem filter_le{e:Type}(b c:e->Bool)(f:∀x,b x=true->c x=true):∀l:List e,(l.filter b).length<=(l.filter c).length:=by
 intro l;induction l with
 |nil=>simp
 |cons d l g=>
  rw[RE,RE];by_cases a:b d=true
  ·rw[aD a,aD (f d a)];simp;omega
  ·rw[aE a];split<;>(try simp)<;>omega
theorem FK(f:Good a)(i:St a r d)(c:b<a.length)(h:Bq a d u b)(j:u (hd a d b)=1):ML a d:=fun k e g=>by
 have:=h k e g _ (tX f i c).1 j
 rw[PH f g c]at this;omega
theorem Lp(g:Good a)(q:St a r d){st1:Nat->Nat}{i:Nat}(f:b<a.length)(p:Bq a d u b)(h:i<Tm.room (sg a (hd a d b)))(k:∀x,st1 x=1↔rb u (hd a d b) 1 x=1):Bq a d st1 (Tm.pos a (hd a d b) i):=fun o m n x l s=>by
 have j:=PX g o (tX g q f).1 h;have c:=(k x).1 s;unfold rb at c;by_cases e:x=hd a d b
 ·subst e;exact j
 ·rw[aE e]at c
  have:=p o m n x l c
  rw[PH g n f]at this;omega
theorem FT(f:hd a d h=hd a d b)(e:Fin a d h):Fin a d b:=by
 cases e with
 |mk _ c=>rw[f]at c;exact Fin.mk b c
theorem PG(g:Good a)(h:St a r d)(f:b<a.length):hd a d (hd a d b)=hd a d b:=by
 obtain⟨_,c,e⟩:=tX g h f;conv=>lhs;rw[hd]
 rw[c,e]
structure Left(zs:List Int)(h:Nat->Nat)(st OH:Nat->Nat):Prop where
 one:∀x,OH x=1↔st x=1
 KF:yL zs h OH
 less:fr zs OH<=fr zs st
theorem Left.refl(b:yL a u d):Left a u d d:=⟨fun _=>Iff.rfl,b,af _⟩
theorem Left.trans(c:Left a d u E)(b:Left a d E M):Left a d u M:=⟨fun e=>(b.one e).trans (c.one e),b.KF,aK b.less c.less⟩
theorem IU(h:yL a d u)(f:Nat):yL a d (rb u f 1):=fun g e c=>by
 unfold rb at c;by_cases b:g=f
 ·rw[aD b]at c;omega
 ·rw[aE b]at c;exact h g e c
theorem Left.close(n:Good a)(o:St a r d)(j:b<a.length)(l:E (hd a d b)=0)(f:Left a d (rb E (hd a d b) 1) u)(s:∀i,i<Tm.room (sg a (hd a d b))->Fin a d (Tm.pos a (hd a d b) i)):
 Fin a d b∧Left a d E (rb u (hd a d b) 2)∧fr a (rb u (hd a d b) 2)<fr a E:=by
 have hF:Fin a d b:=Fin.mk b s;have h:Fin a d (hd a d b):=FT (PG n o j).symm hF;have q:=MC (v:=1) (tX n o j).1 l (by omega);have w:u (hd a d b)=1:=(f.one _).2 (by simp[rb]);have p:fr a (rb u (hd a d b) 2)<=fr a u:=by
  unfold fr;refine filter_le _ _ (fun x c=>?_) _;simp only[dJ]at c⊢;unfold rb at c;by_cases e:x=hd a d b
  ·rw[aD e]at c;omega
  ·rw[aE e]at c;exact c
 refine⟨hF,⟨fun k=>?_,fun k m e=>?_,by have:=f.less;omega⟩,by have:=f.less;omega⟩
 ·unfold rb
  by_cases e:k=hd a d b
  ·subst e;rw[aD rfl];constructor<;>intro t<;>omega
  ·rw[aE e,f.one k];unfold rb;rw[aE e]
 ·unfold rb at e
  by_cases g:k=hd a d b
  ·subst g;exact h
  ·rw[aE g]at e;exact f.KF k m e
end Wb
section
attribute [local go_sem] Oper.semAt_some
def nk(W:World)(Bs N:Nat)(st:Nat->Nat):Prop:=∃M,gM W Bs N M∧∀p:Nat,(M (p:Int)).getD (.int .i64 0)=.int .i64 (st p:Int)∧st p<=2
theorem nk.made(a:World):nk (a.alloc (.map #[] 0)) a.heap.size 0 (fun _=>0):=⟨_,gM.made a,fun _=>⟨rfl,bf _⟩⟩
theorem nk.lt(c:nk e b h d):b<e.heap.size:=by
 obtain⟨f,a,_⟩:=c;exact a.lt
theorem nk.eV{W':World}(i:nk e b h d)(c:W'.heap[b]?=e.heap[b]?):nk W' b h d:=by
 obtain⟨g,a,f⟩:=i;exact⟨g,a.eV c,f⟩
theorem nk.set(a:∀p:Nat,(N (p:Int)).getD (.int .i64 0)=.int .i64 (d p:Int)∧d p<=2){v:Nat}(f:v<=2)(c:gM e h (j+1) (upd N (b:Int) (.int .i64 (v:Int)))):nk e h (j+1) (Wb.rb d b v):=by
 refine⟨_,c,fun p=>?_⟩;by_cases g:p=b
 ·subst g;rw[nC];simp[Wb.rb,f]
 ·rw[my _ _ (by omega),(a p).1];simp[Wb.rb,g,(a p).2]
theorem nk.le(f:nk e b h d)(c:Nat):d c<=2:=by
 obtain⟨g,_,a⟩:=f;exact(a c).2
def Gx(W':World)(e:Ending)(Bs N:Nat)(zs:List Int)(h:Nat->Nat)(st:Nat->Nat)(p:Nat):Prop:=
 (e=.returned (.bool true)∧Wb.ML zs h)∨(e=.returned (.bool false)∧Wb.Fin zs h p∧∃OH N',Wb.Left zs h st OH∧nk W' Bs N' OH∧N'+2*Wb.fr zs OH<=N+2*Wb.fr zs st)
theorem Ee(b:List Int)(K:Wb.Good b)(X:Nat->Option Nat)(l:Nat->Nat)(W:Wb.St b X l)(h:Nat->Nat)(e J c:Nat)(Ye:Option Addr)(y N I p:Nat)(d:World)(S:iV d e J Ye y b N X)(t:nk d c I h)(u:p<b.length)(F:Wb.Bq b l h p)(r:Wb.yL b l h)
 (a:h (Wb.hd b l p)=1∨h (Wb.hd b l p)=2):
 Calls Tryz.prog 217 #[.pointer (some ⟨e,0,none⟩),.int .i64 (p:Int),.map (some c)] d fun Y U=>Below d.heap.size d U∧Gx U Y c I b l h p:=by
 obtain⟨V,hF⟩:∃V,V=Fence.wide:=⟨_,rfl⟩;refine(gx (n:=3)).1 ?_;rw[<-hF];obtain⟨C,q,z,Z⟩:=jk hF;have M:Hid (Pl V):=by rw[hF];exact nj
 clear hF;have A:=q 217;have Yj:=q 215;clear q;have Yl:=K.len;have f:Below d.heap.size d (((d.alloc (.cells #[.pointer (some ⟨e,0,none⟩)] 243)).alloc (.cells #[.map (some c)] 241)).alloc (.cells #[.bool false] 4)):=
  (((ah _ d).alloc (af _) _).alloc (by simp) _).alloc (by simp;omega) _
 have O:=((dt d 243 (.pointer (some ⟨e,0,none⟩))).alloc (.cells #[.map (some c)] 241)).alloc (.cells #[.bool false] 4);have E:=(dt (d.alloc (.cells #[.pointer (some ⟨e,0,none⟩)] 243)) 241 (.map (some c))).alloc (.cells #[.bool false] 4);have k:=dt ((d.alloc (.cells #[.pointer (some ⟨e,0,none⟩)] 243)).alloc (.cells #[.map (some c)] 241)) 4 (.bool false);simp only[bI]at E k;have m:=hid (yZ V M.out (3-1) b X l K W e J Ye y N p u _ (S.below f));have g:=t.eV (f.block _ t.lt);obtain⟨j,o⟩:∃j,((d.alloc (.cells #[.pointer (some ⟨e,0,none⟩)] 243)).alloc (.cells #[.map (some c)] 241)).alloc (.cells #[.bool false] 4)=j:=⟨_,rfl⟩;have x:=hid o;rw[o]at f O E k m g;have H:=g;obtain⟨Yd,P,B⟩:=H;have Yf:=t.lt;have Yi:=O.cell;have Yh:=E.cell;have Yg:=k.cell;have Yk:=k.frozen;obtain⟨T,_,_⟩:=Wb.tX K W u;have D:=Qs (n:=Wb.hd b l p) (by omega);have i:=(B (Wb.hd b l p)).1;have L:=hid K;have w:=hid W;have v:=hid P;clear o K W P B S t;rcases a with a|a
 ·rw[a]at i
  have Q:=hid (Wb.FK L.out w.out u F a);clear a F r g;generalize Wb.hd b l p=Yc at*;refine fE Tryz.func217 rfl A ?_ C;simp only[Tryz.ntmps217,cY,aI,bH,Nat.reduceAdd,Nat.reduceSub,bM,bQ,cE,bY,bV,bc];gi_wp2_with(first
   |((try refine⟨z _,?_⟩);gi_at_call 215;rw[x.out];refine m.out.mono ?_;clear m;rintro Y j⟨rfl,rfl⟩)
   |(gi_at_lookup;(refine Br _ rfl _ _ 241 rfl 3 Tryz.underlying241 (rK _) c I Yd rfl v.out (Yc:Int) rfl D (.int .i64 1) i ?_)))
  refine fI (nS rfl rfl (k.set _).cell) rfl ?_;exact⟨f.setCell (p:=⟨d.heap.size+1+1,0,none⟩) (show d.heap.size<=d.heap.size+1+1 by omega) _,.inl ⟨rfl,Q.out⟩⟩
 ·rw[a]at i
  have G:=hid (Wb.FT (Wb.PG L.out w.out u) (r _ T a));have s:=hid (Wb.Left.refl r);have R:Hid (nk j c I h):=g;clear a F r g;generalize Wb.hd b l p=Yc at*;refine fE Tryz.func217 rfl A ?_ C;simp only[Tryz.ntmps217,cY,aI,bH,Nat.reduceAdd,Nat.reduceSub,bM,bQ,cE,bY,bV,bc];gi_wp2_with(first
   |((try refine⟨z _,?_⟩);gi_at_call 215;rw[x.out];refine m.out.mono ?_;clear m;rintro Y j⟨rfl,rfl⟩)
   |(gi_at_lookup;(refine Br _ rfl _ _ 241 rfl 3 Tryz.underlying241 (rK _) c I Yd rfl v.out (Yc:Int) rfl D (.int .i64 2) i ?_)))
  refine fI (nS rfl rfl (k.set _).cell) rfl ?_;refine⟨f.setCell (p:=⟨d.heap.size+1+1,0,none⟩) (show d.heap.size<=d.heap.size+1+1 by omega) _,.inr ⟨rfl,G.out,h,I,s.out,R.out.eV (aT j ⟨d.heap.size+1+1,0,none⟩ _ c (show c≠d.heap.size+1+1 by omega)),af _⟩⟩
end
section
attribute [local go_sem] Oper.semAt_some
theorem iV.of{d:List Int}(f:iV z h j (some ⟨b,y,none⟩) B d C r)(g:e.heap[h]?=z.heap[h]?)(i:e.heap[j]?=z.heap[j]?)(k:e.heap[b]?=z.heap[b]?)(m:b<e.heap.size):iV e h j (some ⟨b,y,none⟩) B d C r:=by
 refine⟨g.trans f.FC,fun q o=>?_,?_⟩
 ·obtain⟨t,p,u,_,n⟩:=f.ints q o
  cases u;exact⟨b,y,rfl,m,(aH (a:=⟨b,y+q,none⟩) k).trans n⟩
 ·obtain⟨s,l,c⟩:=f.ties
  exact⟨s,l.eV i,c⟩
theorem Wb.Ls(c:List Int)(b:Nat->Nat)(f g:Nat)(d:g≠0):Wb.fr c (Wb.rb b f g)<=Wb.fr c b:=by
 unfold Wb.fr;refine Wb.filter_le _ _ (fun h a=>?_) _;simp only[dJ]at a⊢;unfold Wb.rb at a;by_cases e:h=f
 ·rw[aD e]at a;exact absurd a d
 ·rw[aE e]at a;exact a
structure K1(w:World)(Bt Bw Bm Bs b off cap N0 N:Nat)(zs:List Int)(T:Nat->Option Nat)(h:Nat->Nat)(st:Nat->Nat)(r i:Nat)(W:World):Prop where
 sm:∃st1 N1,Wb.Left zs h (Wb.rb st r 1) st1∧nk W Bs N1 st1∧N1+2*Wb.fr zs st1<=N+1+2*Wb.fr zs (Wb.rb st r 1)∧∀j,j<i->Wb.Fin zs h (Tm.pos zs r j)
 FC:iV W Bw Bm (some ⟨b,off,none⟩) cap zs N0 T
 bW:Boxed W w.heap.size 243 (.pointer (some ⟨Bw,0,none⟩))
 bS:Boxed W (w.heap.size+1) 241 (.map (some Bs))
 bR:Boxed W (w.heap.size+1+1) 4 (.bool false)
 bK:Boxed W (Bt+1) 3 (.int .i64 (r:Int))
 bT:Boxed W Bt 68 (.slice (some ⟨b,off,none⟩) zs.length cap)
 kp:eZ w.heap.size Bs w W
theorem K1.own(w:b<e.heap.size)(x:h<e.heap.size)(z:y<e.heap.size)(A:j<e.heap.size)(D:e.heap.size<=B):OwnFrom B (K1 e C b h j y G K L R a r d u S):=by
 rintro O t v row⟨⟨n,s,E,F,J,I⟩,l,bW,bS,bR,bK,bT,k⟩i f;have c:∀{o:Nat}{p:TypeId}{q:Value},Boxed t o p q->Boxed v o p q:=fun{o p q}H=>(pn o p (fun _:Unit=>q)).from B () t v row H i f
 have g:∀m,m<e.heap.size->v.heap[m]?=t.heap[m]?:=fun m N=>i.block m (by have:=k.size;omega) (fun M=>by have:=(f m M.symm).1;omega)
 refine⟨⟨n,s,E,F.eV (g j A),J,I⟩,l.of (g b w) (g h x) (g y z) (by have:=k.size;have:=i.size;omega),c bW,c bS,c bR,c bK,c bT,zH D k i f⟩
theorem PJ(o:Calls Tryz.prog h O e fun l c=>eZ j b e c∧Gx c l b y a d u B):
 Calls Tryz.prog h O e fun l c=>∃q,l=.returned (.bool q)∧eZ j b e c∧((q=true∧Wb.ML a d)∨(q=false∧Wb.Fin a d B∧∃f i,Wb.Left a d u f∧nk c b i f∧i+2*Wb.fr a f<=y+2*Wb.fr a u)):=
 o.mono fun _ _⟨k,m⟩=>m.elim (fun⟨g,n⟩=>⟨true,g,k,.inl ⟨rfl,n⟩⟩) (fun⟨g,n⟩=>⟨false,g,k,.inr ⟨rfl,n⟩⟩)
theorem II(b:List Int)(Y0:Wb.Good b)(Y5:Nat->Option Nat)(t:Nat->Nat)(ZJ:Wb.St b Y5 t)(u:Nat->Nat)(h V c E g d Yj YM X:Nat)(f:World)(Yc:iV f h V (some ⟨E,g,none⟩) d b Yj Y5)(Yn:nk f c YM u)(YH:c≠V)(Yp:X<b.length)(Yk:Wb.Bq b t u X)(W:Wb.yL b t u)
 (U:u (Wb.hd b t X)=0)(Ym:YM+2*Wb.fr b u<=20000)
 (Zk:∀(st1:Nat->Nat)(C q:Nat)(B:World),Wb.fr b st1<Wb.fr b u->q<b.length->iV B h V (some ⟨E,g,none⟩) d b Yj Y5->nk B c C st1->Wb.Bq b t st1 q->Wb.yL b t st1->C+2*Wb.fr b st1<=20000->
   Calls Tryz.prog 217 #[.pointer (some ⟨h,0,none⟩),.int .i64 (q:Int),.map (some c)] B fun A Y6=>eZ B.heap.size c B Y6∧Gx Y6 A c C b t st1 q):
 Calls Tryz.prog 217 #[.pointer (some ⟨h,0,none⟩),.int .i64 (X:Int),.map (some c)] f fun A YZ=>eZ f.heap.size c f YZ∧Gx YZ A c YM b t u X:=by
 obtain⟨YK,hF⟩:∃YK,YK=Fence.wide:=⟨_,rfl⟩;refine(gx (n:=3)).1 ?_;rw[<-hF];obtain⟨YI,G,Ye,YT⟩:=jk hF;have Q:Hid (Pl YK):=by rw[hF];exact nj
 clear hF;have Zx:=G 217;have Z9:=G 215;have aa:=G 169;have Zy:=G 196;clear G;have YF:=Y0.len;have ZZ:(b.length:Int)<=5000:=by omega
 have F:Below f.heap.size f (((f.alloc (.cells #[.pointer (some ⟨h,0,none⟩)] 243)).alloc (.cells #[.map (some c)] 241)).alloc (.cells #[.bool false] 4)):=
  (((ah _ f).alloc (af _) _).alloc (by simp) _).alloc (by simp;omega) _
 have z:=((dt f 243 (.pointer (some ⟨h,0,none⟩))).alloc (.cells #[.map (some c)] 241)).alloc (.cells #[.bool false] 4);have r:=(dt (f.alloc (.cells #[.pointer (some ⟨h,0,none⟩)] 243)) 241 (.map (some c))).alloc (.cells #[.bool false] 4);have o:=dt ((f.alloc (.cells #[.pointer (some ⟨h,0,none⟩)] 243)).alloc (.cells #[.map (some c)] 241)) 4 (.bool false);simp only[bI]at r o;have YR:=hid (yZ YK Q.out (3-1) b Y5 t Y0 ZJ h V _ d Yj X Yp _ (Yc.below F));have Yz:=Yn.eV (F.block _ Yn.lt);have T:=Yc.below F;have ZF:(((f.alloc (.cells #[.pointer (some ⟨h,0,none⟩)] 243)).alloc (.cells #[.map (some c)] 241)).alloc (.cells #[.bool false] 4)).heap.size=f.heap.size+1+1+1:=by simp
 obtain⟨Y,Yd⟩:∃Y,((f.alloc (.cells #[.pointer (some ⟨h,0,none⟩)] 243)).alloc (.cells #[.map (some c)] 241)).alloc (.cells #[.bool false] 4)=Y:=⟨_,rfl⟩;have Y2:=hid Yd;rw[Yd]at F z r o YR Yz T ZF;obtain⟨Z6,YS,Yf⟩:=Yz;have Z8:=z.cell;have Z7:=r.cell;obtain⟨Yg,_,_⟩:=Wb.tX Y0 ZJ Yp;have Yh:=Qs (n:=Wb.hd b t X) (by omega);have YG:=(Yf (Wb.hd b t X)).1;rw[U]at YG;have Zu:E<f.heap.size:=by
  obtain⟨ZQ,YY,A,Zt,_⟩:=Yc.ints.at (by omega);cases A;exact Zt
 obtain⟨ZH,ZC⟩:=Yc.lt;have Yv:=Yn.lt;obtain⟨au,an,M⟩:=YS.map;have YJ:h≠c:=rj T.cell0 M;have YB:E≠c:=by
  obtain⟨ZQ,YY,A,Zt,ZW⟩:=T.ints.at (by omega);cases A;exact rj (ZW 0 (by omega)) M
 have ab:=Wb.MC (v:=1) Yg U (by omega);have Y3:=hid Yf;have Yq:=hid YS;have YL:=hid Y0;have Yr:=hid ZJ;have ZL:=hid Yk;have ZM:=hid W;have ZN:=hid Zk;have Y4:=hid U;have Zv:=hid (fun st1(ai:Wb.Left b t (Wb.rb u (Wb.hd b t X) 1) st1)Z5=>Wb.Left.close YL.out Yr.out Yp Y4.out ai Z5);have YV:=hid (fun st1 i YU Z1=>Wb.Lp (st1:=st1) (i:=i) YL.out Yr.out Yp ZL.out YU Z1);have Zw:=hid (Wb.IU ZM.out (Wb.hd b t X));clear Yd Y0 ZJ YS Yf Yc Yn Yk W Zk U M;generalize Wb.hd b t X=m at*;refine eE Tryz.func217 rfl Zx ?_ YI;simp only[Tryz.ntmps217,cY,aI,bH,Nat.reduceAdd,Nat.reduceSub,bM,bQ,cE,bY,bV,bc];gi_wp2_with(first
  |((try refine⟨Ye _,?_⟩);gi_at_call 215;rw[Y2.out];refine YR.out.mono ?_;clear YR;rintro A Y⟨rfl,rfl⟩)
  |(gi_at_lookup;(refine Br _ rfl _ _ 241 rfl 3 Tryz.underlying241 (rK _) c YM Z6 rfl Yq.out (m:Int) rfl Yh (.int .i64 0) YG ?_))
  |(gi_at_mapUpdate;(refine Bx _ rfl _ _ _ 241 rfl 3 Tryz.underlying241 c YM Z6 rfl Yq.out (by unfold maxLen;omega) (m:Int) rfl Yh (.int .i64 1) rfl ?_);intro e Zn w;have P:∀l,l<Y.heap.size->l≠c->e.heap[l]?=Y.heap[l]?:=(fun l p N=>w.block l p (by simpa using N));have ae:=w.size;have Yu:Boxed e f.heap.size 243 (.pointer (some ⟨h,0,none⟩)):=(P _ z.lt (by omega)).trans z;have Zb:Boxed e (f.heap.size+1) 241 (.map (some c)):=(P _ r.lt (by omega)).trans r;have Y8:Boxed e (f.heap.size+1+1) 4 (.bool false):=(P _ o.lt (by omega)).trans o;have YA:=T.of (P h (by omega) YJ) (P V (by omega) (fun A=>YH A.symm)) (P E (by omega) YB) (by omega);have ao:=Yu.cell;have aq:=YA.cell0)
  |((try refine⟨Ye _,?_⟩);gi_at_call 169;refine(pf YK Q.out _ _ _ _ _ _).mono ?_;rintro A YZ⟨rfl,rfl⟩))
 have y:((e.alloc (.cells #[.slice (some ⟨E,g,none⟩) b.length d] 68)).alloc (.cells #[.int .i64 (m:Int)] 3)).heap.size=e.heap.size+1+1:=by simp
 have Ze:=(dt e 68 (.slice (some ⟨E,g,none⟩) b.length d)).alloc (.cells #[.int .i64 (m:Int)] 3);have Yt:=dt (e.alloc (.cells #[.slice (some ⟨E,g,none⟩) b.length d] 68)) 3 (.int .i64 (m:Int));rw[bI]at Yt;have Zg:=(Yu.alloc (.cells #[.slice (some ⟨E,g,none⟩) b.length d] 68)).alloc (.cells #[.int .i64 (m:Int)] 3);have Zc:=(Zb.alloc (.cells #[.slice (some ⟨E,g,none⟩) b.length d] 68)).alloc (.cells #[.int .i64 (m:Int)] 3);have Y9:=(Y8.alloc (.cells #[.slice (some ⟨E,g,none⟩) b.length d] 68)).alloc (.cells #[.int .i64 (m:Int)] 3);have J:Below e.heap.size e ((e.alloc (.cells #[.slice (some ⟨E,g,none⟩) b.length d] 68)).alloc (.cells #[.int .i64 (m:Int)] 3)):=((ah _ e).alloc (af _) _).alloc (by simp) _;have Yx:eZ f.heap.size c f e:=(eZ.kd F).trans ⟨w.os,w.tape,w.output,w.size,fun l p N=>P l (by omega) N⟩;have Zr:nk ((e.alloc (.cells #[.slice (some ⟨E,g,none⟩) b.length d] 68)).alloc (.cells #[.int .i64 (m:Int)] 3)) c (YM+1) (Wb.rb u m 1):=(nk.set (v:=1) Y3.out (by decide) Zn).eV (J.block _ (by omega));refine jf YI (by omega) (gf:=196) (lb:=#[.pointer (some ⟨e.heap.size+1,0,none⟩),.pointer (some ⟨e.heap.size,0,none⟩)]) rfl Zy (iW Tryz.func196 (by kernel_rfl) rfl)
  (mH YK Q.out _ (e.heap.size+1) e.heap.size m d (some ⟨E,g,none⟩) b YF Yg (nw YK Q.out b YF _ d m)) (fun _=>rfl)
  (K1 f e.heap.size h V c E g d Yj YM b Y5 t u m)
  (fun ZR B=>ZR=.ret∧Wb.ML b t∧Boxed B (f.heap.size+1+1) 4 (.bool true)∧eZ f.heap.size c f B) (fun _ _=>False) (.inl fun _ _ t=>t)
  (K1.own ZH ZC Zu Yv (by rw[y];omega))
  (by
    rintro ZR aj al row⟨A,Ym,Yk,j⟩ZA ZE;exact⟨A,Ym,(pn (f.heap.size+1+1) 4 (fun _:Unit=>.bool true)).from _ () aj al row Yk ZA ZE,zH (by rw[y];omega) j ZA ZE⟩)
  (fun i B K=>⟨K.bK.cell,K.bT.cell,K.FC.ints⟩)
  ⟨⟨_,_,Wb.Left.refl Zw.out,Zr,af _,fun Z4 ZY=>by omega⟩,YA.below J,Zg,Zc,Y9,Yt,Ze,Yx.trans (eZ.kd (J.mono Yx.size))⟩
  (fun i=>{tmps:=#[.pointer (some ⟨h,0,none⟩),.int .i64 (m:Int),.map (some c),.pointer (some ⟨f.heap.size,0,none⟩),undef,.pointer (some ⟨f.heap.size+1,0,none⟩),.pointer (some ⟨f.heap.size+1+1,0,none⟩),.int .i64 (Tm.pos b m i:Int),.pointer (some ⟨h,0,none⟩),.int .i64 (X:Int),.int .i64 (m:Int),.map (some c),.int .i64 (m:Int),.int .i64 0,.bool false,.bool false,.bool false,.bool false,.map (some c),.int .i64 (m:Int),
    .pointer (some ⟨h,0,none⟩),.pointer (some ⟨h,0,none⟩),.pointer (some ⟨h,0,none⟩),.slice (some ⟨E,g,none⟩) b.length d,.int .i64 (m:Int),.func (.func 196) #[] #[.pointer (some ⟨e.heap.size+1,0,none⟩),.pointer (some ⟨e.heap.size,0,none⟩)],.int .i64 (Tm.pos b m i:Int),.int .i64 (Tm.pos b m (i+1):Int),undef,undef,undef,undef,undef,undef],defers:=[]}) ?assign ?body ?done ?stop ?panic
 case assign=>
  intro ag i B Z5 j;simp only[rL];gi_wp2
  exact j
 case body=>
  rintro ag i B K YU;have YC:i<Tm.room (Wb.sg b m):=YU;obtain⟨⟨st1,C,s,Zs,N,L⟩,O,z,r,o,YN,YO,j⟩:=K;have ZB:=Wb.pw YL.out Yg YC;have Zz:=s.less;have Zh:=ZN.out st1 C (Tm.pos b m i) B (by omega) ZB O Zs (YV.out st1 i YC s.one) s.KF (by omega);have Yw:=hid (eS ag (YT (n:=0) (PJ Zh)));have ar:=z.cell;have ZU:=r.cell;have x:∀l,f.heap.size<=l->l≠c:=fun l p A=>by omega
  clear Zh;gi_wp2_with(first
   |((try refine⟨Ye _,?_⟩);gi_at_call 217;refine Yw.out.mono ?_;clear Yw;rintro A I⟨q,rfl,k,Z0⟩;have Zf:Boxed I f.heap.size 243 (.pointer (some ⟨h,0,none⟩)):=(k.block _ z.lt (x _ (by omega))).trans z;have Za:Boxed I (f.heap.size+1) 241 (.map (some c)):=(k.block _ r.lt (x _ (by omega))).trans r;have R:Boxed I (f.heap.size+1+1) 4 (.bool false):=(k.block _ o.lt (x _ (by omega))).trans o;have Y7:Boxed I (e.heap.size+1) 3 (.int .i64 (m:Int)):=(k.block _ YN.lt (x _ (by omega))).trans YN;have Zd:Boxed I e.heap.size 68 (.slice (some ⟨E,g,none⟩) b.length d):=(k.block _ YO.lt (x _ (by omega))).trans YO;have ZT:=R.cell;have ZV:=R.frozen;have Yy:eZ f.heap.size c f I:=j.trans (k.mono j.size);have YD:KeepsFrom (e.heap.size+1+1) B I:=⟨k.size,fun l av p ZD _=>(k.block l (ak.1 ZD).1 (x l (by omega))).trans ZD⟩;rcases Z0 with⟨rfl,Zp⟩|⟨rfl,Zj,ZI,ZP,Zl,Zq,ad⟩))
  ·rw[y]
   exact⟨YD.trans ((dO _ _ _).from _),rfl,Zp,R.set _,BY Yy (by omega) _⟩
  ·rw[y]
   have ZG:=j.size;refine⟨YD,⟨ZI,ZP,s.trans Zl,Zq,by omega,fun Z4 ZY=>?_⟩,O.of (k.block _ (by omega) YJ) (k.block _ (by omega) (fun A=>YH A.symm)) (k.block _ (by omega) YB) (by have:=k.size;omega),Zf,Za,R,Y7,Zd,Yy⟩;by_cases A:Z4=i
   ·subst A;exact Zj
   ·exact L Z4 (by omega)
 case done=>
  rintro Yi B W K S;obtain⟨⟨st1,C,s,⟨ZO,Zm,YW⟩,N,L⟩,O,z,r,o,YN,YO,j⟩:=K;have Zz:=s.less;have ZU:=r.cell;obtain⟨YQ,Yl,ZK⟩:=Zv.out st1 s L;have ZG:=j.size;rw[y]at W;gi_wp2_with(first
   |(gi_at_mapUpdate;(refine Bx _ rfl _ _ _ 241 rfl 3 Tryz.underlying241 c C ZO rfl Zm (by unfold maxLen;omega) (m:Int) rfl Yh (.int .i64 2) rfl ?_);intro D Zo H;have YX:∀l,l<B.heap.size->l≠c->D.heap[l]?=B.heap[l]?:=(fun l p N=>H.block l p (by simpa using N));have Z:Boxed D (f.heap.size+1+1) 4 (.bool false):=(YX _ o.lt (by omega)).trans o;have ZT:=Z.cell;have ZV:=Z.frozen))
  have ZX:=Wb.Ls b st1 m 2 (by omega);have Zi:Yi<B.heap.size:=(ak.1 S).1;have YP:(D.setCell ⟨f.heap.size+1+1,0,none⟩ (.bool false)).heap[Yi]?=some (.deferred (some [])):=(aT D ⟨f.heap.size+1+1,0,none⟩ _ Yi (show Yi≠f.heap.size+1+1 by omega)).trans ((YX Yi Zi (by omega)).trans S);refine⟨by simp,.inl ⟨_,_,rfl,ed YP,?_⟩⟩;refine⟨_,nS rfl rfl ((aH (a:=⟨f.heap.size+1+1,0,none⟩) (cd (show f.heap.size+1+1≠Yi by omega))).trans (Z.set _).cell),?_⟩;have Z2:=H.size;have Z3:=(ef D ⟨f.heap.size+1+1,0,none⟩ (.bool false)).size;have YE:∀l,l<f.heap.size->((D.setCell ⟨f.heap.size+1+1,0,none⟩ (.bool false)).putObj Yi (.deferred none)).heap[l]?=D.heap[l]?:=fun l p=>(cd (by omega)).trans (aT D ⟨f.heap.size+1+1,0,none⟩ _ l (show l≠f.heap.size+1+1 by omega))
  refine⟨⟨H.os.trans j.os,H.tape.trans j.tape,H.output.trans j.output,by simp;omega,fun l p Yo=>(YE l p).trans ((YX l (by omega) Yo).trans (j.block l p Yo))⟩,.inr ⟨rfl,YQ,_,C+1,Yl,(nk.set (v:=2) YW (by decide) Zo).eV (YE c Yv),by omega⟩⟩
 case stop=>
  rintro Yi ZR B W⟨rfl,Ym,o,j⟩S;have ZS:=o.cell;rw[y]at W;gi_wp2
  refine⟨by simp,.inl ⟨_,_,rfl,ed S,?_⟩⟩;refine⟨_,nS rfl rfl ((aH (a:=⟨f.heap.size+1+1,0,none⟩) (cd (show f.heap.size+1+1≠Yi by omega))).trans ZS),?_⟩;exact⟨⟨j.os,j.tape,j.output,by have:=j.size;simp;omega,fun l p Yo=>(cd (by omega)).trans (j.block l p Yo)⟩,.inl ⟨rfl,Ym⟩⟩
 case panic=>exact fun _ _ _ _ t=>t.elim
end
theorem Ot(a:List Int)(F:Wb.Good a)(x:Nat->Option Nat)(i:Nat->Nat)(G:Wb.St a x i)(h g c H o e j:Nat)(s:c≠g):∀(m:Nat)(b:Nat->Nat),Wb.fr a b<=m->∀(r p:Nat)(q:World),p<a.length->iV q h g (some ⟨H,o,none⟩) e a j x->nk q c r b->Wb.Bq a i b p->Wb.yL a i b->r+2*Wb.fr a b<=20000->
 Calls Tryz.prog 217 #[.pointer (some ⟨h,0,none⟩),.int .i64 (p:Int),.map (some c)] q fun O E=>eZ q.heap.size c q E∧Gx E O c r a i b p:=by
 intro m;induction m with
 |zero=>
  intro b J r p q n l f d k w;by_cases u:b (Wb.hd a i p)=0
  ·exact II a F x i G b h g c H o e j r p q l f s n d k u w (fun t y N M I=>by omega)
  ·exact(Ee a F x i G b h g c _ e j r p q l f n d k (by have:=f.le (Wb.hd a i p);omega)).mono fun _ _⟨d,v⟩=>⟨eZ.kd d,v⟩
 |succ m L=>
  intro b J r p q n l f d k w;by_cases u:b (Wb.hd a i p)=0
  ·exact II a F x i G b h g c H o e j r p q l f s n d k u w (fun t y N M I K D C z A B=>L t (by omega) y N M K D C z A B)
  ·exact(Ee a F x i G b h g c _ e j r p q l f n d k (by have:=f.le (Wb.hd a i p);omega)).mono fun _ _⟨d,v⟩=>⟨eZ.kd d,v⟩
theorem QE(a:List Int)(b:Nat->Nat):Wb.fr a b<=a.length:=by
 unfold Wb.fr;have:=ki (fun c=>decide (b c=0)) (List.range a.length)
 simpa using this
theorem Di(a:List Int)(D:Wb.Good a)(J:Nat->Option Nat)(q:Nat->Nat)(U:Wb.St a J q)(o s V n h u:Nat)(d:World)(p:iV d o s (some ⟨V,n,none⟩) h a u J):
 Calls Tryz.prog 213 #[.pointer (some ⟨o,0,none⟩)] d fun b S=>Below d.heap.size d S∧((b=.returned (.bool true)∧Wb.ML a q)∨(b=.returned (.bool false)∧∀i,i<8->Wb.Fin a q i)):=by
 have X:=@q7 Tryz.prog;have l:=p.lt;have Yd:=D.eight;have W:=D.len;have G:=hid D;have H:=hid U;have t:=hid p;clear D U p;have v:Below d.heap.size d (d.alloc (.map #[] 0)):=(ah _ _).alloc (af _) _;go_enter Tryz.func213,Tryz.ntmps213;go_wp2;go_loopw [6](fun i wr=>∃(g:Nat)(e:Nat->Nat)(E:Nat),g<=8∧i=.int .i64 (g:Int)∧Hid (nk wr d.heap.size E e)∧Hid (∀F,e F≠1)∧Hid (Wb.yL a q e)∧E+2*Wb.fr a e<=20000∧Hid (∀r,r<g->Wb.Fin a q r)∧Below d.heap.size d wr)(fun i _=>8-(intOf i).toNat)
 case atStart=>exact⟨0,fun _=>0,0,by omega,rfl,nk.made d,fun _ b=>by simp at b,fun _ _ b=>by simp at b,by have:=QE a (fun _=>0);omega,fun r N=>by omega,v⟩
 case round=>
  obtain⟨g,e,E,Ye,rfl,B,m,K,L,f,c⟩:=hrel;by_cases P:g<8
  ·have O:(g:Int)<8:=by omega
   have w:=PJ (Ot a G.out J q H.out o s d.heap.size V n h u (by omega) _ e (af _) E g wr (by omega) (by
    obtain⟨Yc,R,b,M,_⟩:=t.out.ints.at (by omega);cases b;exact t.out.of (c.block _ l.1) (c.block _ l.2) (c.block _ M) (by have:=c.size;omega)) B.out (fun θ _ _ Z _ b=>absurd b (m.out Z)) K.out L)
   go_wp2_with(first
    |(go_at_call 217;refine w.mono ?_;clear w;rintro b T⟨Z,rfl,y,Q⟩;have j:Below d.heap.size d T:=c.trans ((y.mono c.size).below (af _));rcases Q with⟨rfl,z⟩|⟨rfl,x,C,I,k,A,Y⟩))
   ·go_ret
    exact⟨j,.inl ⟨rfl,z⟩⟩
   ·go_roundw
    case rel=>
     refine⟨g+1,C,I,by omega,by go_num,A,fun F b=>m.out F ((k.one F).1 b),k.KF,by omega,fun r N=>?_,j⟩;by_cases b:r=g
     ·subst b;exact x
     ·exact f.out r (by omega)
    case measure=>simp[intOf];omega
  ·obtain rfl:g=8:=by omega
   go_wp2;go_ret;exact⟨c,.inr ⟨rfl,f.out⟩⟩
namespace Wb
theorem xo.run(g:xo w d b a):Tm.run a 1=a.length:=by
 induction g with
 |mk b f c _ e=>
  rw[show(1:Nat)=0+1 from rfl,Tm.fT,cI,<-c,rZ f (fun i h=>e i (by omega)),aI];omega
theorem xo.vars(h:Good a)(p:St a r d){l:List Int}(o:xo a d b l):b<a.length->∀s∈l,-8<=s∧s<6:=by
 induction o with
 |mk b u t _ m=>
  intro j s e;have f:=(tX h p j).1;rcases dA.1 e with rfl|e
  ·exact h.known _ f
  ·obtain⟨v,k,g⟩:=mF.1 e
   obtain⟨n,i,q⟩:=gQ k;have c:n<Tm.room (sg a (hd a d b)):=by omega
   refine m n c (pw h f c) s ?_;rw[an i,dy,q];exact g
structure Sigma(zs:List Int)(h:Nat->Nat)(σ:Sb):Prop where
 exp:∀i,i<8->xo zs h i (σ (-1-(i:Int)))
 term:jJ σ
 vars:∀v,-8<=v->v<0->IZ (σ v)
 Q8:nO zs h σ
 most:∀θ,nO zs h θ->∀v,-8<=v->v<0->θ v=App θ (σ v)
 least:∀v u,-8<=v->v<0->σ v=[u]->u<0->v<=u
theorem Sigma.of(j:Good a)(t:St a r d)(I:qm a d [])(K:∀i,i<8->Fin a d i):∃s,Sigma a d s:=by
 have D:∀i,∃z,i<8->xo a d i z:=fun i=>by
  by_cases b:i<8
  ·obtain⟨z,q⟩:=(K i b).exp
   exact⟨z,fun _=>q⟩
  ·exact⟨[],fun v=>absurd v b⟩
 obtain⟨J,E⟩:=RZ D;have M:=j.eight;obtain⟨s,n⟩:∃s:Sb,s=fun g=>if-8<=g∧g<0 then J (-1-g).toNat else [g]:=⟨_,rfl⟩
 have w:∀i:Nat,i<8->s (-1-(i:Int))=J i:=fun i b=>by
  rw[n];show(if-8<= -1-(i:Int)∧-1-(i:Int)<0 then _ else _)=_;rw[aD ⟨by omega,by omega⟩];congr 1;omega
 have c:∀i:Nat,i<8->xo a d i (s (-1-(i:Int))):=fun i b=>by rw[w i b];exact E i b
 have l:∀h,-8<=h->h<0->∃i:Nat,i<8∧h= -1-(i:Int):=fun h e f=>⟨(-1-h).toNat,by omega,by omega⟩
 refine⟨s,c,fun g k=>?_,fun h e f=>?_,fun p y u=>?_,fun Q L h e f=>?_,fun h P e f A N=>?_⟩
 ·by_cases e: -8<=g
  ·obtain⟨i,b,rfl⟩:=l g e k
   exact(c i b).run
  ·rw[n]
   show Tm.run (if-8<=g∧g<0 then _ else _) 1=(if-8<=g∧g<0 then _ else _:List Int).length;rw[aE (fun A=>e A.1),show(1:Nat)=0+1 from rfl,Tm.fT,lV k,Tm.gu];rfl
 ·obtain⟨i,b,rfl⟩:=l h e f
  exact fun g k _=>((c i b).vars j t (by omega) g k).1
 ·have B:=xo.yO j t I c _ p (af _) y
  obtain⟨F,G,H⟩:=t.root p y u;have C:=xo.yO j t I c _ (d p) (af _) F;refine(B.move ?_).one _ C;show d (can a p)=d (can a (d p));rw[u,G,H]
 ·obtain⟨i,b,rfl⟩:=l h e f
  have x:=(c i b).most j t L (by omega);rw[wa j (by omega) (by rw[j.vars i b];omega),j.vars i b,jo,aD (by omega),sQ,cW]at x;exact x
 ·obtain⟨i,b,rfl⟩:=l h e f
  have o:=c i b;rw[A]at o;have m:=Py j t (p:=i) (by omega);rw[j.vars i b]at m;generalize q:[P]=z at o;cases o with
  |mk _ O _ _=>
   obtain⟨rfl,_⟩:=RD q;exact m
end Wb
def Kp(W:World)(Bw Bm:Nat)(v:Value)(zs:List Int):Prop:=W.heap[Bw]?=some (.cells #[v,.map (some Bm)] 248 (0,0))∧cU (Bw+1) W v zs
namespace Wb
theorem rY(c:b<a.length):sg (a++w) b=sg a b:=by unfold sg;rw[aV c]
theorem Bl{t:List Int}(c:b<a.length):can (a++t) b=can a b:=by unfold can;rw[rY c]
theorem KU{t:List Int}(d:Good a)(c:b<a.length):Tm.dn (a++t) b=Tm.dn a b:=by
 have e:=nV (pre:=[]) (t:=a) (post:=t) (k:=b) (by omega) (d.ends b c);simpa using e
theorem tZ{t:List Int}(d:Good a)(c:b<a.length):cont (a++t) b=cont a b:=by
 have e:=s7 (pre:=[]) (t:=a) (post:=t) (k:=b) (by omega) (d.ends b c);simpa [cont]using e
theorem KT(e:Good a)(c:b<a.length):∀i,i<=Tm.room (sg a b)->Tm.pos (a++w) b i=Tm.pos a b i:=by
 intro i;induction i with
 |zero=>intro _;rw[Tm.iI,Tm.iI]
 |succ i d=>
  intro f;rw[Tm.jL,Tm.jL,d (by omega)];exact KU e (pw e c (by omega))
theorem Good.ext{t:List Int}(d:Good a)(g:Tm.err t=0)(l:a.length+t.length<=5000):Good (a++t):=by
 refine⟨by rw[ai];exact l,by rw[ai];have:=d.eight;omega,fun b c=>?_,fun n j=>?_,fun b c=>?_⟩
 ·by_cases e:b<a.length
  ·rw[rY e];exact d.known b e
  ·rw[ai]at c
   have f:=lM (fw g) (k:=b-a.length) (by omega);have m:sg (a++t) b=t[b-a.length]?.getD 0:=by unfold sg;rw[aU (by omega)]
   rw[m];exact⟨j7 f,iC f⟩
 ·rw[rY (by have:=d.eight;omega)];exact d.vars n j
 ·rw[ai]at c⊢
  by_cases e:b<a.length
  ·rw[KU d e];have:=d.ends b e;omega
  ·have i:=gL g (k:=b-a.length) (by omega)
   have h:=nV (pre:=a) (t:=t) (post:=[]) (k:=b-a.length) (by omega) i;rw[cW,show a.length+(b-a.length)=b from by omega]at h;omega
theorem St.ext(h:St a r d):St (a++w) r d:=by
 have g:∀c,c<a.length->can (a++w) c=can a c:=fun c b=>Bl b
 have q:a.length<=(a++w).length:=by rw[ai];omega
 refine⟨fun c i e=>?_,fun c i e=>?_,fun c o i e f=>?_,?_,fun c i e=>?_,fun c b=>h.out c (by omega)⟩
 ·by_cases b:c<a.length
  ·obtain⟨j,k,n⟩:=h.root c b (by rw[<-g c b];exact e)
   exact⟨by omega,by rw[g _ j];exact k,n⟩
  ·obtain⟨j,_⟩:=h.out c (by omega)
   rw[j];exact⟨i,e,j⟩
 ·by_cases b:c<a.length
  ·exact h.free c b (by rw[<-g c b];exact e)
  ·obtain⟨j,k⟩:=h.out c (by omega)
   simp[j,k]
 ·by_cases b:c<a.length
  ·obtain⟨j,k,n⟩:=h.next c o b (by rw[<-g c b];exact e) f
   exact⟨by omega,by rw[g _ j];exact k,n⟩
  ·obtain⟨_,k⟩:=h.out c (by omega)
   rw[k]at f;cases f
 ·obtain⟨p,m⟩:=h.down
  refine⟨p,fun c o i e f=>?_⟩;by_cases b:c<a.length
  ·exact m c o b (by rw[<-g c b];exact e) f
  ·obtain⟨_,k⟩:=h.out c (by omega)
   rw[k]at f;cases f
 ·by_cases b:c<a.length
  ·have l:can a c=c:=by rw[<-g c b];exact e
   obtain⟨j,_,_⟩:=h.root c b l;rw[rY b,rY j];exact h.up c b l
  ·rw[(h.out c (by omega)).1];exact Int.le_refl _
theorem zT(c:b<a.length):hd (a++w) d b=hd a d b:=by unfold hd;rw[Bl c]
theorem nO.ext{t:List Int}(g:Good a)(h:St a r d){i:Sb}(j:nO a d i):nO (a++t) d i:=fun e l f=>by
 by_cases b:e<a.length
 ·have c:can a e=e:=by rw[<-Bl (t:=t) b];exact f
  obtain⟨k,_,_⟩:=h.root e b c;rw[tZ g b,tZ g k];exact j e b c
 ·rw[(h.out e (by omega)).1]
theorem qm.ext(p:Good a)(j:St a r d)(l:Good (a++w))(s:qm a d []):qm (a++w) d []:=fun o k n v f g m=>by
 by_cases c:o<a.length
 ·by_cases b:k<a.length
  ·rw[rY c]at f
   rw[rY b]at g;obtain⟨h,q⟩:=s o k c b f g m;rw[rY c,rY b];refine⟨h,fun i e=>?_⟩;rw[KT p c i (by omega),KT p b i (by rw[<-h];omega)];have t:=pw p c e;have u:=pw p b (i:=i) (by rw[<-h];exact e);exact .base _ _ (by rw[ai];omega) (by rw[ai];omega) (by rw[zT t,zT u];exact Kz (q i e))
  ·rw[rY c]at f
   have:=(j.root o c (uL f)).1
   rw[m,(j.out k (by omega)).1]at this;exact absurd this b
 ·by_cases b:k<a.length
  ·rw[rY b]at g
   have:=(j.root k b (uL g)).1
   rw[<-m,(j.out o (by omega)).1]at this;exact absurd this c
  ·rw[(j.out o (by omega)).1,(j.out k (by omega)).1]at m
   subst m;exact⟨rfl,fun i e=>.base _ _ (pw l n e) (pw l n e) rfl⟩
end Wb
theorem IN(j:World)(i:TypeId)(base:Nat)(B:Value)(b:List Int)(v:cU base j B b)(u:Nat)(q:Int)(F:j.cell? ⟨u,0,none⟩=some (.int .i64 q))(H:b.length<=1000000)(k:base<=j.heap.size):
 ∃e w',(Builtin.append_ #[68,68] i #[B,.slice (some ⟨u,0,none⟩) 1 1]).run Tryz.prog j=.ok e w'∧cU base w' e (b++[q])∧j.grownBy w' B.ownBlock∧(e.ownBlock=B.ownBlock∨e.ownBlock=some j.heap.size):=by
 obtain⟨d,m,h,s,t⟩:=fh Tryz.yJ;have l:∀D E,[Value.int .i64 q][D]?=some E->j.cell? ((⟨u,0,none⟩:Addr).add D)=some E:=by
  intro D O n;match D,n with
  |0,n=>simp at n;subst n;rw[cz];simpa using F
 have x:∀E∈[Value.int .i64 q],E.oneCell'=true:=by intro O A;simp at A;subst A;rfl
 obtain⟨e,w',o,I,J,_⟩:=aZ (P:=Tryz.prog) j base 68 i 3 d (.int .i64 0) 1 8 Tryz.underlying68 m h s t rfl (by decide) B b.length (b.map (Value.int .i64)) v ⟨u,0,none⟩ 1 1 [.int .i64 q] (by simp) l x (by unfold maxLen;omega) (by omega) k;refine⟨e,w',o,by simpa [cU]using I,J,?_⟩;have c:d.size=1:=s;have y:d.bytes=8:=t;rcases v.2 with⟨rfl,N⟩|⟨g,f,r,rfl,K,G,M,L,z,C⟩
 ·have a:=run_append_nil (P:=Tryz.prog) j 68 i 3 d (.int .i64 0) Tryz.underlying68 m h ⟨u,0,none⟩ 1 1 [.int .i64 q] (by simp[c]) l (by omega) (by omega) (by omega)
  rw[o]at a;cases a;exact .inr rfl
 ·by_cases p:b.length+1<=f
  ·have w:b.length*d.size+[Value.int .i64 q].length<=r.size:=by rw[z,c];simp;omega
   have a:=run_append_room (P:=Tryz.prog) j 68 i 3 d Tryz.underlying68 m g b.length f r G ⟨u,0,none⟩ 1 1 [.int .i64 q] (by simp[c]) l x p w;rw[o]at a;cases a;exact .inl rfl
  ·have a:=run_append_grow (P:=Tryz.prog) j 68 i 3 d (.int .i64 0) Tryz.underlying68 m h ⟨g,0,none⟩ b.length f (b.map (Value.int .i64)) (by simp[c]) (World.ownsRow.cells v (g:=g) rfl) ⟨u,0,none⟩ 1 1 [.int .i64 q] (by simp[c]) l (by omega) (by omega) (growslice_fits (by omega) (by rw[y];omega))
   rw[o]at a;cases a;exact .inr rfl
theorem mI(h:World)(t u:Operand)
 (f:I.op=.call {callee:=.builtin .append,args:=#[t,u],argTypes:=#[68,68]})(base:Nat)(j:Value)(d:List Int)(n:J.eval t=j)(m:cU base h j d)
 (k:Nat)(s:Int)(o:J.eval u=.slice (some ⟨k,0,none⟩) 1 1)(l:h.cell? ⟨k,0,none⟩=some (.int .i64 s))(e:d.length<=1000000)(c:base<=h.heap.size)
 (v:∀a w',cU base w' a (d++[s])->h.grownBy w' j.ownBlock->(a.ownBlock=j.ownBlock∨a.ownBlock=some h.heap.size)->Q (J.put I.dst a) w'):Oper.wpIn P b Tryz.prog I J h Q T:=by
 obtain⟨a,w',g,p,q,r⟩:=IN h I.type base j d m k s l e c;unfold Oper.wpIn;refine⟨?_,?_⟩
 ·simp[Oper.about,f,resolve,Target.leads,Sem.run_pure]
 ·rw[od P _ _ (by rw[f];intro w i;cases i)]
  simp[execOp,f,resolve,invoke,builtin,n,o,g,Result.andThen];exact v a w' p q r
namespace Wb
theorem vZ(a:List (List Int))(b:Nat)(c:b<a.length):(a.take (b+1)).flatten=(a.take b).flatten++a[b]?.getD []:=by
 rw[List.take_add_one,an c,fB];simp
theorem Eh(a:List (List Int))(b:Nat):(a.take b).flatten.length<=a.flatten.length:=by
 conv=>rhs;rw[<-fM b a,fB,ai]
 omega
end Wb
def qw:List PanicEntry:=[{v:=.iface 22 (.int .i64 2),recovered:=false}]
def GF(w w':World)(base:Nat)(e:Ending)(v:Value)(xs l:List Int):Prop:=
 w.grownBy w' v.ownBlock∧((xs.length+l.length<=30∧∃v',e=.returned v'∧cU base w' v' (xs++l)∧∀k,v'.ownBlock=some k->v.ownBlock=some k∨w.heap.size<=k)∨(30<xs.length+l.length∧e=.panicked qw))
section
attribute [local go_sem] Oper.semAt_some
structure Pr(w:World)(Bt Bw Bm b off cap N base:Nat)(zs:List Int)(T:Nat->Option Nat)(v:Value)(ys:List Int)(ls:List (List Int))(r i:Nat)(W:World):Prop where
 out:∃v1,Boxed W (w.heap.size+1) 68 v1∧cU base W v1 (ys++(ls.take i).flatten)∧ys.length+(ls.take i).flatten.length<=30∧∀k,v1.ownBlock=some k->(v.ownBlock=some k∨w.heap.size<=k)∧k≠w.heap.size∧k≠w.heap.size+1∧k≠Bt∧k≠Bt+1
 FC:iV W Bw Bm (some ⟨b,off,none⟩) cap zs N T
 bW:Boxed W w.heap.size 243 (.pointer (some ⟨Bw,0,none⟩))
 bK:Boxed W (Bt+1) 3 (.int .i64 (r:Int))
 bT:Boxed W Bt 68 (.slice (some ⟨b,off,none⟩) zs.length cap)
 gr:w.grownBy W v.ownBlock
theorem zZ{base:Nat}(d:cU base e A a)(c:A.ownBlock=some b):∃o:Obj,e.heap[b]?=some o∧o.isCells=true:=by
 rcases d.2 with⟨rfl,_⟩|⟨i,g,h,rfl,_,f,_⟩
 ·simp[Value.ownBlock]at c
 ·simp[Value.ownBlock]at c
  subst c;exact⟨_,f,rfl⟩
theorem cU.slice3{base:Nat}(d:cU base e A a):∃b n c,A=.slice b n c:=by
 obtain⟨b,c,f,_⟩:=cU.ints d;exact⟨b,_,c,f⟩
theorem Ed{base:Nat}(h:cU base e A a)(g:e.grownBy z A.ownBlock):KeepsFrom b e z:=
 ⟨g.size,fun k m _ f i=>(g.block k (ak.1 f).1 (fun j=>by
  obtain⟨l,d,c⟩:=zZ h j.symm;rw[f]at d;cases d;rw[i]at c;cases c)).trans f⟩
theorem cU.own{base:Nat}{row:Option Nat}(d:cU base e A a)(g:e.grownBy z row)(i:∀k,row=some k->∃o:Obj,e.heap[k]?=some o∧o.isCells=false):cU base z A a:=by
 refine dM d g ?_;cases j:A.ownBlock with
 |none=>exact .inl rfl
 |some m=>
  refine .inr fun l=>?_
  obtain⟨o,h,f⟩:=i m l.symm;obtain⟨n,c,b⟩:=zZ d j;rw[h]at c;cases c;rw[f]at b;cases b
theorem mK{row row':Option Nat}(b:e.grownBy z row)(a:z.grownBy F row')(g:∀k,row'=some k->row=some k∨e.heap.size<=k):e.grownBy F row:=
 ⟨a.os.trans b.os,a.tape.trans b.tape,a.output.trans b.output,aK b.size a.size,fun k f d=>(a.block k (by have:=b.size;omega) (fun h=>by
  rcases g k h.symm with c|c
  ·exact d c.symm
  ·omega)).trans (b.block k f d)⟩
theorem Pr.own{base:Nat}(t:b<e.heap.size)(u:h<e.heap.size)(v:j<e.heap.size)(H:e.heap.size<=y):OwnFrom y (Pr e B b h j C G K base a r A w U L):=by
 rintro M p q row⟨⟨F,s,x,D,E⟩,l,bW,bK,bT,k⟩f c;have d:∀{n:Nat}{o:TypeId}{A:Value},Boxed p n o A->Boxed q n o A:=fun{n o A}z=>(pn n o (fun _:Unit=>A)).from y () p q row z f c
 have g:∀i,i<e.heap.size->q.heap[i]?=p.heap[i]?:=fun i I=>f.block i (by have:=k.size;omega) (fun m=>by have:=(c i m.symm).1;omega)
 exact⟨⟨F,d s,x.own f (fun J m=>(c J m).2),D,E⟩,l.of (g b t) (g h u) (g j v) (by have:=k.size;have:=f.size;omega),d bW,d bK,d bT,mK k f fun i m=>.inr (by have:=(c i m).1;omega)⟩
theorem J5(q:Nat)(base j r:Nat)(i:Value)(b o:List Int)(e:World)(g:cU base e i b)(c:b.length=30)(n:1<=o.length):
 CallsIn Fx q Tryz.prog 219 #[.pointer (some ⟨j,0,none⟩),i,.int .i64 (r:Int)] e fun k a=>GF e a base k i b o:=by
 obtain⟨h,d,p⟩:=oG PN;have l:=d _ _ Tryz.func219;clear d;have f:Hid (∀a,e.grownBy a i.ownBlock->GF e a base (.panicked qw) i b o):=fun a m=>⟨m,.inr ⟨by omega,rfl⟩⟩
 obtain⟨s,t,rfl,_⟩:=cU.ints g;rw[c]at f⊢;clear g c n;refine eE Tryz.func219 rfl l ?_ h;simp only[Tryz.ntmps219,cY,aI,bH,Nat.reduceAdd,Nat.reduceSub,bM,bQ,cE,bY,bV,bc];gi_wp2
 exact f.out _ (mK (jl e _ _) (jl _ _ none) (fun u k=>by cases k))
end
