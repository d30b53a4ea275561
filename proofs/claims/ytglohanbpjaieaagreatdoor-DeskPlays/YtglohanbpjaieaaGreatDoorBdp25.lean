/-
  Parts of the proof.
-/
import Derived.Test.YtglohanbpjaieaaGreatDoorBdp24
set_option maxHeartbeats 4000000
set_option maxRecDepth 100000
namespace Go.Proofs.YtglohanbpjaieaaGreatDoor
open Go.Proofs Go.RowKit Go.Shelf Go.Maps
variable {A:bu}{G:Array Value}{H:Option Addr}{K:Ending}{L:Func}{O:TypeId}{b o C J M N:Nat}{d y P:World}{e D:List (List UInt8)}{g t F:List UInt8}{h:Int}{j I:List Int}{q:UInt8}{r B:Value}{u:bg}{z:List (List Int)}
section
theorem Tr.Ln(a:Tr):a.show=kO a.sy::(if a.kids=[]then []else 40::(Lib.join (a.kids.map Tr.show) [44]++[41])):=by
 cases a with
 |leaf b=>simp[Tr.show,Tr.sy,Tr.kids]
 |one b c=>simp[Tr.show,Tr.sy,Tr.kids,Lib.join]
 |two b c d=>simp[Tr.show,Tr.sy,Tr.kids,Lib.join]
theorem Dh(a:Tm.err j=0):cD j 0=j:=by
 have b:=fS a;unfold cD;rw[jK,b];simp
theorem GD{base:Nat}(n:iq base d r e)(i:0<e.length)(p:e.length<=1000)(a:List UInt8)(h:(Lib.join e a).length<=1000000):
 Calls Tryz.prog 79 #[r,sv a] d fun c k=>c=.returned (sv (Lib.join e a))∧Below d.heap.size d k:=by
 obtain⟨m,l,rfl,o,f,g⟩:=n.at i;have c:(e.map fun j=>(⟨j.toArray⟩:ByteArray)).map (·.data.toList)=e:=by
  rw[RP];conv=>rhs;rw[<-List.map_id e]
  exact gm fun q _=>rfl
 have b:=Tryz.strings_Join m 0 l (e.map fun j=>(⟨j.toArray⟩:ByteArray)) ⟨a.toArray⟩ d g f (by rw[en];omega) (by rw[en];omega) (by rw[c];exact aK h (by omega));rw[c,en]at b;exact b
theorem Oh{base:Nat}(h:iq base d r e)(c:0<e.length)(b:e.length<=1000)(a:(Lib.join e [44]).length<=1000000):
 Calls Tryz.prog 79 #[r,.string ⟨#[44]⟩] d fun g f=>g=.returned (sv (Lib.join e [44]))∧Below d.heap.size d f:=GD h c b [44] a
attribute [local go_sem] Oper.semAt_some
theorem zv(a:Below d.heap.size d y):KeepsFrom b d y:=⟨a.size,fun e _ _ c _=>(a.block e (ak.1 c).1).trans c⟩
theorem Ja(e:List Int)(a:Option Addr)(g r:Nat)(w:World)(I:Tm.err e=0)(F:r<e.length)(Y8:cZ w.heap.size w a e)(j:Tr)(YV:j.ok)(YM:j.ow)(S:j.flat=cD e r)
 (Zg:∀(p:Nat)(h:World)(Zn:Tr),r<p->p<e.length->Zn.ok->Zn.ow->Zn.flat=cD e p->cZ h.heap.size h a e->Calls Tryz.prog 140 #[.slice a e.length g,.int .i64 (p:Int)] h fun YG Zp=>YG=.returned (sv Zn.show)∧Below h.heap.size h Zp):
 Calls Tryz.prog 140 #[.slice a e.length g,.int .i64 (r:Int)] w fun YG Y=>YG=.returned (sv j.show)∧Below w.heap.size w Y:=by
 obtain⟨YN,hF⟩:∃YN,YN=Fence.wide:=⟨_,rfl⟩;refine(gx (n:=3)).1 ?_;rw[<-hF];obtain⟨Yk,L,R,Yz⟩:=jk hF;have Yt:Hid (Pl YN):=by rw[hF];exact nj
 have Zo:=hid hF;clear hF;have Zc:=L 140;have ZA:=L 169;have Zd:=L 196;have ZB:=L 170;have ZC:=L 79;clear L;have ZK:=cK I;have Zw:(e.length:Int)<=30:=by omega
 have ZE:(r:Int)<(e.length:Int):=by omega
 have Yl:j.sy=e[r]?.getD 0:=by rw[<-Tr.sym j,S,j8 I F]
 have M:Tm.room (e[r]?.getD 0)=j.kids.length:=by rw[<-Yl];exact Tr.room YV
 have YC:∀m(P:m<j.kids.length),(j.kids[m]).ok∧(j.kids[m]).ow∧(j.kids[m]).flat=cD e (Tm.pos e r m)∧r<Tm.pos e r m∧Tm.pos e r m<e.length:=fun m P=>by
  have Yv:=Tr.Q6 YV (m:=m) (c:=j.kids[m]) (an P);have YK:m<Tm.room (e[r]?.getD 0):=by rw[M];exact P
  rw[S,wi I F YK]at Yv;refine⟨Tr.KQ YV _ (ee P),?_,Yv.symm,Tm.om _ _ _,?_⟩
  ·intro Zz Zv
   refine YM Zz ?_;rw[Tr.zV j];refine jb _ (mF.2 ⟨_,Rl.2 ⟨_,ee P,rfl⟩,Zv⟩)
  ·have ZP:=mL I F m (by omega)
   have Zu:=mY (fD I F) (m:=m) (by rw[j8 I F];exact YK);rw[fZ I F]at Zu;have ZQ:=gL I F;omega
 have Yi:Tm.known j.sy=true:=YM _ (by rw[Tr.zV j];exact Rz);have o:j.kids.length<=2:=by rw[<-M];exact Tm.room_le _
 have Yr:=hid Y8;have N:=hid YC;have YH:=hid Zg;obtain⟨Yn,Yh⟩:∃Yn,(((w.alloc (.cells #[.slice a e.length g] 68)).alloc (.cells #[.slice none 0 0] 56)).alloc (.cells #[.slice a e.length g] 68)).alloc (.cells #[.int .i64 (r:Int)] 3)=Yn:=⟨_,rfl⟩;have ZH:Yn.heap.size=w.heap.size+1+1+1+1:=by rw[<-Yh];simp
 have YZ:uq w w.heap.size (.slice a e.length g) r [] Yn:=by
  rw[<-Yh];have Zq:=dt w 68 (.slice a e.length g);have Y2:=dt (w.alloc (.cells #[.slice a e.length g] 68)) 56 (.slice none 0 0);have Y3:=dt ((w.alloc (.cells #[.slice a e.length g] 68)).alloc (.cells #[.slice none 0 0] 56)) 68 (.slice a e.length g);have Y4:=dt (((w.alloc (.cells #[.slice a e.length g] 68)).alloc (.cells #[.slice none 0 0] 56)).alloc (.cells #[.slice a e.length g] 68)) 3 (.int .i64 (r:Int));simp only[bI]at Y2 Y3 Y4;exact⟨((Zq.alloc _).alloc _).alloc _,⟨_,(Y2.alloc _).alloc _,iq.nil _ _⟩,Y3.alloc _,Y4,((((ah _ w).alloc (af _) _).alloc (by simp) _).alloc (by simp;omega) _).alloc (by simp;omega) _⟩
 have Z:=hid YZ;have YY:=hid Yh;have Y6:=(dt w 68 (.slice a e.length g)).alloc (.cells #[.slice none 0 0] 56)|>.cell;clear Y8 YC Zg YZ Yh;refine eE Tryz.func140 rfl Zc ?_ Yk;simp only[Tryz.ntmps140,cY,aI,bH,Nat.reduceAdd,Nat.reduceSub,bM,bQ,cE,bY,bV,bc];gi_wp2_with((try refine⟨R _,?_⟩);gi_at_call 169;refine(pf YN Yt.out _ _ _ _ _ _).mono ?_;rintro YG Y⟨rfl,rfl⟩)
 rw[YY.out];clear Y6;refine jf Yk (by omega) (gf:=196) (lb:=#[.pointer (some ⟨w.heap.size+1+1+1,0,none⟩),.pointer (some ⟨w.heap.size+1+1,0,none⟩)]) rfl Zd (iW Tryz.func196 (by kernel_rfl) rfl)
  (mH YN Yt.out _ (w.heap.size+1+1+1) (w.heap.size+1+1) r g a e (by omega) F (nw YN Yt.out e (by omega) _ g r)) (fun _=>rfl)
  (fun m h=>uq w w.heap.size (.slice a e.length g) r ((j.kids.take m).map Tr.show) h) (fun _ _=>False) (fun _ _=>False) (.inl fun _ _ W=>W)
  (by
    rintro m ZL ZM row u Ze Zf;exact u.own (af _) (by omega) Ze Zf)
  (by
    rintro c ZL ZM row u Ze Zf;exact u)
  (fun m h u=>⟨u.bK.cell,u.bP.cell,(Yr.out.below u.kp).mono u.kp.size⟩)
  (by simpa using Z.out)
  (fun m=>{tmps:=#[.slice a e.length g,.int .i64 (r:Int),.pointer (some ⟨w.heap.size,0,none⟩),undef,.string ⟨#[]⟩,.pointer (some ⟨w.heap.size+1,0,none⟩),.int .i64 (Tm.pos e r m:Int),.slice a e.length g,.int .i64 (r:Int),.func (.func 196) #[] #[.pointer (some ⟨w.heap.size+1+1+1,0,none⟩),.pointer (some ⟨w.heap.size+1+1,0,none⟩)],.int .i64 (Tm.pos e r m:Int),.int .i64 (Tm.pos e r (m+1):Int),
    undef,undef,undef,undef,undef,undef,undef,undef,undef,undef,undef,undef,undef,undef,undef,undef,undef,undef,undef,undef,undef,undef,undef,undef],defers:=[]}) ?assign ?body ?done ?stop ?panic
 case assign=>
  intro ZJ m h q b;simp only[rL];gi_wp2
  exact b
 case body=>
  rintro ZJ m h u P;rw[M]at P;obtain⟨Zi,Zj,Zk,Zl,Zm⟩:=N.out m P;have YL:(j.kids.take (m+1)).map Tr.show=(j.kids.take m).map Tr.show++[(j.kids[m]).show]:=by
   rw[dz P,gF];rfl
  have ZI:((j.kids.take m).map Tr.show).length<=2:=by rw[en,cX];omega
  have Ye:=hid YL;have A:Below h.heap.size h h.drew:=bD (ah _ h) 1;have YO:=hid (eS ZJ (Yz (n:=0) (YH.out (Tm.pos e r m) h.drew (j.kids[m]) Zl Zm Zi Zj Zk (by have E:=u.kp.trans (A.mono u.kp.size);exact(Yr.out.below E).mono E.size))));obtain⟨O,⟨v,B,D⟩,Yp,Yo,Q⟩:=u;obtain⟨U,V,rfl⟩:=D.slice;generalize(j.kids.take m).map Tr.show=J at*;generalize(j.kids[m]).show=K at*;generalize Tm.pos e r m=Zy at*;have Yv:=B.cell;have ZO:=O.cell;have t:=hid (fun f(d:Below h.drew.heap.size h.drew f)=>show f.cell? ⟨w.heap.size+1,0,none⟩=some (.slice U J.length V)∧∀YW,(f.alloc YW).cell? ⟨w.heap.size+1,0,none⟩=some (.slice U J.length V)from
   ⟨(d.cell (p:=⟨w.heap.size+1,0,none⟩) B.lt).trans Yv,fun YW=>(aH (a:=⟨w.heap.size+1,0,none⟩) (cM f YW (w.heap.size+1) (df B.lt d.size))).trans ((d.cell (p:=⟨w.heap.size+1,0,none⟩) B.lt).trans Yv)⟩)
  have Yy:∀f(d:Below h.drew.heap.size h.drew f)(YW:Obj),Below h.heap.size h (f.alloc YW):=fun f d YW=>(A.trans (d.mono A.size)).alloc (by have W:=d.size;exact W) YW
  have Yf:=hid (fun f(d:Below h.drew.heap.size h.drew f)=>D.below (Yy f d (.cells #[sv K] 9)));have Yj:=hid (show w.heap.size<=h.drew.heap.size from Q.size);have Yc:=hid (fun f(d:Below h.drew.heap.size h.drew f)H y(k:iq w.heap.size y H (J++[K]))(x:(f.alloc (.cells #[sv K] 9)).grownBy y (Value.slice U J.length V).ownBlock)=>by
   have E:=Yy f d (.cells #[sv K] 9);have l:Below w.heap.size w (f.alloc (.cells #[sv K] 9)):=Q.trans (E.mono Q.size);have W:=Ma (C:=Yn.heap.size) (af _) ((E.block _ O.lt).trans O) ((E.block _ B.lt).trans B) (D.below E) ((E.block _ Yp.lt).trans Yp) ((E.block _ Yo.lt).trans Yo) l k x;exact(show Boxed y (w.heap.size+1) 56 (.slice U J.length V)∧uq w w.heap.size (.slice a e.length g) r (J++[K]) (y.setCell ⟨w.heap.size+1,0,none⟩ H)∧KeepsFrom Yn.heap.size h (y.setCell ⟨w.heap.size+1,0,none⟩ H)from⟨W.1,W.2.1,(zv E).trans W.2.2⟩))
  have YI:Tryz.prog.follows .mixedOrders=true:=by kernel_rfl
  clear Zi Zj Zk Zl Zm YL O B D Yp Yo Q Yy N YH Z;gi_wp2_with fail
  refine ni Yk (by kernel_rfl) YI ?_;show wpAnyIn YN _ _ _ _ _ 7 (Array.replicate 7 false) _ _;refine Rg (i:=2) (v:=.int .i64 (Zy:Int)) Yk rfl (by kernel_rfl) (by kernel_rfl) (by kernel_rfl) (fun _ _ _ W=>W.2.2.elim) ⟨Or.inl ⟨by rfl,fun w=>by go_simp⟩,fun _=>rfl⟩ ?_;refine Rc (rs:=[0,1]) (by kernel_rfl) (by simp) ?_;refine Ra rfl (fun q b=>?_) (Ra rfl (fun q b=>?_) Rb)
  ·go_simp
   refine b _ _ ?_;clear b q;refine Rc (rs:=[1]) (by kernel_rfl) (by simp) ?_;refine Ra rfl (fun q b=>?_) Rb;go_simp;refine b _ _ ?_;clear b q;refine Rc (rs:=[3]) (by kernel_rfl) (by simp) ?_;refine Ra rfl (fun q b=>?_) Rb;go_simp;gi_wp2_with(first|((try refine⟨R _,?_⟩);gi_at_call 140;refine YO.out.mono ?_;rintro YG f⟨rfl,d⟩;have Y5:=(t.out f d).1;have Yq:=(t.out f d).2))
   refine Rc (rs:=[4]) (by kernel_rfl) (by simp) ?_;refine Ra rfl (fun q b=>?_) Rb;go_simp;refine b _ _ ?_;clear b q;refine Rc (rs:=[5]) (by kernel_rfl) (by simp) ?_;refine Ra rfl (fun q b=>?_) Rb;rw[aD (by rfl)];refine pD _ _ _ rfl w.heap.size _ J rfl (Yf.out f d) f.heap.size K rfl (l0 _ _ _ _ rfl) (by omega) (by have:=Yj.out;have:=d.size;simp;omega) ?_;intro H y k x;refine b _ _ ?_;clear b q;obtain⟨l,s,o⟩:=Yc.out f d H y k x;have YQ:=l.cell;have YR:=l.frozen;obtain⟨YP,Yq,rfl⟩:=k.slice;simp only[ai,aI,bH,cI]at o s;refine Rc (rs:=[6]) (by kernel_rfl) (by simp) ?_;refine Ra rfl (fun q b=>?_) Rb;go_simp;refine b _ _ ?_;clear b q;refine Rm (by kernel_rfl) ?_ _;exact⟨o,by show uq w w.heap.size (.slice a e.length g) r ((j.kids.take (m+1)).map Tr.show) _;rw[Ye.out];exact s⟩
  ·go_simp
   refine b _ _ ?_;clear b q;refine Rc (rs:=[0,3]) (by kernel_rfl) (by simp) ?_;refine Ra rfl (fun q b=>?_) (Ra rfl (fun q b=>?_) Rb)
   ·go_simp
    refine b _ _ ?_;clear b q;refine Rc (rs:=[3]) (by kernel_rfl) (by simp) ?_;refine Ra rfl (fun q b=>?_) Rb;go_simp;gi_wp2_with(first|((try refine⟨R _,?_⟩);gi_at_call 140;refine YO.out.mono ?_;rintro YG f⟨rfl,d⟩;have Y5:=(t.out f d).1;have Yq:=(t.out f d).2))
    refine Rc (rs:=[4]) (by kernel_rfl) (by simp) ?_;refine Ra rfl (fun q b=>?_) Rb;go_simp;refine b _ _ ?_;clear b q;refine Rc (rs:=[5]) (by kernel_rfl) (by simp) ?_;refine Ra rfl (fun q b=>?_) Rb;rw[aD (by rfl)];refine pD _ _ _ rfl w.heap.size _ J rfl (Yf.out f d) f.heap.size K rfl (l0 _ _ _ _ rfl) (by omega) (by have:=Yj.out;have:=d.size;simp;omega) ?_;intro H y k x;refine b _ _ ?_;clear b q;obtain⟨l,s,o⟩:=Yc.out f d H y k x;have YQ:=l.cell;have YR:=l.frozen;obtain⟨YP,Yq,rfl⟩:=k.slice;simp only[ai,aI,bH,cI]at o s;refine Rc (rs:=[6]) (by kernel_rfl) (by simp) ?_;refine Ra rfl (fun q b=>?_) Rb;go_simp;refine b _ _ ?_;clear b q;refine Rm (by kernel_rfl) ?_ _;exact⟨o,by show uq w w.heap.size (.slice a e.length g) r ((j.kids.take (m+1)).map Tr.show) _;rw[Ye.out];exact s⟩
   ·go_simp
    gi_wp2_with(first|((try refine⟨R _,?_⟩);gi_at_call 140;refine YO.out.mono ?_;rintro YG f⟨rfl,d⟩;have Y5:=(t.out f d).1;have Yq:=(t.out f d).2))
    refine Rc (rs:=[0,4]) (by kernel_rfl) (by simp) ?_;refine Ra rfl (fun q b=>?_) (Ra rfl (fun q b=>?_) Rb)
    ·go_simp
     refine b _ _ ?_;clear b q;refine Rc (rs:=[4]) (by kernel_rfl) (by simp) ?_;refine Ra rfl (fun q b=>?_) Rb;go_simp;refine b _ _ ?_;clear b q;refine Rc (rs:=[5]) (by kernel_rfl) (by simp) ?_;refine Ra rfl (fun q b=>?_) Rb;rw[aD (by rfl)];refine pD _ _ _ rfl w.heap.size _ J rfl (Yf.out f d) f.heap.size K rfl (l0 _ _ _ _ rfl) (by omega) (by have:=Yj.out;have:=d.size;simp;omega) ?_;intro H y k x;refine b _ _ ?_;clear b q;obtain⟨l,s,o⟩:=Yc.out f d H y k x;have YQ:=l.cell;have YR:=l.frozen;obtain⟨YP,Yq,rfl⟩:=k.slice;simp only[ai,aI,bH,cI]at o s;refine Rc (rs:=[6]) (by kernel_rfl) (by simp) ?_;refine Ra rfl (fun q b=>?_) Rb;go_simp;refine b _ _ ?_;clear b q;refine Rm (by kernel_rfl) ?_ _;exact⟨o,by show uq w w.heap.size (.slice a e.length g) r ((j.kids.take (m+1)).map Tr.show) _;rw[Ye.out];exact s⟩
    ·go_simp
     refine b _ _ ?_;clear b q;refine Rc (rs:=[0]) (by kernel_rfl) (by simp) ?_;refine Ra rfl (fun q b=>?_) Rb;go_simp;refine b _ _ ?_;clear b q;refine Rc (rs:=[5]) (by kernel_rfl) (by simp) ?_;refine Ra rfl (fun q b=>?_) Rb;rw[aD (by rfl)];refine pD _ _ _ rfl w.heap.size _ J rfl (Yf.out f d) f.heap.size K rfl (l0 _ _ _ _ rfl) (by omega) (by have:=Yj.out;have:=d.size;simp;omega) ?_;intro H y k x;refine b _ _ ?_;clear b q;obtain⟨l,s,o⟩:=Yc.out f d H y k x;have YQ:=l.cell;have YR:=l.frozen;obtain⟨YP,Yq,rfl⟩:=k.slice;simp only[ai,aI,bH,cI]at o s;refine Rc (rs:=[6]) (by kernel_rfl) (by simp) ?_;refine Ra rfl (fun q b=>?_) Rb;go_simp;refine b _ _ ?_;clear b q;refine Rm (by kernel_rfl) ?_ _;exact⟨o,by show uq w w.heap.size (.slice a e.length g) r ((j.kids.take (m+1)).map Tr.show) _;rw[Ye.out];exact s⟩
 case done=>
  rintro YX h ZR u Yg;have YB:uq w w.heap.size (.slice a e.length g) r (j.kids.map Tr.show) h:=by
   have W:uq w w.heap.size (.slice a e.length g) r ((j.kids.take (Tm.room (e[r]?.getD 0))).map Tr.show) h:=u;rw[M,cJ]at W;exact W
  clear u;have G:=Tr.Ln j;have Ym:=Tr.FI j;have YE:j.flat.length<=30:=by rw[S,fZ I F];have:=gL I F;omega
  obtain⟨Y0,T,rfl,E,YU⟩:=((Yr.out.below YB.kp).mono YB.kp.size).at (by omega);have YA:=YU r F;have YJ:=hid (fun YF n=>Yz (n:=n) (CQ j.sy YF Yi));rw[<-Yl]at YA;obtain⟨O,⟨v,B,D⟩,Yp,Yo,Q⟩:=YB;have Zr:=O.cell;have Zs:=B.cell;by_cases z:j.kids=[]
  ·rw[z,gy]at D
   obtain⟨U,V,rfl⟩:=D.slice;rw[aD z]at G;have Yu:=hid G;have Yd:=hid Q;clear YU D O B Yp Yo N YH Z Yr Q G Ym z Yi Yl M S YE;gi_wp2_with((try refine⟨R _,?_⟩);gi_at_call 170;refine(YJ.out _ _).mono ?_;rintro YG h⟨rfl,rfl⟩)
   refine⟨by simp,.inl ⟨_,_,rfl,ed Yg,?_⟩⟩;refine⟨_,tu rfl _ _ _,?_,Yd.out.trans (uD (w:=w) (af _) h YX _ _ (by omega) Yg rfl rfl)⟩;rw[Yu.out];rfl
  ·rw[aE z]at G
   have YD:0<(j.kids.map Tr.show).length:=by
    rw[en];exact kN.2 z
   have ZF:(j.kids.map Tr.show).length<=2:=by rw[en];exact o
   have ZD:(Lib.join (j.kids.map Tr.show) [44]).length<=200:=by
    rw[G]at Ym;simp only[aI,ai,bH]at Ym;omega
   obtain⟨U,V,Zt,_⟩:=D.at YD;subst Zt;have Yu:=hid G;have Yd:=hid Q;have ZG:(((j.kids.map Tr.show).length:Int)==0)=false:=by rw[aW];omega
   have Y7:=hid (fun YF(Yx:Below h.heap.size h YF)=>Oh (D.below Yx) YD (by omega) (by omega));have YT:=hid (fun YF(Yx:Below h.heap.size h YF)=>(show YF.cell? ⟨w.heap.size,0,none⟩=some (.slice (some ⟨Y0,T,none⟩) e.length g)∧YF.cell? ⟨w.heap.size+1,0,none⟩=some (.slice (some ⟨U,0,none⟩) (j.kids.map Tr.show).length V)∧YF.cell? ⟨Y0,T+r,none⟩=some (.int .i64 j.sy)from
    ⟨(Yx.cell (p:=⟨w.heap.size,0,none⟩) O.lt).trans Zr,(Yx.cell (p:=⟨w.heap.size+1,0,none⟩) B.lt).trans Zs,(Yx.cell (p:=⟨Y0,T+r,none⟩) (by simpa using fx YA)).trans YA⟩))
   have YS:=hid (fun YF=>CQ j.sy YF Yi);clear YU D O B Yp Yo N YH Z Yr Q G Ym z Yi YD YJ Yl M S YE;generalize kO j.sy=ZN at*;generalize j.sy=Zz at*;generalize Lib.join (j.kids.map Tr.show) [44]=Zh at*;generalize(j.kids.map Tr.show).length=Zx at*;gi_wp2_with fail
   rw[Zo.out];refine RN.2 ?_;have ZS:¬9223372036854775807<2+Zh.length:=by omega
   have ZT:¬9223372036854775807<2+Zh.length+1:=by omega
   have A:Below h.heap.size h h.drew:=bD (ah _ h) 1;have Y9:=YT.out h (ah _ h);have Zb:=YT.out h.drew A;go_region_held3(fun Y=>Y.cell? ⟨w.heap.size,0,none⟩=some (.slice (some ⟨Y0,T,none⟩) e.length g)∧Y.cell? ⟨w.heap.size+1,0,none⟩=some (.slice (some ⟨U,0,none⟩) Zx V)∧Y.cell? ⟨Y0,T+r,none⟩=some (.int .i64 Zz))(first|assumption|exact Y9|exact Zb|exact Za)(first
    |(go_at_call 170;refine(YS.out h.drew).mono ?_;rintro YG Y⟨rfl,rfl⟩)
    |(go_at_call 79;refine(Y7.out h.drew A).mono ?_;rintro YG f⟨rfl,d⟩;have X:=A.trans (d.mono A.size);have Za:=YT.out f X))
   gi_wp2
   have Yw:f.heap[YX]?=some (.deferred (some [])):=(X.block YX (ak.1 Yg).1).trans Yg;refine⟨by simp,.inl ⟨_,_,rfl,ed Yw,?_⟩⟩;refine⟨_,tu rfl _ _ _,?_,(Yd.out.trans (X.mono Yd.out.size)).trans (uD (w:=w) (af _) f YX _ _ (by omega) Yw rfl rfl)⟩;rw[Yu.out];simp only[uU];simp
 case stop=>
  rintro YX c h _ W _;exact W.elim
 case panic=>exact fun _ _ _ _ W=>W.elim
theorem LO(a:List Int)(e:Option Addr)(b:Nat)(r:Tm.err a=0):∀(m k:Nat)(x:Tr)(c:World),a.length-k<=m->k<a.length->x.ok->x.ow->x.flat=cD a k->cZ c.heap.size c e a->
 Calls Tryz.prog 140 #[.slice e a.length b,.int .i64 (k:Int)] c fun v t=>v=.returned (sv x.show)∧Below c.heap.size c t:=by
 intro m;induction m with
 |zero=>intro k x c l d;omega
 |succ m s=>
  intro k x c l d n o p q;exact Ja a e b k c r d q x n o p (fun y u z w f g h i j=>s y z u (by omega) f g h i j)
def wA(t:List Int)(l:List UInt8)(e:Int):Prop:=(e=0∧Tm.err t=0∧∃x:Tr,x.ok∧x.ow∧x.flat=t∧x.flat.length<=30∧l=x.show)∨(e≠0∧e=Tm.err t∧l=[])
theorem Np(c:List Int)(q:Option Addr)(e:Nat)(g:World)(f:cZ g.heap.size g q c):
 Calls Tryz.prog 105 #[.slice q c.length e] g fun r v=>∃l m,wA c l m∧r=.returned (.tuple #[sv l,.int .i64 m])∧Below g.heap.size g v:=by
 have h:=hid (jn c q e g f);by_cases a:Tm.err c=0
 ·obtain⟨s,i,j,k,p⟩:=Tr.we a
  have u:=hid (fun w(n:Below g.heap.size g w)=>LO c q e a c.length 0 s w (by omega) (dU a) i j (by rw[k,Dh a]) ((f.below n).mono n.size));have b:Hid (wA c s.show 0):=.inl ⟨rfl,a,s,i,j,k,p,rfl⟩;rw[a]at h;clear a i j k p f;generalize s.show=l at*;go_enter Tryz.func105,Tryz.ntmps105;go_wp2_with fail;refine h.out.mono ?_;rintro r o⟨rfl,d⟩;go_wp2_with fail;refine(u.out o d).mono ?_;rintro r z⟨rfl,t⟩;go_wp2;go_ret2
  exact⟨l,0,b.out,rfl,d.trans (t.mono d.size)⟩
 ·have b:Hid (wA c [] (Tm.err c)):=.inr ⟨a,rfl,rfl⟩
  have x:(Tm.err c !=0)=true:=by simpa using a
  clear a f;generalize Tm.err c=y at*;go_enter Tryz.func105,Tryz.ntmps105;go_wp2_with fail;refine h.out.mono ?_;rintro r o⟨rfl,d⟩;go_wp2;go_ret2
  exact⟨[],y,b.out,rfl,d⟩
end
theorem yY(c:Tr)(n:Option Addr)(a:Nat)(e:World)(g:c.ok)(h:c.ow)(q:c.flat.length<=30)(d:c.flat.length<=a)(b:a<=maxLen)(j:cZ e.heap.size e n c.flat):
 Calls Tryz.prog 30 #[.slice n c.flat.length a] e fun p r=>p=.returned (sv c.show)∧Below e.heap.size e r:=by
 have k:=hid (r9 c.flat n a e (Tr.IV g h q) d b j);clear j;go_enter Tryz.func30,Tryz.ntmps30;go_wp2_with fail;refine k.out.mono ?_;rintro p s⟨rfl,f,l⟩;obtain⟨w,t,u,i⟩:=EF l (by omega) h;obtain rfl:w=c:=Tr.FE t g u;have m:=hid (i s (fun _ _ _=>rfl) (af _));clear k i l;go_wp2_with fail;refine m.out.mono ?_;rintro p v⟨rfl,o⟩;go_wp2;go_ret;exact⟨rfl,f.trans (o.mono f.size)⟩
def Pg(o:Option Int):Int:=o.getD 0
theorem Dm(h:UInt8)(u:World):Calls Tryz.prog 90 #[.int .u8 (h.toNat:Int)] u fun s v=>s=.returned (.tuple #[.int .i64 (Pg (iZ h)),.bool (iZ h).isSome])∧v=u:=by
 obtain⟨r,n⟩:∃r,iZ h=r:=⟨_,rfl⟩;rw[n];have k:Hid (tl 14 h=r):=n;clear n;go_enter Tryz.func90,Tryz.ntmps90;go_wp2;go_loopw [4](fun t wr=>∃c:Nat,c<=14∧t=.int .i64 (6-(c:Int))∧Hid (tl c h=r)∧wr=u)(fun t _=>(6-intOf t).toNat)
 case atStart=>exact⟨14,by omega,rfl,k,rfl⟩
 case round=>
  obtain⟨c,y,rfl,d,rfl⟩:=hrel;cases c with
  |zero=>
   have b:=d.out;rw[tl]at b;subst b;go_wp2;go_ret2
   exact⟨rfl,rfl⟩
  |succ c=>
   have w:(c:Int)<=13:=by omega
   have l:(6-((c+1:Nat):Int))=5-(c:Int):=by omega
   have a:=d.out;rw[tl]at a;rw[l];have m:Tm.known (5-(c:Int))=true:=by unfold Tm.known;simp only[dW,dJ];omega
   have g:=hid (fun x=>xQ (5-(c:Int)) x m);have j:(5-(c:Int))<6:=by omega
   have i: -8<=(5-(c:Int)):=by omega
   by_cases e:kO (5-(c:Int))=h
   ·rw[aD e]at a
    rw[e]at g;have p:((h.toNat:Int)==(h.toNat:Int))=true:=by simp
    obtain⟨q,b⟩:∃q,q=5-(c:Int):=⟨_,rfl⟩;rw[<-b]at g j i a⊢;have f:=hid a;clear m d e k l a b;go_wp2_with(go_at_call 87;refine(g.out _).mono ?_;rintro s wr⟨rfl,rfl⟩)
    go_ret2
    rw[<-f.out];exact⟨rfl,rfl⟩
   ·rw[aE e]at a
    have p:(((kO (5-(c:Int))).toNat:Int)==(h.toNat:Int))=false:=by
     rw[aW];intro A;exact e (kJ.1 (by omega))
    have f:=hid a;clear m d e k a l;generalize kO (5-(c:Int))=z at*;obtain⟨q,b⟩:∃q,q=5-(c:Int):=⟨_,rfl⟩;rw[<-b]at g j i⊢;have o:=hid b;clear b;go_wp2_with(go_at_call 87;refine(g.out _).mono ?_;rintro s wr⟨rfl,rfl⟩)
    go_roundw
    case rel=>exact⟨c,by omega,by rw[o.out];go_num,f,by first|rfl|trivial⟩
    case measure=>have:=o.out;simp[intOf];omega
def mz(l:List UInt8):Bool:=decide ((aO l).2=0)
theorem L8(b:List UInt8)(a:Nat)(c:a<b.length):b.take (a+1)=b.take a++[b[a]]:=dz c
theorem A8(b:List UInt8)(a:Nat)(c:a<b.length):fj (b.take (a+1))=fj (b.take a)++(iZ b[a]).toList:=by
 rw[L8 b a c,pU,fj];cases iZ b[a]<;>rfl
theorem DA(a:List UInt8):(fj a).length<=a.length:=by
 induction a with
 |nil=>exact af _
 |cons b a c=>
  rw[fj];cases iZ b with
  |none=>simp only[aI];omega
  |some d=>simp only[aI];omega
theorem ES(a:List UInt8)(n:World)(Yd:a.length<=4096):Calls Tryz.prog 58 #[sv a] n fun s I=>∃v,s=.returned (.tuple #[v,.bool (mz a)])∧cU n.heap.size I v (aO a).1∧Below n.heap.size n I:=by
 have V:(a.length:Int)<=4096:=by omega
 go_enter Tryz.func58,Tryz.ntmps58;go_wp2;go_loopw [4,5](fun Q v wr=>∃f:Nat,f<=a.length∧v=.int .i64 (f:Int)∧Hid (cU n.heap.size wr Q (fj (a.take f)))∧Below n.heap.size n wr)(fun _ v _=>a.length-(intOf v).toNat)
 case atStart=>exact⟨0,bf _,rfl,hid (cU.nil _ _),ah _ _⟩
 case round=>
  obtain⟨f,Yc,rfl,m,e⟩:=hrel;obtain⟨T,U,rfl,g,u,w⟩:=cU.ints m.out;by_cases F:f<a.length
  ·have P:(f:Int)<(a.length:Int):=by omega
   have j:=hid (A8 a f F);have W:=DA (a.take f);have O:(a.take f).length<=f:=by rw[cX];omega
   have c:=hid (Dm a[f] wr);cases q:iZ a[f]with
   |none=>
    rw[q]at c j;clear q g;generalize fj (a.take f)=r at*;go_wp2_with(go_at_call 90;refine c.out.mono ?_;rintro s wr⟨rfl,rfl⟩)
    go_roundw
    case rel=>exact⟨f+1,by omega,by go_num,by rw[j.out];simpa [Hid]using m,e⟩
    case measure=>simp[intOf];omega
   |some A=>
    rw[q]at c j;clear q g;generalize fj (a.take f)=r at*;have K:=m;have E:=e.size;have H:cZ (wr.alloc (.cells #[.int .i64 A] 3)).heap.size (wr.alloc (.cells #[.int .i64 A] 3)) (some ⟨wr.heap.size,0,none⟩) [A]:=fun Ye N=>by
     obtain rfl:Ye=0:=by simp at N;omega
     exact⟨wr.heap.size,0,rfl,by simp,l0 _ _ _ _ rfl⟩
    have L:=hid H;have M:=hid (cU.alloc K.out (.cells #[.int .i64 A] 3));have B:Below n.heap.size n (wr.alloc (.cells #[.int .i64 A] 3)):=e.alloc E _;clear H;go_wp2_with(first
     |(go_at_call 90;refine c.out.mono ?_;rintro s wr⟨rfl,rfl⟩)
     |(at_builtin;go_loud(refine dB _ rfl _ _ rfl n.heap.size _ r rfl M.out (some ⟨wr.heap.size,0,none⟩) [A] 1 rfl (fun Z=>by cases Z) L.out (by simp;omega) B.size ?_);intro Yg J t C;obtain⟨X,Y,rfl,_⟩:=cU.ints t))
    go_roundw
    case rel=>exact⟨f+1,by omega,by go_num,by rw[j.out];simpa [Hid]using t,B.trans C⟩
    case measure=>simp[intOf];omega
  ·obtain rfl:f=a.length:=by omega
   rw[cJ]at m g u;rw[cJ];have p:=hid (fun S(D:Below wr.heap.size wr S)=>qB (fj a) T U S ((g.below D).mono D.size));by_cases k:Tm.err (fj a)=0
   ·obtain⟨R,x,y,h,z⟩:=Tr.we k
    rw[k]at p;have c:=hid (yY R T U wr x y z (by rw[h];exact u) w (by rw[h];exact g));have i:=s9 x y h z;rw[h]at c;rw[h]at i;clear g k x y z w;generalize fj a=r at*;rcases i with⟨l,d⟩|⟨l,d⟩
    ·have b:Hid ((aO a).1=r∧mz a=true):=by unfold mz;rw[d];exact⟨rfl,rfl⟩
     rw[l]at c;clear l d h;go_wp2_with(first
      |(go_at_call 91;refine(p.out wr (ah _ _)).mono ?_;rintro s wr⟨rfl,rfl⟩)
      |(go_at_call 30;refine c.out.mono ?_;rintro s J⟨rfl,o⟩))
     go_ret2
     rw[b.out.1,b.out.2];exact⟨_,rfl,m.out.below o,e.trans (o.mono e.size)⟩
    ·have b:Hid ((aO a).1=[]∧mz a=false):=by unfold mz;rw[d];exact⟨rfl,rfl⟩
     have G:(R.show==a)=false:=by rw[aW];exact l
     clear l d h;generalize R.show=Yf at*;go_wp2_with(first
      |(go_at_call 91;refine(p.out wr (ah _ _)).mono ?_;rintro s wr⟨rfl,rfl⟩)
      |(go_at_call 30;refine c.out.mono ?_;rintro s J⟨rfl,o⟩))
     go_ret2
     rw[b.out.1,b.out.2];exact⟨_,rfl,cU.nil _ _,e.trans (o.mono e.size)⟩
   ·have d:=Gc k
    have b:Hid ((aO a).1=[]∧mz a=false):=by unfold mz;rw[d];exact⟨rfl,rfl⟩
    have G:(Tm.err (fj a)!=0)=true:=by simpa using k
    clear k d g;generalize Tm.err (fj a)=Yh at*;go_wp2_with(first
     |(go_at_call 91;refine(p.out wr (ah _ _)).mono ?_;rintro s wr⟨rfl,rfl⟩))
    go_ret2
    rw[b.out.1,b.out.2];exact⟨_,rfl,cU.nil _ _,e⟩
def vV(W:World)(R:Nat)(x y:Value):Prop:=W.heap[R]?=some (.cells #[x,y] 201 (0,0))
theorem vV.lt(a:vV d b r B):b<d.heap.size:=(ak.1 a).1
theorem vV.cell0(a:vV d b r B):d.cell? ⟨b,0,none⟩=some r:=by simp[World.cell?,show d.heap[b]?=_ from a]
theorem vV.dh(a:vV d b B r):d.cell? ⟨b,1,none⟩=some r:=by simp[World.cell?,show d.heap[b]?=_ from a]
theorem vV.frozen(a:vV d b r B)(i:Nat):d.frozen? ⟨b,i,none⟩=false:=by simp[World.frozen?,show d.heap[b]?=_ from a]
theorem vV.new(a:World)(b c:Value):vV (a.alloc (.cells #[b,c] 201)) a.heap.size b c:=aM a _
theorem vV.ld(f:vV d b B r)(e:Value):vV (d.setCell ⟨b,0,none⟩ e) b e r:=by
 obtain⟨a,c⟩:=ak.1 f;show(d.heap.modify b _)[b]?=_;rw[fo (by rw[iO];exact a),fJ,c];rfl
theorem vV.A0(f:vV d b r B)(e:Value):vV (d.setCell ⟨b,1,none⟩ e) b r e:=by
 obtain⟨a,c⟩:=ak.1 f;show(d.heap.modify b _)[b]?=_;rw[fo (by rw[iO];exact a),fJ,c];rfl
def qq:List PanicEntry:=[{v:=.iface 22 (.int .i64 1),recovered:=false}]
theorem Ie(c:Nat)(g:Value)(a:World)(d:vV a c (sv []) g):Calls Tryz.prog 191 #[.pointer (some ⟨c,0,none⟩)] a fun f b=>f=.panicked qq∧b=a:=by
 have e:=d.cell0;clear d;go_enter Tryz.func191,Tryz.ntmps191;go_wp2;exact⟨rfl,rfl,rfl⟩
theorem Pm(b:UInt8)(a:List UInt8):(⟨(b::a).toArray⟩:ByteArray).extract 1 (a.length+1)=⟨a.toArray⟩:=by
 apply tU;rw[ByteArray.data_extract];simp
theorem Ab(a:Nat)(f:UInt8)(c:List UInt8)(k:Value)(d:World)(j:c.length<=5000)(b:vV d a (sv (f::c)) k):Calls Tryz.prog 191 #[.pointer (some ⟨a,0,none⟩)] d fun h e=>h=.returned (.int .u8 (f.toNat:Int))∧e=d.setCell ⟨a,0,none⟩ (sv c):=by
 have g:=b.cell0;have i:=b.frozen 0;clear b;go_enter Tryz.func191,Tryz.ntmps191;go_wp2;go_ret;exact⟨rfl,by rw[Pm]⟩
theorem Ns(b:Nat)(a:UInt8)(c:List UInt8)(k:Value)(d:World)(f:c.length<=5000)(i:vV d b (sv (a::c)) k):Calls Tryz.prog 193 #[.pointer (some ⟨b,0,none⟩),.int .u8 (a.toNat:Int)] d fun h g=>h=.returned (.tuple #[])∧g=d.setCell ⟨b,0,none⟩ (sv c):=by
 have e:=hid (Ab b a c k d f i);have j:((a.toNat:Int)!=(a.toNat:Int))=false:=by simp
 clear i;go_enter Tryz.func193,Tryz.ntmps193;go_wp2_with(go_at_call 191;refine e.out.mono ?_;rintro h l⟨rfl,rfl⟩)
 go_end0
 exact⟨rfl,rfl⟩
theorem Pn(c:Nat)(h:UInt8)(d:List UInt8)(l:Value)(e:World)(i:d.length<=5000)(g:vV e c (sv d) l)(b:kz h d=none):Calls Tryz.prog 193 #[.pointer (some ⟨c,0,none⟩),.int .u8 (h.toNat:Int)] e fun f j=>f=.panicked qq∧Below c e j:=by
 cases d with
 |nil=>
  have a:=hid (Ie c l e g);clear g;go_enter Tryz.func193,Tryz.ntmps193;go_wp2_with(go_at_call 191;refine a.out.mono ?_;rintro f k⟨rfl,rfl⟩)
  exact⟨rfl,rfl,ah _ _⟩
 |cons m d=>
  have a:=hid (Ab c m d l e (by simp at i;omega) g);have n:((m.toNat:Int)!=(h.toNat:Int))=true:=by
   rw[bne_iff_ne];intro f;rw[kz,aD (kJ.1 (by omega))]at b;cases b
  clear g b;go_enter Tryz.func193,Tryz.ntmps193;go_wp2_with(go_at_call 191;refine a.out.mono ?_;rintro f k⟨rfl,rfl⟩)
  exact⟨rfl,rfl,(ah _ _).setCell (p:=⟨c,0,none⟩) (af _) _⟩
theorem EU(a:UInt8):(0<=Lib.indexByte rH a∧iZ a=some (Lib.indexByte rH a))∨(Lib.indexByte rH a= -1∧((0<=Lib.indexByte pC a∧Lib.indexByte pC a<=7∧iZ a=some (-1-Lib.indexByte pC a))∨(Lib.indexByte pC a= -1∧iZ a=none))):=
 Ol (p:=fun a=>(0<=Lib.indexByte rH a∧iZ a=some (Lib.indexByte rH a))∨(Lib.indexByte rH a= -1∧((0<=Lib.indexByte pC a∧Lib.indexByte pC a<=7∧iZ a=some (-1-Lib.indexByte pC a))∨(Lib.indexByte pC a= -1∧iZ a=none)))) (by decide+kernel) a
theorem yp(b:ByteArray)(a:UInt8)(c:World):Calls Tryz.prog 22 #[.string b,.int .u8 (a.toNat:Int)] c fun f d=>f=.returned (.int .i64 (Lib.indexByte b.data.toList a))∧d=c:=by
 have e:=Tryz.strings_IndexByte b (a.toNat:Int) c;rw[show(a.toNat:Int).toNat.toUInt8=a by simp]at e;exact e
theorem Jy(b:UInt8)(a:World):Calls Tryz.prog 190 #[.int .u8 (b.toNat:Int)] a fun d i=>i=a∧((∃s,iZ b=some s∧d=.returned (.int .i64 s))∨(iZ b=none∧d=.panicked qq)):=by
 have c:=hid (fun f=>yp ⟨#[97,98,103,104,102,107]⟩ b f);have e:=hid (fun f=>yp ⟨#[120,121,122,119,112,113,114,115]⟩ b f);rw[show(⟨#[97,98,103,104,102,107]⟩:ByteArray).data.toList=rH from rfl]at c;rw[show(⟨#[120,121,122,119,112,113,114,115]⟩:ByteArray).data.toList=pC from rfl]at e;have h:=EU b;generalize iZ b=m at*;generalize Lib.indexByte rH b=k at*;generalize Lib.indexByte pC b=l at*;rcases h with⟨g,rfl⟩|⟨rfl,⟨g,j,rfl⟩|⟨rfl,rfl⟩⟩
 ·go_enter Tryz.func190,Tryz.ntmps190
  go_wp2_with(go_at_call 22;refine(c.out a).mono ?_;rintro d a⟨rfl,rfl⟩)
  go_ret;exact⟨rfl,.inl ⟨_,rfl,rfl⟩⟩
 ·go_enter Tryz.func190,Tryz.ntmps190
  go_wp2_with fail;refine(c.out a).mono ?_;rintro d a⟨rfl,rfl⟩;go_wp2_with fail;refine(e.out a).mono ?_;rintro d a⟨rfl,rfl⟩;go_wp2;go_ret;exact⟨rfl,.inl ⟨_,rfl,rfl⟩⟩
 ·go_enter Tryz.func190,Tryz.ntmps190
  go_wp2_with fail;refine(c.out a).mono ?_;rintro d a⟨rfl,rfl⟩;go_wp2_with fail;refine(e.out a).mono ?_;rintro d a⟨rfl,rfl⟩;go_wp2;exact⟨rfl,rfl,.inr ⟨trivial,rfl⟩⟩
theorem cU.Dd{i:Nat}{x:Value}(k:cU (b+1) d r j):cU (b+1) (d.setCell ⟨b,i,none⟩ x) r j:=
 ⟨k.1,k.2.elim .inl fun⟨c,l,a,e,f,g,h⟩=>.inr ⟨c,l,a,e,f,(aT d ⟨b,i,none⟩ x c (show c≠b by omega)).trans g,h⟩⟩
theorem yw(d:ik o b g=some (j,t)):t.length<=g.length∧j.length<=b:=by
 obtain⟨e,_,_,_,a,c⟩:=Ax _ _ _ _ _ d;exact⟨by rw[a,ai];omega,c⟩
def Bp(f m R:Nat)(l:List UInt8)(zs:List Int)(w:World)(e:Ending)(w':World):Prop:=
 Below R w w'∧((∃a r v',ik f m l=some (a,r)∧e=.returned (.tuple #[])∧vV w' R (sv r) v'∧cU (R+1) w' v' (zs++a))∨(ik f m l=none∧e=.panicked qq))
theorem ND{f m:Nat}{l:List UInt8}(b:iZ q=some h)(a:Tm.room h=0):ik (f+1) (m+1) (q::l)=some ([h],l):=by
 rw[ik,b,Re,aD a]
theorem Nk(a:iZ q=none):ik (b+1) (o+1) (q::g)=none:=by rw[ik,a];rfl
theorem Iv{f m:Nat}(c:iZ q=some h)(b:Tm.room h≠0)(a:kz 40 g=none):ik (f+1) (m+1) (q::g)=none:=by
 rw[ik,c,Re,aE b,a];rfl
theorem Is{f m:Nat}(c:iZ q=some h)(a:Tm.room h≠0)(b:ik f m g=none):ik (f+1) (m+1) (q::40::g)=none:=by
 rw[ik,c,Re,aE a,gJ,Re,b];rfl
theorem On(e:iZ q=some h)(c:Tm.room h=1)(d:ik b o g=some (j,t))(a:kz 41 t=none):ik (b+1) (o+1) (q::40::g)=none:=by
 rw[ik,e,Re,aE (by omega),gJ,Re,d,Re,aD c,a];rfl
theorem Oi(d:iZ q=some h)(a:Tm.room h=1)(c:ik b o g=some (j,41::t)):ik (b+1) (o+1) (q::40::g)=some (h::j,t):=by
 rw[ik,d,Re,aE (by omega),gJ,Re,c,Re,aD a,gJ];rfl
theorem Nf(d:iZ q=some h)(e:Tm.room h=2)(c:ik b o g=some (j,t))(a:kz 44 t=none):ik (b+1) (o+1) (q::40::g)=none:=by
 rw[ik,d,Re,aE (by omega),gJ,Re,c,Re,aE (by omega),a];rfl
theorem NJ(d:iZ q=some h)(e:Tm.room h=2)(c:ik b o g=some (j,44::t))(a:ik b (o-j.length) t=none):ik (b+1) (o+1) (q::40::g)=none:=by
 rw[ik,d,Re,aE (by omega),gJ,Re,c,Re,aE (by omega),gJ,Re,a];rfl
theorem NM(e:iZ q=some h)(f:Tm.room h=2)(d:ik b o g=some (j,44::t))(c:ik b (o-j.length) t=some (I,F))(a:kz 41 F=none):ik (b+1) (o+1) (q::40::g)=none:=by
 rw[ik,e,Re,aE (by omega),gJ,Re,d,Re,aE (by omega),gJ,Re,c,Re,a];rfl
theorem NL(d:iZ q=some h)(e:Tm.room h=2)(c:ik b o g=some (j,44::t))(a:ik b (o-j.length) t=some (I,41::F)):ik (b+1) (o+1) (q::40::g)=some (h::(j++I),F):=by
 rw[ik,d,Re,aE (by omega),gJ,Re,c,Re,aE (by omega),gJ,Re,a,Re,gJ];rfl
theorem ux(a:Nat)(d:UInt8)(h:Int)(f:(d.toNat:Int)=h)(b:List UInt8)(i:Value)(c:World)(e:b.length<=5000)(k:vV c a (sv (d::b)) i):Calls Tryz.prog 193 #[.pointer (some ⟨a,0,none⟩),.int .u8 h] c fun j g=>j=.returned (.tuple #[])∧g=c.setCell ⟨a,0,none⟩ (sv b):=by
 subst f;exact Ns a d b i c e k
theorem xf(a:Nat)(d:UInt8)(i:Int)(g:(d.toNat:Int)=i)(b:List UInt8)(j:Value)(c:World)(e:b.length<=5000)(l:vV c a (sv b) j)(f:kz d b=none):Calls Tryz.prog 193 #[.pointer (some ⟨a,0,none⟩),.int .u8 i] c fun k h=>k=.panicked qq∧Below a c h:=by
 subst g;exact Pn a d b j c e l f
theorem LU(f m b:Nat)(l:List UInt8)(d:List Int)(Zi:Value)(Q:World)(Zg:m<=f+1)(Zh:d.length+m=30)(YQ:l.length<=5000)(T:vV Q b (sv l) Zi)(YE:cU (b+1) Q Zi d)
 (Yp:∀(YG:Nat)(YF:List UInt8)(Yh:List Int)(YT:Value)(w':World),YG<=f->Yh.length+YG=30->YF.length<=5000->vV w' b (sv YF) YT->cU (b+1) w' YT Yh->Calls Tryz.prog 162 #[.pointer (some ⟨b,0,none⟩)] w' fun u YM=>Bp f YG b YF Yh w' u YM):
 Calls Tryz.prog 162 #[.pointer (some ⟨b,0,none⟩)] Q fun u w'=>Bp (f+1) m b l d Q u w':=by
 obtain⟨Zj,Zk,rfl,_⟩:=cU.ints YE;have YC:=T.dh;have Y3:=T.cell0;cases m with
 |zero=>
  have YP:((d.length:Int)==30)=true:=by rw[RQ];omega
  clear Yp;go_enter Tryz.func162,Tryz.ntmps162;go_wp2;exact⟨rfl,ah _ _,.inr ⟨rfl,rfl⟩⟩
 |succ m=>
  have YP:((d.length:Int)==30)=false:=by rw[aW];omega
  cases l with
  |nil=>
   have a:=hid (Ie b _ Q T);clear Yp;go_enter Tryz.func162,Tryz.ntmps162;go_wp2_with(go_at_call 191;refine a.out.mono ?_;rintro u w⟨rfl,rfl⟩)
   exact⟨rfl,ah _ _,.inr ⟨rfl,rfl⟩⟩
  |cons Zf l=>
   have z:l.length<=4999:=by simp at YQ;omega
   have a:=hid (Ab b Zf l _ Q (by omega) T);have y:=hid (T.ld (sv l));have Ye:=hid (YE.Dd (i:=0) (x:=sv l));have O:Hid (Below b Q (Q.setCell ⟨b,0,none⟩ (sv l))):=(ah _ _).setCell (p:=⟨b,0,none⟩) (af _) _;have Yx:=hid Yp;have Yu:=hid (fun YM=>Jy Zf YM);clear Yp T YE YQ;go_enter Tryz.func162,Tryz.ntmps162;go_wp2_with fail;refine a.out.mono ?_;rintro u w⟨rfl,Yv⟩;rw[<-Yv]at y Ye O;clear Yv a Y3 YC;have YC:=y.out.dh;have Y6:=y.out.frozen 1;go_wp2_with fail;refine(Yu.out w).mono ?_;rintro u w⟨rfl,⟨A,Yo,rfl⟩|⟨Yo,rfl⟩⟩;rotate_left
   ·go_wp2
    exact⟨rfl,O.out,.inr ⟨Nk Yo,rfl⟩⟩
   have s:=hid Yo;have YR:=y.out.lt;have YS:cZ (w.alloc (.cells #[.int .i64 A] 3)).heap.size (w.alloc (.cells #[.int .i64 A] 3)) (some ⟨w.heap.size,0,none⟩) [A]:=fun Zn Zb=>by
    obtain rfl:Zn=0:=by simp at Zb;omega
    exact⟨w.heap.size,0,rfl,by simp,l0 _ _ _ _ rfl⟩
   have YK:=hid YS;have YL:=hid (cU.alloc Ye.out (.cells #[.int .i64 A] 3));have Yw:=hid ((ah (b+1) w).alloc (show b+1<=w.heap.size by omega) (.cells #[.int .i64 A] 3));clear YS Yu Yo;go_wp2_with(at_builtin;go_loud(refine dB _ rfl _ _ rfl (b+1) _ d rfl YL.out (some ⟨w.heap.size,0,none⟩) [A] 1 rfl (fun YD=>by cases YD) YK.out (by simp;omega) (by simp;omega) ?_);intro Zd YV Yf Yd;have Yk:=hid (show vV YV b (sv l) (.slice Zj d.length Zk)from((Yw.out.trans Yd).block b (by omega)).trans y.out);have Y4:=Yk.out.dh;have Y7:=Yk.out.frozen 1;obtain⟨E,H,Y5,Zc,_⟩:=cU.ints Yf;have Yr:=hid Yf;have Yq:=hid (Yw.out.trans Yd);clear Yf Yd)
   have YO:Zd=.slice E (d.length+1) H:=by rw[Y5];simp
   obtain⟨j,F⟩:∃j,YV.setCell ⟨b,1,none⟩ (.slice E (d.length+1) H)=j:=⟨_,rfl⟩;rw[F];have B:vV j b (sv l) (.slice E (d.length+1) H):=by rw[<-F];exact Yk.out.A0 _
   have W:cU (b+1) j (.slice E (d.length+1) H) (d++[A]):=by rw[<-F,<-YO];exact Yr.out.Dd
   have J:Below b Q j:=by rw[<-F];exact(O.out.trans (Yq.out.mono (by omega))).setCell (p:=⟨b,1,none⟩) (af _) _
   have Yg:=Tm.room_le A;have o:=hid (fun YM=>Ge A YM);clear F YO Yk Yr Yq y Ye O YK YL Yw YC Y6 Y4 Y7 Zc YR;have Yn:Tm.room A=0∨Tm.room A=1∨Tm.room A=2:=by omega
   rcases Yn with t|t|t
   ·have e:=hid (ND (f:=f) (m:=m) (l:=l) s.out t)
    rw[t]at o;clear t Yg;go_wp2_with(go_at_call 192;refine(o.out j).mono ?_;rintro u j⟨rfl,rfl⟩)
    go_end0
    exact⟨J,.inl ⟨_,_,_,e.out,rfl,B,W⟩⟩
   ·rw[t]at o
    go_wp2_with fail;refine(o.out j).mono ?_;rintro u j⟨rfl,rfl⟩;have r:=hid t;clear t Yg o;cases c:kz 40 l with
    |none=>
     have a:=hid (xf b 40 40 rfl l _ j (by omega) B c);have e:=hid (Iv (f:=f) (m:=m) s.out (by rw[r.out];omega) c);go_wp2_with fail;refine a.out.mono ?_;rintro u Ze⟨rfl,Yz⟩;go_wp2;exact⟨rfl,J.trans Yz,.inr ⟨e.out,rfl⟩⟩
    |some M=>
     obtain rfl:=kQ c;have a:=hid (ux b 40 40 rfl M _ j (by simp at z;omega) B);clear c;go_wp2_with fail;refine a.out.mono ?_;rintro u C⟨rfl,k⟩;have Y:vV C b (sv M) (.slice E (d.length+1) H):=by rw[k];exact B.ld _
     have X:cU (b+1) C (.slice E (d.length+1) H) (d++[A]):=by rw[k];exact W.Dd
     have K:Below b Q C:=by rw[k];exact J.setCell (p:=⟨b,0,none⟩) (af _) _
     have g:=hid (Yx.out m M (d++[A]) _ C (by omega) (by simp;omega) (by simp at z;omega) Y X);clear a k B W J Y X;go_wp2_with fail;refine g.out.mono ?_;rintro u Z⟨L,⟨S,N,U,h,rfl,D,Yi⟩|⟨h,rfl⟩⟩;rotate_left
     ·have e:=hid (Is (f:=f) (m:=m) s.out (by rw[r.out];omega) h)
      clear g;go_wp2;exact⟨rfl,K.trans L,.inr ⟨e.out,rfl⟩⟩
     have R:=K.trans L;obtain⟨Y8,Y9⟩:=yw h;have Yc:N.length<=4999:=by simp at z;omega
     have q:=hid h;clear g L K h;go_wp2;refine ft 1 ?_;rw[eK];cases c:kz 41 N with
     |none=>
      have a:=hid (xf b 41 41 rfl N _ Z (by omega) D c);have e:=hid (On s.out r.out q.out c);go_wp2_with fail;refine a.out.mono ?_;rintro u v⟨rfl,YA⟩;go_wp2;exact⟨rfl,R.trans YA,.inr ⟨e.out,rfl⟩⟩
     |some I=>
      obtain rfl:=kQ c;have a:=hid (ux b 41 41 rfl I _ Z (by simp at Yc;omega) D);have e:=hid (Oi s.out r.out q.out);clear c;go_wp2_with fail;refine a.out.mono ?_;rintro u v⟨rfl,n⟩;have Yl:vV v b (sv I) U:=by rw[n];exact D.ld _
      have Yj:cU (b+1) v U (d++(A::S)):=by rw[n];have YD:=Yi.Dd (i:=0) (x:=sv I);simpa using YD
      have V:Below b Q v:=by rw[n];exact R.setCell (p:=⟨b,0,none⟩) (af _) _
      clear n a;go_wp2;go_end0
      exact⟨V,.inl ⟨_,_,_,e.out,rfl,Yl,Yj⟩⟩
   ·rw[t]at o
    go_wp2_with fail;refine(o.out j).mono ?_;rintro u j⟨rfl,rfl⟩;have r:=hid t;clear t Yg o;cases c:kz 40 l with
    |none=>
     have a:=hid (xf b 40 40 rfl l _ j (by omega) B c);have e:=hid (Iv (f:=f) (m:=m) s.out (by rw[r.out];omega) c);go_wp2_with fail;refine a.out.mono ?_;rintro u Ze⟨rfl,Yz⟩;go_wp2;exact⟨rfl,J.trans Yz,.inr ⟨e.out,rfl⟩⟩
    |some M=>
     obtain rfl:=kQ c;have a:=hid (ux b 40 40 rfl M _ j (by simp at z;omega) B);clear c;go_wp2_with fail;refine a.out.mono ?_;rintro u C⟨rfl,k⟩;have Y:vV C b (sv M) (.slice E (d.length+1) H):=by rw[k];exact B.ld _
     have X:cU (b+1) C (.slice E (d.length+1) H) (d++[A]):=by rw[k];exact W.Dd
     have K:Below b Q C:=by rw[k];exact J.setCell (p:=⟨b,0,none⟩) (af _) _
     have g:=hid (Yx.out m M (d++[A]) _ C (by omega) (by simp;omega) (by simp at z;omega) Y X);clear a k B W J Y X;go_wp2_with fail;refine g.out.mono ?_;rintro u Z⟨L,⟨S,N,U,h,rfl,D,Yi⟩|⟨h,rfl⟩⟩;rotate_left
     ·have e:=hid (Is (f:=f) (m:=m) s.out (by rw[r.out];omega) h)
      clear g;go_wp2;exact⟨rfl,K.trans L,.inr ⟨e.out,rfl⟩⟩
     have R:=K.trans L;obtain⟨Y8,Y9⟩:=yw h;have Yc:N.length<=4999:=by simp at z;omega
     have q:=hid h;clear g L K h;go_wp2;refine ft 2 ?_;rw[eK];cases c:kz 44 N with
     |none=>
      have a:=hid (xf b 44 44 rfl N _ Z (by omega) D c);have e:=hid (Nf s.out r.out q.out c);go_wp2_with fail;refine a.out.mono ?_;rintro u v⟨rfl,YA⟩;go_wp2;exact⟨rfl,R.trans YA,.inr ⟨e.out,rfl⟩⟩
     |some I=>
      obtain rfl:=kQ c;have a:=hid (ux b 44 44 rfl I _ Z (by simp at Yc;omega) D);clear c;go_wp2_with fail;refine a.out.mono ?_;rintro u v⟨rfl,n⟩;have Yl:vV v b (sv I) U:=by rw[n];exact D.ld _
      have Yj:cU (b+1) v U (d++(A::S)):=by rw[n];have YD:=Yi.Dd (i:=0) (x:=sv I);simpa using YD
      have V:Below b Q v:=by rw[n];exact R.setCell (p:=⟨b,0,none⟩) (af _) _
      have g:=hid (Yx.out (m-S.length) I (d++(A::S)) U v (by omega) (by simp;omega) (by simp at Yc;omega) Yl Yj);clear a n D Yi R Yl Yj;go_wp2_with fail;refine g.out.mono ?_;rintro u YN⟨YB,⟨Y0,YI,YU,G,rfl,Yy,YX⟩|⟨G,rfl⟩⟩;rotate_left
      ·have e:=hid (NJ s.out r.out q.out G)
       clear g;go_wp2;exact⟨rfl,V.trans YB,.inr ⟨e.out,rfl⟩⟩
      have YJ:=V.trans YB;obtain⟨Zl,Zm⟩:=yw G;have Za:YI.length<=4999:=by simp at Yc;omega
      have Yt:=hid G;clear g YB V G;go_wp2;rw[eK];cases c:kz 41 YI with
      |none=>
       have a:=hid (xf b 41 41 rfl YI _ YN (by omega) Yy c);have e:=hid (NM s.out r.out q.out Yt.out c);go_wp2_with fail;refine a.out.mono ?_;rintro u Ym⟨rfl,Y2⟩;go_wp2;exact⟨rfl,YJ.trans Y2,.inr ⟨e.out,rfl⟩⟩
      |some YH=>
       obtain rfl:=kQ c;have a:=hid (ux b 41 41 rfl YH _ YN (by simp at Za;omega) Yy);have e:=hid (NL s.out r.out q.out Yt.out);clear c;go_wp2_with fail;refine a.out.mono ?_;rintro u Ym⟨rfl,P⟩;have YZ:vV Ym b (sv YH) YU:=by rw[P];exact Yy.ld _
       have YY:cU (b+1) Ym YU (d++(A::(S++Y0))):=by rw[P];have YD:=YX.Dd (i:=0) (x:=sv YH);simpa using YD
       have YW:Below b Q Ym:=by rw[P];exact YJ.setCell (p:=⟨b,0,none⟩) (af _) _
       clear P a;go_wp2;go_end0
       exact⟨YW,.inl ⟨_,_,_,e.out,rfl,YZ,YY⟩⟩
theorem Mm(e c:Nat)(i:List UInt8)(a:List Int)(k:Value)(d:World)(h:a.length=30)(g:vV d c (sv i) k)(f:cU (c+1) d k a):
 Calls Tryz.prog 162 #[.pointer (some ⟨c,0,none⟩)] d fun n l=>Bp e 0 c i a d n l:=by
 obtain⟨o,p,rfl,_⟩:=cU.ints f;have m:=g.dh;have j:((a.length:Int)==30)=true:=by rw[RQ];omega
 have b:Hid (ik e 0 i=none):=by cases e<;>rfl
 clear h;go_enter Tryz.func162,Tryz.ntmps162;go_wp2;exact⟨rfl,ah _ _,.inr ⟨b.out,rfl⟩⟩
theorem NW(e:Nat):∀(f m:Nat)(l:List UInt8)(a:List Int)(v:Value)(b:World),m<=f->a.length+m=30->l.length<=5000->vV b e (sv l) v->cU (e+1) b v a->
 Calls Tryz.prog 162 #[.pointer (some ⟨e,0,none⟩)] b fun n k=>Bp f m e l a b n k:=by
 intro f;induction f with
 |zero=>
  intro m l a v b g h i c d;obtain rfl:m=0:=by omega
  exact Mm 0 e l a v b (by omega) c d
 |succ f j=>
  intro m l a v b g h i c d;exact LU f m e l a v b g h i c d j
theorem LH(h i:Addr)(e:World):CallsD Tryz.prog 161 #[.pointer (some h),.pointer (some i)] .returning e fun g c d=>g=.returned (.tuple #[])∧c=.returning∧d=e:=by
 refine RJ Tryz.func161 rfl fun a f b=>?_
 apply wpS_seq;apply RT;simp[wpOpsS,go_sem,recoverD,b,Tryz.ntmps161,Exit.thenS];simp only[bM,bQ,cE,bV,bc,Rq,RA,jD,bY];refine Sa ?_;go_wp2;cases a;simp_all[bodyPostS,results,Tryz.results161]
theorem AA(a:Nat)(b:World)(c:Boxed b a 68 (.slice none 0 0))(d:Boxed b (a+1) 22 (.int .i64 0)):
 CallsD Tryz.prog 161 #[.pointer (some ⟨a,0,none⟩),.pointer (some ⟨a+1,0,none⟩)] (.panicking qq) b fun n g e=>n=.returned (.tuple #[])∧g=.panicking [{v:=.iface 22 (.int .i64 1),recovered:=true}]∧
  Below a b e∧Boxed e a 68 (.slice none 0 0)∧Boxed e (a+1) 22 (.int .i64 1):=by
 refine RJ Tryz.func161 rfl fun m l f=>?_
 have j:=c.cell;have k:=d.cell;have o:=c.frozen;have q:=d.frozen;unfold qq at f;have i:∀(h:TypeId)(b:World),(Instr.typeAssert (.iface 22 (.int .i64 1)) h 22 false).run Tryz.prog b=.ok (.int .i64 1) b:=fun _ _=>by kernel_rfl
 apply wpS_seq;apply RT;simp[wpOpsS,go_sem,recoverD,f,Tryz.ntmps161,Exit.thenS];simp only[bM,bQ,cE,bV,bc,Rq,RA,jD,bY];refine Sa ?_;go_wp2;go_region
 all_goals(
  refine⟨rfl,_,rfl,_,mb rfl _ _ _,rfl,rfl,?_⟩;refine⟨bD (((ah a b).setCell (p:=⟨a,0,none⟩) (af _) _).setCell (p:=⟨a+1,0,none⟩) (by show a<=a+1;omega) _) 1,?_,?_⟩
  ·exact(c.set _).other (by omega) _
  ·exact(d.other (by omega) _).set _)
theorem uO(j:L.results=#[.cell b 68,.cell o 22])(e:G.getD b undef=.pointer (some ⟨C,0,none⟩))(f:G.getD o undef=.pointer (some ⟨J,0,none⟩))
 (g:d.cell? ⟨C,0,none⟩=some (.slice H M N))(i:d.cell? ⟨J,0,none⟩=some (.int .i64 h)):(results L G).run Tryz.prog d=.ok (.tuple #[.slice H M N,.int .i64 h]) d:=by
 have a:G[b]?.getD undef=.pointer (some ⟨C,0,none⟩):=by rw[<-e];simp
 have c:G[o]?.getD undef=.pointer (some ⟨J,0,none⟩):=by rw[<-f];simp
 simp only[results,j];simp[go_sem,a,c,g,i]
theorem F9(a:ik 30 30 g=some (j,[])):aO g=(j,0):=by unfold aO;rw[a]
theorem Fq(a:ik 30 30 g=none):aO g=([],1):=by unfold aO;rw[a]
theorem E4(a:ik 30 30 g=some (j,q::t)):aO g=([],1):=by unfold aO;rw[a]
theorem Of(s:List UInt8)(a:World)(Y:s.length<=4096):Calls Tryz.prog 129 #[sv s] a fun B H=>∃v,B=.returned (.tuple #[v,.int .i64 (aO s).2])∧cU a.heap.size H v (aO s).1∧Below a.heap.size a H:=by
 have O:∀(C:Fn)(first q:Array Value)(a:World),(Instr.makeFunc C first q).run Tryz.prog a=.ok (.func C first q) a:=fun _ _ _ _=>rfl
 obtain⟨e,d⟩:∃e,((a.alloc (.cells #[.slice none 0 0] 68)).alloc (.cells #[.int .i64 0] 22)).alloc (.cells #[sv s,.slice none 0 0] 201)=e:=⟨_,rfl⟩;have y:Boxed e a.heap.size 68 (.slice none 0 0):=by rw[<-d];exact((dt a _ _).alloc _).alloc _
 have z:Boxed e (a.heap.size+1) 22 (.int .i64 0):=by
  rw[<-d];have J:=dt (a.alloc (.cells #[.slice none 0 0] 68)) 22 (.int .i64 0);rw[bI]at J;exact J.alloc _
 have E:vV e (a.heap.size+1+1) (sv s) (.slice none 0 0):=by
  rw[<-d];have J:=vV.new ((a.alloc (.cells #[.slice none 0 0] 68)).alloc (.cells #[.int .i64 0] 22)) (sv s) (.slice none 0 0);simpa only[bI]using J
 have r:Below a.heap.size a e:=by rw[<-d];exact(((ah _ a).alloc (af _) _).alloc (by simp) _).alloc (by simp;omega) _
 have o:=hid (NW (a.heap.size+1+1) 30 30 s [] _ e (af _) rfl (by omega) E (cU.nil _ _));have u:=hid d;clear d E;go_enter_defers Tryz.func129,Tryz.ntmps129
 go_wp2_with fail;rw[u.out];refine o.out.mono ?_;rintro B h⟨i,⟨N,P,v,g,rfl,w,n⟩|⟨g,rfl⟩⟩
 ·have b:Boxed h a.heap.size 68 (.slice none 0 0):=(i.block _ (by omega)).trans y
  have c:Boxed h (a.heap.size+1) 22 (.int .i64 0):=(i.block _ (by omega)).trans z;have m:=r.trans (i.mono (by omega));rw[bV]at n;have R:=w.cell0;have S:=w.dh;obtain⟨x,F,rfl,_⟩:=cU.ints n;cases P with
  |nil=>
   have l:=hid (F9 g);have T:=b.cell;have V:=b.frozen;have U:=c.cell;have W:=c.frozen;clear g o;go_wp2;refine RH (f:=161) (args:=#[.pointer (some ⟨a.heap.size,0,none⟩),.pointer (some ⟨a.heap.size+1,0,none⟩)]) (by simp) (by simp[go_sem]) ?_;refine(LH ⟨a.heap.size,0,none⟩ ⟨a.heap.size+1,0,none⟩ _).mono ?_;rintro B G I⟨rfl,rfl,rfl⟩;have j:=(b.set (.slice x N.length F)).other (B':=a.heap.size+1) (by omega) (.int .i64 0);have k:=(c.other (B':=a.heap.size) (by omega) (.slice x N.length F)).set (.int .i64 0);refine⟨_,uO rfl rfl rfl j.cell k.cell,?_⟩;rw[l.out];refine⟨_,rfl,?_,(m.setCell (p:=⟨a.heap.size,0,none⟩) (af _) _).setCell (p:=⟨a.heap.size+1,0,none⟩) (by show a.heap.size<=a.heap.size+1;omega) _⟩;refine⟨n.1,n.2.elim .inl fun⟨D,Q,A,K,X,L,M⟩=>.inr ⟨D,Q,A,K,by omega,?_,M⟩⟩;exact(aT _ ⟨a.heap.size+1,0,none⟩ _ D (show D≠a.heap.size+1 by omega)).trans ((aT _ ⟨a.heap.size,0,none⟩ _ D (show D≠a.heap.size by omega)).trans L)
  |cons Z P=>
   have l:=hid (E4 g);clear g o;go_wp2;refine RH (f:=161) (args:=#[.pointer (some ⟨a.heap.size,0,none⟩),.pointer (some ⟨a.heap.size+1,0,none⟩)]) (by simp) (by simp[go_sem]) ?_;refine(AA a.heap.size h b c).mono ?_;rintro B G I⟨rfl,rfl,t,j,k⟩;refine⟨_,uO rfl rfl rfl j.cell k.cell,?_⟩;rw[l.out];exact⟨_,rfl,cU.nil _ _,m.trans t⟩
 ·have b:Boxed h a.heap.size 68 (.slice none 0 0):=(i.block _ (by omega)).trans y
  have c:Boxed h (a.heap.size+1) 22 (.int .i64 0):=(i.block _ (by omega)).trans z;have m:=r.trans (i.mono (by omega));have l:=hid (Fq g);clear g o;go_wp2;refine RH (f:=161) (args:=#[.pointer (some ⟨a.heap.size,0,none⟩),.pointer (some ⟨a.heap.size+1,0,none⟩)]) (by simp) (by simp[go_sem]) ?_;refine(AA a.heap.size h b c).mono ?_;rintro B G I⟨rfl,rfl,t,j,k⟩;refine⟨_,uO rfl rfl rfl j.cell k.cell,?_⟩;rw[l.out];exact⟨_,rfl,cU.nil _ _,m.trans t⟩
def oT(l:List UInt8):Int:=if 4096<l.length then 2 else(aO l).2
def oS(l:List UInt8):List Int:=if 4096<l.length then []else(aO l).1
theorem NS(a:List UInt8)(f:World)(c:a.length<=maxLen):Calls Tryz.prog 101 #[sv a] f fun k g=>∃v,k=.returned (.tuple #[v,.int .i64 (oT a)])∧cU f.heap.size g v (oS a)∧Below f.heap.size f g:=by
 have l:(a.length:Int)<=9223372036854775807:=by unfold maxLen at c;omega
 by_cases d:4096<a.length
 ·have i:(4096:Int)<(a.length:Int):=by omega
  have b:Hid (oT a=2∧oS a=[]):=by unfold oT oS;rw[aD d,aD d];exact⟨rfl,rfl⟩
  clear d c;go_enter Tryz.func101,Tryz.ntmps101;go_wp2;go_ret2
  rw[b.out.1,b.out.2];exact⟨_,rfl,cU.nil _ _,ah _ _⟩
 ·have i:¬(4096:Int)<(a.length:Int):=by omega
  have b:Hid (oT a=(aO a).2∧oS a=(aO a).1):=by unfold oT oS;rw[aE d,aE d];exact⟨rfl,rfl⟩
  have j:=hid (Of a f (by omega));clear d c;go_enter Tryz.func101,Tryz.ntmps101;go_wp2_with fail;refine j.out.mono ?_;rintro k m⟨v,rfl,e,h⟩;obtain⟨n,o,rfl,_⟩:=cU.ints e;go_wp2;go_ret2
  rw[b.out.1,b.out.2];exact⟨_,rfl,e,h⟩
theorem zX(b:List Int)(i:Option Addr)(a:Nat)(c:World)(p:Tm.err b=0)(e:cZ c.heap.size c i b):Calls Tryz.prog 78 #[.slice i b.length a] c fun k r=>∃l,kh b l∧k=.returned (sv l)∧Below c.heap.size c r:=by
 have d:=hid (Np b i a c e);clear e;go_enter Tryz.func78,Tryz.ntmps78;go_wp2_with fail;refine d.out.mono ?_;rintro k s⟨l,m,g,rfl,j⟩;have q:m=0∧kh b l:=by
  rcases g with⟨rfl,_,t⟩|⟨n,o,_⟩
  ·exact⟨rfl,t⟩
  ·exact absurd (o.trans p) n
 obtain⟨rfl,f⟩:=q;have h:=hid f;clear g f d;go_wp2_with fail;refine(s8 _).mono ?_;rintro k s⟨rfl,rfl⟩;go_wp2;go_ret;exact⟨l,h.out,rfl,j⟩
def ks(n:Nat)(W:World)(a:Option Addr)(ss:List (List UInt8)):Prop:=∀j,j<ss.length->∃b off,a=some ⟨b,off,none⟩∧b<n∧W.cell? ⟨b,off+j,none⟩=some (sv (ss[j]?.getD []))
theorem ks.below(l:Below b d y)(h:ks b d H e):ks b y H e:=fun j g=>by
 obtain⟨i,a,k,c,f⟩:=h j g;exact⟨i,a,k,c,(l.cell (p:=⟨i,a+j,none⟩) c).trans f⟩
def mu:List UInt8:=[84,69,82,77]
def eN:List (List UInt8)->List (List UInt8)->Option (List (List Int))
 |[],[]=>some []
 |x::xs,y::ys=>if y=mu then(if(aO x).2=0 then(eN xs ys).map ((aO x).1::·)else none)else if x=y then eN xs ys else none
 |_,_=>none
theorem xH:∀{a b:List (List UInt8)},a.length≠b.length->eN a b=none
 |[],[],c=>absurd rfl c
 |[],_::_,_=>rfl
 |_::_,[],_=>rfl
 |f::a,g::b,c=>by
  have d:a.length≠b.length:=fun e=>c (by simp[e])
  rw[eN,xH d];split
  ·split<;>rfl
  ·split<;>rfl
theorem xr(b c:List (List UInt8))(P E:Option Addr)(Yj Yi:Nat)(p:World)(L:ks p.heap.size p P b)(K:ks p.heap.size p E c)(M:∀k,k<b.length->(b[k]?.getD []).length<=4096)(YC:b.length<=5000)(YB:c.length<=10):
 Calls Tryz.prog 72 #[.slice P b.length Yj,.slice E c.length Yi] p fun x Ye=>Below p.heap.size p Ye∧((∃l v,eN b c=some l∧x=.returned v∧il p.heap.size Ye v l)∨(eN b c=none∧x=.panicked (sf 1))):=by
 have Yt:(b.length:Int)<=5000:=by omega
 by_cases A:b.length=c.length
 ·have Z:((b.length:Int)!=(c.length:Int))=false:=by simp[A]
  have Yh:=hid L;have Yg:=hid K;have Yf:=hid M;have q:=hid A;clear L K M A;go_enter Tryz.func72,Tryz.ntmps72;go_wp2;go_loopw [5,18](fun Yn v wr=>∃(k:Nat)(l:List (List Int)),k<=b.length∧v=.int .i64 (k:Int)∧Hid (eN b c=(eN (b.drop k) (c.drop k)).map (l++·))∧Hid (il p.heap.size wr Yn l∧l.length<=k)∧Below p.heap.size p wr)(fun _ v _=>b.length-(intOf v).toNat)
  case atStart=>exact⟨0,[],bf _,rfl,hid (by simp),hid ⟨il.nil _ _,bf _⟩,ah _ _⟩
  case round=>
   obtain⟨k,l,YA,rfl,z,i,e⟩:=hrel;obtain⟨YG,YH,rfl,_⟩:=il.qg i.out.1;by_cases d:k<b.length
   ·have Yk:(k:Int)<(b.length:Int):=by omega
    obtain⟨YI,Yu,rfl,Yy,Yz⟩:=(Yh.out.below e) k d;obtain⟨Yw,Ym,rfl,Yo,Yp⟩:=(Yg.out.below e) k (by rw[<-q.out];exact d);have R:b.drop k=(b[k]?.getD [])::b.drop (k+1):=by rw[bZ d,an d];rfl
    have Q:c.drop k=(c[k]?.getD [])::c.drop (k+1):=by rw[bZ (by rw[<-q.out];exact d),an (by rw[<-q.out];exact d)];rfl
    have YD:=Yf.out k d;have a:=z.out;rw[R,Q,eN]at a;clear R Q z;generalize b[k]?.getD []=j at*;generalize c[k]?.getD []=O at*;have Yq:(0:Int)<=(k:Int):=by omega
    have Yr:(k:Int)<(c.length:Int):=by have:=q.out;omega
    have t:oT j=(aO j).2:=by unfold oT;rw[aE (by omega)]
    have u:oS j=(aO j).1:=by unfold oS;rw[aE (by omega)]
    by_cases o:O=mu
    ·rw[aD o]at a
     have Yd:(O==[84,69,82,77])=true:=by rw[o];rfl
     have J:=NS j wr (by unfold maxLen;omega);rw[t,u]at J;have m:=hid J;have s:(aO j).2=0∨(aO j).2=1:=by
      rcases qD j with⟨_,_,_,_,_,_,x⟩|⟨_,_,x⟩<;>simp[x]
     clear o J t u;by_cases n:(aO j).2=0
     ·rw[aD n]at a
      have h:Hid (eN b c=(eN (b.drop (k+1)) (c.drop (k+1))).map ((l++[(aO j).1])++·)):=by
       show _=_;rw[a,Option.map_map];congr 1;funext YJ
       simp
      rw[n]at m;generalize(aO j).1=N at*;clear a n s;go_wp2_with fail;refine m.out.mono ?_;rintro x f⟨v,rfl,B,r⟩;obtain⟨C,D,rfl,_⟩:=cU.ints B;have I:=cU.mono B e.size;have w:=e.trans (r.mono e.size);go_wp2_with fail;refine(s8 _).mono ?_;rintro x f⟨rfl,rfl⟩;have y:Below f.heap.size f (f.alloc (.cells #[.slice C N.length D] 68)):=(ah _ _).alloc (af _) _;have F:=hid (w.trans (y.mono w.size));have V:=hid ((i.out.1.below r).below y);have H:=hid i.out.2;have Yl:=hid (I.below y);have X:Hid ((f.alloc (.cells #[.slice C N.length D] 68)).cell? ⟨f.heap.size,0,none⟩=some (.slice C N.length D)):=(dp (aM f _) 0).trans rfl;clear y B I i r;go_wp2_with(at_builtin;go_loud(refine nf _ rfl _ _ rfl p.heap.size _ l rfl V.out (.slice C N.length D) N f.heap.size rfl X.out Yl.out (by have:=H.out;omega) F.out.size ?_);intro YE YF G T)
      have W:=hid G;have U:=F.out.trans T;obtain⟨Yv,Yx,rfl,_⟩:=il.qg G;go_roundw
      case rel=>exact⟨k+1,l++[N],by omega,by go_num,h,hid ⟨W.out,by rw[ai];simpa using H.out⟩,U⟩
      case measure=>simp[intOf];omega
     ·rw[aE n]at a
      have S:(aO j).2=1:=s.resolve_left n;rw[S]at m;have h:Hid (eN b c=none):=a;clear a n S s;go_wp2_with fail;refine m.out.mono ?_;rintro x f⟨v,rfl,B,r⟩;have w:=hid (e.trans (r.mono e.size));go_wp2_with fail;refine(r8 1 (by decide) _).mono ?_;rintro x f⟨rfl,rfl⟩;go_wp2;exact⟨rfl,w.out,.inr ⟨h.out,rfl⟩⟩
    ·rw[aE o]at a
     have Yd:(O==[84,69,82,77])=false:=by simpa [mu]using o
     clear o t u;by_cases g:j=O
     ·rw[aD g]at a
      have Yc:(!j==O)=false:=by simp[g]
      have h:=hid a;clear g a;go_wp2;go_roundw
      case rel=>exact⟨k+1,l,by omega,by go_num,h,hid ⟨i.out.1,by have:=i.out.2;omega⟩,e⟩
      case measure=>simp[intOf];omega
     ·rw[aE g]at a
      have Yc:(!j==O)=true:=by simpa using g
      have h:Hid (eN b c=none):=a;clear g a;go_wp2;exact⟨rfl,e,.inr ⟨h.out,rfl⟩⟩
   ·obtain rfl:k=b.length:=by omega
    have a:=z.out;rw[eu,show c.drop b.length=[]by rw[q.out];exact eu,eN]at a;have h:=hid a;clear z a;go_wp2;go_ret;exact⟨e,.inl ⟨l,_,by simpa using h.out,rfl,i.out.1⟩⟩
 ·have Z:((b.length:Int)!=(c.length:Int))=true:=by simp;omega
  clear L K M;have Y:eN b c=none:=xH A;go_enter Tryz.func72,Tryz.ntmps72;go_wp2;exact⟨rfl,ah _ _,.inr ⟨Y,rfl⟩⟩
theorem fW.mono{p:Option Addr}(i:b<=o)(a:fW false o d p j):fW false b d p j:=fun m k=>by
 obtain⟨n,e,l,c,q⟩:=a m k;refine⟨n,e,l,.inr ?_,q⟩;rcases c with⟨a,_⟩|⟨a|⟨f,g⟩,h⟩
 ·cases a
 ·cases a
 ·exact⟨.inr ⟨aK i f,g⟩,h⟩
theorem dC.PD(q:dC false O b o d r u)(a:C<=o):dC false O b C d r u:=by
 obtain⟨k,h,i⟩:=q;refine⟨k,h,fun s j=>?_⟩;obtain⟨c,f,e,g,l,m,n,p,t⟩:=i s j;exact⟨c,f,e,g,l,m,n.mono a,p.mono a,t⟩
theorem OZ(rk:List Int)(b:bg)(u X:Option Addr)(B f:Nat)(i:World)(F:cZ i.heap.size i u rk)(E:dw i.heap.size i X b)(O:b.length<=f)(P:f<=maxLen):
 Calls Tryz.prog 76 #[.slice u rk.length B,.slice X b.length f] i fun Y W=>∃c rs n v,jC rk b c rs n∧Y=.returned (.tuple #[v,.int .i64 (n:Int),.int .i64 c])∧dC false 70 i.heap.size i.heap.size W v rs∧Below i.heap.size i W:=by
 have w:=hid (xV rk b u X B f i F E (by omega));have Yc:=hid (fun Yd(r:Below i.heap.size i Yd)=>(F.below r).mono r.size);have Z:=hid (fun Yd(r:Below i.heap.size i Yd)=>(E.below r).mono r.size);clear F E;by_cases o:gn rk b=0
 ·have l:Hid (∀c rs n,(∃e s a,e<=30∧jr rk b e s a∧
  ((a=[]∧c=0∧rs=s∧n=e)∨(0<a.length∧e=30∧c=2∧rs=[]∧n=0)∨(0<a.length∧e<30∧c≠0∧(∃h g,eH rk s a c h g)∧rs=[]∧n=0)))->jC rk b c rs n):=fun c rs n Yu=>.inr ⟨o,Yu⟩
  rw[o]at w;clear o;go_enter Tryz.func76,Tryz.ntmps76;go_wp2_with fail;refine w.out.mono ?_;rintro Y z⟨rfl,k⟩;clear w;go_wp2;go_loopw [1,8,9](fun Yj Ym v wr=>∃(e:Nat)(rs a:bg)(t:Option Addr)(q:Nat),e<=30∧v=.int .i64 (e:Int)∧Yj=.slice t a.length q∧Hid (dw wr.heap.size wr t a)∧Hid (dC false 70 i.heap.size i.heap.size wr Ym rs)∧Hid (a.length<=q∧q<=maxLen)∧Hid (jr rk b e rs a)∧Below z.heap.size z wr)(fun _ _ v _=>31-(intOf v).toNat)
  case atStart=>exact⟨0,[],b,X,f,by omega,rfl,rfl,hid (Z.out z k),hid (dC.nil _ _ _ _),hid ⟨O,P⟩,hid ⟨rfl,rfl⟩,ah _ _⟩
  case round=>
   obtain⟨e,rs,a,t,q,Q,rfl,rfl,M,D,A,d,C⟩:=hrel;obtain⟨Yf,Yi,rfl,L,_,_⟩:=D.out.at;have p:=k.trans (C.mono k.size);obtain⟨U,G⟩:=A.out;have Yv:(a.length:Int)<=9223372036854775807:=by unfold maxLen at G;omega
   by_cases m:0<a.length
   ·have Yq:(0:Int)<(a.length:Int):=by omega
    by_cases K:e=30
    ·subst K
     have j:=hid (l.out 2 [] 0 ⟨30,rs,a,af _,d.out,.inr (.inl ⟨m,rfl,rfl,rfl,rfl⟩)⟩);clear l d m;go_wp2;go_ret3
     exact⟨2,[],0,_,j.out,rfl,dC.nil _ _ _ _,p⟩
    ·have Yk:((e:Int)==30)=false:=by rw[aW];omega
     have Yp:(e:Int)<=29:=by omega
     have N:=hid (Og rk rs a u Yf t B Yi q wr (Yc.out wr p) L M.out U G);clear M L A U G D;go_wp2_with fail;refine N.out.mono ?_;rintro Y Yx⟨c,h,g,v,Yy,y,rfl,H,V,Yg⟩;have Yn:=hid ((H.mono p.size).PD p.size);obtain⟨Yr,Yt,rfl⟩:=H.slice;obtain⟨Ye,Yh,rfl,Yo,Yl,T⟩:=V.at;have I:=C.trans (Yg.mono C.size);clear N H V;by_cases x:c=0
     ·subst x
      have J:Hid (jr rk b (e+1) h g):=⟨rs,a,d.out,m,y⟩;clear y d l m;go_wp2;go_roundw
      case rel=>exact⟨e+1,h,g,Ye,Yh,by omega,by go_num,rfl,hid Yo,Yn,hid ⟨Yl,T⟩,J,I⟩
      case measure=>simp[intOf];omega
     ·have R:(c !=0)=true:=by simpa using x
      have j:=hid (l.out c [] 0 ⟨e,rs,a,Q,d.out,.inr (.inr ⟨m,by omega,x,⟨h,g,y⟩,rfl,rfl⟩)⟩);clear y d l m x;go_wp2;go_ret3
      exact⟨c,[],0,_,j.out,rfl,dC.nil _ _ _ _,k.trans (I.mono k.size)⟩
   ·have S:a=[]:=bJ (by omega)
    subst S;have j:=hid (l.out 0 rs e ⟨e,rs,[],Q,d.out,.inl ⟨rfl,rfl,rfl,rfl⟩⟩);clear l d m;go_wp2;go_ret3
    exact⟨0,rs,e,_,j.out,rfl,D.out,p⟩
 ·have j:Hid (jC rk b (gn rk b) [] 0):=.inl ⟨o,rfl,rfl,rfl⟩
  have R:(gn rk b !=0)=true:=by simpa using o
  clear o;generalize gn rk b=Yw at*;go_enter Tryz.func76,Tryz.ntmps76;go_wp2_with fail;refine w.out.mono ?_;rintro Y z⟨rfl,k⟩;go_wp2;go_ret3
  exact⟨Yw,[],0,_,j.out,rfl,dC.nil _ _ _ _,k⟩
def nA(W:World)(D:Nat)(E:bg)(R:bu):Prop:=∃ve vr,W.heap[D]?=some (.cells #[ve,vr] 33 (0,0))∧dC false 79 (D+1) (D+1) W ve E∧dC false 70 (D+1) (D+1) W vr R
theorem nA.below(i:nA d b u A)(a:Below d.heap.size d y):nA y b u A:=by
 obtain⟨g,h,c,e,f⟩:=i;exact⟨g,h,(a.block b (ak.1 c).1).trans c,e.below a,f.below a⟩
theorem nA.open(p:nA d b u A):∃e a f c,d.heap[b]?=some (.cells #[.slice e u.length a,.slice f A.length c] 33 (0,0))∧
 dw d.heap.size d e u∧u.length<=a∧a<=maxLen∧dw d.heap.size d f A∧A.length<=c∧c<=maxLen:=by
 obtain⟨q,r,m,n,o⟩:=p;obtain⟨e,a,rfl,g,h,i⟩:=n.at;obtain⟨f,c,rfl,j,k,l⟩:=o.at;exact⟨e,a,f,c,m,g,h,i,j,k,l⟩
def mN(D:Nat)(w w':World):Prop:=Below D w w'∧Lib.OthersKept 79 (some D) w w'
theorem mN.of(c:b<=d.heap.size)(e:Below d.heap.size d y):mN b d y:=
 ⟨e.mono c,fun f _ a _ _=>(e.block f (ak.1 a).1).trans a⟩
theorem mN.trans(c:mN b d y)(a:mN b y P):mN b d P:=⟨c.1.trans a.1,c.2.trans a.2⟩
def pz(D:Nat)(E:bg)(R:bu)(ws:List (List UInt8))(w:World)(e:Ending)(w':World):Prop:=
 mN D w w'∧∃E' R' out er,dm E R ws E' R' out er∧nA w' D E' R'∧((er=0∧e=.returned (sv out))∨(er≠0∧e=.panicked (sf er)))
theorem pz.same{out:List UInt8}(c:nA d b u A)(a:Below d.heap.size d y)(f:dm u A e u A out h)(g:(h=0∧K=.returned (sv out))∨(h≠0∧K=.panicked (sf h))):pz b u A e d K y:=
 ⟨mN.of (RB (let⟨_,_,f,_⟩:=c;(ak.1 f).1)) a,u,A,out,h,f,c.below a,g⟩
theorem vu(a:g=mA∨g=kj∨g=jO)(c:List UInt8)(b:List (List UInt8)):dm u A (g::c::b) u A [] 1:=by
 match b with
 |[]=>rcases a with rfl|rfl|rfl<;>simp[dm,mA,kj,jO,nI]
 |[_]=>rcases a with rfl|rfl|rfl<;>simp[dm,mA,kj,jO,nh,kS]
 |[_,_]=>rcases a with rfl|rfl|rfl<;>simp[dm,mA,kj,jO,pK,mr]
 |_::_::_::_=>exact⟨rfl,rfl,rfl⟩
theorem r6(b:eN e []=none):∃x a,e=x::a:=by
 cases e with
 |nil=>rw[eN]at b;cases b
 |cons x a=>exact⟨x,a,rfl⟩
theorem LX(r:Nat)(S:bg)(H:bu)(a:List (List UInt8))(J:Option Addr)(T:Nat)(e:World)(j:nA e r S H)(A:ks e.heap.size e J a)(C:∀k,k<a.length->(a[k]?.getD []).length<=4096)(P:a.length<=5000):
 Calls Tryz.prog 51 #[.pointer (some ⟨r,0,none⟩),.slice J a.length T] e fun i Q=>pz r S H (mA::a) e i Q:=by
 have h:=hid j;obtain⟨W,X,v,w,b,L,Z,Yc,y,M,N⟩:=j.open;have l:=hid (xr a [] J none T 0 e A (fun Yd g=>by simp at g) C P (by simp));have D:r<e.heap.size:=(ak.1 b).1;have z:=hid (fun u(f:Below e.heap.size e u)=>Gj H v w u ((y.below f).mono f.size) (aK M N));have B:=hid (fun u(f:Below e.heap.size e u)=>show u.cell? ⟨r,1,none⟩=some (.slice v H.length w)from(f.cell (p:=⟨r,1,none⟩) D).trans ((dp b 1).trans rfl));clear b L y A C j;go_enter Tryz.func51,Tryz.ntmps51;go_wp2_with fail;refine l.out.mono ?_;rintro i F⟨c,⟨Ye,Yf,d,rfl,_⟩|⟨d,rfl⟩⟩
 ·have E:a=[]:=by
   cases a with
   |nil=>rfl
   |cons V G=>exact absurd d (by simp[eN])
  subst E;have U:=B.out F c;clear d l;go_wp2_with fail;refine(z.out F c).mono ?_;rintro i q⟨o,x,g,rfl,K⟩;have s:=c.trans (K.mono c.size);have t:=hid g;clear g;by_cases b:x=0
  ·subst b
   go_wp2_with fail;refine(s8 _).mono ?_;rintro i q⟨rfl,rfl⟩;go_wp2_with fail;refine(wG _ _).mono ?_;rintro i q⟨m,rfl⟩;obtain⟨R,n⟩:∃R,qY o=R:=⟨_,rfl⟩;replace m:i=.returned (sv R):=by rw[<-n];exact m
   have I:=hid n;subst m;clear n;go_wp2;go_ret;exact .same h.out s ⟨rfl,rfl,o,t.out,fun _=>I.out.symm⟩ (.inl ⟨rfl,rfl⟩)
  ·have O:=hid (r8 x b)
   go_wp2_with fail;refine(O.out _).mono ?_;rintro i q⟨rfl,rfl⟩;go_wp2;exact⟨rfl,.same h.out s (out:=[]) ⟨rfl,rfl,o,t.out,fun Y=>absurd Y b⟩ (.inr ⟨b,rfl⟩)⟩
 ·obtain⟨V,G,rfl⟩:=r6 d
  clear d l z B;go_wp2;exact⟨rfl,.same h.out c (vu (.inl rfl) V G) (.inr ⟨by decide,rfl⟩)⟩
theorem tD(a:eN e []=some z):e=[]∧z=[]:=by
 cases e with
 |nil=>exact⟨rfl,(rz a).symm⟩
 |cons c b=>exact absurd a (by simp[eN])
theorem sC(b:eN e (mu::D)=some z):∃x a c,e=x::a∧(aO x).2=0∧z=(aO x).1::c∧eN a D=some c:=by
 cases e with
 |nil=>exact absurd b (by simp[eN])
 |cons x a=>
  rw[eN,aD rfl]at b;by_cases d:(aO x).2=0
  ·rw[aD d]at b
   cases f:eN a D with
   |none=>rw[f]at b;cases b
   |some c=>rw[f]at b;exact⟨x,a,c,rfl,d,(rz b).symm,f⟩
  ·rw[aE d]at b;cases b
theorem CN(d:g≠mu)(c:eN e (g::D)=some z):∃a,e=g::a∧eN a D=some z:=by
 cases e with
 |nil=>exact absurd c (by simp[eN])
 |cons f a=>
  rw[eN,aE d]at c;by_cases b:f=g
  ·rw[aD b]at c;exact⟨a,by rw[b],c⟩
  ·rw[aE b]at c;cases c
theorem tA(c:eN e [mu]=some z):∃x,e=[x]∧(aO x).2=0∧z=[(aO x).1]:=by
 obtain⟨x,f,d,rfl,a,rfl,b⟩:=sC c;obtain⟨rfl,rfl⟩:=tD b;exact⟨x,rfl,a,rfl⟩
theorem yd(f:eN e [mu,mu]=some z):∃x a,e=[x,a]∧(aO x).2=0∧(aO a).2=0∧z=[(aO x).1,(aO a).1]:=by
 obtain⟨x,h,g,rfl,b,rfl,c⟩:=sC f;obtain⟨a,rfl,d,rfl⟩:=tA c;exact⟨x,a,rfl,b,d,rfl⟩
theorem wB(h:g≠mu)(i:eN e [mu,g,mu]=some z):∃x a,e=[x,g,a]∧(aO x).2=0∧(aO a).2=0∧z=[(aO x).1,(aO a).1]:=by
 obtain⟨x,k,j,rfl,b,rfl,c⟩:=sC i;obtain⟨l,rfl,d⟩:=CN h c;obtain⟨a,rfl,f,rfl⟩:=tA d;exact⟨x,a,rfl,b,f,rfl⟩
theorem zY{E:bg}{R:bu}(b:eN e [mu]=none):dm E R (nI::e) E R [] 1:=by
 match e,b with
 |[],_=>simp[dm,nI,kj,jO,mA]
 |[c],b=>
  have a:(aO c).2≠0:=fun a=>by simp[eN,mu,a]at b
  simp[dm,a]
 |[_,_],_=>simp[dm,nI,nh,kS]
 |[_,_,_],_=>simp[dm,nI,pK,mr]
 |_::_::_::_::_,_=>exact⟨rfl,rfl,rfl⟩
theorem vE{E:bg}{R:bu}{w:List UInt8}(c:w=nh∨w=kS)(d:eN e [mu,mu]=none):dm E R (w::e) E R [] 1:=by
 match e,d with
 |[],_=>rcases c with rfl|rfl<;>simp[dm,nh,kS,kj,jO,mA]
 |[_],_=>rcases c with rfl|rfl<;>simp[dm,nh,kS,nI]
 |[f,g],d=>
  have a:¬((aO f).2=0∧(aO g).2=0):=fun a=>by simp[eN,mu,a.1,a.2]at d
  unfold dm;simp only;rw[aE (fun b=>a b.2),aE (fun b=>a b.2)];exact⟨trivial,trivial,trivial⟩
 |[_,_,_],_=>rcases c with rfl|rfl<;>simp[dm,nh,kS,pK,mr]
 |_::_::_::_::_,_=>exact⟨rfl,rfl,rfl⟩
