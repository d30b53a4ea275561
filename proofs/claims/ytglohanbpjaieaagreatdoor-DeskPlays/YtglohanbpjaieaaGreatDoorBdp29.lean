/-
  Parts of the proof.
-/
import Derived.Test.YtglohanbpjaieaaGreatDoorBdp24
set_option maxHeartbeats 2000000
set_option maxRecDepth 100000
namespace Go.Proofs.YtglohanbpjaieaaGreatDoor
open Go.Proofs Go.RowKit Go.Shelf Go.Maps
variable {a:List Int}{b:Oper}{c:Act}{d:List (List Int)}{e:Array Oper}{f:Exit->Act->World->Prop}
section
attribute [local go_sem ↓] Go.wp_at_zero Go.wp_at_succ
theorem BV(e:e7 d=0)(f:∀k,k<a.length-> -8<=a[k]?.getD 0)(b:0<a.length):0<(bo d a).length:=by
 cases a with
 |nil=>simp at b
 |cons g h=>
  rw[jw,ai];by_cases c:g<0
  ·have:=dU (tG (qO.of e) (by simpa using f 0 b) c)
   omega
  ·rw[rO (by omega)]
   simp only[aI,bH];omega
theorem Cp{rest:List Oper}(k:World)(x:b.guard=none)(T W:Operand)
 (M:b.op=.call {callee:=.builtin .append,args:=#[T,W],argTypes:=#[101,101]})(base:Nat)(V:Value)(d:qi)(N:c.eval T=V)(J:mw base k V d)
 (r:Value)(H G:Nat)(U:List Int)(s:Nat)(O:c.eval W=.slice (some ⟨s,0,none⟩) 1 1)(t:k.cell? ⟨s,0,none⟩=some (.int .i64 (H:Int)))(u:k.cell? ⟨s,1,none⟩=some (.int .i64 (G:Int)))(v:k.cell? ⟨s,2,none⟩=some r)(z:cU base k r U)(L:d.length<=1000000)(h:base<=k.heap.size)
 (Y:∀m w',mw base w' m (d++[(H,G,U)])->Below base k w'->wpList Tryz.prog e f rest (c.put b.dst m) w'):wpList Tryz.prog e f (b::rest) c k:=by
 obtain⟨P,K,C,D,E⟩:=fh Tryz.KV;obtain⟨q,l,I⟩:=J;have A:q.length=d.length*3:=l.1;refine fN k x T W 101 M base 126 P (.agg #[.int .i64 0,.int .i64 0,.slice none 0 0]) 3 40 Tryz.DK K C D E rfl (by decide) V d.length q N l ⟨s,0,none⟩ 1 1 [.int .i64 (H:Int),.int .i64 (G:Int),r] O (by simp)
  (by intro F Yc a
      match F,a with
      |0,a=>simp at a;subst a;rw[cz];simpa using t
      |1,a=>simp at a;subst a;rw[cz];simpa using u
      |2,a=>simp at a;subst a;rw[cz];simpa using v)
  (by intro Yc B;simp at B;obtain⟨_,_,rfl,_⟩:=cU.ints z;rcases B with rfl|rfl|rfl<;>rfl) (by unfold maxLen;omega) (by omega) h ?_
 intro m w' o w _;have i:∀(j:Value)(p:List Int),cU base k j p->cU base w' j p:=fun j p g=>dM g w (cU.M5 g l)
 refine Y m w' ⟨q++[.int .i64 (H:Int),.int .i64 (G:Int),r],by simpa using o,fun F a=>?_⟩ ((ah base k).grown w h (fun Z X=>(bn l Z X).1));by_cases n:F<d.length
 ·obtain⟨j,Q,R,S,g⟩:=I F n
  rw[aV n,aV (by omega),aV (by omega),aV (by omega)];exact⟨j,Q,R,S,i j _ g⟩
 ·have y:F=d.length:=by simp at a;omega
  subst y;rw[aU (af _),aU (by omega),aU (by omega),aU (by omega),A];refine⟨r,by simp,by simp,by simp,?_⟩;simpa using i r U z
theorem zy(rs:bu)(t:List Int)(Zb H:Option Addr)(ZH Yq:Nat)(R:World)(Y4:cm rs=0)(YD:Tm.err t=0)(Zl:dw R.heap.size R Zb rs)(Zm:cZ R.heap.size R H t)(Zh:t.length<=Yq)(Zi:Yq<=maxLen):
 Calls Tryz.prog 92 #[.slice Zb rs.length ZH,.slice H t.length Yq] R fun Yr l=>l7 rs t R Yr l:=by
 have Z7:=cK YD;have ZV:=dU YD;obtain⟨ZM,Yy⟩:=dV Y4;have S:=hid (show dS rs t=jv rs t t.length by unfold dS;rw[aD Y4,aD YD]);have ZD:=hid Zl;have ZE:=hid Zm;have YZ:=hid Yy;have Yc:=hid YD;have ZC:(t.length:Int)<=30:=by omega
 have Z4:(rs.length:Int)<=8:=by omega
 clear Zl Zm Yy Y4 YD;go_enter Tryz.func92,Tryz.ntmps92;go_wp2;go_loopw [6,7](fun YF Y8 wr=>∃m:Nat,m<=t.length∧Y8=.int .i64 (m:Int)∧(∃y z,YF=.slice y (iN rs t m).length z)∧Hid (mw R.heap.size wr YF (iN rs t m))∧Hid (jv rs t m=0)∧Below R.heap.size R wr)(fun _ Y8 _=>t.length-(intOf Y8).toNat)
 case atStart=>exact⟨0,bf _,rfl,⟨none,0,rfl⟩,hid (mw.nil _ _),hid rfl,ah _ _⟩
 case round=>
  obtain⟨m,Z9,rfl,⟨y,z,rfl⟩,F,Y,b⟩:=hrel;by_cases u:m<t.length
  ·have ZO:(m:Int)<(t.length:Int):=by omega
   obtain⟨Y7,YW⟩:∃Y7,(iN rs t m).length=Y7:=⟨_,rfl⟩;rw[YW]at F⊢;have YQ:Hid (mw R.heap.size wr (.slice y Y7 z) (iN rs t m++jt rs t m 0)):=by rw[jt,cW];exact F
   obtain⟨ZB,YY⟩:∃ZB,ZB=wr:=⟨_,rfl⟩;rw[<-YY]at YQ b⊢;clear YY F;go_wp2;go_loopw [6,8](fun YF Y8 wr=>∃k:Nat,k<=rs.length∧Y8=.int .i64 (k:Int)∧(∃y z,YF=.slice y (iN rs t m++jt rs t m k).length z)∧Hid (mw R.heap.size wr YF (iN rs t m++jt rs t m k))∧Hid (jI rs t m k=0)∧Below R.heap.size R wr)(fun _ Y8 _=>rs.length-(intOf Y8).toNat)
   case atStart=>exact⟨0,bf _,rfl,⟨y,z,by rw[jt,cW,YW]⟩,YQ,hid rfl,b⟩
   case round=>
    obtain⟨k,Z8,rfl,⟨y,z,rfl⟩,F,G,b⟩:=hrel;by_cases Yz:k<rs.length
    ·have ZN:(k:Int)<(rs.length:Int):=by omega
     obtain⟨Yl,e,rfl,YN,Yj,K,Yk,Yp,YK,YL,Zd,Ze,Zf,Zg,ZK,ZL⟩:=(ZD.out.below b) k Yz;obtain⟨Yt,Yu,_⟩:=eo (YZ.out k Yz);have YU:Yl<wr.heap.size:=df YN b.size;have o:=hid (CO (rs:=rs) (t:=t) G.out);have C:=hid (AP (rs:=rs) (t:=t) G.out);have A:=hid (CA (rs:=rs) (t:=t) (a:=m) (n:=k));have B:=hid (Av (rs:=rs) (t:=t) (a:=m) (n:=k));have d:=hid (zq (rs:=rs) (t:=t) Y.out G.out u Yz);have YT:=AN (rs:=rs) (k:=k) Yt Yc.out u;have X:=hid (fun q YA=>Cb (rs:=rs) (k:=k) (m:=q) Yt Yu Yc.out u YA);have v:=hid (fun q YA=>sj (m:=q) Yt (fD Yc.out u) YA);have YV:=hid (show(iN rs t m++jt rs t m k).length<=1000000 by
      have Yf:=yq rs t m;have Yg:=yy rs t m k;have aa:m*rs.length<=30*8:=sK (by omega) ZM;rw[ai];omega)
     generalize(rs[k]?.getD ([],[])).1=Za at*;generalize(rs[k]?.getD ([],[])).2=YH at*;have N:=hid (fun l(Zn:Below wr.heap.size wr l)=>(show l.cell? ⟨Yl,e+k*2,none⟩=some (.slice Yj Za.length K)∧l.cell? ⟨Yl,e+k*2+1,none⟩=some (.slice Yk YH.length Yp)from
      ⟨(Zn.cell (p:=⟨Yl,e+k*2,none⟩) YU).trans YK,(Zn.cell (p:=⟨Yl,e+k*2+1,none⟩) YU).trans YL⟩))
     have Zs:=hid (fun i(g:Below wr.heap.size wr i)=>show cZ i.heap.size i H t by have YN:=b.trans (g.mono b.size);exact(ZE.out.below YN).mono YN.size);have ZS:=hid (fun i(g:Below wr.heap.size wr i)=>((Zd.mono b.size).below g).mono g.size);have ZT:=hid (fun i(g:Below wr.heap.size wr i)=>((Ze.mono b.size).below g).mono g.size);have Ye:=hid (fun i(g:Below wr.heap.size wr i)=>r7 t H Yq m i (Zs.out i g) Zh Zi Yc.out u);have hF:=hid (fun i(g:Below wr.heap.size wr i)Zc ZI(ZP:cZ i.heap.size i Zc (cD t m))Zo Zp=>Da Za (cD t m) Yj Zc K ZI i Yt (fD Yc.out u) (ZS.out i g) ZP ⟨Zf,Zg⟩ ⟨Zo,Zp⟩);have ZU:=cK Yu;have Zt:=lT Yu;have ZW:=dU Yu;clear Zd Ze Zf Zg ZK ZL Yt Yu;obtain⟨s,Q⟩:∃s,iN rs t m++jt rs t m k=s:=⟨_,rfl⟩;rw[Q]at F YV⊢;have D:=hid Q;clear Q;rw[YT]at o C A B d;clear YT;cases O:Tm.fit Za (cD t m)with
     |none=>
      rw[O]at hF o A;have ZF:=hid (o.out rfl);have Z:=hid (A.out rfl);clear o A C B d O X v;go_wp2_with fail;go_region_held3(fun l=>l.cell? ⟨Yl,e+k*2,none⟩=some (.slice Yj Za.length K)∧l.cell? ⟨Yl,e+k*2+1,none⟩=some (.slice Yk YH.length Yp))(first|assumption|exact⟨YK,YL⟩)(first
       |(go_at_call 94;refine(Ye.out _ (ie (ah _ wr))).mono ?_;clear Ye;rintro Yr x⟨Zz,rfl,L,c⟩;obtain⟨YG,Yo,rfl,YE,Yf,Yg⟩:=cU.ints L;have j:Below wr.heap.size wr x:=⟨c.os,c.tape,c.output,c.size,c.block⟩;have YR:=N.out x j)
       |(go_at_call 119;refine(hF.out x j YG Yo YE Yf Yg).mono ?_;clear hF;rintro Yr r⟨ZA,rfl,M,Ym⟩;obtain⟨YP,YJ,rfl,YO,_⟩:=M.qg;have f:Below wr.heap.size wr r:=j.trans (Ym.mono j.size);have YS:=N.out r f))
      all_goals(
       go_wp2;go_roundw
       case rel=>exact⟨k+1,by omega,by go_num,⟨y,z,by rw[Z.out,D.out]⟩,hid (by rw[Z.out,D.out];exact F.out.below f),hid ZF.out,b.trans (f.mono b.size)⟩
       case measure=>simp[intOf];omega)
     |some q=>
      obtain⟨E,Yd⟩:=X.out q O;have YB:=jx (v.out q O);have YX:=um.MH YB.2;have Z5:=mi YX YH;have Zq:=BV (v.out q O) Zt ZW;have YM:=hid (fun i(g:Below wr.heap.size wr i)Zx ZZ(ZQ:np i.heap.size i Zx (fH q 8))=>GG (fH q 8) YB.1 YX Zx ZZ YH Yk Yp ZU Zt i ZQ (ZT.out i g));have Zu:(fH q 8).length=8:=YB.1;have W:=hid (fun i(g:Below wr.heap.size wr i)Zy Z1(ZR:cZ i.heap.size i Zy (bo (fH q 8) YH))=>HJ t (bo (fH q 8) YH) H Zy Yq Z1 m i (Zs.out i g) ZR Zh Zi Yc.out (by omega) Zq u);rw[O]at hF C B d;simp only[Ah]at hF;generalize fH q 8=Z0 at*;generalize bo Z0 YH=Yh at*;have Z6:=hid (show(eI t m Yh).length<=1000 by
       unfold eI;simp only[ai,cX,cH];omega)
      by_cases U:30<(eI t m Yh).length
      ·rw[aD U]at E
       have YC:=hid (d.out rfl (by rw[E];decide));rw[E]at YC;have Y5:=hid (show dT rs t=[]by unfold dT;rw[S.out,YC.out,aE (by decide)]);have Y3:(30:Int)<((eI t m Yh).length:Int):=by omega
       clear E Yd C B d O X v o A U;generalize eI t m Yh=w at*;go_wp2_with fail;go_region_held3(fun l=>l.cell? ⟨Yl,e+k*2,none⟩=some (.slice Yj Za.length K)∧l.cell? ⟨Yl,e+k*2+1,none⟩=some (.slice Yk YH.length Yp))(first|assumption|exact⟨YK,YL⟩)(first
        |(go_at_call 94;refine(Ye.out _ (ie (ah _ wr))).mono ?_;clear Ye;rintro Yr x⟨Zz,rfl,L,c⟩;obtain⟨YG,Yo,rfl,YE,Yf,Yg⟩:=cU.ints L;have j:Below wr.heap.size wr x:=⟨c.os,c.tape,c.output,c.size,c.block⟩;have YR:=N.out x j)
        |(go_at_call 119;refine(hF.out x j YG Yo YE Yf Yg).mono ?_;clear hF;rintro Yr r⟨ZA,rfl,M,Ym⟩;obtain⟨YP,YJ,rfl,YO,_⟩:=M.qg;have f:Below wr.heap.size wr r:=j.trans (Ym.mono j.size);have YS:=N.out r f;rw[Zu]))
       all_goals(
        obtain⟨ZX,ZY⟩:=N.out r f;go_wp2_with(first
         |(go_at_call 121;refine(YM.out r f YP YJ YO).mono ?_;clear YM;rintro Yr Yi⟨Z2,rfl,Yw,Y0⟩;obtain⟨Y9,Y2,rfl,Y6,_⟩:=cU.ints Yw;have I:Below wr.heap.size wr Yi:=f.trans (Y0.mono f.size))
         |(go_at_call 120;refine(W.out Yi I Y9 Y2 Y6).mono ?_;clear W;rintro Yr h⟨Z3,rfl,V,Yn⟩;obtain⟨P,J,rfl,_⟩:=cU.ints V;have YI:Below wr.heap.size wr h:=I.trans (Yn.mono I.size)))
        go_ret2
        exact⟨.slice none 0 0,by rw[S.out,YC.out];rfl,by rw[Y5.out];exact mw.nil _ _,b.trans (YI.mono b.size)⟩)
      ·rw[aE U]at E Yd
       have ZG:=hid (C.out rfl E);have Z:=hid (B.out rfl);rw[Yd]at Z;have Y3:((eI t m Yh).length:Int)<=30:=by omega
       clear E Yd C B d O X v o A U;generalize eI t m Yh=w at*;go_wp2_with fail;go_region_held3(fun l=>l.cell? ⟨Yl,e+k*2,none⟩=some (.slice Yj Za.length K)∧l.cell? ⟨Yl,e+k*2+1,none⟩=some (.slice Yk YH.length Yp))(first|assumption|exact⟨YK,YL⟩)(first
        |(go_at_call 94;refine(Ye.out _ (ie (ah _ wr))).mono ?_;clear Ye;rintro Yr x⟨Zz,rfl,L,c⟩;obtain⟨YG,Yo,rfl,YE,Yf,Yg⟩:=cU.ints L;have j:Below wr.heap.size wr x:=⟨c.os,c.tape,c.output,c.size,c.block⟩;have YR:=N.out x j)
        |(go_at_call 119;refine(hF.out x j YG Yo YE Yf Yg).mono ?_;clear hF;rintro Yr r⟨ZA,rfl,M,Ym⟩;obtain⟨YP,YJ,rfl,YO,_⟩:=M.qg;have f:Below wr.heap.size wr r:=j.trans (Ym.mono j.size);have YS:=N.out r f;rw[Zu]))
       all_goals(
        obtain⟨ZX,ZY⟩:=N.out r f;go_wp2_with(first
         |(go_at_call 121;refine(YM.out r f YP YJ YO).mono ?_;clear YM;rintro Yr Yi⟨Z2,rfl,Yw,Y0⟩;obtain⟨Y9,Y2,rfl,Y6,_⟩:=cU.ints Yw;have I:Below wr.heap.size wr Yi:=f.trans (Y0.mono f.size))
         |(go_at_call 120;refine(W.out Yi I Y9 Y2 Y6).mono ?_;clear W;rintro Yr h⟨Z3,rfl,V,Yn⟩;obtain⟨P,J,rfl,_⟩:=cU.ints V;have YI:Below wr.heap.size wr h:=I.trans (Yn.mono I.size);have Zr:=(show R.heap.size<=Yi.heap.size from aK b.size I.size);have Zk:=F.out.below YI;have Yv:Below h.heap.size h (h.alloc (.cells #[.int .i64 (k:Int),.int .i64 (m:Int),.slice P w.length J] 126)):=(ah _ h).alloc (af _) _;have T:=aM h (.cells #[.int .i64 (k:Int),.int .i64 (m:Int),.slice P w.length J] 126);have ZJ:(h.alloc (.cells #[.int .i64 (k:Int),.int .i64 (m:Int),.slice P w.length J] 126)).cell? ⟨h.heap.size,0,none⟩=some (.int .i64 (k:Int)):=(by rw[dp T];rfl);have E:(h.alloc (.cells #[.int .i64 (k:Int),.int .i64 (m:Int),.slice P w.length J] 126)).cell? ⟨h.heap.size,1,none⟩=some (.int .i64 (m:Int)):=(by rw[dp T];rfl);have Yd:(h.alloc (.cells #[.int .i64 (k:Int),.int .i64 (m:Int),.slice P w.length J] 126)).cell? ⟨h.heap.size,2,none⟩=some (.slice P w.length J):=(by rw[dp T];rfl);clear T)
         |(at_builtin;go_loud(refine Cp _ rfl _ _ rfl R.heap.size _ s rfl (Zk.below Yv) (.slice P w.length J) k m w h.heap.size rfl ZJ E Yd (cU.below (V.mono Zr) Yv) YV.out (by have:=Yn.size;simp;omega) ?_);intro ab ad Yx Zj;obtain⟨Zv,Zw,rfl⟩:=Yx.slice))
        go_roundw
        case rel=>exact⟨k+1,by omega,by go_num,⟨Zv,Zw,by rw[Z.out,<-dE,D.out,show(s++[(k,m,w)]).length=s.length+1 from by simp]⟩,hid (by rw[Z.out,<-dE,D.out];rw[show(s++[(k,m,w)]).length=s.length+1 from by simp]at Yx;exact Yx),hid ZG.out,((b.trans (YI.mono b.size)).trans (Yv.mono (by have:=Yn.size;omega))).trans Zj⟩
        case measure=>simp[intOf];omega)
    ·obtain rfl:k=rs.length:=by omega
     go_wp2;go_roundw
     case rel=>exact⟨m+1,by omega,by go_num,⟨y,z,rfl⟩,F,hid (zK Y.out G.out),b⟩
     case measure=>simp[intOf];omega
  ·obtain rfl:m=t.length:=by omega
   have Y5:=hid (show dT rs t=iN rs t t.length by unfold dT;rw[S.out,aD Y.out]);go_wp2;go_ret2
   exact⟨.slice y (iN rs t t.length).length z,by rw[S.out,Y.out];rfl,by rw[Y5.out];exact F.out,b⟩
theorem IM(a:bu)(g:List Int)(q i:Option Addr)(u j:Nat)(n:World)(l:dw n.heap.size n q a)(m:cZ n.heap.size n i g)(r:g.length<=j)(s:j<=maxLen):
 Calls Tryz.prog 62 #[.slice q a.length u,.slice i g.length j] n fun v A=>l7 a g n v A:=by
 have o:=pS a q u n l;have p:=hid (fun x(e:Below n.heap.size n x)=>qB g i j x ((m.below e).mono e.size));by_cases c:cm a=0
 ·rw[c]at o
  by_cases f:Tm.err g=0
  ·rw[f]at p
   have w:=hid (fun x(e:Below n.heap.size n x)=>zy a g q i u j x c f ((l.below e).mono e.size) ((m.below e).mono e.size) r s);unfold l7 at w⊢;clear c f l m r s;generalize dS a g=B at*;go_enter Tryz.func62,Tryz.ntmps62;go_wp2_with fail;refine o.mono ?_;rintro v h⟨rfl,b⟩;go_wp2_with fail;refine(p.out h b).mono ?_;rintro v h⟨rfl,rfl⟩;go_wp2_with fail;refine(w.out h b).mono ?_;rintro v F⟨C,rfl,t,z⟩;obtain⟨D,E,rfl⟩:=t.slice;go_wp2;go_ret2
   exact⟨_,rfl,t.mono b.size,b.trans (z.mono b.size)⟩
  ·have d:dS a g=Tm.err g:=by unfold dS;rw[aD c,aE f]
   have k:dT a g=[]:=by unfold dT;rw[d,aE f]
   have y:(Tm.err g !=0)=true:=by simpa using f
   unfold l7;rw[d,k];clear d k c f l m r s;generalize Tm.err g=B at*;go_enter Tryz.func62,Tryz.ntmps62;go_wp2_with fail;refine o.mono ?_;rintro v h⟨rfl,b⟩;go_wp2_with fail;refine(p.out h b).mono ?_;rintro v h⟨rfl,rfl⟩;go_wp2;go_ret2
   exact⟨_,rfl,mw.nil _ _,b⟩
 ·have d:dS a g=cm a:=by unfold dS;rw[aE c]
  have k:dT a g=[]:=by unfold dT;rw[d,aE c]
  have y:(cm a !=0)=true:=by simpa using c
  unfold l7;rw[d,k];clear d k c l m r s p;generalize cm a=B at*;go_enter Tryz.func62,Tryz.ntmps62;go_wp2_with fail;refine o.mono ?_;rintro v h⟨rfl,b⟩;go_wp2;go_ret2
  exact⟨_,rfl,mw.nil _ _,b⟩
end
