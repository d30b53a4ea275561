/-
  Parts of the proof.
-/
import Derived.Test.YtglohanbpjaieaaGreatDoorBdp8
namespace Go.Proofs.YtglohanbpjaieaaGreatDoor
open Go.Proofs Go.RowKit Go.Shelf Go.Maps
variable {a c:World}{b d f k:Nat}{e:List Int}{g:Value}{h:Option Addr}
section
attribute [local go_sem ↓] Go.wp_at_zero Go.wp_at_succ
def Pp(rk za zb:List Int)(w:World)(v:Value)(wr:World):Prop:=
 (∃i:Nat,i<za.length∧v=.int .i64 (i:Int)∧zL wr w.heap.size (MA rk za zb (i+1))∧Below w.heap.size w wr)∨(v=.int .i64 (-1)∧zL wr w.heap.size (MA rk za zb 0)∧Below w.heap.size w wr)
def BS(rk za zb:List Int)(w:World)(i:Nat)(v:Value)(wr:World):Prop:=
 (∃j:Nat,j<zb.length∧v=.int .i64 (j:Int)∧zL wr w.heap.size (AE rk za zb i (j+1))∧Below w.heap.size w wr)∨(v=.int .i64 (-1)∧zL wr w.heap.size (AE rk za zb i 0)∧Below w.heap.size w wr)
theorem Pp.next{rk a e:List Int}{f wr:World}{b:Nat}(i:b<a.length)(d:zL wr f.heap.size (MA rk a e b))(c:Below f.heap.size f wr){h:Int}(g:h=(b:Int)-1):Pp rk a e f (.int .i64 h) wr:=by
 subst g;cases b with
 |zero=>exact .inr ⟨rfl,d,c⟩
 |succ b=>exact .inl ⟨b,by omega,by congr 1;omega,d,c⟩
theorem BS.next{rk e a:List Int}{f wr:World}{h b:Nat}(j:b<a.length)(d:zL wr f.heap.size (AE rk e a h b))(c:Below f.heap.size f wr){i:Int}(g:i=(b:Int)-1):BS rk e a f h (.int .i64 i) wr:=by
 subst g;cases b with
 |zero=>exact .inr ⟨rfl,d,c⟩
 |succ b=>exact .inl ⟨b,by omega,by congr 1;omega,d,c⟩
theorem cU.Qw{base:Nat}(n:cU base a g e)(i:eZ a.heap.size b a c)(o:b<base):cU base c g e:=by
 refine⟨n.1,?_⟩;rcases n.2 with k|⟨m,d,f,l,j,h,p⟩
 ·exact .inl k
 ·exact .inr ⟨m,d,f,l,j,(i.block m (Array.getElem?_eq_some_iff.1 h).1 (by omega)).trans h,p⟩
theorem Mf(e:eZ d b c a)(i:Value):eZ d b c (a.setCell ⟨b,f,none⟩ i):=
 ⟨e.os,e.tape,e.output,Nat.le_trans e.size (KeepsWalks.setCell a _ i).size,fun j h g=>(Below.heap_setCell a ⟨b,f,none⟩ i j g).trans (e.block j h g)⟩
theorem D7(e:eZ d b c a)(i:Value):eZ d b c ((a.setCell ⟨b,f,none⟩ i).drew):=
 ⟨e.os,e.tape,e.output,Nat.le_trans e.size (KeepsWalks.setCell a _ i).size,fun j h g=>(Below.heap_setCell a ⟨b,f,none⟩ i j g).trans (e.block j h g)⟩
theorem vn{o:Nat}(d:Below b c a)(g:Bool):Below b c (a.setCell ⟨b,o,none⟩ (.bool g)):=
 ⟨d.os,d.tape,d.output,Nat.le_trans d.size (KeepsWalks.setCell a _ _).size,fun f e=>(Below.heap_setCell a ⟨b,o,none⟩ _ f (by show f≠b;omega)).trans (d.block f e)⟩
theorem Qe{base:Nat}(j:cU base a (.slice (some ⟨b,d,none⟩) f k) e):base<=b:=by
 rcases j.2 with⟨g,_⟩|⟨l,c,i,g,h,_⟩
 ·cases g
 ·cases g;exact h
theorem IJ{base:Nat}(m:cU base a (.slice h e.length d) e)(i:eZ a.heap.size b a c)(j:b<base):cZ c.heap.size c h e:=by
 obtain⟨k,f,l,g,_⟩:=cU.ints (m.Qw i j);cases l;exact g
set_option linter.unusedSimpArgs false in
set_option maxRecDepth 100000 in
set_option maxHeartbeats 60000000 in
theorem rI(rk za zb:List Int)(Z2 Z0 Z1:Option Addr)(aF S T:Nat)(c:World)(ZJ:cZ c.heap.size c Z2 rk)(Yg:cZ c.heap.size c Z0 za)(ZI:cZ c.heap.size c Z1 zb)(YW:za.length<=S)(Yv:S<=maxLen)(YX:zb.length<=T)(Yw:T<=maxLen)
 (YI:Tm.err za=0)(YJ:Tm.err zb=0)(ak:rk.length=6):
 Calls Tryz.prog 65 #[.slice Z2 rk.length aF,.slice Z0 za.length S,.slice Z1 zb.length T] c fun Yc h=>Yc=.returned (.bool (iu rk za zb 0 0))∧Below c.heap.size c h:=by
 have bs:=cK YI;have bt:=cK YJ;have al:=dU YI;have an:=dU YJ;obtain⟨aB,aJ,rfl,ae,_⟩:=ZJ.at (by omega);obtain⟨Yq,Yt,rfl,ab,_⟩:=Yg.at al;obtain⟨Yr,Yu,rfl,ad,_⟩:=ZI.at an;have ax:=hid (fun d(a:Below c.heap.size c d)=>(ZJ.below a).mono a.size);have Za:=hid (fun d(a:Below c.heap.size c d)=>(Yg.below a).mono a.size);have Zb:=hid (fun d(a:Below c.heap.size c d)=>(ZI.below a).mono a.size);have az:=hid (fun d(a:Below c.heap.size c d)i(A:i<za.length)=>AT za (some ⟨Yq,Yt,none⟩) S i d (Za.out d a) YW Yv YI A);have aA:=hid (fun d(a:Below c.heap.size c d)j(l:j<zb.length)=>AT zb (some ⟨Yr,Yu,none⟩) T j d (Zb.out d a) YX Yw YJ l);have ZV:=hid (fun d(a:Below c.heap.size c d)i(A:i<za.length)=>r7 za (some ⟨Yq,Yt,none⟩) S i d (Za.out d a) YW Yv YI A);have ZW:=hid (fun d(a:Below c.heap.size c d)j(l:j<zb.length)=>r7 zb (some ⟨Yr,Yu,none⟩) T j d (Zb.out d a) YX Yw YJ l);have YK:=hid YI;have ZE:=hid YJ;have ZF:=hid ak;have Zt:=zL.new c rk za zb;have Zr:Below c.heap.size c (c.alloc (.cells Tryz.zeroCells128 128)):=(Below.refl _ c).alloc (Nat.le_refl _) _;have bb:(za.length:Int)<=30:=by omega
 have bc:(zb.length:Int)<=30:=by omega
 clear ZJ Yg ZI YW YX Yv Yw YI YJ ak ae ab ad;go_enter Tryz.func65,Tryz.ntmps65;go_wp2_with fail;go_loopw [8](fun W wr=>Pp rk za zb c W wr)(fun W _=>((intOf W)+1).toNat)
 case atStart=>exact .inl ⟨za.length-1,by omega,by congr 1;omega,by rw[show za.length-1+1=za.length from by omega];exact Zt,Zr⟩
 case round=>
  clear Zt Zr;rcases hrel with⟨i,A,rfl,b,u⟩|⟨rfl,b,u⟩
  ·have aM:(i:Int)<30:=by omega
   rw[Ly]at b;go_wp2_with fail;go_loopw [9](fun W wr=>BS rk za zb c i W wr)(fun W _=>((intOf W)+1).toNat)
   case atStart=>exact .inl ⟨zb.length-1,by omega,by congr 1;omega,by rw[show zb.length-1+1=zb.length from by omega];exact b,u⟩
   case round=>
    clear b u;rcases hrel with⟨j,l,rfl,b,u⟩|⟨rfl,b,u⟩
    ·have aN:(j:Int)<30:=by omega
     rw[Me]at b;have Zu:=b.1;obtain⟨N,Zh⟩:∃N,nW za i (Tm.room (za[i]?.getD 0))=N:=⟨_,rfl⟩;obtain⟨Yd,Zi⟩:∃Yd,nW zb j (Tm.room (zb[j]?.getD 0))=Yd:=⟨_,rfl⟩;have Zl:N.length=Tm.room (za[i]?.getD 0):=by rw[<-Zh];exact wT _ _ _
     have ZK:Yd.length=Tm.room (zb[j]?.getD 0):=by rw[<-Zi];exact wT _ _ _
     have ZY:∀f,f<N.length->N[f]?.getD 0=(Tm.pos za i f:Int):=fun f Zk=>by rw[<-Zh];exact CZ _ _ (by omega)
     have ZZ:∀f,f<Yd.length->Yd[f]?.getD 0=(Tm.pos zb j f:Int):=fun f Zk=>by rw[<-Zi];exact CZ _ _ (by omega)
     have YM:=hid (az.out wr u i A);have YN:=hid (fun d a=>aA.out d a j l);rw[Zh]at YM;rw[Zi]at YN;have bu:N.length<=2:=by rw[Zl];exact Tm.room_le _
     have bw:Yd.length<=2:=by rw[ZK];exact Tm.room_le _
     have C:=hid (Gb (rk:=rk) YK.out ZE.out A l);rw[<-Zl]at C;have Zp:=hid (fun f(Zk:f<N.length)=>z6 YK.out A (m:=f) (by omega));have Zq:=hid (fun f(Zk:f<Yd.length)=>z6 ZE.out l (m:=f) (by omega));have ZN:=hid ZY;have ZO:=hid ZZ;have Zn:=hid Zl;have Zo:=hid ZK;clear Zh Zi Zl ZK ZY ZZ;go_wp2_with(first
      |(go_at_call_of 93(Value.slice (some ⟨Yq,Yt,none⟩) za.length S);refine YM.out.mono ?_;rintro Yc aV⟨bx,rfl,YU,Zd⟩;have Y9:=u.trans (Zd.mono u.size);obtain⟨bA,bj,rfl,_⟩:=cU.ints YU)
      |(go_at_call_of 93(Value.slice (some ⟨Yr,Yu,none⟩) zb.length T);refine(YN.out aV Y9).mono ?_;rintro Yc L⟨bz,rfl,YV,Ze⟩;have YE:=Y9.trans (Ze.mono Y9.size);obtain⟨bB,bk,rfl,_⟩:=cU.ints YV))
     have ZX:=(b.below Zd).below Ze;have ZU:=hid (cU.below YU Ze);have ay:=hid (YV.mono Zd.size);have ZQ:=hid (fun d(k:eZ L.heap.size c.heap.size L d)=>IJ ZU.out k Zu);have ZR:=hid (fun d(k:eZ L.heap.size c.heap.size L d)=>IJ ay.out k Zu);clear b YU YV Zd Ze Y9 YM YN;go_loopw [12](fun W d=>∃f:Nat,f<=N.length∧W=.int .i64 (f:Int)∧zL d c.heap.size (Fz (AE rk za zb i (j+1)) i j (oD rk za zb i j f))∧eZ L.heap.size c.heap.size L d)(fun W _=>N.length-(intOf W).toNat)
     case atStart=>exact⟨0,Nat.zero_le _,rfl,ZX,eZ.refl _ _ _⟩
     case round=>
      obtain⟨f,Zk,rfl,b,k⟩:=hrel;clear ZX;have e:Below c.heap.size c wr:=YE.trans ((k.mono YE.size).below (Nat.le_refl _));by_cases Yy:f<N.length
      ·have ar:(f:Int)<(N.length:Int):=by omega
       have U:=Zp.out f Yy;have Yl:=Tm.om za i f;obtain⟨P,Yo,rfl,_,Yf⟩:=ZQ.out wr k f Yy;rw[ZN.out f Yy]at Yf;have r:=b.on (by omega) (by omega);have YA:=(b.2 i j (by omega) (by omega)).2;have YQ:=b.off (p:=Tm.pos za i f) (q:=j) U l (.inl Yl) (by omega) (by omega);have y:=hid (CL rk za zb i j f);have Y2:(Tm.pos za i f:Int)<30:=by omega
       have O:=hid b;have t:=hid (fun d(a:Below wr.heap.size wr d)q=>((b.below a).set (i:=i) (j:=j) (by omega) (by omega) q).eq (K9 _ i j _ q));have J:=hid k;have aj:c.heap.size≠P:=by have:=Qe ZU.out;omega
       clear b k;cases V:oD rk za zb i j f with
       |true=>
        rw[V]at r y;clear V;go_wp2_with fail;have aC:=World.cell?_setCell_same wr ⟨c.heap.size,i*30+j,none⟩ (.bool true) r;go_big_region
        all_goals(
         go_wp2;go_roundw
         case rel=>exact⟨f+1,by omega,by go_num,by rw[y.out];exact t.out wr (Below.refl _ _) true,D7 J.out _⟩
         case measure=>simp[intOf];omega)
       |false=>
        rw[V]at r y;clear V;cases Yg:iu rk za zb (Tm.pos za i f) j with
        |true=>
         rw[Yg]at YQ y;have Y6:Hid (oD rk za zb i j (f+1)=true):=by show _=_;rw[y.out];simp
         clear Yg y;go_wp2_with fail;go_big_region
         all_goals(
          go_wp2;go_roundw
          case rel=>exact⟨f+1,by omega,by go_num,by rw[Y6.out];exact t.out wr (Below.refl _ _) true,D7 J.out _⟩
          case measure=>simp[intOf];omega)
        |false=>
         rw[Yg]at YQ y;have Y6:Hid (oD rk za zb i j (f+1)=ph za zb (Tm.pos za i f) j):=by show _=_;rw[y.out];simp
         clear Yg y;have s:=hid (fun h(a:Below wr.heap.size wr h)=>(show h.cell? ⟨P,Yo+f,none⟩=some (.int .i64 (Tm.pos za i f:Int))∧h.cell? ⟨c.heap.size,Tm.pos za i f*30+j,none⟩=some (.bool false)from
          ⟨(a.cell (p:=⟨P,Yo+f,none⟩) (fx Yf)).trans Yf,(a.cell (p:=⟨c.heap.size,Tm.pos za i f*30+j,none⟩) O.out.1).trans YQ⟩))
         have a1:=hid (fun h(a:Below wr.heap.size wr h)q=>(show(h.setCell ⟨c.heap.size,i*30+j,none⟩ (.bool q)).cell? ⟨P,Yo+f,none⟩=some (.int .i64 (Tm.pos za i f:Int))∧(h.setCell ⟨c.heap.size,i*30+j,none⟩ (.bool q)).cell? ⟨c.heap.size,Tm.pos za i f*30+j,none⟩=some (.bool false)from
          ⟨(World.cell?_setCell_far _ _ _ _ aj).trans (s.out h a).1,(World.cell?_setCell_other _ _ _ _ (fun aG=>by
            simp only[Addr.mk.injEq,and_true,true_and]at aG;omega)).trans (s.out h a).2⟩))
         have Z7:=hid (fun h(a:Below wr.heap.size wr h)=>(⟨(a.cell (p:=⟨c.heap.size,i*30+j,none⟩) O.out.1).trans r,(a.frozen (p:=⟨c.heap.size,i*30+j,none⟩) O.out.1).trans YA⟩:h.cell? ⟨c.heap.size,i*30+j,none⟩=some (.bool false)∧h.frozen? ⟨c.heap.size,i*30+j,none⟩=false));have G:=hid (fun d a=>ZV.out d a (Tm.pos za i f) U);have H:=hid (fun d a=>ZW.out d a j l);have Y8:=cK (fD YK.out U);have x:=hid (fun d Y Q Z R YH YT=>wx (cD za (Tm.pos za i f)) (cD zb j) Y Z Q R d YH YT (by unfold maxLen;omega));have Ym:Hid (lJ (cD za (Tm.pos za i f)) (cD zb j)=ph za zb (Tm.pos za i f) j):=rfl;rw[Ym.out]at x;clear Y8;generalize ph za zb (Tm.pos za i f) j=aU at*;generalize cD za (Tm.pos za i f)=bd at*;generalize cD zb j=bg at*;go_wp2_with fail;go_region_with(first
          |(go_at_call_of 94(Value.slice (some ⟨Yq,Yt,none⟩) za.length S);refine(G.out _ ?_).mono ?_;exact ie e;clear G;rintro Yc X⟨ao,rfl,Yj,n⟩;obtain⟨Y,Q,rfl,Yh,_⟩:=cU.ints Yj;have z:Below wr.heap.size wr X:=⟨n.os,n.tape,n.output,n.size,n.block⟩;have YR:=e.trans (z.mono e.size))
          |(go_at_call_of 94(Value.slice (some ⟨Yr,Yu,none⟩) zb.length T);refine(H.out _ ?_).mono ?_;exact YR;clear H;rintro Yc M⟨aq,rfl,Yk,F⟩;obtain⟨Z,R,rfl,Yi,_⟩:=cU.ints Yk;have K:Below wr.heap.size wr M:=z.trans (F.mono z.size);have D:=hid (x.out M Y Q Z R ((Yh.below F).mono F.size) Yi))
          |(go_at_call 64;refine D.out.mono ?_;clear D;rintro Yc B⟨rfl,YP⟩;have E:Below wr.heap.size wr B:=K.trans (YP.mono K.size);obtain⟨bl,bo⟩:=Z7.out B E))
         all_goals(
          go_wp2;go_roundw
          case rel=>exact⟨f+1,by omega,by go_num,by rw[Y6.out];exact t.out B E aU,Mf (J.out.trans (eZ.kd (E.mono J.out.size))) _⟩
          case measure=>simp[intOf];omega)
      ·obtain rfl:f=N.length:=by omega
       have r:=b.on (by omega) (by omega);obtain⟨_,_,aH,_,ZG⟩:=Za.out wr e i A;cases aH;obtain⟨_,_,aI,_,ZH⟩:=Zb.out wr e j l;cases aI;have a8:(i:Int)<(za.length:Int):=by omega
       have ba:(j:Int)<(zb.length:Int):=by omega
       have Zy:=hid (fun(aK:za[i]?.getD 0<0)=>show rA rk za zb i j=false by unfold rA;rw[decide_eq_false (by omega)];rfl);have Zz:=hid (fun(aK:zb[j]?.getD 0<0)=>show rA rk za zb i j=false by unfold rA;rw[decide_eq_false (p:=0<=zb[j]?.getD 0) (by omega)];simp);have Y3:=hid (fun YG YS=>Nz (rk:=rk) (i:=i) (j:=j) (za:=za) (zb:=zb) YG YS);have bq:=iC (lM (fw YK.out) A);have br:=iC (lM (fw ZE.out) l);have w:=hid (fun q(Ym:q=iu rk za zb i j)=>show Fz (AE rk za zb i (j+1)) i j q=AE rk za zb i j by rw[Ym];exact Nw A l);rw[<-Zn.out,<-Zo.out]at Y3;have av:=hid (fun d(a:Below c.heap.size c d)=>show d.cell? ⟨Yq,Yt+i,none⟩=some (.int .i64 (za[i]?.getD 0))by
        obtain⟨_,_,Yc,_,Z3⟩:=Za.out d a i A;cases Yc;exact Z3)
       have aw:=hid (fun d(a:Below c.heap.size c d)=>show d.cell? ⟨Yr,Yu+j,none⟩=some (.int .i64 (zb[j]?.getD 0))by
        obtain⟨_,_,Yc,_,Z3⟩:=Zb.out d a j l;cases Yc;exact Z3)
       have ZP:=hid (fun d(a:Below c.heap.size c d)g(ai:g<6)=>show d.cell? ⟨aB,aJ+g,none⟩=some (.int .i64 (rk[g]?.getD 0))by
        obtain⟨_,_,Yc,_,Z3⟩:=ax.out d a g (by rw[ZF.out];exact ai);cases Yc;exact Z3)
       generalize za[i]?.getD 0=Zm at*;generalize zb[j]?.getD 0=ZM at*;by_cases YG:Zm<0
       ·have Yz:=hid (Zy.out YG)
        go_wp2;go_roundw
        case rel=>exact BS.next l (b.eq (w.out _ (by rw[C.out,Yz.out,Bool.or_false]))) e (by go_num)
        case measure=>simp[intOf]
       by_cases YS:ZM<0
       ·have Yz:=hid (Zz.out YS)
        have Z6:decide (Zm<0)=false:=by simpa using YG
        go_wp2;go_roundw
        case rel=>exact BS.next l (b.eq (w.out _ (by rw[C.out,Yz.out,Bool.or_false]))) e (by go_num)
        case measure=>simp[intOf]
       have Z6:decide (Zm<0)=false:=by simpa using YG
       have aZ:decide (ZM<0)=false:=by simpa using YS
       obtain⟨Zf,rfl⟩:=Int.eq_ofNat_of_zero_le (show 0<=Zm by omega);obtain⟨Zg,rfl⟩:=Int.eq_ofNat_of_zero_le (show 0<=ZM by omega);have YD:=hid (Y3.out (by omega) (by omega));clear Zy Zz Y3 YG YS;cases V:oD rk za zb i j N.length with
       |true=>
        rw[V]at r C b;have Yz:=hid (show iu rk za zb i j=true by rw[C.out];rfl);clear V;go_wp2;go_roundw
        case rel=>exact BS.next l (b.eq (w.out _ Yz.out.symm)) e (by go_num)
        case measure=>simp[intOf]
       |false=>
        rw[V]at r C b;have Zc:=hid (show iu rk za zb i j=rA rk za zb i j by rw[C.out];rfl);clear V C;go_wp2_with fail;go_loopw [13,14](fun q W d=>∃m:Nat,m<=Yd.length∧W=.int .i64 (m:Int)∧q=.bool (qW rk za zb i j m)∧zL d c.heap.size (Fz (AE rk za zb i (j+1)) i j false)∧eZ L.heap.size c.heap.size L d)(fun _ W _=>Yd.length-(intOf W).toNat)
        case atStart=>exact⟨0,Nat.zero_le _,rfl,rfl,b,k⟩
        case round=>
         clear b k r ZG ZH e;obtain⟨m,bp,rfl,rfl,b,k⟩:=hrel;have e:Below c.heap.size c wr:=YE.trans ((k.mono YE.size).below (Nat.le_refl _));by_cases YZ:m<Yd.length
         ·have aO:(m:Int)<(Yd.length:Int):=by omega
          have U:=Zq.out m YZ;have Yl:=Tm.om zb j m;obtain⟨Ye,Y7,rfl,_,YF⟩:=ZR.out wr k m YZ;rw[ZO.out m YZ]at YF;have aW:=b.off (p:=i) (q:=Tm.pos zb j m) A U (.inr ⟨rfl,Yl⟩) (by omega) (by omega);have YC:=hid (Cx rk za zb i j m);have Y2:(Tm.pos zb j m:Int)<30:=by omega
          have O:=hid b;have J:=hid k;clear b k;cases Zj:qW rk za zb i j m with
          |false=>
           rw[Zj]at YC;clear Zj;go_wp2_with fail;go_quiet(fail)
           go_wp2;go_roundw
           case rel=>exact⟨m+1,by omega,by go_num,by rw[YC.out];rfl,O.out.drew _,iE J.out _⟩
           case measure=>simp[intOf];omega
          |true=>
           rw[Zj]at YC;clear Zj;generalize iu rk za zb i (Tm.pos zb j m)=bh at*;go_wp2_with fail;go_quiet(fail)
           go_wp2;go_roundw
           case rel=>exact⟨m+1,by omega,by go_num,by rw[YC.out];rfl,O.out.drew _,iE J.out _⟩
           case measure=>simp[intOf];omega
         ·obtain rfl:m=Yd.length:=by omega
          have ZG:=av.out wr e;have ZH:=aw.out wr e;have r:=b.on (by omega) (by omega);have YA:=(b.2 i j (by omega) (by omega)).2;have t:=hid (fun d(b:zL d c.heap.size (Fz (AE rk za zb i (j+1)) i j false))q(Ym:q=iu rk za zb i j)=>(b.set (i:=i) (j:=j) (by omega) (by omega) q).eq ((K9 _ i j _ q).trans (w.out q Ym)));by_cases I:(Zf:Int)=(Zg:Int)
          ·have Yx:((Zf:Int)!=(Zg:Int))=false:=by rw[I];simp
           have ZA:N.length=Yd.length:=by
            have YH:=Zn.out;have YT:=Zo.out;rw[I]at YH;rw[YH,YT]
           have v:=YD.out;rw[if_pos I]at v;have Yp:=hid (Zc.out.trans v);have ZT:=hid ZA;clear v I YD Zc ZA;generalize qW rk za zb i j Yd.length=ZL at*;go_wp2_with fail;go_quiet(fail)
           go_wp2_with fail;try simp only[Yx]
           clear Yx;go_loopw [15](fun W d=>∃g:Nat,g<=N.length∧W=.int .i64 (g:Int)∧Hid (qy za zb i j g=true)∧zL d c.heap.size (Fz (AE rk za zb i (j+1)) i j false)∧eZ L.heap.size c.heap.size L d)(fun W _=>N.length-(intOf W).toNat)
           case atStart=>exact⟨0,Nat.zero_le _,rfl,hid rfl,b.drew _,iE k _⟩
           case round=>
            clear b k r ZG ZH e YA;obtain⟨g,ai,rfl,Y4,b,k⟩:=hrel;have e:Below c.heap.size c wr:=YE.trans ((k.mono YE.size).below (Nat.le_refl _));by_cases YB:g<N.length
            ·have aP:(g:Int)<(N.length:Int):=by omega
             have Y0:g<Yd.length:=by have:=ZT.out;omega
             have aQ:(g:Int)<(Yd.length:Int):=by omega
             have U:=Zp.out g YB;have Yl:=Tm.om za i g;have Zv:=Zq.out g Y0;obtain⟨P,Yo,rfl,_,Yf⟩:=ZQ.out wr k g YB;rw[ZN.out g YB]at Yf;obtain⟨Ye,Y7,rfl,_,YF⟩:=ZR.out wr k g Y0;rw[ZO.out g Y0]at YF;have O:=hid b;have J:=hid k;have s:=hid (fun h(a:Below wr.heap.size wr h)=>(show h.cell? ⟨P,Yo+g,none⟩=some (.int .i64 (Tm.pos za i g:Int))∧h.cell? ⟨Ye,Y7+g,none⟩=some (.int .i64 (Tm.pos zb j g:Int))from
              ⟨(a.cell (p:=⟨P,Yo+g,none⟩) (fx Yf)).trans Yf,(a.cell (p:=⟨Ye,Y7+g,none⟩) (fx YF)).trans YF⟩))
             have G:=hid (fun d a=>ZV.out d a (Tm.pos za i g) U);have H:=hid (fun d a=>ZW.out d a (Tm.pos zb j g) Zv);have Y8:=cK (fD YK.out U);have x:=hid (fun d Y Q Z R YH YT=>wx (cD za (Tm.pos za i g)) (cD zb (Tm.pos zb j g)) Y Z Q R d YH YT (by unfold maxLen;omega));have Ym:Hid (lJ (cD za (Tm.pos za i g)) (cD zb (Tm.pos zb j g))=ph za zb (Tm.pos za i g) (Tm.pos zb j g)):=rfl;rw[Ym.out]at x;have Y5:=hid (sV za zb i j g);have YY:=hid (fun aK=>Iw (rk:=rk) YB Y4.out aK);have Y2:(Tm.pos za i g:Int)<30:=by omega
             have aR:(Tm.pos zb j g:Int)<30:=by omega
             clear Y8 Ym b k;cases Yn:ph za zb (Tm.pos za i g) (Tm.pos zb j g)with
             |true=>
              rw[Yn]at x Y5;clear Yn YY;go_wp2_with fail;have Zs:=s.out wr (Below.refl _ _);go_region_held3(fun h=>h.cell? ⟨P,Yo+g,none⟩=some (.int .i64 (Tm.pos za i g:Int))∧h.cell? ⟨Ye,Y7+g,none⟩=some (.int .i64 (Tm.pos zb j g:Int)))(first|assumption|exact s.out wr (Below.refl _ _)|exact s.out _ (ie (Below.refl _ wr)))(first
               |(go_at_call_of 94(Value.slice (some ⟨Yq,Yt,none⟩) za.length S);refine(G.out _ (ie e)).mono ?_;clear G;rintro Yc X⟨ao,rfl,Yj,n⟩;obtain⟨Y,Q,rfl,Yh,_⟩:=cU.ints Yj;have z:Below wr.heap.size wr X:=⟨n.os,n.tape,n.output,n.size,n.block⟩;have Z8:=s.out X z;have YR:=e.trans (z.mono e.size))
               |(go_at_call_of 94(Value.slice (some ⟨Yr,Yu,none⟩) zb.length T);refine(H.out X YR).mono ?_;clear H;rintro Yc M⟨aq,rfl,Yk,F⟩;obtain⟨Z,R,rfl,Yi,_⟩:=cU.ints Yk;have K:Below wr.heap.size wr M:=z.trans (F.mono z.size);have Z9:=s.out M K;have D:=hid (x.out M Y Q Z R ((Yh.below F).mono F.size) Yi))
               |(go_at_call 64;refine D.out.mono ?_;clear D;rintro Yc B⟨rfl,YP⟩;have E:Below wr.heap.size wr B:=K.trans (YP.mono K.size);have aa:=s.out B E))
              all_goals(
               go_wp2;go_roundw
               case rel=>exact⟨g+1,by omega,by go_num,hid (by rw[Y5.out,Y4.out];rfl),O.out.below E,J.out.trans (eZ.kd (E.mono J.out.size))⟩
               case measure=>simp[intOf];omega)
             |false=>
              have ZS:=hid (YY.out Yn);rw[Yn]at x;clear Yn YY Y5;go_wp2_with fail;have Zs:=s.out wr (Below.refl _ _);go_region_held3(fun h=>h.cell? ⟨P,Yo+g,none⟩=some (.int .i64 (Tm.pos za i g:Int))∧h.cell? ⟨Ye,Y7+g,none⟩=some (.int .i64 (Tm.pos zb j g:Int)))(first|assumption|exact s.out wr (Below.refl _ _)|exact s.out _ (ie (Below.refl _ wr)))(first
               |(go_at_call_of 94(Value.slice (some ⟨Yq,Yt,none⟩) za.length S);refine(G.out _ (ie e)).mono ?_;clear G;rintro Yc X⟨ao,rfl,Yj,n⟩;obtain⟨Y,Q,rfl,Yh,_⟩:=cU.ints Yj;have z:Below wr.heap.size wr X:=⟨n.os,n.tape,n.output,n.size,n.block⟩;have Z8:=s.out X z;have YR:=e.trans (z.mono e.size))
               |(go_at_call_of 94(Value.slice (some ⟨Yr,Yu,none⟩) zb.length T);refine(H.out X YR).mono ?_;clear H;rintro Yc M⟨aq,rfl,Yk,F⟩;obtain⟨Z,R,rfl,Yi,_⟩:=cU.ints Yk;have K:Below wr.heap.size wr M:=z.trans (F.mono z.size);have Z9:=s.out M K;have D:=hid (x.out M Y Q Z R ((Yh.below F).mono F.size) Yi))
               |(go_at_call 64;refine D.out.mono ?_;clear D;rintro Yc B⟨rfl,YP⟩;have E:Below wr.heap.size wr B:=K.trans (YP.mono K.size);have aa:=s.out B E))
              all_goals(
               obtain⟨aX,aY⟩:=s.out B E;have YO:=O.out.below E;have r:=YO.on (by omega) (by omega);have YA:=(YO.2 i j (by omega) (by omega)).2;have Z4:=YO.off (p:=Tm.pos za i g) (q:=Tm.pos zb j g) U Zv (.inl Yl) (by omega) (by omega);have au:=e.trans (E.mono e.size);have ZD:=hid (fun q=>(vn au (o:=i*30+j) q:Below c.heap.size c (B.setCell ⟨c.heap.size,i*30+j,none⟩ (.bool q))));have YL:=hid YO;rw[<-ZS.out]at Z4;clear s Zs YO x Yf YF;generalize sr rk za zb i j N.length=Z5 at*;cases ZL with
               |true=>
                go_wp2_with fail;go_big_region
                all_goals(
                 go_wp2;go_roundw
                 case rel=>exact BS.next l ((t.out B YL.out Z5 (by rw[Yp.out];rfl)).drew 1) (ie (ZD.out Z5)) (by go_num)
                 case measure=>simp[intOf])
               |false=>
                go_wp2_with fail;go_big_region
                all_goals(
                 go_wp2;go_roundw
                 case rel=>exact BS.next l ((t.out B YL.out false (by rw[Yp.out];rfl)).drew 1) (ie (ZD.out false)) (by go_num)
                 case measure=>simp[intOf]))
            ·obtain rfl:g=N.length:=by omega
             have Yz:=hid (show iu rk za zb i j=false by rw[Yp.out,BT Y4.out,Bool.and_false]);go_wp2;go_roundw
             case rel=>exact BS.next l (b.eq (w.out _ Yz.out.symm)) e (by go_num)
             case measure=>simp[intOf]
          ·have Yx:((Zf:Int)!=(Zg:Int))=true:=by simpa using I
           have v:=YD.out;rw[if_neg I]at v;have Yp:=hid (Zc.out.trans v);have ZB:Zf<6:=by omega
           have ZC:Zg<6:=by omega
           have bm:=ZP.out wr e Zf ZB;have bn:=ZP.out wr e Zg ZC;have Zw:Hid (lN rk (Zf:Int)=rk[Zf]?.getD 0):=rfl;have Zx:Hid (lN rk (Zg:Int)=rk[Zg]?.getD 0):=rfl;rw[Zw.out,Zx.out]at Yp;have a6:(Zf:Int)<(rk.length:Int):=by have:=ZF.out;omega
           have a7:(Zg:Int)<(rk.length:Int):=by have:=ZF.out;omega
           have YL:=hid (b.drew);have ZD:=hid (fun q=>(vn e (o:=i*30+j) q:Below c.heap.size c (wr.setCell ⟨c.heap.size,i*30+j,none⟩ (.bool q))));clear v I YD Zc Zw Zx ZB ZC;generalize qW rk za zb i j Yd.length=ZL at*;generalize rk[Zf]?.getD 0=aS at*;generalize rk[Zg]?.getD 0=aT at*;cases ZL with
           |true=>
            go_wp2_with fail;go_quiet(fail)
            go_wp2_with fail;go_big_region
            all_goals(
             go_wp2;go_roundw
             case rel=>exact BS.next l (t.out _ (b.drew _) (decide (aT<aS)) (by rw[Yp.out];rfl)) (vn (below_drewN e _) _) (by go_num)
             case measure=>simp[intOf])
           |false=>
            go_wp2_with fail;go_quiet(fail)
            go_wp2_with fail;go_big_region
            all_goals(
             go_wp2;go_roundw
             case rel=>exact BS.next l (t.out _ (b.drew _) false (by rw[Yp.out];rfl)) (vn (below_drewN e _) _) (by go_num)
             case measure=>simp[intOf])
    ·rw[O6]at b
     go_wp2;go_roundw
     case rel=>exact Pp.next A b u (by go_num)
     case measure=>simp[intOf]
  ·have ag:=(b.2 0 0 (by omega) (by omega)).1
   have aL:MA rk za zb 0 0 0=iu rk za zb 0 0:=by unfold MA;rw[if_pos ⟨al,an,Nat.le_refl _⟩]
   rw[aL]at ag;simp only[Nat.zero_mul,Nat.zero_add]at ag;go_wp2;go_ret;exact⟨rfl,u⟩
end
