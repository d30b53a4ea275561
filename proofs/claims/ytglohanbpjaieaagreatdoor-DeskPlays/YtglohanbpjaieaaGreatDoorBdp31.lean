/-
  Parts of the proof.
-/
import Derived.Test.YtglohanbpjaieaaGreatDoorBdp30
set_option maxHeartbeats 4000000
set_option maxRecDepth 100000
namespace Go.Proofs.YtglohanbpjaieaaGreatDoor
open Go.Proofs Go.RowKit Go.Shelf Go.Maps
variable {b d h r s:List UInt8}{c q:World}{e i v:Nat}{f o:bu}{g p w:bg}{j k:Option Addr}{m:List (List UInt8)}{t:Int}{u:Ending}
theorem Jq(Yc:mR g f j k e i c)(O:b.length<=4096)(s:b≠kj)(t:b≠jO)(u:b≠mA)(r:fV 32 b=[d]):
 Calls Tryz.prog 15 #[.agg #[.slice j g.length e,.slice k f.length i],sv b] c fun Y Yl=>eM g f [] 1 c Y Yl:=by
 obtain⟨D,E,F,G,H,I,J,K,q⟩:=Yc;obtain⟨w,m⟩:∃w,(((c.alloc (.cells #[.slice j g.length e,.slice k f.length i] 50)).alloc (.cells #[.slice none 0 0,.slice none 0 0] 50)).alloc (.cells #[.int .i64 0,.int .i64 1,.int .i64 2,.int .i64 3,.int .i64 4,.int .i64 5] 3))=w:=⟨_,rfl⟩;have v:=pd.new c (.slice j g.length e) (.slice k f.length i);rw[m]at v;have y:=hid v;have A:=hid m;have R:=hid (fun B(l:Below c.heap.size c B)=>(D.below l).mono l.size);have S:=hid (fun B(l:Below c.heap.size c B)=>(H.below l).mono l.size);have L:=hid (jW b w O);have T:=hid q;have U:=hid r;have YG:(b==[99,108,111,115,101])=false:=by rw[aW];exact s
 have YH:(b==[114,117,108,101,115])=false:=by rw[aW];exact t
 have YI:(b==[109,101,101,116])=false:=by rw[aW];exact u
 clear m v D H q r O s t u;go_enter Tryz.func15,Tryz.ntmps15;go_wp2_with fail;rw[A.out];refine L.out.mono ?_;rintro Y Ym⟨YN,rfl,x,W⟩;rw[U.out]at x;obtain⟨Z,o,rfl,N,Yi,n⟩:=x.at (by simp);have h:=y.out.below W;have Yy:=h.d.cell0;have Yz:=h.d.dh;have YB:=h.r.cell0;have YC:=h.r.dh;have YD:=h.r.frozen 0;have YE:=h.r.frozen 1;have Yk:Ym.cell? ⟨Z,0,none⟩=some (sv d):=n 0 _ rfl;have z:=hid h;have Yo:=hid n;clear L y h x n;have Yg:=hid (fun B V X=>jP [] V X B (fun YL Yj=>by simp at Yj) (fun YM q=>by simp at q) (by simp));have YJ:(1:Int)<=(o:Int):=by simp at N;omega
 by_cases Yw:o=1
 all_goals(
  first|(have M:o-1=0:=by omega)|(have M:¬o-1=0:=by omega)
  go_wp2_with fail;refine(Yg.out _ _ _).mono ?_;rintro Y Yn⟨C,⟨_,YK,rfl,Q⟩|⟨P,_⟩⟩
  ·obtain⟨Yx,YA,rfl,_⟩:=il.qg Q
   have a:=z.out.below C;have Yp:=a.d.cell0;have Yq:=a.d.dh;have Yr:=a.r.cell0;have Yt:=a.r.dh;have Yu:=a.r.frozen 0;have Yv:=a.r.frozen 1;have Yh:=hid (fun tmps Yd Ye Yf=>eM.fin (tmps:=tmps) (er:=1) (out:=[]) (o2:=[]) T.out a.b a.r (fun Yc=>absurd Yc (by decide)) (R.out _ a.b) E F G (S.out _ a.b) I J K Yd Ye Yf);have YF:Yn.cell? ⟨Z,0,none⟩=some (sv d):=(C.cell (p:=⟨Z,0,none⟩) Yi).trans Yk;clear a Q;go_wp2
   all_goals exact Yh.out _ rfl rfl rfl
  ·exact absurd (fun d r=>by simp at r) P)
theorem yz(I:mR g f j k e i c){l:List UInt8}(u:l.length<=4096)(w:l≠kj)(x:l≠jO)(y:l≠mA)(F:fV 32 l=(b::m))(z:m≠[])(O:m.length≠3)(Z:¬∀YR∈m,(aO YR).2=0):
 Calls Tryz.prog 15 #[.agg #[.slice j g.length e,.slice k f.length i],sv l] c fun Yl Yu=>eM g f [] 1 c Yl Yu:=by
 obtain⟨Q,R,S,T,U,V,W,X,t⟩:=I;obtain⟨C,q⟩:∃C,(((c.alloc (.cells #[.slice j g.length e,.slice k f.length i] 50)).alloc (.cells #[.slice none 0 0,.slice none 0 0] 50)).alloc (.cells #[.int .i64 0,.int .i64 1,.int .i64 2,.int .i64 3,.int .i64 4,.int .i64 5] 3))=C:=⟨_,rfl⟩;have A:=pd.new c (.slice j g.length e) (.slice k f.length i);rw[q]at A;have J:=hid A;have L:=hid q;have Ye:=hid (fun B(n:Below c.heap.size c B)=>(Q.below n).mono n.size);have Yf:=hid (fun B(n:Below c.heap.size c B)=>(U.below n).mono n.size);have Y:=hid (jW l C u);have Yh:=hid t;have Yi:=hid F;have YJ:(l==[99,108,111,115,101])=false:=by rw[aW];exact w
 have YK:(l==[114,117,108,101,115])=false:=by rw[aW];exact x
 have YL:(l==[109,101,101,116])=false:=by rw[aW];exact y
 have o:Hid (b.length<=4096∧(∀Yt,Yt<m.length->(m[Yt]?.getD []).length<=4096)∧m.length<=5000):=by
  have H:=lO 32 l;have Yd:=jB 32 l;rw[F]at H Yd;refine⟨aK (H b (by simp)) u,fun Yt t=>?_,by have:=kx (a:=(32:UInt8)) (l:=l);simp at Yd;omega⟩;rw[an t];exact aK (H _ (by simp)) u
 clear q A Q U t F u w x y;go_enter Tryz.func15,Tryz.ntmps15;go_wp2_with fail;rw[L.out];refine Y.out.mono ?_;rintro Yl s⟨YS,rfl,G,Yj⟩;rw[Yi.out]at G;obtain⟨N,D,rfl,v,Yc,r⟩:=G.at (by simp);have h:=J.out.below Yj;have YC:=h.d.cell0;have YD:=h.d.dh;have YE:=h.r.cell0;have YF:=h.r.dh;have YG:=h.r.frozen 0;have YH:=h.r.frozen 1;have YI:s.cell? ⟨N,0,none⟩=some (sv b):=r 0 _ rfl;have K:=hid h;have M:=hid r;clear Y J h G r;have P:=hid (fun B(n:Below s.heap.size s B)=>(show ks B.heap.size B (some ⟨N,1,none⟩) m from fun Yr Yq=>⟨N,1,rfl,df Yc n.size,(n.cell (p:=⟨N,1+Yr,none⟩) Yc).trans (by have I:=M.out (Yr+1) ⟨(m[Yr]?.getD []).toArray⟩ (by simp[List.getElem?_map,List.getElem?_eq_getElem Yq]);rw[cI,kT]at I;exact I)⟩));have YM:(1:Int)<=(m.length:Int)+1:=by omega
 have YN:(1:Int)<=(D:Int):=by simp at v;omega
 have YO:¬D-1=0:=by have:=kN.2 z;simp at v;omega
 have YP:(m.length:Int)<=5000:=by have:=o.out.2.2;omega
 have Yo:=hid (jP m (some ⟨N,1,none⟩) (D-1) s (P.out s (ah _ _)) o.out.2.1 o.out.2.2);have YB:((m.length:Int)+1==4)=false:=by rw[aW];omega
 have Yg:=hid Z;clear Z z P;go_wp2_with fail;refine Yo.out.mono ?_;rintro Yl YQ⟨Yk,⟨E,_⟩|⟨_,rfl⟩⟩
 ·exact absurd E Yg.out
 ·have d:=K.out.below Yk
  have Yv:=d.d.cell0;have Yw:=d.d.dh;have Yx:=d.r.cell0;have Yy:=d.r.dh;have Yz:=d.r.frozen 0;have YA:=d.r.frozen 1;have Yp:=hid (fun tmps Ym Yn O=>eM.fin (tmps:=tmps) (er:=1) (out:=[]) (o2:=[]) Yh.out d.b d.r (fun I=>absurd I (by decide)) (Ye.out _ d.b) R S T (Yf.out _ d.b) V W X Ym Yn O);clear d;go_wp2;exact Yp.out _ rfl rfl rfl
theorem vb(r:mR g f j k e i c){l:List UInt8}(x:l.length<=4096)(z:l≠kj)(A:l≠jO)(B:l≠mA)(K:fV 32 l=(b::m))(D:m≠[])(T:m.length≠3)(Yg:∀Y6∈m,(aO Y6).2=0)(q:¬(b=nI∧m.length=1)∧¬((b=nh∨b=kS)∧m.length=2)):
 Calls Tryz.prog 15 #[.agg #[.slice j g.length e,.slice k f.length i],sv l] c fun Yr YE=>eM g f [] 1 c Yr YE:=by
 obtain⟨V,W,X,Y,Z,Yc,Yd,Ye,w⟩:=r;obtain⟨G,s⟩:∃G,(((c.alloc (.cells #[.slice j g.length e,.slice k f.length i] 50)).alloc (.cells #[.slice none 0 0,.slice none 0 0] 50)).alloc (.cells #[.int .i64 0,.int .i64 1,.int .i64 2,.int .i64 3,.int .i64 4,.int .i64 5] 3))=G:=⟨_,rfl⟩;have E:=pd.new c (.slice j g.length e) (.slice k f.length i);rw[s]at E;have N:=hid E;have P:=hid s;have Yl:=hid (fun F(n:Below c.heap.size c F)=>(V.below n).mono n.size);have Ym:=hid (fun F(n:Below c.heap.size c F)=>(Z.below n).mono n.size);have Yf:=hid (jW l G x);have Yo:=hid w;have Yp:=hid K;have YW:(l==[99,108,111,115,101])=false:=by rw[aW];exact z
 have YX:(l==[114,117,108,101,115])=false:=by rw[aW];exact A
 have YY:(l==[109,101,101,116])=false:=by rw[aW];exact B
 have o:Hid (b.length<=4096∧(∀YB,YB<m.length->(m[YB]?.getD []).length<=4096)∧m.length<=5000):=by
  have M:=lO 32 l;have Yi:=jB 32 l;rw[K]at M Yi;refine⟨aK (M b (by simp)) x,fun YB w=>?_,by have:=kx (a:=(32:UInt8)) (l:=l);simp at Yi;omega⟩;rw[an w];exact aK (M _ (by simp)) x
 clear s E V Z w K x z A B;go_enter Tryz.func15,Tryz.ntmps15;go_wp2_with fail;rw[P.out];refine Yf.out.mono ?_;rintro Yr u⟨Y7,rfl,L,Yq⟩;rw[Yp.out]at L;obtain⟨I,H,rfl,y,J,t⟩:=L.at (by simp);have h:=N.out.below Yq;have YO:=h.d.cell0;have YP:=h.d.dh;have YR:=h.r.cell0;have YS:=h.r.dh;have YT:=h.r.frozen 0;have YU:=h.r.frozen 1;have YC:u.cell? ⟨I,0,none⟩=some (sv b):=t 0 _ rfl;have O:=hid h;have Q:=hid t;clear Yf N h L t;have U:=hid (fun F(n:Below u.heap.size u F)=>(show ks F.heap.size F (some ⟨I,1,none⟩) m from fun YA Yy=>⟨I,1,rfl,df J n.size,(n.cell (p:=⟨I,1+YA,none⟩) J).trans (by have r:=Q.out (YA+1) ⟨(m[YA]?.getD []).toArray⟩ (by simp[List.getElem?_map,List.getElem?_eq_getElem Yy]);rw[cI,kT]at r;exact r)⟩));have YZ:(1:Int)<=(m.length:Int)+1:=by omega
 have Y0:(1:Int)<=(H:Int):=by simp at y;omega
 have Y2:¬H-1=0:=by have:=kN.2 D;simp at y;omega
 have Y3:(m.length:Int)<=5000:=by have:=o.out.2.2;omega
 have Yw:=hid (jP m (some ⟨I,1,none⟩) (H-1) u (U.out u (ah _ _)) o.out.2.1 o.out.2.2);have YM:((m.length:Int)+1==4)=false:=by rw[aW];omega
 have Yn:=hid Yg;clear Yg D U;go_wp2_with fail;refine Yw.out.mono ?_;rintro Yr YF⟨R,⟨_,Y5,rfl,Yh⟩|⟨Yz,_⟩⟩
 ·have C:(m.map fun b=>(aO b).1).length=m.length:=en _
  obtain⟨YN,YQ,rfl,_⟩:=il.qg Yh;rw[C];clear C Yh;have d:=O.out.below R;have YG:=d.d.cell0;have YH:=d.d.dh;have YI:=d.r.cell0;have YJ:=d.r.dh;have YK:=d.r.frozen 0;have YL:=d.r.frozen 1;have Yx:=hid (fun tmps Yu Yv T=>eM.fin (tmps:=tmps) (er:=1) (out:=[]) (o2:=[]) Yo.out d.b d.r (fun r=>absurd r (by decide)) (Yl.out _ d.b) W X Y (Ym.out _ d.b) Yc Yd Ye Yu Yv T);have YV:YF.cell? ⟨I,0,none⟩=some (sv b):=(R.cell (p:=⟨I,0,none⟩) J).trans YC;clear d;have v:(((m.length:Int)==1)=true∧((m.length:Int)==2)=false∧(b==[102,111,114,109])=false)∨(((m.length:Int)==1)=false∧((m.length:Int)==2)=true∧(b==[115,97,109,101])=false∧(b==[97,98,111,118,101])=false)∨(((m.length:Int)==1)=false∧((m.length:Int)==2)=false):=by
   by_cases Yt:m.length=1
   ·exact .inl ⟨by rw[RQ];omega,by rw[aW];omega,by rw[aW];exact fun r=>q.1 ⟨r,Yt⟩⟩
   ·by_cases S:m.length=2
    ·exact .inr (.inl ⟨by rw[aW];omega,by rw[RQ];omega,by rw[aW];exact fun r=>q.2 ⟨.inl r,S⟩,by rw[aW];exact fun r=>q.2 ⟨.inr r,S⟩⟩)
    ·exact .inr (.inr ⟨by rw[aW];omega,by rw[aW];omega⟩)
  clear q;rcases v with⟨Yj,Yk,YD⟩|⟨Yj,Yk,YD,Y4⟩|⟨Yj,Yk⟩
  all_goals(
   go_wp2
   all_goals exact Yx.out _ rfl rfl rfl)
 ·exact absurd Yn.out Yz
theorem E8(o:mR g f j k e i c)(B:d.length<=4096)(L:d≠kj)(M:d≠jO)(N:d≠mA)(Y:fV 32 d=[b,r,h,s])(X:¬((b=pK∧h=[61])∨(b=mr∧h=[62]))):
 Calls Tryz.prog 15 #[.agg #[.slice j g.length e,.slice k f.length i],sv d] c fun Yz YH=>eM g f [] 1 c Yz YH:=by
 obtain⟨Yp,F,G,H,Yq,I,J,K,A⟩:=o;obtain⟨Q,q⟩:∃Q,(((c.alloc (.cells #[.slice j g.length e,.slice k f.length i] 50)).alloc (.cells #[.slice none 0 0,.slice none 0 0] 50)).alloc (.cells #[.int .i64 0,.int .i64 1,.int .i64 2,.int .i64 3,.int .i64 4,.int .i64 5] 3))=Q:=⟨_,rfl⟩;have O:=pd.new c (.slice j g.length e) (.slice k f.length i);rw[q]at O;have Ye:=hid O;have Yg:=hid q;have Yd:=hid (fun P(m:Below c.heap.size c P)=>(Yp.below m).mono m.size);have Yf:=hid (fun P(m:Below c.heap.size c P)=>(Yq.below m).mono m.size);have Yr:=hid (jW d Q B);have Yh:=hid A;have Yx:=hid Y;have YT:(d==[99,108,111,115,101])=false:=by rw[aW];exact L
 have YU:(d==[114,117,108,101,115])=false:=by rw[aW];exact M
 have YV:(d==[109,101,101,116])=false:=by rw[aW];exact N
 have v:Hid (b.length<=4096∧(∀YD,YD<[r,h,s].length->([r,h,s][YD]?.getD []).length<=4096)∧[r,h,s].length<=5000):=by
  have Yc:=lO 32 d;have YF:=jB 32 d;rw[Y]at Yc YF;refine⟨aK (Yc b (by simp)) B,fun YD A=>?_,by simp⟩;rw[an A];exact aK (Yc _ (by simp)) B
 clear q O Yp Yq A Y B L M N;go_enter Tryz.func15,Tryz.ntmps15;go_wp2_with fail;rw[Yg.out];refine Yr.out.mono ?_;rintro Yz n⟨Y0,rfl,Z,Yy⟩;rw[Yx.out]at Z;obtain⟨E,w,rfl,t,W,u⟩:=Z.at (by simp);have l:=Ye.out.below Yy;have YK:=l.d.cell0;have YL:=l.d.dh;have YN:=l.r.cell0;have YO:=l.r.dh;have YP:=l.r.frozen 0;have YQ:=l.r.frozen 1;have YE:n.cell? ⟨E,0,none⟩=some (sv b):=u 0 _ rfl;have C:=hid l;have D:=hid u;clear Yr Ye l Z u;have Yo:=hid (fun P(m:Below n.heap.size n P)=>(show ks P.heap.size P (some ⟨E,1,none⟩) [r,h,s]from fun Yw YB=>⟨E,1,rfl,df W m.size,(m.cell (p:=⟨E,1+Yw,none⟩) W).trans (by have o:=D.out (Yw+1) ⟨([r,h,s][Yw]?.getD []).toArray⟩ (by match Yw,YB with|0,_=>rfl|1,_=>rfl|2,_=>rfl);rw[cI,kT]at o;exact o)⟩));have YW:(1:Int)<=(w:Int):=by simp at t;omega
 have YX:¬w-1=0:=by simp at t;omega
 have YA:=hid (jP [r,h,s] (some ⟨E,1,none⟩) (w-1) n (Yo.out n (ah _ _)) v.out.2.1 v.out.2.2);have YS:n.cell? ⟨E,2,none⟩=some (sv h):=D.out 2 _ rfl;have YY:(4:Int)<=(w:Int):=by simp at t;omega
 have z:((b==[115,97,121])=true∧(h==[61])=false∧(b==[114,117,108,101])=false)∨((b==[115,97,121])=false∧(b==[114,117,108,101])=true∧(h==[62])=false)∨((b==[115,97,121])=false∧(b==[114,117,108,101])=false):=by
  by_cases x:b=pK
  ·exact .inl ⟨by rw[x];rfl,by rw[aW];exact fun o=>X (.inl ⟨x,o⟩),by rw[x];rfl⟩
  ·by_cases y:b=mr
   ·exact .inr (.inl ⟨by rw[y];rfl,by rw[y];rfl,by rw[aW];exact fun o=>X (.inr ⟨y,o⟩)⟩)
   ·exact .inr (.inr ⟨by rw[aW];exact x,by rw[aW];exact y⟩)
 clear X Yo;rcases z with⟨Yu,Yv,YG⟩|⟨Yu,Yv,YG⟩|⟨Yu,Yv⟩
 all_goals(
  go_wp2_with fail;refine YA.out.mono ?_;rintro Yz YI⟨R,⟨_,YZ,rfl,Yt⟩|⟨YC,rfl⟩⟩
  ·obtain⟨YJ,YM,rfl,_⟩:=il.qg Yt
   clear Yt;have a:=C.out.below R;have Yi:=a.d.cell0;have Yj:=a.d.dh;have Yk:=a.r.cell0;have Yl:=a.r.dh;have Ym:=a.r.frozen 0;have Yn:=a.r.frozen 1;have V:=hid (fun tmps S T U=>eM.fin (tmps:=tmps) (er:=1) (out:=[]) (o2:=[]) Yh.out a.b a.r (fun o=>absurd o (by decide)) (Yd.out _ a.b) F G H (Yf.out _ a.b) I J K S T U);have YR:YI.cell? ⟨E,0,none⟩=some (sv b):=(R.cell (p:=⟨E,0,none⟩) W).trans YE;clear a;go_wp2
   all_goals exact V.out _ rfl rfl rfl
  ·clear YC
   have a:=C.out.below R;have Yi:=a.d.cell0;have Yj:=a.d.dh;have Yk:=a.r.cell0;have Yl:=a.r.dh;have Ym:=a.r.frozen 0;have Yn:=a.r.frozen 1;have V:=hid (fun tmps S T U=>eM.fin (tmps:=tmps) (er:=1) (out:=[]) (o2:=[]) Yh.out a.b a.r (fun o=>absurd o (by decide)) (Yd.out _ a.b) F G H (Yf.out _ a.b) I J K S T U);clear a;go_wp2;exact V.out _ rfl rfl rfl)
theorem Ij(O:mR g o k j i e c)(I:d.length<=4096)(Y:d≠kj)(Z:d≠jO)(Yc:d≠mA)(Yv:fV 32 d=[nI,b])(Yr:(aO b).2=0){YC:bg}{out:List UInt8}{er:Int}(G:dm g o [nI,b] YC f out er):
 Calls Tryz.prog 15 #[.agg #[.slice k g.length i,.slice j o.length e],sv d] c fun YA M=>eM YC f out er c YA M:=by
 obtain⟨YT,P,Q,R,YU,S,T,U,H⟩:=O;obtain⟨Yl,B⟩:∃Yl,(((c.alloc (.cells #[.slice k g.length i,.slice j o.length e] 50)).alloc (.cells #[.slice none 0 0,.slice none 0 0] 50)).alloc (.cells #[.int .i64 0,.int .i64 1,.int .i64 2,.int .i64 3,.int .i64 4,.int .i64 5] 3))=Yl:=⟨_,rfl⟩;have Yk:=pd.new c (.slice k g.length i) (.slice j o.length e);rw[B]at Yk;have YE:=hid Yk;have YH:=hid B;have YD:=hid (fun w(a:Below c.heap.size c w)=>(YT.below a).mono a.size);have Yj:=hid (fun w(a:Below c.heap.size c w)=>(YU.below a).mono a.size);have YV:=hid (jW d Yl I);have YK:=hid H;have Za:=hid Yv;have ZZ:(d==[99,108,111,115,101])=false:=by rw[aW];exact Y
 have Z0:(d==[114,117,108,101,115])=false:=by rw[aW];exact Z
 have Yx:(d==[109,101,101,116])=false:=by rw[aW];exact Yc
 have D:Hid (nI.length<=4096∧(∀Yh,Yh<[b].length->([b][Yh]?.getD []).length<=4096)∧[b].length<=5000):=by
  have Yz:=lO 32 d;have Zs:=jB 32 d;rw[Yv]at Yz Zs;refine⟨aK (Yz nI (by simp)) I,fun Yh H=>?_,by simp⟩;rw[an H];exact aK (Yz _ (by simp)) I
 clear B Yk YT YU H Yv I Y Z Yc;unfold dm at G;dsimp only at G
 rw[aD ⟨rfl,Yr⟩]at G;obtain⟨rfl,rfl,YX,YZ⟩:=G;have Y9:=hid YZ;have YJ:=hid YX;have Y8:=hid Yr;clear YZ Yr YX;go_enter Tryz.func15,Tryz.ntmps15;go_wp2_with fail;rw[YH.out];refine YV.out.mono ?_;rintro YA x⟨Z7,rfl,Yy,Zc⟩;rw[Za.out]at Yy;obtain⟨Yn,Ym,rfl,X,Yu,C⟩:=Yy.at (by simp);have q:=YE.out.below Zc;have ZQ:=q.d.cell0;have ZR:=q.d.dh;have ZT:=q.r.cell0;have ZU:=q.r.dh;have ZV:=q.r.frozen 0;have ZW:=q.r.frozen 1;have Zn:x.cell? ⟨Yn,0,none⟩=some (sv nI):=C 0 _ rfl;have YF:=hid q;have YI:=hid C;clear YV YE q Yy C;have YS:=hid (fun w(a:Below x.heap.size x w)=>(show ks w.heap.size w (some ⟨Yn,1,none⟩) [b]from fun Y6 Zl=>⟨Yn,1,rfl,df Yu a.size,(a.cell (p:=⟨Yn,1+Y6,none⟩) Yu).trans (by have O:=YI.out (Y6+1) ⟨([b][Y6]?.getD []).toArray⟩ (by match Y6,Zl with|0,_=>rfl);rw[cI,kT]at O;exact O)⟩));have Z1:(1:Int)<=(Ym:Int):=by simp at X;omega
 have Z2:¬Ym-1=0:=by simp at X;omega
 have Zk:=hid (jP [b] (some ⟨Yn,1,none⟩) (Ym-1) x (YS.out x (ah _ _)) D.out.2.1 D.out.2.2);clear YS;go_wp2_with fail;refine Zk.out.mono ?_;rintro YA h⟨YO,⟨_,Z3,rfl,Y4⟩|⟨Zm,_⟩⟩
 ·obtain⟨F,ZS,rfl,YY,Yg⟩:=Y4.cells (by simp)
  obtain⟨s,t,J,K⟩:=Yg 0 (by simp);replace J:h.cell? ⟨F,0,none⟩=some (.slice s (aO b).1.length t):=J;replace K:cU x.heap.size h (.slice s (aO b).1.length t) (aO b).1:=K;have E:=YF.out.below YO;have ZX:h.cell? ⟨Yn,0,none⟩=some (sv nI):=(YO.cell (p:=⟨Yn,0,none⟩) Yu).trans Zn;generalize(aO b).1=L at*;obtain⟨_,_,Zh,Y3,Zq,Zr⟩:=cU.ints K;cases Zh;have u:Below h.heap.size h h.drew:=bD (ah _ h) 1;have N:=E.below u;have hF:=hid (yr f L j s e t h.drew (Yj.out _ N.b) ((Y3.below u).mono u.size) Zq Zr);have A:=hid (fun w(a:Below h.heap.size h w)=>show w.cell? ⟨c.heap.size,1,none⟩=some (.slice j f.length e)∧w.cell? ⟨F,0,none⟩=some (.slice s L.length t)from⟨(E.below a).d.dh,(a.cell (p:=⟨F,0,none⟩) YY).trans J⟩);have V:=A.out h (ah _ _);have Yf:Hid ((bU f L).2.2=0->Tm.err (bU f L).1=0∧(bU f L).2.1<=60):=fun O=>tH O
  have YG:=hid E;clear Y4 K Yg J Y3 E N;generalize(bU f L).1=ZP at*;generalize(bU f L).2.1=Yh at*;generalize(bU f L).2.2=ZD at*;have Zi:=YJ.out;subst Zi;go_wp2;go_region_held3(fun M=>M.cell? ⟨c.heap.size,1,none⟩=some (.slice j f.length e)∧M.cell? ⟨F,0,none⟩=some (.slice s L.length t))(first|assumption|exact V|exact W)((go_at_call 37;refine hF.out.mono ?_;rintro YA y⟨Z4,rfl,Yx,Zd⟩;have YB:=u.trans (Zd.mono u.size);have W:=A.out y YB))
  obtain⟨Zb,Zg,rfl,Y2,Zo,Zp⟩:=cU.ints Yx;have r:=YG.out.below YB;have Zt:=r.d.cell0;have Zu:=r.d.dh;have Zz:=r.r.cell0;have ZA:=r.r.dh;have ZE:=r.r.frozen 0;have ZF:=r.r.frozen 1;have m:=hid r;clear r hF V W A Yx;by_cases z:er=0
  ·subst z
   obtain⟨YQ,ZN⟩:=Yf.out rfl;have ZJ:(Yh:Int)<=60:=by omega
   have v:Below y.heap.size y y.drew:=bD (ah _ y) 1;have YW:=hid (wJ ZP Zb Zg y.drew YQ Zo Zp ((Y2.below v).mono v.size));have Zj:=hid (fun w=>qE Yh (by omega) w);have ZI:=nZ (n:=Yh) (by omega);obtain⟨ZY,Yd,Ye⟩:=Y9.out rfl;have YL:=hid Yd;have YM:=hid Ye;clear Yf YQ Y2 Yd Ye;generalize Lib.decDigits Yh=YP at*;go_wp2;go_region_with(first
    |(go_at_call 30;refine YW.out.mono ?_;rintro YA Z5⟨Yw,Y5,rfl,Ze⟩;have Yi:=v.trans (Ze.mono v.size);have YN:=m.out.below Yi;have Zv:=YN.d.cell0;have Zw:=YN.d.dh;have YR:=Y5.one YL.out;subst YR;have ZO:=Y5.len;have ZK:¬9223372036854775807<Yw.length+1:=(by omega);have ZL:¬9223372036854775807<Yw.length+1+YP.length:=(by omega))
    |(go_at_call 16;refine(Zj.out _).mono ?_;rintro YA Z6⟨rfl,Zf⟩;have Y7:=Yi.trans (Zf.mono Yi.size);have l:=m.out.below Y7;have Zx:=l.d.cell0;have Zy:=l.d.dh;have ZB:=l.r.cell0;have ZC:=l.r.dh;have ZG:=l.r.frozen 0;have ZH:=l.r.frozen 1))
   all_goals(
    have Yt:=hid (fun tmps Yo Yp Yq=>eM.fin (tmps:=tmps) (er:=0) (out:=out) (o2:=Yw++[32]++YP) YK.out l.b l.r (fun z=>⟨rfl,rfl,YM.out.symm⟩) (YD.out _ l.b) P Q R (Yj.out _ l.b) S T U Yo Yp Yq);go_wp2;exact Yt.out _ rfl rfl rfl)
  ·have ZM:(er !=0)=true:=by simpa using z
   have Yt:=hid (fun tmps Yo Yp Yq=>eM.fin (tmps:=tmps) (er:=er) (out:=out) (o2:=[]) YK.out m.out.b m.out.r (fun O=>absurd O z) (YD.out _ m.out.b) P Q R (Yj.out _ m.out.b) S T U Yo Yp Yq);clear z;go_wp2;exact Yt.out _ rfl rfl rfl
 ·exact absurd (fun Z8 Y0=>by rw[Rj]at Y0;subst Y0;exact Y8.out) Zm
theorem Ga(YP:mR g o k j i e c)(K:h.length<=4096)(U:h≠kj)(V:h≠jO)(W:h≠mA)(Yh:fV 32 h=[nh,b,d])(Ye:(aO b).2=0)(Yf:(aO d).2=0){Yk:bg}{out:List UInt8}{er:Int}(I:dm g o [nh,b,d] Yk f out er):
 Calls Tryz.prog 15 #[.agg #[.slice k g.length i,.slice j o.length e],sv h] c fun Yw F=>eM Yk f out er c Yw F:=by
 obtain⟨Yy,Yz,YA,YB,YC,YD,YE,YF,J⟩:=YP;obtain⟨Y,A⟩:∃Y,(((c.alloc (.cells #[.slice k g.length i,.slice j o.length e] 50)).alloc (.cells #[.slice none 0 0,.slice none 0 0] 50)).alloc (.cells #[.int .i64 0,.int .i64 1,.int .i64 2,.int .i64 3,.int .i64 4,.int .i64 5] 3))=Y:=⟨_,rfl⟩;have X:=pd.new c (.slice k g.length i) (.slice j o.length e);rw[A]at X;have Yl:=hid X;have Yq:=hid A;have YR:=hid (fun w(l:Below c.heap.size c w)=>(Yy.below l).mono l.size);have Yp:=hid (fun w(l:Below c.heap.size c w)=>(YC.below l).mono l.size);have YG:=hid (jW h Y K);have YS:=hid J;have YU:=hid Yh;have Zr:(h==[99,108,111,115,101])=false:=by rw[aW];exact U
 have Zs:(h==[114,117,108,101,115])=false:=by rw[aW];exact V
 have Zt:(h==[109,101,101,116])=false:=by rw[aW];exact W
 have C:Hid (nh.length<=4096∧(∀Y8,Y8<[b,d].length->([b,d][Y8]?.getD []).length<=4096)∧[b,d].length<=5000):=by
  have E:=lO 32 h;have Yi:=jB 32 h;rw[Yh]at E Yi;refine⟨aK (E nh (by simp)) K,fun Y8 J=>?_,by simp⟩;rw[an J];exact aK (E _ (by simp)) K
 clear A X Yy YC J Yh K U V W;unfold dm at I;dsimp only at I
 rw[aD ⟨rfl,Ye,Yf⟩]at I;obtain⟨rfl,rfl,YH,YI⟩:=I;have YT:=hid YI;have Yu:=hid YH;have Yr:=hid (And.intro Ye Yf);clear YI Ye Yf YH;go_enter Tryz.func15,Tryz.ntmps15;go_wp2_with fail;rw[Yq.out];refine YG.out.mono ?_;rintro Yw v⟨Zy,rfl,u,YV⟩;rw[YU.out]at u;obtain⟨Yd,Z,rfl,S,Yg,B⟩:=u.at (by simp);have n:=Yl.out.below YV;have Zj:=n.d.cell0;have Zk:=n.d.dh;have Zm:=n.r.cell0;have Zn:=n.r.dh;have Zo:=n.r.frozen 0;have Zp:=n.r.frozen 1;have Y9:v.cell? ⟨Yd,0,none⟩=some (sv nh):=B 0 _ rfl;have Ym:=hid n;have Yt:=hid B;clear YG Yl n u B;have Yx:=hid (fun w(l:Below v.heap.size v w)=>(show ks w.heap.size w (some ⟨Yd,1,none⟩) [b,d]from fun YQ Y5=>⟨Yd,1,rfl,df Yg l.size,(l.cell (p:=⟨Yd,1+YQ,none⟩) Yg).trans (by have YP:=Yt.out (YQ+1) ⟨([b,d][YQ]?.getD []).toArray⟩ (by match YQ,Y5 with|0,_=>rfl|1,_=>rfl);rw[cI,kT]at YP;exact YP)⟩));have Zu:(1:Int)<=(Z:Int):=by simp at S;omega
 have Zv:¬Z-1=0:=by simp at S;omega
 have Y3:=hid (jP [b,d] (some ⟨Yd,1,none⟩) (Z-1) v (Yx.out v (ah _ _)) C.out.2.1 C.out.2.2);clear Yx;go_wp2_with fail;refine Y3.out.mono ?_;rintro Yw a⟨Yv,⟨_,Zw,rfl,YL⟩|⟨Y6,_⟩⟩
 ·obtain⟨t,Zl,rfl,T,D⟩:=YL.cells (by simp)
  obtain⟨r,s,L,O⟩:=D 0 (by simp);obtain⟨x,y,M,u⟩:=D 1 (by simp);replace L:a.cell? ⟨t,0,none⟩=some (.slice r (aO b).1.length s):=L;replace O:cU v.heap.size a (.slice r (aO b).1.length s) (aO b).1:=O;replace M:a.cell? ⟨t,1,none⟩=some (.slice x (aO d).1.length y):=M;replace u:cU v.heap.size a (.slice x (aO d).1.length y) (aO d).1:=u;have G:=Ym.out.below Yv;have Zq:a.cell? ⟨Yd,0,none⟩=some (sv nh):=(Yv.cell (p:=⟨Yd,0,none⟩) Yg).trans Y9;generalize(aO b).1=YM at*;generalize(aO d).1=YN at*;obtain⟨_,_,Yc,YJ,Za,Zb⟩:=cU.ints O;cases Yc;obtain⟨_,_,Yc,YK,E,Yi⟩:=cU.ints u;cases Yc;have m:Below a.heap.size a a.drew:=bD (ah _ a) 1;have P:=G.below m;have hF:=hid (vG f YM YN j r x e s y a.drew (Yp.out _ P.b) ((YJ.below m).mono m.size) ((YK.below m).mono m.size) Za Zb E Yi);have z:=hid (fun w(l:Below a.heap.size a w)=>show w.cell? ⟨c.heap.size,1,none⟩=some (.slice j f.length e)∧w.cell? ⟨t,0,none⟩=some (.slice r YM.length s)∧w.cell? ⟨t,1,none⟩=some (.slice x YN.length y)from⟨(G.below l).d.dh,(l.cell (p:=⟨t,0,none⟩) T).trans L,(l.cell (p:=⟨t,1,none⟩) T).trans M⟩);have Q:=z.out a (ah _ _);have Yn:=hid G;clear YL O u D L M YJ YK G P;generalize fX f YM YN=Y7 at*;generalize dF f YM YN=Zg at*;have YX:=Yu.out;subst YX;go_wp2;go_region_held3(fun F=>F.cell? ⟨c.heap.size,1,none⟩=some (.slice j f.length e)∧F.cell? ⟨t,0,none⟩=some (.slice r YM.length s)∧F.cell? ⟨t,1,none⟩=some (.slice x YN.length y))(first|assumption|exact Q|exact R)((go_at_call 38;refine hF.out.mono ?_;rintro Yw YO⟨rfl,YW⟩;have Yj:=m.trans (YW.mono m.size);have R:=z.out YO Yj))
  have q:=Yn.out.below Yj;have Zc:=q.d.cell0;have Zd:=q.d.dh;have Ze:=q.r.cell0;have Zf:=q.r.dh;have Zh:=q.r.frozen 0;have Zi:=q.r.frozen 1;have Yo:=hid q;clear q hF Q R z;go_wp2;go_region_with(go_at_call 32;refine(yu _ _).mono ?_;rintro Yw Zx⟨rfl,rfl⟩)
  all_goals(
   have H:=Yo.out.below (bD (ah _ YO) 1);have Y4:=hid (fun tmps YZ Y0 Y2=>eM.fin (tmps:=tmps) (er:=er) (out:=out) (o2:=qY Y7) YS.out H.b H.r (fun YY=>⟨rfl,rfl,(YT.out YY).symm⟩) (YR.out _ H.b) Yz YA YB (Yp.out _ H.b) YD YE YF YZ Y0 Y2);go_wp2;exact Y4.out _ rfl rfl rfl)
 ·exact absurd (fun Zz N=>by rcases dA.1 N with rfl|N;exact Yr.out.1;rw[Rj]at N;subst N;exact Yr.out.2) Y6
theorem Fk(Yj:mR g f k j i e c)(K:h.length<=4096)(U:h≠kj)(V:h≠jO)(W:h≠mA)(Yh:fV 32 h=[kS,b,d])(Ye:(aO b).2=0)(Yf:(aO d).2=0){Yl:bg}{out:List UInt8}{er:Int}(I:dm g f [kS,b,d] Yl o out er):
 Calls Tryz.prog 15 #[.agg #[.slice k g.length i,.slice j f.length e],sv h] c fun Yw F=>eM Yl o out er c Yw F:=by
 obtain⟨Yy,Yz,YA,YB,YC,YD,YE,YF,J⟩:=Yj;obtain⟨Y,A⟩:∃Y,(((c.alloc (.cells #[.slice k g.length i,.slice j f.length e] 50)).alloc (.cells #[.slice none 0 0,.slice none 0 0] 50)).alloc (.cells #[.int .i64 0,.int .i64 1,.int .i64 2,.int .i64 3,.int .i64 4,.int .i64 5] 3))=Y:=⟨_,rfl⟩;have X:=pd.new c (.slice k g.length i) (.slice j f.length e);rw[A]at X;have Ym:=hid X;have Yq:=hid A;have YQ:=hid (fun w(l:Below c.heap.size c w)=>(Yy.below l).mono l.size);have YR:=hid (fun w(l:Below c.heap.size c w)=>(YC.below l).mono l.size);have YG:=hid (jW h Y K);have YS:=hid J;have YU:=hid Yh;have Zr:(h==[99,108,111,115,101])=false:=by rw[aW];exact U
 have Zs:(h==[114,117,108,101,115])=false:=by rw[aW];exact V
 have Zt:(h==[109,101,101,116])=false:=by rw[aW];exact W
 have C:Hid (kS.length<=4096∧(∀Y8,Y8<[b,d].length->([b,d][Y8]?.getD []).length<=4096)∧[b,d].length<=5000):=by
  have E:=lO 32 h;have Yi:=jB 32 h;rw[Yh]at E Yi;refine⟨aK (E kS (by simp)) K,fun Y8 J=>?_,by simp⟩;rw[an J];exact aK (E _ (by simp)) K
 clear A X Yy YC J Yh K U V W;unfold dm at I;dsimp only at I
 rw[aE (fun Yj=>absurd Yj.1 (by decide)),aD ⟨rfl,Ye,Yf⟩]at I;obtain⟨rfl,rfl,YH,YI⟩:=I;have YT:=hid YI;have Yu:=hid YH;have Yr:=hid (And.intro Ye Yf);clear YI Ye Yf YH;go_enter Tryz.func15,Tryz.ntmps15;go_wp2_with fail;rw[Yq.out];refine YG.out.mono ?_;rintro Yw v⟨Zy,rfl,u,YV⟩;rw[YU.out]at u;obtain⟨Yd,Z,rfl,S,Yg,B⟩:=u.at (by simp);have n:=Ym.out.below YV;have Zj:=n.d.cell0;have Zk:=n.d.dh;have Zm:=n.r.cell0;have Zn:=n.r.dh;have Zo:=n.r.frozen 0;have Zp:=n.r.frozen 1;have Y9:v.cell? ⟨Yd,0,none⟩=some (sv kS):=B 0 _ rfl;have Yn:=hid n;have Yt:=hid B;clear YG Ym n u B;have Yx:=hid (fun w(l:Below v.heap.size v w)=>(show ks w.heap.size w (some ⟨Yd,1,none⟩) [b,d]from fun YP Y5=>⟨Yd,1,rfl,df Yg l.size,(l.cell (p:=⟨Yd,1+YP,none⟩) Yg).trans (by have Yj:=Yt.out (YP+1) ⟨([b,d][YP]?.getD []).toArray⟩ (by match YP,Y5 with|0,_=>rfl|1,_=>rfl);rw[cI,kT]at Yj;exact Yj)⟩));have Zu:(1:Int)<=(Z:Int):=by simp at S;omega
 have Zv:¬Z-1=0:=by simp at S;omega
 have Y3:=hid (jP [b,d] (some ⟨Yd,1,none⟩) (Z-1) v (Yx.out v (ah _ _)) C.out.2.1 C.out.2.2);clear Yx;go_wp2_with fail;refine Y3.out.mono ?_;rintro Yw a⟨Yv,⟨_,Zw,rfl,YL⟩|⟨Y6,_⟩⟩
 ·obtain⟨t,Zl,rfl,T,D⟩:=YL.cells (by simp)
  obtain⟨r,s,L,O⟩:=D 0 (by simp);obtain⟨x,y,M,u⟩:=D 1 (by simp);replace L:a.cell? ⟨t,0,none⟩=some (.slice r (aO b).1.length s):=L;replace O:cU v.heap.size a (.slice r (aO b).1.length s) (aO b).1:=O;replace M:a.cell? ⟨t,1,none⟩=some (.slice x (aO d).1.length y):=M;replace u:cU v.heap.size a (.slice x (aO d).1.length y) (aO d).1:=u;have G:=Yn.out.below Yv;have Zq:a.cell? ⟨Yd,0,none⟩=some (sv kS):=(Yv.cell (p:=⟨Yd,0,none⟩) Yg).trans Y9;generalize(aO b).1=YM at*;generalize(aO d).1=YN at*;obtain⟨_,_,Yc,YJ,Za,Zb⟩:=cU.ints O;cases Yc;obtain⟨_,_,Yc,YK,E,Yi⟩:=cU.ints u;cases Yc;have m:Below a.heap.size a a.drew:=bD (ah _ a) 1;have P:=G.below m;have hF:=hid (GA wM YM YN (some ⟨c.heap.size+1+1,0,none⟩) r x 6 s y a.drew P.k ((YJ.below m).mono m.size) ((YK.below m).mono m.size) Za Zb E Yi);have z:=hid (fun w(l:Below a.heap.size a w)=>show w.cell? ⟨c.heap.size,1,none⟩=some (.slice j o.length e)∧w.cell? ⟨t,0,none⟩=some (.slice r YM.length s)∧w.cell? ⟨t,1,none⟩=some (.slice x YN.length y)from⟨(G.below l).d.dh,(l.cell (p:=⟨t,0,none⟩) T).trans L,(l.cell (p:=⟨t,1,none⟩) T).trans M⟩);have Q:=z.out a (ah _ _);have Yo:=hid G;clear YL O u D L M YJ YK G P;generalize dj wM YM YN=Y7 at*;generalize fC wM YM YN=Zg at*;have YX:=Yu.out;subst YX;go_wp2;go_region_held3(fun F=>F.cell? ⟨c.heap.size,1,none⟩=some (.slice j o.length e)∧F.cell? ⟨t,0,none⟩=some (.slice r YM.length s)∧F.cell? ⟨t,1,none⟩=some (.slice x YN.length y))(first|assumption|exact Q|exact R)((go_at_call 39;refine hF.out.mono ?_;rintro Yw YO⟨rfl,YW⟩;have Yk:=m.trans (YW.mono m.size);have R:=z.out YO Yk))
  have q:=Yo.out.below Yk;have Zc:=q.d.cell0;have Zd:=q.d.dh;have Ze:=q.r.cell0;have Zf:=q.r.dh;have Zh:=q.r.frozen 0;have Zi:=q.r.frozen 1;have Yp:=hid q;clear q hF Q R z;go_wp2;go_region_with(go_at_call 32;refine(yu _ _).mono ?_;rintro Yw Zx⟨rfl,rfl⟩)
  all_goals(
   have H:=Yp.out.below (bD (ah _ YO) 1);have Y4:=hid (fun tmps YZ Y0 Y2=>eM.fin (tmps:=tmps) (er:=er) (out:=out) (o2:=qY Y7) YS.out H.b H.r (fun YY=>⟨rfl,rfl,(YT.out YY).symm⟩) (YQ.out _ H.b) Yz YA YB (YR.out _ H.b) YD YE YF YZ Y0 Y2);go_wp2;exact Y4.out _ rfl rfl rfl)
 ·exact absurd (fun Zz N=>by rcases dA.1 N with rfl|N;exact Yr.out.1;rw[Rj]at N;subst N;exact Yr.out.2) Y6
theorem GK(YS:mR g f k j i e c)(Yj:h.length<=4096)(YE:h≠kj)(YF:h≠jO)(YG:h≠mA)(YZ:fV 32 h=[mr,b,[62],d])(YU:(aO b).2=0)(YV:(aO d).2=0){Y3:bg}{out:List UInt8}{er:Int}(Y:dm g f [mr,b,[62],d] Y3 o out er):
 Calls Tryz.prog 15 #[.agg #[.slice k g.length i,.slice j f.length e],sv h] c fun Zx H=>eM Y3 o out er c Zx H:=by
 obtain⟨Zd,Ze,Zf,Zg,YT,Z5,Z6,Zh,L⟩:=YS;obtain⟨YN,W⟩:∃YN,(((c.alloc (.cells #[.slice k g.length i,.slice j f.length e] 50)).alloc (.cells #[.slice none 0 0,.slice none 0 0] 50)).alloc (.cells #[.int .i64 0,.int .i64 1,.int .i64 2,.int .i64 3,.int .i64 4,.int .i64 5] 3))=YN:=⟨_,rfl⟩;have YM:=pd.new c (.slice k g.length i) (.slice j f.length e);rw[W]at YM;have Y4:=hid YM;have Za:=hid W;have Zz:=hid (fun q(l:Below c.heap.size c q)=>(Zd.below l).mono l.size);have Z9:=hid (fun q(l:Below c.heap.size c q)=>(YT.below l).mono l.size);have Zi:=hid (jW h YN Yj);have ZB:=hid L;have ZD:=hid YZ;have au:(h==[99,108,111,115,101])=false:=by rw[aW];exact YE
 have av:(h==[114,117,108,101,115])=false:=by rw[aW];exact YF
 have aw:(h==[109,101,101,116])=false:=by rw[aW];exact YG
 have YX:Hid (mr.length<=4096∧(∀Zq,Zq<[b,[62],d].length->([b,[62],d][Zq]?.getD []).length<=4096)∧[b,[62],d].length<=5000):=by
  have Yd:=lO 32 h;have Y0:=jB 32 h;rw[YZ]at Yd Y0;refine⟨aK (Yd mr (by simp)) Yj,fun Zq L=>?_,by simp⟩;rw[an L];exact aK (Yd _ (by simp)) Yj
 have Zc:=hid (Y.ok L).1;clear W YM L YZ Yj YE YF YG;have Y9:=hid (YT);have aq:f.length<=40:=(by have:=(dV ZB.out.2).1;omega);unfold dm at Y;dsimp only at Y
 rw[aE (fun YS=>absurd YS.1 (by decide)),aD ⟨rfl,rfl,YU,YV⟩]at Y;obtain⟨rfl,Zk,Yr,Zn⟩:=Y;have ZA:Hid (∀Z8∈[b,d],(aO Z8).2=0):=fun Z8 Ym=>by rcases dA.1 Ym with rfl|Ym;exact YU;rw[Rj]at Ym;subst Ym;exact YV
 have Zb:=hid Zk;have Y8:=hid Yr;have ZC:=hid Zn;clear Zd YT YU YV Zk Yr Zn;go_enter Tryz.func15,Tryz.ntmps15;go_wp2_with fail;rw[Za.out];refine Zi.out.mono ?_;rintro Zx t⟨az,rfl,G,ZF⟩;rw[ZD.out]at G;obtain⟨R,ag,rfl,Z7,YW,X⟩:=G.at (by simp);have B:=Y4.out.below ZF;have ab:=B.d.cell0;have ad:=B.d.dh;have aj:=B.r.cell0;have ak:=B.r.dh;have al:=B.r.frozen 0;have ao:=B.r.frozen 1;have ZM:t.cell? ⟨R,0,none⟩=some (sv mr):=X 0 _ rfl;have Y5:=hid B;have S:=hid X;clear Zi Y4 B G X;have Zr:t.cell? ⟨R,1,none⟩=some (sv b):=S.out 1 _ rfl;have ZN:t.cell? ⟨R,2,none⟩=some (sv [62]):=S.out 2 _ rfl;have Zs:t.cell? ⟨R,3,none⟩=some (sv d):=S.out 3 _ rfl;have Yp:Below t.heap.size t t.drew:=bD (ah _ t) 1;have U:=Yp.alloc Yp.size (.cells #[sv b,sv d] 9);have Zj:=hid (jP [b,d] (some ⟨t.drew.heap.size,0,none⟩) 2 (t.drew.alloc (.cells ([b,d].map sv).toArray 9)) (ks.lit t.drew [b,d] 9) (fun Zq L=>by have Zw:=YX.out.2.1;match Zq,L with|0,_=>exact Zw 0 (by simp)|1,_=>exact Zw 2 (by simp)) (by simp));have N:=hid (fun q(l:Below t.heap.size t q)=>show q.cell? ⟨R,1,none⟩=some (sv b)∧q.cell? ⟨R,3,none⟩=some (sv d)from⟨(l.cell (p:=⟨R,1,none⟩) YW).trans Zr,(l.cell (p:=⟨R,3,none⟩) YW).trans Zs⟩);have Yt:=N.out t (ah _ _);have Yu:=N.out _ U;go_wp2;go_region_held3(fun H=>H.cell? ⟨R,1,none⟩=some (sv b)∧H.cell? ⟨R,3,none⟩=some (sv d))(first|assumption|exact Yt|exact Yu|exact Yv)((go_at_call 34;refine Zj.out.mono ?_;rintro Zx a⟨ZG,YY⟩;have YH:=U.trans (ZG.mono U.size);have Yv:=N.out a YH;obtain⟨_,ax,rfl,Zu⟩:=YY.resolve_right (fun YS=>YS.1 ZA.out)))
 obtain⟨D,ai,rfl,YD,Yc⟩:=Zu.cells (by simp);obtain⟨m,n,Yk,Yn⟩:=Yc 0 (by simp);obtain⟨r,s,Yl,G⟩:=Yc 1 (by simp);replace Yk:a.cell? ⟨D,0,none⟩=some (.slice m (aO b).1.length n):=Yk;replace Yn:cU _ a (.slice m (aO b).1.length n) (aO b).1:=Yn;replace Yl:a.cell? ⟨D,1,none⟩=some (.slice r (aO d).1.length s):=Yl;replace G:cU _ a (.slice r (aO d).1.length s) (aO d).1:=G;have T:=Y5.out.below YH;have ar:a.cell? ⟨R,0,none⟩=some (sv mr):=(YH.cell (p:=⟨R,0,none⟩) YW).trans ZM;generalize(aO b).1=I at*;generalize(aO d).1=J at*;obtain⟨_,_,P,Zo,ZP,ZQ⟩:=cU.ints Yn;cases P;obtain⟨_,_,P,Zp,Yd,Y0⟩:=cU.ints G;cases P;have u:Below a.heap.size a a.drew:=bD (ah _ a) 1;have YK:=hid (fun q(l:Below a.heap.size a q)=>fW.KA Zo l.size l);have YL:=hid (fun q(l:Below a.heap.size a q)=>fW.KA Zp l.size l);have Yi:=hid (fun q(l:Below a.heap.size a q)=>((Y9.out.below T.b).mono T.b.size).below l);have y:=hid (fun q(l:Below a.heap.size a q)=>show q.cell? ⟨c.heap.size,1,none⟩=some (.slice j f.length e)∧q.cell? ⟨D,0,none⟩=some (.slice m I.length n)∧q.cell? ⟨D,1,none⟩=some (.slice r J.length s)from⟨(T.below l).d.dh,(l.cell (p:=⟨D,0,none⟩) YD).trans Yk,(l.cell (p:=⟨D,1,none⟩) YD).trans Yl⟩);have O:Hid (∀q,lq q (a.alloc (.cells #[] 70))->oh 70 a.heap.size a q a.heap.size):=fun q l=>(oh.new _ (ah _ a) (af _)).same l
 have E:Hid (∀q,lq q ((a.alloc (.cells #[] 70)).alloc (.cells #[.slice m I.length n,.slice r J.length s] 70))->oh 70 a.heap.size a q a.heap.size∧eT q (a.heap.size+1) 70 (.slice m I.length n) (.slice r J.length s)):=fun q l=>by
  have K:=oh.new 70 (ah a.heap.size a) (af _);have Yh:=eT.new (a.alloc (.cells #[] 70)) 70 (.slice m I.length n) (.slice r J.length s);rw[bI]at Yh;exact⟨(K.alloc K.2.size _).same l,by rw[eT,l.1];exact Yh⟩
 have F:Hid (∀q,lq q ((a.alloc (.cells #[.slice m I.length n,.slice r J.length s] 70)).alloc (.cells #[] 70))->oh 70 a.heap.size a q (a.heap.size+1)∧eT q a.heap.size 70 (.slice m I.length n) (.slice r J.length s)):=fun q l=>by
  have Yg:Below a.heap.size a (a.alloc (.cells #[.slice m I.length n,.slice r J.length s] 70)):=(ah _ _).alloc (af _) _;have K:=oh.new 70 Yg Yg.size;rw[bI]at K;exact⟨K.same l,by rw[eT,l.1];exact(eT.new a _ _ _).alloc _⟩
 have YC:=hid (fun x Ye(w:Below a.heap.size a x)(Q:dC true 70 a.heap.size a.heap.size x Ye f)=>show Hid (∀q,lq q (x.alloc (.cells #[.slice m I.length n,.slice r J.length s] 70))->dC true 70 a.heap.size a.heap.size q Ye f∧Below a.heap.size a q∧eT q x.heap.size 70 (.slice m I.length n) (.slice r J.length s))from fun q l=>⟨(Q.below ((ah _ _).alloc (af _) _)).same l.1,l.below (w.alloc w.size _),by rw[eT,l.1];exact eT.new x _ _ _⟩);have YB:=y.out a (ah _ _);have YA:=fun Yo=>y.out (a.drew.alloc Yo) (u.alloc u.size Yo)
 have Yz:=fun Yo Zv=>y.out ((a.drew.alloc Yo).alloc Zv) ((u.alloc u.size Yo).alloc (u.alloc u.size Yo).size Zv)
 have Y6:=hid T;clear Zu Yn G Yc Yk Yl Zo Zp T Zr ZN Zs Yt Yu Yv N Zj;go_wp2;go_region_held3(fun H=>H.cell? ⟨c.heap.size,1,none⟩=some (.slice j f.length e)∧H.cell? ⟨D,0,none⟩=some (.slice m I.length n)∧H.cell? ⟨D,1,none⟩=some (.slice r J.length s))(first|assumption|exact YB|exact YA _|exact Yz _ _|exact Yw|exact Yx _|exact Yy)((first
  |(refine AO _ (by rfl) _ _ (by rfl) a.heap.size a.heap.size (af _) (.slice (some ⟨_,0,none⟩) 0 0) [] (by rfl) (by first|exact(O.out _ ⟨by rfl,by rfl,by rfl,by rfl⟩).lit|exact(E.out _ ⟨by rfl,by rfl,by rfl,by rfl⟩).1.lit|exact(F.out _ ⟨by rfl,by rfl,by rfl,by rfl⟩).1.lit) j e f (by rfl) Zh (by first|exact Yi.out _ (O.out _ ⟨by rfl,by rfl,by rfl,by rfl⟩).2|exact Yi.out _ (E.out _ ⟨by rfl,by rfl,by rfl,by rfl⟩).1.2|exact Yi.out _ (F.out _ ⟨by rfl,by rfl,by rfl,by rfl⟩).1.2) (by simp<;>omega) (by simp;omega) (by simp<;>omega) ?_
    intro Ye x Q YR Yf;rw[bV]at Q;have w:Below a.heap.size a x:=by first|exact(O.out _ ⟨by rfl,by rfl,by rfl,by rfl⟩).2.trans Yf|exact(E.out _ ⟨by rfl,by rfl,by rfl,by rfl⟩).1.2.trans Yf|exact(F.out _ ⟨by rfl,by rfl,by rfl,by rfl⟩).1.2.trans Yf
    have Yw:=y.out x w;have Yx:=(fun Yo=>y.out (x.alloc Yo) (w.alloc w.size Yo));have v:=YC.out x Ye w Q;(try have YP:Hid (eT x (a.heap.size+1) 70 (.slice m I.length n) (.slice r J.length s)):=by exact(E.out _ ⟨by rfl,by rfl,by rfl,by rfl⟩).2.kept YR (by simp[Value.ownBlock]))
    (try have YP:Hid (eT x a.heap.size 70 (.slice m I.length n) (.slice r J.length s)):=by exact(F.out _ ⟨by rfl,by rfl,by rfl,by rfl⟩).2.kept YR (by simp[Value.ownBlock])))
  |(refine uW _ (by rfl) _ _ (by rfl) a.heap.size a.heap.size (af _) Ye f (by rfl) (by first|exact(v.out _ ⟨by rfl,by rfl,by rfl,by rfl⟩).1|exact Q) _ m r I J n s (by rfl) (by first|exact(v.out _ ⟨by rfl,by rfl,by rfl,by rfl⟩).2.2.cell0|exact YP.out.cell0) (by first|exact(v.out _ ⟨by rfl,by rfl,by rfl,by rfl⟩).2.2.dh|exact YP.out.dh) (by first|exact YK.out _ (v.out _ ⟨by rfl,by rfl,by rfl,by rfl⟩).2.1|exact YK.out _ w) (by first|exact YL.out _ (v.out _ ⟨by rfl,by rfl,by rfl,by rfl⟩).2.1|exact YL.out _ w) ZP ZQ Yd Y0 (by omega) (by first|exact(v.out _ ⟨by rfl,by rfl,by rfl,by rfl⟩).2.1.size|exact w.size) ?_
    intro ZK ZI M Yq Zm YO;have YI:Below a.heap.size a M:=by first|exact(v.out _ ⟨by rfl,by rfl,by rfl,by rfl⟩).2.1.trans YO|exact w.trans YO
    have Yy:=y.out M YI)
  |fail))
 all_goals(
  obtain⟨aa,ae,P,Y2,ZO,Zt⟩:=Yq.at;have Z:(f++[(I,J)]).length=f.length+1:=by simp
  have YQ:=P;rw[Z]at YQ;obtain⟨rfl,_,rfl⟩:=vM YQ;have C:=Y6.out.below YI;have ZS:=C.d.cell0;have ZT:=C.d.dh;have ZW:=C.r.cell0;have ZX:=C.r.dh;have Z1:=C.r.frozen 0;have Z2:=C.r.frozen 1;have A:Below M.heap.size M M.drew:=bD (ah _ M) 1;have V:=pS (f++[(I,J)]) (some ⟨ZK,0,none⟩) ZI M.drew ((Y2.below A).mono A.size);rw[Z]at V;have Zy:=hid V;have ZE:=hid Y2;have Y7:=hid C;clear P YQ Y2 V Yq YO Zm Yy O E F YC YB YA Yz y Yi YK YL C YI w Q YR Yf v Yw Yx;generalize cm (f++[(I,J)])=Z0 at*;have ZJ:=Zb.out;subst ZJ;go_wp2;go_region_with(go_at_call 35;refine Zy.out.mono ?_;rintro Zx ay⟨rfl,ZH⟩;have YJ:=A.trans (ZH.mono A.size);have z:=Y7.out.below YJ;have ZU:=z.d.cell0;have ZV:=z.d.dh;have ZY:=z.r.cell0;have ZZ:=z.r.dh;have Z3:=z.r.frozen 0;have Z4:=z.r.frozen 1)
  all_goals(
   have ZR:=(ZE.out.below YJ).mono YJ.size;have Zl:=hid (fun tmps K Yh ZL=>eM.fin (tmps:=tmps) (er:=er) (out:=out) (o2:=OJ) Zc.out z.b z.r (fun Yg=>⟨rfl,by have Zw:=Y8.out;rw[aD Yg]at Zw;exact Zw.symm,ZC.out.symm⟩) (Zz.out _ z.b) Ze Zf Zg ZR ZO Zt (fun YS=>by cases YS) K Yh ZL);simp only[Z]at Zl;go_wp2;exact Zl.out _ rfl rfl rfl))
theorem Jk(Zc:mR g f j k e i c)(Yk:h.length<=4096)(YF:h≠kj)(YG:h≠jO)(YH:h≠mA)(YY:fV 32 h=[pK,b,[61],d])(X:(aO b).2=0)(YU:(aO d).2=0){Y2:bg}{out:List UInt8}{er:Int}(Z:dm g f [pK,b,[61],d] Y2 o out er):
 Calls Tryz.prog 15 #[.agg #[.slice j g.length e,.slice k f.length i],sv h] c fun Zx H=>eM Y2 o out er c Zx H:=by
 obtain⟨YT,Z5,Z6,Zd,Ze,Zf,Zg,Zh,L⟩:=Zc;obtain⟨YO,W⟩:∃YO,(((c.alloc (.cells #[.slice j g.length e,.slice k f.length i] 50)).alloc (.cells #[.slice none 0 0,.slice none 0 0] 50)).alloc (.cells #[.int .i64 0,.int .i64 1,.int .i64 2,.int .i64 3,.int .i64 4,.int .i64 5] 3))=YO:=⟨_,rfl⟩;have YN:=pd.new c (.slice j g.length e) (.slice k f.length i);rw[W]at YN;have Y3:=hid YN;have Y9:=hid W;have Z9:=hid (fun q(l:Below c.heap.size c q)=>(YT.below l).mono l.size);have Zz:=hid (fun q(l:Below c.heap.size c q)=>(Ze.below l).mono l.size);have Zi:=hid (jW h YO Yk);have ZB:=hid L;have ZD:=hid YY;have au:(h==[99,108,111,115,101])=false:=by rw[aW];exact YF
 have av:(h==[114,117,108,101,115])=false:=by rw[aW];exact YG
 have aw:(h==[109,101,101,116])=false:=by rw[aW];exact YH
 have YW:Hid (pK.length<=4096∧(∀Zq,Zq<[b,[61],d].length->([b,[61],d][Zq]?.getD []).length<=4096)∧[b,[61],d].length<=5000):=by
  have Ye:=lO 32 h;have YZ:=jB 32 h;rw[YY]at Ye YZ;refine⟨aK (Ye pK (by simp)) Yk,fun Zq L=>?_,by simp⟩;rw[an L];exact aK (Ye _ (by simp)) Yk
 have Zb:=hid (Z.ok L).1;clear W YN L YY Yk YF YG YH;have Y8:=hid (YT);have aq:g.length<=40:=(Az ZB.out.1 (sY X) (sY X)).1;unfold dm at Z;dsimp only at Z
 rw[aD ⟨rfl,rfl,X,YU⟩]at Z;obtain⟨rfl,Zk,Yt,Zn⟩:=Z;have ZA:Hid (∀Z8∈[b,d],(aO Z8).2=0):=fun Z8 Yn=>by rcases dA.1 Yn with rfl|Yn;exact X;rw[Rj]at Yn;subst Yn;exact YU
 have Za:=hid Zk;have Y7:=hid Yt;have ZC:=hid Zn;clear YT Ze X YU Zk Yt Zn;go_enter Tryz.func15,Tryz.ntmps15;go_wp2_with fail;rw[Y9.out];refine Zi.out.mono ?_;rintro Zx t⟨az,rfl,G,ZF⟩;rw[ZD.out]at G;obtain⟨R,ag,rfl,Z7,YV,Y⟩:=G.at (by simp);have B:=Y3.out.below ZF;have ab:=B.d.cell0;have ad:=B.d.dh;have aj:=B.r.cell0;have ak:=B.r.dh;have al:=B.r.frozen 0;have ao:=B.r.frozen 1;have ZM:t.cell? ⟨R,0,none⟩=some (sv pK):=Y 0 _ rfl;have Y4:=hid B;have S:=hid Y;clear Zi Y3 B G Y;have Zr:t.cell? ⟨R,1,none⟩=some (sv b):=S.out 1 _ rfl;have ZN:t.cell? ⟨R,2,none⟩=some (sv [61]):=S.out 2 _ rfl;have Zs:t.cell? ⟨R,3,none⟩=some (sv d):=S.out 3 _ rfl;have Yq:Below t.heap.size t t.drew:=bD (ah _ t) 1;have U:=Yq.alloc Yq.size (.cells #[sv b,sv d] 9);have Zj:=hid (jP [b,d] (some ⟨t.drew.heap.size,0,none⟩) 2 (t.drew.alloc (.cells ([b,d].map sv).toArray 9)) (ks.lit t.drew [b,d] 9) (fun Zq L=>by have Zw:=YW.out.2.1;match Zq,L with|0,_=>exact Zw 0 (by simp)|1,_=>exact Zw 2 (by simp)) (by simp));have N:=hid (fun q(l:Below t.heap.size t q)=>show q.cell? ⟨R,1,none⟩=some (sv b)∧q.cell? ⟨R,3,none⟩=some (sv d)from⟨(l.cell (p:=⟨R,1,none⟩) YV).trans Zr,(l.cell (p:=⟨R,3,none⟩) YV).trans Zs⟩);have Yu:=N.out t (ah _ _);have Yv:=N.out _ U;go_wp2;go_region_held3(fun H=>H.cell? ⟨R,1,none⟩=some (sv b)∧H.cell? ⟨R,3,none⟩=some (sv d))(first|assumption|exact Yu|exact Yv|exact Yw)((go_at_call 34;refine Zj.out.mono ?_;rintro Zx a⟨ZG,YX⟩;have YI:=U.trans (ZG.mono U.size);have Yw:=N.out a YI;obtain⟨_,ax,rfl,Zu⟩:=YX.resolve_right (fun Zc=>Zc.1 ZA.out)))
 obtain⟨D,ai,rfl,YE,Yd⟩:=Zu.cells (by simp);obtain⟨m,n,Yl,Yo⟩:=Yd 0 (by simp);obtain⟨r,s,Ym,G⟩:=Yd 1 (by simp);replace Yl:a.cell? ⟨D,0,none⟩=some (.slice m (aO b).1.length n):=Yl;replace Yo:cU _ a (.slice m (aO b).1.length n) (aO b).1:=Yo;replace Ym:a.cell? ⟨D,1,none⟩=some (.slice r (aO d).1.length s):=Ym;replace G:cU _ a (.slice r (aO d).1.length s) (aO d).1:=G;have T:=Y4.out.below YI;have ar:a.cell? ⟨R,0,none⟩=some (sv pK):=(YI.cell (p:=⟨R,0,none⟩) YV).trans ZM;generalize(aO b).1=I at*;generalize(aO d).1=J at*;obtain⟨_,_,P,Zo,ZP,ZQ⟩:=cU.ints Yo;cases P;obtain⟨_,_,P,Zp,Ye,YZ⟩:=cU.ints G;cases P;have u:Below a.heap.size a a.drew:=bD (ah _ a) 1;have YL:=hid (fun q(l:Below a.heap.size a q)=>fW.KA Zo l.size l);have YM:=hid (fun q(l:Below a.heap.size a q)=>fW.KA Zp l.size l);have Yj:=hid (fun q(l:Below a.heap.size a q)=>((Y8.out.below T.b).mono T.b.size).below l);have y:=hid (fun q(l:Below a.heap.size a q)=>show q.cell? ⟨c.heap.size,0,none⟩=some (.slice j g.length e)∧q.cell? ⟨D,0,none⟩=some (.slice m I.length n)∧q.cell? ⟨D,1,none⟩=some (.slice r J.length s)from⟨(T.below l).d.cell0,(l.cell (p:=⟨D,0,none⟩) YE).trans Yl,(l.cell (p:=⟨D,1,none⟩) YE).trans Ym⟩);have O:Hid (∀q,lq q (a.alloc (.cells #[] 79))->oh 79 a.heap.size a q a.heap.size):=fun q l=>(oh.new _ (ah _ a) (af _)).same l
 have E:Hid (∀q,lq q ((a.alloc (.cells #[] 79)).alloc (.cells #[.slice m I.length n,.slice r J.length s] 79))->oh 79 a.heap.size a q a.heap.size∧eT q (a.heap.size+1) 79 (.slice m I.length n) (.slice r J.length s)):=fun q l=>by
  have K:=oh.new 79 (ah a.heap.size a) (af _);have Yi:=eT.new (a.alloc (.cells #[] 79)) 79 (.slice m I.length n) (.slice r J.length s);rw[bI]at Yi;exact⟨(K.alloc K.2.size _).same l,by rw[eT,l.1];exact Yi⟩
 have F:Hid (∀q,lq q ((a.alloc (.cells #[.slice m I.length n,.slice r J.length s] 79)).alloc (.cells #[] 79))->oh 79 a.heap.size a q (a.heap.size+1)∧eT q a.heap.size 79 (.slice m I.length n) (.slice r J.length s)):=fun q l=>by
  have Yh:Below a.heap.size a (a.alloc (.cells #[.slice m I.length n,.slice r J.length s] 79)):=(ah _ _).alloc (af _) _;have K:=oh.new 79 Yh Yh.size;rw[bI]at K;exact⟨K.same l,by rw[eT,l.1];exact(eT.new a _ _ _).alloc _⟩
 have YD:=hid (fun x Yf(w:Below a.heap.size a x)(Q:dC true 79 a.heap.size a.heap.size x Yf g)=>show Hid (∀q,lq q (x.alloc (.cells #[.slice m I.length n,.slice r J.length s] 79))->dC true 79 a.heap.size a.heap.size q Yf g∧Below a.heap.size a q∧eT q x.heap.size 79 (.slice m I.length n) (.slice r J.length s))from fun q l=>⟨(Q.below ((ah _ _).alloc (af _) _)).same l.1,l.below (w.alloc w.size _),by rw[eT,l.1];exact eT.new x _ _ _⟩);have YC:=y.out a (ah _ _);have YB:=fun Yp=>y.out (a.drew.alloc Yp) (u.alloc u.size Yp)
 have YA:=fun Yp Zv=>y.out ((a.drew.alloc Yp).alloc Zv) ((u.alloc u.size Yp).alloc (u.alloc u.size Yp).size Zv)
 have Y5:=hid T;clear Zu Yo G Yd Yl Ym Zo Zp T Zr ZN Zs Yu Yv Yw N Zj;go_wp2;go_region_held3(fun H=>H.cell? ⟨c.heap.size,0,none⟩=some (.slice j g.length e)∧H.cell? ⟨D,0,none⟩=some (.slice m I.length n)∧H.cell? ⟨D,1,none⟩=some (.slice r J.length s))(first|assumption|exact YC|exact YB _|exact YA _ _|exact Yx|exact Yy _|exact Yz)((first
  |(refine AG _ (by rfl) _ _ (by rfl) a.heap.size a.heap.size (af _) (.slice (some ⟨_,0,none⟩) 0 0) [] (by rfl) (by first|exact(O.out _ ⟨by rfl,by rfl,by rfl,by rfl⟩).lit|exact(E.out _ ⟨by rfl,by rfl,by rfl,by rfl⟩).1.lit|exact(F.out _ ⟨by rfl,by rfl,by rfl,by rfl⟩).1.lit) j e g (by rfl) Zd (by first|exact Yj.out _ (O.out _ ⟨by rfl,by rfl,by rfl,by rfl⟩).2|exact Yj.out _ (E.out _ ⟨by rfl,by rfl,by rfl,by rfl⟩).1.2|exact Yj.out _ (F.out _ ⟨by rfl,by rfl,by rfl,by rfl⟩).1.2) (by simp<;>omega) (by simp;omega) (by simp<;>omega) ?_
    intro Yf x Q YS Yg;rw[bV]at Q;have w:Below a.heap.size a x:=by first|exact(O.out _ ⟨by rfl,by rfl,by rfl,by rfl⟩).2.trans Yg|exact(E.out _ ⟨by rfl,by rfl,by rfl,by rfl⟩).1.2.trans Yg|exact(F.out _ ⟨by rfl,by rfl,by rfl,by rfl⟩).1.2.trans Yg
    have Yx:=y.out x w;have Yy:=(fun Yp=>y.out (x.alloc Yp) (w.alloc w.size Yp));have v:=YD.out x Yf w Q;(try have YQ:Hid (eT x (a.heap.size+1) 79 (.slice m I.length n) (.slice r J.length s)):=by exact(E.out _ ⟨by rfl,by rfl,by rfl,by rfl⟩).2.kept YS (by simp[Value.ownBlock]))
    (try have YQ:Hid (eT x a.heap.size 79 (.slice m I.length n) (.slice r J.length s)):=by exact(F.out _ ⟨by rfl,by rfl,by rfl,by rfl⟩).2.kept YS (by simp[Value.ownBlock])))
  |(refine uQ _ (by rfl) _ _ (by rfl) a.heap.size a.heap.size (af _) Yf g (by rfl) (by first|exact(v.out _ ⟨by rfl,by rfl,by rfl,by rfl⟩).1|exact Q) _ m r I J n s (by rfl) (by first|exact(v.out _ ⟨by rfl,by rfl,by rfl,by rfl⟩).2.2.cell0|exact YQ.out.cell0) (by first|exact(v.out _ ⟨by rfl,by rfl,by rfl,by rfl⟩).2.2.dh|exact YQ.out.dh) (by first|exact YL.out _ (v.out _ ⟨by rfl,by rfl,by rfl,by rfl⟩).2.1|exact YL.out _ w) (by first|exact YM.out _ (v.out _ ⟨by rfl,by rfl,by rfl,by rfl⟩).2.1|exact YM.out _ w) ZP ZQ Ye YZ (by omega) (by first|exact(v.out _ ⟨by rfl,by rfl,by rfl,by rfl⟩).2.1.size|exact w.size) ?_
    intro ZK ZI M Yr Zm YP;have YJ:Below a.heap.size a M:=by first|exact(v.out _ ⟨by rfl,by rfl,by rfl,by rfl⟩).2.1.trans YP|exact w.trans YP
    have Yz:=y.out M YJ)
  |fail))
 all_goals(
  obtain⟨aa,ae,P,Y0,ZO,Zt⟩:=Yr.at;have Yc:(g++[(I,J)]).length=g.length+1:=by simp
  have YR:=P;rw[Yc]at YR;obtain⟨rfl,_,rfl⟩:=vM YR;have C:=Y5.out.below YJ;have ZS:=C.d.cell0;have ZT:=C.d.dh;have ZW:=C.r.cell0;have ZX:=C.r.dh;have Z1:=C.r.frozen 0;have Z2:=C.r.frozen 1;have A:Below M.heap.size M M.drew:=bD (ah _ M) 1;have V:=vg (g++[(I,J)]) (some ⟨ZK,0,none⟩) ZI M.drew ((Y0.below A).mono A.size);rw[Yc]at V;have Zy:=hid V;have ZE:=hid Y0;have Y6:=hid C;clear P YR Y0 V Yr YP Zm Yz O E F YD YC YB YA y Yj YL YM C YJ w Q YS Yg v Yx Yy;generalize fQ (g++[(I,J)])=Z0 at*;have ZJ:=Za.out;subst ZJ;go_wp2;go_region_with(go_at_call 36;refine Zy.out.mono ?_;rintro Zx ay⟨rfl,ZH⟩;have YK:=A.trans (ZH.mono A.size);have z:=Y6.out.below YK;have ZU:=z.d.cell0;have ZV:=z.d.dh;have ZY:=z.r.cell0;have ZZ:=z.r.dh;have Z3:=z.r.frozen 0;have Z4:=z.r.frozen 1)
  all_goals(
   have ZR:=(ZE.out.below YK).mono YK.size;have Zl:=hid (fun tmps K Yi ZL=>eM.fin (tmps:=tmps) (er:=er) (out:=out) (o2:=OJ) Zb.out z.b z.r (fun Yh=>⟨by have Zw:=Y7.out;rw[aD Yh]at Zw;exact Zw.symm,rfl,ZC.out.symm⟩) ZR ZO Zt (fun Zc=>by cases Zc) (Zz.out _ z.b) Zf Zg Zh K Yi ZL);simp only[Yc]at Zl;go_wp2;exact Zl.out _ rfl rfl rfl))
theorem DC(y:mR g f j k e i c)(w:h.length<=4096)(E:h≠kj)(F:h≠jO)(G:h≠mA)(M:fV 32 h=[pK,b,[61],d])(D:¬((aO b).2=0∧(aO d).2=0)):
 Calls Tryz.prog 15 #[.agg #[.slice j g.length e,.slice k f.length i],sv h] c fun Yn x=>eM g f [] 1 c Yn x:=by
 obtain⟨T,U,V,W,X,Y,Z,Yc,o⟩:=y;obtain⟨J,t⟩:∃J,(((c.alloc (.cells #[.slice j g.length e,.slice k f.length i] 50)).alloc (.cells #[.slice none 0 0,.slice none 0 0] 50)).alloc (.cells #[.int .i64 0,.int .i64 1,.int .i64 2,.int .i64 3,.int .i64 4,.int .i64 5] 3))=J:=⟨_,rfl⟩;have H:=pd.new c (.slice j g.length e) (.slice k f.length i);rw[t]at H;have Q:=hid H;have S:=hid t;have Yg:=hid (fun I(n:Below c.heap.size c I)=>(T.below n).mono n.size);have Yh:=hid (fun I(n:Below c.heap.size c I)=>(X.below n).mono n.size);have Yd:=hid (jW h J w);have Yj:=hid o;have Yk:=hid M;have YP:(h==[99,108,111,115,101])=false:=by rw[aW];exact E
 have YQ:(h==[114,117,108,101,115])=false:=by rw[aW];exact F
 have YR:(h==[109,101,101,116])=false:=by rw[aW];exact G
 have K:Hid (pK.length<=4096∧(∀Yf,Yf<[b,[61],d].length->([b,[61],d][Yf]?.getD []).length<=4096)∧[b,[61],d].length<=5000):=by
  have O:=lO 32 h;have Yw:=jB 32 h;rw[M]at O Yw;refine⟨aK (O pK (by simp)) w,fun Yf o=>?_,by simp⟩;rw[an o];exact aK (O _ (by simp)) w
 clear t H T X o M w E F G;have Yi:Hid (¬∀YS∈[b,d],(aO YS).2=0):=fun y=>D ⟨y b (by simp),y d (by simp)⟩
 clear D;go_enter Tryz.func15,Tryz.ntmps15;go_wp2_with fail;rw[S.out];refine Yd.out.mono ?_;rintro Yn a⟨YT,rfl,N,Yl⟩;rw[Yk.out]at N;obtain⟨v,YI,rfl,YE,Ye,u⟩:=N.at (by simp);have m:=Q.out.below Yl;have YG:=m.d.cell0;have YH:=m.d.dh;have YJ:=m.r.cell0;have YK:=m.r.dh;have YL:=m.r.frozen 0;have YM:=m.r.frozen 1;have YN:a.cell? ⟨v,0,none⟩=some (sv pK):=u 0 _ rfl;have R:=hid m;have q:=hid u;clear Yd Q m N u;have Yu:a.cell? ⟨v,1,none⟩=some (sv b):=q.out 1 _ rfl;have YO:a.cell? ⟨v,2,none⟩=some (sv [61]):=q.out 2 _ rfl;have Yv:a.cell? ⟨v,3,none⟩=some (sv d):=q.out 3 _ rfl;have z:Below a.heap.size a a.drew:=bD (ah _ a) 1;have r:=z.alloc z.size (.cells #[sv b,sv d] 9);have Yr:=hid (jP [b,d] (some ⟨a.drew.heap.size,0,none⟩) 2 (a.drew.alloc (.cells ([b,d].map sv).toArray 9)) (ks.lit a.drew [b,d] 9) (fun Yf o=>by have YF:=K.out.2.1;match Yf,o with|0,_=>exact YF 0 (by simp)|1,_=>exact YF 2 (by simp)) (by simp));have s:=hid (fun I(n:Below a.heap.size a I)=>show I.cell? ⟨v,1,none⟩=some (sv b)∧I.cell? ⟨v,3,none⟩=some (sv d)from⟨(n.cell (p:=⟨v,1,none⟩) Ye).trans Yu,(n.cell (p:=⟨v,3,none⟩) Ye).trans Yv⟩);have A:=s.out a (ah _ _);have B:=s.out _ r;go_wp2;go_region_held3(fun x=>x.cell? ⟨v,1,none⟩=some (sv b)∧x.cell? ⟨v,3,none⟩=some (sv d))(first|assumption|exact A|exact B|exact C)((go_at_call 34;refine Yr.out.mono ?_;rintro Yn Yx⟨Ym,L⟩;have P:=r.trans (Ym.mono r.size);have C:=s.out Yx P;obtain⟨_,rfl⟩:=L.resolve_left (fun y=>Yi.out y.1)))
 have l:=R.out.below P;have Yy:=l.d.cell0;have Yz:=l.d.dh;have YA:=l.r.cell0;have YB:=l.r.dh;have YC:=l.r.frozen 0;have YD:=l.r.frozen 1;have Yt:=hid (fun tmps Yo Yp Yq=>eM.fin (tmps:=tmps) (er:=1) (out:=[]) (o2:=[]) Yj.out l.b l.r (fun y=>absurd y (by decide)) (Yg.out _ l.b) U V W (Yh.out _ l.b) Y Z Yc Yo Yp Yq);clear l A B C;go_wp2;exact Yt.out _ rfl rfl rfl
theorem Cv(y:mR g f j k e i c)(w:h.length<=4096)(E:h≠kj)(F:h≠jO)(G:h≠mA)(M:fV 32 h=[mr,b,[62],d])(D:¬((aO b).2=0∧(aO d).2=0)):
 Calls Tryz.prog 15 #[.agg #[.slice j g.length e,.slice k f.length i],sv h] c fun Yn x=>eM g f [] 1 c Yn x:=by
 obtain⟨T,U,V,W,X,Y,Z,Yc,o⟩:=y;obtain⟨J,t⟩:∃J,(((c.alloc (.cells #[.slice j g.length e,.slice k f.length i] 50)).alloc (.cells #[.slice none 0 0,.slice none 0 0] 50)).alloc (.cells #[.int .i64 0,.int .i64 1,.int .i64 2,.int .i64 3,.int .i64 4,.int .i64 5] 3))=J:=⟨_,rfl⟩;have H:=pd.new c (.slice j g.length e) (.slice k f.length i);rw[t]at H;have Q:=hid H;have S:=hid t;have Yg:=hid (fun I(n:Below c.heap.size c I)=>(T.below n).mono n.size);have Yh:=hid (fun I(n:Below c.heap.size c I)=>(X.below n).mono n.size);have Yd:=hid (jW h J w);have Yj:=hid o;have Yk:=hid M;have YP:(h==[99,108,111,115,101])=false:=by rw[aW];exact E
 have YQ:(h==[114,117,108,101,115])=false:=by rw[aW];exact F
 have YR:(h==[109,101,101,116])=false:=by rw[aW];exact G
 have K:Hid (mr.length<=4096∧(∀Yf,Yf<[b,[62],d].length->([b,[62],d][Yf]?.getD []).length<=4096)∧[b,[62],d].length<=5000):=by
  have O:=lO 32 h;have Yw:=jB 32 h;rw[M]at O Yw;refine⟨aK (O mr (by simp)) w,fun Yf o=>?_,by simp⟩;rw[an o];exact aK (O _ (by simp)) w
 clear t H T X o M w E F G;have Yi:Hid (¬∀YS∈[b,d],(aO YS).2=0):=fun y=>D ⟨y b (by simp),y d (by simp)⟩
 clear D;go_enter Tryz.func15,Tryz.ntmps15;go_wp2_with fail;rw[S.out];refine Yd.out.mono ?_;rintro Yn a⟨YT,rfl,N,Yl⟩;rw[Yk.out]at N;obtain⟨v,YI,rfl,YE,Ye,u⟩:=N.at (by simp);have m:=Q.out.below Yl;have YG:=m.d.cell0;have YH:=m.d.dh;have YJ:=m.r.cell0;have YK:=m.r.dh;have YL:=m.r.frozen 0;have YM:=m.r.frozen 1;have YN:a.cell? ⟨v,0,none⟩=some (sv mr):=u 0 _ rfl;have R:=hid m;have q:=hid u;clear Yd Q m N u;have Yu:a.cell? ⟨v,1,none⟩=some (sv b):=q.out 1 _ rfl;have YO:a.cell? ⟨v,2,none⟩=some (sv [62]):=q.out 2 _ rfl;have Yv:a.cell? ⟨v,3,none⟩=some (sv d):=q.out 3 _ rfl;have z:Below a.heap.size a a.drew:=bD (ah _ a) 1;have r:=z.alloc z.size (.cells #[sv b,sv d] 9);have Yr:=hid (jP [b,d] (some ⟨a.drew.heap.size,0,none⟩) 2 (a.drew.alloc (.cells ([b,d].map sv).toArray 9)) (ks.lit a.drew [b,d] 9) (fun Yf o=>by have YF:=K.out.2.1;match Yf,o with|0,_=>exact YF 0 (by simp)|1,_=>exact YF 2 (by simp)) (by simp));have s:=hid (fun I(n:Below a.heap.size a I)=>show I.cell? ⟨v,1,none⟩=some (sv b)∧I.cell? ⟨v,3,none⟩=some (sv d)from⟨(n.cell (p:=⟨v,1,none⟩) Ye).trans Yu,(n.cell (p:=⟨v,3,none⟩) Ye).trans Yv⟩);have A:=s.out a (ah _ _);have B:=s.out _ r;go_wp2;go_region_held3(fun x=>x.cell? ⟨v,1,none⟩=some (sv b)∧x.cell? ⟨v,3,none⟩=some (sv d))(first|assumption|exact A|exact B|exact C)((go_at_call 34;refine Yr.out.mono ?_;rintro Yn Yx⟨Ym,L⟩;have P:=r.trans (Ym.mono r.size);have C:=s.out Yx P;obtain⟨_,rfl⟩:=L.resolve_left (fun y=>Yi.out y.1)))
 have l:=R.out.below P;have Yy:=l.d.cell0;have Yz:=l.d.dh;have YA:=l.r.cell0;have YB:=l.r.dh;have YC:=l.r.frozen 0;have YD:=l.r.frozen 1;have Yt:=hid (fun tmps Yo Yp Yq=>eM.fin (tmps:=tmps) (er:=1) (out:=[]) (o2:=[]) Yj.out l.b l.r (fun y=>absurd y (by decide)) (Yg.out _ l.b) U V W (Yh.out _ l.b) Y Z Yc Yo Yp Yq);clear l A B C;go_wp2;exact Yt.out _ rfl rfl rfl
theorem eM.bad(b:bg)(d:bu)(a:List UInt8)(k:eM g f [] 1 c u q):eM b d a 1 c u q:=by
 obtain⟨l,e,n,i,h,o,j,p,m,_⟩:=k;exact⟨l,e,n,i,h,o,j,p,m,fun k=>absurd k (by decide)⟩
theorem Kg(v:mR g f j k e i c)(u:b.length<=4096)(a:dm g f (fV 32 b) p o d t):
 Calls Tryz.prog 15 #[.agg #[.slice j g.length e,.slice k f.length i],sv b] c fun G x=>eM p o d t c G x:=by
 by_cases n:b=kj
 ·subst n;exact EZ v a
 by_cases q:b=jO
 ·subst q;exact Fu v a
 by_cases r:b=mA
 ·subst r;exact Gk v a
 obtain⟨A,z,l⟩:∃A z,fV 32 b=A::z:=by
  cases m:fV 32 b with
  |nil=>exact absurd m (uw _ _)
  |cons A z=>exact⟨A,z,rfl⟩
 rw[l]at a;have s:∀{p:bg}{o:bu}{t:Int},p=g∧o=f∧t=1->Calls Tryz.prog 15 #[.agg #[.slice j g.length e,.slice k f.length i],sv b] c (fun G x=>eM g f [] 1 c G x)->Calls Tryz.prog 15 #[.agg #[.slice j g.length e,.slice k f.length i],sv b] c fun G x=>eM p o d t c G x:=by
  rintro _ _ _⟨rfl,rfl,rfl⟩I;exact I.mono fun G x v=>v.bad _ _ _
 match z,l,a with
 |[],l,a=>
  have y:A=b:=by
   have m:=jB 32 b;rw[l]at m;have H:(32:UInt8)∉b:=fun J=>by have:=List.count_pos_iff.2 J;simp at m;omega
   rw[qK H]at l;simpa using l.symm
  unfold dm at a;dsimp only at a
  rw[aE (by rw[y];exact n),aE (by rw[y];exact q),aE (by rw[y];exact r)]at a;exact s a (Jq v u n q r l)
 |[B],l,a=>
  by_cases h:(aO B).2=0
  ·by_cases D:A=nI
   ·subst D;exact Ij v u n q r l h a
   ·unfold dm at a
    dsimp only at a
    rw[aE (fun m=>D m.1)]at a;exact s a (vb v u n q r l (by simp) (by simp) (by simpa using h) ⟨fun m=>D m.1,fun m=>by simp at m⟩)
  ·unfold dm at a
   dsimp only at a
   rw[aE (fun m=>h m.2)]at a;exact s a (yz v u n q r l (by simp) (by simp) (by simpa using h))
 |[B,F],l,a=>
  by_cases h:(aO B).2=0∧(aO F).2=0
  ·by_cases w:A=nh
   ·subst w;exact Ga v u n q r l h.1 h.2 a
   ·by_cases C:A=kS
    ·subst C;exact Fk v u n q r l h.1 h.2 a
    ·unfold dm at a
     dsimp only at a
     rw[aE (fun m=>w m.1),aE (fun m=>C m.1)]at a;exact s a (vb v u n q r l (by simp) (by simp) (by simpa using h) ⟨fun m=>by simp at m,fun m=>m.1.elim w C⟩)
  ·unfold dm at a
   dsimp only at a
   rw[aE (fun m=>h m.2),aE (fun m=>h m.2)]at a;exact s a (yz v u n q r l (by simp) (by simp) (by simpa using h))
 |[B,K,F],l,a=>
  by_cases w:A=pK∧K=[61]
  ·obtain⟨rfl,rfl⟩:=w
   by_cases h:(aO B).2=0∧(aO F).2=0
   ·exact Jk v u n q r l h.1 h.2 a
   ·unfold dm at a
    dsimp only at a
    rw[aE (fun m=>h m.2.2),aE (fun m=>absurd m.1 (by decide))]at a;exact s a (DC v u n q r l h)
  ·by_cases E:A=mr∧K=[62]
   ·obtain⟨rfl,rfl⟩:=E
    by_cases h:(aO B).2=0∧(aO F).2=0
    ·exact GK v u n q r l h.1 h.2 a
    ·unfold dm at a
     dsimp only at a
     rw[aE (fun m=>absurd m.1 (by decide)),aE (fun m=>h m.2.2)]at a;exact s a (Cv v u n q r l h)
   ·unfold dm at a
    dsimp only at a
    rw[aE (fun m=>w ⟨m.1,m.2.1⟩),aE (fun m=>E ⟨m.1,m.2.1⟩)]at a;exact s a (E8 v u n q r l (fun m=>m.elim w E))
 |B::F::L::M::N,l,a=>
  by_cases h:∀O∈B::F::L::M::N,(aO O).2=0
  ·exact s a (vb v u n q r l (by simp) (by simp) h ⟨fun m=>by simp at m,fun m=>by simp at m⟩)
  ·exact s a (yz v u n q r l (by simp) (by simp) h)
theorem Ph(f:eT c e 50 (.slice none 0 0) (.slice none 0 0))(a b:Value):eT ((c.setCell ⟨e,0,none⟩ a).setCell ⟨e,1,none⟩ b) e 50 a b∧(∀g rs,rV rs->dw c.heap.size c g rs->dw ((c.setCell ⟨e,0,none⟩ a).setCell ⟨e,1,none⟩ b).heap.size ((c.setCell ⟨e,0,none⟩ a).setCell ⟨e,1,none⟩ b) g rs)∧(∀C,C≠e->((c.setCell ⟨e,0,none⟩ a).setCell ⟨e,1,none⟩ b).heap[C]?=c.heap[C]?)∧∀n m,n<=e->Below n m c->Below n m ((c.setCell ⟨e,0,none⟩ a).setCell ⟨e,1,none⟩ b):=by
 obtain⟨h,d,i⟩:=ED f a b;exact⟨h,fun g rs k l=>l.put k f (by simp) (fun o j _=>d o j),d,i⟩
theorem dw.Qz{a:Option Addr}(Yg:dw c.heap.size c a p)(R:rV p)(O:eT c e 50 (.slice j g.length i) (.slice k w.length v))(P:dw c.heap.size c j g)(Yi:c.heap.size<=q.heap.size)(u:∀h,h≠e->q.heap[h]?=c.heap[h]?):dw q.heap.size q a p:=fun G o=>by
 obtain⟨h,d,l,Yh,I,K,J,L,z,A,B,N,Yk⟩:=Yg G o;obtain⟨V,Yj⟩:=R G o;have t:∀y H,c.cell? ⟨e,y,none⟩=some H->(y=0∧H=.slice j g.length i)∨(y=1∧H=.slice k w.length v):=fun y H b=>by
  rw[dp O y]at b;match y,b with
  |0,b=>exact .inl ⟨rfl,by simpa using b.symm⟩
  |1,b=>exact .inr ⟨rfl,by simpa using b.symm⟩
  |y+2,b=>simp at b
 have r:h≠e:=fun l=>by
  subst l;rcases t _ _ A with⟨l,_⟩|⟨l,_⟩
  ·omega
  ·rcases t _ _ z with⟨_,s⟩|⟨s,_⟩
   ·simp only[iS]at s
    obtain⟨rfl,Yf,_⟩:=s;obtain⟨Yd,T,W,_,X⟩:=B 0 V;obtain⟨Ye,U,D,_,_,_,_,_,E,_⟩:=P 0 (by omega);rw[W]at D;cases D;rw[RO,X]at E;simp at E
   ·omega
 have C:∀{Yc:Option Addr}{F:List Int},cZ c.heap.size c Yc F->cZ q.heap.size q Yc F:=fun S Z Q=>by
  obtain⟨m,f,M,Y,n⟩:=S Z Q;have x:m≠e:=fun l=>by
   subst l;rcases t _ _ n with⟨_,l⟩|⟨_,l⟩<;>simp at l
  exact⟨m,f,M,by omega,(aH (a:=⟨m,f+Z,none⟩) (u m x)).trans n⟩
 exact⟨h,d,l,by omega,I,K,J,L,(aH (a:=⟨h,d+G*2,none⟩) (u h r)).trans z,(aH (a:=⟨h,d+G*2+1,none⟩) (u h r)).trans A,C B,C N,Yk⟩
theorem yD(a:e<b.length):(b.take (e+1)).count 10=(b.take e).count 10+if b[e]?.getD 0=10 then 1 else 0:=by
 rw[dz a,List.count_append,an a];by_cases c:b[e]=10
 ·simp[c]
 ·simp[c]
theorem JN(c:i<b.length)(g:e<=i)(d:10∉(b.drop e).take (i-e))(a:b[i]?.getD 0=10):gV (b.drop e)=(b.drop e).take (i-e)::gV (b.drop (i+1)):=by
 have f:b.drop e=(b.drop e).take (i-e)++10::b.drop (i+1):=by
  conv=>lhs;rw[<-fM (i-e) (b.drop e)]
  rw[kt,show e+(i-e)=i by omega,bZ c];rw[an c]at a;rw[show b[i]=10 from a]
 conv=>lhs;rw[f]
 exact zJ d
theorem Pw(d:e<b.length)(h:i<=e)(f:10∉(b.drop i).take (e-i))(c:b[e]?.getD 0≠10):10∉(b.drop i).take (e+1-i):=by
 rw[show e+1-i=(e-i)+1 by omega,dz (by rw[cH];omega),dZ,not_or];refine⟨f,fun a=>c ?_⟩;rw[Rj,List.getElem_drop]at a;rw[an d];have g:i+(e-i)=e:=by omega
 simp only[g]at a;exact a.symm
theorem Im(a:List UInt8)(w:World)(u:a.length<=maxLen)(c:4096<a.length∨40<a.count 10):Calls Tryz.prog 5 #[sv a] w fun B x=>B=.returned (.tuple #[sv [],.int .i64 2])∧x=w:=by
 unfold maxLen at u;have A:(a.length:Int)<=9223372036854775807:=by omega
 go_enter Tryz.func5,Tryz.ntmps5;go_wp2;go_loopw [4,5](fun s m wr=>∃b e:Nat,b<=a.length∧m=.int .i64 (b:Int)∧s=.int .i64 (e:Int)∧Hid (e=(a.take b).count 10)∧e<=41∧wr=w)(fun _ m _=>a.length-(intOf m).toNat)
 case atStart=>exact⟨0,0,bf _,rfl,rfl,hid (by simp),by omega,rfl⟩
 case round=>
  obtain⟨b,e,C,rfl,rfl,l,t,q⟩:=hrel;obtain rfl:=q.symm;have r:(e:Int)<=41:=by omega
  by_cases d:b<a.length
  ·have v:(b:Int)<(a.length:Int):=by omega
   have z:(0:Int)<=(b:Int):=by omega
   by_cases y:e<=40
   ·have k:(e:Int)<=40:=by omega
    have g:(⟨a.toArray⟩:ByteArray)[b]'(by show b<a.toArray.size;simpa using d)=a[b]?.getD 0:=by rw[an d];rfl
    have f:=yD d;by_cases c:a[b]?.getD 0=10
    ·have p:((((⟨a.toArray⟩:ByteArray)[b]'(by show b<a.toArray.size;simpa using d)).toNat:Int)==10)=true:=by rw[g,c];rfl
     have i:Hid (e+1=(a.take (b+1)).count 10):=by show _=_;rw[f,aD c,l.out]
     clear g c f;go_wp2;go_roundw
     case rel=>exact⟨b+1,e+1,by omega,by go_num,by go_num,i,by omega,(by first|rfl|trivial)⟩
     case measure=>simp[intOf];omega
    ·have p:((((⟨a.toArray⟩:ByteArray)[b]'(by show b<a.toArray.size;simpa using d)).toNat:Int)==10)=false:=by
      rw[g,aW];intro D;exact c (kJ.1 (by show(a[b]?.getD 0).toNat=10;omega))
     have i:Hid (e=(a.take (b+1)).count 10):=by show _=_;rw[f,aE c,l.out,gp]
     clear g c f;go_wp2;go_roundw
     case rel=>exact⟨b+1,e,by omega,by go_num,rfl,i,by omega,(by first|rfl|trivial)⟩
     case measure=>simp[intOf];omega
   ·have k:¬(e:Int)<=40:=by omega
    have o:(40:Int)<(e:Int):=by omega
    by_cases n:4096<a.length
    all_goals(
     first|(have h:(4096:Int)<(a.length:Int):=by omega)|(have h:¬(4096:Int)<(a.length:Int):=by omega)
     go_wp2;go_ret2
     exact⟨rfl,rfl⟩)
  ·obtain rfl:b=a.length:=by omega
   have j:=l.out;rw[cJ]at j;by_cases n:4096<a.length
   ·have h:(4096:Int)<(a.length:Int):=by omega
    go_wp2;go_ret2
    exact⟨rfl,rfl⟩
   ·have h:¬(4096:Int)<(a.length:Int):=by omega
    have o:(40:Int)<(e:Int):=by have:=c.resolve_left n;omega
    clear j;go_wp2;go_ret2
    exact⟨rfl,rfl⟩
theorem Iz(a:List UInt8)(z:World)(x:a.length<=maxLen)(K:a.length<=4096)(n:a.count 10<=40)(d:a≠[]∧a.getLast?≠some 10):Calls Tryz.prog 5 #[sv a] z fun J A=>J=.returned (.tuple #[sv [],.int .i64 1])∧A=z:=by
 unfold maxLen at x;have H:(a.length:Int)<=9223372036854775807:=by omega
 go_enter Tryz.func5,Tryz.ntmps5;go_wp2;go_loopw [4,5](fun s o wr=>∃c i:Nat,c<=a.length∧o=.int .i64 (c:Int)∧s=.int .i64 (i:Int)∧Hid (i=(a.take c).count 10)∧i<=41∧wr=z)(fun _ o _=>a.length-(intOf o).toNat)
 case atStart=>exact⟨0,0,bf _,rfl,rfl,hid (by simp),by omega,rfl⟩
 case round=>
  obtain⟨c,i,L,rfl,rfl,k,v,q⟩:=hrel;obtain rfl:=q.symm;have r:(i:Int)<=41:=by omega
  by_cases f:c<a.length
  ·have y:(c:Int)<(a.length:Int):=by omega
   have E:(0:Int)<=(c:Int):=by omega
   by_cases C:i<=40
   ·have u:(i:Int)<=40:=by omega
    have b:(⟨a.toArray⟩:ByteArray)[c]'(by show c<a.toArray.size;simpa using f)=a[c]?.getD 0:=by rw[an f];rfl
    have g:=yD f;by_cases d:a[c]?.getD 0=10
    ·have l:((((⟨a.toArray⟩:ByteArray)[c]'(by show c<a.toArray.size;simpa using f)).toNat:Int)==10)=true:=by rw[b,d];rfl
     have j:Hid (i+1=(a.take (c+1)).count 10):=by show _=_;rw[g,aD d,k.out]
     clear b d g;go_wp2;go_roundw
     case rel=>exact⟨c+1,i+1,by omega,by go_num,by go_num,j,by omega,(by first|rfl|trivial)⟩
     case measure=>simp[intOf];omega
    ·have l:((((⟨a.toArray⟩:ByteArray)[c]'(by show c<a.toArray.size;simpa using f)).toNat:Int)==10)=false:=by
      rw[b,aW];intro t;exact d (kJ.1 (by show(a[c]?.getD 0).toNat=10;omega))
     have j:Hid (i=(a.take (c+1)).count 10):=by show _=_;rw[g,aE d,k.out,gp]
     clear b d g;go_wp2;go_roundw
     case rel=>exact⟨c+1,i,by omega,by go_num,rfl,j,by omega,(by first|rfl|trivial)⟩
     case measure=>simp[intOf];omega
   ·exact absurd (aK (vT 10 (List.take_sublist c a)) n) (by rw[<-k.out];omega)
  ·obtain rfl:c=a.length:=by omega
   have m:=k.out;rw[cJ]at m;have B:¬(4096:Int)<(a.length:Int):=by omega
   have D:¬(40:Int)<(i:Int):=by omega
   have M:0<a.length:=kN.2 d.1;have I:(0:Int)<(a.length:Int):=by omega
   obtain⟨h,p⟩:∃h,a.length=h+1:=⟨a.length-1,by omega⟩;have e:h<a.length:=by omega
   have b:(⟨a.toArray⟩:ByteArray)[h]'(by show h<a.toArray.size;simpa using e)=a[h]?.getD 0:=by rw[an e];rfl
   have l:((((⟨a.toArray⟩:ByteArray)[h]'(by show h<a.toArray.size;simpa using e)).toNat:Int)!=10)=true:=by
    rw[b,bne_iff_ne];intro t;refine d.2 ?_;rw[sO,p,Nat.add_sub_cancel,an e];rw[an e]at t;exact RG some (kJ.1 (by show a[h].toNat=10;have:((a[h]).toNat:Int)=10:=t;omega))
   have G:(a.length:Int)-1=(h:Int):=by omega
   have w:(h:Int)<(a.length:Int):=by omega
   have F:(0:Int)<=(h:Int):=by omega
   clear m b d p;go_wp2;go_ret2
   exact⟨rfl,rfl⟩
