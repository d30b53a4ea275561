/-
  Parts of the proof.
-/
import Derived.Test.YtglohanbpjaieaaGreatDoorBdp27
set_option maxHeartbeats 8000000
set_option maxRecDepth 100000
namespace Go.Proofs.YtglohanbpjaieaaGreatDoor
open Go.Proofs Go.RowKit Go.Shelf Go.Maps
variable {a d:Nat}{b f r:World}{c:Act}{e:Oper}{g:TypeId}{h:Act->World->Prop}{i:Array Oper}{l:List Int}{m:Exit->Act->World->Prop}{n:Prop}{o:Option Addr}{p:Value}{q:bg}
def nD(rs:bu)(ps:bg)(A B:List Int)(er:Int)(iy:bu)(iY:bg):Prop:=
 (ja A≠0∧er=ja A∧iy=[]∧iY=[])∨(ja A=0∧jm rs ps (dN A) (gD A B) er iy iY)
theorem fW.drop{base:Nat}(n:fW true base b (some ⟨d,a,none⟩) l)(c:Nat):fW true base b (some ⟨d,a+c,none⟩) (l.drop c):=fun i h=>by
 rw[cH]at h;obtain⟨k,j,m,e,f,g⟩:=n (c+i) (by omega);cases m;exact⟨d,a+c,rfl,e,f,by rw[oV,show a+c+i=a+(c+i)from by omega];exact g⟩
theorem fW.take{base:Nat}(i:fW true base b o l)(k:Nat):fW true base b o (l.take k):=fun j g=>by
 rw[cX]at g;obtain⟨c,a,h,d,e,f⟩:=i j (by omega);exact⟨c,a,h,d,e,by rw[oI (by omega)];exact f⟩
theorem dC.lit(e:TypeId)(b c:Nat)(a:World)(f:b<=a.heap.size):dC true e b c (a.alloc (.cells #[] e)) (.slice (some ⟨a.heap.size,0,none⟩) 0 0) []:=
 ⟨[],⟨rfl,.inr ⟨a.heap.size,0,#[],rfl,f,aM a _,af _,by unfold maxLen;omega,rfl,rfl⟩⟩,fun g d=>by simp at d⟩
theorem mn.x{base eb:Nat}(l:mn base b p q):dC true 79 base eb b p q:=by
 obtain⟨w,m,n⟩:=l;refine⟨w,m,fun t a=>?_⟩;obtain⟨g,i,h,j,u,v,r,s,B⟩:=n t a;have c:∀{x:Option Addr}{f:List Int},jA base b x f->fW true eb b x f:=fun l t a=>by
  obtain⟨y,e,z,_,⟨k,A,d⟩,o⟩:=l t a;exact⟨y,e,z,.inr ⟨.inl rfl,k,A,d⟩,(ak.1 d).1,o⟩
 exact⟨g,i,h,j,u,v,c r,c s,B⟩
theorem dC.same(e:dC true g a d b p q)(c:f.heap=b.heap):dC true g a d f p q:=e.eV (by rw[c];exact af _) (fun i _=>by rw[c]) fun h _ _=>by rw[c]
theorem fW.same{base:Nat}(c:fW true base b o l)(a:f.heap=b.heap):fW true base f o l:=c.eV (by rw[a];exact af _) fun d _ _=>by rw[a]
theorem zx(a:Nat):∀j k,k<j->(kl a j)[2*k]?=some (k,a)∧(kl a j)[2*k+1]?=some (a,k):=by
 intro j;induction j with
 |zero=>intro k b;omega
 |succ j d=>
  intro k b;have c:=oF a j;rw[sD];by_cases e:k=j
  ·subst e
   rw[aU (by omega),aU (by omega),c,oe,show 2*k+1-2*k=1 by omega];exact⟨rfl,rfl⟩
  ·rw[aV (by omega),aV (by omega)]
   exact d k (by omega)
theorem CM(e:d<=a):(js a)[2*d]?.getD (0,0)=(d,a):=by
 have b:=oF a a;unfold js;by_cases c:d=a
 ·subst c
  rw[aU (by omega),b,oe];rfl
 ·rw[aV (by omega),(zx a a d (by omega)).1]
  rfl
theorem As(b:d<a):(js a)[2*d+1]?.getD (0,0)=(a,d):=by
 have c:=oF a a;unfold js;rw[aV (by omega),(zx a a d b).2];rfl
theorem sU(rk:List Int)(b:bu)(ps:bg)(f Yq:List Int)(bc Zb ar au:Option Addr)(b1 ax bZ b0:Nat)(i:World)(Z:da rk=0)(bG:cm b=0)(Zd:Tm.err f=0)(Ze:Tm.err Yq=0)(aI:dj rk f Yq=true)(cG:ps.length<=40)
  (bq:dw i.heap.size i bc b)(br:dw i.heap.size i Zb ps)(b8:Zb=none->ax=0)(Y:cZ i.heap.size i ar f)(Y6:cZ i.heap.size i au Yq):
  Calls Tryz.prog 115 #[.slice bc b.length b1,.slice Zb ps.length ax,.slice ar f.length bZ,.slice au Yq.length b0] i fun Q P=>∃d u t v cS,nD b ps f Yq d u t∧Q=.returned (.tuple #[v,cS,.int .i64 d])∧dC true 70 i.heap.size i.heap.size P v u∧dC true 79 i.heap.size i.heap.size P cS t∧Below i.heap.size i P:=by
 have dk:=cK Zd;have dm:=cK Ze;have cq:=dU Zd;have cr:=dU Ze;have cQ:(f.length:Int)<=30:=by omega
 have cR:(Yq.length:Int)<=30:=by omega
 obtain⟨df,Zo⟩:=dV bG;have cL:(b.length:Int)<=8:=by omega
 obtain⟨c5,dn,rfl⟩:∃bX ch,ar=some ⟨bX,ch,none⟩:=by obtain⟨bQ,cz,Q,_⟩:=Y.at cq;exact⟨bQ,cz,Q⟩
 obtain⟨c6,dq,rfl⟩:∃bX ch,au=some ⟨bX,ch,none⟩:=by obtain⟨bQ,cz,Q,_⟩:=Y6.at cr;exact⟨bQ,cz,Q⟩
 obtain⟨Y5,Zn⟩:∃Y5,f++Yq=Y5:=⟨_,rfl⟩;have Z9:Y5.length=f.length+Yq.length:=by rw[<-Zn,ai]
 have Zy:Hid ((dN Y5).length=f.length+Yq.length):=by
  show _=_;unfold dN;rw[fk,Z9]
 have R:Hid (dN f++gD f Yq=dN Y5):=by
  show _=_;rw[Sn.both,Zn];rfl
 have Zx:Hid ((dN f).length=f.length):=by show _=_;unfold dN;exact fk _ _ _
 have z:=hid (Fp Z Zd Ze aI);have Yn:=hid (fun b3=>tF Z Zd Ze aI b3);rw[R.out]at z;have Z6:Hid (dN f=(dN Y5).take f.length):=by show _=_;rw[<-R.out,<-Zx.out,xh]
 have Z7:Hid (gD f Yq=(dN Y5).drop f.length):=by show _=_;rw[<-R.out,<-Zx.out,lu]
 have Zz:=hid (fun(n:World)(bW:Option Addr)(b2:Nat)Yy=>xW Y5 bW b2 n (by omega) (by omega) (fun aY bE=>by
  rw[an bE];simp only[dy];rcases dZ.1 (by rw[Zn];exact ee bE:Y5[aY]∈f++Yq)with Yy|Yy
  ·exact(jU Zd Yy).1
  ·exact(jU Ze Yy).1) Yy)
 have ad:Hid (cU i.heap.size (i.alloc (.cells #[] 3)) (.slice (some ⟨i.heap.size,0,none⟩) 0 0) []):=cU.lit i.heap.size i [] (af _) (by unfold maxLen;simp);have hA0:Hid (Below i.heap.size i (i.alloc (.cells #[] 3))):=(ah _ _).alloc (af _) _;have a7:=hid Zn;have aZ:=hid Y;have a1:=hid Y6;have bR:=hid bq;have bS:=hid br;have Y9:=hid Zo;clear Zn Y Y6 bq br Zo Z9 aI Z bG;go_enter Tryz.func115,Tryz.ntmps115;go_wp2_with(first
  |(at_builtin;refine dB _ rfl _ _ rfl i.heap.size _ [] rfl ad.out _ f _ rfl (fun Q=>by cases Q) ((aZ.out.below hA0.out).mono hA0.out.size) (by simp;omega) hA0.out.size ?_;intro cw bO ZN ZJ;obtain⟨dx,di,rfl,_⟩:=cU.ints ZN;have hA9:=hid (hA0.out.trans ZJ);rw[bV]at ZN)
  |(at_builtin;refine dB _ rfl _ _ rfl i.heap.size _ f rfl ZN _ Yq _ rfl (fun Q=>by cases Q) ((a1.out.below hA9.out).mono hA9.out.size) (by omega) hA9.out.size ?_;intro cT cY ZD ZS;rw[a7.out]at ZD;obtain⟨c1,cP,rfl,al,_⟩:=cU.ints ZD;have hA10:=hid (hA9.out.trans ZS))
  |(go_at_call 151;refine(Zz.out _ _ _ al).mono ?_;rintro Q J⟨bM,rfl,ZE,ZT⟩;have hA11:=hid (hA10.out.trans (ZT.mono hA10.out.size)))
  |(go_at_call 60;fail))
 obtain⟨c2,h,rfl,Zv,bx,ab⟩:=fW.new (fl:=true) (base:=i.heap.size) ZE (.inl rfl);obtain⟨e,cg,YQ,_,_⟩:=cU.PC ZE (by have:=Zy.out;omega);cases YQ;have Zk:=hid (yA (dN Y5) (some ⟨e,0,none⟩) h J Zv.ints (by omega));have YM:=hid Zv;clear Zz ad hA0 aZ a1 hA9 hA10 ZN ZD ZE al ZJ ZS ZT Zv;cases Y7:(dN Y5).any ei with
 |true=>
  rw[Y7,aD rfl]at z;rw[Y7]at Zk;have Yo:Hid (nD b ps f Yq 3 [] []):=.inl ⟨by rw[z.out];decide,z.out.symm,rfl,rfl⟩;clear Y7 z Yn;generalize dN Y5=X at*;refine Zk.out.mono ?_;rintro Q J⟨rfl,rfl⟩;go_wp2;go_ret3
  exact⟨3,[],[],_,_,Yo.out,rfl,dC.nil _ _ _ _,dC.nil _ _ _ _,hA11.out⟩
 |false=>
  rw[Y7,aE (by decide)]at z;rw[Y7]at Zk;have YB:=hid (Yn.out z.out);have Yk:Hid (∀d u t,jm b ps (dN f) (gD f Yq) d u t->nD b ps f Yq d u t):=fun d u t Yy=>.inr ⟨z.out,Yy⟩
  rw[Z6.out,Z7.out]at Yk YB;clear Y7 z Yn Z6 Z7 R Zx;generalize dN Y5=X at*;have aL:(X.length:Int)<=(h:Int):=by omega
  have ZY:(X.length:Int)=(f.length:Int)+(Yq.length:Int):=by have:=Zy.out;omega
  have bt:(f.length:Int)<=(X.length:Int):=by omega
  have bw:(f.length:Int)<=(h:Int):=by omega
  have bA:¬h-f.length=0:=by omega
  have aO:¬h=f.length:=by omega
  have YW:Hid (X.length-f.length=(X.drop f.length).length):=(cH).symm;have YF:Hid (f.length=(X.take f.length).length):=by show _=_;rw[cX];omega
  have a6:=hid ZY;clear ZY;have bz:h<=9223372036854775807:=ab;have aN:(h:Int)<=9223372036854775807:=by omega
  refine Zk.out.mono ?_;rintro Q J⟨rfl,rfl⟩;clear Zk;go_wp2;go_region_held3(fun _=>True)(first|trivial)(fail)
  obtain⟨B,Yl⟩:∃B,(J.alloc (.cells #[.slice (some ⟨e,0,none⟩) f.length f.length,.slice (some ⟨e,f.length,none⟩) (X.length-f.length) (h-f.length)] 70)).drew=B:=⟨_,rfl⟩;rw[Yl];obtain⟨L,ZV⟩:∃L,X.take f.length=L:=⟨_,rfl⟩;obtain⟨H,Z2⟩:∃H,X.drop f.length=H:=⟨_,rfl⟩;have ZC:=YM.out.take f.length;have Y2:=YM.out.drop f.length;rw[cI]at Y2;rw[ZV]at Yk YB YF ZC;rw[Z2]at Yk YB YW Y2;have YR:Below J.heap.size J B:=by rw[<-Yl];exact bD ((ah _ _).alloc (af _) _) 1
  have ZK:eT B J.heap.size 70 (.slice (some ⟨e,0,none⟩) L.length f.length) (.slice (some ⟨e,f.length,none⟩) H.length (h-f.length)):=by
   rw[<-Yl,<-YF.out,<-YW.out];exact eT.new J _ _ _
  have YP:=hA11.out.trans (YR.mono hA11.out.size);obtain⟨YG,Ym⟩:∃YG,YG=J.heap.size:=⟨_,rfl⟩;have Zp:i.heap.size<=YG:=by rw[Ym];exact hA11.out.size
  have b9:YG<B.heap.size:=by rw[Ym];exact ZK.lt
  rw[<-Ym]at ZK⊢;have Ye:Hid (tm true i.heap.size YG i (.slice none 0 0) [] (some ⟨e,0,none⟩) (some ⟨e,f.length,none⟩) f.length (h-f.length) L H (.slice (some ⟨B.heap.size,0,none⟩) 0 0) (.slice none 0 0) [] [] (B.alloc (.cells #[] 79))):=by
   have Zf:Below B.heap.size B (B.alloc (.cells #[] 79)):=(ah _ _).alloc (af _) _;exact⟨dC.lit _ _ _ _ YP.size,dC.nil _ _ _ _,dC.nil _ _ _ _,ZK.alloc _,(ZC.below YR).below Zf,(Y2.below YR).below Zf,YP.trans (Zf.mono YP.size)⟩
  have aG:Hid (dw i.heap.size (B.alloc (.cells #[] 79)) Zb ps):=bS.out.below Ye.out.kp;have Zc:Hid (L.length<=f.length):=by show _<=_;have:=YF.out;omega
  have ZU:Hid (H.length<=h-f.length):=by show _<=_;have:=YW.out;omega
  have dr:Hid (0<L.length):=by show _<_;have:=YF.out;omega
  have cF:=hid (eo YB.out.1);have Zq:f.length<=maxLen:=by unfold maxLen;omega
  have Zr:h-f.length<=maxLen:=by unfold maxLen;omega
  clear Yl ZV Z2 YF YW YM ZC Y2 YR ZK YP Ym hA11 a6 Zy bx aL bt bw bA aO bz aN ab a7;go_wp2_with(at_builtin;go_loud(refine LC _ rfl _ _ rfl i.heap.size i.heap.size (af _) _ [] rfl Ye.out.ne Zb ax ps rfl b8 aG.out Ye.out.kp.size (by simp;omega) Ye.out.kp.size ?_);intro cV c0 YL Zt Zh;have ZR:=hid (Ye.out.pair Zt Zh YL);obtain⟨cC,cE,rfl⟩:=YL.slice;clear YL Zt Zh Ye)
  go_loopw [13,14,15](fun cy ZQ v wr=>∃o:Nat,o<=b.length∧v=.int .i64 (o:Int)∧Hid (tm true i.heap.size YG i (.slice none 0 0) [] (some ⟨e,0,none⟩) (some ⟨e,f.length,none⟩) f.length (h-f.length) L H ZQ cy (ps++fY L (b.take o)) (fK L (b.take o)) wr))(fun _ _ v _=>b.length-(intOf v).toNat)
  case atStart=>exact⟨0,bf _,rfl,by simpa [fY,fK]using ZR⟩
  case round=>
   obtain⟨o,Z,rfl,s⟩:=hrel;obtain⟨aV,aX,rfl⟩:=s.out.ne.slice;obtain⟨dz,dD,rfl⟩:=s.out.ns.slice;clear ZR;by_cases YX:o<b.length
   ·have b7:(o:Int)<(b.length:Int):=by omega
    obtain⟨w,l,rfl,aa,m,q,r,y,ZL,bk,aA,bl,aB,aC,bm,bn⟩:=(bR.out.below s.out.kp) o YX;have dc:=(eo (Y9.out o YX)).1;have YC:=hid (xK (L:=L) YX);have YD:=hid (show ps++fY L (b.take (o+1))=(ps++fY L (b.take o))++(if kW L ((b[o]?.getD ([],[])).1,(b[o]?.getD ([],[])).2)=true then [((b[o]?.getD ([],[])).1,(b[o]?.getD ([],[])).2)]else [])by rw[xU (L:=L) YX,dE]);have bB:(ps++fY L (b.take o)).length<=48:=by have:=tq L (b.take o);rw[ai];rw[cX]at this;omega
    have bC:(fK L (b.take o)).length<=8:=by have:=sZ L (b.take o);rw[cX]at this;omega
    have aj:Hid (kW L ((b[o]?.getD ([],[])).1,(b[o]?.getD ([],[])).2)=decide (0<(mf (b[o]?.getD ([],[])).1 L).length)):=rfl;generalize(b[o]?.getD ([],[])).1=G at*;generalize(b[o]?.getD ([],[])).2=S at*;generalize ps++fY L (b.take o)=A at*;generalize fK L (b.take o)=c at*;generalize kW L (G,S)=ZO at*;have ZG:=s.out.bx.cell0;have ag:YG<wr.heap.size:=s.out.bx.lt;have Yi:i.heap.size<=wr.heap.size:=s.out.kp.size;have Zi:=ah wr.heap.size wr;have Z3:wr.cell? ⟨w,l+o*2,none⟩=some (.slice m G.length q)∧wr.cell? ⟨YG,0,none⟩=some (.slice (some ⟨e,0,none⟩) L.length f.length):=⟨ZL,ZG⟩;have Z5:=hid (fun n(g:Below wr.heap.size wr n)=>(⟨(g.cell (p:=⟨w,l+o*2,none⟩) (by show w<_;omega)).trans ZL,(g.cell (p:=⟨YG,0,none⟩) ag).trans ZG⟩:n.cell? ⟨w,l+o*2,none⟩=some (.slice m G.length q)∧n.cell? ⟨YG,0,none⟩=some (.slice (some ⟨e,0,none⟩) L.length f.length)));have Zl:=hid (fun n(g:Below wr.heap.size wr n)=>(show n.cell? ⟨w,l+o*2,none⟩=some (.slice m G.length q)∧n.cell? ⟨w,l+o*2+1,none⟩=some (.slice r S.length y)from⟨(g.cell (p:=⟨w,l+o*2,none⟩) (by show w<_;omega)).trans ZL,(g.cell (p:=⟨w,l+o*2+1,none⟩) (by show w<_;omega)).trans bk⟩));have bp:=hid (fun n(g:Below wr.heap.size wr n)=>(Jn G L m (some ⟨e,0,none⟩) q f.length n ((aA.mono Yi).below g|>.mono g.size) ((s.out.iL.ints.below g).mono g.size) ⟨aB,aC⟩ ⟨Zc.out,Zq⟩).mono (fun Q P⟨v,cl,cn,cp⟩=>(⟨v,cl,cn,g.trans (cp.mono g.size)⟩:∃v,Q=Ending.returned (.tuple #[v,.int .i64 (dY G L)])∧cU n.heap.size P v (mf G L)∧Below wr.heap.size wr P)));have bI:=hid (fun n(g:Below wr.heap.size wr n)=>(show fW true i.heap.size n m G from fW.KA aA (aK Yi g.size) (g.mono Yi)));have bK:=hid (fun n(g:Below wr.heap.size wr n)=>(show fW true i.heap.size n r S from fW.KA bl (aK Yi g.size) (g.mono Yi)));generalize mf G L=ZF at*;generalize dY G L=dd at*;clear ZL bk aA bl ZG;go_wp2;go_region_held3(fun P=>P.cell? ⟨w,l+o*2,none⟩=some (.slice m G.length q)∧P.cell? ⟨YG,0,none⟩=some (.slice (some ⟨e,0,none⟩) L.length f.length))(first|assumption|exact Z3)
     ((go_at_call 152;refine(bp.out _ (by first|exact Zi|exact bD Zi 1)).mono ?_;rintro Q k⟨du,rfl,ZW,YJ⟩;obtain⟨dv,db,rfl,_⟩:=cU.ints ZW;have ct:=Z5.out _ YJ))
    have YH:=hid (s.out.below (af _) YJ);have ZZ:=Zl.out _ YJ;have cb:Hid (ZF.length=ZF.length):=rfl;have ca:YG<k.heap.size:=YH.out.bx.lt;have cf:i.heap.size<=k.heap.size:=YH.out.kp.size;clear bp ZW ct Z3 Z5 Zi s;by_cases YZ:0<ZF.length
    ·have aR:(0:Int)<(ZF.length:Int):=by omega
     have ZA:Hid (ZO=true):=by show ZO=true;rw[aj.out];exact Rw YZ
     rw[ZA.out,aD rfl]at YC YD;rw[cW]at YC;have ZX:Hid (∀n:World,n.heap=(k.alloc (.cells #[.slice m G.length q,.slice r S.length y] 79)).heap->dC true 79 i.heap.size i.heap.size n (.slice aV A.length aX) A):=fun n g=>(YH.out.ne.below ((ah k.heap.size k).alloc (af _) _)).same g
     have YU:Hid (∀n:World,n.heap=(k.alloc (.cells #[.slice m G.length q,.slice r S.length y] 79)).heap->n.cell? ⟨k.heap.size,0,none⟩=some (.slice m G.length q)):=fun n g=>(dp (show n.heap[k.heap.size]?=_ by rw[g];exact aM k _) 0).trans rfl
     have YV:Hid (∀n:World,n.heap=(k.alloc (.cells #[.slice m G.length q,.slice r S.length y] 79)).heap->n.cell? ⟨k.heap.size,1,none⟩=some (.slice r S.length y)):=fun n g=>(dp (show n.heap[k.heap.size]?=_ by rw[g];exact aM k _) 1).trans rfl
     have hA3:Below wr.heap.size wr (k.alloc (.cells #[.slice m G.length q,.slice r S.length y] 79)):=YJ.alloc YJ.size _;have Zu:Hid (∀n:World,n.heap=(k.alloc (.cells #[.slice m G.length q,.slice r S.length y] 79)).heap->fW true i.heap.size n m G∧fW true i.heap.size n r S):=fun n g=>⟨(bI.out _ hA3).same g,(bK.out _ hA3).same g⟩
     have YT:=hid (fun(n:World)(g:n.heap=(k.alloc (.cells #[.slice m G.length q,.slice r S.length y] 79)).heap)=>(show n.cell? ⟨w,l+o*2,none⟩=some (.slice m G.length q)∧n.cell? ⟨w,l+o*2+1,none⟩=some (.slice r S.length y)from⟨(aH (a:=⟨w,l+o*2,none⟩) (by rw[g])).trans (Zl.out _ hA3).1,(aH (a:=⟨w,l+o*2+1,none⟩) (by rw[g])).trans (Zl.out _ hA3).2⟩));have Z4:Hid (∀(n ZI:World),n.heap=(k.alloc (.cells #[.slice m G.length q,.slice r S.length y] 79)).heap->Below i.heap.size n ZI->ZI.cell? ⟨w,l+o*2,none⟩=some (.slice m G.length q)∧ZI.cell? ⟨w,l+o*2+1,none⟩=some (.slice r S.length y)):=fun n ZI g Y6=>⟨(Y6.cell (p:=⟨w,l+o*2,none⟩) aa).trans (YT.out n g).1,(Y6.cell (p:=⟨w,l+o*2+1,none⟩) aa).trans (YT.out n g).2⟩
     clear YZ;go_wp2;go_region_held3(fun P=>P.cell? ⟨w,l+o*2,none⟩=some (.slice m G.length q)∧P.cell? ⟨w,l+o*2+1,none⟩=some (.slice r S.length y))(first|assumption|exact ZZ|exact YT.out _ (by rfl))
      ((refine uQ _ (by rfl) _ _ (by rfl) i.heap.size i.heap.size (af _) (.slice aV A.length aX) A (by rfl) (ZX.out _ (by rfl)) k.heap.size m r G S q y (by rfl) (YU.out _ (by rfl)) (YV.out _ (by rfl)) (Zu.out _ (by rfl)).1 (Zu.out _ (by rfl)).2 aB aC bm bn (by omega) (by simp;omega) ?_;intro de c9 aT E F C;have cu:=Z4.out _ _ (by rfl) C))
     all_goals(
      have Yu:=hid ((YH.out.below (af _) (bD ((ah k.heap.size k).alloc (af _) (.cells #[.slice m G.length q,.slice r S.length y] 79)) 1)).pair F C E);clear cu E F C ZX YU YV Zu YT Z4 YH;go_wp2;go_roundw
      case rel=>exact⟨o+1,by omega,by go_num,by rw[YC.out,YD.out];simpa [Hid]using Yu⟩
      case measure=>simp[intOf];omega)
    ·have aR:¬(0:Int)<(ZF.length:Int):=by omega
     have ZA:Hid (ZO=false):=by show ZO=false;rw[aj.out];exact Rr YZ
     rw[ZA.out,aE (by simp)]at YC YD;rw[cW]at YD;obtain⟨ds,dt⟩:=ZZ;have Y:=(ah k.heap.size k).alloc (af _) (.cells #[.slice m G.length q,.slice r S.length y] 70);have K:=hid (YH.out.below (af _) Y);have T:=aM k (.cells #[.slice m G.length q,.slice r S.length y] 70);have Yr:=hid ((dp T 0).trans rfl:(k.alloc (.cells #[.slice m G.length q,.slice r S.length y] 70)).cell? ⟨k.heap.size,0,none⟩=some (.slice m G.length q));have Yt:=hid ((dp T 1).trans rfl:(k.alloc (.cells #[.slice m G.length q,.slice r S.length y] 70)).cell? ⟨k.heap.size,1,none⟩=some (.slice r S.length y));have hA3:=YJ.trans (Y.mono YJ.size);have bJ:=hid (bI.out _ hA3);have bL:=hid (bK.out _ hA3);clear YZ T Y hA3;go_wp2_with(at_builtin;go_loud(refine uv _ rfl _ _ rfl (YG+1) i.heap.size (by omega) _ c rfl K.out.ns k.heap.size m r G S q y rfl Yr.out Yt.out bJ.out bL.out aB aC bm bn (by omega) (by simp;omega) ?_);intro Yx Yv aT E F C)
     have Yu:=hid (K.out.Lk Zp (fun o Z=>by cases Z) F C E);clear E F C K YH;go_roundw
     case rel=>exact⟨o+1,by omega,by go_num,by rw[YC.out,YD.out];simpa [Hid]using Yu⟩
     case measure=>simp[intOf];omega
   ·obtain rfl:o=b.length:=by omega
    rw[cJ]at s;have W:Hid (∀d u t,((8<(fK L b).length+1∧d=2∧u=[]∧t=[])∨
 ((fK L b).length+1<=8∧∃Q aY,gO (fK L b++[(L,H)]) (js (fK L b).length) Q aY∧
  ((Q≠0∧d=Q∧u=[]∧t=[])∨(Q=0∧40<(ps++fY L b++aY).length∧d=2∧u=[]∧t=[])∨(Q=0∧(ps++fY L b++aY).length<=40∧d=0∧u=fK L b++[(L,H)]∧t=ps++fY L b++aY))))->nD b ps f Yq d u t):=fun d u t Yy=>Yk.out d u t Yy
    have bB:(ps++fY L b).length<=48:=by have:=tq L b;rw[ai];omega
    have bC:(fK L b).length<=8:=by have:=sZ L b;omega
    have bH:Hid ((fK L b).length+1<=8->cm (fK L b++[(L,H)])=0):=fun Yy=>by
     unfold cm;rw[aE (by rw[ai];simp;omega)];refine vH fun bQ Y8=>?_
     rcases dZ.1 Y8 with Y8|Y8
     ·obtain⟨bP,aJ,rfl⟩:=gQ (vK.1 Y8).1
      have:=Y9.out bP aJ
      rwa[an aJ]at this
     ·simp only[dA,Rn,RL]at Y8
      subst Y8;exact YB.out.1
    rw[cJ];generalize ps++fY L b=A at*;generalize fK L b=c at*;have cA:=s.out.bx.cell0;have ZG:=s.out.bx.dh;have ag:YG<wr.heap.size:=s.out.bx.lt;have Yi:i.heap.size<=wr.heap.size:=s.out.kp.size;have Y:=(ah wr.heap.size wr).alloc (af _) (.cells #[.slice (some ⟨e,0,none⟩) L.length f.length,.slice (some ⟨e,f.length,none⟩) H.length (h-f.length)] 70);have K:=hid (s.out.below (af _) Y);have T:=aM wr (.cells #[.slice (some ⟨e,0,none⟩) L.length f.length,.slice (some ⟨e,f.length,none⟩) H.length (h-f.length)] 70);have Yr:=hid ((dp T 0).trans rfl:(wr.alloc (.cells #[.slice (some ⟨e,0,none⟩) L.length f.length,.slice (some ⟨e,f.length,none⟩) H.length (h-f.length)] 70)).cell? ⟨wr.heap.size,0,none⟩=some (.slice (some ⟨e,0,none⟩) L.length f.length));have Yt:=hid ((dp T 1).trans rfl:(wr.alloc (.cells #[.slice (some ⟨e,0,none⟩) L.length f.length,.slice (some ⟨e,f.length,none⟩) H.length (h-f.length)] 70)).cell? ⟨wr.heap.size,1,none⟩=some (.slice (some ⟨e,f.length,none⟩) H.length (h-f.length)));clear T Y s;by_cases b4:8<c.length+1
    ·have bo:(8:Int)<(c.length:Int)+1:=by omega
     go_wp2_with(at_builtin;go_loud(refine uv _ rfl _ _ rfl (YG+1) i.heap.size (by omega) _ c rfl K.out.ns wr.heap.size (some ⟨e,0,none⟩) (some ⟨e,f.length,none⟩) L H f.length (h-f.length) rfl Yr.out Yt.out K.out.iL K.out.iR Zc.out Zq ZU.out Zr (by omega) (by simp;omega) ?_);intro Yx Yv aT E F C)
     have Yu:=hid (K.out.Lk Zp (fun o Z=>by cases Z) F C E);go_ret3
     exact⟨2,[],[],_,_,W.out _ _ _ (.inl ⟨b4,rfl,rfl,rfl⟩),rfl,dC.nil _ _ _ _,dC.nil _ _ _ _,Yu.out.kp⟩
    ·have bo:¬(8:Int)<(c.length:Int)+1:=by omega
     have ak:=hid (bH.out (by omega));have cN:(c.length:Int)<=7:=by omega
     go_wp2_with(at_builtin;go_loud(refine uv _ rfl _ _ rfl (YG+1) i.heap.size (by omega) _ c rfl K.out.ns wr.heap.size (some ⟨e,0,none⟩) (some ⟨e,f.length,none⟩) L H f.length (h-f.length) rfl Yr.out Yt.out K.out.iL K.out.iR Zc.out Zq ZU.out Zr (by omega) (by simp;omega) ?_);intro Yx Yv aT E F C;have Yu:=hid (K.out.Lk Zp (fun o Z=>by cases Z) F C E);clear E F C)
     have N:Hid ((c++[(L,H)]).length=c.length+1):=by show _=_;simp
     have ZB:=hid (oY c.length);go_loopw [14,19](fun ZQ v Y4=>∃(Yd:Nat)(Yc:bg),Yd<=c.length∧v=.int .i64 (Yd:Int)∧(∃cj ck,ZQ=.slice cj (A++Yc).length ck)∧Hid (kA (c++[(L,H)]) (js c.length) (2*Yd) Yc)∧Hid (tm true i.heap.size YG i (.slice none 0 0) [] (some ⟨e,0,none⟩) (some ⟨e,f.length,none⟩) f.length (h-f.length) L H ZQ (.slice (some ⟨Yx,0,none⟩) (c.length+1) Yv) (A++Yc) (c++[(L,H)]) Y4))(fun _ v _=>c.length+1-(intOf v).toNat)
     case atStart=>exact⟨0,[],bf _,rfl,⟨aV,aX,by rw[cW]⟩,kA.zero _ _,by simpa [Hid]using Yu⟩
     case round=>
      obtain⟨Y4,rfl⟩:∃Y4,Y4=wr:=⟨wr,rfl⟩;obtain⟨Yd,Yc,ZM,rfl,⟨ay,az,rfl⟩,Y0,s⟩:=hrel;clear Yu cA ZG Yr Yt K;have b6:=Y0.out.len;have cM:(Yd:Int)<=(c.length:Int):=by omega
      have cd:(0:Int)<=(c.length:Int):=by omega
      obtain⟨c3,c7,bh,Z0,_⟩:=s.out.ns.at;rw[N.out]at bh;cases bh;have YA:=hid (fun n(g:Below Y4.heap.size Y4 n)(cO bP:Nat)(dh:cO<=c.length)(aJ:bP<=c.length)=>Aa (c++[(L,H)]) cO bP (by rw[N.out];omega) (by rw[N.out];omega) (some ⟨Yx,0,none⟩) Yv n ak.out ((Z0.below g).mono g.size));rw[N.out]at YA;have Yg:=hid (fun j(Yo:fi (c++[(L,H)]) (Yd:Int) (c.length:Int) 0 j)=>Y0.out.next (ps:=j) (by rw[CM ZM];exact Yo));have Yh:Hid (∀d j,d≠0->fi (c++[(L,H)]) (Yd:Int) (c.length:Int) d j->gO (c++[(L,H)]) (js c.length) d []):=fun d j x Yo=>.inr ⟨x,rfl,2*Yd,j,by have:=ZB.out;omega,⟨Yc,Y0.out⟩,by rw[CM ZM];exact Yo⟩
      have M:Hid (∀d j aS,Yd<c.length->d≠0->kA (c++[(L,H)]) (js c.length) (2*Yd+1) aS->fi (c++[(L,H)]) (c.length:Int) (Yd:Int) d j->gO (c++[(L,H)]) (js c.length) d []):=fun d j aS Yy x b5 Yo=>.inr ⟨x,rfl,2*Yd+1,j,by have:=ZB.out;omega,⟨aS,b5⟩,by rw[As Yy];exact Yo⟩
      have Z8:=hid (ah Y4.heap.size Y4);clear Y0 Z0;by_cases YY:Yd=c.length
      ·have aP:((Yd:Int)==(c.length:Int))=true:=by simp[YY]
       have a8:=hid YY;clear YY;go_wp2_with fail;refine(YA.out Y4 Z8.out Yd c.length ZM (af _)).mono ?_;rintro Q aU⟨av,d,j,cv,D,rfl,V⟩;obtain⟨bU,bY,rfl,_⟩:=V.at;have O:=hid (s.out.below (af _) av);have Za:=hid (mn.x (eb:=i.heap.size) V);have Yp:i.heap.size<=aU.heap.size:=O.out.kp.size;clear V s YA;by_cases x:d=0
       ·subst x
        have bF:=D.len.2;have YS:Hid (gO (c++[(L,H)]) (js c.length) 0 (Yc++j)):=by
         have Yy:=Yg.out j D;rw[a8.out,<-ZB.out]at Yy;exact .inl ⟨rfl,Yy⟩
        clear D Yg Yh M;by_cases Yz:40<(A++(Yc++j)).length
        ·have aF:(40:Int)<(A.length:Int)+(Yc.length:Int)+(j.length:Int):=by rw[ai,ai]at Yz;omega
         have Yj:=hid (W.out 2 [] [] (.inr ⟨by omega,0,Yc++j,YS.out,.inr (.inl ⟨rfl,Yz,rfl,rfl,rfl⟩)⟩));clear Yz W YS;rw[ai];go_wp2_with(at_builtin;go_loud(refine qu _ rfl _ _ rfl i.heap.size i.heap.size (af _) (.slice ay (A.length+Yc.length) az) (A++Yc) rfl (by rw[<-ai];exact O.out.ne) _ j rfl Y4.heap.size Za.out (by rw[ai];omega) Yp ?_);intro bN ZP I Yf U;obtain⟨aq,aw,Yw⟩:=I.slice;rw[ai,ai]at Yw;subst Yw)
         go_ret3
         exact⟨2,[],[],_,_,Yj.out,rfl,dC.nil _ _ _ _,dC.nil _ _ _ _,O.out.kp.trans U⟩
        ·have aF:¬(40:Int)<(A.length:Int)+(Yc.length:Int)+(j.length:Int):=by rw[ai,ai]at Yz;omega
         have Yj:=hid (W.out 0 (c++[(L,H)]) (A++(Yc++j)) (.inr ⟨by omega,0,Yc++j,YS.out,.inr (.inr ⟨rfl,by omega,rfl,rfl,rfl⟩)⟩));clear Yz W YS;rw[ai];go_wp2_with(at_builtin;go_loud(refine qu _ rfl _ _ rfl i.heap.size i.heap.size (af _) (.slice ay (A.length+Yc.length) az) (A++Yc) rfl (by rw[<-ai];exact O.out.ne) _ j rfl Y4.heap.size Za.out (by rw[ai];omega) Yp ?_);intro bN ZP I Yf U;have YI:=hid (O.out.pair (by rw[ai];exact Yf) U I);obtain⟨aq,aw,Yw⟩:=I.slice;rw[ai,ai]at Yw;subst Yw;clear I Yf U)
         go_ret3
         exact⟨0,_,_,_,_,Yj.out,rfl,YI.out.ns.mono (by omega),(by rw[<-dE];exact YI.out.ne),YI.out.kp⟩
       ·have ae:(d !=0)=true:=by simpa using x
        have Yj:=hid (W.out d [] [] (.inr ⟨by omega,d,[],Yh.out d j x D,.inl ⟨x,rfl,rfl,rfl⟩⟩));clear x W D Yg Yh M;go_wp2;go_ret3
        exact⟨d,[],[],_,_,Yj.out,rfl,dC.nil _ _ _ _,dC.nil _ _ _ _,O.out.kp⟩
      ·have aP:((Yd:Int)==(c.length:Int))=false:=by rw[aW];omega
       have Zw:Yd<c.length:=by omega
       clear YY;go_wp2_with fail;refine(YA.out Y4 Z8.out Yd c.length ZM (af _)).mono ?_;rintro Q aU⟨av,d,j,cv,D,rfl,V⟩;obtain⟨bU,bY,rfl,_⟩:=V.at;have O:=hid (s.out.below (af _) av);have Za:=hid (mn.x (eb:=i.heap.size) V);have Yp:i.heap.size<=aU.heap.size:=O.out.kp.size;clear V s YA;by_cases x:d=0
       ·subst x
        have bF:=D.len.2;have Zm:=hid (Yg.out j D);clear D Yg Yh;rw[ai];go_wp2_with(first
         |(at_builtin;go_loud(refine qu _ rfl _ _ rfl i.heap.size i.heap.size (af _) (.slice ay (A.length+Yc.length) az) (A++Yc) rfl (by rw[<-ai];exact O.out.ne) _ j rfl Y4.heap.size Za.out (by rw[ai];omega) Yp ?_);intro bN ZP I Yf U;have YI:=hid (O.out.pair (by rw[ai];exact Yf) U I);obtain⟨aq,aw,Yw⟩:=I.slice;rw[ai,ai]at Yw;subst Yw;clear I Yf U)
         |(go_at_call 117;fail))
        obtain⟨c4,c8,bj,Z1,_⟩:=YI.out.ns.at;rw[N.out]at bj;cases bj;have YO:=hid (Aa (c++[(L,H)]) c.length Yd (by rw[N.out];omega) (by rw[N.out];omega) (some ⟨Yx,0,none⟩) Yv ZP ak.out Z1);rw[N.out]at YO;have YN:=hid (fun ao(Yo:fi (c++[(L,H)]) (c.length:Int) (Yd:Int) 0 ao)=>Zm.out.next (ps:=ao) (by rw[As Zw];exact Yo));clear Z1 O Za;refine YO.out.mono ?_;rintro Q bO⟨ZJ,d,Y3,cw,YE,rfl,Zj⟩;obtain⟨cB,cD,rfl,_⟩:=Zj.at;have ZH:=hid (YI.out.below (af _) ZJ);have bT:=hid (mn.x (eb:=i.heap.size) Zj);have aQ:i.heap.size<=bO.heap.size:=ZH.out.kp.size;clear Zj YO YI;by_cases x:d=0
        ·subst x
         have cc:=YE.len.2;have bs:=hid (YN.out Y3 YE);clear YE YN M Zm;go_wp2_with(at_builtin;go_loud(refine qu _ rfl _ _ rfl i.heap.size i.heap.size (af _) (.slice aq (A.length+Yc.length+j.length) aw) (A++Yc++j) rfl ZH.out.ne _ Y3 rfl ZP.heap.size bT.out (by rw[ai,ai];omega) aQ ?_);intro bM cx YK Zs Zg;have ba:=hid (ZH.out.pair Zs Zg YK);obtain⟨bb,bd,YQ⟩:=YK.slice;rw[ai,ai,ai]at YQ;subst YQ;clear YK Zs Zg)
         go_roundw
         case rel=>exact⟨Yd+1,Yc++j++Y3,by omega,by go_num,⟨bb,bd,by simp[Nat.add_assoc]⟩,bs,by have Yy:=ba.out;simpa [Hid,List.append_assoc,Nat.add_assoc]using Yy⟩
         case measure=>simp[intOf];omega
        ·have ae:(d !=0)=true:=by simpa using x
         have Yj:=hid (W.out d [] [] (.inr ⟨by omega,d,[],M.out d Y3 _ Zw x Zm.out YE,.inl ⟨x,rfl,rfl,rfl⟩⟩));clear x W YE YN M;go_wp2;go_ret3
         exact⟨d,[],[],_,_,Yj.out,rfl,dC.nil _ _ _ _,dC.nil _ _ _ _,ZH.out.kp⟩
       ·have ae:(d !=0)=true:=by simpa using x
        have Yj:=hid (W.out d [] [] (.inr ⟨by omega,d,[],Yh.out d j x D,.inl ⟨x,rfl,rfl,rfl⟩⟩));clear x W D Yg Yh M;go_wp2;go_ret3
        exact⟨d,[],[],_,_,Yj.out,rfl,dC.nil _ _ _ _,dC.nil _ _ _ _,O.out.kp⟩
theorem AO(w:World)(K:e.guard=none)(Yu Yh:Operand)
 (N:e.op=.call {callee:=.builtin .append,args:=#[Yu,Yh],argTypes:=#[31,31]})(f b:Nat)(Q:b<=f)(F:Value)(a:bg)(O:c.eval Yu=F)(Yl:dC true 70 f b w F a)
 (p:Option Addr)(v:Nat)(d:bg)(X:c.eval Yh=.slice p d.length v)(Yp:p=none->v=0)(J:dw b w p d)(r:b<=w.heap.size)(Yo:a.length+d.length<=100000)(k:f<=w.heap.size)
 (Yg:∀q w',dC true 70 f b w' q (a++d)->w.grownBy w' F.ownBlock->Below f w w'->h (c.put e.dst q) w'):
 if Region.wanted e (yielded i c.tmps)=true then Oper.wp Tryz.prog e c w h m else n:=by
 have W:Region.wanted e (yielded i c.tmps)=true:=by simp[Region.wanted,K]
 rw[aD W];obtain⟨Ye,L,Z,Yc,Yd⟩:=fh Tryz.Bv;obtain⟨l,g,I⟩:=Yl;have V:l.length=a.length*2:=g.1;cases p with
 |none=>
  have Ym:=Yp rfl;obtain rfl:d=[]:=by
   cases d with
   |nil=>rfl
   |cons YA Yz=>obtain⟨Yy,Yw,Yk,_⟩:=J 0 (by simp);cases Yk
  subst Ym;have z:=run_append_owned_none (P:=Tryz.prog) (w:=w) f 31 e.type 70 Ye 2 Tryz.underlying31 L F a.length l g;have Y:c.eval Yh=.slice none 0 0:=X;unfold Oper.wp;simp[execOp,N,resolve,invoke,builtin,O,Y,z,Result.andThen];exact Yg F w (by rw[cW];exact⟨l,g,I⟩) ⟨rfl,rfl,rfl,af _,fun _ _ _=>rfl⟩ (ah _ _)
 |some Yi=>
  obtain⟨u,R,S,T,U⟩:=uT J;refine wp_append_own w Yu Yh 31 N f 70 Ye (.agg #[.slice none 0 0,.slice none 0 0]) 2 48 Tryz.underlying31 L Z Yc Yd rfl (by decide) F a.length l O g Yi d.length v u X R S
   (by intro Yx Yr;obtain⟨_,_,_,rfl⟩:=T Yx Yr;rfl) (by unfold maxLen;omega) (by omega) k ?_
  intro q w' y x _;have Yq:∀A,F.ownBlock=some A->b<=A∧∃Yj,w.heap[A]?=some (.cells Yj 70 (0,0)):=fun A j=>⟨aK Q (bn g A j).1,qP g j⟩
  have j:∀{c:Option Addr}{Yf:List Int},fW true b w c Yf->fW true b w' c Yf:=fun Yg=>Yg.grown (by decide) x Yq
  refine Yg q w' ⟨l++u,by simpa using y,fun t Yn=>?_⟩ x ((ah f w).grown x k (fun A Yk=>(bn g A Yk).1));by_cases s:t<a.length
  ·obtain⟨Yv,H,G,o,D,E,B,C,Yt⟩:=I t s
   rw[aV s,aV (by omega),aV (by omega)];exact⟨Yv,H,G,o,D,E,j B,j C,Yt⟩
  ·have M:t-a.length<d.length:=by rw[ai]at Yn;omega
   obtain⟨Yv,H,G,o,D,E,B,C,Yt⟩:=U (t-a.length) M;rw[aU (by omega),aU (by omega),aU (by omega),V];rw[show t*2-a.length*2=(t-a.length)*2 by omega,show t*2+1-a.length*2=(t-a.length)*2+1 by omega];exact⟨Yv,H,G,o,D,E,j (fW.KA B r (ah _ _)),j (fW.KA C r (ah _ _)),Yt⟩
theorem AG(w:World)(K:e.guard=none)(Yu Yh:Operand)
 (N:e.op=.call {callee:=.builtin .append,args:=#[Yu,Yh],argTypes:=#[30,30]})(f b:Nat)(Q:b<=f)(F:Value)(a:bg)(O:c.eval Yu=F)(Yl:dC true 79 f b w F a)
 (p:Option Addr)(v:Nat)(d:bg)(X:c.eval Yh=.slice p d.length v)(Yp:p=none->v=0)(J:dw b w p d)(r:b<=w.heap.size)(Yo:a.length+d.length<=100000)(k:f<=w.heap.size)
 (Yg:∀q w',dC true 79 f b w' q (a++d)->w.grownBy w' F.ownBlock->Below f w w'->h (c.put e.dst q) w'):
 if Region.wanted e (yielded i c.tmps)=true then Oper.wp Tryz.prog e c w h m else n:=by
 have W:Region.wanted e (yielded i c.tmps)=true:=by simp[Region.wanted,K]
 rw[aD W];obtain⟨Ye,L,Z,Yc,Yd⟩:=fh Tryz.uK;obtain⟨l,g,I⟩:=Yl;have V:l.length=a.length*2:=g.1;cases p with
 |none=>
  have Ym:=Yp rfl;obtain rfl:d=[]:=by
   cases d with
   |nil=>rfl
   |cons YA Yz=>obtain⟨Yy,Yw,Yk,_⟩:=J 0 (by simp);cases Yk
  subst Ym;have z:=run_append_owned_none (P:=Tryz.prog) (w:=w) f 30 e.type 79 Ye 2 Tryz.underlying30 L F a.length l g;have Y:c.eval Yh=.slice none 0 0:=X;unfold Oper.wp;simp[execOp,N,resolve,invoke,builtin,O,Y,z,Result.andThen];exact Yg F w (by rw[cW];exact⟨l,g,I⟩) ⟨rfl,rfl,rfl,af _,fun _ _ _=>rfl⟩ (ah _ _)
 |some Yi=>
  obtain⟨u,R,S,T,U⟩:=uT J;refine wp_append_own w Yu Yh 30 N f 79 Ye (.agg #[.slice none 0 0,.slice none 0 0]) 2 48 Tryz.underlying30 L Z Yc Yd rfl (by decide) F a.length l O g Yi d.length v u X R S
   (by intro Yx Yr;obtain⟨_,_,_,rfl⟩:=T Yx Yr;rfl) (by unfold maxLen;omega) (by omega) k ?_
  intro q w' y x _;have Yq:∀A,F.ownBlock=some A->b<=A∧∃Yj,w.heap[A]?=some (.cells Yj 79 (0,0)):=fun A j=>⟨aK Q (bn g A j).1,qP g j⟩
  have j:∀{c:Option Addr}{Yf:List Int},fW true b w c Yf->fW true b w' c Yf:=fun Yg=>Yg.grown (by decide) x Yq
  refine Yg q w' ⟨l++u,by simpa using y,fun t Yn=>?_⟩ x ((ah f w).grown x k (fun A Yk=>(bn g A Yk).1));by_cases s:t<a.length
  ·obtain⟨Yv,H,G,o,D,E,B,C,Yt⟩:=I t s
   rw[aV s,aV (by omega),aV (by omega)];exact⟨Yv,H,G,o,D,E,j B,j C,Yt⟩
  ·have M:t-a.length<d.length:=by rw[ai]at Yn;omega
   obtain⟨Yv,H,G,o,D,E,B,C,Yt⟩:=U (t-a.length) M;rw[aU (by omega),aU (by omega),aU (by omega),V];rw[show t*2-a.length*2=(t-a.length)*2 by omega,show t*2+1-a.length*2=(t-a.length)*2+1 by omega];exact⟨Yv,H,G,o,D,E,j (fW.KA B r (ah _ _)),j (fW.KA C r (ah _ _)),Yt⟩
def lq(V X:World):Prop:=V.heap=X.heap∧V.os=X.os∧V.tape=X.tape∧V.output=X.output
theorem lq.below(d:lq r f)(c:Below a b f):Below a b r:=⟨d.2.1.trans c.os,d.2.2.1.trans c.tape,d.2.2.2.trans c.output,by rw[d.1];exact c.size,fun g e=>by rw[d.1];exact c.block g e⟩
def oh(e:TypeId)(b:Nat)(w V:World)(B:Nat):Prop:=(V.heap[B]?=some (.cells #[] e (0,0))∧b<=B)∧Below b w V
theorem oh.lit(e:oh g a f b d):dC true g a a b (.slice (some ⟨d,0,none⟩) 0 0) []:=
 ⟨[],⟨rfl,.inr ⟨d,0,#[],rfl,e.1.2,e.1.1,af _,by unfold maxLen;omega,rfl,rfl⟩⟩,fun h c=>by simp at c⟩
theorem oh.new(d:TypeId)(e:Below a f b)(c:a<=b.heap.size):oh d a f (b.alloc (.cells #[] d)) b.heap.size:=⟨⟨aM b _,c⟩,e.alloc c _⟩
theorem oh.alloc(c:oh g a f b d)(e:a<=b.heap.size)(h:Obj):oh g a f (b.alloc h) d:=⟨⟨(cM b h d (ak.1 c.1.1).1).trans c.1.1,c.1.2⟩,c.2.alloc e h⟩
theorem oh.same(e:oh g a b r d)(c:lq f r):oh g a b f d:=⟨⟨by rw[c.1];exact e.1.1,e.1.2⟩,c.below e.2⟩
theorem CB(V:World)(D:e.guard=none)(N O:Operand)
 (K:e.op=.call {callee:=.builtin .append,args:=#[N,O],argTypes:=#[31,31]})(a E:Nat)(w:World)(L:c.eval N=.slice (some ⟨E,0,none⟩) 0 0)(p:oh 70 a w V E)
 (g:Option Addr)(q:Nat)(f:bg)(M:c.eval O=.slice g f.length q)(J:g=none->q=0)(F:∀V,Below a w V->dw a V g f)(A:a<=w.heap.size)(I:f.length<=1000)
 (Q:∀k w',dC true 70 a a w' k f->(∀v u,dC true 79 a a V v u->dC true 79 a a w' v u)->(∀C,oh 79 a w V C->oh 79 a w w' C)->Below a w w'->h (c.put e.dst k) w'):
 if Region.wanted e (yielded i c.tmps)=true then Oper.wp Tryz.prog e c V h m else n:=by
 have l:a<=V.heap.size:=aK A p.2.size;refine AO V D N O K a a (af _) (.slice (some ⟨E,0,none⟩) 0 0) [] L p.lit g q f M J (F V p.2) l (by simp;omega) l ?_;intro k w' G B z;have t:∀o,(Value.slice (some ⟨E,0,none⟩) 0 0).ownBlock=some o->a<=o∧∃x,V.heap[o]?=some (.cells x 70 (0,0)):=fun o d=>by
  cases d;exact⟨p.1.2,_,p.1.1⟩
 refine Q k w' (by rwa[bV]at G) (fun v u y=>y.grown (e':=70) (by decide) B fun o d=>⟨(t o d).1,(t o d).2,fun r=>?_⟩) (fun C j=>⟨⟨(B.block C (ak.1 j.1.1).1 fun r=>?_).trans j.1.1,j.1.2⟩,p.2.trans z⟩) (p.2.trans z)
 ·obtain⟨_,_,x,H⟩:=y.block r
  obtain⟨P,b⟩:=(t o d).2;rw[H]at b;simp only[dx,fU]at b;exact absurd b.2.1 (by decide)
 ·cases r
  have s:=j.1.1;rw[p.1.1]at s;simp only[dx,fU]at s;exact absurd s.2.1 (by decide)
theorem Cw(V:World)(D:e.guard=none)(N O:Operand)
 (K:e.op=.call {callee:=.builtin .append,args:=#[N,O],argTypes:=#[30,30]})(a E:Nat)(w:World)(L:c.eval N=.slice (some ⟨E,0,none⟩) 0 0)(p:oh 79 a w V E)
 (g:Option Addr)(q:Nat)(f:bg)(M:c.eval O=.slice g f.length q)(J:g=none->q=0)(F:∀V,Below a w V->dw a V g f)(A:a<=w.heap.size)(I:f.length<=1000)
 (Q:∀k w',dC true 79 a a w' k f->(∀v u,dC true 70 a a V v u->dC true 70 a a w' v u)->(∀C,oh 70 a w V C->oh 70 a w w' C)->Below a w w'->h (c.put e.dst k) w'):
 if Region.wanted e (yielded i c.tmps)=true then Oper.wp Tryz.prog e c V h m else n:=by
 have l:a<=V.heap.size:=aK A p.2.size;refine AG V D N O K a a (af _) (.slice (some ⟨E,0,none⟩) 0 0) [] L p.lit g q f M J (F V p.2) l (by simp;omega) l ?_;intro k w' G B z;have t:∀o,(Value.slice (some ⟨E,0,none⟩) 0 0).ownBlock=some o->a<=o∧∃x,V.heap[o]?=some (.cells x 79 (0,0)):=fun o d=>by
  cases d;exact⟨p.1.2,_,p.1.1⟩
 refine Q k w' (by rwa[bV]at G) (fun v u y=>y.grown (e':=79) (by decide) B fun o d=>⟨(t o d).1,(t o d).2,fun r=>?_⟩) (fun C j=>⟨⟨(B.block C (ak.1 j.1.1).1 fun r=>?_).trans j.1.1,j.1.2⟩,p.2.trans z⟩) (p.2.trans z)
 ·obtain⟨_,_,x,H⟩:=y.block r
  obtain⟨P,b⟩:=(t o d).2;rw[H]at b;simp only[dx,fU]at b;exact absurd b.2.1 (by decide)
 ·cases r
  have s:=j.1.1;rw[p.1.1]at s;simp only[dx,fU]at s;exact absurd s.2.1 (by decide)
