/-
  Parts of the proof.
-/
import Derived.Test.YtglohanbpjaieaaGreatDoorBdp2
import Derived.Deep.RegionHeld3
set_option maxHeartbeats 2000000
set_option maxRecDepth 100000
namespace Go.Proofs.YtglohanbpjaieaaGreatDoor
open Go.Proofs Go.RowKit Go.Shelf Go.Maps
variable {B:Oper}{C:Act}{D:Value}{F:Array Oper}{G:Exit->Act->World->Prop}{b e g q E:Nat}{d u y:List Int}{f A:World}{h:Int}{o:Int->Int}{w:List (List Int)}{z:uC}
theorem JJ(a:List Int)(YQ:Option Addr)(e:Nat)(c:World)(YX:a.length<=30)(z:0<a.length)(I:a.all Tm.known=true)(t:Tm.run a 1<=a.length)(YV:a.length<=e)(v:e<=maxLen)
 (Yj:cZ c.heap.size c YQ a)
 (YK:∀(d:Nat)(p:Option Addr)(f:Nat)(x:World),0<d->d<a.length->Tm.run (a.drop d) 1<=a.length-d->a.length-d<=f->f<=maxLen->cZ x.heap.size x p (a.drop d)->
   Calls Tryz.prog 88 #[.slice p (a.length-d) f] x fun C o=>∃q i,C=.returned (.tuple #[lh x.heap.size,.slice q (a.length-Tm.dn a d) i])∧Below x.heap.size x o∧(∀n X,cZ n X p (a.drop d)->cZ n X q (a.drop (Tm.dn a d)))∧a.length-Tm.dn a d<=i∧i<=maxLen∧gv x.heap.size o.heap.size o x.heap.size ((a.drop d).take (Tm.dn a d-d))):
 Calls Tryz.prog 88 #[.slice YQ a.length e] c fun C o=>∃q i,C=.returned (.tuple #[lh c.heap.size,.slice q (a.length-Tm.run a 1) i])∧Below c.heap.size c o∧(∀n X,cZ n X YQ a->cZ n X q (a.drop (Tm.run a 1)))∧a.length-Tm.run a 1<=i∧i<=maxLen∧gv c.heap.size o.heap.size o c.heap.size (a.take (Tm.run a 1)):=by
 have YO:e<=9223372036854775807:=v;obtain⟨Y6,Yh,rfl,Zj,Yw⟩:=Yj.at z;have W:=Yw 0 z;rw[gp]at W;have Zh:(0:Int)<(a.length:Int):=by omega
 have Y8:(a.length:Int)<=30:=by omega
 have Zi:(a.length:Int)<=(e:Int):=by omega
 have r:=Tm.ub a 0 z;rw[jK]at r;rw[r]at t⊢;have M:=iC (lM I z);have Ye:=Tm.room_le (a[0]?.getD 0);have Yv:=show Hid _ from Yj
 have YL:=show Hid _ from YK
 clear Yw Yj r I YK;have Yu:Hid (a[0]?.getD 0=a[0]?.getD 0):=rfl;generalize Yg:a[0]?.getD 0=N at W t M Ye⊢;have Yo:=hid Yg;clear Yg Yu;have w:∀x,Calls Tryz.prog 116 #[.int .i64 N] x fun d o=>d=.returned (.int .i64 (Tm.room N:Int))∧o=x:=fun x=>y9 N x M
 clear M;generalize Yf:Tm.room N=C at t Ye w⊢;have Yn:=hid Yf.symm;clear Yf;obtain⟨Y2,YW,YH,YI,YJ⟩:=fh Tryz.IT;have b:Node (c.alloc (.cells #[.int .i64 N,.slice none 0 0] 119)) c.heap.size N (.slice none 0 0):=aM c _;have u:Below c.heap.size c (c.alloc (.cells #[.int .i64 N,.slice none 0 0] 119)):=(ah _ c).alloc (af _) _;have YE:c.heap.size<(c.alloc (.cells #[.int .i64 N,.slice none 0 0] 119)).heap.size:=by simp
 obtain⟨P,H⟩:∃P,c.alloc (.cells #[.int .i64 N,.slice none 0 0] 119)=P:=⟨_,rfl⟩;rw[H]at b u YE;have R:Hid (c.alloc (.cells #[.int .i64 N,.slice none 0 0] 119)=P):=H;clear H;by_cases Y:e=1
 ·subst Y
  have YA:a.length=1:=by omega
  have YD:C=0:=by have:=nz a 0 1 C;have Y7:=Tm.jL a 0 0;rw[cI]at Y7;have:=Tm.im a (Tm.pos a 0 0);have:=Tm.iI a 0;omega
  subst YD;have O:=hid ((pO.start c.heap.size P a (.slice none 0 0) [] rfl).done b (gq _ _ _ _) Yn.out Yo.out z);rw[Tm.iI]at O⊢;go_enter Tryz.func88,Tryz.ntmps88;go_wp2;rw[R.out];have YB:=b.cell0;have Zg:=show Hid _ from b
  clear b YA;refine ft 1 ?_;rw[eK];go_wp2_with(go_at_call 116;refine(w _).mono ?_;rintro d wr⟨rfl,rfl⟩)
  go_ret2
  refine⟨some ⟨Y6,Yh,none⟩,0,?_,u,fun n X A=>by rw[jX (by omega)];exact cZ.nil _ _ _,by omega,by unfold maxLen;omega,O.out⟩;rw[show a.length-(0+1)=0 from by omega];rfl
 ·have Y4:Hid (¬e=1):=Y
  go_enter Tryz.func88,Tryz.ntmps88;go_wp2;rw[R.out];go_loopw [5,6](fun Zl Y0 wr=>∃(h:Nat)(p:Option Addr)(y:Nat)(YM:Value)(Yl:List Value),h<=C∧Y0=.int .i64 (h:Int)∧Zl=.slice p (a.length-Tm.pos a 0 h) y∧Hid (∀n X,cZ n X (some ⟨Y6,Yh,none⟩) a->cZ n X p (a.drop (Tm.pos a 0 h)))∧a.length-Tm.pos a 0 h<=y∧y<=maxLen∧
   Node wr c.heap.size N YM∧wr.ownsRow (c.heap.size+1) 92 1 YM h Yl∧Below c.heap.size c wr∧Hid (pO c.heap.size wr a h YM Yl))(fun _ Y0 _=>C-(intOf Y0).toNat)
  case atStart=>exact⟨0,_,_,_,[],bf _,rfl,by rw[Tm.iI],fun n X A=>by rw[Tm.iI];exact A.drop 1,by rw[Tm.iI];omega,by unfold maxLen;omega,b,gq _ _ _ _,u,pO.start _ _ _ _ _ rfl⟩
  case round=>
   obtain⟨h,p,y,YM,Yl,Zk,rfl,rfl,F,Z,j,Q,s,E,T⟩:=hrel;have YB:=Q.cell0;by_cases Zc:h<C
   ·have YY:(h:Int)<(C:Int):=by omega
    have Yc:=Tm.om a 0 h;have L:=Tm.jL a 0 h;have Yd:=nz a 0 (h+1) C (by omega);have YC:=Tm.im a (Tm.pos a 0 h);have Yk:=YL.out (Tm.pos a 0 h) p y wr Yc (by omega) (by unfold Tm.dn at L;omega) Z j ((F.out _ _ (cZ.below E Yv.out)).mono E.size);rw[<-L]at Yk;have A:=Q.lt;have YU:y<=9223372036854775807:=j;have Y5:=show Hid _ from Yd
    have Yt:Hid (Tm.pos a 0 (h+1)<=a.length):=by show _<=_;omega
    clear Yc L Yd YC j b u v;go_wp2_with(first
     |(go_at_call 116;refine(w _).mono ?_;rintro d wr⟨rfl,rfl⟩)
     |(go_at_call 88;refine Yk.mono ?_;clear Yk;rintro d YP⟨q,i,rfl,g,S,Yx,J,U⟩;have G:=Q.kept (gI g) (by simp);have m:=s.kept (gI g) (by cases Y7:YM.ownBlock with|none=>exact .inl rfl|some B=>exact .inr (by simp));obtain⟨YR,YS,rfl⟩:=GN m;have Zd:=G.dh;have Y9:=G.frozen;have Ym:=show Hid _ from S;clear S;have Yi:=show Hid _ from J;clear J;have Yp:=hid U;clear U)
     |(at_builtin;go_loud(refine wpList_append_own_at _ rfl _ _ 117 rfl (c.heap.size+1) 92 Y2 (.pointer none) 1 8 Tryz.underlying117 YW YH YI YJ rfl (by decide) _ _ _ rfl (m.alloc _) ⟨YP.heap.size,0,none⟩ 1 1 [lh wr.heap.size] rfl rfl (vy _ _ _) (by simp[Value.oneCell',lh]) (by unfold maxLen;omega) (by omega) (by have:=g.size;simp;omega) ?_);intro Zm Y3 l k _ V;obtain⟨YT,f,rfl⟩:=jy l;have YN:=G.appended m l k;have Ze:=YN.1.dh;have Za:=YN.1.frozen;have D:=show Hid _ from YN;have Yr:=hid k;have Yq:=hid V;clear YN l k V))
    refine⟨⟨h+1,q,i,_,_,by omega,by go_num,rfl,fun n X A=>Ym.out n X (F.out n X A),Yx,Yi.out,D.out.2.1,D.out.2.2.1,(E.trans (g.mono E.size)).trans D.out.2.2.2,?_⟩,by simp[intOf];omega⟩;have YF:=g.size;have YG:=Yr.out.size;have YZ:∀B,(Value.slice YR h YS).ownBlock=some B->c.heap.size<B∧B<wr.heap.size:=fun B K=>by have:=s.lt B K;omega
    refine pO.step T.out rfl A YF (fun B K=>g.block B K) Yp.out (fun B K=>(YZ B K).2) ?_ ?_ ?_ rfl Yt.out
    ·rcases Yq.out with d|d
     ·exact .inl d
     ·exact .inr ⟨_,d,by simp⟩
    ·have Zf:=(ef Y3 ⟨c.heap.size,1,none⟩ (Value.slice (some ⟨YT,0,none⟩) (h+1) f)).size;simp at YG;omega
    ·intro B Zb Yy Yz
     rw[aT _ _ _ _ (by simp;omega),Yr.out.block B (by simp;omega) (fun d=>Yz B d.symm rfl),cM _ _ _ Yy]
   ·obtain rfl:h=C:=by omega
    have O:=hid (T.out.done Q s Yn.out Yo.out z);go_wp2_with(go_at_call 116;refine(w _).mono ?_;rintro d wr⟨rfl,rfl⟩)
    go_ret2
    exact⟨_,_,rfl,E,F,Z,j,O.out⟩
theorem Mi:∀(m:Nat)(a:List Int)(l:Option Addr)(b:Nat)(d:World),a.length<=m->a.length<=30->0<a.length->a.all Tm.known=true->Tm.run a 1<=a.length->a.length<=b->b<=maxLen->cZ d.heap.size d l a->
 Calls Tryz.prog 88 #[.slice l a.length b] d fun G k=>∃o g,G=.returned (.tuple #[lh d.heap.size,.slice o (a.length-Tm.run a 1) g])∧Below d.heap.size d k∧(∀n X,cZ n X l a->cZ n X o (a.drop (Tm.run a 1)))∧a.length-Tm.run a 1<=g∧g<=maxLen∧gv d.heap.size k.heap.size k d.heap.size (a.take (Tm.run a 1)):=by
 intro m;induction m with
 |zero=>intro a l b d D _ E;omega
 |succ m y=>
  intro a l b d F p t c j i f u;refine JJ a l b d p t c j i f u ?_;intro e s h C A B w v r q;have z:=y (a.drop e) s h C (by rw[cH];omega) (by rw[cH];omega) (by rw[cH];omega)
   (by rw[dD]at c⊢;exact fun H x=>c H (jG x)) (by rw[cH];exact w) (by rw[cH];exact v) r q
  simp only[cH,kt]at z;rw[tC,show a.length-(e+Tm.run (a.drop e) 1)=a.length-e-Tm.run (a.drop e) 1 from by omega,show e+Tm.run (a.drop e) 1-e=Tm.run (a.drop e) 1 from by omega];exact z
theorem r9(b:List Int)(k:Option Addr)(a:Nat)(e:World)(c:Tm.err b=0)(f:b.length<=a)(d:a<=maxLen)(i:cZ e.heap.size e k b):
 Calls Tryz.prog 56 #[.slice k b.length a] e fun p h=>p=.returned (lh e.heap.size)∧Below e.heap.size e h∧gv e.heap.size h.heap.size h e.heap.size b:=by
 have j:=fS c;have g:=Mi _ b k a e (af _) (cK c) (dU c) (fw c) (by omega) f d i;rw[j,cJ]at g;clear i j c;go_enter Tryz.func56,Tryz.ntmps56;go_wp2_with(go_at_call 88;refine g.mono ?_;clear g;rintro r q⟨n,o,rfl,l,_,_,_,m⟩)
 go_ret;exact⟨rfl,l,m⟩
theorem pV{gK:List (List Int)}{k:Nat}(a:k<gK.length):(gK.take (k+1)).flatten=(gK.take k).flatten++(gK[k]?.getD []):=by
 rw[JC a,fB];simp
theorem yv{gK:List (List Int)}{k:Nat}(b:k<gK.length):(gK.take k).flatten.length+(gK[k]?.getD []).length<=gK.flatten.length:=by
 have a:gK.flatten.length=((gK.take (k+1))++gK.drop (k+1)).flatten.length:=by rw[fM]
 rw[a,fB,ai,pV b,ai];omega
theorem A1{gK:List (List Int)}(b:Nat):(gK.take b).flatten.length<=gK.flatten.length:=by
 have a:gK.flatten.length=((gK.take b)++gK.drop b).flatten.length:=by rw[fM]
 rw[a,fB,ai];omega
theorem Mq{base:Nat}(i:cU base f D d):∃c a,D=.slice c d.length a∧cZ f.heap.size f c d∧(c=none->d.length=0∧a=0):=by
 obtain⟨c,a,rfl,e,j,k⟩:=cU.ints i;refine⟨c,a,rfl,e,fun b=>?_⟩;subst b;rcases i.2 with⟨b,g⟩|⟨m,l,h,b,_⟩
 ·simp only[iS]at b;exact⟨g,b.2.2⟩
 ·simp at b
theorem NQ(X:gv g e f b d):d.length<=1000->∀W',(∀k,g<=k->k<e->W'.heap[k]?=f.heap[k]?)->e<=W'.heap.size->
 Calls Tryz.prog 157 #[lh b] W' fun Yq V=>∃v,Yq=.returned v∧cU W'.heap.size V v d∧Below W'.heap.size W' V:=by
 induction X with
 |mk b p v c gK L M J Yi S Q _ U=>
  intro i o B Yu;simp only[aI]at i;obtain⟨a,Yp,rfl,P⟩:=Yi;have Yx:=Tm.room_le p;have m:Node o b p (.slice a c.length Yp):=(B b L M).trans J;have Yv:=m.cell0;have u:=cU.lit o.heap.size o [p] (af _) (by unfold maxLen;simp);simp only[fF,gy,aI,bH,cI]at u;have G:Below o.heap.size o (o.alloc (.cells #[.int .i64 p] 3)):=(ah _ _).alloc (af _) _;have Yr:(c.length:Int)<=2:=by omega
  have Z:=hid U;have D:=hid B;have Y:=hid P;have C:=hid m;have z:=hid Q;have Yz:=hid S;have l:=hid i;clear U B P J m Q S i;go_enter Tryz.func157,Tryz.ntmps157;go_wp2;go_loopw [3,4](fun YD Ym wr=>∃k:Nat,k<=c.length∧Ym=.int .i64 (k:Int)∧Hid (cU o.heap.size wr YD (p::(gK.take k).flatten))∧Below o.heap.size o wr)(fun _ Ym _=>c.length-(intOf Ym).toNat)
  case atStart=>exact⟨0,bf _,rfl,by simpa [Hid]using u,G⟩
  case round=>
   obtain⟨k,YC,rfl,n,h⟩:=hrel;have t:Node wr b p (.slice a c.length Yp):=(h.block b (by omega)).trans C.out;have Yw:=t.dh;obtain⟨Yc,Ye,rfl,_⟩:=cU.ints n.out;by_cases w:k<c.length
   ·have Yj:(k:Int)<(c.length:Int):=by omega
    obtain⟨W,y,rfl,N,O,j⟩:=Y.out k w;have Yt:wr.cell? ⟨W,y+k,none⟩=some (lh (c[k]?.getD 0)):=(aH (a:=⟨W,y+k,none⟩) ((h.block W (by omega)).trans (D.out W N O))).trans j;have R:=yv (gK:=gK) (k:=k) (by have:=z.out;omega);have hF:=Z.out k w (by have:=l.out;omega) wr (fun Yy Yg Yh=>(h.block Yy (by omega)).trans (D.out Yy Yg Yh)) (by have:=h.size;omega);have T:=hid (pV (gK:=gK) (k:=k) (by have:=z.out;omega));have E:Hid ((p::(gK.take k).flatten).length+(gK[k]?.getD []).length<=1000000):=by have:=l.out;show _<=_;simp only[aI];omega
    clear j R t;generalize gK[k]?.getD []=Yn at*;generalize c[k]?.getD 0=YI at*;generalize x:p::(gK.take k).flatten=Yo at*;have F:=hid x;clear x;go_wp2_with(first
     |(go_at_call 157;refine hF.mono ?_;clear hF;rintro Yq YG⟨YF,rfl,K,q⟩;have A:=hid (n.out.below q);have r:=h.trans (q.mono h.size);obtain⟨Yd,Yf,rfl,I,Yk⟩:=Mq K)
     |(at_builtin;go_loud(refine dB _ rfl _ _ rfl o.heap.size _ Yo rfl A.out Yd Yn Yf rfl Yk I E.out r.size ?_);intro YE YH s H;obtain⟨YA,YB,rfl,_⟩:=cU.ints s))
    go_roundw
    case rel=>exact⟨k+1,by omega,by go_num,by rw[T.out,<-bc,F.out];simpa [Hid]using s,r.trans H⟩
    case measure=>simp[intOf];omega
   ·obtain rfl:k=c.length:=by omega
    have Yl:Hid (gK.take c.length=gK):=by show _=_;rw[<-z.out,cJ]
    go_wp2;go_ret;refine⟨_,rfl,?_,h⟩;have X:=n.out;show cU o.heap.size wr (.slice Yc (p::(gK.take c.length).flatten).length Ye) (p::gK.flatten);rw[Yl.out]at X⊢;exact X
theorem Cg(a:World)(j:gv g b a e d)(h:d.length<=1000)(c:b<=a.heap.size):
 Calls Tryz.prog 157 #[lh e] a fun i f=>∃v,i=.returned v∧cU a.heap.size f v d∧Below a.heap.size a f:=
 NQ j h a (fun _ _ _=>rfl) c
theorem rZ(a:List (List Int)):(∀j,j<a.length->Tm.run (a[j]?.getD []) 1=(a[j]?.getD []).length)->Tm.run a.flatten a.length=a.flatten.length:=by
 induction a with
 |nil=>intro _;simp[Tm.gu]
 |cons f h e=>
  intro g;have b:Tm.run f 1=f.length:=by simpa using g 0 (by simp)
  have d:=e (fun j c=>by simpa using g (j+1) (by simpa using c));rw[aI,kT,Tm.rF,fO,mh f _ 1 (by omega),b,lu,d,ai]
theorem gv.run(k:gv e g f b d):Tm.run d 1=d.length:=by
 induction k with
 |mk b n o j a _ _ _ _ h c _ i=>
  rw[show(1:Nat)=0+1 from rfl,Tm.fT,cI,<-h,<-c,rZ a (fun m l=>i m (by omega)),aI];omega
theorem nV{pre t post:List Int}{k:Nat}(b:k<=t.length)(a:Tm.dn t k<=t.length):Tm.dn (pre++(t++post)) (pre.length+k)=pre.length+Tm.dn t k:=by
 unfold Tm.dn at a⊢;rw[uE,jX (by omega),bV,mD,ku b,mh _ _ _ (by rw[cH];omega)];omega
theorem s7{pre t post:List Int}{k:Nat}(a:k<=t.length)(b:Tm.dn t k<=t.length):cD (pre++(t++post)) (pre.length+k)=cD t k:=by
 unfold cD;rw[nV a b,uE,jX (by omega),bV,mD,ku a,show pre.length+Tm.dn t k-(pre.length+k)=Tm.dn t k-k from by omega,
  ra (by rw[cH];omega)]
theorem J9(a:b<d.length):(u++(d++y))[u.length+b]?.getD 0=d[b]?.getD 0:=by
 rw[aU (by omega),mD,aV a]
theorem ko.fin(e:ko d u d.length b):b=u.length:=by
 obtain⟨h,a,c,f,g⟩:=e;rw[eu,Tm.oM]at a;have:h=0:=by omega
 subst this;rw[Tm.gu]at c;omega
theorem Fj(b h f g rest:List Int):∀(n i k:Nat)(m:uC),g.length-i=n->i<=g.length->ko g h i k->
 eD (b++(h++f)) (g.drop i++rest) (b.length+k) m=(eD h (g.drop i) k m).bind fun r=>eD (b++(h++f)) rest (b.length+h.length) r:=by
 intro n;induction n with
 |zero=>
  intro i k m q o c;obtain rfl:i=g.length:=by omega
  rw[eu,mO,c.fin];rfl
 |succ n l=>
  intro i k m q o c;have a:i<g.length:=by omega
  have p:=c.pos a;have j:=c.FV a;rw[bZ a,bc,eD,eD,s7 (by omega) j,nV (by omega) j,J9 p];by_cases d:g[i]<0
  ·rw[aD d,aD d]
   split
   ·rfl
   ·exact l (i+1) (Tm.dn h k) _ (by omega) (by omega) (c.var a (by simpa [a]using d))
  ·rw[aE d,aE d]
   by_cases e:h[k]?.getD 0=g[i]
   ·rw[aD e,aD e]
    exact l (i+1) (k+1) m (by omega) (by omega) (c.sym a (by simpa [a]using e))
   ·rw[aE e,aE e];rfl
theorem yV(a:b<w.length):(w.drop b).flatten=w[b]?.getD []++(w.drop (b+1)).flatten:=by
 rw[bZ a,fO];simp[a]
theorem tB(a:b<w.length):w.flatten=(w.take b).flatten++(w[b]?.getD []++(w.drop (b+1)).flatten):=by
 rw[<-yV a,<-fB,fM]
theorem Gl{s:Int}{pss tss:List (List Int)}{j:Nat}(d:uC)(a:j<pss.length)(g:tss.length=pss.length)(b:Tm.run (pss[j]?.getD []) 1=(pss[j]?.getD []).length)(c:Tm.run (tss[j]?.getD []) 1=(tss[j]?.getD []).length):
 eD (s::tss.flatten) (pss.drop j).flatten (1+(tss.take j).flatten.length) d=(eD (tss[j]?.getD []) (pss[j]?.getD []) 0 d).bind fun e=>eD (s::tss.flatten) (pss.drop (j+1)).flatten (1+(tss.take (j+1)).flatten.length) e:=by
 have f:=Fj (s::(tss.take j).flatten) (tss[j]?.getD []) (tss.drop (j+1)).flatten (pss[j]?.getD []) (pss.drop (j+1)).flatten _ 0 0 d rfl (by omega) ⟨1,by simpa using b,by simpa using c,by omega,by omega⟩;rw[bc,<-tB (by omega),sH,<-yV a,aI]at f;rw[pV (by omega),ai,show 1+((tss.take j).flatten.length+(tss[j]?.getD []).length)=(tss.take j).flatten.length+1+(tss[j]?.getD []).length from by omega,show 1+(tss.take j).flatten.length=(tss.take j).flatten.length+1+0 from by omega];exact f
theorem OB{d:Type}{a:Int->Option d}{c:d}(e:a h=some c):upd a h c=a:=by
 funext f
 by_cases b:f=h
 ·subst b;rw[nC,e]
 ·rw[my _ _ b]
theorem jV(a:Tm.run d 1=d.length):cD d 0=d:=by
 unfold cD Tm.dn;rw[sH,a,cI,Nat.sub_zero,cJ]
def Ad(W:World)(Bs lo hi:Nat)(m:uC):Prop:=∀v:Nat,v<8->W.frozen? ⟨Bs,v,none⟩=false∧
 ((m (-1-(v:Int))=none∧W.cell? ⟨Bs,v,none⟩=some (.pointer none))∨∃zs X,m (-1-(v:Int))=some zs∧W.cell? ⟨Bs,v,none⟩=some (lh X)∧gv lo hi W X zs∧zs.length<=30)
theorem Ad.eV{W':World}(t:Ad f b q e z)(a:Below g f W')(h:b<g)(j:e<=g):Ad W' b q e z:=fun o n=>by
 obtain⟨m,l⟩:=t o n;refine⟨by rw[<-m];simp only[World.frozen?,a.block b h],?_⟩;rcases l with⟨c,d⟩|⟨r,s,c,d,k,i⟩
 ·exact .inl ⟨c,(a.cell (p:=⟨b,o,none⟩) h).trans d⟩
 ·exact .inr ⟨r,s,c,(a.cell (p:=⟨b,o,none⟩) h).trans d,k.under a j,i⟩
theorem A9(a:World)(c b:Addr)(d:Value):(a.setCell c d).frozen? b=a.frozen? b:=qj ..
theorem Ad.set{v:Nat}(p:Ad f b e q z)(C:v<8)(y:b<e)(r:gv e q f g d)(t:d.length<=30):
 Ad (f.setCell ⟨b,v,none⟩ (lh g)) b e q (upd z (-1-(v:Int)) d):=fun n u=>by
 have l:∀h,e<=h->h<q->(f.setCell ⟨b,v,none⟩ (lh g)).heap[h]?=f.heap[h]?:=fun h B _=>aT _ _ _ h (by simp;omega)
 obtain⟨s,j⟩:=p n u;refine⟨by rw[A9];exact s,?_⟩;by_cases x:n=v
 ·subst x
  refine .inr ⟨d,g,nC _ _ _,sN _ _ _ ?_,r.eV (af _) (af _) l,t⟩;rcases j with⟨_,a⟩|⟨_,_,_,a,_⟩<;>rw[a]<;>rfl
 ·have m:(-1-(n:Int))≠(-1-(v:Int)):=by omega
  have k:(f.setCell ⟨b,v,none⟩ (lh g)).cell? ⟨b,n,none⟩=f.cell? ⟨b,n,none⟩:=oi _ _ _ _ (fun p=>x (by cases p;rfl));rw[my _ _ m,k];rcases j with⟨c,a⟩|⟨w,A,c,a,i,o⟩
  ·exact .inl ⟨c,a⟩
  ·exact .inr ⟨w,A,c,a,i.eV (af _) (af _) l,o⟩
def dX(x:List Int):Int:=x[0]?.getD 0
def fu(x:List Int)(m:Nat):List Int:=cD x (Tm.pos x 0 m)
theorem iM{x:List Int}{m:Nat}(a:m<Tm.room (dX x)):(fu x m).length<x.length:=by
 cases x with
 |nil=>simp[dX,Tm.room]at a
 |cons c b=>
  have:=Tm.om (c::b) 0 m
  simp only[fu,cD,cX,cH,aI];omega
inductive iw(r:Int->Int):List Int->List Int->Prop
 |eq(a b:List Int)(m:Nat):m<Tm.room (dX a)->fu a m=b->iw r a b
 |sub(a b:List Int)(m:Nat):m<Tm.room (dX a)->iw r (fu a m) b->iw r a b
 |rk(a b:List Int):0<=dX a->0<=dX b->(∀m,m<Tm.room (dX b)->iw r a (fu b m))->dX a≠dX b->r (dX b)<r (dX a)->iw r a b
 |lex(a b:List Int)(m:Nat):0<=dX a->dX a=dX b->(∀m,m<Tm.room (dX b)->iw r a (fu b m))->m<Tm.room (dX a)->(∀l,l<m->fu a l=fu b l)->iw r (fu a m) (fu b m)->iw r a b
theorem iw.pos{r:Int->Int}(f:iw r d u):0<=dX d:=by
 have b:∀e,e<Tm.room (dX d)->0<=dX d:=fun e a=>by unfold Tm.room at a;split at a<;>(try split at a)<;>omega
 cases f with
 |eq _ _ e a _=>exact b e a
 |sub _ _ e a _=>exact b e a
 |rk _ _ c _ _ _ _=>exact c
 |lex _ _ _ c _ _ _ _ _=>exact c
theorem iw.OP:∀(n:Nat)(e i c:List Int),e.length+i.length+c.length<n->iw o e i->iw o i c->iw o e c:=by
 intro n;induction n with
 |zero=>intro e i c L;omega
 |succ n v=>
  intro e i c L q r;have w:(∀m,m<Tm.room (dX i)->iw o e (fu i m))->0<=dX e->((dX e≠dX i∧o (dX i)<o (dX e))∨(dX e=dX i∧∃m,m<Tm.room (dX e)∧(∀p,p<m->fu e p=fu i p)∧iw o (fu e m) (fu i m)))->iw o e c:=by
   intro f d C;cases r with
   |eq _ _ m a G=>rw[<-G];exact f m a
   |sub _ _ m a K=>exact v e (fu i m) c (by have:=iM a;omega) (f m a) K
   |rk _ _ z A s u E=>
    have b:∀m,m<Tm.room (dX c)->iw o e (fu c m):=fun m a=>v e i (fu c m) (by have:=iM a;omega) q (s m a)
    rcases C with⟨h,D⟩|⟨h,_⟩
    ·refine .rk e c d A b (fun G=>?_) (by omega)
     rw[G]at D;omega
    ·exact .rk e c d A b (by rw[h];exact u) (by rw[h];exact E)
   |lex _ _ m z j s a l y=>
    have b:∀m,m<Tm.room (dX c)->iw o e (fu c m):=fun m a=>v e i (fu c m) (by have:=iM a;omega) q (s m a)
    rcases C with⟨h,D⟩|⟨h,F,t,k,B⟩
    ·exact .rk e c d (by omega) b (by rw[<-j];exact h) (by rw[<-j];exact D)
    ·rcases nn m F with J|H|I
     ·exact .lex e c m d (h.trans j) b (by omega) (fun p g=>(k p (by omega)).trans (l p g)) (by rw[k m J];exact y)
     ·subst H
      refine .lex e c m d (h.trans j) b t (fun p g=>(k p g).trans (l p g)) (v _ _ _ ?_ B y);have M:=iM (x:=e) t;have N:=iM (x:=i) a;have O:=iM (x:=c) (m:=m) (by rw[<-j];exact a);omega
     ·exact .lex e c F d (h.trans j) b t (fun p g=>(k p g).trans (l p (by omega))) (by rw[<-l F I];exact B)
  cases q with
  |eq _ _ m a G=>exact .sub e c m a (by rw[G];exact r)
  |sub _ _ m a K=>exact .sub e c m a (v _ i c (by have:=iM a;omega) K r)
  |rk _ _ d z f u E=>exact w f d (.inl ⟨u,E⟩)
  |lex _ _ m d j f a l y=>exact w f d (.inr ⟨j,m,a,l,y⟩)
theorem iw.trans(b:iw o d u)(a:iw o u y):iw o d y:=iw.OP _ d u y (mE _) b a
theorem iw.irrefl:∀(n:Nat)(b:List Int),b.length<n->¬iw o b b:=by
 intro n;induction n with
 |zero=>intro b f;omega
 |succ n d=>
  intro b i f;cases f with
  |eq _ _ e a h=>have:=iM a;rw[h]at this;omega
  |sub _ _ e a f=>exact d (fu b e) (by have:=iM a;omega) (f.trans (.eq b _ e a rfl))
  |rk _ _ _ _ _ c _=>exact c rfl
  |lex _ _ e _ _ _ a _ g=>exact d (fu b e) (by have:=iM a;omega) g
theorem iw.self(a:List Int):¬iw o a a:=iw.irrefl _ a (mE _)
theorem iw.iff(c d:List Int):iw o c d↔(∃m,m<Tm.room (dX c)∧(fu c m=d∨iw o (fu c m) d))∨
 (0<=dX c∧0<=dX d∧(∀m,m<Tm.room (dX d)->iw o c (fu d m))∧((dX c≠dX d∧o (dX d)<o (dX c))∨(dX c=dX d∧∃m,m<Tm.room (dX c)∧(∀l,l<m->fu c l=fu d l)∧iw o (fu c m) (fu d m)))):=by
 constructor
 ·intro n
  cases n with
  |eq _ _ m b p=>exact .inl ⟨m,b,.inl p⟩
  |sub _ _ m b n=>exact .inl ⟨m,b,.inr n⟩
  |rk _ _ e g a f j=>exact .inr ⟨e,g,a,.inl ⟨f,j⟩⟩
  |lex _ _ m e k a b i h=>exact .inr ⟨e,by omega,a,.inr ⟨k,m,b,i,h⟩⟩
 ·rintro(⟨m,b,p|n⟩|⟨e,g,a,⟨f,j⟩|⟨k,m,b,i,h⟩⟩)
  ·exact .eq c d m b p
  ·exact .sub c d m b n
  ·exact .rk c d e g a f j
  ·exact .lex c d m e k a b i h
def Jb(w':World)(e:Ending)(Bs lo hi:Nat):Option uC->Prop
 |none=>e=.returned (.bool false)
 |some m=>e=.returned (.bool true)∧Ad w' Bs lo hi m
theorem eZ.cell(d:eZ b e f A){p:Addr}(a:p.block<b)(c:p.block≠e):A.cell? p=f.cell? p:=aH (d.block p.block a c)
theorem iE(a:eZ b e f A)(c:Nat):eZ b e f (A.drewN c):=⟨a.os,a.tape,a.output,a.size,a.block⟩
theorem Kh(B:Int)(O:Value)(a:List Int)(h:World)(A:uC)(Yd: -8<=B)(N:B<0)(U:Node h E B O)(o:q<=h.heap.size)(M:b<g)(F:b<h.heap.size)(n:gv g q h e a)(X:a.length<=30)(hF:Ad h b g q A):
 Calls Tryz.prog 155 #[lh E,lh e,lh b] h fun d p=>eZ h.heap.size b h p∧Jb p d b g q (eD a [B] 0 A):=by
 obtain⟨k,rfl⟩:∃k:Nat,B= -1-(k:Int):=⟨(-1-B).toNat,by omega⟩;have L:k<8:=by omega
 have Y:(k:Int)<8:=by omega
 have Z:=U.cell0;have f:=jV n.run;obtain⟨Ye,z⟩:=hF k L;have W: -(-1-(k:Int))-1=(k:Int):=by omega
 rcases z with⟨i,z⟩|⟨j,Yc,i,z,y,Yf⟩
 ·have c:eD a [-1-(k:Int)] 0 A=some (upd A (-1-(k:Int)) a):=by
   rw[eD,aD N,i,aE (by simp),f,mO]
  rw[c];have V:=hid (hF.set L M n X);clear c f i hF n;go_enter Tryz.func155,Tryz.ntmps155;go_wp2;go_ret;exact⟨eZ.oz (iz h b k (lh e)) (af _),rfl,V.out⟩
 ·have w:=Cg h y (by omega) o
  have x:∀r,Below h.heap.size h r->Calls Tryz.prog 157 #[lh e] r fun d p=>∃O,d=.returned O∧cU r.heap.size p O a∧Below r.heap.size r p:=fun r s=>Cg r (n.under s o) (by omega) (by have:=s.size;omega)
  have G:=hid (fun r(s:Below h.heap.size h r)=>hF.eV s F o);have C:=hid x;have c:eD a [-1-(k:Int)] 0 A=if j=a then some A else none:=by
   rw[eD,aD N,i,f];by_cases d:j=a
   ·subst d;rw[aE (by simp),aD rfl,mO,OB i]
   ·rw[aD (by simp[d]),aE d]
  generalize eD a [-1-(k:Int)] 0 A=Yl at c⊢;have P:=hid c;have t:Hid (lJ j a=decide (j=a)):=rfl;clear c f i hF n y x;go_enter Tryz.func155,Tryz.ntmps155;go_wp2_with(first
   |(go_at_call_of 157(lh Yc);refine w.mono ?_;clear w;rintro d Yi⟨Yg,rfl,J,l⟩;obtain⟨Q,S,rfl,H,_⟩:=cU.ints J)
   |(go_at_call_of 157(lh e);refine(C.out _ l).mono ?_;rintro d Yj⟨Yh,rfl,K,m⟩;obtain⟨R,T,rfl,I,_⟩:=cU.ints K;have u:=l.trans (m.mono l.size))
   |(go_at_call 64;refine(wx j a Q R S T _ ((H.below m).mono m.size) I (by unfold maxLen;omega)).mono ?_;rintro d Yk⟨rfl,D⟩;have v:=u.trans (D.mono u.size)))
  go_ret;refine⟨eZ.kd v,?_⟩;rw[P.out];by_cases d:j=a
  ·rw[aD d];exact⟨kM (by rw[t.out];simp[d]),G.out _ v⟩
  ·rw[aE d];exact kM (by rw[t.out];simp[d])
theorem gv.open(v:gv e g f b d):∃(s:Int)(k:Option Addr)(c:Nat)(a:List Nat)(h:List (List Int)),d=s::h.flatten∧e<=b∧b<g∧Node f b s (.slice k a.length c)∧a.length=Tm.room s∧h.length=a.length∧
 (∀j,j<a.length->∃l i,k=some ⟨l,i,none⟩∧e<=l∧l<g∧f.cell? ⟨l,i+j,none⟩=some (lh (a[j]?.getD 0)))∧∀j,j<a.length->gv e g f (a[j]?.getD 0) (h[j]?.getD []):=by
 cases v with
 |mk b s w a h m n o p q r t=>
  obtain⟨k,c,rfl,u⟩:=p;exact⟨s,k,c,a,h,rfl,m,n,o,q,r,u,t⟩
theorem J8{ps:List Int}(Zd:gv g q f e ps):(∀x∈ps,Tm.known x=true)->∀(M:Nat)(Yi:List Int)(N:World)(m:uC),(∀k,g<=k->k<q->N.heap[k]?=f.heap[k]?)->q<=N.heap.size->b<g->b<N.heap.size->
 gv g q N M Yi->Yi.length<=30->Ad N b g q m->
 Calls Tryz.prog 155 #[lh e,lh M,lh b] N fun YI v=>eZ N.heap.size b N v∧Jb v YI b g q (eD Yi ps 0 m):=by
 induction Zd with
 |mk e s Zc o pss YN T YM YO YT Yv Y Yz=>
  intro Yd M Yi N m Yy h Yr E Yu Yx hF;have F:Node N e s Zc:=(Yy e YN T).trans YM;by_cases Yg:s<0
  ·have YQ:pss=[]:=bJ (by rw[Yv,YT,tg Yg])
   rw[YQ,mC];exact Kh s Zc Yi N m (j7 (Yd s (by simp))) Yg F h Yr E Yu Yx hF
  ·obtain⟨a,YH,rfl,U⟩:=YO
   have Y9:=F.cell0;obtain⟨y,Y2,Q,u,tss,rfl,Y7,Yp,R,YU,Yq,W,V⟩:=Yu.open;have Zb:=R.cell0;have Za:¬(s:Int)<0:=Yg;by_cases L:y=s
   ·subst L
    have YS:(y !=y)=false:=by simp
    have Yh:Hid (eD (y::tss.flatten) (y::pss.flatten) 0 m=eD (y::tss.flatten) (pss.drop 0).flatten (1+(tss.take 0).flatten.length) m):=by
     show _=_;rw[eD,aE Yg,aD (by simp)];simp
    have Y8:(o.length:Int)<=2:=by have:=Tm.room_le y;omega
    have Y0:=hid Yz;have YE:=hid Y;have YB:=hid U;have YD:=hid W;have YC:=hid V;have YZ:=hid F;have YA:=hid R;have YF:=hid Yy;have YG:=hid Yd;have Yj:=hid Yv;have Yl:=hid Yq;have Yk:Hid (u.length=o.length):=by show _=_;omega
    have YY:=hid hF;have Yt:Hid ((y::tss.flatten).length<=30):=Yx;clear Yz Y U W V YM F R Yy Yd Yv Yq hF Yu Yx YT YU;go_enter Tryz.func155,Tryz.ntmps155;go_wp2;go_quiet(fail)
    go_wp2;go_loopw [8](fun Y6 wr=>∃(k:Nat)(mk:uC),k<=o.length∧Y6=.int .i64 (k:Int)∧Hid (eD (y::tss.flatten) (y::pss.flatten) 0 m=eD (y::tss.flatten) (pss.drop k).flatten (1+(tss.take k).flatten.length) mk)∧Hid (Ad wr b g q mk)∧eZ N.heap.size b N wr)(fun Y6 _=>o.length-(intOf Y6).toNat)
    case atStart=>exact⟨0,m,bf _,rfl,Yh,YY.out.eV (bD (ah _ _) _) E h,iE (eZ.refl _ _ _) _⟩
    case round=>
     obtain⟨k,mk,Ze,rfl,w,Ym,d⟩:=hrel;have Yn:Node wr e y (.slice a o.length YH):=(d.block e (by omega) (by omega)).trans YZ.out;have I:=Yn.dh;have S:Node wr M y (.slice Y2 u.length Q):=(d.block M (by omega) (by omega)).trans YA.out;have K:=S.dh;by_cases Ye:k<o.length
     ·have Y4:(k:Int)<(o.length:Int):=by omega
      have Yf:k<u.length:=by have:=Yk.out;omega
      have YW:(k:Int)<(u.length:Int):=by omega
      obtain⟨C,i,rfl,YR,Z,G⟩:=YB.out k Ye;obtain⟨r,c,rfl,Y3,Yc,B⟩:=YD.out k Yf;have H:wr.cell? ⟨C,i+k,none⟩=some (lh (o[k]?.getD 0)):=(aH (a:=⟨C,i+k,none⟩) ((d.block C (by omega) (by omega)).trans (YF.out C YR Z))).trans G;have z:wr.cell? ⟨r,c+k,none⟩=some (lh (u[k]?.getD 0)):=(aH (a:=⟨r,c+k,none⟩) (d.block r (by omega) (by omega))).trans B;have X:=(YC.out k Yf).eV (W':=wr) (af _) (af _) fun YX YJ YK=>d.block YX (by omega) (by omega)
      have Yo:=(YE.out k Ye).run;have J:=hid (Gl (s:=y) (pss:=pss) (tss:=tss) (j:=k) mk (by have:=Yj.out;omega) (by have:=Yj.out;have:=Yl.out;have:=Yk.out;omega) Yo X.run);have Yw:=yv (gK:=tss) (k:=k) (by have:=Yl.out;omega);have n:=Y0.out k Ye (fun x Y5=>YG.out x (jb _ (mF.2 ⟨pss[k]?.getD [],by rw[an (by have:=Yj.out;omega)];exact ee _,Y5⟩)))
       (u[k]?.getD 0) (tss[k]?.getD []) (wr.drewN 1) mk (fun YX YJ YK=>(d.block YX (by omega) (by omega)).trans (YF.out YX YJ YK)) (by have:=d.size;exact aK h this) Yr (by have:=d.size;exact df E this) (X.eV (af _) (af _) fun _ _ _=>rfl) (by have:=Yt.out;simp only[aI]at this;omega) (Ym.out.eV (bD (ah _ _) _) (by have:=d.size;exact df E this) (aK h d.size))
      clear G B X Yo Yw Yn S;cases t:eD (tss[k]?.getD []) (pss[k]?.getD []) 0 mk with
      |none=>
       rw[t]at n;have D:Hid (eD (y::tss.flatten) (y::pss.flatten) 0 m=none):=by show _=_;rw[w.out,J.out,t];rfl
       clear J w t;generalize o[k]?.getD 0=O at*;generalize u[k]?.getD 0=P at*;go_wp2;go_region_held3(fun v=>v.cell? ⟨e,1,none⟩=some (.slice (some ⟨C,i,none⟩) o.length YH)∧v.cell? ⟨M,1,none⟩=some (.slice (some ⟨r,c,none⟩) u.length Q)∧v.cell? ⟨C,i+k,none⟩=some (lh O)∧v.cell? ⟨r,c+k,none⟩=some (lh P))(first|assumption|exact⟨I,K,H,z⟩)(first
        |(go_at_call 155;refine n.mono ?_;clear n;rintro YI A⟨l,rfl⟩;have YP:A.cell? ⟨e,1,none⟩=some (.slice (some ⟨C,i,none⟩) o.length YH)∧A.cell? ⟨M,1,none⟩=some (.slice (some ⟨r,c,none⟩) u.length Q)∧A.cell? ⟨C,i+k,none⟩=some (lh O)∧A.cell? ⟨r,c+k,none⟩=some (lh P):=⟨(l.cell (p:=⟨e,1,none⟩) (by exact df T (aK h d.size)) (by show e≠b;omega)).trans I,(l.cell (p:=⟨M,1,none⟩) (by exact df Yp (aK h d.size)) (by show M≠b;omega)).trans K,(l.cell (p:=⟨C,i+k,none⟩) (by exact df Z (aK h d.size)) (by show C≠b;omega)).trans H,(l.cell (p:=⟨r,c+k,none⟩) (by exact df Yc (aK h d.size)) (by show r≠b;omega)).trans z⟩))
       all_goals(
        go_wp2;go_ret;exact⟨(iE d 1).trans (eZ.mono l d.size),by rw[D.out];rfl⟩)
      |some YV=>
       rw[t]at n;have D:Hid (eD (y::tss.flatten) (y::pss.flatten) 0 m=eD (y::tss.flatten) (pss.drop (k+1)).flatten (1+(tss.take (k+1)).flatten.length) YV):=by show _=_;rw[w.out,J.out,t];rfl
       clear J w t;generalize o[k]?.getD 0=O at*;generalize u[k]?.getD 0=P at*;go_wp2;go_region_held3(fun v=>v.cell? ⟨e,1,none⟩=some (.slice (some ⟨C,i,none⟩) o.length YH)∧v.cell? ⟨M,1,none⟩=some (.slice (some ⟨r,c,none⟩) u.length Q)∧v.cell? ⟨C,i+k,none⟩=some (lh O)∧v.cell? ⟨r,c+k,none⟩=some (lh P))(first|assumption|exact⟨I,K,H,z⟩)(first
        |(go_at_call 155;refine n.mono ?_;clear n;rintro YI A⟨l,rfl,YL⟩;have YP:A.cell? ⟨e,1,none⟩=some (.slice (some ⟨C,i,none⟩) o.length YH)∧A.cell? ⟨M,1,none⟩=some (.slice (some ⟨r,c,none⟩) u.length Q)∧A.cell? ⟨C,i+k,none⟩=some (lh O)∧A.cell? ⟨r,c+k,none⟩=some (lh P):=⟨(l.cell (p:=⟨e,1,none⟩) (by exact df T (aK h d.size)) (by show e≠b;omega)).trans I,(l.cell (p:=⟨M,1,none⟩) (by exact df Yp (aK h d.size)) (by show M≠b;omega)).trans K,(l.cell (p:=⟨C,i+k,none⟩) (by exact df Z (aK h d.size)) (by show C≠b;omega)).trans H,(l.cell (p:=⟨r,c+k,none⟩) (by exact df Yc (aK h d.size)) (by show r≠b;omega)).trans z⟩))
       all_goals(
        go_wp2;go_roundw
        case rel=>exact⟨k+1,YV,by omega,by go_num,D,YL,(iE d 1).trans (eZ.mono l d.size)⟩
        case measure=>simp[intOf];omega)
     ·obtain rfl:k=o.length:=by omega
      go_wp2;go_ret;refine⟨d,?_⟩;rw[w.out,<-Yj.out,eu,mC,mO];exact⟨rfl,Ym.out⟩
   ·have YS:(s !=y)=true:=by simp;exact fun YI=>L YI.symm
    have w:Hid (eD (y::tss.flatten) (s::pss.flatten) 0 m=none):=by
     show _=_;rw[eD,aE Yg,aE (by simpa using L)]
    clear Yz Y U W V L;go_enter Tryz.func155,Tryz.ntmps155;go_wp2;go_quiet(fail)
    go_wp2;go_ret;exact⟨iE (eZ.refl _ _ _) _,by rw[w.out];rfl⟩
theorem qA(d f:List Int)(g a:Option Addr)(i j:Nat)(e:World)(k:cZ e.heap.size e g d)(l:cZ e.heap.size e a f):
 Calls Tryz.prog 59 #[.slice g d.length i,.slice a f.length j] e fun n o=>n=.returned (.int .i64 (dY d f))∧o=e:=by
 have h:=qB d g i e k;have m:=qB f a j e l;by_cases b:Tm.err d=0
 ·have c:dY d f=Tm.err f:=by
   simp only[dY,ez,b,xC];by_cases q:Tm.err f=0<;>simp[q]
  rw[c];rw[b]at h;clear c b k l;generalize Tm.err f=r at*;go_enter Tryz.func59,Tryz.ntmps59;go_wp2_with(first
   |(go_at_call_of 91(Value.slice g d.length i);refine h.mono ?_;rintro n e⟨rfl,rfl⟩)
   |(go_at_call_of 91(Value.slice a f.length j);refine m.mono ?_;rintro n e⟨rfl,rfl⟩))
  go_ret;exact⟨rfl,rfl⟩
 ·have c:dY d f=Tm.err d:=by simp[dY,ez,b]
  rw[c];have p:(Tm.err d !=0)=true:=by simp[b]
  clear c b k l m;generalize Tm.err d=r at*;go_enter Tryz.func59,Tryz.ntmps59;go_wp2_with(first
   |(go_at_call 91;refine h.mono ?_;clear h;rintro n e⟨rfl,rfl⟩))
  go_ret;exact⟨rfl,rfl⟩
abbrev uP:Obj:=.cells #[.pointer none,.pointer none,.pointer none,.pointer none,.pointer none,.pointer none,.pointer none,.pointer none] 193
theorem Ad.start(e:World)(d b:Nat):Ad (e.alloc uP) e.heap.size d b (fun _=>none):=fun f c=>by
 have a:=aM e uP;refine⟨by simp only[World.frozen?];rw[a];simp,.inl ⟨rfl,(dp a f).trans ?_⟩⟩;match f,c with
 |0,_=>rfl
 |1,_=>rfl
 |2,_=>rfl
 |3,_=>rfl
 |4,_=>rfl
 |5,_=>rfl
 |6,_=>rfl
 |7,_=>rfl
theorem Kj(p m:List Int)(q:Tm.err p=0)(r:Tm.err m=0)(c b a:World)(i:gv (c.heap.size+1) b.heap.size b (c.heap.size+1) p)(f:Below (c.heap.size+1) (c.alloc uP) b)(j:gv b.heap.size a.heap.size a b.heap.size m)(e:Below b.heap.size b a):
 Calls Tryz.prog 155 #[lh (c.heap.size+1),lh b.heap.size,lh c.heap.size] a fun v l=>eZ a.heap.size c.heap.size a l∧Jb l v c.heap.size (c.heap.size+1) a.heap.size (Tm.fit p m):=by
 have g:=f.size;have k:=e.size;simp at g;have o:gv (c.heap.size+1) a.heap.size a (c.heap.size+1) p:=(i.under e (af _)).wide (af _) k;have h:Below (c.heap.size+1) (c.alloc uP) a:=f.trans (e.mono g);exact J8 o (fun w t=>by have:=fw q;rw[dD]at this;exact this w t) b.heap.size m a (fun _=>none) (fun _ _ _=>rfl) (af _) (by omega) (by omega) (j.wide (by omega) (af _)) (cK r)
  (fun u s=>by
    obtain⟨n,d⟩:=Ad.start c (c.heap.size+1) a.heap.size u s;refine⟨by rw[<-n];simp only[World.frozen?,h.block c.heap.size (by omega)],.inl ⟨rfl,?_⟩⟩;rcases d with⟨_,d⟩|⟨x,y,d,_⟩
    ·exact(h.cell (p:=⟨c.heap.size,u,none⟩) (by show c.heap.size<_;omega)).trans d
    ·cases d)
theorem Da(p z:List Int)(s g:Option Addr)(q r:Nat)(f:World)(Q:Tm.err p=0)(R:Tm.err z=0)(X:cZ f.heap.size f s p)(Y:cZ f.heap.size f g z)(h:p.length<=q∧q<=maxLen)(O:z.length<=r∧r<=maxLen):
 Calls Tryz.prog 119 #[.slice s p.length q,.slice g z.length r] f fun A Yg=>∃v,A=.returned (.tuple #[v,.bool (Tm.fit p z).isSome])∧il f.heap.size Yg v (Ah (Tm.fit p z))∧Below f.heap.size f Yg:=by
 have l:Below f.heap.size f (f.alloc uP):=(ah _ _).alloc (af _) _;have N:(f.alloc uP).heap.size=f.heap.size+1:=by simp
 have j:=r9 p s q (f.alloc uP) Q h.1 h.2 ((X.below l).mono l.size);rw[N]at j;have t:=hid (fun Ym(Z:Below f.heap.size f Ym)=>r9 z g r Ym R O.1 O.2 ((Y.below Z).mono Z.size));have k:=hid (fun S T Yu Yw W Yy=>Kj p z Q R f S T Yu Yw W Yy);clear X Y Q R h O;cases D:Tm.fit p z with
 |none=>
  rw[D]at k;clear D;simp only[Option.isSome_none];go_enter Tryz.func119,Tryz.ntmps119;go_wp2_with(first
   |(go_at_call_of 56(Value.slice s p.length q);refine j.mono ?_;clear j;rintro A S⟨rfl,c,m⟩;have b:=l.trans (c.mono (by omega)))
   |(go_at_call_of 56(Value.slice g z.length r);refine(t.out _ b).mono ?_;rintro A T⟨rfl,d,n⟩;have i:=b.trans (d.mono b.size))
   |(go_at_call 155;refine(k.out _ _ m c n d).mono ?_;rintro A E⟨B,rfl⟩;have a:=i.trans ((B.mono i.size).below (af _))))
  go_ret2
  exact⟨_,rfl,il.nil _ _,a⟩
 |some Yk=>
  rw[D]at k;clear D;simp only[Option.isSome_some];go_enter Tryz.func119,Tryz.ntmps119;go_wp2_with(first
   |(go_at_call_of 56(Value.slice s p.length q);refine j.mono ?_;clear j;rintro A S⟨rfl,c,m⟩;have b:=l.trans (c.mono (by omega)))
   |(go_at_call_of 56(Value.slice g z.length r);refine(t.out _ b).mono ?_;rintro A T⟨rfl,d,n⟩;have i:=b.trans (d.mono b.size))
   |(go_at_call 155;refine(k.out _ _ m c n d).mono ?_;rintro A E⟨B,rfl,H⟩;have a:=i.trans ((B.mono i.size).below (af _));have V:=hid H;clear H)
   |(go_at_call 156;refine(ym _).mono ?_;rintro A YB⟨v,rfl,C,F⟩;have Yn:=a.trans (F.mono a.size);have w:(gU 8).length=8:=j5 8;obtain⟨U,W,rfl⟩:∃U W,v=.slice (some ⟨U,0,none⟩) 8 W:=(by obtain⟨Yl,h,_⟩:=C;rw[w]at h;exact jy h)))
  have Yc:E.heap.size<=U:=by
   obtain⟨Yl,h,_⟩:=C;exact(bn h U rfl).1
  have Yd:=c.size;rw[N]at Yd;have Yr:=d.size;have Ye:=B.size;have Yh:=hid C;clear C w m n t k;go_loopw [8](fun Yj wr=>∃o:Nat,o<=8∧Yj=.int .i64 (o:Int)∧Hid (il f.heap.size wr (.slice (some ⟨U,0,none⟩) 8 W) (fH Yk o))∧Below E.heap.size E wr)(fun Yj _=>8-(intOf Yj).toNat)
  case atStart=>exact⟨0,bf _,rfl,by rw[zn];exact Yh.out.mono a.size,F⟩
  case round=>
   obtain⟨o,Yz,rfl,u,e⟩:=hrel;by_cases M:o<8
   ·have Yi:(o:Int)<8:=by omega
    obtain⟨_,P⟩:=V.out.eV e (by omega) Ye o M;rcases P with⟨x,P⟩|⟨YE,YF,x,P,L,YA⟩
    ·have y:=hid (yU x)
     clear x;go_wp2;go_roundw
     case rel=>exact⟨o+1,by omega,by go_num,by rw[y.out];exact u.out,e⟩
     case measure=>simp[intOf];omega
    ·have y:=hid (zj x)
     have I:=Cg wr L (by omega) (by have:=e.size;omega);clear x L;go_wp2_with(first
      |(go_at_call 157;refine I.mono ?_;clear I;rintro A YC⟨YG,rfl,K,G⟩;obtain⟨Yv,Yx,rfl,_⟩:=cU.ints K;have J:=hid (u.out.below G);obtain⟨Yq,YD,Yo,Yp⟩:=Af J.out (nr Yk o) M))
     have Yf:=e.size;have Yt:=a.size;go_roundw
     case rel=>
      refine⟨o+1,by omega,by go_num,?_,?_⟩
      ·rw[y.out]
       exact J.out.set (nr Yk o).symm (K.mono (by omega)) o
      ·exact(e.trans (G.mono Yf)).setCell (p:=⟨U,o,none⟩) Yc _
     case measure=>simp[intOf];omega
   ·obtain rfl:o=8:=by omega
    go_wp2;go_ret2
    exact⟨_,rfl,u.out,a.trans (e.mono a.size)⟩
def dN(t:List Int):List Int:=gB [] t t.length
theorem xB(b:Tm.err d=0):∀k,k<d.length->d[k]?.getD 0<6:=fun _ a=>iC (lM (fw b) a)
theorem E5{seen:List Int}(b:seen.Nodup)(e:Int):(jh seen e).Nodup:=by
 unfold jh;split
 ·split
  ·exact b
  ·rename_i c
   have:¬e∈seen:=by simpa using c
   rw[List.nodup_append];exact⟨b,by simp,fun f d g a=>by simp at a;subst a;rintro rfl;exact this d⟩
 ·exact b
theorem DB(c:List Int):∀seen:List Int,seen.Nodup->(db seen c).Nodup:=by
 induction c with
 |nil=>intro seen a;exact a
 |cons d e b=>intro seen a;exact b _ (E5 a d)
theorem Mn{seen:List Int}(e:seen.Nodup)(a:b<seen.length)(g:seen[b]?.getD 0=h):me seen h=b:=by
 unfold me;have c:seen[b]=h:=by simpa [a]using g
 rw[List.findIdx_eq a];refine⟨by simp[c],fun i d=>?_⟩;simp only[aW];intro f;exact(List.pairwise_iff_getElem.1 e) i b (by omega) a d (f.trans c.symm)
theorem Mp{seen:List Int}(a:b<seen.length)(d:seen[b]?.getD 0=h):seen.contains h=true:=by
 have c:seen[b]=h:=by simpa [a]using d
 simp only[List.contains_iff_mem];rw[<-c];exact ee a
theorem Kb{seen:List Int}(e:∀i,i<seen.length->seen[i]?.getD 0≠h):seen.contains h=false:=by
 rw[kE];intro b;have c:h∈seen:=by simpa using b
 obtain⟨i,a,d⟩:=gQ c;exact e i a (by simp[a,d])
def lZ(t:List Int)(k:Nat):List Int:=gB [] t k++t.drop k
theorem Eo(a:List Int):lZ a 0=a:=by simp[lZ,gB]
theorem Gh(a:List Int):lZ a a.length=dN a:=by simp[lZ,dN]
theorem wu(a:b<=d.length):(lZ d b).length=d.length:=by
 simp only[lZ,ai,fk,cH];omega
theorem Fm(a:b<d.length):lZ d (b+1)=(lZ d b).set b (jM (db [] (d.take b)) (d[b]?.getD 0)):=by
 unfold lZ;rw[ri,vQ _ _ (by rw[fk];exact af _),fk,oe,bZ a,jD,dE];rfl
theorem Fs(c:b<d.length)(e:0<=d[b]?.getD 0):lZ d (b+1)=lZ d b:=by
 unfold lZ;have a:jM (db [] (d.take b)) (d[b]?.getD 0)=d[b]?.getD 0:=by unfold jM;rw[aE (by omega)]
 rw[ri,a,bZ c];simp[c]
theorem Io{seen:List Int}(a:0<=h):jh seen h=seen:=by unfold jh;rw[aE (by omega)]
theorem Ks{seen:List Int}(a:seen.contains h=true):jh seen h=seen:=by unfold jh;rw[aD a];split<;>rfl
theorem JE{seen:List Int}(a:h<0)(b:seen.contains h=false):jh seen h=seen++[h]:=by unfold jh;rw[aD a,aE (by rw[b];decide)]
theorem cU.set{base:Nat}{n:Nat}(g:cU base f (.slice (some ⟨b,0,none⟩) n e) d)(a:n=d.length)(j:Nat)(c:Int):
 cU base (f.setCell ⟨b,j,none⟩ (.int .i64 c)) (.slice (some ⟨b,0,none⟩) n e) (d.set j c):=by
 subst a;have:=(World.ownsRow.stored g j (.int .i64 c)).1
 unfold cU;rw[oQ,List.map_set];exact this
theorem Tryz.BK:Tryz.prog.underlying 64=some (.slice 3):=by kernel_rfl
theorem pN{rest:List Oper}(e:World)(i:B.guard=none)(w x:Operand)
 (s:B.op=.call {callee:=.builtin .append,args:=#[w,x],argTypes:=#[64,64]})(base:Nat)(n:Value)(b:List Int)(t:C.eval w=n)(g:cU base e n b)
 (o:Nat)(y:Int)(u:C.eval x=.slice (some ⟨o,0,none⟩) 1 1)(p:e.cell? ⟨o,0,none⟩=some (.int .i64 y))(r:b.length<=1000000)(a:base<=e.heap.size)
 (A:∀d w',cU base w' d (b++[y])->e.grownBy w' n.ownBlock->Below base e w'->wpList Tryz.prog F G rest (C.put B.dst d) w'):wpList Tryz.prog F G (B::rest) C e:=by
 obtain⟨v,q,k,l,m⟩:=fh Tryz.yJ;refine fN e i w x 64 s base 3 v (.int .i64 0) 1 8 Tryz.BK q k l m rfl (by decide) n b.length (b.map (Value.int .i64)) t g ⟨o,0,none⟩ 1 1 [.int .i64 y] u (by simp)
  (by intro D H c
      match D,c with
      |0,c=>simp at c;subst c;rw[cz];simpa using p)
  (by intro H j;simp at j;subst j;rfl) (by unfold maxLen;omega) (by omega) a ?_
 intro d w' f h _;exact A d w' (by simpa [cU]using f) h ((ah base e).grown h a (fun E z=>(bn g E z).1))
section
attribute [local go_sem] Oper.semAt_some
abbrev rJ(zs:List Int):Type:={k:Nat//k<zs.length}
def BO(zs:List Int)(x:rJ zs):Array Value:=#[.int .i64 (x.1:Int),.int .i64 (Tm.dn zs x.1:Int)]
def jq(zs:List Int):Nat->List (rJ zs)
 |0=>[]
 |m+1=>if h:m<zs.length then jq zs m++[⟨m,h⟩]else jq zs m
theorem tI(a:b<d.length):jq d (b+1)=jq d b++[⟨b,a⟩]:=by simp[jq,a]
theorem vD(a:List Int):∀m,m<=a.length->(jq a m).length=m:=by
 intro m;induction m with
 |zero=>intro _;rfl
 |succ m b=>intro c;rw[tI (by omega),ai,b (by omega)];rfl
theorem LF(e:Fence)(hF:e=Fence.wide)(j:Nat)(h:Option Addr)(b a:Nat)(f:World):
 CallsIn e j Tryz.prog 142 #[.slice h b a] f fun i g=>i=.returned (.func (.func 172) #[] #[.pointer (some ⟨f.heap.size,0,none⟩)])∧
  g=f.alloc (.cells #[.slice h b a] 68):=by
 have d:e.round=none:=by subst hF;rfl
 have c:e.fn 142:=by subst hF;trivial
 refine fE Tryz.func142 rfl c ?_ d;simp only[Tryz.ntmps142,cY,aI,bH,Nat.reduceAdd,Nat.reduceSub,bM,bQ,cE,bY,bV,bc];gi_wp2
 go_ret;exact⟨rfl,rfl⟩
theorem Kc(Q:Fence)(hF:Q=Fence.wide)(n Yg e p j:Nat)(a:Option Addr)(b:List Int)(D:b.length<=30)
 (z A:List (rJ b)->World->Prop)(f:World)(W:AbidesFrom f.heap.size z)
 (M:∀c x f,z c f->c.length<b.length->YieldAt Q (n-1) Tryz.prog Yg (BO b x) f fun g d=>
   (g=.returned (.bool true)∧z (c++[x]) d∧Kept p e f d)∨(g=.returned (.bool false)∧A (c++[x]) d))
 (Yj:p<=f.heap.size)(G:f.cell? ⟨e,0,none⟩=some (.slice a b.length j))(V:e<f.heap.size)(H:cZ p f a b)(U:z [] f):
 CallsIn Q n Tryz.prog 172 #[.func (.yield Yg) #[] #[],.pointer (some ⟨e,0,none⟩)] f fun g d=>(∃v,g=.returned v)∧
  ((∃P,P=jq b b.length∧z P d)∨(∃c,True∧A c d)):=by
 obtain⟨N,w,u,B⟩:=jk hF;clear hF;have C:=w 172;have X:=w 148;have Yc:(b.length:Int)<=30:=by omega
 have S:=hid M;have R:=hid H;clear M H;refine fE Tryz.func172 rfl C ?_ N;simp only[Tryz.ntmps172,cY,aI,bH,Nat.reduceAdd,Nat.reduceSub,bM,bQ,cE,bY,bV,bc];gi_wp2
 gi_loopw [6](fun Yf wr=>∃h:Nat,h<=b.length∧Yf=.int .i64 (h:Int)∧z (jq b h) wr∧wr.heap[e]?=f.heap[e]?∧Below p f wr∧f.heap.size<=wr.heap.size)
  (fun Yf _=>b.length-(intOf Yf).toNat)
 case atStart=>exact⟨0,bf _,rfl,U,rfl,ah _ _,af _⟩
 case round=>
  obtain⟨h,Yd,rfl,t,L,y,Yk⟩:=hrel;have Yi:wr.cell? ⟨e,0,none⟩=some (.slice a b.length j):=(aH (a:=⟨e,0,none⟩) L).trans G;by_cases m:h<b.length
  ·have E:(h:Int)<(b.length:Int):=by omega
   have F:=(xw b D a j h (by omega) wr ((R.out.below y).mono (by omega))).mono (R':=fun g q=>g=.returned (.int .i64 (Tm.dn b h:Int))∧YieldAt Q (n-1) Tryz.prog Yg #[.int .i64 (h:Int),.int .i64 (Tm.dn b h:Int)] q fun g d=>
    (g=.returned (.bool true)∧z (jq b (h+1)) d∧Below p f d∧d.heap[e]?=f.heap[e]?∧f.heap.size<=d.heap.size)∨(g=.returned (.bool false)∧∃c,A c d))
    (fun g q⟨l,r⟩=>⟨l,by
      have Y:=gI r;have I:=W _ _ _ none t Y (fun Yo g=>by cases g);refine vx (S.out _ ⟨h,m⟩ q I (by rw[vD b h Yd];exact m)) fun g T Ym=>Ym.elim (fun⟨l,Z,i,k⟩=>.inl ⟨l,?_,?_,?_,?_⟩) (fun⟨l,Ye⟩=>.inr ⟨l,_,Ye⟩)
      ·rw[tI m];exact Z
      ·exact(y.trans (r.mono (by omega))).trans i
      ·exact k.trans ((r.block e (by omega)).trans L)
      ·have:=r.size;have:=i.size;omega⟩)
   have s:=B (n:=n-1) F;clear F;gi_wp2_with(first
    |((try refine⟨u _,?_⟩);gi_at_call 148;refine s.mono ?_;clear s;rintro g q⟨rfl,Yl,Yh,assign,body,Yn,K⟩)
    |((try refine⟨u _,?_⟩);refine K.mono ?_;clear K;rintro g T(⟨rfl,J,i,k,O⟩|⟨rfl,o⟩)))
   ·exact⟨⟨h+1,by omega,by go_num,J,k,i,O⟩,by simp[intOf];omega⟩
   ·obtain⟨c,o⟩:=o
    refine fI (mb rfl _ _ _) rfl ?_;exact⟨⟨_,rfl⟩,.inr ⟨c,trivial,o⟩⟩
  ·obtain rfl:h=b.length:=by omega
   have E:¬(b.length:Int)<(b.length:Int):=by omega
   gi_wp2
   go_end0
   exact⟨⟨_,rfl⟩,.inl t⟩
theorem Ey(k:Fence)(hF:k=Fence.wide)(t b d e:Nat)(m:Option Addr)(a:List Int)(g:a.length<=30)(j:World)(i:d<=j.heap.size)(f:b<j.heap.size)
 (h:j.cell? ⟨b,0,none⟩=some (.slice m a.length e))(o:cZ d j m a):
 SeqStopsK k t Tryz.prog 172 #[.pointer (some ⟨b,0,none⟩)] (BO a) (Kept d b)
  (fun s=>s=jq a a.length) (fun _=>True) a.length j:=fun w u l v c q _ r n=>
 Kc k hF t w b d e m a g u l v q r (by have:=c.size;omega) ((c.cell (p:=⟨b,0,none⟩) f).trans h) (by have:=c.size;omega) (o.below (c.mono i)) n
end
