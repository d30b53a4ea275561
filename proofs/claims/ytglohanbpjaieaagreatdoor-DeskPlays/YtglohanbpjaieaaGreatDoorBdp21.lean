/-
  Parts of the proof.
-/
import Derived.Test.YtglohanbpjaieaaGreatDoorBdp18
import Derived.OpenShut
import Derived.Deep.SlicePairs
import Derived.Test.YtglohanbpjaieaaGreatDoorBdp20
set_option maxHeartbeats 4000000
set_option maxRecDepth 100000
namespace Go.Proofs.YtglohanbpjaieaaGreatDoor
open Go.Proofs Go.RowKit Go.Shelf Go.Maps
variable {E L:Option Addr}{F:World}{J:List (List Int)}{M:Nat->Nat->Nat}{O:List (Nat×Nat)}{Q:List Int×List Int}{a h t I:Nat}{e P:Nat->Nat}{g:Nat->Int}{o:Nat->List Nat}{q:Nat->List Int}{r y:List Int}{u A:Int}{w D H:bg}{z B G:bu}
namespace Sn
theorem PW:∀(n:Nat)(l:List Int),l.Nodup->(∀x∈l,-(n:Int)<=x∧x<0)->l.length<=n:=by
 intro n;induction n with
 |zero=>
  intro l _ h;cases l with
  |nil=>simp
  |cons x l=>have:=h x (by simp);omega
 |succ n g=>
  intro l b h;by_cases f: -((n:Int)+1)∈l
  ·have c:=g (l.erase (-((n:Int)+1))) (b.erase _) (fun x a=>by
    have d:=(b.mem_erase_iff).1 a;have e:=h x d.2;have j:=d.1;omega)
   rw[List.length_erase_of_mem f]at c;omega
  ·have c:=g l b (fun x a=>by
    have e:=h x a;refine⟨?_,e.2⟩;by_cases i:x= -((n:Int)+1)
    ·subst i;exact absurd a f
    ·omega)
   omega
theorem ue(seen:List Int)(a:Int):(0<=a∧jh seen a=seen)∨(a<0∧seen.contains a=true∧jh seen a=seen)∨(a<0∧seen.contains a=false∧jh seen a=seen++[a]):=by
 unfold jh;by_cases b:a<0
 ·rw[aD b]
  cases c:seen.contains a with
  |true=>exact .inr (.inl ⟨b,rfl,by rw[aD rfl]⟩)
  |false=>exact .inr (.inr ⟨b,rfl,by rw[aE (by simp)]⟩)
 ·rw[aE b];exact .inl ⟨by omega,rfl⟩
theorem KE(seen:List Int)(b:Int):∃c,jh seen b=seen++c:=by
 rcases ue seen b with⟨_,a⟩|⟨_,_,a⟩|⟨_,_,a⟩
 ·exact⟨[],by rw[a,cW]⟩
 ·exact⟨[],by rw[a,cW]⟩
 ·exact⟨[b],a⟩
theorem zU(seen:List Int)(b:Int)(a:List Int):db seen (b::a)=db (jh seen b) a:=rfl
theorem FG(seen a b:List Int):db seen (a++b)=db (db seen a) b:=by simp[db,List.foldl_append]
theorem BE:∀(f seen:List Int),∃h,db seen f=seen++h:=by
 intro f;induction f with
 |nil=>intro seen;exact⟨[],by rw[cW];rfl⟩
 |cons g i c=>
  intro seen;obtain⟨d,a⟩:=KE seen g;obtain⟨e,b⟩:=c (jh seen g);exact⟨d++e,by rw[zU,b,a,dE]⟩
theorem KM(seen:List Int)(c:u<0):(jh seen u).contains u=true:=by
 rcases ue seen u with⟨b,_⟩|⟨_,b,a⟩|⟨_,_,a⟩
 ·omega
 ·rw[a];exact b
 ·rw[a];simp
theorem Lg{seen:List Int}(c:seen.Nodup)(g:Int):(jh seen g).Nodup:=by
 rcases ue seen g with⟨_,a⟩|⟨_,_,a⟩|⟨_,e,a⟩
 ·rw[a];exact c
 ·rw[a];exact c
 ·rw[a]
  have f:¬g∈seen:=by simpa using e
  rw[List.nodup_append];exact⟨c,by simp,fun h d i b=>by simp at b;subst b;rintro rfl;exact f d⟩
theorem BB:∀(c seen:List Int),seen.Nodup->(db seen c).Nodup:=by
 intro c;induction c with
 |nil=>intro seen a;exact a
 |cons d e b=>intro seen a;exact b _ (Lg a d)
theorem OL{seen:List Int}(c:∀x∈seen,-8<=x∧x<0){s:Int}(d: -8<=s):∀x∈jh seen s,-8<=x∧x<0:=by
 rcases ue seen s with⟨_,b⟩|⟨_,_,b⟩|⟨e,_,b⟩
 ·rw[b];exact c
 ·rw[b];exact c
 ·rw[b]
  intro x a;rw[dZ]at a;rcases a with a|a
  ·exact c x a
  ·simp at a;subst a;exact⟨d,e⟩
theorem FF:∀(b seen:List Int),b.all Tm.known=true->(∀x∈seen,-8<=x∧x<0)->∀x∈db seen b,-8<=x∧x<0:=by
 intro b;induction b with
 |nil=>intro seen _ c;exact c
 |cons f e d=>
  intro seen a c;rw[ng,dW]at a;exact d _ a.2 (OL c (j7 a.1))
theorem Qc{seen:List Int}(a:seen.contains u=true):me seen u<seen.length:=by
 unfold me;rw[mT];exact⟨u,by simpa using a,by simp⟩
theorem MS{seen:List Int}(e:seen.contains u=false):me (seen++[u]) u=seen.length:=by
 unfold me;rw[rB,aE]
 ·simp
 ·rw[mT]
  rintro⟨c,b,d⟩;have a:c=u:=by simpa using d
  subst a;have:¬c∈seen:=by simpa using e
  exact this b
def Qr(S:List Int)(s:Int):Int:=if s<0 then-1-(me S s:Int)else s
theorem MZ(seen e:List Int)(c:Int):jM seen c=Qr (jh seen c++e) c:=by
 unfold jM Qr;by_cases a:c<0
 ·rw[aD a,aD a,Ca (KM seen a)]
  rcases ue seen c with⟨f,_⟩|⟨_,_,d⟩|⟨_,b,d⟩
  ·omega
  ·rw[d]
  ·rw[d,MS b,yi b]
 ·rw[aE a,aE a]
theorem ud(a seen g:List Int):gB seen a a.length=a.map (Qr (db seen a++g)):=by
 refine iA (by simp[fk]) fun b c k=>?_
 rw[fk]at c;have j:(gB seen a a.length)[b]'(by rw[fk];exact c)=jM (db seen (a.take b)) a[b]:=by simp[gB,c]
 rw[kZ,j];have i:a=a.take b++(a[b]::a.drop (b+1)):=by rw[<-bZ c,fM]
 obtain⟨f,e⟩:=BE (a.drop (b+1)) (jh (db seen (a.take b)) a[b]);have h:db seen a++g=jh (db seen (a.take b)) a[b]++(f++g):=by
  conv=>lhs;rw[i]
  rw[FG,zU,e,dE]
 have d:=MZ (db seen (a.take b)) (f++g) a[b];rw[<-h]at d;exact d
def En(S:List Int):List (List Int):=(List.range 8).map fun i:Nat=>if S.contains (-1-(i:Int))=true then [-1-(me S (-1-(i:Int)):Int)]else [-1]
theorem KJ(b:List Int)(c:a<8):(En b)[a]?.getD []=if b.contains (-1-(a:Int))=true then [-1-(me b (-1-(a:Int)):Int)]else [-1]:=by
 unfold En;rw[ic,oo c];rfl
theorem KB(a: -8<=u)(b:u<0):Tm.err [u]=0:=by
 refine nQ (by simp) (by simp only[ng,List.all_nil,Bool.and_true];exact te a (by omega)) ?_;rw[show(1:Nat)=0+1 from rfl,Tm.fT,Wb.lV b,Tm.gu];rfl
theorem MJ(e:r.length<=8):e7 (En r)=0:=by
 unfold e7;rw[aD (by simp[En])];refine wV fun d c=>?_
 have b:d<8:=by simpa [En]using c
 rw[KJ r b];by_cases a:r.contains (-1-(d:Int))=true
 ·rw[aD a]
  have:=Qc a
  exact KB (by omega) (by omega)
 ·rw[aE a];exact KB (by omega) (by omega)
theorem Aq:∀(c:List Int),c.all Tm.known=true->(∀s∈c,s<0->r.contains s=true)->bo (En r) c=c.map (Qr r):=by
 intro c;induction c with
 |nil=>intro _ _;rfl
 |cons s i f=>
  intro b d;rw[ng,dW]at b;rw[jw,f b.2 (fun h e=>d h (by simp[e])),fF];have g:=j7 b.1;have:gh (En r) s=[Qr r s]:=by
   unfold gh Qr;by_cases a:s<0
   ·rw[aD a,aD a,KJ r (by omega),show-1-(((-1-s).toNat:Nat):Int)=s from by omega,aD (d s (by simp) a)]
   ·rw[aE a,aE a]
  rw[this];rfl
theorem BD:∀(c seen:List Int)(s:Int),s<0->(s∈c∨seen.contains s=true)->(db seen c).contains s=true:=by
 intro c;induction c with
 |nil=>
  intro seen s _ a;rcases a with a|a
  ·simp at a
  ·exact a
 |cons f g d=>
  intro seen s b a;rw[zU];refine d _ s b ?_;rcases a with a|a
  ·rcases dA.1 a with rfl|a
   ·exact .inr (KM seen b)
   ·exact .inl a
  ·obtain⟨h,e⟩:=KE seen f
   rw[e];right;simp at a⊢;exact .inl a
end Sn
theorem uV(b:Tm.err r=0)(c:Tm.err y=0):∃h,e7 h=0∧dN r=bo h r∧gD r y=bo h y∧Tm.err (dN r)=0∧Tm.err (gD r y)=0:=by
 have j:=fw b;have k:=fw c;have d:∀q∈db (db [] r) y,-8<=q∧q<0:=Sn.FF y _ k (Sn.FF r [] j (fun q p=>by simp at p));have i:(db (db [] r) y).Nodup:=Sn.BB y _ (Sn.BB r [] List.nodup_nil);have n:=Sn.PW 8 _ i d;have a:=Sn.MJ n;obtain⟨s,o⟩:=Sn.BE y (db [] r);have f:dN r=bo (Sn.En (db (db [] r) y)) r:=by
  rw[Sn.Aq r j (fun m e l=>Sn.BD y _ m l (.inr (Sn.BD r [] m l (.inl e))))];have:=Sn.ud r [] s
  rw[<-o]at this;exact this
 have g:gD r y=bo (Sn.En (db (db [] r) y)) y:=by
  rw[Sn.Aq y k (fun m e l=>Sn.BD y _ m l (.inl e))];have:=Sn.ud y (db [] r) []
  rw[cW]at this;exact this
 refine⟨_,a,f,g,?_,?_⟩
 ·rw[f]
  refine nE (qO.of a) b ?_;rw[<-f];show(gB [] r r.length).length<=30;rw[fk];exact cK b
 ·rw[g]
  refine nE (qO.of a) c ?_;rw[<-g];show(gB (db [] r) y y.length).length<=30;rw[fk];exact cK c
theorem mZ(b:(bU z r).2.2=0):Tm.err (bU z r).1=0:=by
 obtain⟨c,_,a,_⟩:=EW b;exact(mW (Hw a).1).2.1
theorem wW(b:dF z r y=0):(bU z r).2.2=0∧(bU z y).2.2=0:=by
 unfold dF at b;by_cases a:(bU z r).2.2=0
 ·rw[aD a]at b;exact⟨a,b⟩
 ·rw[aE a]at b;exact absurd b a
def eH(rk:List Int)(rs:bu)(ps:bg)(er:Int)(iy:bu)(iY:bg):Prop:=
 (iD rk rs ps≠0∧er=iD rk rs ps∧iy=[]∧iY=[])∨
 (iD rk rs ps=0∧∃p l,ps=p::l∧
   ((dF rs p.1 p.2≠0∧er=dF rs p.1 p.2∧iy=[]∧iY=[])∨
    (dF rs p.1 p.2=0∧(bU rs p.1).1=(bU rs p.2).1∧er=0∧iy=rs∧iY=l)∨
    (dF rs p.1 p.2=0∧(bU rs p.1).1≠(bU rs p.2).1∧(fP rk (bU rs p.1).1 (bU rs p.2).1).1≠0∧er=(fP rk (bU rs p.1).1 (bU rs p.2).1).1∧iy=[]∧iY=[])∨
    (dF rs p.1 p.2=0∧(bU rs p.1).1≠(bU rs p.2).1∧(fP rk (bU rs p.1).1 (bU rs p.2).1).1=0∧jm rs l (fP rk (bU rs p.1).1 (bU rs p.2).1).2.1 (fP rk (bU rs p.1).1 (bU rs p.2).1).2.2 er iy iY)))
theorem rr{rk:List Int}(b:iD rk z w=0):da rk=0∧w.length<=40∧du w=0∧cm z=0∧eh rk z=0∧eW rk z=true∧0<w.length:=by
 unfold iD at b;by_cases a:gn rk w=0
 ·rw[aD a]at b
  by_cases c:eh rk z=0
  ·rw[aD c]at b
   by_cases e:eW rk z=true
   ·rw[aD e]at b
    by_cases h:w.length=0
    ·rw[aD h]at b;cases b
    ·unfold gn at a
     by_cases d:da rk=0
     ·rw[aD d]at a
      unfold fQ at a;by_cases g:40<w.length
      ·rw[aD g]at a;cases a
      ·rw[aE g]at a
       have f:=c;unfold eh at f;rw[aD d]at f;exact⟨d,by omega,a,f,c,e,by omega⟩
     ·rw[aE d]at a;exact absurd a d
   ·rw[aE e]at b;cases b
  ·rw[aE c]at b;exact absurd b c
 ·rw[aE a]at b;exact absurd b a
theorem zI{rk:List Int}(f:Tm.err r=0)(g:Tm.err y=0)(c:(fP rk r y).1=0):Tm.err (fP rk r y).2.1=0∧Tm.err (fP rk r y).2.2=0:=by
 have d:∀{e h:List Int},Tm.err e=0->Tm.err h=0->ja e=0->Tm.err (ke e h).1=0∧Tm.err (ke e h).2=0:=fun{e h}j k i=>by
  obtain⟨_,_,_,_,a,b⟩:=uV j k;unfold ke;rw[aD i];exact⟨a,b⟩
 unfold fP at c⊢;by_cases a:dj rk r y=true
 ·rw[aD a]at c⊢;exact d f g c
 ·rw[aE a]at c⊢
  by_cases b:dj rk y r=true
  ·rw[aD b]at c⊢;exact d g f c
  ·rw[aE b]at c;cases c
theorem dw.tail(p:dw t F (some ⟨h,a,none⟩) (Q::w)):dw t F (some ⟨h,a+2,none⟩) w:=fun d k=>by
 obtain⟨n,l,o,j,e,g,f,i,b,c,m⟩:=p (d+1) (by simpa using k);cases o;rw[Rt]at b c m;exact⟨h,a+2,rfl,j,e,g,f,i,by rw[show a+2+d*2=a+(d+1)*2 by omega];exact b,by rw[show a+2+d*2+1=a+(d+1)*2+1 by omega];exact c,m⟩
theorem Og(rk:List Int)(a:bu)(M:bg)(YY Yy ZV:Option Addr)(Zj YZ g:Nat)(l:World)(Y4:cZ l.heap.size l YY rk)(YB:dw l.heap.size l Yy a)(YC:dw l.heap.size l ZV M)(ZK:M.length<=g)(ZL:g<=maxLen):
  Calls Tryz.prog 104 #[.slice YY rk.length Zj,.slice Yy a.length YZ,.slice ZV M.length g] l fun E Zy=>∃w k j v ZS,eH rk a M w k j∧E=.returned (.tuple #[v,ZS,.int .i64 w])∧dC false 70 l.heap.size l.heap.size Zy v k∧dC false 79 l.heap.size l.heap.size Zy ZS j∧Below l.heap.size l Zy:=by
 have S:=hid (Dg rk a M YY Yy ZV Zj YZ g l Y4 YB YC (by omega));by_cases Yp:iD rk a M=0
 ·obtain⟨aa,ZO,ZP,ZQ,ab,ad,ZR⟩:=rr Yp
  cases M with
  |nil=>simp at ZR
  |cons p X=>
   have T:Hid (∀w k j,((dF a p.1 p.2≠0∧w=dF a p.1 p.2∧k=[]∧j=[])∨
   (dF a p.1 p.2=0∧(bU a p.1).1=(bU a p.2).1∧w=0∧k=a∧j=X)∨
   (dF a p.1 p.2=0∧(bU a p.1).1≠(bU a p.2).1∧(fP rk (bU a p.1).1 (bU a p.2).1).1≠0∧w=(fP rk (bU a p.1).1 (bU a p.2).1).1∧k=[]∧j=[])∨
   (dF a p.1 p.2=0∧(bU a p.1).1≠(bU a p.2).1∧(fP rk (bU a p.1).1 (bU a p.2).1).1=0∧jm a X (fP rk (bU a p.1).1 (bU a p.2).1).2.1 (fP rk (bU a p.1).1 (bU a p.2).1).2.2 w k j))->eH rk a (p::X) w k j):=fun w k j ZI=>.inr ⟨Yp,p,X,rfl,ZI⟩
   rw[Yp]at S;have Y9:=pW ZP;obtain⟨az,Yn⟩:=dV ZQ;have ZM:=hid (fun Yd(t:Yd<X.length)=>(show Tm.err (X[Yd]?.getD ([],[])).1=0∧Tm.err (X[Yd]?.getD ([],[])).2=0 by have:=Y9 (Yd+1) (by simpa using t);rwa[Rt]at this));have YE:=hid (fun Yd(t:Yd<a.length)=>(show Tm.err (a[Yd]?.getD ([],[])).1=0∧Tm.err (a[Yd]?.getD ([],[])).2=0 from⟨(eo (Yn Yd t)).1,(eo (Yn Yd t)).2.1⟩));have Z9:X.length<=39:=by simp at ZO;omega
   obtain⟨Zf,L,rfl,ZJ,ZC,ZE,ZD,ZF,Y2,Y3,Zo,Zp,Zq,Z4,Zr,Z5⟩:=YC 0 (by simp);rw[RO,gp]at Y2 Y3;simp only[fG,dy]at Y2 Y3 Zo Zp Zq Zr;have hF:=hid (fun U(e:Below l.heap.size l U)=>LY a p.1 p.2 Yy ZC ZD YZ ZE ZF U ((YB.below e).mono e.size) ((Zo.below e).mono e.size) ((Zp.below e).mono e.size) Zq Z4 Zr Z5);have D:=hid (fun U(e:Below l.heap.size l U)=>EY (fl:=false) l.heap.size a Yy YZ U e.size ((YB.below e).mono e.size) (by omega) YE.out);have Y8:=hid YC.tail;have Y7:=hid (fun U(e:Below l.heap.size l U)ax=>uX (fl:=false) l.heap.size X (some ⟨Zf,L+2,none⟩) ax U e.size ((Y8.out.below e).mono e.size) (by omega) ZM.out);have ZU:=hid (fun U(e:Below l.heap.size l U)=>(Y4.below e).mono e.size);have F:=hid (fun U(e:Below l.heap.size l U)=>(show U.cell? ⟨Zf,L,none⟩=some (.slice ZC p.1.length ZE)∧U.cell? ⟨Zf,L+1,none⟩=some (.slice ZD p.2.length ZF)from⟨(e.cell (p:=⟨Zf,L,none⟩) ZJ).trans Y2,(e.cell (p:=⟨Zf,L+1,none⟩) ZJ).trans Y3⟩));have ZB:=hid aa;clear Y4 YB YC Y8 Y2 Y3 Zo Zp Yp ZO ZP ZQ ab ad ZR Y9 Yn;obtain⟨YW,YX⟩:=p;dsimp only at T hF F Zq Zr
   have Z:((YW,YX)::X).length=X.length+1:=rfl;have ZT:(X.length:Int)<=39:=by omega
   have Z6:X.length+1<=g:=ZK;have Z7:(g:Int)<=9223372036854775807:=by unfold maxLen at ZL;omega
   have Z8:(X.length:Int)+1<=(g:Int):=by omega
   by_cases Yf:dF a YW YX=0
   ·obtain⟨ZG,ZH⟩:=wW Yf
    have Y0:=mZ ZG;have Zn:=mZ ZH;have Za:o0 a YW YX=((bU a YW).1,(bU a YX).1):=by unfold o0;rw[aD Yf]
    rw[Yf,Za]at hF;rw[Yf]at T;dsimp only at hF
    clear Za ZG ZH Yf;generalize(bU a YW).1=Yg at*;generalize(bU a YX).1=Yv at*;have aA:=cK Y0;have V:=hid (fun U ZW ZX Z0 Z1 Zs Zt=>xy Yg Yv ZW ZX Z0 Z1 U Zs Zt (by unfold maxLen;omega));have YA:=hid (fun U(e:Below l.heap.size l U)O P Q R Zs Zt ae ag aj ak=>EA rk Yg Yv YY O P Zj Q R U ZB.out Y0 Zn (ZU.out U e) Zs Zt ae ag aj ak);rw[Z];rw[Z]at S;by_cases W:Yg=Yv
    ·subst W
     rw[show lJ Yg Yg=true by simp[lJ]]at V;clear YA;go_enter Tryz.func104,Tryz.ntmps104;go_wp2_with fail;refine S.out.mono ?_;rintro E Yc⟨rfl,s⟩;obtain⟨Y5,Y6⟩:=F.out Yc s;clear S;go_wp2_with fail;refine(hF.out Yc s).mono ?_;rintro E n⟨v,ZS,rfl,Yq,Yr,Yz⟩;have Yw:=s.trans (Yz.mono s.size);obtain⟨O,Q,rfl,YL,Zu,YR⟩:=cU.ints Yq;obtain⟨P,R,rfl,YM,Zv,YS⟩:=cU.ints Yr;clear hF Yq Yr Y5 Y6;have b:Below n.heap.size n n.drew:=bD (ah _ n) 1;have o:=Yw.trans (b.mono Yw.size);by_cases Yo:g=1
     ·subst Yo
      obtain rfl:X=[]:=bJ (by omega);simp only[bH,cI];go_wp2;go_region_held3(fun _=>True)(first|trivial)(first
       |(go_at_call 136;refine(D.out n.drew o).mono ?_;rintro E Yt⟨Zw,rfl,h,c⟩;have m:=o.trans (c.mono o.size))
       |(go_at_call 137;refine(uX (fl:=false) l.heap.size [] (some ⟨Zf,L,none⟩) 0 Yt m.size (fun Yd t=>by simp at t) (by simp) (fun Yd t=>by simp at t)).mono ?_;rintro E Yu⟨Zx,rfl,i,d⟩;have G:=m.trans (d.mono m.size)))
      have z:=hid ((h.below d).mono (show l.heap.size<=n.drew.heap.size from o.size));have A:=hid (i.mono m.size);have q:=hid (((YL.below b).mono b.size|>.below c).mono c.size|>.below d|>.mono d.size);have r:=hid (((YM.below b).mono b.size|>.below c).mono c.size|>.below d|>.mono d.size);obtain⟨Zd,Zh,B⟩:=h.slice;obtain⟨Ze,Zi,C⟩:=i.slice;rw[B]at z;rw[C]at A;clear h i c D;go_wp2_with fail;refine(V.out Yu O P Q R q.out r.out).mono ?_;rintro E YT⟨rfl,f⟩;have u:=G.trans (f.mono G.size);subst B C;go_wp2;go_ret3
      exact⟨0,a,[],_,_,T.out _ _ _ (.inr (.inl ⟨(by first|rfl|trivial),(by first|rfl|trivial),rfl,rfl,rfl⟩)),rfl,z.out.below f,A.out.below f,u⟩
     ·have al:(1:Int)<=(X.length:Int)+1:=by omega
      have an:¬g-1=0:=by omega
      have ao:(1:Int)<=(g:Int):=by omega
      go_wp2;go_region_held3(fun _=>True)(first|trivial)(first
       |(go_at_call 136;refine(D.out n.drew o).mono ?_;rintro E Yt⟨Zw,rfl,h,c⟩;have m:=o.trans (c.mono o.size))
       |(go_at_call 137;refine(Y7.out Yt m (g-1)).mono ?_;rintro E Yu⟨Zx,rfl,i,d⟩;have G:=m.trans (d.mono m.size)))
      have z:=hid ((h.below d).mono (show l.heap.size<=n.drew.heap.size from o.size));have A:=hid (i.mono m.size);have q:=hid (((YL.below b).mono b.size|>.below c).mono c.size|>.below d|>.mono d.size);have r:=hid (((YM.below b).mono b.size|>.below c).mono c.size|>.below d|>.mono d.size);obtain⟨Zd,Zh,B⟩:=h.slice;obtain⟨Ze,Zi,C⟩:=i.slice;rw[B]at z;rw[C]at A;clear h i c D;go_wp2_with fail;refine(V.out Yu O P Q R q.out r.out).mono ?_;rintro E YT⟨rfl,f⟩;have u:=G.trans (f.mono G.size);subst B C;go_wp2;go_ret3
      exact⟨0,a,X,_,_,T.out _ _ _ (.inr (.inl ⟨(by first|rfl|trivial),(by first|rfl|trivial),rfl,rfl,rfl⟩)),rfl,z.out.below f,A.out.below f,u⟩
    ·have ZN:lJ Yg Yv=false:=by unfold lJ;exact Rr W
     rw[ZN]at V;go_enter Tryz.func104,Tryz.ntmps104;go_wp2_with fail;refine S.out.mono ?_;rintro E Yc⟨rfl,s⟩;obtain⟨Y5,Y6⟩:=F.out Yc s;clear S;go_wp2_with fail;refine(hF.out Yc s).mono ?_;rintro E n⟨v,ZS,rfl,Yq,Yr,Yz⟩;have Yw:=s.trans (Yz.mono s.size);obtain⟨O,Q,rfl,YL,Zu,YR⟩:=cU.ints Yq;obtain⟨P,R,rfl,YM,Zv,YS⟩:=cU.ints Yr;clear hF Yq Yr Y5 Y6;have b:Below n.heap.size n n.drew:=bD (ah _ n) 1;have o:=Yw.trans (b.mono Yw.size);by_cases Yo:g=1
     ·subst Yo
      obtain rfl:X=[]:=bJ (by omega);simp only[bH,cI];go_wp2;go_region_held3(fun _=>True)(first|trivial)(first
       |(go_at_call 136;refine(D.out n.drew o).mono ?_;rintro E Yt⟨Zw,rfl,h,c⟩;have m:=o.trans (c.mono o.size))
       |(go_at_call 137;refine(uX (fl:=false) l.heap.size [] (some ⟨Zf,L,none⟩) 0 Yt m.size (fun Yd t=>by simp at t) (by simp) (fun Yd t=>by simp at t)).mono ?_;rintro E Yu⟨Zx,rfl,i,d⟩;have G:=m.trans (d.mono m.size)))
      have z:=hid ((h.below d).mono (show l.heap.size<=n.drew.heap.size from o.size));have A:=hid (i.mono m.size);have q:=hid (((YL.below b).mono b.size|>.below c).mono c.size|>.below d|>.mono d.size);have r:=hid (((YM.below b).mono b.size|>.below c).mono c.size|>.below d|>.mono d.size);obtain⟨Zd,Zh,B⟩:=h.slice;obtain⟨Ze,Zi,C⟩:=i.slice;rw[B]at z;rw[C]at A;clear h i c D;go_wp2_with fail;refine(V.out Yu O P Q R q.out r.out).mono ?_;rintro E YT⟨rfl,f⟩;have u:=G.trans (f.mono G.size);go_wp2_with fail;refine(YA.out YT u O P Q R ((q.out.below f).mono f.size) ((r.out.below f).mono f.size) Zu YR Zv YS).mono ?_;rintro E N⟨aq,u6,rfl,YP,YN,Yk⟩;have Yx:=u.trans (Yk.mono u.size);obtain⟨Yi,Yl,rfl,YH,Zz,YU⟩:=fW.new (fl:=false) (base:=l.heap.size) YP (.inr u.size);obtain⟨Yj,Ym,rfl,YJ,ZA,YV⟩:=fW.new (fl:=false) (base:=l.heap.size) YN (.inr u.size);obtain⟨I,x⟩:∃I,N.alloc (.cells #[.slice Yi (fP rk Yg Yv).2.1.length Yl,.slice Yj (fP rk Yg Yv).2.2.length Ym] 70)=I:=⟨_,rfl⟩;have J:Below N.heap.size N I:=by rw[<-x];exact(ah _ _).alloc (af _) _
      have K:eT I N.heap.size 70 (.slice Yi (fP rk Yg Yv).2.1.length Yl) (.slice Yj (fP rk Yg Yv).2.2.length Ym):=by rw[<-x];exact eT.new N _ _ _
      have av:=K.cell0;have aw:=K.dh;have Yh:=Yx.trans (J.mono Yx.size);have Zb:=hid (((z.out.below f).below Yk).below J);have Zc:=hid (((A.out.below f).below Yk).below J);have YI:=hid (YH.below J);have YK:=hid (YJ.below J);have YD:=hid (fun ZI=>zI (rk:=rk) Y0 Zn ZI);have Ye:=hid x;clear x YP YN YH YJ K YA z A q r;generalize fP rk Yg Yv=Zm at*;obtain⟨Y,Zk,Zl⟩:=Zm;dsimp only at*
      by_cases y:Y=0
      ·subst y
       have e:=hid (IK l.heap.size a [] Zk Zl _ _ Yi Yj Yl Ym I Yh.size Zb.out Zc.out YI.out YK.out (YD.out rfl).1 Zz YU ZA YV (fun Yd t=>(YE.out Yd t).1) (by omega) (by first|omega|(simp;omega)|simp));subst B C;go_wp2_with fail;rw[Ye.out];go_wp2_with fail;refine e.out.mono ?_;rintro E au⟨w,k,j,ar,u8,YG,rfl,YQ,YO,Zg⟩;have H:=hid (T.out w k j (.inr (.inr (.inr ⟨(by first|rfl|trivial),W,(by first|rfl|trivial),YG⟩))));obtain⟨ZY,Z2,rfl⟩:=YQ.slice;obtain⟨ZZ,Z3,rfl⟩:=YO.slice;go_wp2;go_ret3
       exact⟨w,k,j,_,_,H.out,rfl,YQ,YO,Yh.trans Zg⟩
      ·have YF:(Y !=0)=true:=by simpa using y
       have H:=hid (T.out Y [] [] (.inr (.inr (.inl ⟨(by first|rfl|trivial),W,y,rfl,rfl,rfl⟩))));clear y;subst B C;go_wp2_with fail;go_ret3
       first|exact⟨Y,[],[],_,_,H.out,rfl,dC.nil _ _ _ _,dC.nil _ _ _ _,by rw[Ye.out];exact Yh⟩
     ·have al:(1:Int)<=(X.length:Int)+1:=by omega
      have an:¬g-1=0:=by omega
      have ao:(1:Int)<=(g:Int):=by omega
      go_wp2;go_region_held3(fun _=>True)(first|trivial)(first
       |(go_at_call 136;refine(D.out n.drew o).mono ?_;rintro E Yt⟨Zw,rfl,h,c⟩;have m:=o.trans (c.mono o.size))
       |(go_at_call 137;refine(Y7.out Yt m (g-1)).mono ?_;rintro E Yu⟨Zx,rfl,i,d⟩;have G:=m.trans (d.mono m.size)))
      have z:=hid ((h.below d).mono (show l.heap.size<=n.drew.heap.size from o.size));have A:=hid (i.mono m.size);have q:=hid (((YL.below b).mono b.size|>.below c).mono c.size|>.below d|>.mono d.size);have r:=hid (((YM.below b).mono b.size|>.below c).mono c.size|>.below d|>.mono d.size);obtain⟨Zd,Zh,B⟩:=h.slice;obtain⟨Ze,Zi,C⟩:=i.slice;rw[B]at z;rw[C]at A;clear h i c D;go_wp2_with fail;refine(V.out Yu O P Q R q.out r.out).mono ?_;rintro E YT⟨rfl,f⟩;have u:=G.trans (f.mono G.size);go_wp2_with fail;refine(YA.out YT u O P Q R ((q.out.below f).mono f.size) ((r.out.below f).mono f.size) Zu YR Zv YS).mono ?_;rintro E N⟨aq,u6,rfl,YP,YN,Yk⟩;have Yx:=u.trans (Yk.mono u.size);obtain⟨Yi,Yl,rfl,YH,Zz,YU⟩:=fW.new (fl:=false) (base:=l.heap.size) YP (.inr u.size);obtain⟨Yj,Ym,rfl,YJ,ZA,YV⟩:=fW.new (fl:=false) (base:=l.heap.size) YN (.inr u.size);obtain⟨I,x⟩:∃I,N.alloc (.cells #[.slice Yi (fP rk Yg Yv).2.1.length Yl,.slice Yj (fP rk Yg Yv).2.2.length Ym] 70)=I:=⟨_,rfl⟩;have J:Below N.heap.size N I:=by rw[<-x];exact(ah _ _).alloc (af _) _
      have K:eT I N.heap.size 70 (.slice Yi (fP rk Yg Yv).2.1.length Yl) (.slice Yj (fP rk Yg Yv).2.2.length Ym):=by rw[<-x];exact eT.new N _ _ _
      have av:=K.cell0;have aw:=K.dh;have Yh:=Yx.trans (J.mono Yx.size);have Zb:=hid (((z.out.below f).below Yk).below J);have Zc:=hid (((A.out.below f).below Yk).below J);have YI:=hid (YH.below J);have YK:=hid (YJ.below J);have YD:=hid (fun ZI=>zI (rk:=rk) Y0 Zn ZI);have Ye:=hid x;clear x YP YN YH YJ K YA z A q r;generalize fP rk Yg Yv=Zm at*;obtain⟨Y,Zk,Zl⟩:=Zm;dsimp only at*
      by_cases y:Y=0
      ·subst y
       have e:=hid (IK l.heap.size a X Zk Zl _ _ Yi Yj Yl Ym I Yh.size Zb.out Zc.out YI.out YK.out (YD.out rfl).1 Zz YU ZA YV (fun Yd t=>(YE.out Yd t).1) (by omega) (by first|omega|(simp;omega)|simp));subst B C;go_wp2_with fail;rw[Ye.out];go_wp2_with fail;refine e.out.mono ?_;rintro E au⟨w,k,j,ar,u8,YG,rfl,YQ,YO,Zg⟩;have H:=hid (T.out w k j (.inr (.inr (.inr ⟨(by first|rfl|trivial),W,(by first|rfl|trivial),YG⟩))));obtain⟨ZY,Z2,rfl⟩:=YQ.slice;obtain⟨ZZ,Z3,rfl⟩:=YO.slice;go_wp2;go_ret3
       exact⟨w,k,j,_,_,H.out,rfl,YQ,YO,Yh.trans Zg⟩
      ·have YF:(Y !=0)=true:=by simpa using y
       have H:=hid (T.out Y [] [] (.inr (.inr (.inl ⟨(by first|rfl|trivial),W,y,rfl,rfl,rfl⟩))));clear y;subst B C;go_wp2_with fail;go_ret3
       first|exact⟨Y,[],[],_,_,H.out,rfl,dC.nil _ _ _ _,dC.nil _ _ _ _,by rw[Ye.out];exact Yh⟩
   ·have YF:(dF a YW YX !=0)=true:=by simpa using Yf
    have H:=hid (T.out (dF a YW YX) [] [] (.inl ⟨Yf,rfl,rfl,rfl⟩));rw[Z];rw[Z]at S;clear Yf T;generalize dF a YW YX=ai at*;generalize o0 a YW YX=ay at*;go_enter Tryz.func104,Tryz.ntmps104;go_wp2_with fail;refine S.out.mono ?_;rintro E Yc⟨rfl,s⟩;obtain⟨Y5,Y6⟩:=F.out Yc s;clear S;go_wp2_with fail;refine(hF.out Yc s).mono ?_;rintro E n⟨v,ZS,rfl,Yq,Yr,Yz⟩;obtain⟨O,Q,rfl,_⟩:=cU.ints Yq;obtain⟨P,R,rfl,_⟩:=cU.ints Yr;go_wp2;go_ret3
    exact⟨ai,[],[],_,_,H.out,rfl,dC.nil _ _ _ _,dC.nil _ _ _ _,s.trans (Yz.mono s.size)⟩
 ·have H:Hid (eH rk a M (iD rk a M) [] []):=.inl ⟨Yp,rfl,rfl,rfl⟩
  have YF:(iD rk a M !=0)=true:=by simpa using Yp
  clear Yp Y4 YB YC;generalize iD rk a M=ai at*;go_enter Tryz.func104,Tryz.ntmps104;go_wp2_with fail;refine S.out.mono ?_;rintro E Yc⟨rfl,s⟩;go_wp2;go_ret3
  exact⟨ai,[],[],_,_,H.out,rfl,dC.nil _ _ _ _,dC.nil _ _ _ _,s⟩
def jr(rk:List Int)(ps:bg):Nat->bu->bg->Prop
 |0,rs,qs=>rs=[]∧qs=ps
 |k+1,rs,qs=>∃Am Px,jr rk ps k Am Px∧0<Px.length∧eH rk Am Px 0 rs qs
def jC(rk:List Int)(ps:bg)(er:Int)(rs:bu)(n:Nat):Prop:=
 (gn rk ps≠0∧er=gn rk ps∧rs=[]∧n=0)∨
 (gn rk ps=0∧∃k Am qs,k<=30∧jr rk ps k Am qs∧
   ((qs=[]∧er=0∧rs=Am∧n=k)∨(0<qs.length∧k=30∧er=2∧rs=[]∧n=0)∨(0<qs.length∧k<30∧er≠0∧(∃iy An,eH rk Am qs er iy An)∧rs=[]∧n=0)))
def wz:Prop:=∀(rs:bu)(i j er vw:Int)(ps iY:bg),fi rs i j er ps->fi rs i j vw iY->er=vw∧ps=iY
theorem gO.one(g:wz)(s:gO z O u w)(j:gO z O A D):u=A∧w=D:=by
 rcases s with⟨rfl,q,c,rfl⟩|⟨i,rfl,m,v,k,⟨x,q,c,_⟩,f⟩<;>rcases j with⟨rfl,r,b,rfl⟩|⟨h,rfl,n,p,l,⟨t,r,b,_⟩,d⟩
 ·refine⟨rfl,?_⟩
  congr 1;refine gm fun o e=>?_
  rw[Rd]at e;exact(g _ _ _ _ _ _ _ (c o e) (b o e)).2
 ·exact absurd (g _ _ _ _ _ _ _ d (c n l)).1 h
 ·exact absurd (g _ _ _ _ _ _ _ f (b m k)).1 i
 ·rcases nn m n with a|rfl|a
  ·exact absurd (g _ _ _ _ _ _ _ f (b m a)).1 i
  ·exact⟨(g _ _ _ _ _ _ _ f d).1,rfl⟩
  ·exact absurd (g _ _ _ _ _ _ _ d (c n a)).1 h
theorem jm.one(k:wz)(f:jm z w r y u B D)(g:jm z w r y A G H):u=A∧B=G∧D=H:=by
 rcases f with⟨h,rfl,rfl,rfl⟩|⟨h,o,p,j,f⟩<;>rcases g with⟨c,rfl,rfl,rfl⟩|⟨c,l,n,e,m⟩
 ·exact⟨rfl,rfl,rfl⟩
 ·omega
 ·omega
 ·obtain⟨rfl,rfl⟩:=gO.one k j e
  rcases f with⟨b,rfl,rfl,rfl⟩|⟨b,i,rfl,rfl,rfl⟩|⟨b,i,rfl,rfl,rfl⟩<;>rcases m with⟨a,rfl,rfl,rfl⟩|⟨a,d,rfl,rfl,rfl⟩|⟨a,d,rfl,rfl,rfl⟩
  ·exact⟨rfl,rfl,rfl⟩
  ·exact absurd a b
  ·exact absurd a b
  ·exact absurd b a
  ·exact⟨rfl,rfl,rfl⟩
  ·omega
  ·exact absurd b a
  ·omega
  ·exact⟨rfl,rfl,rfl⟩
theorem eH.one(m:wz){rk:List Int}(j:eH rk z w u B D)(k:eH rk z w A G H):u=A∧B=G∧D=H:=by
 rcases j with⟨g,rfl,rfl,rfl⟩|⟨g,s,r,rfl,j⟩<;>rcases k with⟨e,rfl,rfl,rfl⟩|⟨e,q,p,n,o⟩
 ·exact⟨rfl,rfl,rfl⟩
 ·exact absurd e g
 ·exact absurd g e
 ·cases n
  rcases j with⟨b,rfl,rfl,rfl⟩|⟨b,d,rfl,rfl,rfl⟩|⟨b,d,h,rfl,rfl,rfl⟩|⟨b,d,h,l⟩<;>rcases o with⟨a,rfl,rfl,rfl⟩|⟨a,c,rfl,rfl,rfl⟩|⟨a,c,f,rfl,rfl,rfl⟩|⟨a,c,f,i⟩
  ·exact⟨rfl,rfl,rfl⟩
  ·exact absurd a b
  ·exact absurd a b
  ·exact absurd a b
  ·exact absurd b a
  ·exact⟨rfl,rfl,rfl⟩
  ·exact absurd d c
  ·exact absurd d c
  ·exact absurd b a
  ·exact absurd c d
  ·exact⟨rfl,rfl,rfl⟩
  ·exact absurd f h
  ·exact absurd b a
  ·exact absurd c d
  ·exact absurd h f
  ·exact jm.one m l i
theorem jr.one(i:wz){rk:List Int}:∀(k:Nat)(rs b:bu)(c a:bg),jr rk w k rs c->jr rk w k b a->rs=b∧c=a:=by
 intro k;induction k with
 |zero=>rintro rs b c a⟨rfl,rfl⟩⟨rfl,rfl⟩;exact⟨rfl,rfl⟩
 |succ k h=>
  rintro rs b c a⟨j,l,f,_,g⟩⟨m,n,d,_,e⟩;obtain⟨rfl,rfl⟩:=h _ _ _ _ f d;exact(eH.one i g e).2
theorem jr.less{rk:List Int}:∀(d k:Nat)(rs:bu)(b:bg),jr rk w (k+d+1) rs b->∃c a g f,jr rk w k c a∧0<a.length∧eH rk c a 0 g f:=by
 intro d;induction d with
 |zero=>rintro k rs b⟨h,i,e,j,l⟩;exact⟨h,i,rs,b,e,j,l⟩
 |succ d m=>rintro k rs b⟨h,i,e,_,_⟩;exact m k h i e
theorem jC.one(v:wz){rk:List Int}(o:jC rk w u z a)(C:jC rk w A B h):u=A∧z=B∧a=h:=by
 rcases o with⟨p,rfl,rfl,rfl⟩|⟨p,j,f,g,E,e,o⟩<;>rcases C with⟨n,rfl,rfl,rfl⟩|⟨n,m,l,k,s,c,I⟩
 ·exact⟨rfl,rfl,rfl⟩
 ·exact absurd n p
 ·exact absurd p n
 ·have stop:∀{j m:Nat}{f l:bu}{g k:bg}{u:Int}{z:bu}{a:Nat},jr rk w j f g->jr rk w m l k->m<=30->j<m->((g=[]∧u=0∧z=f∧a=j)∨(0<g.length∧j=30∧u=2∧z=[]∧a=0)∨(0<g.length∧j<30∧u≠0∧(∃B t,eH rk f g u B t)∧z=[]∧a=0))->False:=by
   intro j m f l g k u z a e c s i o;obtain⟨O,P,Q,R,F,G,H⟩:=jr.less (m-j-1) j l k (by rw[show j+(m-j-1)+1=m from by omega];exact c);obtain⟨rfl,rfl⟩:=jr.one v j _ _ _ _ e F;rcases o with⟨rfl,_⟩|⟨_,o,_⟩|⟨_,_,r,⟨K,M,q⟩,_⟩
   ·simp at G
   ·omega
   ·exact r (eH.one v q H).1
  rcases nn j m with i|rfl|i
  ·exact(stop e c s i o).elim
  ·obtain⟨rfl,rfl⟩:=jr.one v j _ _ _ _ e c
   rcases o with⟨d,rfl,rfl,rfl⟩|⟨d,D,rfl,rfl,rfl⟩|⟨d,D,r,⟨K,M,q⟩,rfl,rfl⟩<;>rcases I with⟨b,rfl,rfl,rfl⟩|⟨b,x,rfl,rfl,rfl⟩|⟨b,x,J,⟨L,N,y⟩,rfl,rfl⟩
   ·exact⟨rfl,rfl,rfl⟩
   ·rw[d]at b;simp at b
   ·rw[d]at b;simp at b
   ·rw[b]at d;simp at d
   ·exact⟨rfl,rfl,rfl⟩
   ·omega
   ·rw[b]at d;simp at d
   ·omega
   ·exact⟨(eH.one v q y).1,rfl,rfl⟩
  ·exact(stop c e E i I).elim
theorem zA(b:List (List Int))(R:b.length=8)(x:um b)(Yn:Option Addr)(G:Nat)(c:List Int)(r:Option Addr)(Yc:Nat)(Yx:c.length<=100)(I:∀k,k<c.length-> -8<=c[k]?.getD 0)(h:World)
 (M:np h.heap.size h Yn b)(N:cZ h.heap.size h r c):
 Calls Tryz.prog 121 #[.slice Yn 8 G,.slice r c.length Yc] h fun B U=>∃v,B=.returned v∧cU h.heap.size U v (bo b c)∧Below h.heap.size h U:=by
 have Yf:(c.length:Int)<=100:=by omega
 obtain⟨Z,Yi,rfl,O,t⟩:=M.at (by omega);have C:=hid t;have X:=hid N;have W:=hid I;have Y:=hid R;clear t M N I R;go_enter Tryz.func121,Tryz.ntmps121;go_wp2;go_loopw [5,6](fun v Yh wr=>∃k:Nat,k<=c.length∧Yh=.int .i64 (k:Int)∧cU h.heap.size wr v (bo b (c.take k))∧Below h.heap.size h wr)(fun _ Yh _=>c.length-(intOf Yh).toNat)
 case atStart=>exact⟨0,bf _,rfl,cU.nil _ _,ah _ _⟩
 case round=>
  obtain⟨k,Yw,rfl,g,a⟩:=hrel;by_cases m:k<c.length
  ·have Yg:(k:Int)<(c.length:Int):=by omega
   obtain⟨Yu,T,rfl,Ye,P⟩:=X.out.at (by omega);have Q:=(a.cell (p:=⟨Yu,T+k,none⟩) Ye).trans (P k m);have f:=hid (rl b m);have S:=mi x (c.take k);rw[cX]at S;have u:=tj x (c[k]?.getD 0);have w:=W.out k m;clear P;obtain⟨Yt,Yv,rfl,_⟩:=cU.ints g;by_cases n:c[k]?.getD 0<0
   ·obtain⟨o,z⟩:∃o:Nat,c[k]?.getD 0= -1-(o:Int):=⟨(-1-(c[k]?.getD 0)).toNat,by omega⟩
    have Yp:(o:Int)<8:=by omega
    obtain⟨E,H,l,j,q,Yd,y⟩:=C.out o (by rw[Y.out];omega);have Yo:=(a.cell (p:=⟨Z,Yi+o,none⟩) O).trans l;have K:=(j.below a).mono a.size;have e:gh b (c[k]?.getD 0)=b[o]?.getD []:=by
     rw[z];unfold gh;rw[aD (by omega)];congr 2;omega
    rw[e]at f u;rw[z]at Q;have V:Hid (E=none->(b[o]?.getD []).length=0∧H=0):=fun B=>⟨by have:=y B;omega,y B⟩
    clear l j e z n w y q Yd;generalize b[o]?.getD []=Yj at*;generalize bo b (c.take k)=A at*;have Yq:(-1-(o:Int))<0:=by omega
    have Yr: -(-1-(o:Int))-1=(o:Int):=by omega
    go_wp2_with(at_builtin;go_loud(refine dB _ rfl _ _ rfl h.heap.size _ A rfl g E Yj H rfl V.out K (by omega) a.size ?_);intro Yl Ym d i;obtain⟨D,F,rfl,_⟩:=cU.ints d)
    go_roundw
    case rel=>exact⟨k+1,by omega,by go_num,by rw[f.out];simpa using d,a.trans i⟩
    case measure=>simp[intOf];omega
   ·have e:gh b (c[k]?.getD 0)=[c[k]?.getD 0]:=by unfold gh;rw[aE n]
    rw[e]at f;clear e u w;generalize c[k]?.getD 0=Yk at*;generalize bo b (c.take k)=A at*;have q:=qX wr [Yk] _ rfl;simp only[fF,gy]at q;have J:Below wr.heap.size wr (wr.alloc (.cells #[.int .i64 Yk] 3)):=(ah _ _).alloc (af _) _;have L:=cU.below g J;have s:=a.trans (J.mono a.size);go_wp2_with(at_builtin;go_loud(refine dB _ rfl _ _ rfl h.heap.size _ A rfl L (some ⟨wr.heap.size,0,none⟩) [Yk] 1 rfl (fun B=>by cases B) (by simpa using q) (by simp;omega) s.size ?_);intro Yl Ym d i;obtain⟨D,F,rfl,_⟩:=cU.ints d)
    go_roundw
    case rel=>exact⟨k+1,by omega,by go_num,by rw[f.out];simpa using d,s.trans i⟩
    case measure=>simp[intOf];omega
  ·obtain rfl:k=c.length:=by omega
   rw[cJ]at g;obtain⟨D,F,rfl,_⟩:=cU.ints g;go_wp2;go_ret;exact⟨_,rfl,g,a⟩
theorem xW(a:List Int)(R:Option Addr)(YA:Nat)(e:World)(Zq:a.length<=100)(M:0<a.length)(YB:∀k,k<a.length-> -8<=a[k]?.getD 0)(Yl:cZ e.heap.size e R a):
 Calls Tryz.prog 151 #[.slice R a.length YA] e fun Yi h=>∃v,Yi=.returned v∧cU e.heap.size h v (dN a)∧Below e.heap.size e h:=by
 have Y6:(a.length:Int)<=100:=by omega
 obtain⟨Zg,Yh,rfl,Y2,YD⟩:=Yl.at M;have YI:cU e.heap.size (e.alloc (.cells #[] 3)) (.slice (some ⟨e.heap.size,0,none⟩) 0 0) []:=cU.lit e.heap.size e [] (af _) (by unfold maxLen;simp);have i:Below e.heap.size e (e.alloc (.cells #[] 3)):=(ah _ _).alloc (af _) _;have YR:=hid Yl;have YS:=hid YD;have Zk:=hid YB;clear Yl YD YB;go_enter Tryz.func151,Tryz.ntmps151;go_wp2_with(at_builtin;go_loud(refine dB _ rfl (.tmp 8) (.tmp 9) rfl e.heap.size _ [] rfl YI _ a YA rfl (fun Yi=>by cases Yi) ((YR.out.below i).mono i.size) (by simp;omega) i.size ?_);intro Zt m w U;obtain⟨T,YO,rfl,_⟩:=cU.PC w (by simpa using M))
 have B:=i.trans U;clear i U YI;simp only[bV]at*;have YH:=w.IS.2;have Yk:=B.size;go_loopw [3,5](fun Zd Yt wr=>∃k:Nat,k<=a.length∧Yt=.int .i64 (k:Int)∧Hid (sX e m a T a.length YO k Zd wr))(fun _ Yt _=>a.length-(intOf Yt).toNat)
 case atStart=>exact⟨0,bf _,rfl,cU.nil _ _,by rw[Eo];exact w,B,af _⟩
 case round=>
  clear w B;obtain⟨k,Y5,rfl,q⟩:=hrel;by_cases f:k<a.length
  ·have Y7:(k:Int)<(a.length:Int):=by omega
   have Y:=(q.out.2.2.1.cell (p:=⟨Zg,Yh+k,none⟩) Y2).trans (YS.out k f);by_cases F:a[k]?.getD 0<0
   ·have Yf:=wC (a.take k) []
    rw[cX]at Yf;simp only[bH,cI]at Yf;have E:=hid (DB (a.take k) [] List.nodup_nil);have Ye:=hid (vm [] f);have Yd:Hid (jM (db [] (a.take k)) (a[k]?.getD 0)= -1-(me (db [] (a.take k)) (a[k]?.getD 0):Int)):=by
     show _=_;unfold jM;rw[aD F]
    have Yg:Hid (∀(L:Value)(h:World)(YQ:Int),cU m.heap.size h L (db [] (a.take (k+1)))->cU e.heap.size h (.slice (some ⟨T,0,none⟩) a.length YO) (lZ a k)->Below e.heap.size e h->m.heap.size<=h.heap.size->
     YQ=jM (db [] (a.take k)) (a[k]?.getD 0)->sX e m a T a.length YO (k+1) L (h.setCell ⟨T,k,none⟩ (.int .i64 YQ))):=
     fun L h YQ YT YU YV YW Yz=>sX.store YH rfl f YT YU YV YW YQ Yz
    obtain⟨Yu,K,N,YL⟩:=q.out;have u:Hid ((lZ a k).length=a.length):=wu Y5;clear q;generalize jM (db [] (a.take k)) (a[k]?.getD 0)=YK at*;generalize db [] (a.take (k+1))=YP at*;generalize db [] (a.take k)=seen at*;generalize lZ a k=YF at*;generalize a[k]?.getD 0=g at*;obtain⟨Zl,Zn,rfl,W,x,_⟩:=cU.ints Yu;have Yw:=hid W;have Za:(seen.length:Int)<=100:=by omega
    clear W x;go_wp2;go_loopw [6,7](fun Zj Yt Zf=>∃(d S:Nat),d<=seen.length∧Yt=.int .i64 (d:Int)∧Zf=wr.drewN S∧((Zj=.int .i64 (-1)∧Hid (∀b,b<d->seen[b]?.getD 0≠g))∨∃b:Nat,b<d∧Zj=.int .i64 (b:Int)∧Hid (seen[b]?.getD 0=g)))(fun _ Yt _=>seen.length-(intOf Yt).toNat)
    case atStart=>exact⟨0,0,bf _,rfl,rfl,.inl ⟨rfl,fun b D=>by omega⟩⟩
    case round=>
     obtain⟨d,S,Zp,rfl,rfl,Yn⟩:=hrel;by_cases YJ:d<seen.length
     ·have Y8:(d:Int)<(seen.length:Int):=by omega
      obtain⟨Zo,Zr,rfl,Zh,x⟩:=Yw.out.at (by omega);have YE:=x d YJ;have H:=hid (show seen[d]?.getD 0≠g->(∀b,b<d->seen[b]?.getD 0≠g)->∀b,b<d+1->seen[b]?.getD 0≠g from fun YY YZ b D=>by
       by_cases Yi:b=d
       ·subst Yi;exact YY
       ·exact YZ b (by omega))
      clear x;obtain⟨YN,Yq⟩:∃YN,seen[d]?.getD 0=YN:=⟨_,rfl⟩;rw[Yq]at YE;have Yy:=hid Yq;clear Yq;by_cases z:YN=g
      ·have Y9:(YN==g)=true:=by simp[z]
       have Yr:Hid (seen[d]?.getD 0=g):=Yy.out.trans z;clear z H Yn;go_wp2;go_quiet(fail)
       go_wp2;go_roundw
       case rel=>exact⟨d+1,_,by omega,by go_num,rfl,.inr ⟨d,by omega,rfl,Yr⟩⟩
       case measure=>simp[intOf];omega
      ·have Y9:(YN==g)=false:=by simp[z]
       have Ym:Hid ((∀b,b<d->seen[b]?.getD 0≠g)->∀b,b<d+1->seen[b]?.getD 0≠g):=H.out (by rw[Yy.out];exact z);clear z H;rcases Yn with⟨rfl,y⟩|⟨b,D,rfl,c⟩
       ·go_wp2
        go_quiet(fail)
        go_wp2;go_roundw
        case rel=>exact⟨d+1,_,by omega,by go_num,rfl,.inl ⟨rfl,Ym.out y.out⟩⟩
        case measure=>simp[intOf];omega
       ·go_wp2
        go_quiet(fail)
        go_wp2;go_roundw
        case rel=>exact⟨d+1,_,by omega,by go_num,rfl,.inr ⟨b,by omega,rfl,c⟩⟩
        case measure=>simp[intOf];omega
     ·obtain rfl:d=seen.length:=by omega
      have Yv:=cU.drewN Yu S;have O:=cU.drewN K S;have P:=bD N S;have Zc:m.heap.size<=(wr.drewN S).heap.size:=YL;obtain⟨Yj,YX,o,j,l⟩:=cU.PC O (by rw[u.out];exact M);have Yc:=j k (by rw[u.out];exact f);have Z:=l k;have A:T=Yj:=by simp only[iS,dx,RC]at o;exact o.1.1
      subst A;have Y3:(wr.drewN S).cell? ⟨Zg,Yh+k,none⟩=some (.int .i64 g):=Y;clear j l o Y Yu K N YL;generalize Zb:YF[k]?.getD 0=Zu at*;clear Zb;generalize wr.drewN S=n at*;rcases Yn with⟨rfl,y⟩|⟨b,D,rfl,c⟩
      ·have s:=Kb y.out
       have G:=hid (JE F s);have r:Hid (YK= -1-(seen.length:Int)):=by
        show _=_;rw[Yd.out,yi s]
       have t:=hid (Ye.out.trans G.out);have Y0:Below n.heap.size n (n.alloc (.cells #[.int .i64 g] 3)):=(ah _ _).alloc (af _) _;have Q:=hid (Yv.alloc (.cells #[.int .i64 g] 3));have Yo:=O.alloc (.cells #[.int .i64 g] 3);have Yp:=P.trans (Y0.mono P.size);have J:m.heap.size<=(n.alloc (.cells #[.int .i64 g] 3)).heap.size:=by simp;omega
       have Yx:=hid (l0 n (.int .i64 g) 3 n.heap.size rfl);clear s G y E Yv O P Yc Z;go_wp2_with(at_builtin;go_loud(refine pN _ rfl _ _ rfl m.heap.size _ seen rfl Q.out n.heap.size g rfl Yx.out (by omega) J ?_);intro Zs Ze X YG V;have YM:cU e.heap.size Ze (.slice (some ⟨T,0,none⟩) a.length YO) YF:=dM Yo YG (.inr (fun Yi=>by have:=(bn Q.out T Yi.symm).1;omega));obtain⟨Yj,YX,o,j,l⟩:=cU.PC YM (by rw[u.out];exact M);have Yc:=j k (by rw[u.out];exact f);have Z:=l k;have A:T=Yj:=(by simp only[iS,dx,RC]at o;exact o.1.1);subst A;clear j l o;obtain⟨Yz,Zm,rfl,_⟩:=cU.ints X)
       go_roundw
       case rel=>exact⟨k+1,by omega,by go_num,Yg.out _ _ _ (by rw[t.out];simpa using X) YM (Yp.trans (V.mono (by have:=Yk;omega))) (aK J V.size) r.out.symm⟩
       case measure=>simp[intOf];omega
      ·have C:=Mn E.out D c.out
       have I:=hid (Ks (Mp D c.out));have r:Hid (YK= -1-(b:Int)):=by
        show _=_;rw[Yd.out,C]
       have t:=hid (Ye.out.trans I.out);have Y4:(b:Int)<=100:=by omega
       have Zi:¬(b:Int)<0:=by omega
       clear C I c E;go_wp2;go_roundw
       case rel=>exact⟨k+1,by omega,by go_num,Yg.out _ _ _ (by rw[t.out];exact Yv) O P Zc r.out.symm⟩
       case measure=>simp[intOf];omega
   ·have YC:=hid (q.out.same f (by omega))
    clear q;generalize a[k]?.getD 0=g at*;go_wp2;go_roundw
    case rel=>exact⟨k+1,by omega,by go_num,YC.out⟩
    case measure=>simp[intOf];omega
  ·obtain rfl:k=a.length:=by omega
   obtain⟨_,K,N,_⟩:=q.out;rw[Gh]at K;clear q;go_wp2;go_ret;exact⟨_,rfl,K,N⟩
theorem HJ(a l:List Int)(Yv B:Option Addr)(c Yl k:Nat)(i:World)(u:cZ i.heap.size i Yv a)(M:cZ i.heap.size i B l)(O:a.length<=c)(r:c<=maxLen)(C:Tm.err a=0)(Ym:l.length<=1000)(J:0<l.length)(Z:k<a.length):
 Calls Tryz.prog 120 #[.slice Yv a.length c,.int .i64 (k:Int),.slice B l.length Yl] i fun U D=>∃v,U=.returned v∧cU i.heap.size D v (eI a k l)∧Below i.heap.size i D:=by
 have Yw:=cK C;have Yy:=gL C Z;have Yx:=Tm.im a k;have G:=hid (M.some J);obtain⟨s,d,rfl,YD,_⟩:=u.at (by omega);have h:Below i.heap.size i (i.alloc (.cells #[] 3)):=(ah _ _).alloc (af _) _;have Yc:cU i.heap.size (i.alloc (.cells #[] 3)) (.slice (some ⟨i.heap.size,0,none⟩) 0 0) []:=cU.lit i.heap.size i [] (af _) (by unfold maxLen;simp);have V:∀Q,Below i.heap.size i Q->Calls Tryz.prog 122 #[.slice (some ⟨s,d,none⟩) a.length c,.int .i64 (k:Int)] Q fun U D=>U=.returned (.int .i64 (Tm.dn a k:Int))∧Below Q.heap.size Q D:=
  fun Q W=>xq a (some ⟨s,d,none⟩) c k Q ((u.below W).mono W.size) O r C Z
 have R:=hid (V);have T:=hid (M);have Yh:=hid (u);have z:eI a k l=[]++a.take k++l++a.drop (Tm.dn a k):=by simp[eI]
 rw[z];have I:(a.take k).length=k:=by rw[cX];omega
 have H:(a.drop (Tm.dn a k)).length=a.length-Tm.dn a k:=by rw[cH]
 have S:=hid (u.take k);have L:Hid (∀K F,cZ K F (some ⟨s,d,none⟩) a->∀Yg,cZ K F (if Yg=0 then some ⟨s,d,none⟩else some ⟨s,d+Tm.dn a k,none⟩) (a.drop (Tm.dn a k))∨(Yg=0∧a.drop (Tm.dn a k)≠[])):=by
  intro K F N Yg;by_cases X:Yg=0
  ·by_cases Y:a.drop (Tm.dn a k)=[]
   ·left;rw[Y];exact cZ.nil _ _ _
   ·right;exact⟨X,Y⟩
  ·left;rw[aE X];exact N.drop _
 have g:=hid (I);have q:=hid (H);unfold maxLen at r;clear V M u z I H C J;generalize Tm.dn a k=P at*;generalize Yd:a.take k=Yf at*;generalize Ye:a.drop P=E at*;clear Yd Ye;have Yz:(k:Int)<=(c:Int):=by omega
 have YA:(P:Int)<=(a.length:Int):=by omega
 have YB:(a.length:Int)<=(c:Int):=by omega
 have YC:(a.length:Int)<=30:=by omega
 by_cases YE:c-P=0
 ·have A:E=[]:=bJ (by rw[q.out];omega)
  obtain⟨rfl,rfl⟩:a.length=c∧P=a.length:=by omega
  clear L;go_enter Tryz.func120,Tryz.ntmps120;go_wp2_with(first
   |(at_builtin;refine dB _ rfl (.tmp 7) (.tmp 10) rfl i.heap.size _ [] rfl Yc (some ⟨s,d,none⟩) Yf a.length (by rw[g.out];rfl) (fun p=>by cases p) ((S.out.below h).mono h.size) (by rw[g.out];simp;omega) h.size ?_;intro Yn Yq w m;have b:=h.trans m;clear m)
   |(at_builtin;refine dB _ rfl (.tmp 11) (.tmp 12) rfl i.heap.size _ _ rfl w B l _ rfl (fun p=>absurd p G.out) ((T.out.below b).mono b.size) (by rw[ai,g.out];simp;omega) b.size ?_;intro Yo Yr x n;have e:=b.trans n;clear n)
   |(go_at_call 122;refine(R.out _ e).mono ?_;rintro U Yt⟨rfl,j⟩;have y:=cU.below x j;have f:=e.trans (j.mono e.size);clear j)
   |(at_builtin;go_loud(refine dB _ rfl (.tmp 13) (.tmp 18) rfl i.heap.size _ _ rfl y (some ⟨s,d,none⟩) E 0 (by rw[A];rfl) (fun p=>by cases p) (by rw[A];exact cZ.nil _ _ _) (by rw[ai,ai,g.out,q.out];simp;omega) f.size ?_);intro Yp Yu o t))
  obtain⟨Yj,Yk,rfl,_⟩:=cU.ints o;go_ret;exact⟨_,rfl,o,f.trans t⟩
 ·have Yi:Hid (∀K F,cZ K F (some ⟨s,d,none⟩) a->cZ K F (some ⟨s,d+P,none⟩) E):=fun K F N=>by
   rcases L.out K F N 1 with p|p
   ·simpa using p
   ·exact absurd p.1 (by decide)
  clear L;go_enter Tryz.func120,Tryz.ntmps120;go_wp2_with(first
   |(at_builtin;refine dB _ rfl (.tmp 7) (.tmp 10) rfl i.heap.size _ [] rfl Yc (some ⟨s,d,none⟩) Yf c (by rw[g.out];rfl) (fun p=>by cases p) ((S.out.below h).mono h.size) (by rw[g.out];simp;omega) h.size ?_;intro Yn Yq w m;have b:=h.trans m;clear m)
   |(at_builtin;refine dB _ rfl (.tmp 11) (.tmp 12) rfl i.heap.size _ _ rfl w B l _ rfl (fun p=>absurd p G.out) ((T.out.below b).mono b.size) (by rw[ai,g.out];simp;omega) b.size ?_;intro Yo Yr x n;have e:=b.trans n;clear n)
   |(go_at_call 122;refine(R.out _ e).mono ?_;rintro U Yt⟨rfl,j⟩;have y:=cU.below x j;have f:=e.trans (j.mono e.size);clear j)
   |(at_builtin;go_loud(refine dB _ rfl (.tmp 13) (.tmp 18) rfl i.heap.size _ _ rfl y (some ⟨s,d+P,none⟩) E (c-P) (by rw[q.out];rfl) (fun p=>by cases p) (Yi.out _ _ ((Yh.out.below f).mono f.size)) (by rw[ai,ai,g.out,q.out];simp;omega) f.size ?_);intro Yp Yu o t))
  obtain⟨Yj,Yk,rfl,_⟩:=cU.ints o;go_ret;exact⟨_,rfl,o,f.trans t⟩
theorem Sn.both(a b:List Int):dN a++gD a b=gB [] (a++b) (a++b).length:=by
 obtain⟨g,f⟩:=Sn.BE b (db [] a);have d:=Sn.ud a [] g;have e:=Sn.ud b (db [] a) [];have c:=Sn.ud (a++b) [] [];rw[<-f]at d;rw[cW]at e c;rw[Sn.FG]at c;show gB [] a a.length++gB (db [] a) b b.length=_;rw[d,e,c,gF]
section
namespace Mt
open Wb(App jJ xE Sb jo qJ)
structure Bi(n:Nat)(S:Nat->Int)(K:Nat->List Nat)(Z:Nat->List Int):Prop where
 known:∀k,k<n-> -8<=S k∧S k<6
 room:∀k,k<n->(K k).length=Tm.room (S k)
 kids:∀k,k<n->∀i∈K k,i<n
 sign:∀k,k<n->Z k=S k::((K k).map Z).flatten
 vars:∀i j,i<n->j<n->S i<0->S i=S j->i=j
theorem KP(a:r∈J):r.length<=J.flatten.length:=by
 induction J with
 |nil=>simp at a
 |cons d J b=>
  rw[fO,ai];rcases dA.1 a with c|a
  ·subst c;omega
  ·have:=b a;omega
theorem Bi.KO(d:Bi h g o q)(c:a<h)(b:t∈o a):(q t).length<(q a).length:=by
 rw[d.sign a c,aI];have:=KP (RS (f:=q) b)
 omega
theorem FH{l:List (List Int)}(b:∀x∈l,Tm.run x 1=x.length):Tm.run l.flatten l.length=l.flatten.length:=
 rZ l fun c a=>by
  rw[an a];exact b _ (ee a)
theorem Bi.run(c:Bi a g o q):∀(m k:Nat),(q k).length<=m->k<a->Tm.run (q k) 1=(q k).length:=by
 intro m;induction m with
 |zero=>intro k i b;rw[c.sign k b,aI]at i;omega
 |succ m h=>
  intro k i b;have l:=c.sign k b;have e:Tm.run ((o k).map q).flatten ((o k).map q).length=((o k).map q).flatten.length:=FH fun n f=>by
   obtain⟨j,d,rfl⟩:=Rl.1 f;exact h j (by have:=c.KO b d;omega) (c.kids k b j d)
  rw[en,c.room k b]at e;rw[l,show(1:Nat)=0+1 from rfl,Tm.fT,cI,e,aI];omega
theorem Bi.app(d:Bi h g o q)(c:Sb)(b:a<h)(e:0<=g a):App c (q a)=g a::((o a).map fun f=>App c (q f)).flatten:=by
 rw[d.sign a b,jo,aE (by omega),qJ,RP];rfl
theorem Bi.var(d:Bi h g o q)(b:a<h)(c:g a<0):o a=[]∧q a=[g a]:=by
 have f:=d.room a b;rw[Wb.lV c]at f;have e:=bJ f;exact⟨e,by rw[d.sign a b,e];rfl⟩
theorem Bi.eq(f:Bi t g o q){j:Sb}(u:jJ j)(d:a<t)(e:h<t)(x:0<=g a)(y:0<=g h)(A:App j (q a)=App j (q h)):
 g a=g h∧∀i,i<Tm.room (g a)->App j (q ((o a)[i]?.getD 0))=App j (q ((o h)[i]?.getD 0)):=by
 rw[f.app j d x,f.app j e y]at A;obtain⟨m,n⟩:=RD A;have b:∀l,l<t->∀z∈(o l).map (fun B=>App j (q B)),Tm.run z 1=z.length:=fun l r z s=>by
  obtain⟨i,c,rfl⟩:=Rl.1 s;exact Wb.Ky u _ 1 (f.run _ i (af _) (f.kids l r i c))
 have p:=Wb.Ap _ _ (b a d) (b h e) (by rw[en,en,f.room a d,f.room h e,m]) n;refine⟨m,fun i c=>?_⟩;have k:=RG (fun C:List (List Int)=>C[i]?.getD []) p;simp only[ic]at k;have v:i<(o a).length:=by rw[f.room a d];exact c
 have w:i<(o h).length:=by rw[f.room h e,<-m];exact c
 rw[an v,an w]at k⊢;exact k
def nO(n:Nat)(Z:Nat->List Int)(C:Nat->Nat)(θ:Sb):Prop:=∀i j,i<n->j<n->C i=C j->App θ (Z i)=App θ (Z j)
def tied(C:Nat->Nat)(a b:Nat):Nat->Nat:=fun k=>if C k=C a then C b else C k
theorem Lm(a:Nat->Nat)(b c:Nat):tied a b c b=tied a b c c:=by
 unfold tied;rw[aD rfl];by_cases d:a c=a b
 ·rw[aD d]
 ·rw[aE d]
theorem zW(b c:Nat)(d:e a=e h):tied e b c a=tied e b c h:=by unfold tied;rw[d]
theorem nO.tie{n:Sb}(k:nO t q e n)(f:a<t)(m:h<t)(o:App n (q a)=App n (q h)):nO t q (tied e a h) n:=fun i l g j c=>by
 unfold tied at c;by_cases d:e i=e a
 ·rw[aD d]at c
  by_cases b:e l=e a
  ·rw[k i a g f d,k l a j f b]
  ·rw[aE b]at c
   rw[k i a g f d,o,k h l m j c]
 ·rw[aE d]at c
  by_cases b:e l=e a
  ·rw[aD b]at c
   rw[k i h g m c,<-o,k l a j f b]
  ·rw[aE b]at c
   exact k i l g j c
def cls(n:Nat)(C:Nat->Nat):Nat:=((List.range n).filter fun c=>(List.range n).any fun k=>C k==c).length
theorem qF:((List.range a).any fun k=>e k==h)=true↔∃k,k<a∧e k=h:=by simp
theorem OV(j:∀k,k<h->e k<h)(d:a<h)(l:t<h)(g:e a≠e t):cls h (tied e a t)<cls h e:=by
 refine Wb.filter_lt _ _ _ (fun m _ i=>?_) (e a) (Rd.2 (j a d)) ?_ (qF.2 ⟨a,d,rfl⟩)
 ·obtain⟨k,f,c⟩:=qF.1 i
  unfold tied at c;by_cases b:e k=e a
  ·rw[aD b]at c;exact qF.2 ⟨t,l,c⟩
  ·rw[aE b]at c;exact qF.2 ⟨k,f,c⟩
 ·rw[kE]
  intro i;obtain⟨k,f,c⟩:=qF.1 i;unfold tied at c;by_cases b:e k=e a
  ·rw[aD b]at c;exact g c.symm
  ·rw[aE b]at c;exact b c
theorem KC(b:∀k,k<a->e k<a)(c:h<a):∀k,k<a->tied e t h k<a:=fun k d=>by
 unfold tied;split
 ·exact b h c
 ·exact b k d
def Shut(S:Nat->Int)(K:Nat->List Nat)(C:Nat->Nat)(a b:Nat):Prop:=C a=C b->0<=S a->0<=S b->S a=S b∧∀i,i<Tm.room (S a)->C ((K a)[i]?.getD 0)=C ((K b)[i]?.getD 0)
def sym(n:Nat)(S:Nat->Int)(C:Nat->Nat)(c:Nat):Option Nat:=(List.range n).find? fun k=>decide (C k=c)&&decide (0<=S k)
theorem qH(d:sym h g e t=some a):a<h∧e a=t∧0<=g a:=by
 have b:=vJ d;have c:=oj d;simp only[dW,dJ]at b;exact⟨Rd.1 c,b.1,b.2⟩
theorem BC(f:sym a g e h=none):∀k,k<a->e k=h->g k<0:=fun k c d=>by
 have b:=kn.1 f k (Rd.2 c);simp only[dW,dJ,not_and]at b;have:=b d
 omega
def rnd(n:Nat)(S:Nat->Int)(K:Nat->List Nat)(C:Nat->Nat):Nat->Nat->Bool
 |0,_=>true
 |f+1,c=>match sym n S C c with
  |none=>false
  |some k=>(K k).any fun i=>rnd n S K C f (C i)
theorem FR{K:Nat->List Nat}{f:Nat}(b:sym a g e h=none):rnd a g K e (f+1) h=false:=by rw[rnd,b]
theorem By{K:Nat->List Nat}{f:Nat}(b:sym a g e h=some t):rnd a g K e (f+1) h=(K t).any fun c=>rnd a g K e f (e c):=by rw[rnd,b]
def bst(S:Nat->Int)(C:Nat->Nat)(c:Nat):Nat->Int
 |0=> -9
 |m+1=>if C m=c∧bst S C c m<S m then S m else bst S C c m
theorem M0{S:Nat->Int}{C:Nat->Nat}:∀(m k:Nat),k<m->C k=a->S k<=bst S C a m:=by
 intro m;induction m with
 |zero=>intro k d;omega
 |succ m c=>
  intro k g e;rw[bst];by_cases d:C m=a∧bst S C a m<S m
  ·rw[aD d]
   by_cases b:k=m
   ·subst b;exact Int.le_refl _
   ·have:=c k (by omega) e;omega
  ·rw[aE d]
   by_cases b:k=m
   ·subst b
    have:¬bst S C a k<S k:=fun f=>d ⟨e,f⟩
    omega
   ·exact c k (by omega) e
theorem P9{S:Nat->Int}{C:Nat->Nat}{c:Nat}:∀(m:Nat),bst S C c m= -9∨∃k,k<m∧C k=c∧bst S C c m=S k:=by
 intro m;induction m with
 |zero=>exact .inl rfl
 |succ m e=>
  rw[bst];by_cases a:C m=c∧bst S C c m<S m
  ·rw[aD a];exact .inr ⟨m,by omega,a.1,rfl⟩
  ·rw[aE a]
   rcases e with f|⟨k,g,b,d⟩
   ·exact .inl f
   ·exact .inr ⟨k,by omega,b,d⟩
theorem Bi.Qb{S:Nat->Int}(d:Bi a S o q){C:Nat->Nat}(b:h<a):∃j,j<a∧C j=C h∧bst S C (C h) a=S j:=by
 rcases P9 (S:=S) (C:=C) (c:=C h) a with f|e
 ·have:=M0 (S:=S) (C:=C) a h b rfl
  have:=(d.known h b).1
  omega
 ·exact e
def uJ(n:Nat)(S:Nat->Int)(K:Nat->List Nat)(C:Nat->Nat):Nat->Nat->List Int
 |0,_=>[]
 |f+1,c=>match sym n S C c with
  |none=>[bst S C c n]
  |some k=>S k::((K k).map fun i=>uJ n S K C f (C i)).flatten
theorem qI(b:sym a g e h=none):uJ a g o e (t+1) h=[bst g e h a]:=by rw[uJ,b]
theorem px(b:sym a g e I=some h):uJ a g o e (t+1) I=g h::((o h).map fun c=>uJ a g o e t (e c)).flatten:=by rw[uJ,b]
theorem xk{K:Nat->List Nat}{k:Nat}(d:sym a g e t=some k)(b:rnd a g K e (h+1) t=false):∀i∈K k,rnd a g K e h (e i)=false:=fun i c=>by
 rw[By d]at b;have:=kD.1 b i c
 simpa using this
theorem MO:∀(f c:Nat),rnd a g o e f c=false->uJ a g o e (f+1) c=uJ a g o e f c:=by
 intro f;induction f with
 |zero=>intro c d;simp[rnd]at d
 |succ f i=>
  intro c d;cases b:sym a g e c with
  |none=>rw[qI b,qI b]
  |some k=>
   rw[px b,px b];congr 2;refine gm fun j h=>?_
   exact i _ (xk b d j h)
theorem OM(j:Bi a g o q){C:Nat->Nat}:∀(f k:Nat),k<a->rnd a g o C f (C k)=false->Tm.run (uJ a g o C f (C k)) 1=(uJ a g o C f (C k)).length:=by
 intro f;induction f with
 |zero=>intro k _ n;simp[rnd]at n
 |succ f t=>
  intro k r n;cases b:sym a g C (C k)with
  |none=>
   rw[qI b];obtain⟨v,p,c,m⟩:=j.Qb (C:=C) r;have:=BC b v p c
   rw[show(1:Nat)=0+1 from rfl,Tm.fT,Wb.lV (by omega),Tm.gu];rfl
  |some u=>
   obtain⟨e,c,m⟩:=qH b;rw[px b];have h:=FH (l:=(o u).map fun i=>uJ a g o C f (C i)) fun w s=>by
    obtain⟨i,d,rfl⟩:=Rl.1 s;exact t i (j.kids u e i d) (xk b n i d)
   rw[en,j.room u e]at h;rw[show(1:Nat)=0+1 from rfl,Tm.fT,cI,h,aI];omega
theorem MV{n:Nat}{K:Nat->List Nat}(h:Bi n g K q){C:Nat->Nat}:∀(f k:Nat),k<n->∀s∈uJ n g K C f (C k),-8<=s∧s<6:=by
 intro f;induction f with
 |zero=>intro k _ s a;simp[uJ]at a
 |succ f p=>
  intro k m s a;cases b:sym n g C (C k)with
  |none=>
   rw[qI b]at a;obtain⟨v,l,i,c⟩:=h.Qb (C:=C) m;simp only[dA,Rn,RL]at a;rw[a,c];exact h.known v l
  |some t=>
   obtain⟨d,i,c⟩:=qH b;rw[px b]at a;rcases dA.1 a with u|a
   ·rw[u];exact h.known t d
   ·obtain⟨w,o,e⟩:=mF.1 a
    obtain⟨r,j,rfl⟩:=Rl.1 o;exact p r (h.kids t d r j) s e
theorem MF(l:Bi a g o q){C:Nat->Nat}{n:Sb}(t:nO a q C n):∀(f k:Nat),k<a->rnd a g o C f (C k)=false->App n (q k)=App n (uJ a g o C f (C k)):=by
 intro f;induction f with
 |zero=>intro k _ p;simp[rnd]at p
 |succ f s=>
  intro k h p;cases b:sym a g C (C k)with
  |none=>
   obtain⟨u,e,c,d⟩:=l.Qb (C:=C) h;have:=BC b u e c
   rw[qI b,d,t k u h e c.symm,(l.var e this).2]
  |some m=>
   obtain⟨i,c,d⟩:=qH b;rw[px b,t k m h i c.symm,l.app n i d,jo,aE (by omega),qJ,RP];show g m::_=g m::_;congr 2;refine gm fun r j=>?_
   exact s r (l.kids m i r j) (xk b p r j)
theorem P8(F:Bi a g o q)(D:∀k,k<a->e k<a){t:Sb}(G:nO a q e t){k:Nat}(l:k<a):rnd a g o e (a+1) (e k)=false:=by
 let i:Nat->Nat:=fun z=>match(List.range a).find? fun d=>decide (e d=z)with
  |some d=>(App t (q d)).length
  |none=>0
 have m:∀d,d<a->i (e d)=(App t (q d)).length:=fun d v=>by
  show(match(List.range a).find? fun b=>decide (e b=e d)with
   |some d=>(App t (q d)).length
   |none=>0)=_
  cases p:(List.range a).find? fun b=>decide (e b=e d)with
  |none=>exact absurd (kn.1 p d (Rd.2 v)) (by simp)
  |some b=>
   have j:=vJ p;have n:=Rd.1 (oj p);simp only[dJ]at j;show(App t (q b)).length=_;rw[G b d n v j]
 let y:Nat->Nat:=fun z=>((List.range a).filter fun A=>((List.range a).any fun k=>e k==A)&&decide (i A<i z)).length
 have w:∀f k,k<a->rnd a g o e f (e k)=true->f<=y (e k):=by
  intro f;induction f with
  |zero=>intro k _ _;omega
  |succ f E=>
   intro k l h;cases s:sym a g e (e k)with
   |none=>rw[FR s]at h;cases h
   |some H=>
    obtain⟨r,B,C⟩:=qH s;rw[By s]at h;obtain⟨b,u,h⟩:=Rs.1 h;have c:=F.kids H r b u;have j:=E b c h;have x:i (e b)<i (e k):=by
     rw[m b c,m k l,G k H l r B.symm,F.app t r C,aI];have:=KP (RS (f:=fun b=>App t (q b)) u)
     omega
    have n:y (e b)<y (e k):=by
     refine Wb.filter_lt _ _ _ (fun A _ h=>?_) (e b) (Rd.2 (D b c)) ?_ ?_
     ·simp only[dW,dJ]at h⊢
      exact⟨h.1,by omega⟩
     ·simp
     ·simp only[dW,dJ]
      exact⟨qF.2 ⟨b,c,rfl⟩,x⟩
    omega
 rw[kE];intro h;have j:=w _ k l h;have n:y (e k)<=a:=by
  refine aK (ki _ _) ?_;simp
 omega
def sig(n:Nat)(S:Nat->Int)(K:Nat->List Nat)(C:Nat->Nat):Sb:=fun v=>match(List.range n).find? fun k=>decide (S k=v)with
 |some k=>uJ n S K C (n+1) (C k)
 |none=>[v]
theorem IY(j:Bi h g o q)(e:Nat->Nat)(d:a<h)(k:g a<0):sig h g o e (g a)=uJ h g o e (h+1) (e a):=by
 unfold sig;cases b:(List.range h).find? fun i=>decide (g i=g a)with
 |none=>exact absurd (kn.1 b a (Rd.2 d)) (by simp)
 |some i=>
  have c:=vJ b;have f:=Rd.1 (oj b);simp only[dJ]at c;have:=j.vars i a f d (by omega) c
  subst this;rfl
theorem PT(c:∀k,k<a->g k≠u):sig a g o e u=[u]:=by
 unfold sig;rw[kn.2 fun k b=>by simpa using c k (Rd.1 b)]
theorem BM{K:Nat->List Nat}(i:Bi a g K q)(d:Nat->Nat)(c:Int)(f:c<0):(∃k,k<a∧g k=c∧sig a g K d c=uJ a g K d (a+1) (d k))∨((∀k,k<a->g k≠c)∧sig a g K d c=[c]):=by
 by_cases h:∃k,k<a∧g k=c
 ·obtain⟨k,b,rfl⟩:=h
  exact .inl ⟨k,b,rfl,IY i d b f⟩
 ·have e:∀k,k<a->g k≠c:=fun k b j=>h ⟨k,b,j⟩
  exact .inr ⟨e,PT e⟩
theorem KW(c:Bi a g o q)(v:∀y z,y<a->z<a->Shut g o e y z)(w:∀k,k<a->rnd a g o e (a+1) (e k)=false):∀(m k:Nat),(q k).length<=m->k<a->App (sig a g o e) (q k)=uJ a g o e (a+1) (e k):=by
 intro m;induction m with
 |zero=>intro k A b;rw[c.sign k b,aI]at A;omega
 |succ m x=>
  intro k A b;by_cases f:g k<0
  ·rw[(c.var b f).2,jo,aD f,IY c e b f,Wb.sQ,cW]
  ·cases h:sym a g e (e k)with
   |none=>exact absurd (BC h k b rfl) f
   |some B=>
    obtain⟨r,s,t⟩:=qH h;obtain⟨n,u⟩:=v k B b r s.symm (by omega) t;rw[px h,c.app _ b (by omega),n];congr 2;refine iA (by rw[en,en,c.room k b,c.room B r,n]) fun C d l=>?_
    rw[en]at d l;rw[kZ,kZ];have i:=ee d;have p:=ee l;rw[x _ (by have:=c.KO b i;omega) (c.kids k b _ i)];have j:=u C (by rw[<-c.room k b];exact d);rw[an d,an l]at j;simp only[dy]at j;rw[j];exact MO a _ (xk h (w k b) _ p)
theorem OT{S:Nat->Int}{K:Nat->List Nat}(h:Bi a S K q){C:Nat->Nat}(t:∀m n,m<a->n<a->Shut S K C m n)(i:∀k,k<a->rnd a S K C (a+1) (C k)=false)
 (g:∀v,jJ v->xE w w.length v->nO a q C v)(l:∀j,j<w.length->∃m n,m<a∧n<a∧q m=(w[j]?.getD ([],[])).1∧q n=(w[j]?.getD ([],[])).2∧C m=C n):Wb.Lr w (sig a S K C):=by
 refine⟨fun B e=>?_,fun u s d B e=>?_,fun j z=>?_,fun v A D u s d=>?_,fun u H s d c F=>?_⟩
 ·rcases BM (K:=K) h C B e with⟨k,b,rfl,c⟩|⟨_,c⟩
  ·rw[c];exact OM h _ k b (i k b)
  ·rw[c,show(1:Nat)=0+1 from rfl,Tm.fT,Wb.lV e,Tm.gu];rfl
 ·rcases BM (K:=K) h C u d with⟨k,b,rfl,c⟩|⟨_,c⟩
  ·rw[c]at e;exact MV h _ k b B e
  ·rw[c]at e
   simp only[dA,Rn,RL]at e;omega
 ·obtain⟨m,n,x,y,p,f,r⟩:=l j z
  rw[<-p,<-f,KW h t i _ m (af _) x,KW h t i _ n (af _) y,r]
 ·rcases BM (K:=K) h C u d with⟨k,b,rfl,c⟩|⟨_,c⟩
  ·rw[c,<-MF h (g v A D) _ k b (i k b),(h.var b d).2,jo,aD d,Wb.sQ,cW]
  ·rw[c,jo,aD d,Wb.sQ,cW]
 ·rcases BM (K:=K) h C u d with⟨k,b,rfl,f⟩|⟨_,f⟩
  ·rw[f]at c
   cases o:sym a S C (C k)with
   |none=>
    rw[qI o]at c;have:=M0 (S:=S) (C:=C) a k b rfl
    simp only[Rk,oH]at c;omega
   |some G=>
    obtain⟨E,p,r⟩:=qH o;rw[px o]at c;have:=(RD c).1
    omega
  ·rw[f]at c
   simp only[Rk,oH]at c;omega
end Mt
end
def Q0(n:Nat)(N:Nat->Nat)(S:Nat->Int)(p j:Nat):Prop:=j<n∧(S j<0->∀k,k<j->S k≠S j)∧(0<=S j->N j=p∧∀k,k<j->N k≠p)
structure qT(W:World)(x n:Nat)(aN:Option Addr)(cN:Nat)(aC:Option Addr)(cC:Nat)(N:Nat->Nat)(C:Nat->Nat)(S:Nat->Int)(K:Nat->List Nat)(P:Nat->Nat->Nat):Prop where
 c0:W.cell? ⟨x,0,none⟩=some (.slice aN n cN)
 c1:W.cell? ⟨x,1,none⟩=some (.slice aC n cC)
 nd:∀k,k<n->∃b off,aN=some ⟨b,off,none⟩∧W.cell? ⟨b,off+k,none⟩=some (lh (N k))
 cl:∀k,k<n->∃b off,aC=some ⟨b,off,none⟩∧W.cell? ⟨b,off+k,none⟩=some (.int .i64 (C k:Int))
 tr:∀k,k<n->∃a c,Node W (N k) (S k) (.slice a (Tm.room (S k)) c)∧∀i,i<Tm.room (S k)->∃b off,a=some ⟨b,off,none⟩∧W.cell? ⟨b,off+i,none⟩=some (lh (P k i))
 ps:∀k i,k<n->i<Tm.room (S k)->∃v,Node W (P k i) (S ((K k)[i]?.getD 0)) v
 fd:∀k i,k<n->i<Tm.room (S k)->Q0 n N S (P k i) ((K k)[i]?.getD 0)
 le:n<=5000
theorem qT.drewN(b:qT F a h E t L I e P g o M)(c:Nat):qT (F.drewN c) a h E t L I e P g o M:=
 ⟨b.c0,b.c1,b.nd,b.cl,b.tr,b.ps,b.fd,b.le⟩
theorem Tryz.infoTree:∃j,Tryz.prog.info? 119=some j∧j.size≠0:=by
 have b:(Tryz.prog.info? 119).map (fun c=>c.size)=some 2:=by kernel_rfl
 cases a:Tryz.prog.info? 119 with
 |none=>rw[a]at b;cases b
 |some j=>
  rw[a]at b;simp only[rv,dx]at b;exact⟨j,rfl,by omega⟩
theorem EI{x j:Nat}{N:Nat->Nat}{S:Nat->Int}(i:World)(L d:Nat)(W:i.cell? ⟨x,0,none⟩=some (.slice E j h))(p:∀k,k<j->∃b e,E=some ⟨b,e,none⟩∧i.cell? ⟨b,e+k,none⟩=some (lh (N k)))(r:∀k,k<j->∃v,Node i (N k) (S k) v)(Yf:j<=5000)
 {vp:Value}(g:Node i L (S d) vp)(Yd:Q0 j N S L d):
 Calls Tryz.prog 185 #[lh x,lh L] i fun Q U=>Q=.returned (.int .i64 (d:Int))∧∃m,U=i.drewN m:=by
 obtain⟨Ye,t,u⟩:=Yd;obtain⟨Yi,s,K⟩:=Tryz.infoTree;have X:(j:Int)<=5000:=by omega
 have l:=hid p;have Yg:=g.cell0;have H:=hid g;clear g;have n:=hid r;clear p r;by_cases z:S d<0
 ·have B:=hid (t z)
  clear t u;have O:Hid (S d=S d):=rfl;generalize q:S d=Yc at*;have M:=hid q;clear q O;go_enter Tryz.func185,Tryz.ntmps185;go_wp2;go_loopw [5](fun A wr=>∃k:Nat,k<=d∧A=.int .i64 (k:Int)∧∃w,wr=i.drewN w)(fun A _=>d-(intOf A).toNat)
  case atStart=>exact⟨0,bf _,rfl,0,rfl⟩
  case round=>
   obtain⟨k,R,rfl,w,rfl⟩:=hrel;have I:(k:Int)<(j:Int):=by omega
   obtain⟨b,e,rfl,o⟩:=l.out k (by omega);obtain⟨T,c⟩:=n.out k (by omega);have J:=c.cell0;clear c;by_cases f:k<d
   ·have Y:(S k==Yc)=false:=by simpa using B.out k f
    generalize S k=Yh at*;go_wp2;go_quiet(fail)
    go_wp2;go_roundw
    case rel=>exact⟨k+1,by omega,by go_num,_,rfl⟩
    case measure=>simp[intOf];omega
   ·obtain rfl:k=d:=by omega
    rw[M.out]at J;go_wp2;go_quiet(fail)
    go_wp2;go_ret;exact⟨rfl,_,qd _ _ _⟩
 ·obtain⟨C,F⟩:=u (by omega)
  have G:=hid F;have D:=hid C;have Z:decide (S d<0)=false:=by simpa using z
  clear t u C F z;generalize S d=Yc at*;have V:(0:Int)<(j:Int):=by omega
  go_enter Tryz.func185,Tryz.ntmps185;go_wp2;refine ft 1 ?_;rw[eK];go_wp2;go_loopw [6](fun A wr=>∃k:Nat,k<=d∧A=.int .i64 (k:Int)∧∃w,wr=i.drewN w)(fun A _=>d-(intOf A).toNat)
  case atStart=>exact⟨0,bf _,rfl,0,rfl⟩
  case round=>
   obtain⟨k,R,rfl,w,rfl⟩:=hrel;have I:(k:Int)<(j:Int):=by omega
   obtain⟨b,e,rfl,o⟩:=l.out k (by omega);by_cases f:k<d
   ·obtain⟨T,c⟩:=n.out k (by omega)
    have y:=tx (P:=Tryz.prog) (i.drewN w) (a:=⟨N k,0,none⟩) (b:=⟨L,0,none⟩) Tryz.underlying92 s K (fun Q=>G.out k f (by cases Q;rfl)) c H.out;clear c;generalize N k=Yj at*;go_wp2;go_roundw
    case rel=>exact⟨k+1,by omega,by go_num,_,rfl⟩
    case measure=>simp[intOf];omega
   ·obtain rfl:k=d:=by omega
    rw[D.out]at o;have y:=run_eql_ptr_same (P:=Tryz.prog) (i.drewN w) ⟨L,0,none⟩ Tryz.underlying92 s;go_wp2;go_ret;exact⟨rfl,_,rfl⟩
namespace Mt
theorem PR{S:Nat->Int}{C:Nat->Nat}{c:Nat}(g:a<h)(b:C a=c)(d:0<=S a)(k:∀j,j<a->¬(C j=c∧0<=S j)):sym h S C c=some a:=by
 unfold sym;rw[List.find?_range_eq_some];refine⟨by simp[b,d],Rd.2 g,fun j f=>?_⟩;have:=k j f
 simp only[Bool.not_eq_true',Bool.and_eq_false_iff,kB];by_cases i:C j=c
 ·exact .inr fun e=>this ⟨i,e⟩
 ·exact .inl i
theorem OU{n:Nat}{S:Nat->Int}{C:Nat->Nat}{c:Nat}(b:∀j,j<n->¬(C j=c∧0<=S j)):sym n S C c=none:=by
 unfold sym;rw[kn];intro j a;have:=b j (Rd.1 a)
 simpa using this
def yM(n:Nat)(S:Nat->Int)(C:Nat->Nat)(c:Nat):Int:=match sym n S C c with
 |some k=>(k:Int)
 |none=> -1
end Mt
theorem yB{n:Nat}{C:Nat->Nat}{S:Nat->Int}(z:World)(s:qT z a n E h L t e C S o M)(c:Nat):
 Calls Tryz.prog 205 #[lh a,.int .i64 (c:Int)] z fun v J=>v=.returned (.int .i64 (Mt.yM n S C c))∧∃m,J=z.drewN m:=by
 have Ye:=s.le;have T:(n:Int)<=5000:=by omega
 have N:=s.c0;have O:=s.c1;have q:=hid s;clear s;have D:=hid (fun b(x:b<n)F G k=>(by unfold Mt.yM;rw[Mt.PR (S:=S) (C:=C) (c:=c) x F G k]:Mt.yM n S C c=(b:Int)));have B:=hid (fun k=>(by unfold Mt.yM;rw[Mt.OU (n:=n) (S:=S) (C:=C) (c:=c) k]:Mt.yM n S C c= -1));generalize Mt.yM n S C c=Yi at*;go_enter Tryz.func205,Tryz.ntmps205;go_wp2;go_loopw [5](fun H wr=>∃b:Nat,b<=n∧H=.int .i64 (b:Int)∧Hid (∀d,d<b->¬(C d=c∧0<=S d))∧∃K,wr=z.drewN K)(fun H _=>n-(intOf H).toNat)
 case atStart=>exact⟨0,bf _,rfl,fun d w=>by omega,0,rfl⟩
 case round=>
  obtain⟨b,x,rfl,i,K,rfl⟩:=hrel;by_cases g:b<n
  ·have R:(b:Int)<(n:Int):=by omega
   obtain⟨Yh,Y,rfl,P⟩:=q.out.cl b g;by_cases j:C b=c
   ·obtain⟨Yc,I,rfl,V⟩:=q.out.nd b g
    obtain⟨Z,Yd,p,_⟩:=q.out.tr b g;have X:=p.cell0;clear p;have A:=hid j;have Q:((C b:Int)==(c:Int))=true:=by rw[j];simp
    clear j;by_cases l:0<=S b
    ·have y:=D.out b g A.out l i.out
     have r:=hid y;clear y;generalize S b=Yg at*;generalize C b=u at*;generalize e b=Yf at*;go_wp2;go_ret;exact⟨by rw[r.out];rfl,_,rfl⟩
    ·have W:decide (0<=S b)=false:=by simpa using l
     have f:Hid (∀d,d<b+1->¬(C d=c∧0<=S d)):=fun d w k=>by
      by_cases v:d=b
      ·subst v;exact l k.2
      ·exact i.out d (by omega) k
     clear l;generalize S b=Yg at*;generalize C b=u at*;generalize e b=Yf at*;go_wp2;go_roundw
     case rel=>exact⟨b+1,by omega,by go_num,f,_,rfl⟩
     case measure=>simp[intOf];omega
   ·have U:((C b:Int)==(c:Int))=false:=by simp;omega
    have f:Hid (∀d,d<b+1->¬(C d=c∧0<=S d)):=fun d w k=>by
     by_cases v:d=b
     ·subst v;exact j k.1
     ·exact i.out d (by omega) k
    clear j;generalize C b=u at*;go_wp2;go_roundw
    case rel=>exact⟨b+1,by omega,by go_num,f,_,rfl⟩
    case measure=>simp[intOf];omega
  ·obtain rfl:b=n:=by omega
   have r:=hid (B.out i.out);go_wp2;go_ret;exact⟨by rw[r.out];rfl,_,rfl⟩
