/-
  Parts of the proof.
-/
import Derived.Test.YtglohanbpjaieaaGreatDoorBdp0
import Derived.Test.YtglohanbpjaieaaGreatDoorProg
import Derived.WalkSpells
import Derived.Shelf.RegionOpen
import Derived.LoopNIn
import Derived.LoopIn
import Derived.Lib.AppendZeros
import Derived.Deep.RegionWith
import Derived.Deep.DeepCutAuto
set_option maxHeartbeats 2000000
set_option maxRecDepth 100000
namespace Go.Proofs.YtglohanbpjaieaaGreatDoor.Tm
variable {A:Fence}{B:Addr}{C P:List Value}{D:Oper}{E:Act}{F:Obj}{G:Prop}{H:IntKind}{J K:Bool}{M:Array Oper}{N:Exit->Act->World->Prop}{O:Array Value}{Q:Nat×Nat}{b s y:Nat}{d t:List Int}{e q L:World}{g z:Value}{h I:Int}{i:List (List Int)}{r:Option Addr}{u:TypeId}
def room(s:Int):Nat:=if s=2∨s=3 then 1 else if s=4∨s=5 then 2 else 0
theorem room_le(a:Int):room a<=2:=by unfold room;split<;>(try split)<;>omega
def run:List Int->Nat->Nat
 |_,0=>0
 |[],n+1=>n+1
 |s::l,n+1=>1+run l (n+room s)
theorem gu(a:List Int):run a 0=0:=by cases a<;>simp[run]
theorem oM(a:Nat):run [] a=a:=by cases a<;>simp[run]
theorem fT(c:Int)(a:List Int)(b:Nat):run (c::a) (b+1)=1+run a (b+room c):=by simp[run]
theorem rF(c:List Int):∀(a b:Nat),run c (a+b)=run c a+run (c.drop (run c a)) b:=by
 induction c with
 |nil=>intro a b;simp[oM]
 |cons d c e=>
  intro a b;cases a with
  |zero=>simp[gu]
  |succ a=>
   rw[show a+1+b=(a+b)+1 from by omega,fT,fT,show a+b+room d=(a+room d)+b from by omega,e,
    show 1+run c (a+room d)=run c (a+room d)+1 from by omega,List.drop_succ_cons]
   omega
theorem Ef(b:List Int):∀(n:Nat),n<=run b n:=by
 induction b with
 |nil=>intro n;simp[oM]
 |cons c b a=>
  intro n;cases n with
  |zero=>simp
  |succ n=>rw[fT];have:=a (n+room c);omega
theorem PU(a:List Int):∀(n:Nat),run a n<=2*a.length+n:=by
 induction a with
 |nil=>intro n;simp[oM]
 |cons c a b=>
  intro n;cases n with
  |zero=>simp[gu]
  |succ n=>rw[fT];have:=b (n+room c);have:=room_le c;simp only[aI];omega
def dn(t:List Int)(k:Nat):Nat:=k+run (t.drop k) 1
theorem im(b:List Int)(a:Nat):a<dn b a:=by unfold dn;have:=Ef (b.drop a) 1;omega
theorem tY(b:List Int)(a:Nat)(c:b.length<=a):dn b a=a+1:=by
 unfold dn;rw[jX c,oM]
def pos(t:List Int)(k i:Nat):Nat:=k+1+run (t.drop (k+1)) i
theorem iI(b:List Int)(a:Nat):pos b a 0=a+1:=by simp[pos,gu]
theorem jL(a:List Int)(c b:Nat):pos a c (b+1)=dn a (pos a c b):=by
 unfold pos dn;rw[rF,kt];omega
theorem om(c:List Int)(a b:Nat):a<pos c a b:=by unfold pos;omega
theorem MN(c:List Int)(a b:Nat):pos c a b<=a+1+(2*(c.length-(a+1))+b):=by
 unfold pos;have:=PU (c.drop (a+1)) b;rw[cH]at this;omega
theorem ub(b:List Int)(a:Nat)(c:a<b.length):dn b a=pos b a (room (b[a]?.getD 0)):=by
 unfold dn pos;rw[bZ c,show(1:Nat)=0+1 from rfl,fT];simp[c];omega
def parts(t:List Int)(k n:Nat):List (Nat×Nat):=(List.range n).map fun i=>(pos t k i,pos t k (i+1))
theorem BL(c:List Int)(a b:Nat):parts c a (b+1)=parts c a b++[(pos c a b,pos c a (b+1))]:=by simp[parts,List.range_succ]
theorem Ej(c:List Int)(b a:Nat):(parts c b a).length=a:=by simp[parts]
def yQ(k:Nat)(pre:List (Nat×Nat)):Nat:=(pre.getLast?.map Prod.snd).getD (k+1)
theorem yS(c:Nat)(a:List (Nat×Nat))(b:Nat×Nat):yQ c (a++[b])=b.2:=by simp[yQ]
theorem Dc(c:List Int)(b a:Nat):yQ b (parts c b a)=pos c b a:=by
 cases a with
 |zero=>simp[parts,yQ,iI]
 |succ a=>rw[BL,yS]
def known(s:Int):Bool:=decide (-8<=s)&&decide (s<6)
def err(t:List Int):Int:=if 30<t.length then 2 else if t.all known=false then 3 else if run t 1=t.length then 0 else 1
end Go.Proofs.YtglohanbpjaieaaGreatDoor.Tm
namespace Go.Proofs.YtglohanbpjaieaaGreatDoor
open Go.Proofs Go.RowKit
variable {A:Fence}{B:Addr}{C P:List Value}{D:Oper}{E:Act}{F:Obj}{G:Prop}{H:IntKind}{J K:Bool}{M:Array Oper}{N:Exit->Act->World->Prop}{O:Array Value}{Q:Nat×Nat}{b s y:Nat}{d t:List Int}{e q L:World}{g z:Value}{h I:Int}{i:List (List Int)}{r:Option Addr}{u:TypeId}
theorem hid(a:G):Hid G:=a
theorem rQ(a:h=I):Ending.returned (.int H h)=.returned (.int H I):=by rw[a]
theorem kM(a:J=K):Ending.returned (.bool J)=.returned (.bool K):=by rw[a]
theorem Ge(a:Int)(h:World):Calls Tryz.prog 192 #[.int .i64 a] h fun f g=>f=.returned (.int .i64 (Tm.room a:Int))∧g=h:=by
 by_cases b:a=2
 ·subst b;go_enter Tryz.func192,Tryz.ntmps192;go_wp2;go_ret;exact⟨rfl,rfl⟩
 by_cases c:a=3
 ·subst c;go_enter Tryz.func192,Tryz.ntmps192;go_wp2;go_ret;exact⟨rfl,rfl⟩
 by_cases d:a=4
 ·subst d;go_enter Tryz.func192,Tryz.ntmps192;go_wp2;go_ret;exact⟨rfl,rfl⟩
 by_cases e:a=5
 ·subst e;go_enter Tryz.func192,Tryz.ntmps192;go_wp2;go_ret;exact⟨rfl,rfl⟩
 have f:Tm.room a=0:=by simp[Tm.room,b,c,d,e]
 have i:(a==2)=false:=by simp[b]
 have j:(a==3)=false:=by simp[c]
 have k:(a==4)=false:=by simp[d]
 have l:(a==5)=false:=by simp[e]
 clear b c d e;rw[f];clear f;go_enter Tryz.func192,Tryz.ntmps192;go_wp2;go_ret;exact⟨rfl,rfl⟩
theorem DV(c:Int)(f:World):Calls Tryz.prog 147 #[.int .i64 c] f fun g d=>g=.returned (.bool (Tm.known c))∧d=f:=by
 by_cases a: -8<=c
 ·by_cases b:c<6
  ·go_enter Tryz.func147,Tryz.ntmps147;go_wp2;go_ret;exact⟨kM (by simp[Tm.known,a,b]),rfl⟩
  ·go_enter Tryz.func147,Tryz.ntmps147;go_wp2;go_ret;exact⟨kM (by simp[Tm.known,a,b]),rfl⟩
 ·have e:decide (-8<=c)=false:=by simpa using a
  go_enter Tryz.func147,Tryz.ntmps147;go_wp2;go_ret;exact⟨kM (by simp[Tm.known];omega),rfl⟩
theorem y9(b:Int)(d:World)(g:b<6):Calls Tryz.prog 116 #[.int .i64 b] d fun a c=>a=.returned (.int .i64 (Tm.room b:Int))∧c=d:=by
 by_cases e:b<2
 ·have a:Tm.room b=0:=by unfold Tm.room;rw[aE (by omega),aE (by omega)]
  rw[a];clear a;go_enter Tryz.func116,Tryz.ntmps116;go_wp2;go_ret;exact⟨rfl,rfl⟩
 by_cases f:b<4
 ·have a:Tm.room b=1:=by unfold Tm.room;rw[aD (by omega)]
  rw[a];clear a;go_enter Tryz.func116,Tryz.ntmps116;go_wp2;go_ret;exact⟨rfl,rfl⟩
 ·have a:Tm.room b=2:=by unfold Tm.room;rw[aE (by omega),aD (by omega)]
  rw[a];clear a;go_enter Tryz.func116,Tryz.ntmps116;go_wp2;go_ret;exact⟨rfl,rfl⟩
def kq(n low high:Int):Bool:=decide (low<=n)&&decide (n<=high)
theorem td(c b a:Int):kq c b a=true↔b<=c∧c<=a:=by simp[kq]
theorem Ch(e b a:Int)(h:World):Calls Tryz.prog 118 #[.int .i64 e,.int .i64 b,.int .i64 a] h fun i f=>i=.returned (.bool (kq e b a))∧f=h:=by
 by_cases c:b<=e
 ·by_cases d:e<=a
  ·go_enter Tryz.func118,Tryz.ntmps118;go_wp2;go_ret;exact⟨kM (by simp[kq,c,d]),rfl⟩
  ·go_enter Tryz.func118,Tryz.ntmps118;go_wp2;go_ret;exact⟨kM (by simp[kq,c,d]),rfl⟩
 ·have g:decide (b<=e)=false:=by simpa using c
  go_enter Tryz.func118,Tryz.ntmps118;go_wp2;go_ret;exact⟨kM (by simp[kq];omega),rfl⟩
theorem pI(h:Option Addr)(a b:Nat)(c:Int)(g:World):Calls Tryz.prog 199 #[.slice h a b,.int .i64 c] g fun i e=>i=.returned (.bool (kq c 0 ((a:Int)-1)))∧e=g:=by
 by_cases d:0<=c
 ·by_cases j:c<(a:Int)
  ·go_enter Tryz.func199,Tryz.ntmps199;go_wp2;go_ret;exact⟨kM (by simp[kq];omega),rfl⟩
  ·go_enter Tryz.func199,Tryz.ntmps199;go_wp2;go_ret;exact⟨kM (by simp[kq];omega),rfl⟩
 ·have f:decide (0<=c)=false:=by simpa using d
  go_enter Tryz.func199,Tryz.ntmps199;go_wp2;go_ret;exact⟨kM (by simp[kq];omega),rfl⟩
end Go.Proofs.YtglohanbpjaieaaGreatDoor
namespace Go.Proofs.YtglohanbpjaieaaGreatDoor
open Go.Proofs Go.RowKit Go.Shelf Go.Maps
variable {A:Fence}{B:Addr}{C P:List Value}{D:Oper}{E:Act}{F:Obj}{G:Prop}{H:IntKind}{J K:Bool}{M:Array Oper}{N:Exit->Act->World->Prop}{O:Array Value}{Q:Nat×Nat}{b s y:Nat}{d t:List Int}{e q L:World}{g z:Value}{h I:Int}{i:List (List Int)}{r:Option Addr}{u:TypeId}
section
attribute [local go_sem] Oper.semAt_some
def cZ(n:Nat)(W:World)(a:Option Addr)(zs:List Int):Prop:=
 ∀j,j<zs.length->∃b off,a=some ⟨b,off,none⟩∧b<n∧W.cell? ⟨b,off+j,none⟩=some (.int .i64 (zs[j]?.getD 0))
theorem cZ.below(l:Below b e q)(g:cZ b e r d):cZ b q r d:=fun j h=>by
 obtain⟨i,a,k,c,f⟩:=g j h;exact⟨i,a,k,c,(l.cell (p:=⟨i,a+j,none⟩) c).trans f⟩
theorem cZ.mono(l:b<=s)(f:cZ b e r d):cZ s e r d:=fun k g=>by
 obtain⟨h,a,i,j,c⟩:=f k g;exact⟨h,a,i,by omega,c⟩
theorem cZ.at(f:cZ b e r d)(n:0<d.length):
 ∃c a,r=some ⟨c,a,none⟩∧c<b∧∀j,j<d.length->e.cell? ⟨c,a+j,none⟩=some (.int .i64 (d[j]?.getD 0)):=by
 obtain⟨c,a,rfl,g,_⟩:=f 0 n;refine⟨c,a,rfl,g,fun j i=>?_⟩;obtain⟨l,k,m,_,h⟩:=f j i;cases m;exact h
theorem gI(a:Below e.heap.size e q):e.grownBy q none:=⟨a.os,a.tape,a.output,a.size,fun c b _=>a.block c b⟩
theorem jk(hF:A=Fence.wide):A.round=none∧(∀f,A.fn f)∧(∀k:Nat,(A.depth.isSome=true->1<=k))∧
 (∀{n:Nat}{b:Program}{f:FuncId}{args:Array Value}{c:World}{R:Ending->World->Prop},Calls b f args c R->CallsIn A n b f args c R):=by
 subst hF;exact⟨rfl,fun _=>trivial,fun k a=>by simp[Fence.wide]at a,fun a=>gx.2 a⟩
def Kept(n B:Nat)(W W':World):Prop:=Below n W W'∧W'.heap[B]?=W.heap[B]?
theorem Om(e:Fence)(hF:e=Fence.wide)(k:Nat)(h:Option Addr)(b a:Nat)(i:Int)(f:World):
 CallsIn e k Tryz.prog 169 #[.slice h b a,.int .i64 i] f fun j g=>j=.returned (.func (.func 196) #[] #[.pointer (some ⟨f.heap.size+1,0,none⟩),.pointer (some ⟨f.heap.size,0,none⟩)])∧
  g=(f.alloc (.cells #[.slice h b a] 68)).alloc (.cells #[.int .i64 i] 3):=by
 have d:e.round=none:=by subst hF;rfl
 have c:e.fn 169:=by subst hF;trivial
 refine fE Tryz.func169 rfl c ?_ d;simp only[Tryz.ntmps169,cY,aI,bH,Nat.reduceAdd,Nat.reduceSub,bM,bQ,cE,bY,bV,bc];gi_wp2
 go_ret;exact⟨rfl,rfl⟩
theorem LA(J:Fence)(hF:J=Fence.wide)(n Yp I f j g l:Nat)(a:Option Addr)(b:List Int)(Ym:b.length<=30)(Yl:g<b.length)
 (M:∀(p:Nat)(d:World),g<p->p<=200->cZ j d a b->j<=d.heap.size->Calls Tryz.prog 148 #[.slice a b.length l,.int .i64 (p:Int)] d fun h e=>h=.returned (.int .i64 (Tm.dn b p:Int))∧Below d.heap.size d e)
 (D E:List (Nat×Nat)->World->Prop)(d:World)(Yg:AbidesFrom d.heap.size D)
 (S:∀c x d,D c d->c.length<Tm.room (b[g]?.getD 0)->YieldAt J (n-1) Tryz.prog Yp #[.int .i64 (x.1:Int),.int .i64 (x.2:Int)] d fun h e=>
   (h=.returned (.bool true)∧D (c++[x]) e∧Kept j f d e)∨(h=.returned (.bool false)∧E (c++[x]) e))
 (Yx:j<=d.heap.size)(Yt:d.cell? ⟨I,0,none⟩=some (.int .i64 (g:Int)))(L:d.cell? ⟨f,0,none⟩=some (.slice a b.length l))(Yf:f<d.heap.size)(N:cZ j d a b)(Ye:D [] d):
 CallsIn J n Tryz.prog 196 #[.func (.yield Yp) #[] #[],.pointer (some ⟨I,0,none⟩),.pointer (some ⟨f,0,none⟩)] d fun h e=>(∃v,h=.returned v)∧
  ((∃Y,Y=Tm.parts b g (Tm.room (b[g]?.getD 0))∧D Y e)∨(∃c,True∧E c e)):=by
 obtain⟨V,s,q,o⟩:=jk hF;clear hF;have F:=s 196;have Yi:=s 192;have Yh:=s 148;have Yy:=Tm.room_le (b[g]?.getD 0);obtain⟨YA,X,rfl,YD,T⟩:=N.at (by omega);have Yv:=T g Yl;have Yw:(g:Int)<(b.length:Int):=by omega
 have z:∀d,CallsIn J (n-1) Tryz.prog 192 #[.int .i64 (b[g]?.getD 0)] d fun h Yr=>h=.returned (.int .i64 (Tm.room (b[g]?.getD 0):Int))∧Yr=d:=fun d=>o (Ge _ d)
 generalize y:Tm.room (b[g]?.getD 0)=H at*;clear y;generalize b[g]?.getD 0=YG at*;have Yc:=show Hid _ from S
 have Z:=show Hid _ from M
 clear S M T;refine fE Tryz.func196 rfl F ?_ V;simp only[Tryz.ntmps196,cY,aI,bH,Nat.reduceAdd,Nat.reduceSub,bM,bQ,cE,bY,bV,bc];gi_wp2_with((try refine⟨q _,?_⟩);gi_at_call 192;refine(z _).mono ?_;rintro h d⟨rfl,rfl⟩)
 gi_loopw [4,13](fun p Yo wr=>∃i:Nat,i<=H∧Yo=.int .i64 (i:Int)∧p=.int .i64 (Tm.pos b g i:Int)∧D (Tm.parts b g i) wr∧wr.heap[f]?=d.heap[f]?∧Below j d wr∧d.heap.size<=wr.heap.size)
  (fun _ Yo _=>H-(intOf Yo).toNat)
 case atStart=>exact⟨0,bf _,rfl,by rw[Tm.iI];rfl,Ye,rfl,ah _ _,af _⟩
 case round=>
  obtain⟨i,YE,rfl,rfl,B,R,C,Yz⟩:=hrel;have Yu:wr.cell? ⟨f,0,none⟩=some (.slice (some ⟨YA,X,none⟩) b.length l):=(aH (a:=⟨f,0,none⟩) R).trans L;by_cases U:i<H
  ·have G:(i:Int)<(H:Int):=by omega
   have K:=(Z.out (Tm.pos b g i) wr (Tm.om _ _ _) (by have:=Tm.MN b g i;omega) (N.below C) (by omega)).mono (R':=fun h u=>h=.returned (.int .i64 (Tm.pos b g (i+1):Int))∧YieldAt J (n-1) Tryz.prog Yp #[.int .i64 (Tm.pos b g i:Int),.int .i64 (Tm.pos b g (i+1):Int)] u fun h e=>
    (h=.returned (.bool true)∧D (Tm.parts b g (i+1)) e∧Below j d e∧e.heap[f]?=d.heap[f]?∧d.heap.size<=e.heap.size)∨(h=.returned (.bool false)∧∃c,E c e))
    (fun h u⟨r,w⟩=>⟨by rw[Tm.jL];exact r,by
      have Yj:=gI w;have O:=Yg _ _ _ none B Yj (fun H h=>by cases h);refine vx (Yc.out _ (Tm.pos b g i,Tm.pos b g (i+1)) u O (by rw[Tm.Ej];exact U)) fun h Yd YC=>YC.elim (fun⟨r,Yk,k,m⟩=>.inl ⟨r,?_,?_,?_,?_⟩) (fun⟨r,Yn⟩=>.inr ⟨r,_,Yn⟩)
      ·rw[Tm.BL];exact Yk
      ·exact(C.trans (w.mono (by omega))).trans k
      ·exact m.trans ((w.block f (by omega)).trans R)
      ·have:=w.size;have:=k.size;omega⟩)
   have A:=o (n:=n-1) K;clear K;gi_wp2_with(first
    |((try refine⟨q _,?_⟩);gi_at_call 148;refine A.mono ?_;clear A;rintro h u⟨rfl,YB,Yq,assign,body,YF,Q⟩)
    |((try refine⟨q _,?_⟩);refine Q.mono ?_;clear Q;rintro h Yd(⟨rfl,P,k,m,W⟩|⟨rfl,t⟩)))
   ·exact⟨⟨i+1,by omega,by go_num,rfl,P,m,k,W⟩,by simp[intOf];omega⟩
   ·obtain⟨c,t⟩:=t
    refine fI (mb rfl _ _ _) rfl ?_;exact⟨⟨_,rfl⟩,.inr ⟨c,trivial,t⟩⟩
  ·obtain rfl:i=H:=by omega
   have G:¬(i:Int)<(i:Int):=by omega
   gi_wp2
   go_end0
   exact⟨⟨_,rfl⟩,.inl B⟩
theorem G7(r:Fence)(hF:r=Fence.wide)(B d b c k e:Nat)(m:Option Addr)(a:List Int)(j:a.length<=30)(z:k<a.length)
 (v:∀(p:Nat)(g:World),k<p->p<=200->cZ c g m a->c<=g.heap.size->Calls Tryz.prog 148 #[.slice m a.length e,.int .i64 (p:Int)] g fun E t=>E=.returned (.int .i64 (Tm.dn a p:Int))∧Below g.heap.size g t)
 (l:World)(q:c<=l.heap.size)(h:d<l.heap.size)(i:b<l.heap.size)
 (n:l.cell? ⟨d,0,none⟩=some (.int .i64 (k:Int)))(o:l.cell? ⟨b,0,none⟩=some (.slice m a.length e))(w:cZ c l m a):
 SeqStopsK r B Tryz.prog 196 #[.pointer (some ⟨d,0,none⟩),.pointer (some ⟨b,0,none⟩)] (fun C:Nat×Nat=>#[Value.int .i64 (C.1:Int),Value.int .i64 (C.2:Int)]) (Kept c b)
  (fun A=>A=Tm.parts a k (Tm.room (a[k]?.getD 0))) (fun _=>True) (Tm.room (a[k]?.getD 0)) l:=fun F D s g f x _ y u=>
 LA r hF B F d b c k e m a j z v D s g x y (by have:=f.size;omega) ((f.cell (p:=⟨d,0,none⟩) h).trans n) ((f.cell (p:=⟨b,0,none⟩) i).trans o) (by have:=f.size;omega) (w.below (f.mono q)) u
end
section
attribute [local go_sem] Oper.semAt_some
theorem Ov(a:Kept b s e q)(c:Kept b s q L):Kept b s e L:=⟨a.1.trans c.1,c.2.trans a.2⟩
theorem NO(j:b<=e.heap.size)(l:s<e.heap.size)(c:World)(d:Nat)(f a:Obj)(i:e.heap.size<=d)(k:c.heap[d]?=some f)(g:f.isCells=false)(h:f.isWalk=false):Kept b s c (c.putObj d a):=
 ⟨uD j c d f a i k g h,cd (by omega)⟩
theorem K0(g:Option Addr)(a c b:Nat)(d:World)(l:a<=b)(f:b<=200):
 Calls Tryz.prog 148 #[.slice g a c,.int .i64 (b:Int)] d fun h e=>h=.returned (.int .i64 ((b:Int)+1))∧Below d.heap.size d e:=by
 have i:(a:Int)<=(b:Int):=by omega
 have j:(b:Int)<=200:=by omega
 have k:(0:Int)<=(b:Int):=by omega
 go_enter Tryz.func148,Tryz.ntmps148;go_wp2;go_ret;exact⟨rfl,(ah _ _).alloc (af _) _⟩
theorem NB(e:Option Addr)(b c:Nat)(a:List Int)(w:World)(s:a.length<=30)(r:c<a.length)(J:cZ w.heap.size w e a)
 (z:∀(p:Nat)(d:World),c<p->p<=200->cZ w.heap.size d e a->w.heap.size<=d.heap.size->Calls Tryz.prog 148 #[.slice e a.length b,.int .i64 (p:Int)] d fun F H=>F=.returned (.int .i64 (Tm.dn a p:Int))∧Below d.heap.size d H):
 Calls Tryz.prog 148 #[.slice e a.length b,.int .i64 (c:Int)] w fun F D=>F=.returned (.int .i64 (Tm.dn a c:Int))∧Below w.heap.size w D:=by
 obtain⟨t,hF⟩:∃t,t=Fence.wide:=⟨_,rfl⟩;refine(gx (n:=3)).1 ?_;rw[<-hF];obtain⟨k,f,A,K⟩:=jk hF;have u:Hid (t=Fence.wide):=hF;have G:=show Hid _ from z
 clear hF z;have o:=f 148;have M:=f 169;have q:=f 196;have Q:(c:Int)<(a.length:Int):=by omega
 have O:(a.length:Int)<=30:=by omega
 have P:(0:Int)<=(c:Int):=by omega
 rw[Tm.ub a c r];refine eE Tryz.func148 rfl o ?_ k;simp only[Tryz.ntmps148,cY,aI,bH,Nat.reduceAdd,Nat.reduceSub,bM,bQ,cE,bY,bV,bc];gi_wp2_with((try refine⟨A _,?_⟩);gi_at_call 169;refine(Om t u.out _ _ _ _ _ _).mono ?_;rintro F D⟨rfl,rfl⟩)
 have v:=dt w 3 (.int .i64 ((c:Int)+1));have y:=dt (w.alloc (.cells #[.int .i64 ((c:Int)+1)] 3)) 68 (.slice e a.length b);have x:=dt ((w.alloc (.cells #[.int .i64 ((c:Int)+1)] 3)).alloc (.cells #[.slice e a.length b] 68)) 3 (.int .i64 (c:Int));rw[bI]at y;rw[bI,bI]at x;have j:Below w.heap.size w (((w.alloc (.cells #[.int .i64 ((c:Int)+1)] 3)).alloc (.cells #[.slice e a.length b] 68)).alloc (.cells #[.int .i64 (c:Int)] 3)):=(((ah _ w).alloc (af _) _).alloc (by simp) _).alloc (by simp;omega) _;refine wpIn_rangeFunc_ownG k (by omega) (gf:=196) (lb:=#[.pointer (some ⟨w.heap.size+1+1,0,none⟩),.pointer (some ⟨w.heap.size+1,0,none⟩)]) rfl q (iW Tryz.func196 (by kernel_rfl) rfl)
  (G7 t u.out _ (w.heap.size+1+1) (w.heap.size+1) w.heap.size c b e a s r G.out _ (by simp;omega) (by simp) (by simp) x.cell (y.alloc _).cell (J.below j)) Ov (NO (by simp;omega) (by simp)) (ah _ _) (fun _=>rfl)
  (fun h d=>(d.cell? ⟨w.heap.size,0,none⟩=some (.int .i64 (Tm.yQ c h:Int))∧d.frozen? ⟨w.heap.size,0,none⟩=false)∧Below w.heap.size w d)
  (fun _ _ _=>False)
  (qZ (Own.from (fun Y V W row g B C=>⟨cell_kept g.1 B C,(frozen_kept g.1 B C).trans g.2⟩) _) (ownFrom_below (af _) (by simp;omega)))
  (fun _ _ _ _ _ g _ _=>g)
  ⟨⟨((v.alloc _).alloc _).cell,((v.alloc _).alloc _).frozen⟩,j⟩
  (fun E=>{tmps:=#[.slice e a.length b,.int .i64 (c:Int),undef,undef,.int .i64 0,.pointer (some ⟨w.heap.size,0,none⟩),undef,.int .i64 (E.2:Int),.int .i64 (c:Int),.int .i64 ((c:Int)+1),.int .i64 (c:Int),.slice e a.length b,
    .int .i64 (a.length:Int),.bool false,undef,.slice e a.length b,.int .i64 (c:Int),.func (.func 196) #[] #[.pointer (some ⟨w.heap.size+1+1,0,none⟩),.pointer (some ⟨w.heap.size+1,0,none⟩)],.int .i64 (E.1:Int),.int .i64 (E.2:Int),undef,undef],defers:=[]}) ?assign ?body ?done ?stop
 case assign=>
  intro S E d U i;gi_wp2
  exact i
 case body=>
  rintro S h E d⟨⟨m,L⟩,l⟩_;gi_wp2
  exact⟨(dO _ _ _).from _,⟨(ah w.heap.size d).setCell (p:=⟨w.heap.size,0,none⟩) (af _) _,aT d ⟨w.heap.size,0,none⟩ _ _ (by simp)⟩,
   ⟨by rw[Tm.yS];exact sN _ _ _ (by rw[m];rfl),by rw[qj];exact L⟩,l.setCell (p:=⟨w.heap.size,0,none⟩) (af _) _⟩
 case done=>
  rintro N T d I rfl⟨⟨m,_⟩,l⟩i;rw[Tm.Dc]at m;gi_wp2
  refine⟨by simp,.inl ⟨_,_,rfl,ed i,?_⟩⟩;exact⟨_,tu rfl _ _ _,by simp[r],l.trans (uD (w:=w) (af _) d N _ _ (by simp at I;omega) i rfl rfl)⟩
 case stop=>
  rintro N X h d _ _ R _;exact R.elim
theorem O8(a:List Int)(e:a.length<=30)(f:Option Addr)(b:Nat):∀(m k:Nat),a.length-k<=m->k<=200->∀c:World,cZ c.heap.size c f a->
 Calls Tryz.prog 148 #[.slice f a.length b,.int .i64 (k:Int)] c fun r p=>r=.returned (.int .i64 (Tm.dn a k:Int))∧Below c.heap.size c p:=by
 intro m;induction m with
 |zero=>
  intro k n d c g;rw[Tm.tY a k (by omega)];exact K0 f a.length b k c (by omega) d
 |succ m o=>
  intro k n d c g;by_cases h:k<a.length
  ·exact NB f b k a c e h g (fun t q s i j l=>o t (by omega) i q (j.mono l))
  ·rw[Tm.tY a k (by omega)]
   exact K0 f a.length b k c (by omega) d
theorem xw(a:List Int)(c:a.length<=30)(f:Option Addr)(b e:Nat)(h:e<=200)(d:World)(g:cZ d.heap.size d f a):
 Calls Tryz.prog 148 #[.slice f a.length b,.int .i64 (e:Int)] d fun j i=>j=.returned (.int .i64 (Tm.dn a e:Int))∧Below d.heap.size d i:=
 O8 a c f b _ e (af _) h d g
end
theorem wN(a:30<d.length):Tm.err d=2:=by simp[Tm.err,a]
theorem zN(e:d.length<=30)(a:b<d.length)(c:Tm.known (d[b]?.getD 0)=false):Tm.err d=3:=by
 have:d.all Tm.known=false:=by
  rw[List.all_eq_false];exact⟨d[b],ee a,by simpa [a]using c⟩
 simp only[Tm.err,this];rw[aE (by omega)];rfl
theorem nQ(c:d.length<=30)(a:d.all Tm.known=true)(b:Tm.run d 1=d.length):Tm.err d=0:=by
 simp only[Tm.err,a,b];rw[aE (by omega)];rfl
theorem wS(c:d.length<=30)(a:d.all Tm.known=true)(b:Tm.run d 1≠d.length):Tm.err d=1:=by
 simp only[Tm.err,a];rw[aE (by omega),aE (by simp),aE b]
theorem AS(a:b<d.length)(e:(d.take b).all Tm.known=true)(c:Tm.known (d[b]?.getD 0)=true):(d.take (b+1)).all Tm.known=true:=by
 rw[dz a,ru,e];simpa [a]using c
theorem jK(a:List Int):Tm.dn a 0=Tm.run a 1:=by simp[Tm.dn]
theorem Gy(a:List Int)(c:a.length<=30)(e:Option Addr)(b:Nat)(d:World)(f:cZ d.heap.size d e a):
 Calls Tryz.prog 148 #[.slice e a.length b,.int .i64 0] d fun i g=>i=.returned (.int .i64 (Tm.run a 1:Int))∧Below d.heap.size d g:=by
 have h:=xw a c e b 0 (by omega) d f;rw[jK]at h;exact h
theorem Js(a:Nat)(f:Option Addr)(b:Nat)(d:World)(c:30<a):
 Calls Tryz.prog 112 #[.slice f a b] d fun g e=>g=.returned (.int .i64 2)∧Below d.heap.size d e:=by
 have h:(30:Int)<(a:Int):=by omega
 go_enter Tryz.func112,Tryz.ntmps112;go_wp2;go_ret;exact⟨rfl,ah _ _⟩
theorem Mc(a:List Int)(c:a.length<=30)(u:Option Addr)(f:Nat)(m:World)(e:cZ m.heap.size m u a):
 Calls Tryz.prog 112 #[.slice u a.length f] m fun r x=>r=.returned (.int .i64 (Tm.err a))∧Below m.heap.size m x:=by
 have B:(a.length:Int)<=30:=by omega
 go_enter Tryz.func112,Tryz.ntmps112;go_wp2;go_loop [10](fun w=>∃l:Nat,l<=a.length∧w=.int .i64 (l:Int)∧(a.take l).all Tm.known=true)(fun w=>a.length-(intOf w).toNat)
 case atStart=>exact⟨0,bf _,rfl,by simp⟩
 case round=>
  obtain⟨l,D,rfl,b⟩:=hrel;by_cases i:l<a.length
  ·have v:(l:Int)<(a.length:Int):=by omega
   obtain⟨G,A,rfl,C,s⟩:=e.at (by omega);have z:=s l i;have k:=AS i b;have h:=zN c i;clear s e b;generalize a[l]?.getD 0=F at*;cases d:Tm.known F with
   |true=>
    have q:=show Hid _ from k d
    clear k h;go_wp2_with(go_at_call 147;refine(DV _ _).mono ?_;rw[d];rintro r m⟨rfl,rfl⟩)
    go_round
    case rel=>exact⟨l+1,by omega,by go_num,q.out⟩
    case measure=>simp[intOf];omega
   |false=>
    have p:=show Hid _ from h d
    clear k h;go_wp2_with(go_at_call 147;refine(DV _ _).mono ?_;rw[d];rintro r m⟨rfl,rfl⟩)
    go_ret;exact⟨by rw[p.out];rfl,ah _ _⟩
  ·obtain rfl:l=a.length:=by omega
   rw[cJ]at b;by_cases j:Tm.run a 1=a.length
   ·have o:=show Hid _ from nQ c b j
    have t:((Tm.run a 1:Int)!=(a.length:Int))=false:=by simp[j]
    have g:=Gy a c u f m e;clear b j e;generalize Tm.run a 1=E at*;go_wp2_with(go_at_call 148;refine g.mono ?_;clear g;rintro r y⟨rfl,n⟩)
    go_ret;exact⟨by rw[o.out];rfl,n⟩
   ·have o:=show Hid _ from wS c b j
    have t:((Tm.run a 1:Int)!=(a.length:Int))=true:=by simp;omega
    have g:=Gy a c u f m e;clear b j e;generalize Tm.run a 1=E at*;go_wp2_with(go_at_call 148;refine g.mono ?_;clear g;rintro r y⟨rfl,n⟩)
    go_ret;exact⟨by rw[o.out];rfl,n⟩
theorem jn(b:List Int)(d:Option Addr)(a:Nat)(c:World)(e:cZ c.heap.size c d b):
 Calls Tryz.prog 112 #[.slice d b.length a] c fun g f=>g=.returned (.int .i64 (Tm.err b))∧Below c.heap.size c f:=by
 by_cases h:b.length<=30
 ·exact Mc b h d a c e
 ·rw[wN (by omega)]
  exact Js _ d a c (by omega)
theorem zF(a:Int):kq a (-8) 5=Tm.known a:=by
 unfold kq Tm.known;congr 1;simp only[decide_eq_decide];omega
theorem iC(a:Tm.known h=true):h<6:=by simp[Tm.known]at a;omega
theorem j7(a:Tm.known h=true): -8<=h:=by simp[Tm.known]at a;omega
theorem lM(b:d.all Tm.known=true){k:Nat}(a:k<d.length):Tm.known (d[k]?.getD 0)=true:=by
 rw[dD]at b;simpa [a]using b d[k] (ee a)
theorem tt{o:Nat}(a:b<d.length):Tm.run (d.drop b) (o+1)=1+Tm.run (d.drop (b+1)) (o+Tm.room (d[b]?.getD 0)):=by
 rw[bZ a,Tm.fT];simp[a]
theorem CS(a:Nat)(f:Option Addr)(b:Nat)(e:World)(c:30<a):
 Calls Tryz.prog 91 #[.slice f a b] e fun g d=>g=.returned (.int .i64 2)∧d=e:=by
 have h:(30:Int)<(a:Int):=by omega
 go_enter Tryz.func91,Tryz.ntmps91;go_wp2;go_ret;exact⟨rfl,rfl⟩
theorem Dp(a:List Int)(f:a.length<=30)(K:Option Addr)(z:Nat)(t:World)(h:cZ t.heap.size t K a):
 Calls Tryz.prog 91 #[.slice K a.length z] t fun F J=>F=.returned (.int .i64 (Tm.err a))∧J=t:=by
 have N:(a.length:Int)<=30:=by omega
 go_enter Tryz.func91,Tryz.ntmps91;go_wp2;go_loop [3](fun y=>∃b:Nat,b<=a.length∧y=.int .i64 (b:Int)∧(a.take b).all Tm.known=true)(fun y=>a.length-(intOf y).toNat)
 case atStart=>exact⟨0,bf _,rfl,by simp⟩
 case round=>
  obtain⟨b,I,rfl,c⟩:=hrel;by_cases d:b<a.length
  ·have v:(b:Int)<(a.length:Int):=by omega
   obtain⟨M,E,rfl,H,j⟩:=h.at (by omega);have A:=j b d;have p:=AS d c;have l:=zN f d;clear j h c;generalize a[b]?.getD 0=G at*;cases i:Tm.known G with
   |true=>
    have x:=show Hid _ from p i
    clear p l;go_wp2_with(go_at_call 118;refine(Ch _ _ _ _).mono ?_;rw[zF,i];rintro F t⟨rfl,rfl⟩)
    go_round
    case rel=>exact⟨b+1,by omega,by go_num,x.out⟩
    case measure=>simp[intOf];omega
   |false=>
    have u:=show Hid _ from l i
    clear p l;go_wp2_with(go_at_call 118;refine(Ch _ _ _ _).mono ?_;rw[zF,i];rintro F t⟨rfl,rfl⟩)
    go_ret;exact⟨by rw[u.out];rfl,rfl⟩
  ·obtain rfl:b=a.length:=by omega
   rw[cJ]at c;have e:=show Hid _ from c
   clear c;go_wp2;go_loop [4,5](fun o y=>∃b q:Nat,b<=a.length∧q<=b+1∧y=.int .i64 (b:Int)∧o=.int .i64 (q:Int)∧Tm.run a 1=b+Tm.run (a.drop b) q)(fun _ y=>a.length-(intOf y).toNat)
   case atStart=>exact⟨0,1,bf _,by omega,rfl,rfl,by simp⟩
   case round=>
    obtain⟨b,q,I,O,rfl,rfl,n⟩:=hrel;have g:=show Hid _ from n
    clear n;by_cases d:b<a.length
    ·have v:(b:Int)<(a.length:Int):=by omega
     by_cases m:q=0
     ·subst m
      have k:=show Hid _ from wS f e.out (by rw[g.out,Tm.gu];omega)
      clear h;go_wp2;go_ret;exact⟨by rw[k.out];rfl,rfl⟩
     ·obtain⟨D,rfl⟩:∃D,q=D+1:=⟨q-1,by omega⟩
      have w:(((D+1:Nat):Int)==0)=false:=by simp;omega
      obtain⟨M,E,rfl,H,j⟩:=h.at (by omega);have A:=j b d;have B:=iC (lM e.out d);have C:=show Hid _ from tt (o:=D) d
      have L:=Tm.room_le (a[b]?.getD 0);clear j h;generalize a[b]?.getD 0=G at*;have s:=y9 G t B;generalize Tm.room G=P at*;go_wp2_with(go_at_call 116;refine s.mono ?_;clear s;rintro F t⟨rfl,rfl⟩)
      go_round
      case rel=>exact⟨b+1,D+P,by omega,by omega,by go_num,by go_num,by rw[g.out,C.out];omega⟩
      case measure=>simp[intOf];omega
    ·obtain rfl:b=a.length:=by omega
     have r:Tm.run a 1=a.length+q:=by rw[g.out,eu,Tm.oM]
     by_cases m:q=0
     ·subst m
      have k:=show Hid _ from nQ f e.out (by omega)
      clear h r;go_wp2;go_ret;exact⟨by rw[k.out];rfl,rfl⟩
     ·have k:=show Hid _ from wS f e.out (by omega)
      have w:((q:Int)!=0)=true:=by simp;omega
      clear h r;go_wp2;go_ret;exact⟨by rw[k.out];rfl,rfl⟩
theorem qB(b:List Int)(d:Option Addr)(a:Nat)(c:World)(e:cZ c.heap.size c d b):
 Calls Tryz.prog 91 #[.slice d b.length a] c fun g f=>g=.returned (.int .i64 (Tm.err b))∧f=c:=by
 by_cases h:b.length<=30
 ·exact Dp b h d a c e
 ·rw[wN (by omega)]
  exact CS _ d a c (by omega)
def lJ(xs ys:List Int):Bool:=decide (xs=ys)
theorem qv(a:b<d.length):d.take (b+1)=d.take b++[d[b]?.getD 0]:=by
 rw[dz a];simp[a]
theorem D5{a b:List Int}{c:Nat}(e:c<a.length)(f:c<b.length)(g:a.take c=b.take c)(d:a[c]?.getD 0=b[c]?.getD 0):a.take (c+1)=b.take (c+1):=by
 rw[qv e,qv f,g,d]
theorem Ib{a b:List Int}{d:Nat}(c:a[d]?.getD 0≠b[d]?.getD 0):lJ a b=false:=by
 simp only[lJ,kB];rintro rfl;exact c rfl
theorem GL(a:d.length≠t.length):lJ d t=false:=by
 simp only[lJ,kB];rintro rfl;exact a rfl
theorem G0(b:d.take d.length=t.take d.length)(a:d.length=t.length):lJ d t=true:=by
 simp only[lJ,dJ];rw[cJ,a,cJ]at b;exact b
theorem wx(a b:List Int)(H I:Option Addr)(w x:Nat)(l:World)(j:cZ l.heap.size l H a)(k:cZ l.heap.size l I b)(B:a.length<=maxLen):
 Calls Tryz.prog 64 #[.slice H a.length w,.slice I b.length x] l fun N G=>N=.returned (.bool (lJ a b))∧Below l.heap.size l G:=by
 unfold maxLen at B;by_cases g:a.length=b.length
 ·have r:((a.length:Int)!=(b.length:Int))=false:=by simp[g]
  have q:Hid (a.length=b.length):=g;clear g;go_enter Tryz.func64,Tryz.ntmps64;go_wp2;go_loopw [5](fun D wr=>∃c:Nat,c<=a.length∧D=.int .i64 (c:Int)∧Hid (a.take c=b.take c)∧Below l.heap.size l wr)(fun D _=>a.length-(intOf D).toNat)
  case atStart=>exact⟨0,bf _,rfl,by simp[Hid],ah _ _⟩
  case round=>
   obtain⟨c,O,rfl,d,f⟩:=hrel;by_cases o:c<a.length
   ·have z:(c:Int)<(a.length:Int):=by omega
    have h:c<b.length:=by have:=q.out;omega
    have A:(c:Int)<(b.length:Int):=by omega
    obtain⟨L,E,rfl,J,m⟩:=(j.below f).at (by omega);obtain⟨M,F,rfl,K,n⟩:=(k.below f).at (by omega);have P:=m c o;have s:=n c h;have p:=show Hid _ from @D5 a b c o h d.out
    have i:=show Hid _ from @Ib a b c
    clear m n j k h;generalize a[c]?.getD 0=t at*;generalize b[c]?.getD 0=u at*;by_cases e:t=u
    ·have C:(t !=u)=false:=by simp[e]
     have v:Hid (t=u):=e;clear e i;go_wp2;go_quiet(fail)
     go_wp2;go_roundw
     case rel=>exact⟨c+1,by omega,by go_num,p.out v.out,bD f _⟩
     case measure=>simp[intOf];omega
    ·have C:(t !=u)=true:=by simp[e]
     have y:=show Hid _ from i.out e
     clear e i p;go_wp2;go_quiet(fail)
     go_wp2;go_ret;exact⟨by rw[y.out];rfl,bD f _⟩
   ·obtain rfl:c=a.length:=by omega
    have s:=show Hid _ from G0 d.out q.out
    clear j k;go_wp2;go_ret;exact⟨by rw[s.out];rfl,f⟩
 ·have r:((a.length:Int)!=(b.length:Int))=true:=by simp;omega
  rw[GL g];clear g j k;go_enter Tryz.func64,Tryz.ntmps64;go_wp2;go_ret;exact⟨rfl,ah _ _⟩
theorem cK(b:Tm.err d=0):d.length<=30:=by
 by_cases a:30<d.length
 ·rw[wN a]at b;omega
 ·omega
theorem fw(b:Tm.err d=0):d.all Tm.known=true:=by
 have c:=cK b;unfold Tm.err at b;rw[aE (by omega)]at b;by_cases a:d.all Tm.known=false
 ·rw[aD a]at b;omega
 ·simpa using a
theorem fS(a:Tm.err d=0):Tm.run d 1=d.length:=by
 have e:=cK a;have c:=fw a;unfold Tm.err at a;rw[aE (by omega),aE (by simp[c])]at a;by_cases b:Tm.run d 1=d.length
 ·exact b
 ·rw[aE b]at a;omega
theorem Tryz.IT:(Tryz.prog.info? 92).map (fun a=>(a.zero,a.size,a.bytes))=some (some (.pointer none),1,8):=by kernel_rfl
def Node(W:World)(X:Nat)(s:Int)(v:Value):Prop:=W.heap[X]?=some (.cells #[.int .i64 s,v] 119 (0,0))
theorem Node.cell0(a:Node e b h g):e.cell? ⟨b,0,none⟩=some (.int .i64 h):=by simp[World.cell?,show e.heap[b]?=_ from a]
theorem Node.dh(a:Node e b h g):e.cell? ⟨b,1,none⟩=some g:=by simp[World.cell?,show e.heap[b]?=_ from a]
theorem Node.frozen{v:Value}(a:Node e b h v):e.frozen? ⟨b,1,none⟩=false:=by simp[World.frozen?,show e.heap[b]?=_ from a]
theorem Node.lt(a:Node e b h g):b<e.heap.size:=(ak.1 a).1
theorem Node.kept{row:Option Nat}(d:Node e b h g)(c:e.grownBy q row)(a:some b≠row):Node q b h g:=(c.block b d.lt a).trans d
theorem Node.set{v:Value}(c:Value)(f:Node e b h v):Node (e.setCell ⟨b,1,none⟩ c) b h c:=by
 obtain⟨a,d⟩:=ak.1 f;show(e.heap.modify b _)[b]?=_;rw[fo (by rw[iO];exact a),fJ,d];rfl
theorem iz(a:World)(c g:Nat)(d:Value):a.grownBy (a.setCell ⟨c,g,none⟩ d) (some c):=
 ⟨rfl,rfl,rfl,(ef a _ d).size,fun f _ b=>aT _ _ _ f (fun e=>b (by rw[e]))⟩
theorem Node.appended
 (k:Node q b h z)(i:q.ownsRow (b+1) u 1 z y P)(c:e.ownsRow (b+1) u 1 g s C)(a:(q.alloc F).grownBy e z.ownBlock):
 Node e b h z∧Node (e.setCell ⟨b,1,none⟩ g) b h g∧(e.setCell ⟨b,1,none⟩ g).ownsRow (b+1) u 1 g s C∧Below b q (e.setCell ⟨b,1,none⟩ g):=by
 have j:∀d,z.ownBlock=some d->b+1<=d:=fun d l=>(i.lt d l).1
 have m:∀d,g.ownBlock=some d->b+1<=d:=fun d l=>(c.lt d l).1
 have f:Node e b h z:=(k.kept (jl q F none) (by simp)).kept a (fun u=>by have:=j b u.symm;omega);refine⟨f,f.set g,c.kept (iz e b 1 g) (.inr fun u=>by have:=m b u;omega),?_⟩;have n:=k.lt;exact(((ah b q).alloc (by omega) F).grown a (by simp;omega) (fun d u=>by have:=j d u;omega)).setCell (p:=⟨b,1,none⟩) (af _) g
theorem GN{base:Nat}(f:e.ownsRow base u 1 g b C):∃a c,g=.slice a b c:=by
 rcases f.2 with⟨rfl,rfl⟩|⟨h,d,_,rfl,_⟩
 ·exact⟨_,_,rfl⟩
 ·exact⟨_,_,rfl⟩
theorem nz(c:List Int)(e b a:Nat)(g:b<=a):Tm.pos c e b<=Tm.pos c e a:=by
 induction a with
 |zero=>have:b=0:=by omega
        subst this;omega
 |succ a d=>
  by_cases f:b=a+1
  ·subst f;omega
  ·have:=d (by omega);rw[Tm.jL];have:=Tm.im c (Tm.pos c e a);omega
theorem cZ.drop(l:cZ y e (some ⟨s,b,none⟩) d)(a:Nat):cZ y e (some ⟨s,b+a,none⟩) (d.drop a):=fun i h=>by
 rw[cH]at h;obtain⟨k,j,g,c,f⟩:=l (a+i) (by omega);cases g;refine⟨s,b+a,rfl,c,?_⟩;rw[show b+a+i=b+(a+i)from by omega,f];simp
theorem cZ.nil(d:Nat)(b:World)(c:Option Addr):cZ d b c []:=fun e a=>by simp at a
theorem Kd(a:List Int)(Yw:Option Addr)(c:Nat)(d:World)(YA:a.length<=30)(I:0<a.length)(B:a.all Tm.known=true)(Z:Tm.run a 1<=a.length)(Yy:a.length<=c)(s:c<=maxLen)
 (U:cZ d.heap.size d Yw a)
 (Yo:∀(k:Nat)(j:Option Addr)(f:Nat)(G:World),0<k->k<a.length->Tm.run (a.drop k) 1<=a.length-k->a.length-k<=f->f<=maxLen->cZ G.heap.size G j (a.drop k)->
   Calls Tryz.prog 88 #[.slice j (a.length-k) f] G fun v F=>∃p m e,v=.returned (.tuple #[.pointer p,.slice m (a.length-Tm.dn a k) e])∧Below G.heap.size G F∧(∀n X,cZ n X j (a.drop k)->cZ n X m (a.drop (Tm.dn a k)))∧a.length-Tm.dn a k<=e∧e<=maxLen):
 Calls Tryz.prog 88 #[.slice Yw a.length c] d fun v F=>∃p m e,v=.returned (.tuple #[.pointer p,.slice m (a.length-Tm.run a 1) e])∧Below d.heap.size d F∧(∀n X,cZ n X Yw a->cZ n X m (a.drop (Tm.run a 1)))∧a.length-Tm.run a 1<=e∧e<=maxLen:=by
 have Yt:c<=9223372036854775807:=s;obtain⟨YG,Q,rfl,YV,Ye⟩:=U.at I;have Yf:=Ye 0 I;rw[gp]at Yf;have YT:(0:Int)<(a.length:Int):=by omega
 have YI:(a.length:Int)<=30:=by omega
 have YU:(a.length:Int)<=(c:Int):=by omega
 have o:=Tm.ub a 0 I;rw[jK]at o;rw[o]at Z⊢;have P:=iC (lM B I);have YO:=Tm.room_le (a[0]?.getD 0);have Yd:=show Hid _ from U
 have Yp:=show Hid _ from Yo
 clear Ye U o B Yo;generalize a[0]?.getD 0=H at*;have E:∀G,Calls Tryz.prog 116 #[.int .i64 H] G fun k F=>k=.returned (.int .i64 (Tm.room H:Int))∧F=G:=fun G=>y9 H G P
 clear P;generalize Tm.room H=v at*;obtain⟨YD,Yz,Yl,Ym,Yn⟩:=fh Tryz.IT;have b:Node (d.alloc (.cells #[.int .i64 H,.slice none 0 0] 119)) d.heap.size H (.slice none 0 0):=aM d _;have q:Below d.heap.size d (d.alloc (.cells #[.int .i64 H,.slice none 0 0] 119)):=(ah _ d).alloc (af _) _;obtain⟨T,z⟩:∃T,d.alloc (.cells #[.int .i64 H,.slice none 0 0] 119)=T:=⟨_,rfl⟩;rw[z]at b q;have J:Hid (d.alloc (.cells #[.int .i64 H,.slice none 0 0] 119)=T):=z;clear z;by_cases L:c=1
 ·subst L
  have Yh:a.length=1:=by omega
  have Yk:v=0:=by have:=nz a 0 1 v;have YH:=Tm.jL a 0 0;rw[cI]at YH;have:=Tm.im a (Tm.pos a 0 0);have:=Tm.iI a 0;omega
  subst Yk;rw[Tm.iI];go_enter Tryz.func88,Tryz.ntmps88;go_wp2;rw[J.out];have Yi:=b.cell0;have YP:=show Hid _ from b
  clear b Yh;refine ft 1 ?_;rw[eK];go_wp2_with(go_at_call 116;refine(E _).mono ?_;rintro k wr⟨rfl,rfl⟩)
  go_ret2
  refine⟨some ⟨d.heap.size,0,none⟩,some ⟨YG,Q,none⟩,0,?_,q,fun n X A=>by rw[jX (by omega)];exact cZ.nil _ _ _,by omega,by unfold maxLen;omega⟩;rw[show a.length-(0+1)=0 from by omega];rfl
 ·have YE:Hid (¬c=1):=L
  go_enter Tryz.func88,Tryz.ntmps88;go_wp2;rw[J.out];go_loopw [5,6](fun YX YC wr=>∃(l:Nat)(j:Option Addr)(u:Nat)(Yu:Value)(Yq:List Value),l<=v∧YC=.int .i64 (l:Int)∧YX=.slice j (a.length-Tm.pos a 0 l) u∧Hid (∀n X,cZ n X (some ⟨YG,Q,none⟩) a->cZ n X j (a.drop (Tm.pos a 0 l)))∧a.length-Tm.pos a 0 l<=u∧u<=maxLen∧
   Node wr d.heap.size H Yu∧wr.ownsRow (d.heap.size+1) 92 1 Yu l Yq∧Below d.heap.size d wr)(fun _ YC _=>v-(intOf YC).toNat)
  case atStart=>exact⟨0,_,_,_,[],bf _,rfl,by rw[Tm.iI],fun n X A=>by rw[Tm.iI];exact A.drop 1,by rw[Tm.iI];omega,by unfold maxLen;omega,b,gq _ _ _ _,q⟩
  case round=>
   obtain⟨l,j,u,Yu,Yq,YW,rfl,rfl,x,M,g,V,Y,w⟩:=hrel;have Yi:=V.cell0;by_cases YL:l<v
   ·have YB:(l:Int)<(v:Int):=by omega
    have N:=Tm.om a 0 l;have D:=Tm.jL a 0 l;have O:=nz a 0 (l+1) v (by omega);have Yj:=Tm.im a (Tm.pos a 0 l);have W:=Yp.out (Tm.pos a 0 l) j u wr N (by omega) (by unfold Tm.dn at D;omega) M g ((x.out _ _ (cZ.below w Yd.out)).mono w.size);rw[<-D]at W;have A:=V.lt;have Yx:u<=9223372036854775807:=g;have YF:=show Hid _ from O
    clear N D O Yj g b q s;go_wp2_with(first
     |(go_at_call 116;refine(E _).mono ?_;rintro k wr⟨rfl,rfl⟩)
     |(go_at_call 88;refine W.mono ?_;clear W;rintro k Yv⟨p,m,e,rfl,r,K,Yg,C⟩;have y:=V.kept (gI r) (by simp);have i:=Y.kept (gI r) (by cases YH:Yu.ownBlock with|none=>exact .inl rfl|some Y0=>exact .inr (by simp));obtain⟨YQ,YR,rfl⟩:=GN i;have YM:=y.dh;have YJ:=y.frozen;have Yc:=show Hid _ from K;clear K;have S:=show Hid _ from C;clear C)
     |(at_builtin;go_loud(refine fN _ rfl _ _ 117 rfl (d.heap.size+1) 92 YD (.pointer none) 1 8 Tryz.underlying117 Yz Yl Ym Yn rfl (by decide) _ _ _ rfl (i.alloc _) ⟨Yv.heap.size,0,none⟩ 1 1 [.pointer p] rfl rfl (vy _ _ _) (by simp[Value.oneCell']) (by unfold maxLen;omega) (by omega) (by have:=r.size;simp;omega) ?_);intro YY YZ h t _;obtain⟨YS,f,rfl⟩:=jy h;have Yr:=y.appended i h t;have YN:=Yr.1.dh;have YK:=Yr.1.frozen;have R:=show Hid _ from Yr;clear Yr h t))
    exact⟨⟨l+1,m,e,_,_,by omega,by go_num,rfl,fun n X A=>Yc.out n X (x.out n X A),Yg,S.out,R.out.2.1,R.out.2.2.1,(w.trans (r.mono w.size)).trans R.out.2.2.2⟩,by simp[intOf];omega⟩
   ·obtain rfl:l=v:=by omega
    go_wp2_with(go_at_call 116;refine(E _).mono ?_;rintro k wr⟨rfl,rfl⟩)
    go_ret2
    exact⟨_,_,_,rfl,w,x,M,g⟩
theorem tC(a:List Int)(b:Nat):Tm.dn a b=b+Tm.run (a.drop b) 1:=rfl
theorem LS:∀(m:Nat)(a:List Int)(j:Option Addr)(b:Nat)(e:World),a.length<=m->a.length<=30->0<a.length->a.all Tm.known=true->Tm.run a 1<=a.length->a.length<=b->b<=maxLen->cZ e.heap.size e j a->
 Calls Tryz.prog 88 #[.slice j a.length b] e fun H z=>∃p k f,H=.returned (.tuple #[.pointer p,.slice k (a.length-Tm.run a 1) f])∧Below e.heap.size e z∧(∀n X,cZ n X j a->cZ n X k (a.drop (Tm.run a 1)))∧a.length-Tm.run a 1<=f∧f<=maxLen:=by
 intro m;induction m with
 |zero=>intro a j b e E _ F;omega
 |succ m y=>
  intro a j b e G o t c i h d u;refine Kd a j b e o t c i h d u ?_;intro l s g D B C w v r q;have A:=y (a.drop l) s g D (by rw[cH];omega) (by rw[cH];omega) (by rw[cH];omega)
   (by rw[dD]at c⊢;exact fun I x=>c I (jG x)) (by rw[cH];exact w) (by rw[cH];exact v) r q
  simp only[cH,kt]at A;rw[tC,show a.length-(l+Tm.run (a.drop l) 1)=a.length-l-Tm.run (a.drop l) 1 from by omega];exact A
theorem FZ(b:List Int){n m:Nat}(c:n<=m):Tm.run b n<=Tm.run b m:=by
 obtain⟨a,rfl⟩:∃a,m=n+a:=⟨m-n,by omega⟩;rw[Tm.rF];omega
theorem A4:∀(l:List Int)(n k:Nat),k<Tm.run l n->Tm.dn l k<=Tm.run l n:=by
 intro l;induction l with
 |nil=>intro n k a;rw[Tm.oM]at*;rw[Tm.tY _ _ (by simp)];omega
 |cons c l b=>
  intro n k a;cases n with
  |zero=>rw[Tm.gu]at a;omega
  |succ n=>
   rw[Tm.fT]at a⊢;cases k with
   |zero=>
    rw[jK,show(1:Nat)=0+1 from rfl,Tm.fT];have:=FZ l (n:=0+Tm.room c) (m:=n+Tm.room c) (by omega)
    omega
   |succ k=>
    have:=b (n+Tm.room c) k (by omega)
    unfold Tm.dn at this⊢;rw[List.drop_succ_cons];omega
theorem gL(a:Tm.err d=0){k:Nat}(b:k<d.length):Tm.dn d k<=d.length:=by
 have c:=fS a;have:=A4 d 1 k (by omega)
 omega
def cD(zs:List Int)(k:Nat):List Int:=(zs.drop k).take (Tm.dn zs k-k)
theorem fZ(a:Tm.err d=0)(c:b<d.length):(cD d b).length=Tm.dn d b-b:=by
 have:=gL a c
 simp only[cD,cX,cH];omega
theorem Tryz.yJ:(Tryz.prog.info? 3).map (fun a=>(a.zero,a.size,a.bytes))=some (some (.int .i64 0),1,8):=by kernel_rfl
def cU(base:Nat)(W:World)(v:Value)(zs:List Int):Prop:=W.ownsRow base 3 1 v zs.length (zs.map (Value.int .i64))
theorem cU.ints{base:Nat}(n:cU base e g d):∃k a,g=.slice k d.length a∧cZ e.heap.size e k d∧d.length<=a∧a<=maxLen:=by
 rcases n.2 with⟨rfl,j⟩|⟨m,a,l,rfl,r,i,c,f,p,q⟩
 ·exact⟨none,0,by rw[j],fun o b=>by omega,by omega,by omega⟩
 ·refine⟨_,_,rfl,fun o b=>⟨m,0,rfl,(ak.1 i).1,?_⟩,c,f⟩
  have h:=dI (show e.ownsRow base 3 1 (.slice (some ⟨m,0,none⟩) d.length a) d.length (d.map (Value.int .i64))from n) o (by omega);rw[cI,h];simp[b]
theorem cU.below{base:Nat}(b:cU base e g d)(a:Below e.heap.size e q):cU base q g d:=
 dM b (gI a) (by cases b:g.ownBlock with|none=>exact .inl rfl|some c=>exact .inr (by simp))
theorem cU.mono{base:Nat}(k:cU base e g d)(j:b<=base):cU b e g d:=
 ⟨k.1,k.2.elim .inl (fun⟨l,a,c,f,h,i⟩=>.inr ⟨l,a,c,f,aK j h,i⟩)⟩
theorem cU.nil(base:Nat)(a:World):cU base a (.slice none 0 0) []:=gq _ _ _ _
theorem cU.lit(base:Nat)(b:World)(a:List Int)(c:base<=b.heap.size)(d:a.length<=maxLen):cU base (b.alloc (.cells (a.map (Value.int .i64)).toArray 3)) (.slice (some ⟨b.heap.size,0,none⟩) a.length a.length) a:=by
 have f:=World.ownsRow_lit (base:=base) (e:=3) (size:=1) b (a.map (Value.int .i64)).toArray a.length c d (by simp);simpa [cU]using f
theorem cZ.news(k:cZ b e (some B) d):∀j g,(d.map (Value.int .i64))[j]?=some g->e.cell? (B.add j)=some g:=by
 intro j g c;have a:j<d.length:=by
  have:=(ig.1 c).1
  simpa using this
 obtain⟨l,h,i,_,f⟩:=k j a;cases i;rw[cz,f];simpa [a]using c
theorem dB{rest:List Oper}(g:World)(h:D.guard=none)(t u:Operand)
 (k:D.op=.call {callee:=.builtin .append,args:=#[t,u],argTypes:=#[68,68]})(base:Nat)(s:Value)(b:List Int)(l:E.eval t=s)(e:cU base g s b)
 (d:Option Addr)(a:List Int)(w:Nat)(n:E.eval u=.slice d a.length w)(B:d=none->a.length=0∧w=0)(y:cZ g.heap.size g d a)(A:b.length+a.length<=1000000)(c:base<=g.heap.size)
 (C:∀f w',cU base w' f (b++a)->Below base g w'->wpList Tryz.prog M N rest (E.put D.dst f) w'):wpList Tryz.prog M N (D::rest) E g:=by
 obtain⟨r,j,o,p,q⟩:=fh Tryz.yJ;cases d with
 |none=>
  obtain⟨x,rfl⟩:=B rfl;obtain rfl:a=[]:=bJ x;refine ij h t u 68 k base 3 r 1 Tryz.underlying68 j s b.length (b.map (Value.int .i64)) l e n (C s g (by simpa using e) (ah _ _))
 |some v=>
  refine fN g h t u 68 k base 3 r (.int .i64 0) 1 8 Tryz.underlying68 j o p q rfl (by decide) s b.length (b.map (Value.int .i64)) l e v a.length w (a.map (Value.int .i64)) n (by simp) y.news
   (by intro H m;simp at m;obtain⟨I,_,rfl⟩:=m;rfl) (by unfold maxLen;omega) (by omega) c ?_
  intro f w' i z _;refine C f w' (by simpa [cU]using i) ((ah base g).grown z c (fun G F=>(bn e G F).1))
theorem D9(c:List Int)(j b d:Nat)(a:World)(m:c.length<=30)(k:cZ a.heap.size a (some ⟨j,b,none⟩) c):
 Calls Tryz.prog 108 #[.slice (some ⟨j,b,none⟩) c.length d] a fun q i=>∃v,q=.returned v∧cU a.heap.size i v c∧Below a.heap.size a i:=by
 have s:∀(a:World)(t o:Nat),(binOp .eql 68 (.slice (some ⟨j,b,none⟩) t o) (.slice none 0 0)).run Tryz.prog a=.ok (.bool false) a:=fun _ _ _=>rfl
 have l:cU a.heap.size (a.alloc (.cells #[] 3)) (.slice (some ⟨a.heap.size,0,none⟩) 0 0) []:=cU.lit a.heap.size a [] (af _) (by unfold maxLen;simp);have e:Below a.heap.size a (a.alloc (.cells #[] 3)):=(ah _ _).alloc (af _) _;have g:=(k.below e).mono e.size;go_enter Tryz.func108,Tryz.ntmps108;go_wp2_with(at_builtin;go_loud(refine dB _ rfl _ _ rfl a.heap.size _ [] rfl l _ c d rfl (fun r=>by cases r) g (by simp;omega) (by simp) ?_);intro u w h f)
 obtain⟨n,p,rfl,_⟩:=cU.ints h;go_ret;exact⟨_,rfl,h,e.trans f⟩
theorem cZ.sub(n:cZ y e (some ⟨b,s,none⟩) d)(c l:Nat):cZ y e (some ⟨b,s+c,none⟩) ((d.drop c).take l):=fun j i=>by
 have a:j<l∧j<d.length-c:=by
  simp only[cX,cH]at i;omega
 obtain⟨m,k,h,f,g⟩:=(n.drop c) j (by rw[cH];omega);cases h;refine⟨b,s+c,rfl,f,?_⟩;rw[g];simp[a.1]
theorem xq(a:List Int)(w:Option Addr)(b c:Nat)(i:World)(l:cZ i.heap.size i w a)(t:a.length<=b)(g:b<=maxLen)(h:Tm.err a=0)(u:c<a.length):
 Calls Tryz.prog 122 #[.slice w a.length b,.int .i64 (c:Int)] i fun q j=>q=.returned (.int .i64 (Tm.dn a c:Int))∧Below i.heap.size i j:=by
 have z:=cK h;have n:=gL h u;have A:=Tm.im a c;have d:=fw h;obtain⟨x,k,rfl,G,s⟩:=l.at (by omega);have o:Calls Tryz.prog 88 #[.slice (some ⟨x,k+c,none⟩) (a.length-c) (b-c)] i fun I j=>∃p e f,I=.returned (.tuple #[.pointer p,.slice e (a.length-Tm.dn a c) f])∧Below i.heap.size i j:=by
  have y:=LS (a.drop c).length (a.drop c) (some ⟨x,k+c,none⟩) (b-c) i (af _) (by rw[cH];omega) (by rw[cH];omega)
   (by rw[dD]at d⊢;exact fun K v=>d K (jG v)) (by rw[cH];unfold Tm.dn at n;omega) (by rw[cH];omega) (by omega) (l.drop c)
  rw[cH]at y;refine y.mono ?_;rintro q j⟨p,e,f,rfl,r,_⟩;exact⟨p,e,f,by rw[tC,show a.length-(c+Tm.run (a.drop c) 1)=a.length-c-Tm.run (a.drop c) 1 from by omega],r⟩
 unfold maxLen at g;clear d s l h;generalize Tm.dn a c=H at*;have B:(c:Int)<(a.length:Int):=by omega
 have C:(a.length:Int)<=30:=by omega
 have D:¬b-c=0:=by omega
 have E:(a.length:Int)<=(b:Int):=by omega
 have F:((a.length-H:Nat):Int)<=30:=by omega
 go_enter Tryz.func122,Tryz.ntmps122;go_wp2_with(go_at_call 88;refine o.mono ?_;clear o;rintro q J⟨p,e,f,rfl,m⟩)
 go_ret;exact⟨rQ (by omega),m⟩
theorem r7(a:List Int)(B:Option Addr)(b c:Nat)(d:World)(j:cZ d.heap.size d B a)(o:a.length<=b)(g:b<=maxLen)(h:Tm.err a=0)(p:c<a.length):
 Calls Tryz.prog 94 #[.slice B a.length b,.int .i64 (c:Int)] d fun C w=>∃v,C=.returned v∧cU d.heap.size w v (cD a c)∧Below d.heap.size d w:=by
 have D:=cK h;have F:=gL h p;have E:=Tm.im a c;have n:=fZ h p;obtain⟨x,i,rfl,N,y⟩:=j.at (by omega);have e:Below d.heap.size d (d.alloc (.cells #[] 3)):=(ah _ _).alloc (af _) _;have z:cU d.heap.size (d.alloc (.cells #[] 3)) (.slice (some ⟨d.heap.size,0,none⟩) 0 0) []:=cU.lit d.heap.size d [] (af _) (by unfold maxLen;simp);have s:=xq a (some ⟨x,i,none⟩) b c (d.alloc (.cells #[] 3)) ((j.below e).mono e.size) o g h p;have m:=j.sub c (Tm.dn a c-c);unfold maxLen at g;clear y j h;have k:Hid ((cD a c).length=Tm.dn a c-c):=n;have q:Hid (cZ d.heap.size d (some ⟨x,i+c,none⟩) (cD a c)):=m;clear n m;generalize cD a c=A at*;generalize Tm.dn a c=G at*;have K:(c:Int)<=(G:Int):=by omega
 have L:(G:Int)<=(b:Int):=by omega
 have M:¬b-c=0:=by omega
 go_enter Tryz.func94,Tryz.ntmps94;go_wp2_with(first
  |(go_at_call 122;refine s.mono ?_;clear s;rintro C P⟨rfl,l⟩;have u:=cU.below z l;have f:=e.trans (l.mono e.size))
  |(at_builtin;go_loud(refine dB _ rfl _ _ rfl d.heap.size _ [] rfl u (some ⟨x,i+c,none⟩) A (b-c) (by rw[k.out];rfl) (fun J=>by cases J) ((q.out.below f).mono f.size) (by simp[k.out];omega) f.size ?_);intro O Q t r))
 obtain⟨H,I,rfl,_⟩:=cU.ints t;go_ret;exact⟨_,rfl,t,f.trans r⟩
theorem Ow(e:Nat)(f:World)(s:1<=e)(t:e<=100000):
 Calls Tryz.prog 208 #[.slice none 0 0,.int .i64 (e:Int)] f fun r k=>∃v,r=.returned v∧cU f.heap.size k v []∧Below f.heap.size f k:=by
 obtain⟨m,l,i,q,j⟩:=fh Tryz.yJ;have b:=Lib.run_append_nil_zeros (P:=Tryz.prog) f 68 3 68 3 m (.int .i64 0) .i64 .i64 Tryz.underlying68 Tryz.underlying3 l i e (by omega) (by omega) (by omega) (by rw[j];omega);generalize c:grownCap f e 0 3=a at b;have h:e<=a:=by rw[<-c];exact grownCap_ge f _ 0 3
 have d:a<=maxLen:=by rw[<-c];exact grownCap_le_maxLen f _ 0 3 (by unfold maxLen;omega)
 generalize g:(Builtin.zeroCells (Value.int .i64 0).cells e++Builtin.zeroCells (Value.int .i64 0).cells (a-e))=n at b;have o:n.size=a:=by rw[<-g];simp[size_zeroCells,Value.cells];omega
 clear c g;have u:(0:Int)<(e:Int):=by omega
 have w:(e:Int)<=100000:=by omega
 have p:¬a=0:=by omega
 go_enter Tryz.func208,Tryz.ntmps208;go_wp2_with(at_builtin;go_loud(refine Lib.wpList_append_run _ rfl _ _ _ _ rfl _ _ rfl rfl _ _ b ?_))
 go_ret;exact⟨_,rfl,⟨by simp,.inr ⟨f.heap.size,a,n,rfl,af _,aM f _,bf _,d,by omega,by simp⟩⟩,((ah _ _).alloc (af _) _).drew⟩
def lens(l:List (List Int)):Nat:=(l.map List.length).sum
theorem DU(a:b<i.length):lens (i.take (b+1))=lens (i.take b)+(i[b]?.getD []).length:=by
 have c:i[b]?.getD []=i[b]:=by simp[a]
 rw[dz a,c];unfold lens;rw[gF,List.sum_append];simp only[fF,gy,List.sum_cons,List.sum_nil,gp]
theorem EM(a:List (List Int))(b:Nat):lens (a.take b)<=lens a:=by
 have c:lens a=lens (a.take b)+lens (a.drop b):=by
  unfold lens;rw[<-List.sum_append,<-gF,fM]
 omega
theorem Ml(a:b<i.length):(i.take (b+1)).flatten=(i.take b).flatten++(i[b]?.getD []):=by
 have c:i[b]?.getD []=i[b]:=by simp[a]
 rw[dz a,c,fB];simp only[fO,mC,cW]
theorem NR(a:List (List Int)):a.flatten.length=lens a:=by simp[lens,List.length_flatten]
theorem Jo(a:List (List Int))(n:Nat->Option Addr)(u:Nat->Nat)(E t:Nat)(g:World)(Z:a.length<=1000)(N:lens a<=1000)(M:0<lens a)(K:E<g.heap.size)
 (f:∀j,j<a.length->g.cell? ⟨E,j,none⟩=some (.slice (n j) (a[j]?.getD []).length (u j)))(x:∀j,j<a.length->cZ g.heap.size g (n j) (a[j]?.getD []))
 (B:∀j,j<a.length->n j=none->(a[j]?.getD []).length=0∧u j=0):
 Calls Tryz.prog 200 #[.slice (some ⟨E,0,none⟩) a.length t] g fun Q D=>∃v,Q=.returned v∧cU g.heap.size D v a.flatten∧Below g.heap.size g D:=by
 have Y:(a.length:Int)<=1000:=by omega
 have e:=show Hid _ from f
 have G:=show Hid _ from x
 have H:=show Hid _ from B
 clear f x B;go_enter Tryz.func200,Tryz.ntmps200;go_wp2;go_loop [3,11](fun F r=>∃b:Nat,b<=a.length∧r=.int .i64 (b:Int)∧F=.int .i64 (lens (a.take b):Int))(fun _ r=>a.length-(intOf r).toNat)
 case atStart=>exact⟨0,bf _,rfl,rfl⟩
 case round=>
  obtain⟨b,L,rfl,rfl⟩:=hrel;have R:=EM a b;by_cases c:b<a.length
  ·have q:(b:Int)<(a.length:Int):=by omega
   have z:=e.out b c;have i:=DU c;have o:=EM a (b+1);have s:=show Hid _ from i
   rw[i]at o;clear i;generalize(a[b]?.getD []).length=V at*;generalize lens (a.take b)=F at*;have T:(0:Int)<=(F:Int)+(V:Int):=by omega
   have U:(F:Int)+(V:Int)<=1000:=by omega
   go_wp2;go_round
   case rel=>exact⟨b+1,by omega,by go_num,by rw[s.out];go_num⟩
   case measure=>simp[intOf];omega
  ·obtain rfl:b=a.length:=by omega
   rw[cJ]at*;go_wp2_with fail;refine(Ow (lens a) _ (by omega) (by omega)).mono ?_;rintro Q Ye⟨Yd,rfl,h,l⟩;obtain⟨W,X,rfl,_⟩:=cU.ints h;go_wp2;go_loopw [6,27](fun v r wr=>∃b:Nat,b<=a.length∧r=.int .i64 (b:Int)∧cU g.heap.size wr v (a.take b).flatten∧Below g.heap.size g wr)(fun _ r _=>a.length-(intOf r).toNat)
   case atStart=>exact⟨0,bf _,rfl,h,l⟩
   case round=>
    clear h l;obtain⟨b,L,rfl,k,d⟩:=hrel;by_cases c:b<a.length
    ·have q:(b:Int)<(a.length:Int):=by omega
     have z:=(d.cell (p:=⟨E,b,none⟩) K).trans (e.out b c);have y:=((G.out b c).below d).mono d.size;have C:=show Hid _ from H.out b c
     have A:=show Hid _ from Ml c
     have S:(a.take b).flatten.length+(a[b]?.getD []).length<=1000:=by
      rw[NR];have:=DU c;have:=EM a (b+1);omega
     generalize a[b]?.getD []=P at*;generalize(a.take b).flatten=O at*;go_wp2_with(at_builtin;go_loud(refine dB _ rfl _ _ rfl g.heap.size _ O rfl k _ P _ rfl C.out y (by omega) d.size ?_);intro Yc Yf m w;obtain⟨I,J,rfl,_⟩:=cU.ints m)
     go_roundw
     case rel=>exact⟨b+1,by omega,by go_num,by rw[A.out];simpa using m,d.trans w⟩
     case measure=>simp[intOf];omega
    ·obtain rfl:b=a.length:=by omega
     rw[cJ]at k;obtain⟨I,J,rfl,_⟩:=cU.ints k;go_wp2;go_ret;exact⟨_,rfl,k,d⟩
def eI(zs:List Int)(k:Nat)(us:List Int):List Int:=zs.take k++us++zs.drop (Tm.dn zs k)
def gZ(zs:List Int)(k:Int)(us:List Int):Int:=
 if Tm.err zs=0 then(if Tm.err us=0 then(if kq k 0 ((zs.length:Int)-1)=true then(if 30<(eI zs k.toNat us).length then 2 else 0)else 3)else Tm.err us)else Tm.err zs
def gj(zs:List Int)(k:Int)(us:List Int):List Int:=if gZ zs k us=0 then eI zs k.toNat us else []
theorem tE{zs us:List Int}(a:b<zs.length):(eI zs b us).length=b+us.length+(zs.length-Tm.dn zs b):=by
 simp only[eI,ai,cX,cH];omega
theorem dU(a:Tm.err d=0):0<d.length:=by
 have b:=fS a;have:=Tm.Ef d 1
 omega
theorem cZ.some(f:cZ b e r d)(a:0<d.length):r≠none:=by
 obtain⟨g,c,rfl,_⟩:=f.at a;simp
theorem cZ.take(l:cZ b e r d)(i:Nat):cZ b e r (d.take i):=fun h g=>by
 rw[cX]at g;obtain⟨j,a,k,c,f⟩:=l h (by omega);refine⟨j,a,k,c,?_⟩;rw[f];simp[show h<i from by omega]
theorem dp(c:e.heap[b]?=some (.cells O u Q))(a:Nat):e.cell? ⟨b,a,none⟩=O[a]?:=by simp[World.cell?,c]
theorem O0(c a d:List Int)(f e g:Option Addr)(j i k t u:Nat)(b:World)(y:cZ b.heap.size b f c)(x:cZ b.heap.size b e a)(z:cZ b.heap.size b g d)(r:t=c.length)(s:u=d.length)
 (B:f≠none)(A:e≠none)(C:g≠none)(E:0<a.length)(F:c.length+a.length+d.length<=1000):
 Calls Tryz.prog 200 #[.slice (some ⟨b.heap.size,0,none⟩) 3 3] (b.alloc (.cells #[.slice f t j,.slice e a.length i,.slice g u k] 68)) fun p o=>∃v,p=.returned v∧cU b.heap.size o v (c++a++d)∧Below b.heap.size b o:=by
 subst r s;have h:Below b.heap.size b (b.alloc (.cells #[.slice f c.length j,.slice e a.length i,.slice g d.length k] 68)):=(ah _ _).alloc (af _) _;have n:=aM b (.cells #[.slice f c.length j,.slice e a.length i,.slice g d.length k] 68);have D:=Jo [c,a,d] (fun m=>if m=0 then f else if m=1 then e else g) (fun m=>if m=0 then j else if m=1 then i else k) b.heap.size 3 (b.alloc (.cells #[.slice f c.length j,.slice e a.length i,.slice g d.length k] 68))
  (by simp) (by simp[lens];omega) (by simp[lens];omega) (by simp)
  (fun m l=>by
    match m,l with
    |0,_=>rw[dp n];rfl
    |1,_=>rw[dp n];rfl
    |2,_=>rw[dp n];rfl)
  (fun m l=>by
    match m,l with
    |0,_=>exact(y.below h).mono h.size
    |1,_=>exact(x.below h).mono h.size
    |2,_=>exact(z.below h).mono h.size)
  (fun m l p=>by
    match m,l with
    |0,_=>exact absurd p B
    |1,_=>exact absurd p A
    |2,_=>exact absurd p C)
 refine D.mono ?_;rintro p o⟨v,rfl,w,q⟩;exact⟨v,rfl,by simpa using w.mono (by simp),h.trans (q.mono (by simp))⟩
theorem Pf(b us:List Int)(G f:Nat)(y:Option Addr)(e B n:Nat)(p:World)(C:cZ p.heap.size p (some ⟨G,f,none⟩) b)(I:cZ p.heap.size p y us)(Yd:b.length<=e)(J:e<=maxLen)(z:Tm.err b=0)(F:Tm.err us=0)(X:n<b.length):
 Calls Tryz.prog 177 #[.slice (some ⟨G,f,none⟩) b.length e,.int .i64 (n:Int),.slice y us.length B] p fun i o=>∃v,i=.returned (.tuple #[v,.int .i64 (if 30<(eI b n us).length then 2 else 0)])∧cU p.heap.size o v (if 30<(eI b n us).length then []else eI b n us)∧Below p.heap.size p o:=by
 have s:=jn b (some ⟨G,f,none⟩) e p C;have M:∀q,Below p.heap.size p q->Calls Tryz.prog 112 #[.slice y us.length B] q fun i o=>i=.returned (.int .i64 0)∧Below q.heap.size q o:=fun q h=>by
  have Yg:=jn us y B q ((I.below h).mono h.size);rw[F]at Yg;exact Yg
 have w:=show Hid _ from M
 rw[z]at s;have K:kq (n:Int) 0 ((b.length:Int)-1)=true:=(td _ _ _).2 ⟨by omega,by omega⟩;have V:∀q,Below p.heap.size p q->Calls Tryz.prog 148 #[.slice (some ⟨G,f,none⟩) b.length e,.int .i64 (n:Int)] q fun i o=>i=.returned (.int .i64 (Tm.dn b n:Int))∧Below q.heap.size q o:=
  fun q h=>xw b (cK z) _ e n (by have:=cK z;omega) q ((C.below h).mono h.size)
 have H:=show Hid _ from V
 have Yj:=gL z X;have Yi:=Tm.im b n;have Yh:=cK z;have Yf:=cK F;have E:=tE (us:=us) X;have D:∀(q:World)(A:Option Addr)(L P:Nat),Below p.heap.size p q->cZ p.heap.size p A (b.drop (Tm.dn b n))->A≠none->L=b.length-Tm.dn b n->
  Calls Tryz.prog 200 #[.slice (some ⟨q.heap.size,0,none⟩) 3 3] (q.alloc (.cells #[.slice (some ⟨G,f,none⟩) n e,.slice y us.length B,.slice A L P] 68)) fun i o=>∃v,i=.returned v∧cU p.heap.size o v (eI b n us)∧Below p.heap.size p o:=by
  intro q A L P h W Y Yk;refine(O0 (b.take n) us (b.drop (Tm.dn b n)) (some ⟨G,f,none⟩) y A e B P n L q (((C.below h).mono h.size).take n) ((I.below h).mono h.size) ((W.below h).mono h.size)
   (by rw[cX];omega) (by rw[cH];omega) (by simp) (I.some (dU F)) Y (dU F) (by rw[cX,cH];omega)).mono ?_
  rintro i o⟨v,rfl,m,Yc⟩;exact⟨v,rfl,m.mono h.size,h.trans (Yc.mono h.size)⟩
 have x:=show Hid _ from D
 have U:=show Hid _ from C
 clear M V D C I;unfold maxLen at J;generalize Ye:Tm.dn b n=Q at*;clear Ye z F;generalize eI b n us=t at*;have Ym:(n:Int)<(b.length:Int):=by omega
 have Yn:(b.length:Int)<=(e:Int):=by omega
 have Yo:(b.length:Int)<=30:=by omega
 have Yp:(Q:Int)<=(b.length:Int):=by omega
 have Yq:(n:Int)<=(e:Int):=by omega
 have Yr:(e:Int)<=9223372036854775807:=by omega
 have Yl:(t.length:Int)<=1000:=by omega
 have Z:=show Hid _ from E
 clear E;by_cases Yt:e-Q=0
 ·obtain⟨rfl,rfl⟩:b.length=e∧Q=b.length:=by omega
  by_cases c:30<t.length
  ·have r:(30:Int)<(t.length:Int):=by omega
   rw[aD c,aD c];clear c;go_enter Tryz.func177,Tryz.ntmps177;go_wp2_with fail;refine s.mono ?_;rintro i R⟨rfl,d⟩;go_wp2_with fail;refine(w.out _ d).mono ?_;rintro i u⟨rfl,j⟩;have a:=d.trans (j.mono d.size);go_wp2_with(go_at_call 199;refine(pI _ _ _ _ _).mono ?_;rw[K];rintro i u⟨rfl,rfl⟩)
   go_region_with(first
    |(go_at_call 148;refine(H.out _ (by exact bD a 1)).mono ?_;rintro i S⟨rfl,k⟩;have g:=(bD a 1).trans (k.mono a.size))
    |(go_at_call 200;refine(x.out _ (some ⟨G,f,none⟩) _ _ g (by rw[eu];exact cZ.nil _ _ _) (by simp) (by omega)).mono ?_;rintro i T⟨v,rfl,m,l⟩;obtain⟨N,O,rfl,_⟩:=cU.ints m))
   all_goals(
    go_wp2;go_ret2
    exact⟨_,rfl,cU.nil _ _,l⟩)
  ·have r:(t.length:Int)<=30:=by omega
   rw[aE c,aE c];clear c;go_enter Tryz.func177,Tryz.ntmps177;go_wp2_with fail;refine s.mono ?_;rintro i R⟨rfl,d⟩;go_wp2_with fail;refine(w.out _ d).mono ?_;rintro i u⟨rfl,j⟩;have a:=d.trans (j.mono d.size);go_wp2_with(go_at_call 199;refine(pI _ _ _ _ _).mono ?_;rw[K];rintro i u⟨rfl,rfl⟩)
   go_region_with(first
    |(go_at_call 148;refine(H.out _ (by exact bD a 1)).mono ?_;rintro i S⟨rfl,k⟩;have g:=(bD a 1).trans (k.mono a.size))
    |(go_at_call 200;refine(x.out _ (some ⟨G,f,none⟩) _ _ g (by rw[eu];exact cZ.nil _ _ _) (by simp) (by omega)).mono ?_;rintro i T⟨v,rfl,m,l⟩;obtain⟨N,O,rfl,_⟩:=cU.ints m))
   all_goals(
    go_wp2;go_ret2
    exact⟨_,rfl,m,l⟩)
 ·by_cases c:30<t.length
  ·have r:(30:Int)<(t.length:Int):=by omega
   rw[aD c,aD c];clear c;go_enter Tryz.func177,Tryz.ntmps177;go_wp2_with fail;refine s.mono ?_;rintro i R⟨rfl,d⟩;go_wp2_with fail;refine(w.out _ d).mono ?_;rintro i u⟨rfl,j⟩;have a:=d.trans (j.mono d.size);go_wp2_with(go_at_call 199;refine(pI _ _ _ _ _).mono ?_;rw[K];rintro i u⟨rfl,rfl⟩)
   go_region_with(first
    |(go_at_call 148;refine(H.out _ (by exact bD a 1)).mono ?_;rintro i S⟨rfl,k⟩;have g:=(bD a 1).trans (k.mono a.size))
    |(go_at_call 200;refine(x.out _ (some ⟨G,f+Q,none⟩) _ _ g (cZ.drop U.out Q) (by simp) (by omega)).mono ?_;rintro i T⟨v,rfl,m,l⟩;obtain⟨N,O,rfl,_⟩:=cU.ints m))
   all_goals(
    go_wp2;go_ret2
    exact⟨_,rfl,cU.nil _ _,l⟩)
  ·have r:(t.length:Int)<=30:=by omega
   rw[aE c,aE c];clear c;go_enter Tryz.func177,Tryz.ntmps177;go_wp2_with fail;refine s.mono ?_;rintro i R⟨rfl,d⟩;go_wp2_with fail;refine(w.out _ d).mono ?_;rintro i u⟨rfl,j⟩;have a:=d.trans (j.mono d.size);go_wp2_with(go_at_call 199;refine(pI _ _ _ _ _).mono ?_;rw[K];rintro i u⟨rfl,rfl⟩)
   go_region_with(first
    |(go_at_call 148;refine(H.out _ (by exact bD a 1)).mono ?_;rintro i S⟨rfl,k⟩;have g:=(bD a 1).trans (k.mono a.size))
    |(go_at_call 200;refine(x.out _ (some ⟨G,f+Q,none⟩) _ _ g (cZ.drop U.out Q) (by simp) (by omega)).mono ?_;rintro i T⟨v,rfl,m,l⟩;obtain⟨N,O,rfl,_⟩:=cU.ints m))
   all_goals(
    go_wp2;go_ret2
    exact⟨_,rfl,m,l⟩)
theorem E7{us:List Int}{k:Int}(a:Tm.err d≠0):gZ d k us=Tm.err d:=by simp[gZ,a]
theorem EP{k:Int}(a:Tm.err t=0)(b:Tm.err d≠0):gZ t k d=Tm.err d:=by simp[gZ,a,b]
theorem Iq{us:List Int}(a:Tm.err d=0)(c:Tm.err us=0)(b:kq h 0 ((d.length:Int)-1)=false):gZ d h us=3:=by simp[gZ,a,c,b]
theorem uS(a:Tm.err d=0)(e:Tm.err t=0)(c:kq (b:Int) 0 ((d.length:Int)-1)=true):gZ d (b:Int) t=if 30<(eI d b t).length then 2 else 0:=by
 simp[gZ,a,e,c]
theorem zG(a:Tm.err d=0)(e:Tm.err t=0)(c:kq (b:Int) 0 ((d.length:Int)-1)=true):gj d (b:Int) t=if 30<(eI d b t).length then []else eI d b t:=by
 unfold gj;rw[uS a e c];by_cases f:30<(eI d b t).length<;>simp[f]
theorem tJ(a:gZ d h t≠0):gj d h t=[]:=by simp[gj,a]
theorem Aw(d us:List Int)(D m:Option Addr)(g q:Nat)(k:Int)(j:World)(i:cZ j.heap.size j D d)(o:cZ j.heap.size j m us)(w:d.length<=g)(e:g<=maxLen):
 Calls Tryz.prog 177 #[.slice D d.length g,.int .i64 k,.slice m us.length q] j fun r s=>∃v,r=.returned (.tuple #[v,.int .i64 (gZ d k us)])∧cU j.heap.size s v (gj d k us)∧Below j.heap.size j s:=by
 have h:=jn d D g j i;by_cases c:Tm.err d=0
 ·have t:∀x,Below j.heap.size j x->Calls Tryz.prog 112 #[.slice m us.length q] x fun r s=>r=.returned (.int .i64 (Tm.err us))∧Below x.heap.size x s:=fun x y=>jn us m q x ((o.below y).mono y.size)
  have l:=hid (t);clear t;by_cases f:Tm.err us=0
  ·by_cases p:kq k 0 ((d.length:Int)-1)=true
   ·have G:=(td _ _ _).1 p
    obtain⟨E,rfl⟩:∃E:Nat,k=(E:Int):=⟨k.toNat,by omega⟩;obtain⟨F,A,rfl,_⟩:=i.at (by omega);rw[uS c f p,zG c f p];exact Pf d us F A m g q E j i o w e c f (by omega)
   ·have u:kq k 0 ((d.length:Int)-1)=false:=by simpa using p
    have a:=Iq (us:=us) c f u;rw[tJ (by rw[a];decide),a];rw[c]at h;rw[f]at l;clear a p c f i o e;go_enter Tryz.func177,Tryz.ntmps177;go_wp2_with fail;refine h.mono ?_;rintro r B⟨rfl,b⟩;go_wp2_with fail;refine(l.out _ b).mono ?_;rintro r C⟨rfl,n⟩;go_wp2_with(go_at_call 199;refine(pI _ _ _ _ _).mono ?_;rw[u];rintro r C⟨rfl,rfl⟩)
    go_ret2
    exact⟨_,rfl,cU.nil _ _,b.trans (n.mono b.size)⟩
  ·have a:=EP (k:=k) c f
   rw[tJ (by rw[a];exact f),a];have z:(Tm.err us !=0)=true:=by simp[f]
   rw[c]at h;clear a c f i o e;generalize Tm.err us=H at*;go_enter Tryz.func177,Tryz.ntmps177;go_wp2_with fail;refine h.mono ?_;rintro r B⟨rfl,b⟩;go_wp2_with fail;refine(l.out _ b).mono ?_;rintro r C⟨rfl,n⟩;go_wp2;go_ret2
   exact⟨_,rfl,cU.nil _ _,b.trans (n.mono b.size)⟩
 ·have a:=E7 (us:=us) (k:=k) c
  rw[tJ (by rw[a];exact c),a];have z:(Tm.err d !=0)=true:=by simp[c]
  clear a c i o e;generalize Tm.err d=H at*;go_enter Tryz.func177,Tryz.ntmps177;go_wp2_with fail;refine h.mono ?_;rintro r B⟨rfl,b⟩;go_wp2;go_ret2
  exact⟨_,rfl,cU.nil _ _,b⟩
theorem I7(a o:List Int)(Yv B:Option Addr)(c Yl k:Nat)(i:World)(u:cZ i.heap.size i Yv a)(L:cZ i.heap.size i B o)(N:a.length<=c)(r:c<=maxLen)(C:Tm.err a=0)(O:Tm.err o=0)(Z:k<a.length):
 Calls Tryz.prog 120 #[.slice Yv a.length c,.int .i64 (k:Int),.slice B o.length Yl] i fun U D=>∃v,U=.returned v∧cU i.heap.size D v (eI a k o)∧Below i.heap.size i D:=by
 have Yw:=cK C;have Ym:=cK O;have Yy:=gL C Z;have Yx:=Tm.im a k;have G:=hid (L.some (dU O));obtain⟨s,d,rfl,YD,_⟩:=u.at (by omega);have h:Below i.heap.size i (i.alloc (.cells #[] 3)):=(ah _ _).alloc (af _) _;have Yc:cU i.heap.size (i.alloc (.cells #[] 3)) (.slice (some ⟨i.heap.size,0,none⟩) 0 0) []:=cU.lit i.heap.size i [] (af _) (by unfold maxLen;simp);have V:∀Q,Below i.heap.size i Q->Calls Tryz.prog 122 #[.slice (some ⟨s,d,none⟩) a.length c,.int .i64 (k:Int)] Q fun U D=>U=.returned (.int .i64 (Tm.dn a k:Int))∧Below Q.heap.size Q D:=
  fun Q W=>xq a (some ⟨s,d,none⟩) c k Q ((u.below W).mono W.size) N r C Z
 have R:=hid (V);have T:=hid (L);have Yh:=hid (u);have z:eI a k o=[]++a.take k++o++a.drop (Tm.dn a k):=by simp[eI]
 rw[z];have I:(a.take k).length=k:=by rw[cX];omega
 have H:(a.drop (Tm.dn a k)).length=a.length-Tm.dn a k:=by rw[cH]
 have S:=hid (u.take k);have K:Hid (∀J F,cZ J F (some ⟨s,d,none⟩) a->∀Yg,cZ J F (if Yg=0 then some ⟨s,d,none⟩else some ⟨s,d+Tm.dn a k,none⟩) (a.drop (Tm.dn a k))∨(Yg=0∧a.drop (Tm.dn a k)≠[])):=by
  intro J F M Yg;by_cases X:Yg=0
  ·by_cases Y:a.drop (Tm.dn a k)=[]
   ·left;rw[Y];exact cZ.nil _ _ _
   ·right;exact⟨X,Y⟩
  ·left;rw[aE X];exact M.drop _
 have g:=hid (I);have q:=hid (H);unfold maxLen at r;clear V L u z I H C O;generalize Tm.dn a k=P at*;generalize Yd:a.take k=Yf at*;generalize Ye:a.drop P=E at*;clear Yd Ye;have Yz:(k:Int)<=(c:Int):=by omega
 have YA:(P:Int)<=(a.length:Int):=by omega
 have YB:(a.length:Int)<=(c:Int):=by omega
 have YC:(a.length:Int)<=30:=by omega
 by_cases YE:c-P=0
 ·have A:E=[]:=bJ (by rw[q.out];omega)
  obtain⟨rfl,rfl⟩:a.length=c∧P=a.length:=by omega
  clear K;go_enter Tryz.func120,Tryz.ntmps120;go_wp2_with(first
   |(at_builtin;refine dB _ rfl (.tmp 7) (.tmp 10) rfl i.heap.size _ [] rfl Yc (some ⟨s,d,none⟩) Yf a.length (by rw[g.out];rfl) (fun p=>by cases p) ((S.out.below h).mono h.size) (by rw[g.out];simp;omega) h.size ?_;intro Yn Yq w l;have b:=h.trans l;clear l)
   |(at_builtin;refine dB _ rfl (.tmp 11) (.tmp 12) rfl i.heap.size _ _ rfl w B o _ rfl (fun p=>absurd p G.out) ((T.out.below b).mono b.size) (by rw[ai,g.out];simp;omega) b.size ?_;intro Yo Yr x m;have e:=b.trans m;clear m)
   |(go_at_call 122;refine(R.out _ e).mono ?_;rintro U Yt⟨rfl,j⟩;have y:=cU.below x j;have f:=e.trans (j.mono e.size);clear j)
   |(at_builtin;go_loud(refine dB _ rfl (.tmp 13) (.tmp 18) rfl i.heap.size _ _ rfl y (some ⟨s,d,none⟩) E 0 (by rw[A];rfl) (fun p=>by cases p) (by rw[A];exact cZ.nil _ _ _) (by rw[ai,ai,g.out,q.out];simp;omega) f.size ?_);intro Yp Yu n t))
  obtain⟨Yj,Yk,rfl,_⟩:=cU.ints n;go_ret;exact⟨_,rfl,n,f.trans t⟩
 ·have Yi:Hid (∀J F,cZ J F (some ⟨s,d,none⟩) a->cZ J F (some ⟨s,d+P,none⟩) E):=fun J F M=>by
   rcases K.out J F M 1 with p|p
   ·simpa using p
   ·exact absurd p.1 (by decide)
  clear K;go_enter Tryz.func120,Tryz.ntmps120;go_wp2_with(first
   |(at_builtin;refine dB _ rfl (.tmp 7) (.tmp 10) rfl i.heap.size _ [] rfl Yc (some ⟨s,d,none⟩) Yf c (by rw[g.out];rfl) (fun p=>by cases p) ((S.out.below h).mono h.size) (by rw[g.out];simp;omega) h.size ?_;intro Yn Yq w l;have b:=h.trans l;clear l)
   |(at_builtin;refine dB _ rfl (.tmp 11) (.tmp 12) rfl i.heap.size _ _ rfl w B o _ rfl (fun p=>absurd p G.out) ((T.out.below b).mono b.size) (by rw[ai,g.out];simp;omega) b.size ?_;intro Yo Yr x m;have e:=b.trans m;clear m)
   |(go_at_call 122;refine(R.out _ e).mono ?_;rintro U Yt⟨rfl,j⟩;have y:=cU.below x j;have f:=e.trans (j.mono e.size);clear j)
   |(at_builtin;go_loud(refine dB _ rfl (.tmp 13) (.tmp 18) rfl i.heap.size _ _ rfl y (some ⟨s,d+P,none⟩) E (c-P) (by rw[q.out];rfl) (fun p=>by cases p) (Yi.out _ _ ((Yh.out.below f).mono f.size)) (by rw[ai,ai,g.out,q.out];simp;omega) f.size ?_);intro Yp Yu n t))
  obtain⟨Yj,Yk,rfl,_⟩:=cU.ints n;go_ret;exact⟨_,rfl,n,f.trans t⟩
theorem qX(a:World)(b:List Int)(e:Nat)(d:e=a.heap.size+1):cZ e (a.alloc (.cells (b.map (Value.int .i64)).toArray 3)) (some ⟨a.heap.size,0,none⟩) b:=by
 subst d;intro f c;refine⟨a.heap.size,0,rfl,by omega,?_⟩;rw[dp (aM a _)];simp[c]
theorem fx(b:e.cell? B=some g):B.block<e.heap.size:=by
 obtain⟨c,a,_⟩:=not_walk_of_cell b;exact(ak.1 a).1
def np(n:Nat)(W:World)(a:Option Addr)(ss:List (List Int)):Prop:=
 ∀j,j<ss.length->∃b off aj cj,a=some ⟨b,off,none⟩∧b<n∧W.cell? ⟨b,off+j,none⟩=some (.slice aj (ss[j]?.getD []).length cj)∧cZ n W aj (ss[j]?.getD [])∧(ss[j]?.getD []).length<=cj∧cj<=maxLen∧(aj=none->cj=0)
theorem np.below(s:Below b e q)(n:np b e r i):np b q r i:=fun t m=>by
 obtain⟨o,a,d,f,u,c,l,k,g,h,j⟩:=n t m;exact⟨o,a,d,f,u,c,(s.cell (p:=⟨o,a+t,none⟩) c).trans l,k.below s,g,h,j⟩
theorem np.mono(p:b<=s)(m:np b e r i):np s e r i:=fun t l=>by
 obtain⟨n,a,c,d,o,q,k,j,f,g,h⟩:=m t l;exact⟨n,a,c,d,o,by omega,k,j.mono p,f,g,h⟩
theorem np.at(g:np b e r i)(q:0<i.length):
 ∃f a,r=some ⟨f,a,none⟩∧f<b∧∀j,j<i.length->∃d c,e.cell? ⟨f,a+j,none⟩=some (.slice d (i[j]?.getD []).length c)∧cZ b e d (i[j]?.getD [])∧(i[j]?.getD []).length<=c∧c<=maxLen∧(d=none->c=0):=by
 obtain⟨f,a,_,_,rfl,h,_⟩:=g 0 q;refine⟨f,a,rfl,h,fun j l=>?_⟩;obtain⟨o,n,d,c,p,_,k,m⟩:=g j l;cases p;exact⟨d,c,k,m⟩
theorem np.nil(d:Nat)(b:World)(c:Option Addr):np d b c []:=fun e a=>by simp at a
def ez:List (List Int)->Int
 |[]=>0
 |t::l=>if Tm.err t=0 then ez l else Tm.err t
def e7(ss:List (List Int)):Int:=if ss.length=8 then ez ss else 1
theorem uj{ss:List (List Int)}{k:Nat}(b:k<ss.length)(a:Tm.err (ss[k]?.getD [])=0):ez (ss.drop k)=ez (ss.drop (k+1)):=by
 rw[bZ b,ez];simp only[b,an,dy]at a;rw[aD a]
theorem uy{ss:List (List Int)}{k:Nat}(b:k<ss.length)(a:Tm.err (ss[k]?.getD [])≠0):ez (ss.drop k)=Tm.err (ss[k]?.getD []):=by
 rw[bZ b,ez];simp only[b,an,dy]at a⊢;rw[aE a]
theorem j6(c:ez i=0):∀k,k<i.length->Tm.err (i[k]?.getD [])=0:=by
 induction i with
 |nil=>intro k b;simp at b
 |cons e f d=>
  intro k b;unfold ez at c;by_cases a:Tm.err e=0
  ·rw[aD a]at c
   cases k with
   |zero=>simpa using a
   |succ k=>simpa using d c k (by simpa using b)
  ·rw[aE a]at c;exact absurd c a
theorem Ev(a:Nat)(e:Option Addr)(b:Nat)(c:World)(h:a≠8):Calls Tryz.prog 197 #[.slice e a b] c fun f d=>f=.returned (.int .i64 1)∧Below c.heap.size c d:=by
 have g:((a:Int)!=8)=true:=by simp;omega
 go_enter Tryz.func197,Tryz.ntmps197;go_wp2;go_ret;exact⟨rfl,ah _ _⟩
theorem Cd(ss:List (List Int))(t:ss.length=8)(H:Option Addr)(q:Nat)(o:World)(r:np o.heap.size o H ss):
 Calls Tryz.prog 197 #[.slice H 8 q] o fun y F=>y=.returned (.int .i64 (ez ss))∧Below o.heap.size o F:=by
 obtain⟨J,u,rfl,A,s⟩:=r.at (by omega);have v:=hid s;have i:=hid t;clear s r t;go_enter Tryz.func197,Tryz.ntmps197;go_wp2;go_loopw [11](fun D wr=>∃k:Nat,k<=8∧D=.int .i64 (k:Int)∧Hid (ez ss=ez (ss.drop k))∧Below o.heap.size o wr)(fun D _=>8-(intOf D).toNat)
 case atStart=>exact⟨0,bf _,rfl,rfl,ah _ _⟩
 case round=>
  obtain⟨k,K,rfl,c,a⟩:=hrel;by_cases f:k<8
  ·have C:(k:Int)<8:=by omega
   obtain⟨w,x,l,j,_⟩:=v.out k (by rw[i.out];exact f);have B:=(a.cell (p:=⟨J,u+k,none⟩) A).trans l;have e:=jn (ss[k]?.getD []) w x wr ((j.below a).mono a.size);have h:=hid (uj (ss:=ss) (k:=k) (by rw[i.out];exact f));have g:=hid (uy (ss:=ss) (k:=k) (by rw[i.out];exact f));clear l j;generalize ss[k]?.getD []=E at*;by_cases b:Tm.err E=0
   ·have n:=hid (c.out.trans (h.out b))
    rw[b]at e;clear h g b c;go_wp2_with(go_at_call 112;refine e.mono ?_;clear e;rintro y G⟨rfl,d⟩)
    go_roundw
    case rel=>exact⟨k+1,by omega,by go_num,n.out,a.trans (d.mono a.size)⟩
    case measure=>simp[intOf];omega
   ·have m:=hid (c.out.trans (g.out b))
    have I:(Tm.err E !=0)=true:=by simp[b]
    clear h g b c;generalize Tm.err E=L at*;go_wp2_with(go_at_call 112;refine e.mono ?_;clear e;rintro y G⟨rfl,d⟩)
    go_ret;exact⟨by rw[m.out];rfl,a.trans (d.mono a.size)⟩
  ·obtain rfl:k=8:=by omega
   have z:Hid (ez ss=0):=by
    show _=_;rw[c.out,<-i.out,eu];rfl
   clear c;go_wp2;go_ret;exact⟨by rw[z.out];rfl,a⟩
theorem E3(c:List (List Int))(e:Option Addr)(a:Nat)(d:World)(f:np d.heap.size d e c):
 Calls Tryz.prog 197 #[.slice e c.length a] d fun h g=>h=.returned (.int .i64 (e7 c))∧Below d.heap.size d g:=by
 unfold e7;by_cases b:c.length=8
 ·rw[aD b,b];exact Cd c b e a d f
 ·rw[aE b];exact Ev _ e a d b
