/-
  Parts of the proof.
-/
import Derived.Test.YtglohanbpjaieaaGreatDoorBdp4
import Derived.DeepKeys4
import Derived.Deep.DrawnRows
set_option maxHeartbeats 2000000
set_option maxRecDepth 100000
namespace Go.Proofs.YtglohanbpjaieaaGreatDoor
open Go.Proofs Go.RowKit Go.Shelf Go.Maps
variable {A:Fence}{B:Int}{C:Value}{D:Program}{E:Act}{I:FuncId}{J:uC}{L:Ending->World->Prop}{M:Exit->Act->World->Prop}{N X Y:TypeId}{R:Array Tmp}{S:Nat->Array Value}{U:Option Addr}{V:Operand}{W:Array Value}{Yc:World->Prop}{Ye:Array MapEntry}{Yf:Lit}{Z:Nat->World->Prop}{b G Yd:List Int}{e t H O:Nat}{h z:World}{u:List (List Int)}{y T:Value->Option Value}
theorem Jn(a p:List Int)(o D:Option Addr)(u t:Nat)(g:World)(H:cZ g.heap.size g o a)(G:cZ g.heap.size g D p)(E:a.length<=u∧u<=maxLen)(N:p.length<=t∧t<=maxLen):
 Calls Tryz.prog 152 #[.slice o a.length u,.slice D p.length t] g fun M V=>∃v,M=.returned (.tuple #[v,.int .i64 (dY a p)])∧cU g.heap.size V v (mf a p)∧Below g.heap.size g V:=by
 have w:=qA a p o D u t g H G;unfold mf;by_cases k:dY a p=0
 ·obtain⟨J,U⟩:=pE k
  have Ye:=cK J;have Y:(a.length:Int)<=30:=by omega
  rw[aD k,k];rw[k]at w;have I:=hid (fun C(n:Below g.heap.size g C)b(A:b<a.length)=>r7 a o u b C ((H.below n).mono n.size) E.1 E.2 J A);have Q:=hid (fun C(n:Below g.heap.size g C)b(A:b<a.length)X Yc(O:cZ C.heap.size C X (cD a b))P=>Da p (cD a b) D X t Yc C U (fD J A) ((G.below n).mono n.size) O N P);clear H G E N k J U;go_enter Tryz.func152,Tryz.ntmps152;go_wp2_with(first
   |(go_at_call 59;refine w.mono ?_;clear w;rintro M g⟨rfl,rfl⟩))
  go_loopw [7,8](fun v Yg wr=>∃b:Nat,b<=a.length∧Yg=.int .i64 (b:Int)∧cU g.heap.size wr v (mM a p (jq a b))∧Below g.heap.size g wr)(fun _ Yg _=>a.length-(intOf Yg).toNat)
  case atStart=>exact⟨0,bf _,rfl,cU.nil _ _,ah _ _⟩
  case round=>
   obtain⟨b,A,rfl,F,s⟩:=hrel;obtain⟨Ym,Yo,rfl,_⟩:=cU.ints F;by_cases l:b<a.length
   ·have Yf:(b:Int)<(a.length:Int):=by omega
    have r:=I.out wr s b l;have e:=hid (Gr (p:=p) (jq a b) ⟨b,l⟩);have f:=hid (fun m=>D8 (p:=p) (m:=m) (jq a b) ⟨b,l⟩);have T:=Gf (p:=p) (jq a b);rw[vD a b A]at T;have q:=hid (fun C n X Yc O P=>Q.out C n b l X Yc O P);have L:=hid (tI l);dsimp only at e f
    cases c:Tm.fit p (cD a b)with
    |none=>
     rw[c]at q;have B:Hid (mM a p (jq a (b+1))=mM a p (jq a b)):=by show _=_;rw[L.out];exact e.out c
     clear e f c;go_wp2_with(first
      |(go_at_call 94;refine r.mono ?_;clear r;rintro M Yj⟨Yh,rfl,y,h⟩;obtain⟨Z,Yd,rfl,x,z⟩:=cU.ints y;have d:=s.trans (h.mono s.size))
      |(go_at_call 119;refine(q.out _ d _ _ x z).mono ?_;rintro M W⟨Yi,rfl,_,i⟩;have j:=d.trans (i.mono d.size);simp only[Option.isSome_none]))
     go_roundw
     case rel=>exact⟨b+1,by omega,by go_num,by rw[B.out];exact(cU.below F h).below i,j⟩
     case measure=>simp[intOf];omega
    |some m=>
     rw[c]at q;have B:Hid (mM a p (jq a (b+1))=mM a p (jq a b)++[(b:Int)]):=by show _=_;rw[L.out];exact f.out m c
     clear e f c;go_wp2_with(first
      |(go_at_call 94;refine r.mono ?_;clear r;rintro M Yj⟨Yh,rfl,y,h⟩;obtain⟨Z,Yd,rfl,x,z⟩:=cU.ints y;have d:=s.trans (h.mono s.size))
      |(go_at_call 119;refine(q.out _ d _ _ x z).mono ?_;rintro M W⟨Yi,rfl,_,i⟩;have j:=d.trans (i.mono d.size);simp only[Option.isSome_some];have S:=(cU.below F h).below i)
      |(at_builtin;go_loud(refine pN _ rfl _ _ rfl g.heap.size _ (mM a p (jq a b)) rfl (cU.alloc S _) W.heap.size (b:Int) rfl (l0 _ _ _ _ rfl) (by omega) (by have:=j.size;simp;omega) ?_);intro Yq Yr K Yk R;obtain⟨Yn,Yp,rfl,_⟩:=cU.ints K))
     go_roundw
     case rel=>exact⟨b+1,by omega,by go_num,by rw[B.out];simpa using K,(j.alloc j.size _).trans R⟩
     case measure=>simp[intOf];omega
   ·obtain rfl:b=a.length:=by omega
    go_wp2;go_ret2
    exact⟨_,rfl,F,s⟩
 ·rw[aE k]
  have Yl:(dY a p !=0)=true:=by simp[k]
  clear H G k E N;generalize dY a p=Yt at*;go_enter Tryz.func152,Tryz.ntmps152;go_wp2_with(first
   |(go_at_call 59;refine w.mono ?_;clear w;rintro M g⟨rfl,rfl⟩))
  go_ret2
  exact⟨_,rfl,cU.nil _ _,ah _ _⟩
theorem cU.drewN{base:Nat}(c:cU base h C b)(a:Nat):cU base (h.drewN a) C b:=c
theorem cU.IS{base:Nat}(a:cU base h (.slice (some ⟨e,0,none⟩) t H) b):base<=e∧e<h.heap.size:=bn a e rfl
theorem cU.PC{base:Nat}(i:cU base h C b)(k:0<b.length):∃g c,C=.slice (some ⟨g,0,none⟩) b.length c∧(∀j,j<b.length->h.cell? ⟨g,j,none⟩=some (.int .i64 (b[j]?.getD 0)))∧∀j,h.frozen? ⟨g,j,none⟩=false:=by
 obtain⟨f,d⟩:∃f,b.length=f+1:=⟨b.length-1,by omega⟩;have a:h.ownsRow base 3 1 C (f+1) (b.map (Value.int .i64)):=by rw[<-d];exact i
 obtain⟨g,c,rfl⟩:=jy a;rw[<-d]at a;refine⟨g,c,by rw[d],fun j e=>?_,fun j=>?_⟩
 ·have:=dI (by rw[d]at a;exact a) j (by omega)
  rw[this];simp[e]
 ·exact World.ownsRow.frozenAt (by rw[d]at a;exact a) j
def sX(w W1:World)(t:List Int)(g n c k:Nat)(vs:Value)(wr:World):Prop:=
 cU W1.heap.size wr vs (db [] (t.take k))∧cU w.heap.size wr (.slice (some ⟨g,0,none⟩) n c) (lZ t k)∧Below w.heap.size w wr∧W1.heap.size<=wr.heap.size
theorem sX.same{wr:World}(j:sX h z b t H O e C wr)(a:e<b.length)(c:0<=b[e]?.getD 0):sX h z b t H O (e+1) C wr:=by
 obtain⟨d,f,g,i⟩:=j;refine⟨?_,?_,g,i⟩
 ·rw[vm [] a,Io c];exact d
 ·rw[Fs a c];exact f
theorem sX.store{wr:World}(n:t<z.heap.size)(k:H=b.length)(j:e<b.length)
 (c:cU z.heap.size wr C (db [] (b.take (e+1))))(d:cU h.heap.size wr (.slice (some ⟨t,0,none⟩) H O) (lZ b e))(g:Below h.heap.size h wr)(i:z.heap.size<=wr.heap.size)
 (f:Int)(l:f=jM (db [] (b.take e)) (b[e]?.getD 0)):sX h z b t H O (e+1) C (wr.setCell ⟨t,e,none⟩ (.int .i64 f)):=by
 have a:=iz wr t e (.int .i64 f);refine⟨dM c a (.inr fun m=>?_),?_,g.setCell (p:=⟨t,e,none⟩) d.IS.1 _,aK i a.size⟩
 ·have:=(bn c t m).1
  omega
 ·rw[Fm j,<-l]
  exact d.set (by rw[wu (by omega)];exact k) e f
theorem jw(a:List (List Int))(c:Int)(b:List Int):bo a (c::b)=gh a c++bo a b:=by simp[bo]
theorem rO(a:0<=B):gh u B=[B]:=by unfold gh;rw[aE (by omega)]
def qO(ss:List (List Int)):Prop:=∀j,j<8->Tm.err (ss[j]?.getD [])=0
theorem qO.of(b:e7 u=0):qO u:=fun c a=>j6 (jx b).2 c (by rw[(jx b).1];exact a)
theorem tG(b:qO u)(c: -8<=B)(a:B<0):Tm.err (gh u B)=0:=by
 unfold gh;rw[aD a];exact b _ (by omega)
theorem wo(h:qO u):∀(c:List Int)(n:Nat),c.all Tm.known=true->Tm.run c n=c.length->Tm.run (bo u c) n=(bo u c).length:=by
 intro c;induction c with
 |nil=>intro n _ a;rw[Tm.oM]at a;subst a;rw[bH,Tm.gu];rfl
 |cons i j e=>
  intro n b a;rw[ng,dW]at b;cases n with
  |zero=>rw[Tm.gu,aI]at a;omega
  |succ n=>
   rw[Tm.fT,aI]at a;rw[jw];by_cases d:i<0
   ·rw[tg d]at a
    have g:=fS (tG h (j7 b.1) d);have f:=e n b.2 (by rw[gp]at a;omega);rw[show n+1=1+n from by omega,Tm.rF,mh _ _ 1 (by omega),g,lu,f,ai]
   ·rw[rO (by omega),gz,Tm.fT,aI,e _ b.2 (by omega)]
    omega
theorem CU(e:qO u):∀(b:List Int),b.all Tm.known=true->(bo u b).all Tm.known=true:=by
 intro b;induction b with
 |nil=>intro _;rfl
 |cons f g d=>
  intro a;rw[ng,dW]at a;rw[jw,ru,d a.2];by_cases c:f<0
  ·rw[fw (tG e (j7 a.1) c)];rfl
  ·rw[rO (by omega)];simp[a.1]
theorem nE(d:qO u)(a:Tm.err b=0)(c:(bo u b).length<=30):Tm.err (bo u b)=0:=
 nQ c (CU d b (fw a)) (wo d b 1 (fw a) (fS a))
def qU(m:uC)(s:Int):List Int:=if s<0 then(m s).getD [s]else [s]
theorem Ds(c: -8<=B):gh (fH J 8) B=qU J B:=by
 unfold gh qU;by_cases a:B<0
 ·rw[aD a,aD a]
  have b:(-1-B).toNat<8:=by omega
  simp only[fH,ic];rw[oo b];simp only[rv,dy];rw[aD b,show-1-(((-1-B).toNat:Nat):Int)=B from by omega]
 ·rw[aE a,aE a]
theorem A3:∀(p:List Int),p.all Tm.known=true->bo (fH J 8) p=p.flatMap (qU J):=by
 intro p;induction p with
 |nil=>intro _;rfl
 |cons d c b=>
  intro a;rw[ng,dW]at a;rw[jw,b a.2,Ds (j7 a.1),kC]
theorem Ew(a:List Int)(b:Nat):cD a b++a.drop (Tm.dn a b)=a.drop b:=by
 have c:=Tm.im a b;unfold cD;rw[show a.drop (Tm.dn a b)=(a.drop b).drop (Tm.dn a b-b)from by rw[kt];congr 1;omega,fM]
theorem EC(c h:List Int):∀(n i k:Nat)(m b:uC),c.length-i=n->i<=c.length->ko c h i k->eD h (c.drop i) k m=some b->
 (∀x u,m x=some u->b x=some u)∧(c.drop i).flatMap (qU b)=h.drop k:=by
 intro n;induction n with
 |zero=>
  intro i k m b w v e d;obtain rfl:i=c.length:=by omega
  rw[eu,mO]at d;cases d;rw[eu,e.fin,eu];exact⟨fun _ _ d=>d,rfl⟩
 |succ n t=>
  intro i k m b w v e d;have a:i<c.length:=by omega
  have q:=e.pos a;rw[bZ a,eD]at d;rw[bZ a,kC];by_cases f:c[i]<0
  ·rw[aD f]at d
   by_cases p:(m c[i]).isSome=true∧m c[i]≠some (cD h k)
   ·rw[aD p]at d;cases d
   ·rw[aE p]at d
    obtain⟨j,o⟩:=t (i+1) (Tm.dn h k) _ b (by omega) (by omega) (e.var a (by simpa [a]using f)) d;have r:=j c[i] (cD h k) (nC _ _ _);refine⟨fun x u l=>?_,?_⟩
    ·by_cases y:x=c[i]
     ·subst y
      have:m c[i]=some (cD h k):=by
       by_cases s:m c[i]=some (cD h k)
       ·exact s
       ·exact absurd ⟨by rw[l];rfl,s⟩ p
      rw[this]at l;cases l;exact r
     ·exact j x u (by rw[my _ _ y];exact l)
    ·rw[o,show qU b c[i]=cD h k from by unfold qU;rw[aD f,r];rfl,Ew]
  ·rw[aE f]at d
   by_cases g:h[k]?.getD 0=c[i]
   ·rw[aD g]at d
    obtain⟨j,o⟩:=t (i+1) (k+1) m b (by omega) (by omega) (e.sym a (by simpa [a]using g)) d;refine⟨j,?_⟩;rw[o,show qU b c[i]=[c[i]]from by unfold qU;rw[aE f],bZ q];simp[q]at g;rw[g];rfl
   ·rw[aE g]at d;cases d
theorem Fh(a:Tm.err b=0)(c:Tm.err G=0)(d:Tm.fit b G=some J):bo (fH J 8) b=G:=by
 rw[A3 b (fw a)];have:=(EC b G _ 0 0 _ J rfl (by omega) (ko.start a c) (by simpa [Tm.fit]using d)).2
 simpa using this
theorem wk{pre post:List Int}(a:Tm.run b 1=b.length):Tm.dn (pre++(b++post)) pre.length=pre.length+b.length:=by
 have c:=nV (pre:=pre) (t:=b) (post:=post) (k:=0) (by omega) (by rw[jK];omega);rw[gp,jK,a]at c;exact c
theorem Dv(a:Tm.run b 1=b.length):cD (G++(b++Yd)) G.length=b:=by
 unfold cD;rw[wk a,lu,show G.length+b.length-G.length=b.length from by omega,xh]
theorem G9(a:∀j,j<u.length->Tm.run (u[j]?.getD []) 1=(u[j]?.getD []).length):∀m,m<=u.length->Tm.pos (B::u.flatten) 0 m=(B::(u.take m).flatten).length:=by
 intro m;induction m with
 |zero=>intro _;simp[Tm.iI]
 |succ m b=>
  intro d;rw[Tm.jL,b (by omega)];have c:B::u.flatten=(B::(u.take m).flatten)++(u[m]?.getD []++(u.drop (m+1)).flatten):=by rw[bc,<-tB (by omega)]
  rw[c,wk (a m (by omega)),aI,aI,pV (by omega),ai];omega
theorem AF{gK:List (List Int)}(a:∀j,j<gK.length->Tm.run (gK[j]?.getD []) 1=(gK[j]?.getD []).length)(b:e<gK.length):fu (B::gK.flatten) e=gK[e]?.getD []:=by
 unfold fu;rw[G9 a e (by omega)];have c:B::gK.flatten=(B::(gK.take e).flatten)++(gK[e]?.getD []++(gK.drop (e+1)).flatten):=by rw[bc,<-tB (by omega)]
 rw[c,Dv (a e b)]
def lH(x:List Int)(n:Nat):List (List Int):=(List.range n).map (fu x)
theorem s6(b:List Int)(a:Nat):(lH b a).length=a:=by simp[lH]
theorem Ju(a:List Int)(b:e<t):(lH a t)[e]?.getD []=fu a e:=by simp[lH,b]
theorem Fo(b:List Int)(a:Nat):lH b (a+1)=lH b a++[fu b a]:=by simp[lH,List.range_succ]
theorem Gs(b:List Int)(a:Nat):b.take (Tm.dn b a)=b.take a++cD b a:=by
 have:=Tm.im b a
 unfold cD;rw[show Tm.dn b a=a+(Tm.dn b a-a)from by omega,ye,show a+(Tm.dn b a-a)-a=Tm.dn b a-a from by omega]
theorem GQ(e:0<b.length):∀n,b.take (Tm.pos b 0 n)=dX b::(lH b n).flatten:=by
 intro n;induction n with
 |zero=>
  obtain⟨c,a,rfl⟩:∃c a,b=c::a:=by cases b with|nil=>simp at e|cons c a=>exact⟨c,a,rfl⟩
  simp[Tm.iI,dX,lH]
 |succ n d=>
  rw[Tm.jL,Gs,d,Fo,fB,bc];simp[fu]
theorem AQ(c:Tm.err b=0):Tm.pos b 0 (Tm.room (dX b))=b.length:=by
 have a:=Tm.ub b 0 (dU c);rw[jK,fS c]at a;exact a.symm
theorem KZ(a:Tm.err b=0):b=dX b::(lH b (Tm.room (dX b))).flatten:=by
 rw[<-GQ (dU a),AQ a,cJ]
theorem G4(c:List Int)(a b:Nat):Tm.pos c a b<Tm.pos c a (b+1):=by rw[Tm.jL];exact Tm.im _ _
theorem mY(c:Tm.err b=0){m:Nat}(e:m<Tm.room (dX b)):Tm.pos b 0 m<b.length:=by
 have d:=G4 b 0 m;have a:=nz b 0 (m+1) (Tm.room (dX b)) (by omega);rw[AQ c]at a;omega
theorem mS(c:Tm.err b=0)(a:e<Tm.room (dX b)):Tm.err (fu b e)=0:=fD c (mY c a)
theorem j8(a:Tm.err b=0)(c:e<b.length):dX (cD b e)=b[e]?.getD 0:=by
 have f:=fZ a c;have d:=Tm.im b e;unfold dX cD;rw[oI (by omega),oV];simp
theorem mL(a:Tm.err b=0)(c:e<b.length):∀m,m<=Tm.room (b[e]?.getD 0)->Tm.pos b e m=e+Tm.pos (cD b e) 0 m:=by
 have f:=fD a c;have i:=j8 a c;have g:=Tm.split b e;have h:(b.take e).length=e:=by simp;omega
 intro m;induction m with
 |zero=>intro _;simp[Tm.iI]
 |succ m j=>
  intro n;have d:=mY f (m:=m) (by rw[i];omega);rw[Tm.jL,Tm.jL,j (by omega)];have l:=nV (pre:=b.take e) (t:=cD b e) (post:=b.drop (Tm.dn b e)) (k:=Tm.pos (cD b e) 0 m) (by omega) (gL f d);rw[<-g,h]at l;exact l
theorem wi(a:Tm.err b=0)(c:e<b.length){m:Nat}(l:m<Tm.room (b[e]?.getD 0)):fu (cD b e) m=cD b (Tm.pos b e m):=by
 have f:=fD a c;have i:=j8 a c;have g:=Tm.split b e;have h:(b.take e).length=e:=by simp;omega
 have d:=mY f (m:=m) (by rw[i];omega);have j:=s7 (pre:=b.take e) (t:=cD b e) (post:=b.drop (Tm.dn b e)) (k:=Tm.pos (cD b e) 0 m) (by omega) (gL f d);rw[<-g,h]at j;rw[mL a c m (by omega),j];rfl
theorem yl(b:List (List Int))(a:List (List Int)):bo b a.flatten=(a.map (bo b)).flatten:=by
 induction a with
 |nil=>simp[bo]
 |cons e d c=>rw[fO,fF,fO,<-c];simp[bo]
theorem lU(g:qO u)(d:Tm.err b=0)(i:0<=dX b):dX (bo u b)=dX b∧∀m,m<Tm.room (dX b)->fu (bo u b) m=bo u (fu b m):=by
 have k:bo u b=dX b::((lH b (Tm.room (dX b))).map (bo u)).flatten:=by
  conv=>lhs;rw[KZ d]
  rw[jw,rO i,yl];rfl
 have j:∀c,c<((lH b (Tm.room (dX b))).map (bo u)).length->Tm.run (((lH b (Tm.room (dX b))).map (bo u))[c]?.getD []) 1=(((lH b (Tm.room (dX b))).map (bo u))[c]?.getD []).length:=by
  intro c a;rw[en,s6]at a;have h:((lH b (Tm.room (dX b))).map (bo u))[c]?.getD []=bo u (fu b c):=by simp[lH,a]
  rw[h];have e:=mS d a;exact wo g _ 1 (fw e) (fS e)
 constructor
 ·rw[k];simp[dX]
 ·intro m f
  rw[k,AF j (by rw[en,s6];exact f)];simp[lH,f]
theorem iw.stays{r:Int->Int}(e:qO u)(t:iw r b G):Tm.err b=0->Tm.err G=0->iw r (bo u b) (bo u G):=by
 induction t with
 |eq b G h a y=>
  intro d f;obtain⟨c,i⟩:=lU e d (iw.pos (r:=r) (.eq b G h a y));exact .eq _ _ h (by rw[c];exact a) (by rw[i h a,y])
 |sub b G h a t k=>
  intro d f;obtain⟨c,i⟩:=lU e d (iw.pos (.sub b G h a t));exact .sub _ _ h (by rw[c];exact a) (by rw[i h a];exact k (mS d a) f)
 |rk b G g n o q w k=>
  intro d f;obtain⟨c,i⟩:=lU e d g;obtain⟨j,l⟩:=lU e f n;exact .rk _ _ (by rw[c];exact g) (by rw[j];exact n) (fun h a=>by rw[j]at a;rw[l h a];exact k h a d (mS f a)) (by rw[c,j];exact q) (by rw[c,j];exact w)
 |lex b G h g m o a v z k s=>
  intro d f;obtain⟨c,i⟩:=lU e d g;obtain⟨j,l⟩:=lU e f (by omega);exact .lex _ _ h (by rw[c];exact g) (by rw[c,j];exact m) (fun h a=>by rw[j]at a;rw[l h a];exact k h a d (mS f a)) (by rw[c];exact a)
   (fun x p=>by rw[i x (by omega),l x (by rw[<-m];omega),v x p]) (by rw[i h a,l h (by rw[<-m];exact a)];exact s (mS d a) (mS f (by rw[<-m];exact a)))
def Jw(P:Program)(l:Nat)(R:Ending->World->Prop):Exit->Act->World->Prop
 |.panic chain,a,w=>a.defers=[]∧R (.panicked chain) w
 |e,a,w=>roundPost P l R e a w
theorem C9{F:Fence}{tmps:Array Value}{assign body:Code}(hF:F.fn I)(S:(∀O W,¬L (.panicked O) W)∨∃fn,D.funcs[I]?=some fn)
 (Q:assign.wpIn (F.inRound e) t D (Exit.then (fun p H=>∃y,(Instr.beginRound e).run D H=.ok () y∧body.wpIn (F.inRound e) t D (Jw D e L) p y) (fun _ _ _=>False)) {tmps:=tmps,defers:=[]} h):
 RoundIn F t D e I tmps assign body h L:=by
 refine⟨hF,fun J r T=>?_⟩;obtain⟨k,w⟩:∃k:Frame,k={(default:Frame)with fn:=I,kind:=.normal,roundOf:=some e}:=⟨_,rfl⟩;have K:Frame.round e I tmps assign body .normal=k.atR {tmps:=tmps,defers:=[]} [.code assign,.beginRound,.code body]:=by rw[w];simp[Frame.round,Frame.atR]
 have a:k.roundOf=some e:=by rw[w]
 have n:k.kind=.normal:=by rw[w]
 have z:k.fn=I:=by rw[w]
 have f:(F.inRound e).room ((J::r).length+1+t):=T;have d:(F.inRound e).fn k.fn:=by rw[z];exact hF
 obtain⟨X,p,H,o,s⟩:=Q k [.beginRound,.code body] (J::r) (by rw[a];rfl) d f;rw[<-K]at s;cases X with
 |normal=>
  obtain⟨y,B,x⟩:=o;have U:StepsIn (Machine.fenced D (F.inRound e)) D (lone (k.atR p [.beginRound,.code body]) (J::r) H) (lone (k.atR p [.code body]) (J::r) y):=
   .one (RV (fr:=k.atR p [.beginRound,.code body]) d f rfl) (stepR_beginRound a B)
  obtain⟨P,q,N,j,c⟩:=x k [] (J::r) (by rw[a];rfl) d f;have v:=RI s U;cases P with
  |normal=>
   obtain⟨G,m,b,i⟩:=j;exact⟨.returned G,m,i,v.trans (RI c (.one (RV (fr:=k.atR q []) d f rfl) (stepR_round_end a n b)))⟩
  |ret=>
   obtain⟨G,m,b,i⟩:=j;obtain⟨u,l⟩:=c.2 (by rw[a];rfl);exact⟨.returned G,m,i,v.trans (RI l (.one (RV (fr:=k.atR q (.code .ret::u)) d f rfl) (stepR_round_ret a n b)))⟩
  |exit id=>
   obtain⟨G,m,b,i⟩:=j;obtain⟨u,C,l⟩:=c.2 (by rw[a];rfl) rfl;exact⟨.returned G,m,i,v.trans (RI l (.one (RV (fr:=k.atR q (.code (.exit id)::u)) d f rfl) (stepR_round_exit a n C b)))⟩
  |goto V=>
   obtain⟨G,m,b,i⟩:=j;obtain⟨u,C,l⟩:=c.2 (by rw[a];rfl) rfl;exact⟨.returned G,m,i,v.trans (RI l (.one (RV (fr:=k.atR q (.code (.goto V)::u)) d f rfl) (stepR_round_goto a n C b)))⟩
  |panic g=>
   obtain⟨R,i⟩:=j;obtain⟨E,l⟩:=c;have A:=S.resolve_left (fun Q=>Q _ _ i);have M:({k.atR q E with mode:=.panicking g}:Frame).leaving D N (.panicked g):=⟨rfl,R,by rw[<-z]at A;exact A⟩;exact⟨.panicked g,N,i,v.trans (RI l (.one (fenced_leaving (F:=F.inRound e) d f M) (step_leave_panicked M)))⟩
  |outgrown=>exact j.elim
 |exit id=>exact o.elim
 |goto V=>exact o.elim
 |ret=>exact o.elim
 |panic g=>exact o.elim
 |outgrown=>exact o.elim
def EO(F:Fence)(n:Nat)(P:Program)(g:Nat)(lb:Array Value)(Bh:Nat->Array Value)(r:Nat)(rd:Nat->World->Prop)(set:Nat->World->World):Prop:=
 ∀(l:Nat)(J:Nat->World->Prop)(Jx:World->Prop)(Jp:List PanicEntry->World->Prop)(W:World),AbidesFrom W.heap.size J->(∀i W,J i W->rd i W)->
  (∀i W1,J i W1->i<r->YieldAt F (n-1) P l (Bh i) (set i W1) fun e W'=>(e=.returned (.bool true)∧J (i+1) W')∨(e=.returned (.bool false)∧Jx W')∨∃ch,e=.panicked ch∧Jp ch W')->
  J 0 W->CallsIn F n P g (#[.func (.yield l) #[] #[]]++lb) W fun e W'=>((∃v,e=.returned v)∧(J r W'∨Jx W'))∨∃ch,e=.panicked ch∧Jp ch W'
def CD(F:Fence)(n:Nat)(P:Program)(g:Nat)(lb:Array Value)(Bh:Nat->Array Value)(r:Nat)(rd:World->Prop):Prop:=EO F n P g lb Bh r (fun _=>rd) (fun _ W=>W)
def Hi(B:Nat)(I:Nat->World->Prop)(Ix:Code->World->Prop)(Ip:List PanicEntry->World->Prop)(i:Nat)(W:World):Exit->Act->World->Prop
 |.normal,_,W'=>KeepsFrom B W W'∧I i W'
 |.ret,_,W'=>KeepsFrom B W W'∧Ix .ret W'
 |.exit id,_,W'=>KeepsFrom B W W'∧Ix (.exit id) W'
 |.goto t,_,W'=>KeepsFrom B W W'∧Ix (.goto t) W'
 |.panic ch,a,W'=>a.defers=[]∧KeepsFrom B W W'∧Ip ch W'
 |.outgrown,_,_=>False
theorem wO{P:Program}{assign body:Code}{w:World}
 (YF:A.round=none)(YL:1<=t){gf:Nat}{lb:Array Value}(YM:E.eval V=.func (.func gf) #[] lb)(Yq:A.fn gf)(YJ:∀args w,(callFunc gf args).run P w=.ok (.enter gf args) w){set:Nat->World->World}(Yk:EO A (t-1) P gf lb S e Z set)(YD:∀i,(S i).size=R.size)
 (Ye X:Nat->World->Prop)(W:Code->World->Prop)(U:List PanicEntry->World->Prop)(Yv:(∀r d,¬U r d)∨∀fn,A.fn fn->∃f,P.funcs[fn]?=some f)(I:OwnFrom w.heap.size Ye)(Yt:OwnFrom w.heap.size X)(Yl:∀i d,Ye i d->i<e->X i (set i d)∧∀(k:Nat)(o:Obj),d.heap[k]?=some o->o.isCells=false->(set i d).heap[k]?=some o)(C:OwnFrom w.heap.size W)(YE:∀i d,Ye i d->Z i d)(YK:Ye 0 w)(Yn:Nat->Act)
 (F:∀(l i:Nat)(d:World)(K:Act->World->Prop),K (Yn i) d->
   assign.wpIn (A.inRound l) (t-1-1) P (Exit.then K (fun _ _ _=>False)) {tmps:=(R.zip (S i)).foldl (fun YR(YY,YT)=>YR.setIfInBounds YY YT) E.tmps,defers:=[]} d)
 (Y:∀(l i:Nat)(d:World),X i d->i<e->body.wpIn (A.inRound l) (t-1-1) P (Hi w.heap.size Ye W U (i+1) d) (Yn i) d)
 (Yc:∀(G:Nat)(d:World),w.heap.size<=G->Ye e d->d.heap[G]?=some (.deferred (some []))->M .normal {E with defers:={target:=.collected G,args:=#[]}::E.defers} d)
 (Yd:∀(G:Nat)(c:Code)(d:World),w.heap.size<=G->W c d->d.heap[G]?=some (.deferred (some []))->c.wpIn A t P M {E with defers:={target:=.collected G,args:=#[]}::E.defers} d)
 (Q:∀(G:Nat)(r:List PanicEntry)(d:World),w.heap.size<=G->U r d->d.heap[G]?=some (.deferred (some []))->M (.panic r) {E with defers:={target:=.collected G,args:=#[]}::E.defers} d):
 (Code.rangeFunc V R assign body).wpIn A t P M E w:=by
 refine wpIn_rangeFunc fun fn Yg=>?_
 rw[YF];obtain⟨b,g⟩:∃b:LoopState->Option Code->Loop,b=fun YQ YP=>{state:=YQ,pending:=YP,fn,tmps:=E.tmps,params:=R,assign,body,defers:=w.heap.size}:=⟨_,rfl⟩
 obtain⟨q,x⟩:∃q,(w.alloc (.deferred (some []))).alloc (.loop (b .ready none))=q:=⟨_,rfl⟩;have Yu:q.heap[w.heap.size+1]?=some (.loop (b .ready none)):=by
  have:=aM (w.alloc (.deferred (some []))) (.loop (b .ready none))
  rw[bI,x]at this;exact this
 have Yp:q.heap[w.heap.size]?=some (.deferred (some [])):=by rw[<-x];exact(cM _ _ _ (by simp)).trans (aM w _)
 have YS:w.heap.size<=q.heap.size:=by rw[<-x];simp;omega
 have Yr:Ye 0 q:=by rw[<-x];exact I.alloc _ (I.alloc _ YK)
 refine⟨w.heap.size+1,[{target:=.collected w.heap.size,args:=#[]}],q,{target:=.fn (.func gf) lb,args:=#[.func (.yield (w.heap.size+1)) #[] #[]]},q,gf,#[.func (.yield (w.heap.size+1)) #[] #[]]++lb,q,
  by rw[<-x,g];exact run_enterLoop_outer _ _ _ _ _,by simp only[resolve,YM];simp[go_sem],fun YW Yf=>by simp[Target.leads]at Yf;subst Yf;exact Yq,by simp[invoke,go_sem,YJ],fun _=>YL,?_⟩
 have J:∀{YI:World}{row:Option Nat},(∀e,row=some e->q.heap.size<=e∧∃o:Obj,YI.heap[e]?=some o∧o.isWalk=true)->∀e,row=some e->w.heap.size<=e∧∃o:Obj,YI.heap[e]?=some o∧o.isCells=false:=fun j YH H=>by
  obtain⟨YX,o,YN,YO⟩:=j YH H;exact⟨by omega,o,YN,Obj.not_cells_of_walk YO⟩
 refine(Yk (w.heap.size+1) (fun i d=>Ye i d∧d.heap[w.heap.size+1]?=some (.loop (b .ready none))∧d.heap[w.heap.size]?=some (.deferred (some [])))
  (fun d=>∃c,W c d∧d.heap[w.heap.size+1]?=some (.loop (b .done (some c)))∧d.heap[w.heap.size]?=some (.deferred (some [])))
  (fun r d=>U r d∧d.heap[w.heap.size]?=some (.deferred (some []))) q
  (fun i YI YU row T N j=>⟨I i YI YU row T.1 N (J j),(grownBy_keeps N (fun YH H=>(j YH H).2) T.2.1 rfl).trans T.2.1,(grownBy_keeps N (fun YH H=>(j YH H).2) T.2.2 rfl).trans T.2.2⟩)
  (fun i d Yo=>YE i d Yo.1) ?_ ⟨Yr,Yu,Yp⟩).mono ?_
 ·rintro i Ym⟨Yx,YA,Yz⟩O
  obtain⟨y,Yj⟩:=Yl i Ym Yx O;have s:=Yj _ _ YA rfl;have z:=Yj _ _ Yz rfl;generalize set i Ym=d at y s z⊢;have YC:w.heap.size+1<d.heap.size:=(ak.1 s).1;have YG:=run_yield (P:=P) (args:=S i) s (by rw[g];exact YD i);rw[g]at YG;refine⟨fn,_,assign,body,YG,C9 Yg (Yv.elim (fun Yo=>.inl fun r d j=>by rcases j with⟨H,_⟩|⟨H,_⟩|⟨c,_,n,_⟩<;>first|cases H|exact Yo _ _ n) (fun Yo=>.inr (Yo fn Yg))) (F _ i d _ ⟨_,run_beginRound s (by rw[g]),?_⟩)⟩;obtain⟨v,D⟩:∃v,d.putObj (w.heap.size+1) (.loop {b .ready none with state:=.busy})=v:=⟨_,rfl⟩;have YB:v.heap[w.heap.size+1]?=some (.loop {b .ready none with state:=.busy}):=by rw[<-D];exact World.putObj_heap_same YC
  have Yh:v.heap[w.heap.size]?=some (.deferred (some [])):=by rw[<-D];exact(cd (by omega)).trans z
  have Yy:X i v:=by rw[<-D];exact Yt.putObj _ y (by omega) s rfl
  have Yw:(d.putObj (w.heap.size+1) (.loop {b .ready none with state:=.busy}))=v:=D;rw[Yw];refine xD (Y _ i v Yy O) ?_;have B:∀(a:Option Code)(p:World),KeepsFrom w.heap.size v p->
   (Instr.endRound (w.heap.size+1) a).run P p=.ok (.bool a.isNone) (p.putObj (w.heap.size+1) (.loop (b (if a.isNone then .ready else .done) a)))∧
   p.heap[w.heap.size+1]?=some (.loop {b .ready none with state:=.busy})∧
   (p.putObj (w.heap.size+1) (.loop (b (if a.isNone then .ready else .done) a))).heap[w.heap.size+1]?=some (.loop (b (if a.isNone then .ready else .done) a))∧
   (p.putObj (w.heap.size+1) (.loop (b (if a.isNone then .ready else .done) a))).heap[w.heap.size]?=some (.deferred (some [])):=fun a p Yi=>by
   have h:=Yi.same _ _ (by omega) YB rfl;have L:=run_endRound (P:=P) a h;have m:=(cd (w:=p) (o:=.loop (b (if a.isNone then .ready else .done) a)) (show w.heap.size≠w.heap.size+1 by omega)).trans (Yi.same _ _ (af _) Yh rfl);refine⟨?_,h,World.putObj_heap_same (ak.1 h).1,m⟩;rw[g]at L⊢;exact L
  intro H YV p n;cases H with
  |normal=>
   obtain⟨j,h,u,m⟩:=B none p n.1;exact⟨_,_,j,.inl ⟨rfl,I.putObj _ n.2 (by omega) h rfl,u,m⟩⟩
  |ret=>
   obtain⟨j,h,u,m⟩:=B (some .ret) p n.1;exact⟨_,_,j,.inr (.inl ⟨rfl,_,C.putObj _ n.2 (by omega) h rfl,u,m⟩)⟩
  |exit id=>
   obtain⟨j,h,u,m⟩:=B (some (.exit id)) p n.1;exact⟨_,_,j,.inr (.inl ⟨rfl,_,C.putObj _ n.2 (by omega) h rfl,u,m⟩)⟩
  |goto YR=>
   obtain⟨j,h,u,m⟩:=B (some (.goto YR)) p n.1;exact⟨_,_,j,.inr (.inl ⟨rfl,_,C.putObj _ n.2 (by omega) h rfl,u,m⟩)⟩
  |panic r=>exact⟨n.1,.inr (.inr ⟨r,rfl,n.2.2,n.2.1.same _ _ (af _) Yh rfl⟩)⟩
  |outgrown=>exact n.elim
 ·rintro H v(⟨⟨YT,rfl⟩,(⟨y,s,z⟩|⟨c,y,s,z⟩)⟩|⟨r,rfl,y,z⟩)
  ·refine⟨none,_,by have:=run_endLoop (P:=P) s (by rw[g];simp);rw[g]at this;exact this,Yc _ _ (af _) (I.putObj _ y (by omega) s rfl) ((cd (by omega)).trans z)⟩
  ·refine⟨some c,_,by have:=run_endLoop (P:=P) s (by rw[g];simp);rw[g]at this;exact this,Yd _ c _ (af _) (C.putObj _ y (by omega) s rfl) ((cd (by omega)).trans z)⟩
  ·exact Q _ r _ (af _) y z
theorem jf{assign body:Code}
 (C:A.round=none)(I:1<=e){gf:Nat}{lb:Array Value}(J:E.eval V=.func (.func gf) #[] lb)(v:A.fn gf)(F:∀args h,(callFunc gf args).run D h=.ok (.enter gf args) h)(s:CD A (e-1) D gf lb S t Yc)(z:∀i,(S i).size=R.size)
 (q:Nat->World->Prop)(k:Code->World->Prop)(j:List PanicEntry->World->Prop)(y:(∀m a,¬j m a)∨∀u,A.fn u->∃f,D.funcs[u]?=some f)(w:OwnFrom h.heap.size q)(x:OwnFrom h.heap.size k)(B:∀i a,q i a->Yc a)(H:q 0 h)(r:Nat->Act)
 (b:∀(l i:Nat)(a:World)(K:Act->World->Prop),K (r i) a->
   assign.wpIn (A.inRound l) (e-1-1) D (Exit.then K (fun _ _ _=>False)) {tmps:=(R.zip (S i)).foldl (fun N(L,O)=>N.setIfInBounds L O) E.tmps,defers:=[]} a)
 (n:∀(l i:Nat)(a:World),q i a->i<t->body.wpIn (A.inRound l) (e-1-1) D (Hi h.heap.size q k j (i+1) a) (r i) a)
 (o:∀(d:Nat)(a:World),h.heap.size<=d->q t a->a.heap[d]?=some (.deferred (some []))->M .normal {E with defers:={target:=.collected d,args:=#[]}::E.defers} a)
 (p:∀(d:Nat)(c:Code)(a:World),h.heap.size<=d->k c a->a.heap[d]?=some (.deferred (some []))->c.wpIn A e D M {E with defers:={target:=.collected d,args:=#[]}::E.defers} a)
 (g:∀(d:Nat)(m:List PanicEntry)(a:World),h.heap.size<=d->j m a->a.heap[d]?=some (.deferred (some []))->M (.panic m) {E with defers:={target:=.collected d,args:=#[]}::E.defers} a):
 (Code.rangeFunc V R assign body).wpIn A e D M E h:=
 wO C I J v F s z q q k j y w w (fun _ _ G _=>⟨G,fun _ _ G _=>G⟩) x B H r b n o p g
section
attribute [local go_sem] Oper.semAt_some
def Fx:Fence:={fn:=fun f=>∃fn,Tryz.prog.funcs[f]?=some fn,depth:=none,alive:=false}
def Pl(F:Fence):Prop:=F.round=none∧(∀f fn,Tryz.prog.funcs[f]?=some fn->F.fn f)∧F.depth=none
theorem PN:Pl Fx:=⟨rfl,fun _ a b=>⟨a,b⟩,rfl⟩
theorem nj:Pl Fence.wide:=⟨rfl,fun _ _ _=>trivial,rfl⟩
theorem Ql:∀a,Fx.fn a->∃f,Tryz.prog.funcs[a]?=some f:=fun _ b=>b
theorem oG(hF:Pl A):A.round=none∧(∀f a,Tryz.prog.funcs[f]?=some a->A.fn f)∧∀k:Nat,(A.depth.isSome=true->1<=k):=by
 obtain⟨b,c,d⟩:=hF;exact⟨b,c,fun k e=>by rw[d]at e;simp at e⟩
theorem NI(b:CallsIn Fx e Tryz.prog I W h L):Calls Tryz.prog I W h L:=b.calls (fun d c a=>by simp[Fx]at a)
theorem Pc(k:Fence)(hF:Pl k)(r:Nat)(c:Int)(m:World):CallsIn k r Tryz.prog 192 #[.int .i64 c] m fun i j=>i=.returned (.int .i64 (Tm.room c:Int))∧j=m:=by
 obtain⟨a,h,l⟩:=oG hF;have b:=h _ _ Tryz.func192;clear hF h;by_cases d:c=2
 ·subst d;refine fE Tryz.func192 rfl b ?_ a;simp only[Tryz.ntmps192,cY,aI,bH,Nat.reduceAdd,Nat.reduceSub,bM,bQ,cE,bY,bV,bc];gi_wp2;go_ret;exact⟨rfl,rfl⟩
 by_cases e:c=3
 ·subst e;refine fE Tryz.func192 rfl b ?_ a;simp only[Tryz.ntmps192,cY,aI,bH,Nat.reduceAdd,Nat.reduceSub,bM,bQ,cE,bY,bV,bc];gi_wp2;go_ret;exact⟨rfl,rfl⟩
 by_cases f:c=4
 ·subst f;refine fE Tryz.func192 rfl b ?_ a;simp only[Tryz.ntmps192,cY,aI,bH,Nat.reduceAdd,Nat.reduceSub,bM,bQ,cE,bY,bV,bc];gi_wp2;go_ret;exact⟨rfl,rfl⟩
 by_cases g:c=5
 ·subst g;refine fE Tryz.func192 rfl b ?_ a;simp only[Tryz.ntmps192,cY,aI,bH,Nat.reduceAdd,Nat.reduceSub,bM,bQ,cE,bY,bV,bc];gi_wp2;go_ret;exact⟨rfl,rfl⟩
 have i:Tm.room c=0:=by simp[Tm.room,d,e,f,g]
 have n:(c==2)=false:=by simp[d]
 have o:(c==3)=false:=by simp[e]
 have p:(c==4)=false:=by simp[f]
 have q:(c==5)=false:=by simp[g]
 clear d e f g;rw[i];clear i;refine fE Tryz.func192 rfl b ?_ a;simp only[Tryz.ntmps192,cY,aI,bH,Nat.reduceAdd,Nat.reduceSub,bM,bQ,cE,bY,bV,bc];gi_wp2
 go_ret;exact⟨rfl,rfl⟩
theorem pf(h:Fence)(hF:Pl h)(m:Nat)(i:Option Addr)(c a:Nat)(k:Int)(e:World):
 CallsIn h m Tryz.prog 169 #[.slice i c a,.int .i64 k] e fun l g=>l=.returned (.func (.func 196) #[] #[.pointer (some ⟨e.heap.size+1,0,none⟩),.pointer (some ⟨e.heap.size,0,none⟩)])∧
  g=(e.alloc (.cells #[.slice i c a] 68)).alloc (.cells #[.int .i64 k] 3):=by
 obtain⟨d,b,j⟩:=oG hF;have f:=b _ _ Tryz.func169;clear hF b;refine fE Tryz.func169 rfl f ?_ d;simp only[Tryz.ntmps169,cY,aI,bH,Nat.reduceAdd,Nat.reduceSub,bM,bQ,cE,bY,bV,bc];gi_wp2
 go_ret;exact⟨rfl,rfl⟩
def rL(zs:List Int)(k i:Nat):Array Value:=#[.int .i64 (Tm.pos zs k i:Int),.int .i64 (Tm.pos zs k (i+1):Int)]
def KY(Bk Bt k cap:Nat)(a:Option Addr)(zs:List Int)(W:World):Prop:=W.cell? ⟨Bk,0,none⟩=some (.int .i64 (k:Int))∧W.cell? ⟨Bt,0,none⟩=some (.slice a zs.length cap)∧cZ W.heap.size W a zs
def yC(F:Fence)(a:Option Addr)(cap:Nat)(zs:List Int)(k:Nat):Prop:=
 ∀(n p:Nat)(W:World),k<p->p<=20000->cZ W.heap.size W a zs->CallsIn F n Tryz.prog 148 #[.slice a zs.length cap,.int .i64 (p:Int)] W fun e W'=>e=.returned (.int .i64 (Tm.dn zs p:Int))∧Below W.heap.size W W'
theorem mH(t:Fence)(hF:Pl t)(s v w c m:Nat)(Ye:Option Addr)(a:List Int)(X:a.length<=5000)(W:c<a.length)(z:yC t Ye m a c):
 CD t s Tryz.prog 196 #[.pointer (some ⟨v,0,none⟩),.pointer (some ⟨w,0,none⟩)] (rL a c) (Tm.room (a[c]?.getD 0)) (KY v w c m Ye a):=by
 intro Yr Yd O N o R f E y;obtain⟨I,i,h⟩:=oG hF;have e:∀s o,CallsIn t s Tryz.prog 192 #[.int .i64 (a[c]?.getD 0)] o fun d Yc=>d=.returned (.int .i64 (Tm.room (a[c]?.getD 0):Int))∧Yc=o:=fun s o=>Pc t hF s _ o
 clear hF;have q:=i _ _ Tryz.func196;have V:=i _ _ Tryz.func192;have U:=i _ _ Tryz.func148;have Yk:=Tm.room_le (a[c]?.getD 0);obtain⟨Yf,Yg,A⟩:=f 0 o y;obtain⟨Yu,Yl,rfl,Yo,F⟩:=A.at (by omega);have Yh:=F c W;have Yi:(c:Int)<(a.length:Int):=by omega
 have Yj:(a.length:Int)<=5000:=by omega
 generalize l:Tm.room (a[c]?.getD 0)=u at*;clear l;generalize a[c]?.getD 0=Yv at*;have M:=hid E;have K:=hid z;have x:=hid e;have L:=hid f;clear E z F A e f;refine fE Tryz.func196 rfl q ?_ I;simp only[Tryz.ntmps196,cY,aI,bH,Nat.reduceAdd,Nat.reduceSub,bM,bQ,cE,bY,bV,bc];gi_wp2_with((try refine⟨h _,?_⟩);gi_at_call 192;refine(x.out _ _).mono ?_;rintro d o⟨rfl,rfl⟩)
 gi_loopw [4,13](fun Yt Y wr=>∃b:Nat,b<=u∧Y=.int .i64 (b:Int)∧Yt=.int .i64 (Tm.pos a c b:Int)∧Yd b wr)
  (fun _ Y _=>u-(intOf Y).toNat)
 case atStart=>exact⟨0,bf _,rfl,by rw[Tm.iI];rfl,y⟩
 case round=>
  obtain⟨b,Yp,rfl,rfl,g⟩:=hrel;obtain⟨_,S,B⟩:=L.out b wr g;by_cases G:b<u
  ·have r:(b:Int)<(u:Int):=by omega
   have n:=(K.out (s-1) (Tm.pos a c b) wr (Tm.om _ _ _) (by have:=Tm.MN a c b;omega) B).mono (R':=fun d j=>d=.returned (.int .i64 (Tm.pos a c (b+1):Int))∧YieldAt t (s-1) Tryz.prog Yr #[.int .i64 (Tm.pos a c b:Int),.int .i64 (Tm.pos a c (b+1):Int)] j fun d p=>
    (d=.returned (.bool true)∧Yd (b+1) p)∨(d=.returned (.bool false)∧O p)∨∃k,d=.panicked k∧N k p)
    (fun d j⟨T,Q⟩=>⟨by rw[Tm.jL];exact T,by
      have C:=R _ _ _ none g (gI Q) (fun u d=>by cases d);refine vx (M.out b j C G) fun d P Yn=>?_
      exact Yn⟩)
   gi_wp2_with(first
    |((try refine⟨h _,?_⟩);gi_at_call 148;refine n.mono ?_;clear n;rintro d j⟨rfl,Ym,Z,assign,body,Yq,f⟩)
    |((try refine⟨h _,?_⟩);refine f.mono ?_;clear f;rintro d P(⟨rfl,D⟩|⟨rfl,J⟩|⟨k,rfl,H⟩)))
   ·exact⟨⟨b+1,by omega,by go_num,rfl,D⟩,by simp[intOf];omega⟩
   ·refine fI (mb rfl _ _ _) rfl ?_
    exact .inl ⟨⟨_,rfl⟩,.inr J⟩
   ·exact⟨rfl,.inr ⟨k,rfl,H⟩⟩
  ·obtain rfl:b=u:=by omega
   have r:¬(b:Int)<(b:Int):=by omega
   gi_wp2
   go_end0
   exact .inl ⟨⟨_,rfl⟩,.inl g⟩
end
section
attribute [local go_sem] Oper.semAt_some
theorem It(i:Fence)(hF:Pl i)(r:Nat)(l:Option Addr)(a d c:Nat)(g:World)(q:a<=c)(k:c<=20000):
 CallsIn i r Tryz.prog 148 #[.slice l a d,.int .i64 (c:Int)] g fun m h=>m=.returned (.int .i64 ((c:Int)+1))∧Below g.heap.size g h:=by
 have n:(a:Int)<=(c:Int):=by omega
 have o:(c:Int)<=20000:=by omega
 have p:(0:Int)<=(c:Int):=by omega
 obtain⟨e,b,j⟩:=oG hF;have f:=b _ _ Tryz.func148;clear hF b;refine fE Tryz.func148 rfl f ?_ e;simp only[Tryz.ntmps148,cY,aI,bH,Nat.reduceAdd,Nat.reduceSub,bM,bQ,cE,bY,bV,bc];gi_wp2
 go_ret;exact⟨rfl,(ah _ _).alloc (af _) _⟩
theorem Ji(d:Boxed z e 3 (.int .i64 (H:Int)))(f:Boxed z t 68 (.slice U b.length O))(c:cZ h.heap.size h U b)(a:Below h.heap.size h z):KY e t H O U b z:=
 ⟨d.cell,f.cell,(c.below a).mono a.size⟩
theorem L7(r:Fence)(hF:Pl r)(K:Nat)(f:Option Addr)(b c:Nat)(a:List Int)(w:World)(N:3<=K)(q:a.length<=5000)(o:c<a.length)(C:cZ w.heap.size w f a)(d:yC r f b a c):
 CallsIn r K Tryz.prog 148 #[.slice f a.length b,.int .i64 (c:Int)] w fun G y=>G=.returned (.int .i64 (Tm.dn a c:Int))∧Below w.heap.size w y:=by
 obtain⟨k,e,x⟩:=oG hF;have s:Hid (Pl r):=hF;have z:=hid d;clear hF d;have m:=e _ _ Tryz.func148;have F:=e _ _ Tryz.func169;have n:=e _ _ Tryz.func196;clear e;have J:(c:Int)<(a.length:Int):=by omega
 have H:(a.length:Int)<=5000:=by omega
 have I:(0:Int)<=(c:Int):=by omega
 rw[Tm.ub a c o];refine eE Tryz.func148 rfl m ?_ k;simp only[Tryz.ntmps148,cY,aI,bH,Nat.reduceAdd,Nat.reduceSub,bM,bQ,cE,bY,bV,bc];gi_wp2_with((try refine⟨x _,?_⟩);gi_at_call 169;refine(pf r s.out _ _ _ _ _ _).mono ?_;rintro G y⟨rfl,rfl⟩)
 have A:=((dt w 3 (.int .i64 ((c:Int)+1))).alloc (.cells #[.slice f a.length b] 68)).alloc (.cells #[.int .i64 (c:Int)] 3);have u:=(dt (w.alloc (.cells #[.int .i64 ((c:Int)+1)] 3)) 68 (.slice f a.length b)).alloc (.cells #[.int .i64 (c:Int)] 3);have t:=dt ((w.alloc (.cells #[.int .i64 ((c:Int)+1)] 3)).alloc (.cells #[.slice f a.length b] 68)) 3 (.int .i64 (c:Int));rw[bI]at u;rw[bI,bI]at t;have v:Below w.heap.size w (((w.alloc (.cells #[.int .i64 ((c:Int)+1)] 3)).alloc (.cells #[.slice f a.length b] 68)).alloc (.cells #[.int .i64 (c:Int)] 3)):=(((ah _ w).alloc (af _) _).alloc (by simp) _).alloc (by simp;omega) _;refine jf k (by omega) (gf:=196) (lb:=#[.pointer (some ⟨w.heap.size+1+1,0,none⟩),.pointer (some ⟨w.heap.size+1,0,none⟩)]) rfl n (iW Tryz.func196 (by kernel_rfl) rfl)
  (mH r s.out _ (w.heap.size+1+1) (w.heap.size+1) c b f a q o z.out) (fun _=>rfl)
  (fun i j=>Boxed j w.heap.size 3 (.int .i64 (Tm.pos a c i:Int))∧Boxed j (w.heap.size+1+1) 3 (.int .i64 (c:Int))∧Boxed j (w.heap.size+1) 68 (.slice f a.length b)∧Below w.heap.size w j)
  (fun _ _=>False) (fun _ _=>False) (.inl fun _ _ h=>h)
  (qZ ((pn w.heap.size 3 (fun i=>.int .i64 (Tm.pos a c i:Int))).from _) (qZ ((pn (w.heap.size+1+1) 3 (fun _=>.int .i64 (c:Int))).from _) (qZ ((pn (w.heap.size+1) 68 (fun _=>.slice f a.length b)).from _) (ownFrom_below (af _) (by simp;omega)))))
  (fun _ _ _ _ h _ _=>h)
  (fun i j h=>Ji h.2.1 h.2.2.1 C h.2.2.2)
  ⟨by rw[Tm.iI];exact A,t,u,v⟩
  (fun i=>{tmps:=#[.slice f a.length b,.int .i64 (c:Int),undef,undef,.int .i64 0,.pointer (some ⟨w.heap.size,0,none⟩),undef,.int .i64 (Tm.pos a c (i+1):Int),.int .i64 (c:Int),.int .i64 ((c:Int)+1),.int .i64 (c:Int),.slice f a.length b,
    .int .i64 (a.length:Int),.bool false,undef,.slice f a.length b,.int .i64 (c:Int),.func (.func 196) #[] #[.pointer (some ⟨w.heap.size+1+1,0,none⟩),.pointer (some ⟨w.heap.size+1,0,none⟩)],.int .i64 (Tm.pos a c i:Int),.int .i64 (Tm.pos a c (i+1):Int),undef,undef],defers:=[]}) ?assign ?body ?done ?stop ?panic
 case assign=>
  intro O i j P g;simp only[rL];gi_wp2
  exact g
 case body=>
  rintro O i j⟨d,g,D,l⟩_;have E:=d.cell;have M:=d.frozen;gi_wp2
  exact⟨(dO _ _ _).from _,d.set _,g.other (by omega) _,D.other (by omega) _,l.setCell (p:=⟨w.heap.size,0,none⟩) (af _) _⟩
 case done=>
  rintro L j B⟨d,_,_,l⟩g;have E:=d.cell;gi_wp2
  refine⟨by simp,.inl ⟨_,_,rfl,ed g,?_⟩⟩;exact⟨_,tu rfl _ _ _,by simp[o],l.trans (uD (w:=w) (af _) j L _ _ (by simp at B;omega) g rfl rfl)⟩
 case stop=>exact fun _ _ _ _ h=>h.elim
 case panic=>exact fun _ _ _ _ h=>h.elim
end
theorem Jl(hF:Pl A){m:Nat}(c:CallsIn A e D I W h L):CallsIn A m D I W h L:=
 ⟨c.1,fun b _=>c.2 b (fun d a=>by rw[hF.2.2]at a;cases a)⟩
theorem yX(f:Fence)(hF:Pl f)(a:List Int)(e:a.length<=5000)(g:Option Addr)(b:Nat):∀(m k n:Nat),a.length-k<=m->k<=20000->∀c:World,cZ c.heap.size c g a->
 CallsIn f n Tryz.prog 148 #[.slice g a.length b,.int .i64 (k:Int)] c fun s q=>s=.returned (.int .i64 (Tm.dn a k:Int))∧Below c.heap.size c q:=by
 intro m;induction m with
 |zero=>
  intro k n o d c h;rw[Tm.tY a k (by omega)];exact It f hF n g a.length b k c (by omega) d
 |succ m p=>
  intro k n o d c h;by_cases i:k<a.length
  ·exact Jl hF (L7 f hF 3 g b k a c (by omega) e i h (fun n u r t j l=>p u n (by omega) j r l))
  ·rw[Tm.tY a k (by omega)]
   exact It f hF n g a.length b k c (by omega) d
theorem nw(d:Fence)(hF:Pl d)(c:List Int)(b:c.length<=5000)(g:Option Addr)(a i:Nat):yC d g a c i:=
 fun j k h _ e f=>yX d hF c b g a _ k j (af _) e h f
section
def uZ(r:Int->Int):Nat->List Int->List Int->Bool
 |0,_,_=>false
 |n+1,a,b=>((List.range (Tm.room (dX a))).any fun m=>decide (fu a m=b)||uZ r n (fu a m) b)||
  (decide (0<=dX a)&&(decide (0<=dX b)&&(((List.range (Tm.room (dX b))).all fun m=>uZ r n a (fu b m))&&((decide (dX a≠dX b)&&decide (r (dX b)<r (dX a)))||
    (decide (dX a=dX b)&&(List.range (Tm.room (dX a))).any fun m=>((List.range m).all fun l=>decide (fu a l=fu b l))&&uZ r n (fu a m) (fu b m))))))
theorem JW{d:Int->Int}:∀(n:Nat)(a c:List Int),a.length+c.length<n->(uZ d n a c=true↔iw d a c):=by
 intro n;induction n with
 |zero=>intro a c k;omega
 |succ n e=>
  intro a c j;have g:∀m,m<Tm.room (dX a)->(uZ d n (fu a m) c=true↔iw d (fu a m) c):=fun m b=>e _ _ (by have:=iM b;omega)
  have h:∀m,m<Tm.room (dX c)->(uZ d n a (fu c m)=true↔iw d a (fu c m)):=fun m b=>e _ _ (by have:=iM b;omega)
  have i:dX a=dX c->∀m,m<Tm.room (dX a)->(uZ d n (fu a m) (fu c m)=true↔iw d (fu a m) (fu c m)):=fun f m b=>e _ _ (by have:=iM b;have:=iM (x:=c) (m:=m) (by rw[<-f];exact b);omega)
  rw[iw.iff];simp only[uZ,RR,dW,Rs,dD,Rd,dJ];refine or_congr (Sh fun m=>Ru fun b=>or_congr Iff.rfl (g m b)) (Ru fun _=>Ru fun _=>and_congr (RW fun m=>RW fun b=>h m b) (or_congr Iff.rfl (Ru fun f=>Sh fun m=>Ru fun b=>Ru fun _=>i f m b)))
def Cs(r:Int->Int)(a b:List Int):Bool:=uZ r (a.length+b.length+1) a b
theorem vh{c:Int->Int}{a b:List Int}:Cs c a b=true↔iw c a b:=JW _ a b (mE _)
def lN(rk:List Int)(s:Int):Int:=rk[s.toNat]?.getD 0
def iu(rk za zb:List Int)(i j:Nat):Bool:=Cs (lN rk) (cD za i) (cD zb j)
def ph(za zb:List Int)(i j:Nat):Bool:=decide (cD za i=cD zb j)
def oD(rk za zb:List Int)(i j n:Nat):Bool:=(List.range n).any fun m=>ph za zb (Tm.pos za i m) j||iu rk za zb (Tm.pos za i m) j
def qW(rk za zb:List Int)(i j n:Nat):Bool:=(List.range n).all fun m=>iu rk za zb i (Tm.pos zb j m)
def qy(za zb:List Int)(i j n:Nat):Bool:=(List.range n).all fun m=>ph za zb (Tm.pos za i m) (Tm.pos zb j m)
def sr(rk za zb:List Int)(i j n:Nat):Bool:=(List.range n).any fun m=>qy za zb i j m&&iu rk za zb (Tm.pos za i m) (Tm.pos zb j m)
def rA(rk za zb:List Int)(i j:Nat):Bool:=
 decide (0<=za[i]?.getD 0)&&(decide (0<=zb[j]?.getD 0)&&(qW rk za zb i j (Tm.room (zb[j]?.getD 0))&&(if za[i]?.getD 0=zb[j]?.getD 0 then sr rk za zb i j (Tm.room (za[i]?.getD 0))else decide (lN rk (zb[j]?.getD 0)<lN rk (za[i]?.getD 0)))))
theorem CL(rk a b:List Int)(c d e:Nat):oD rk a b c d (e+1)=(oD rk a b c d e||(ph a b (Tm.pos a c e) d||iu rk a b (Tm.pos a c e) d)):=by simp[oD,List.range_succ]
theorem Cx(rk b a:List Int)(c d e:Nat):qW rk b a c d (e+1)=(qW rk b a c d e&&iu rk b a c (Tm.pos a d e)):=by simp[qW,List.range_succ]
theorem sV(a b:List Int)(d e c:Nat):qy a b d e (c+1)=(qy a b d e c&&ph a b (Tm.pos a d c) (Tm.pos b e c)):=by simp[qy,List.range_succ]
theorem Cf{rk a b:List Int}{d e:Nat}(c:ph a b d e=true):iu rk a b d e=false:=by
 simp only[ph,dJ]at c;unfold iu;rw[c];rw[kE];exact fun f=>iw.self _ (vh.1 f)
theorem AV{a b:List Int}{d e f m:Nat}(i:m<=f)(c:qy a b d e f=true):qy a b d e m=true:=by
 simp only[qy,dD,Rd]at*;exact fun h g=>c h (by omega)
theorem BT{rk a b:List Int}{e f j:Nat}(i:qy a b e f j=true):sr rk a b e f j=false:=by
 rw[kE];intro h;simp only[sr,Rs,Rd,dW]at h;obtain⟨g,d,_,c⟩:=h;have:ph a b (Tm.pos a e g) (Tm.pos b f g)=true:=by
  simp only[qy,dD,Rd]at i;exact i g d
 rw[Cf this]at c;cases c
theorem Iw{rk a b:List Int}{g h o m:Nat}(j:m<o)(l:qy a b g h m=true)(i:ph a b (Tm.pos a g m) (Tm.pos b h m)=false):sr rk a b g h o=iu rk a b (Tm.pos a g m) (Tm.pos b h m):=by
 rw[ry];constructor
 ·intro f
  simp only[sr,Rs,Rd,dW]at f;obtain⟨n,p,k,d⟩:=f;rcases nn n m with e|e|e
  ·have c:=AV (m:=n+1) (by omega) l
   rw[sV,dW]at c;rw[Cf c.2]at d;cases d
  ·rw[e]at d;exact d
  ·have c:=AV (m:=m+1) (by omega) k
   rw[sV,dW,i]at c;cases c.2
 ·intro f
  simp only[sr,Rs,Rd,dW];exact⟨m,j,l,f⟩
theorem Gb{rk b c:List Int}(p:Tm.err b=0)(q:Tm.err c=0){m o:Nat}(r:m<b.length)(s:o<c.length):iu rk b c m o=(oD rk b c m o (Tm.room (b[m]?.getD 0))||rA rk b c m o):=by
 rw[ry];have v:=j8 p r;have w:=j8 q s;have f:=fun d(a:d<Tm.room (b[m]?.getD 0))=>wi p r a
 have g:=fun d(a:d<Tm.room (c[o]?.getD 0))=>wi q s a
 have i:∀t u,iu rk b c t u=true↔iw (lN rk) (cD b t) (cD c u):=fun t u=>vh
 rw[i,iw.iff,v,w,RR];refine or_congr ?_ ?_
 ·simp only[oD,Rs,Rd,RR,i,ph,dJ]
  exact Sh fun d=>Ru fun a=>by rw[f d a]
 ·simp only[rA,dW,dJ]
  refine Ru fun _=>Ru fun _=>and_congr ?_ ?_
  ·simp only[qW,dD,Rd,i]
   exact RW fun d=>RW fun a=>by rw[g d a]
  ·by_cases h:b[m]?.getD 0=c[o]?.getD 0
   ·rw[aD h]
    simp only[sr,Rs,Rd,dW,qy,dD,i,ph,dJ];constructor
    ·rintro(⟨j,_⟩|⟨_,d,a,l,k⟩)
     ·exact absurd h j
     ·exact⟨d,a,fun n e=>by rw[<-f n (by omega),<-g n (by rw[<-h];omega)];exact l n e,by rw[<-f d a,<-g d (by rw[<-h];exact a)];exact k⟩
    ·rintro⟨d,a,l,k⟩
     exact .inr ⟨h,d,a,fun n e=>by rw[f n (by omega),g n (by rw[<-h];omega)];exact l n e,by rw[f d a,g d (by rw[<-h];exact a)];exact k⟩
   ·rw[aE h,dJ]
    constructor
    ·rintro(⟨_,j⟩|⟨j,_⟩)
     ·exact j
     ·exact absurd j h
    ·exact fun j=>.inl ⟨h,j⟩
def qo(K:TypeId)(W:World)(b n:Nat)(M:Value->Option Value):Prop:=
 ∃D:DataW Value,W.ownsMap Tryz.prog K l6 b n D∧∀(v:Value)(l:Lit),keyOf Tryz.prog K v=some l->Maps.has D l=(M v).isSome∧∀u,M v=some u->∀z,D.atKey l z=.held u
theorem qo.made(a:TypeId)(w:World):qo a (w.alloc (.map #[] 0)) w.heap.size 0 (fun _=>none):=
 ⟨_,sG w _ _ _,fun _ _ _=>⟨rfl,fun _ b=>by cases b⟩⟩
theorem qo.lt{d:TypeId}{b:World}{c g:Nat}{f:Value->Option Value}(e:qo d b c g f):c<b.heap.size:=by
 obtain⟨h,a,_⟩:=e;exact a.lt
theorem qo.eV{g:TypeId}{h W':World}{c j:Nat}{i:Value->Option Value}(l:qo g h c j i)(e:W'.heap[c]?=h.heap[c]?):qo g W' c j i:=by
 obtain⟨k,⟨d,a,b,m⟩,f⟩:=l;exact⟨k,⟨d,a,e.trans b,m⟩,f⟩
theorem qo.map{f:TypeId}{d:World}{e i:Nat}{h:Value->Option Value}(g:qo f d e i h):∃b a,d.heap[e]?=some (.map b a):=by
 obtain⟨k,⟨b,a,c,l⟩,j⟩:=g;exact⟨b,a,c⟩
theorem qo.look{m:TypeId}(e:Keyed Tryz.prog m){w:World}{t z:Nat}{g:Value->Option Value}(y:qo m w t z g){v u:TypeId}(p:Tryz.prog.underlying v=some (.map m u)){l:Value}(q:(zeroValue u).run Tryz.prog w=.ok l w){a:Value}{r:Lit}(c:keyOf Tryz.prog m a=some r):
 (Instr.lookup v (.map (some t)) a true).run Tryz.prog w=.ok (.tuple #[(g a).getD l,.bool (g a).isSome]) w:=by
 obtain⟨x,i,o⟩:=y;obtain⟨h,n⟩:=o a r c;have b:∀k,l6 k=some (x.atKey r (.held l),[])->k=(g a).getD l:=fun k b=>by
  unfold l6 at b;simp only[dx,tN,oH]at b;cases j:g a with
  |none=>
   rw[CP (i.tidy e).isMap (by rw[h,j];rfl)]at b;simpa using b
  |some A=>
   rw[n A j]at b;simpa using b
 obtain⟨k,s,f,d⟩:=i.look_ok e p q (R:=l6) (zd:=.held l) (zp:=[]) rfl c;have:s=[]:=by unfold l6 at d;simp at d;exact d.2
 subst this;rw[f,b k d,h]
theorem qo.set{l:TypeId}(e:Keyed Tryz.prog l){w:World}{q n:Nat}{r:Value->Option Value}(E:qo l w q n r){B m:TypeId}(z:Tryz.prog.underlying B=some (.map l m))(y:n<maxLen){a:Value}{A:Lit}(b:keyOf Tryz.prog l a=some A)(v:Value):
 ∃w' g,(Instr.mapUpdate B (.map (some q)) a v).run Tryz.prog w=.ok () w'∧qo l w' q (n+1) g∧g a=some v∧(∀x,x≠a->g x=r x)∧w.grownBy w' (some q):=by
 classical
 obtain⟨F,h,o⟩:=E;obtain⟨w',i,t,u⟩:=h.update (R:=l6) e z y b (val:=v) (d:=.held v) (ps:=[]) rfl;have p:WideAt.IsKeyLit A:=e.key b;refine⟨w',fun x=>if x=a then some v else r x,i,⟨_,t,fun x k c=>?_⟩,by simp,fun x c=>by simp[c],u⟩;by_cases m:x=a
 ·subst m
  rw[b]at c;cases c;simp only[xC];exact⟨has_put_same (h.tidy e).isMap p _,fun C j D=>by cases j;exact atKey_put_same (h.tidy e).isMap p _ _⟩
 ·have f:k≠A:=fun s=>m (e.inj (by rw[s]at c;exact c) b)
  simp only[m,if_false];exact⟨by rw[has_put_other f];exact(o x k c).1,fun C j D=>by rw[atKey_put_other f];exact(o x k c).2 C j D⟩
section
variable(w:World){ops:Array Oper}{rest:List Oper}{o:Oper}{a:Act}{Q:Exit->Act->World->Prop}
theorem FP{h:TypeId}(g:Keyed Tryz.prog h)(l:o.guard=none)(v A:Operand)(y:TypeId)(f:o.op=Op.lookup y v A true)(u:TypeId)(p:Tryz.prog.underlying y=some (.map h u)){B:Value}(s:(zeroValue u).run Tryz.prog w=.ok B w)(t E:Nat)(i:Value->Option Value)
 (m:a.eval v=.map (some t))(j:qo h w t E i)(b:Value)(D:Lit)(r:a.eval A=b)(d:keyOf Tryz.prog h b=some D)(z:Value)(x:Bool)(q:(i b).getD B=z)(n:(i b).isSome=x)
 (k:wpList Tryz.prog ops Q rest (a.put o.dst (.tuple #[z,.bool x])) w):wpList Tryz.prog ops Q (o::rest) a w:=by
 refine pZ l fun C e=>?_
 have c:=j.look g p s d;rw[q,n]at c;unfold Oper.wp;simp[execOp,f,m,r,c,Result.andThen];exact e _ _ k
end
theorem Gu{p q:Nat->Bool}{x:Nat}(e:p x=false)(f:q x=true)(b:∀d,d≠x->q d=p d):∀a,x<a->(List.range a).countP q=(List.range a).countP p+1:=by
 have c:∀a,a<=x->(List.range a).countP q=(List.range a).countP p:=by
  intro a k;refine List.countP_congr fun d g=>?_
  rw[b d (by have:=Rd.1 g;omega)]
 intro a;induction a with
 |zero=>intro j;omega
 |succ a h=>
  intro j;rw[Rv,List.countP_append,List.countP_append];by_cases i:a=x
  ·subst i;rw[c a (af _)];simp[e,f]
  ·rw[h (by omega)];simp[b a i];omega
def pk(i j:Nat):Value:=.agg #[.int .i64 (i:Int),.int .i64 (j:Int)]
theorem J0{a b c d:Nat}(e:pk a b=pk c d):a=c∧b=d:=by simp[pk]at e;omega
theorem JO:laidOutB Tryz.prog=true:=by kernel_rfl
theorem DO:(154:TypeId)<Tryz.prog.types.size:=of_decide_eq_true (by kernel_rfl)
theorem L4:Tryz.prog.keyTypeAt 3 154=true:=by kernel_rfl
theorem oZ:Keyed Tryz.prog 154:=Keyed.of_law (deep_law_laid JO (m:=3) (by omega) DO L4 (by rw[Tryz.underlying154]))
theorem JS:Tryz.prog.keyType 154=true:=by kernel_rfl
theorem Ia:Tryz.prog.cellsOf 154=2:=by kernel_rfl
theorem J1:∃d,Tryz.prog.types.size+1=d+2:=⟨Tryz.prog.types.size-1,by have a:0<Tryz.prog.types.size:=Nat.lt_of_le_of_lt (bf _) DO;omega⟩
theorem NZ:Tryz.prog.cellsOf 3=1:=by kernel_rfl
theorem GR{a:Nat}(b:a<=100000):(Lit.int .i64 (a:Int)).wf=true:=by
 simp[Lit.wf,IntKind.min,IntKind.max,IntKind.signed,IntKind.bits];omega
theorem Qk{i j:Nat}(d:i<=100000)(e:j<=100000):∃l,keyOf Tryz.prog 154 (pk i j)=some l:=by
 obtain⟨f,c⟩:=J1;have a:=GR d;have b:=GR e;unfold keyOf pk;rw[Tryz.underlying154,c];simp[JS,Value.formed,Tryz.underlying154,Ia,Program.keyLits,Value.cells,NZ,Tryz.underlying3,a,b]
end
structure Sd where
 (S M br fr cr ba fa ca bb fb cb:Nat)
 (rk za zb:List Int)
variable {s:Sd}
def Found(C:Sd)(W:World)(kI:Value->Option Value):Prop:=∃(n:Nat),qo 154 W C.M n kI∧(∀i j v,kI (pk i j)=some v->v=.agg #[.bool (iu C.rk C.za C.zb i j)])∧n<=(List.range 900).countP fun x=>(kI (pk (x/30) (x%30))).isSome
structure lr(C:Sd)(W:World)(kI:Value->Option Value):Prop where
 qh:W.heap[C.S]?=some (.cells #[.slice (some ⟨C.br,C.fr,none⟩) C.rk.length C.cr,.slice (some ⟨C.ba,C.fa,none⟩) C.za.length C.ca,.slice (some ⟨C.bb,C.fb,none⟩) C.zb.length C.cb,.map (some C.M)] 151 (0,0))
 ir:cZ W.heap.size W (some ⟨C.br,C.fr,none⟩) C.rk
 ia:cZ W.heap.size W (some ⟨C.ba,C.fa,none⟩) C.za
 ib:cZ W.heap.size W (some ⟨C.bb,C.fb,none⟩) C.zb
 FD:Found C W kI
structure LW(C:Sd):Prop where
 ea:Tm.err C.za=0
 eb:Tm.err C.zb=0
 er:C.rk.length=6
 ca:C.za.length<=C.ca
 cb:C.zb.length<=C.cb
 Q5:C.ca<=maxLen
 Q3:C.cb<=maxLen
theorem lr.c0(a:lr s h y):h.cell? ⟨s.S,0,none⟩=some (.slice (some ⟨s.br,s.fr,none⟩) s.rk.length s.cr):=by simp[World.cell?,a.qh]
theorem lr.c1(a:lr s h y):h.cell? ⟨s.S,1,none⟩=some (.slice (some ⟨s.ba,s.fa,none⟩) s.za.length s.ca):=by simp[World.cell?,a.qh]
theorem lr.c2(a:lr s h y):h.cell? ⟨s.S,2,none⟩=some (.slice (some ⟨s.bb,s.fb,none⟩) s.zb.length s.cb):=by simp[World.cell?,a.qh]
theorem lr.c3(a:lr s h y):h.cell? ⟨s.S,3,none⟩=some (.map (some s.M)):=by simp[World.cell?,a.qh]
theorem lr.lt(a:lr s h y):s.S<h.heap.size:=(ak.1 a.qh).1
theorem lr.Qq(b:lr s h y):s.M<h.heap.size:=by
 obtain⟨c,a,_⟩:=b.FD;exact a.lt
theorem Found.eV{W':World}(c:Found s h y)(b:W'.heap[s.M]?=h.heap[s.M]?):Found s W' y:=by
 obtain⟨d,a,e⟩:=c;exact⟨d,a.eV b,e⟩
theorem lr.below(b:lr s h y)(a:Below h.heap.size h z):lr s z y:=
 ⟨(a.block _ b.lt).trans b.qh,(b.ir.below a).mono a.size,(b.ia.below a).mono a.size,(b.ib.below a).mono a.size,b.FD.eV (a.block _ b.Qq)⟩
theorem lr.QY(c:lr s h y):s.S≠s.M:=by
 obtain⟨f,a,_⟩:=c.FD;obtain⟨e,d,b⟩:=a.map;exact rj c.c0 b
theorem yk(m:cZ e h U b)(f:eZ e t h z)(i:h.heap[t]?=some (Obj.map Ye H)):cZ e z U b:=fun k g=>by
 obtain⟨j,a,l,c,d⟩:=m k g;exact⟨j,a,l,c,(f.cell (p:=⟨j,a+k,none⟩) c (rj d i)).trans d⟩
theorem lr.eV{W':World}(b:lr s h T)(a:eZ h.heap.size s.M h W')(e:Found s W' y):lr s W' y:=by
 obtain⟨i,d,_⟩:=b.FD;obtain⟨g,f,c⟩:=d.map;exact⟨(a.block _ b.lt b.QY).trans b.qh,(yk b.ir a c).mono a.size,(yk b.ia a c).mono a.size,(yk b.ib a c).mono a.size,e⟩
theorem Found.note{i j:Nat}(u:i<30)(w:j<30)(d:∀i j v,y (pk i j)=some v->v=.agg #[.bool (iu s.rk s.za s.zb i j)])(z:e<=(List.range 900).countP fun x=>(y (pk (x/30) (x%30))).isSome)(g:y (pk i j)=none)
 (k:qo 154 h s.M (e+1) T)(b:T (pk i j)=some (.agg #[.bool (iu s.rk s.za s.zb i j)]))(c:∀x,x≠pk i j->T x=y x):Found s h T:=by
 refine⟨e+1,k,fun m n v a=>?_,?_⟩
 ·by_cases f:pk m n=pk i j
  ·obtain⟨rfl,rfl⟩:=J0 f
   rw[b]at a;cases a;rfl
  ·rw[c _ f]at a;exact d m n v a
 ·rw[Gu (p:=fun x=>(y (pk (x/30) (x%30))).isSome) (q:=fun x=>(T (pk (x/30) (x%30))).isSome) (x:=i*30+j) ?_ ?_ ?_ 900 (by omega)]
  ·omega
  ·rw[show(i*30+j)/30=i from by omega,show(i*30+j)%30=j from by omega,g];rfl
  ·rw[show(i*30+j)/30=i from by omega,show(i*30+j)%30=j from by omega,b];rfl
  ·intro o l
   have:pk (o/30) (o%30)≠pk i j:=fun f=>by
    obtain⟨r,t⟩:=J0 f;exact l (by omega)
   simp only[c _ this]
theorem Found.small(b:e<=(List.range 900).countP fun a=>(y (pk (a/30) (a%30))).isSome):e<=900:=by
 have:=List.countP_le_length (p:=fun a=>(y (pk (a/30) (a%30))).isSome) (l:=List.range 900)
 rw[List.length_range]at this;omega
def BU(C:Sd)(q:Bool)(yG:Nat->Nat->Prop)(kI:Value->Option Value)(w:World)(e:Ending)(w':World):Prop:=
 e=.returned (.bool q)∧eZ w.heap.size C.M w w'∧∃mB,lr C w' mB∧∀i j,yG i j->mB (pk i j)=kI (pk i j)
def pT(C:Sd)(f:Nat)(i j:Nat)(q:Bool)(yG:Nat->Nat->Prop):Prop:=
 ∀(W:World)(kI:Value->Option Value),lr C W kI->Calls Tryz.prog f #[.pointer (some ⟨C.S,0,none⟩),.agg #[.int .i64 (i:Int),.int .i64 (j:Int)]] W (BU C q yG kI W)
section
attribute [local go_sem ↓] Go.wp_at_zero Go.wp_at_succ
theorem xJ(a:Sd)(n:LW a)(e f:Nat)(F:e<a.za.length)(G:f<a.zb.length)(i:World)(H:Value->Option Value)(R:lr a i H):
 Calls Tryz.prog 183 #[.pointer (some ⟨a.S,0,none⟩),pk e f] i fun I c=>I=.returned (.bool (ph a.za a.zb e f))∧Below i.heap.size i c:=by
 have j:Below i.heap.size i (i.alloc (.cells #[.int .i64 (e:Int),.int .i64 (f:Int)] 154)):=(ah _ i).alloc (af _) _;have g:=R.below j;obtain⟨b,m⟩:∃b,i.alloc (.cells #[.int .i64 (e:Int),.int .i64 (f:Int)] 154)=b:=⟨_,rfl⟩;have h:b.heap[i.heap.size]?=some (.cells #[.int .i64 (e:Int),.int .i64 (f:Int)] 154 (0,0)):=by rw[<-m];exact aM i _
 have L:=hid m;rw[m]at j g;clear m;have z:b.cell? ⟨i.heap.size,0,none⟩=some (.int .i64 (e:Int)):=by simp[World.cell?,h]
 have A:b.cell? ⟨i.heap.size,1,none⟩=some (.int .i64 (f:Int)):=by simp[World.cell?,h]
 have r:i.heap.size<b.heap.size:=(ak.1 h).1;have x:=g.c1;have y:=g.c2;have o:=hid (fun c(d:Below b.heap.size b c)=>(show c.cell? ⟨a.S,1,none⟩=some (.slice (some ⟨a.ba,a.fa,none⟩) a.za.length a.ca)∧c.cell? ⟨a.S,2,none⟩=some (.slice (some ⟨a.bb,a.fb,none⟩) a.zb.length a.cb)∧c.cell? ⟨i.heap.size,0,none⟩=some (.int .i64 (e:Int))∧c.cell? ⟨i.heap.size,1,none⟩=some (.int .i64 (f:Int))from
  ⟨(d.cell g.lt).trans x,(d.cell g.lt).trans y,(d.cell r).trans z,(d.cell r).trans A⟩))
 have M:=cK n.ea;have N:=cK n.eb;have X:=gL n.ea F;have Y:=gL n.eb G;have Z:=Tm.im a.za e;have Yc:=Tm.im a.zb f;have J:=hid (fun c(d:Below b.heap.size b c)=>xw a.za M (some ⟨a.ba,a.fa,none⟩) a.ca e (by omega) c (g.below d).ia);have K:=hid (fun c(d:Below b.heap.size b c)=>xw a.zb N (some ⟨a.bb,a.fb,none⟩) a.cb f (by omega) c (g.below d).ib);have s:=fZ n.ea F;have t:=fZ n.eb G;have Eq:=hid (fun c(d:Below b.heap.size b c)=>xy (cD a.za e) (cD a.zb f) (some ⟨a.ba,a.fa+e,none⟩) (some ⟨a.bb,a.fb+f,none⟩) (a.ca-e) (a.cb-f) c ((g.below d).ia.sub e _) ((g.below d).ib.sub f _) (by unfold maxLen;omega));rw[s,t]at Eq;have V:=n.ca;have W:=n.cb;have u:=n.Q5;have v:=n.Q3;unfold maxLen at u v;have Yh:(Tm.dn a.za e:Int)<=(a.ca:Int):=by omega
 have Yi:(Tm.dn a.zb f:Int)<=(a.cb:Int):=by omega
 have Yj:(e:Int)<=(Tm.dn a.za e:Int):=by omega
 have Yk:(f:Int)<=(Tm.dn a.zb f:Int):=by omega
 have Yd:a.ca≠e:=by omega
 have Ye:a.cb≠f:=by omega
 have w:Hid (lJ (cD a.za e) (cD a.zb f)=ph a.za a.zb e f):=rfl;rw[w.out]at Eq;generalize ph a.za a.zb e f=Yl at*;generalize Tm.dn a.za e=Yf at*;generalize Tm.dn a.zb f=Yg at*;have p:=hid j;clear R g n x y z A s t h j w;unfold pk;go_enter Tryz.func183,Tryz.ntmps183;go_wp2_with fail;rw[L.out];have E:=o.out _ (ah _ b);go_region_held3(fun c=>c.cell? ⟨a.S,1,none⟩=some (.slice (some ⟨a.ba,a.fa,none⟩) a.za.length a.ca)∧c.cell? ⟨a.S,2,none⟩=some (.slice (some ⟨a.bb,a.fb,none⟩) a.zb.length a.cb)∧c.cell? ⟨i.heap.size,0,none⟩=some (.int .i64 (e:Int))∧c.cell? ⟨i.heap.size,1,none⟩=some (.int .i64 (f:Int)))(first|assumption|exact E)(first
  |(go_at_call_of 148(Value.slice (some ⟨a.ba,a.fa,none⟩) a.za.length a.ca);refine(J.out _ (bD (ah _ b) 1)).mono ?_;rintro I O⟨rfl,B⟩;have k:Below b.heap.size b O:=(bD (ah _ b) 1).trans (B.mono (by exact af _));have S:=o.out _ k)
  |(go_at_call_of 148(Value.slice (some ⟨a.bb,a.fb,none⟩) a.zb.length a.cb);refine(K.out _ k).mono ?_;rintro I P⟨rfl,C⟩;have l:Below b.heap.size b P:=k.trans (C.mono k.size);have T:=o.out _ l)
  |(go_at_call 109;refine(Eq.out _ l).mono ?_;rintro I Q⟨rfl,D⟩;have q:Below b.heap.size b Q:=l.trans (D.mono l.size);have U:=o.out _ q))
 all_goals(
  go_wp2;go_ret;exact⟨rfl,p.out.trans (q.mono p.out.size)⟩)
end
section
attribute [local go_sem ↓] Go.wp_at_zero Go.wp_at_succ
theorem IB(a:World):(zeroValue 188).run Tryz.prog a=.ok (.agg #[.bool false]) a:=by kernel_rfl
theorem DP(a:eZ t H z h)(g:t<=e)(f:Value):eZ t H z (h.setCell ⟨e,0,none⟩ f):=
 ⟨a.os,a.tape,a.output,aK a.size (ef h _ f).size,fun d b c=>(aT h ⟨e,0,none⟩ f d (by show d≠e;omega)).trans (a.block d b c)⟩
theorem qo.upd(g:Keyed Tryz.prog X){w:World}(l:qo X w e t y)(j:Tryz.prog.underlying N=some (.map X Y))(i:t<maxLen)(d:keyOf Tryz.prog X C=some Yf)(v:Value)(a:TypeId->Value->Value->Value->World->World)(h:∀N m k v w,a N m k v w=match(Instr.mapUpdate N m k v).run Tryz.prog w with|.ok _ f=>f|_=>w):
 (Instr.mapUpdate N (.map (some e)) C v).run Tryz.prog w=.ok () (a N (.map (some e)) C v w)∧∃b,qo X (a N (.map (some e)) C v w) e (t+1) b∧b C=some v∧(∀x,x≠C->b x=y x)∧w.grownBy (a N (.map (some e)) C v w) (some e):=by
 obtain⟨f,b,c,n⟩:=l.set g j i d v;have Y:a N (.map (some e)) C v w=f:=by rw[h,c]
 rw[Y];exact⟨c,b,n⟩
theorem AB{row:Option Nat}(a:h.drew.grownBy z row):h.grownBy z row:=⟨a.os,a.tape,a.output,a.size,a.block⟩
theorem ie(a:Below e h z):Below e h z.drew:=⟨a.os,a.tape,a.output,a.size,a.block⟩
theorem LP(c:Sd)(i j:Nat)(C:i<30)(D:j<30)(o e:World)(d:Value->Option Value)(F:lr c o d)(E:d (pk i j)=none)(f:World)(b:Value->Option Value)(z:o.heap.size<=e.heap.size)(q:eZ o.heap.size c.M o f)(y:lr c f b)(u:∀k l,k<i∨l<j∨(k=i∧l=j)->b (pk k l)=d (pk k l))(w:Value):
 ∃n,qo 154 (f.setCell ⟨e.heap.size,0,none⟩ w) c.M n b∧n<maxLen∧n+1<maxLen∧∀(g:World)(a:Value->Option Value),qo 154 g c.M (n+1) a->a (pk i j)=some (.agg #[.bool (iu c.rk c.za c.zb i j)])->(∀x,x≠pk i j->a x=b x)->(f.setCell ⟨e.heap.size,0,none⟩ w).grownBy g (some c.M)->
  eZ o.heap.size c.M o g∧∃h,lr c g h∧∀k l,k<i∨l<j->h (pk k l)=d (pk k l):=by
 obtain⟨n,s,v,p⟩:=y.FD;have I:=F.Qq;refine⟨n,s.eV (aT f ⟨e.heap.size,0,none⟩ w c.M (by show c.M≠e.heap.size;omega)),by have:=Found.small p;unfold maxLen;omega,by have:=Found.small p;unfold maxLen;omega,fun g a r A t B=>?_⟩;have m:eZ o.heap.size c.M o g:=(DP q z w).trans (eZ.oz B (by have:=q.size;have:=(ef f ⟨e.heap.size,0,none⟩ w).size;omega));refine⟨m,a,F.eV m (Found.note C D v p ((u i j (.inr (.inr ⟨rfl,rfl⟩))).trans E) r A t),fun k l G=>?_⟩;rw[t _ (fun H=>by obtain⟨rfl,rfl⟩:=J0 H;omega)];exact u k l (by omega)
theorem JB(d:Sd)(Y7:LW d)(i j:Nat)(Zc:i<d.za.length)(Zd:j<d.zb.length)
 (YP:pT d 149 i j (oD d.rk d.za d.zb i j (Tm.room (d.za[i]?.getD 0))) fun J Yw=>J<=i∨Yw<j)
 (YQ:pT d 150 i j (rA d.rk d.za d.zb i j) fun J Yw=>J<i∨Yw<=j):
 pT d 113 i j (iu d.rk d.za d.zb i j) fun J Yw=>J<i∨Yw<j:=by
 obtain⟨g,Y2⟩:∃Zl:TypeId->Value->Value->Value->World->World,∀Y9 Y8 J YY w,Zl Y9 Y8 J YY w=match(Instr.mapUpdate Y9 Y8 J YY).run Tryz.prog w with|.ok _ c=>c|_=>w:=⟨fun Y9 Y8 J YY w=>match(Instr.mapUpdate Y9 Y8 J YY).run Tryz.prog w with|.ok _ c=>c|_=>w,fun _ _ _ _ _=>rfl⟩
 have X:=hid Y2;clear Y2;intro w V YH;have o:Below w.heap.size w (w.alloc (.cells #[.int .i64 (i:Int),.int .i64 (j:Int)] 154)):=(ah _ w).alloc (af _) _;have v:=YH.below o;obtain⟨b,U⟩:∃b,w.alloc (.cells #[.int .i64 (i:Int),.int .i64 (j:Int)] 154)=b:=⟨_,rfl⟩;have r:b.heap[w.heap.size]?=some (.cells #[.int .i64 (i:Int),.int .i64 (j:Int)] 154 (0,0)):=by rw[<-U];exact aM w _
 have YI:=hid U;rw[U]at o v;clear U;have Yg:b.cell? ⟨w.heap.size,0,none⟩=some (.int .i64 (i:Int)):=by simp[World.cell?,r]
 have Yh:b.cell? ⟨w.heap.size,1,none⟩=some (.int .i64 (j:Int)):=by simp[World.cell?,r]
 have m:w.heap.size<b.heap.size:=(ak.1 r).1;have x:=v.c3;have Zn:=cK Y7.ea;have Zo:=cK Y7.eb;obtain⟨Yw,YB⟩:=Qk (i:=i) (j:=j) (by omega) (by omega);obtain⟨Zj,YN,Yu,Y4⟩:=v.FD;have W:=hid YN;cases Yc:V (pk i j)with
 |some YY=>
  have Zg:=Yu i j YY Yc;subst Zg;have h:=hid (fun c(y:Below b.heap.size b c)=>(show c.cell? ⟨d.S,3,none⟩=some (.map (some d.M))∧c.cell? ⟨w.heap.size,0,none⟩=some (.int .i64 (i:Int))∧c.cell? ⟨w.heap.size,1,none⟩=some (.int .i64 (j:Int))∧(Instr.lookup 149 (.map (some d.M)) (.agg #[.int .i64 (i:Int),.int .i64 (j:Int)]) true).run Tryz.prog c=.ok (.tuple #[.agg #[.bool (iu d.rk d.za d.zb i j)],.bool true]) c from
   ⟨(y.cell v.lt).trans x,(y.cell m).trans Yg,(y.cell m).trans Yh,by
     have:=(W.out.eV (y.block _ W.out.lt)).look oZ Tryz.underlying149 (IB c) YB
     rw[Yc]at this;exact this⟩))
  have Yd:=hid o;have YC:=hid v;generalize iu d.rk d.za d.zb i j=Zk at*;clear YP YQ YN Yu Y4 x Yg Yh r o v YH W;go_enter Tryz.func113,Tryz.ntmps113;go_wp2_with fail;rw[YI.out];have D:=h.out _ (ah _ b);go_region_held3(fun c=>c.cell? ⟨d.S,3,none⟩=some (.map (some d.M))∧c.cell? ⟨w.heap.size,0,none⟩=some (.int .i64 (i:Int))∧c.cell? ⟨w.heap.size,1,none⟩=some (.int .i64 (j:Int))∧(Instr.lookup 149 (.map (some d.M)) (.agg #[.int .i64 (i:Int),.int .i64 (j:Int)]) true).run Tryz.prog c=.ok (.tuple #[.agg #[.bool Zk],.bool true]) c)(first|assumption|exact h.out _ (ah _ b)|exact h.out _ (bD (ah _ b) _)|exact h.out _ ((bD (ah _ b) _).alloc (af _) _))(first|fail)
  all_goals(
   have l:Below b.heap.size b (b.alloc (.cells #[.bool Zk] 188)).drew:=ie ((ah _ b).alloc (af _) _);clear h D;go_wp2;go_ret;exact⟨rfl,eZ.kd (Yd.out.trans (l.mono Yd.out.size)),V,YC.out.below l,fun _ _ _=>rfl⟩)
 |none=>
  have h:=hid (fun c(y:Below b.heap.size b c)=>(show c.cell? ⟨d.S,3,none⟩=some (.map (some d.M))∧c.cell? ⟨w.heap.size,0,none⟩=some (.int .i64 (i:Int))∧c.cell? ⟨w.heap.size,1,none⟩=some (.int .i64 (j:Int))∧(Instr.lookup 149 (.map (some d.M)) (.agg #[.int .i64 (i:Int),.int .i64 (j:Int)]) true).run Tryz.prog c=.ok (.tuple #[.agg #[.bool false],.bool false]) c from
   ⟨(y.cell v.lt).trans x,(y.cell m).trans Yg,(y.cell m).trans Yh,by
     have:=(W.out.eV (y.block _ W.out.lt)).look oZ Tryz.underlying149 (IB c) YB
     rw[Yc]at this;exact this⟩))
  have T:=hid (Gb (rk:=d.rk) Y7.ea Y7.eb Zc Zd);have Yd:=hid o;have YC:=hid v;have Za:=hid YH;have l:Below b.heap.size b (b.alloc (.cells #[.bool false] 188)).drew:=ie ((ah _ b).alloc (af _) _);have Ye:Boxed (b.alloc (.cells #[.bool false] 188)).drew b.heap.size 188 (.bool false):=dt b 188 (.bool false);obtain⟨Yx,Yv⟩:∃Yx,(b.alloc (.cells #[.bool false] 188)).drew=Yx:=⟨_,rfl⟩;have YD:=hid Yv;rw[Yv]at l Ye;clear Yv;have YZ:=v.below l;have Yz:=(l.cell (p:=⟨w.heap.size,0,none⟩) m).trans Yg;have YA:=(l.cell (p:=⟨w.heap.size,1,none⟩) m).trans Yh;have t:w.heap.size<Yx.heap.size:=df m l.size;have Ze:=YH.Qq;have Zf:=YH.lt;have Yn:=YH.QY;have A:eZ w.heap.size d.M w Yx:=eZ.kd (o.trans (l.mono o.size));have e:w.heap.size≠d.M:=by omega
  have u:b.heap.size≠d.M:=by omega
  have R:=hid (YP Yx V YZ);have Yk:=hid YQ;have Zh:=hid Yc;have Y:=hid YB;generalize Y3:oD d.rk d.za d.zb i j (Tm.room (d.za[i]?.getD 0))=Zb at*;generalize Y5:rA d.rk d.za d.zb i j=n at*;have Q:=hid (LP d i j (by omega) (by omega) w b V Za.out Yc);clear YP YQ YN Yu Y4 x Yg Yh r o v YH W YZ Yc YB Y3 Y5;cases Zb with
  |true=>
   have F:iu d.rk d.za d.zb i j=true:=T.out;rw[F]at Q⊢;clear T F Yk;go_enter Tryz.func113,Tryz.ntmps113;go_wp2_with fail;rw[YI.out];have D:=h.out _ (ah _ b);go_region_held3(fun c=>c.cell? ⟨d.S,3,none⟩=some (.map (some d.M))∧c.cell? ⟨w.heap.size,0,none⟩=some (.int .i64 (i:Int))∧c.cell? ⟨w.heap.size,1,none⟩=some (.int .i64 (j:Int))∧(Instr.lookup 149 (.map (some d.M)) (.agg #[.int .i64 (i:Int),.int .i64 (j:Int)]) true).run Tryz.prog c=.ok (.tuple #[.agg #[.bool false],.bool false]) c)(first|assumption|exact h.out _ (ah _ b)|exact h.out _ (bD (ah _ b) _)|exact h.out _ ((bD (ah _ b) _).alloc (af _) _))(first|fail)
   all_goals(
    rw[YD.out];clear h D;go_wp2_with(first
     |(go_at_call 149;refine R.out.mono ?_;clear R;rintro Zi q⟨rfl,k,O,Yy,Yt⟩;have Yi:=(k.cell (p:=⟨w.heap.size,0,none⟩) t e).trans Yz;have Yj:=(k.cell (p:=⟨w.heap.size,1,none⟩) t e).trans YA;have Z:Boxed q b.heap.size 188 (.bool false):=(k.block _ Ye.lt u).trans Ye;have YK:=Z.cell;have YL:=Z.frozen;have x:=Yy.c3))
    have z:eZ w.heap.size d.M w q:=A.trans (k.mono A.size);obtain⟨Zj,C,E,I,s⟩:=Q.out q O (RB m) z Yy (fun J Yw Zm=>Yt J Yw (by omega)) (.bool true);have Yf:=Z.set (.bool true);have K:=(aH (a:=⟨w.heap.size,0,none⟩) (aT q ⟨b.heap.size,0,none⟩ (.bool true) w.heap.size (by show w.heap.size≠b.heap.size;omega))).trans Yi;have L:=(aH (a:=⟨w.heap.size,1,none⟩) (aT q ⟨b.heap.size,0,none⟩ (.bool true) w.heap.size (by show w.heap.size≠b.heap.size;omega))).trans Yj;have M:=(aH (a:=⟨d.S,3,none⟩) (aT q ⟨b.heap.size,0,none⟩ (.bool true) d.S (by show d.S≠b.heap.size;omega))).trans x;have YR:b.heap.size<(q.setCell ⟨b.heap.size,0,none⟩ (.bool true)).heap.size:=Yf.lt;generalize q.setCell ⟨b.heap.size,0,none⟩ (.bool true)=YX at*;have N:=Yf.cell;clear Yi Yj x YK YL Yz YA;have H:=hid s;clear s;have Yp:=(C.upd oZ Tryz.underlying149 E Y.out (.agg #[.bool true]) g X.out).1;obtain⟨Yr,P,B,YM,Yo,Yl⟩:=qo.upd oZ (w:=YX.drew) (C.eV rfl) Tryz.underlying149 E Y.out (.agg #[.bool true]) g X.out;have Yq:=(B.upd oZ Tryz.underlying149 I Y.out (.agg #[.bool true]) g X.out).1;have f:=AB Yl;have YS:=(aH (a:=⟨w.heap.size,0,none⟩) (f.block w.heap.size (by omega) (by simpa using e))).trans K;have YT:=(aH (a:=⟨w.heap.size,1,none⟩) (f.block w.heap.size (by omega) (by simpa using e))).trans L;have YU:=(aH (a:=⟨d.S,3,none⟩) (f.block d.S (by omega) (by simpa using Yn))).trans M;have YV:=(aH (a:=⟨b.heap.size,0,none⟩) (f.block b.heap.size (by omega) (by simpa using u))).trans N;go_region_held3(fun c=>c.cell? ⟨d.S,3,none⟩=some (.map (some d.M))∧c.cell? ⟨w.heap.size,0,none⟩=some (.int .i64 (i:Int))∧c.cell? ⟨w.heap.size,1,none⟩=some (.int .i64 (j:Int))∧c.cell? ⟨b.heap.size,0,none⟩=some (.bool true)∧(Instr.mapUpdate 149 (.map (some d.M)) (.agg #[.int .i64 (i:Int),.int .i64 (j:Int)]) (.agg #[.bool true])).run Tryz.prog c=.ok () (g 149 (.map (some d.M)) (pk i j) (.agg #[.bool true]) c))(first|assumption|exact⟨M,K,L,N,Yp⟩|exact⟨M,K,L,N,Yr⟩|exact⟨YU,YS,YT,YV,Yq⟩)(first|fail)
    all_goals(
     go_wp2;go_ret;exact⟨rfl,H.out _ P B YM Yo f⟩))
  |false=>
   have F:iu d.rk d.za d.zb i j=n:=by rw[T.out];rfl
   rw[F]at Q⊢;clear T F;go_enter Tryz.func113,Tryz.ntmps113;go_wp2_with fail;rw[YI.out];have D:=h.out _ (ah _ b);go_region_held3(fun c=>c.cell? ⟨d.S,3,none⟩=some (.map (some d.M))∧c.cell? ⟨w.heap.size,0,none⟩=some (.int .i64 (i:Int))∧c.cell? ⟨w.heap.size,1,none⟩=some (.int .i64 (j:Int))∧(Instr.lookup 149 (.map (some d.M)) (.agg #[.int .i64 (i:Int),.int .i64 (j:Int)]) true).run Tryz.prog c=.ok (.tuple #[.agg #[.bool false],.bool false]) c)(first|assumption|exact h.out _ (ah _ b)|exact h.out _ (bD (ah _ b) _)|exact h.out _ ((bD (ah _ b) _).alloc (af _) _))(first|fail)
   all_goals(
    rw[YD.out];clear h D;go_wp2_with(first
     |(go_at_call 149;refine R.out.mono ?_;clear R;rintro Zi q⟨rfl,k,O,Yy,Yt⟩;have Yi:=(k.cell (p:=⟨w.heap.size,0,none⟩) t e).trans Yz;have Yj:=(k.cell (p:=⟨w.heap.size,1,none⟩) t e).trans YA;have Z:Boxed q b.heap.size 188 (.bool false):=(k.block _ Ye.lt u).trans Ye;have z:eZ w.heap.size d.M w q:=A.trans (k.mono A.size);have Ym:=df t k.size;have YG:=hid (Yk.out q O Yy);clear Yk Yz YA)
     |(go_at_call 150;refine YG.out.mono ?_;clear YG;rintro Zi G⟨rfl,S,YW,Y0,Y6⟩;have YE:=(S.cell (p:=⟨w.heap.size,0,none⟩) Ym e).trans Yi;have YF:=(S.cell (p:=⟨w.heap.size,1,none⟩) Ym e).trans Yj;clear Yi Yj;have YJ:Boxed G b.heap.size 188 (.bool false):=(S.block _ Z.lt u).trans Z;have YK:=YJ.cell;have YL:=YJ.frozen;have x:=Y0.c3))
    have YO:eZ w.heap.size d.M w G:=z.trans (S.mono z.size);obtain⟨Zj,C,E,I,s⟩:=Q.out G YW (RB m) YO Y0 (fun J Yw Zm=>(Y6 J Yw (by omega)).trans (Yt J Yw (by omega))) (.bool n);have Yf:=YJ.set (.bool n);have K:=(aH (a:=⟨w.heap.size,0,none⟩) (aT G ⟨b.heap.size,0,none⟩ (.bool n) w.heap.size (by show w.heap.size≠b.heap.size;omega))).trans YE;have L:=(aH (a:=⟨w.heap.size,1,none⟩) (aT G ⟨b.heap.size,0,none⟩ (.bool n) w.heap.size (by show w.heap.size≠b.heap.size;omega))).trans YF;have M:=(aH (a:=⟨d.S,3,none⟩) (aT G ⟨b.heap.size,0,none⟩ (.bool n) d.S (by show d.S≠b.heap.size;omega))).trans x;have YR:b.heap.size<(G.setCell ⟨b.heap.size,0,none⟩ (.bool n)).heap.size:=Yf.lt;generalize G.setCell ⟨b.heap.size,0,none⟩ (.bool n)=YX at*;have N:=Yf.cell;clear YE YF x YK YL;have H:=hid s;clear s;have Yp:=(C.upd oZ Tryz.underlying149 E Y.out (.agg #[.bool n]) g X.out).1;obtain⟨Yr,P,B,YM,Yo,Yl⟩:=qo.upd oZ (w:=YX.drew) (C.eV rfl) Tryz.underlying149 E Y.out (.agg #[.bool n]) g X.out;have Yq:=(B.upd oZ Tryz.underlying149 I Y.out (.agg #[.bool n]) g X.out).1;have f:=AB Yl;have YS:=(aH (a:=⟨w.heap.size,0,none⟩) (f.block w.heap.size (by omega) (by simpa using e))).trans K;have YT:=(aH (a:=⟨w.heap.size,1,none⟩) (f.block w.heap.size (by omega) (by simpa using e))).trans L;have YU:=(aH (a:=⟨d.S,3,none⟩) (f.block d.S (by omega) (by simpa using Yn))).trans M;have YV:=(aH (a:=⟨b.heap.size,0,none⟩) (f.block b.heap.size (by omega) (by simpa using u))).trans N;go_region_held3(fun c=>c.cell? ⟨d.S,3,none⟩=some (.map (some d.M))∧c.cell? ⟨w.heap.size,0,none⟩=some (.int .i64 (i:Int))∧c.cell? ⟨w.heap.size,1,none⟩=some (.int .i64 (j:Int))∧c.cell? ⟨b.heap.size,0,none⟩=some (.bool n)∧(Instr.mapUpdate 149 (.map (some d.M)) (.agg #[.int .i64 (i:Int),.int .i64 (j:Int)]) (.agg #[.bool n])).run Tryz.prog c=.ok () (g 149 (.map (some d.M)) (pk i j) (.agg #[.bool n]) c))(first|assumption|exact⟨M,K,L,N,Yp⟩|exact⟨M,K,L,N,Yr⟩|exact⟨YU,YS,YT,YV,Yq⟩)(first|fail)
    all_goals(
     go_wp2;go_ret;exact⟨rfl,H.out _ P B YM Yo f⟩))
end
