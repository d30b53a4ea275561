/-
  Parts of the proof.
-/
import Derived.Test.YtglohanbpjaieaaGreatDoorBdp16
import Derived.Test.YtglohanbpjaieaaGreatDoorBdp15
set_option maxHeartbeats 4000000
set_option maxRecDepth 100000
namespace Go.Proofs.YtglohanbpjaieaaGreatDoor
open Go.Proofs Go.RowKit Go.Shelf Go.Maps
variable {A:Func}{C:uC}{E:Oper}{F:Act}{H:Array Oper}{I:Exit->Act->World->Prop}{d r G:Nat}{e z:List Int}{h:bu}{i:World}{l:bg}{o:Nat×Nat×List Int}{q:List (Nat×Nat)}{s:qi}{w:Array Value}{x D:Value}{y:Int}
theorem Gg(h:A.results=#[.cell r 101,.cell G 22])(f:w.getD r undef=.pointer (some ⟨d,0,none⟩))(g:w.getD G undef=.pointer (some ⟨d+1,0,none⟩))(c:Boxed i d 101 (.slice none 0 0))(e:Boxed i (d+1) 22 (.int .i64 0)):
 (results A w).run Tryz.prog ((i.setCell ⟨d,0,none⟩ (.slice none 0 0)).setCell ⟨d+1,0,none⟩ (.int .i64 y))=.ok (.tuple #[.slice none 0 0,.int .i64 y]) ((i.setCell ⟨d,0,none⟩ (.slice none 0 0)).setCell ⟨d+1,0,none⟩ (.int .i64 y)):=by
 have b:Boxed (i.setCell ⟨d,0,none⟩ (.slice none 0 0)) (d+1) 22 (.int .i64 0):=(aT i ⟨d,0,none⟩ _ (d+1) (by show d+1≠d;omega)).trans e;have a:Boxed ((i.setCell ⟨d,0,none⟩ (.slice none 0 0)).setCell ⟨d+1,0,none⟩ (.int .i64 y)) d 101 (.slice none 0 0):=(aT _ ⟨d+1,0,none⟩ _ d (by show d≠d+1;omega)).trans (c.set _);exact vt h f g a.cell (b.set _).cell
theorem Lu(c:bu)(n:List Int)(k f:Option Addr)(o l:Nat)(a:World)(x:dw a.heap.size a k c)(A:cZ a.heap.size a f n)(P:n.length<=l)(Q:l<=maxLen):
 Calls Tryz.prog 107 #[.slice k c.length o,.slice f n.length l] a fun L T=>l7 c n a L T:=by
 by_cases q:cm c=0
 ·by_cases y:Tm.err n=0
  ·exact GW c n k f o l a q y x A P Q
  ·have r:dS c n=Tm.err n:=by unfold dS;rw[aD q,aE y]
   have w:dT c n=[]:=by unfold dT;rw[r,aE y]
   unfold l7;rw[r,w];clear r w;obtain⟨g,j⟩:∃g,(((a.alloc (.cells #[.slice k c.length o] 31)).alloc (.cells #[.slice f n.length l] 68)).alloc (.cells #[.slice none 0 0] 101)).alloc (.cells #[.int .i64 0] 22)=g:=⟨_,rfl⟩;obtain⟨b,B,D,u,v,J⟩:=wX a g k f c.length o n.length l j;have t:=hid j;clear j;have E:=B.cell;have z:=hid (lf c k o g ((x.below b).mono b.size));rw[q]at z;have M:=hid (fun V(H:Below g.heap.size g V)=>jn n f l V ((A.below (b.trans (H.mono b.size))).mono (aK b.size H.size)));have I:(Tm.err n !=0)=true:=by simpa using y
   clear q y x A;generalize Tm.err n=X at*;go_enter Tryz.func107,Tryz.ntmps107;go_wp2_with fail;rw[t.out];go_wp2_with(first
    |(go_at_call 75;refine z.out.mono ?_;rintro L U⟨rfl,s⟩;have W:=(s.cell (p:=⟨a.heap.size+1,0,none⟩) (by show a.heap.size+1<_;omega)).trans D.cell)
    |(go_at_call 112;refine(M.out U s).mono ?_;rintro L m⟨rfl,G⟩;have d:=s.trans (G.mono s.size);have h:Boxed m (a.heap.size+1+1) 101 (.slice none 0 0):=(d.block _ u.lt).trans u;have e:Boxed m (a.heap.size+1+1+1) 22 (.int .i64 0):=(d.block _ v.lt).trans v;have R:=h.cell;have S:=e.cell;have N:=h.frozen;have O:=e.frozen;have i:Boxed (m.setCell ⟨a.heap.size+1+1,0,none⟩ (.slice none 0 0)) (a.heap.size+1+1+1) 22 (.int .i64 0):=(aT m ⟨a.heap.size+1+1,0,none⟩ _ (a.heap.size+1+1+1) (by show a.heap.size+1+1+1≠a.heap.size+1+1;omega)).trans e;have K:=i.cell;have F:=i.frozen))
   refine fI (Gg rfl rfl rfl h e) rfl ?_;have C:=b.trans (d.mono b.size);exact⟨_,rfl,mw.nil _ _,(C.setCell (p:=⟨a.heap.size+1+1,0,none⟩) (by show a.heap.size<=a.heap.size+1+1;omega) _).setCell (p:=⟨a.heap.size+1+1+1,0,none⟩) (by show a.heap.size<=a.heap.size+1+1+1;omega) _⟩
 ·have r:dS c n=cm c:=by unfold dS;rw[aE q]
  have w:dT c n=[]:=by unfold dT;rw[r,aE q]
  unfold l7;rw[r,w];clear r w;obtain⟨g,j⟩:∃g,(((a.alloc (.cells #[.slice k c.length o] 31)).alloc (.cells #[.slice f n.length l] 68)).alloc (.cells #[.slice none 0 0] 101)).alloc (.cells #[.int .i64 0] 22)=g:=⟨_,rfl⟩;obtain⟨b,B,D,u,v,J⟩:=wX a g k f c.length o n.length l j;have t:=hid j;clear j;have E:=B.cell;have z:=hid (lf c k o g ((x.below b).mono b.size));have I:(cm c !=0)=true:=by simpa using q
  clear q x A;generalize cm c=X at*;go_enter Tryz.func107,Tryz.ntmps107;go_wp2_with fail;rw[t.out];go_wp2_with(first
   |(go_at_call 75;refine z.out.mono ?_;rintro L m⟨rfl,d⟩;have h:Boxed m (a.heap.size+1+1) 101 (.slice none 0 0):=(d.block _ u.lt).trans u;have e:Boxed m (a.heap.size+1+1+1) 22 (.int .i64 0):=(d.block _ v.lt).trans v;have R:=h.cell;have S:=e.cell;have N:=h.frozen;have O:=e.frozen;have i:Boxed (m.setCell ⟨a.heap.size+1+1,0,none⟩ (.slice none 0 0)) (a.heap.size+1+1+1) 22 (.int .i64 0):=(aT m ⟨a.heap.size+1+1,0,none⟩ _ (a.heap.size+1+1+1) (by show a.heap.size+1+1+1≠a.heap.size+1+1;omega)).trans e;have K:=i.cell;have F:=i.frozen))
  refine fI (Gg rfl rfl rfl h e) rfl ?_;have C:=b.trans (d.mono b.size);exact⟨_,rfl,mw.nil _ _,(C.setCell (p:=⟨a.heap.size+1+1,0,none⟩) (by show a.heap.size<=a.heap.size+1+1;omega) _).setCell (p:=⟨a.heap.size+1+1+1,0,none⟩) (by show a.heap.size<=a.heap.size+1+1+1;omega) _⟩
theorem mw.at{base:Nat}{v:Value}(w:mw base i v s)(z:0<s.length):∃g a,v=.slice (some ⟨g,0,none⟩) s.length a∧∀j,j<s.length->∃b c,i.cell? ⟨g,j*3,none⟩=some (.int .i64 ((s[j]?.getD (0,0,[])).1:Int))∧i.cell? ⟨g,j*3+1,none⟩=some (.int .i64 ((s[j]?.getD (0,0,[])).2.1:Int))∧
 i.cell? ⟨g,j*3+2,none⟩=some (.slice b (s[j]?.getD (0,0,[])).2.2.length c)∧cZ i.heap.size i b (s[j]?.getD (0,0,[])).2.2∧(s[j]?.getD (0,0,[])).2.2.length<=c∧c<=maxLen:=by
 obtain⟨t,e,k⟩:=w;have x:t.length=s.length*3:=e.1;rcases e.2 with⟨rfl,y⟩|⟨g,a,u,rfl,B⟩
 ·omega
 ·refine⟨g,a,rfl,fun j n=>?_⟩
  obtain⟨C,p,q,r,m⟩:=k j n;obtain⟨b,c,rfl,l,f,h⟩:=cU.ints m;have d:=fun A o=>dI e A o
  exact⟨b,c,by rw[d _ (by omega),p],by rw[d _ (by omega),q],by rw[d _ (by omega),r],l,f,h⟩
theorem GS:∀n,o∈jt h e d n->o.1<n∧o.2.1=d∧mx h e d o.1=true∧o.2.2=ob h e d o.1:=by
 intro n;induction n with
 |zero=>intro a;simp[jt]at a
 |succ n c=>
  intro a;rw[jt,dZ]at a;rcases a with a|a
  ·obtain⟨f,b⟩:=c a
   exact⟨by omega,b⟩
  ·split at a
   ·simp only[dA,Rn,RL]at a
    subst a;exact⟨by simp,rfl,by assumption,rfl⟩
   ·simp at a
theorem GY:∀m,o∈iN h e m->o.2.1<m∧o.1<h.length∧mx h e o.2.1 o.1=true∧o.2.2=ob h e o.2.1 o.1:=by
 intro m;induction m with
 |zero=>intro a;simp[iN]at a
 |succ m g=>
  intro a;rw[iN,dZ]at a;rcases a with a|a
  ·obtain⟨c,b⟩:=g a
   exact⟨by omega,b⟩
  ·obtain⟨c,b,d,f⟩:=GS _ a
   rw[b];exact⟨by omega,c,d,f⟩
theorem Gp:∀n,jI h e d n=0->∀k,k<n->mx h e d k=true->j3 h e d k=0:=by
 intro n;induction n with
 |zero=>intro _ k f;omega
 |succ n g=>
  intro b k f c;rw[jI]at b;by_cases a:jI h e d n=0
  ·rw[aD a]at b
   by_cases i:k=n
   ·subst i;rw[aD c]at b;exact b
   ·exact g a k (by omega) c
  ·rw[aE a]at b;exact absurd b a
theorem Gv:∀m,jv h e m=0->∀b,b<m->∀k,k<h.length->mx h e b k=true->j3 h e b k=0:=by
 intro m;induction m with
 |zero=>intro _ b d;omega
 |succ m f=>
  intro c b d;rw[jv]at c;by_cases a:jv h e m=0
  ·rw[aD a]at c
   by_cases g:b=m
   ·subst g;exact Gp _ c
   ·exact f a b (by omega)
  ·rw[aE a]at c;exact absurd c a
structure Cz(L R t u:List Int)(a:Nat)(m:uC):Prop where
 fit:Tm.fit L (cD t a)=some m
 goes:u=eI t a (bo (fH m 8) R)
 small:u.length<=30
theorem Gn(q:cm h=0)(l:Tm.err e=0)(i:r<e.length)(p:d<h.length)(j:mx h e r d=true)(o:j3 h e r d=0):
 ∃m,Cz (h[d]?.getD ([],[])).1 (h[d]?.getD ([],[])).2 e (ob h e r d) r m:=by
 obtain⟨_,c⟩:=dV q;obtain⟨g,n,_⟩:=eo (c d p);rw[AN g l i,tO]at j;obtain⟨m,k⟩:=j;obtain⟨f,b⟩:=Cb g n l i k;rw[o]at f;by_cases a:30<(eI e r (bo (fH m 8) (h[d]?.getD ([],[])).2)).length
 ·rw[aD a]at f;omega
 ·rw[aE a]at b
  exact⟨m,k,b,by rw[b];omega⟩
theorem Cz.parts{t u:List Int}{a:Nat}(d:Cz z e t u a C)(f:Tm.err z=0)(j:Tm.err e=0)(c:Tm.err t=0)(b:a<t.length):
 qO (fH C 8)∧bo (fH C 8) z=cD t a∧Tm.err (bo (fH C 8) e)=0∧Tm.err u=0:=by
 have h:=qO.of (sj f (fD c b) d.fit);have k:=d.small;have g:=tk (t:=t) (u:=bo (fH C 8) e) (a:=a);rw[<-d.goes]at g;have i:=nE h j (by omega);refine⟨h,Fh f (fD c b) d.fit,i,?_⟩;rw[d.goes];exact Co c i b (by rw[<-d.goes];exact k)
theorem mW(c:dS h e=0):cm h=0∧Tm.err e=0∧jv h e e.length=0:=by
 unfold dS at c;by_cases a:cm h=0
 ·rw[aD a]at c
  by_cases b:Tm.err e=0
  ·rw[aD b]at c;exact⟨a,b,c⟩
  ·rw[aE b]at c;exact absurd c b
 ·rw[aE a]at c;exact absurd c a
theorem Jc(a:d≠0):((d:Int)==0)=false:=by rw[aW];omega
theorem OW(a:d=0):((d:Int)==0)=true:=by rw[RQ];omega
def mX(rs:bu):Nat->List Int->Nat->List Int×Nat×Int
 |0,_,_=>([],0,2)
 |f+1,t,k=>if dS rs t=0 then(match dT rs t with|[]=>(t,k,0)|s::_=>mX rs f s.2.2 (k+1))else([],0,dS rs t)
def bU(rs:bu)(t:List Int):List Int×Nat×Int:=mX rs 61 t 0
theorem ur{f k:Nat}(a:dS h e≠0):mX h (f+1) e k=([],0,dS h e):=by rw[mX,aE a]
theorem xA{f k:Nat}(b:dS h e=0)(a:(dT h e).length=0):mX h (f+1) e k=(e,k,0):=by
 rw[mX,aD b,bJ a]
theorem zC{f k:Nat}(c:dS h e=0)(a:0<(dT h e).length):mX h (f+1) e k=mX h f ((dT h e)[0]?.getD (0,0,[])).2.2 (k+1):=by
 rw[mX,aD c];cases b:dT h e with
 |nil=>rw[b]at a;simp at a
 |cons g d=>rfl
theorem qQ(a:List Int)(h:Option Addr)(b:Nat)(c:World)(e:Tm.err a=0)(d:cZ c.heap.size c h a):
 Calls Tryz.prog 108 #[.slice h a.length b] c fun j g=>∃v,j=.returned v∧cU c.heap.size g v a∧Below c.heap.size c g:=by
 obtain⟨i,f,rfl,_,_⟩:=d.at (dU e);exact D9 a i f b c (cK e) d
theorem wm(a:bu)(w:List Int)(y m:Option Addr)(F p:Nat)(o:World)(H:dw o.heap.size o y a)(Y:cZ o.heap.size o m w)(U:w.length<=p)(V:p<=maxLen):
 Calls Tryz.prog 80 #[.slice y a.length F,.slice m w.length p] o fun G P=>∃v,G=.returned (.tuple #[v,.int .i64 ((bU a w).2.1:Int),.int .i64 (bU a w).2.2])∧cU o.heap.size P v (bU a w).1∧Below o.heap.size o P:=by
 unfold bU;generalize Z:mX a 61 w 0=N;have R:=hid H;clear H;go_enter Tryz.func80,Tryz.ntmps80;go_wp2;go_loopw [1,10](fun Yi v wr=>∃(k:Nat)(i:List Int)(D:Option Addr)(C:Nat),k<=61∧v=.int .i64 (k:Int)∧Yi=.slice D i.length C∧Hid (cZ wr.heap.size wr D i)∧i.length<=C∧C<=maxLen∧Hid (mX a (61-k) i k=N)∧Below o.heap.size o wr)(fun _ v _=>61-(intOf v).toNat)
 case atStart=>exact⟨0,w,m,p,by omega,rfl,rfl,hid Y,U,V,hid Z,ah _ _⟩
 case round=>
  obtain⟨k,i,D,C,Yv,rfl,rfl,l,J,K,c,h⟩:=hrel;by_cases Yp:k<61
  ·have Yc:(k:Int)<61:=by omega
   have e:=hid (Lu a i y D F C wr ((R.out.below h).mono h.size) l.out J K);obtain⟨f,L⟩:∃f,61-k=f+1:=⟨60-k,by omega⟩;rw[L]at c;by_cases d:dS a i=0
   ·obtain⟨_,A,_⟩:=mW d
    by_cases q:(dT a i).length=0
    ·have g:=hid ((xA (f:=f) (k:=k) d q).symm.trans c.out)
     have r:=hid (fun Yn(I:Below wr.heap.size wr Yn)=>qQ i D C Yn A ((l.out.below I).mono I.size));unfold l7 at e;rw[d,bJ q]at e;clear d q A c l;go_wp2_with(first
      |(go_at_call 107;refine e.out.mono ?_;clear e;rintro G B⟨O,rfl,b,j⟩;obtain⟨Yj,Yk,rfl⟩:=b.slice;have Q:=hid b;clear b)
      |(go_at_call 108;refine(r.out B j).mono ?_;clear r;rintro G Yy⟨Yx,rfl,s,T⟩;obtain⟨Yz,YA,rfl,_⟩:=cU.ints s))
     go_ret3
     have x:=h.trans (j.mono h.size);rw[<-g.out];exact⟨_,rfl,s.mono x.size,x.trans (T.mono x.size)⟩
    ·have z:0<(dT a i).length:=by omega
     have g:=hid ((zC (f:=f) (k:=k) d z).symm.trans c.out);have Yo:=hid (show(dT a i).length<=1000 by
      obtain⟨Ye,Yf,Yw⟩:=mW d;have Yt:=yq a i i.length;have W:=cK Yf;have X:=(dV Ye).1;have Yu:i.length*a.length<=30*8:=sK W X;unfold dT;rw[aD d];omega)
     unfold l7 at e;rw[d]at e;have u:f=61-(k+1):=by omega
     rw[u]at g;clear d q A c l L u;generalize dT a i=n at*;have Yq:(0:Int)<(n.length:Int):=by omega
     have M:((n.length:Int)==0)=false:=Jc (by omega);go_wp2_with(first
      |(go_at_call 107;refine e.out.mono ?_;clear e;rintro G B⟨O,rfl,b,j⟩;obtain⟨YB,Yr,rfl,t⟩:=b.at z;obtain⟨Yl,Ym,_,_,E,Yd,Yg,Yh⟩:=t 0 z;clear t;simp only[RO,cI]at E;have Q:=hid b;clear b;generalize(n[0]?.getD (0,0,[])).2.2=u1 at*))
     go_roundw
     case rel=>exact⟨k+1,u1,Yl,Ym,by omega,by go_num,rfl,hid Yd,Yg,Yh,hid g.out,h.trans (j.mono h.size)⟩
     case measure=>simp[intOf];omega
   ·have g:=hid ((ur (f:=f) (k:=k) d).symm.trans c.out)
    have M:(dS a i !=0)=true:=by simpa using d
    unfold l7 at e;clear d c l;generalize dS a i=YC at*;go_wp2_with(first
     |(go_at_call 107;refine e.out.mono ?_;clear e;rintro G B⟨O,rfl,b,j⟩;obtain⟨Yj,Yk,rfl⟩:=b.slice;clear b))
    go_ret3
    rw[<-g.out];exact⟨_,rfl,cU.nil _ _,h.trans (j.mono h.size)⟩
  ·obtain rfl:k=61:=by omega
   have g:=c.out;rw[oe,mX]at g;have S:=hid g;clear g c l;go_wp2;go_ret3
   rw[<-S.out];exact⟨_,rfl,cU.nil _ _,h⟩
def dF(rs:bu)(P Q:List Int):Int:=if(bU rs P).2.2=0 then(bU rs Q).2.2 else(bU rs P).2.2
def fX(rs:bu)(P Q:List Int):Bool:=decide (dF rs P Q=0)&&lJ (bU rs P).1 (bU rs Q).1
theorem zi(b:bu)(e f:List Int)(B t u:Option Addr)(H o p:Nat)(n:World)(J:dw n.heap.size n B b)(P:cZ n.heap.size n t e)(Q:cZ n.heap.size n u f)(U:e.length<=o)(V:o<=maxLen)(W:f.length<=p)(X:p<=maxLen):
 Calls Tryz.prog 81 #[.slice B b.length H,.agg #[.slice t e.length o,.slice u f.length p]] n fun I Yg=>I=.returned (.tuple #[.bool (fX b e f),.int .i64 (dF b e f)])∧Below n.heap.size n Yg:=by
 obtain⟨j,l⟩:∃j,n.alloc (.cells #[.slice t e.length o,.slice u f.length p] 79)=j:=⟨_,rfl⟩;have a:Below n.heap.size n j:=by rw[<-l];exact(ah _ _).alloc (af _) _
 have w:eT j n.heap.size 79 (.slice t e.length o) (.slice u f.length p):=by rw[<-l];exact eT.new n _ _ _
 have Yk:=w.cell0;have i:=hid (wm b e B t H o j ((J.below a).mono a.size) ((P.below a).mono a.size) U V);have r:=hid (fun Yh(R:Below j.heap.size j Yh)=>wm b f B u H p Yh (by have N:=a.trans (R.mono a.size);exact(J.below N).mono N.size) (by have N:=a.trans (R.mono a.size);exact(Q.below N).mono N.size) W X);have c:Hid (dF b e f=if(bU b e).2.2=0 then(bU b f).2.2 else(bU b e).2.2):=rfl;have k:Hid (fX b e f=(decide (dF b e f=0)&&lJ (bU b e).1 (bU b f).1)):=rfl;have s:=hid l;clear l J P Q U V W X;generalize bU b e=Yl at*;generalize bU b f=Ym at*;obtain⟨Yi,Yp,M⟩:=Yl;obtain⟨Yj,Yo,E⟩:=Ym;dsimp only at i r c k
 by_cases q:M=0
 ·subst q
  rw[aD rfl]at c;by_cases m:E=0
  ·subst m
   have g:=hid (show fX b e f=lJ Yi Yj by rw[k.out,c.out];simp);rw[c.out,g.out];clear k c g;go_enter Tryz.func81,Tryz.ntmps81;go_wp2_with fail;rw[s.out];go_wp2_with fail;refine i.out.mono ?_;rintro I D⟨Y,rfl,h,d⟩;obtain⟨K,G,rfl,y,T,F⟩:=cU.ints h;have x:=(w.below d w.lt).dh;clear i h;go_wp2_with fail;refine(r.out D d).mono ?_;rintro I Z⟨Yf,rfl,z,v⟩;obtain⟨Yc,L,rfl,C,_⟩:=cU.ints z;have A:=d.trans (v.mono d.size);have O:=xy Yi Yj K Yc G L Z ((y.below v).mono v.size) C (by omega);clear r z y C x;go_wp2_with fail;refine O.mono ?_;rintro I Yn⟨rfl,Ye⟩;go_wp2;go_ret2
   have Yd:=A.trans (Ye.mono A.size);exact⟨rfl,a.trans (Yd.mono a.size)⟩
  ·have g:=hid (show fX b e f=false by rw[k.out,c.out];simp[m])
   have S:(E !=0)=true:=by simpa using m
   rw[c.out,g.out];clear k c g m;go_enter Tryz.func81,Tryz.ntmps81;go_wp2_with fail;rw[s.out];go_wp2_with fail;refine i.out.mono ?_;rintro I D⟨Y,rfl,h,d⟩;obtain⟨K,G,rfl,y,T,F⟩:=cU.ints h;have x:=(w.below d w.lt).dh;clear i h;go_wp2_with fail;refine(r.out D d).mono ?_;rintro I Z⟨Yf,rfl,z,v⟩;obtain⟨Yc,L,rfl,C,_⟩:=cU.ints z;have A:=d.trans (v.mono d.size);clear r z y C x;go_wp2;go_ret2
   exact⟨rfl,a.trans (A.mono a.size)⟩
 ·have g:=hid (show fX b e f=false by rw[k.out,c.out,aE q];simp[q])
  rw[aE q]at c;have S:(M !=0)=true:=by simpa using q
  rw[c.out,g.out];clear k c g q;go_enter Tryz.func81,Tryz.ntmps81;go_wp2_with fail;rw[s.out];go_wp2_with fail;refine i.out.mono ?_;rintro I D⟨Y,rfl,h,d⟩;obtain⟨K,G,rfl,y,T,F⟩:=cU.ints h;clear i h;go_wp2;go_ret2
  exact⟨rfl,a.trans (d.mono a.size)⟩
def jT(rs:bu):bg->Bool×Int
 |[]=>(true,0)
 |p::l=>if fX rs p.1 p.2=true then jT rs l else(false,dF rs p.1 p.2)
theorem xI{rs:bu}(a:d<l.length)(b:fX rs (l[d]?.getD ([],[])).1 (l[d]?.getD ([],[])).2=true):jT rs (l.drop d)=jT rs (l.drop (d+1)):=by
 rw[bZ a,jT];simp only[a,an,dy]at b;rw[aD b]
theorem AJ{rs:bu}(a:d<l.length)(b:fX rs (l[d]?.getD ([],[])).1 (l[d]?.getD ([],[])).2=false):jT rs (l.drop d)=(false,dF rs (l[d]?.getD ([],[])).1 (l[d]?.getD ([],[])).2):=by
 rw[bZ a,jT];simp only[a,an,dy]at b⊢;rw[aE (by simp[b])]
theorem xZ(a:fX h e z=true):dF h e z=0:=by
 unfold fX at a;simp only[dW,dJ]at a;exact a.1
def mJ(rs:bu)(is:Bool)(er:Int):Prop:=∃vw ps,jF rs vw ps∧((vw≠0∧is=false∧er=vw)∨(vw=0∧(is,er)=jT rs ps))
theorem jF.len(b:jF h y l):l.length<=40:=by
 rcases b with⟨c,_,⟨a,_,rfl⟩|⟨_,_,rfl⟩⟩|⟨_,_,_,_,_,_,_,_,_,rfl⟩
 ·exact a
 ·simp
 ·simp
theorem Gj(rs:bu)(N:Option Addr)(k:Nat)(F:World)(E:dw F.heap.size F N rs)(L:rs.length<=maxLen):
 Calls Tryz.prog 83 #[.slice N rs.length k] F fun O X=>∃w c,mJ rs w c∧O=.returned (.tuple #[.bool w,.int .i64 c])∧Below F.heap.size F X:=by
 have I:=hid (Nj rs N k F E L);have Q:=hid E;clear E;go_enter Tryz.func83,Tryz.ntmps83;go_wp2_with fail;refine I.out.mono ?_;rintro O M⟨c,a,Yq,b,rfl,J,y⟩;obtain⟨Yk,Yl,rfl,K,_⟩:=J.at;clear I J;by_cases v:c=0
 ·subst v
  have Yc:=b.len;have V:(a.length:Int)<=40:=by omega
  have P:=hid K;have e:=hid (fun w c Yh=>(⟨0,a,b,.inr ⟨rfl,Yh⟩⟩:mJ rs w c));clear b K;go_wp2;go_loopw [20](fun Z wr=>∃q:Nat,q<=a.length∧Z=.int .i64 (q:Int)∧Hid (jT rs a=jT rs (a.drop q))∧Below M.heap.size M wr)(fun Z _=>a.length-(intOf Z).toNat)
  case atStart=>exact⟨0,bf _,rfl,hid rfl,ah _ _⟩
  case round=>
   obtain⟨q,Yj,rfl,p,g⟩:=hrel;have z:=y.trans (g.mono y.size);by_cases m:q<a.length
   ·have W:(q:Int)<(a.length:Int):=by omega
    obtain⟨Yp,Ye,rfl,Yi,r,t,s,u,Yf,Yg,G,H,R,S,T,U⟩:=(P.out.below g) q m;have n:=hid (xI (rs:=rs) m);have o:=hid (AJ (rs:=rs) m);generalize(a[q]?.getD ([],[])).1=A at*;generalize(a[q]?.getD ([],[])).2=B at*;have d:Below wr.heap.size wr (wr.alloc (.cells #[.slice r A.length t,.slice s B.length u] 79)):=(ah _ _).alloc (af _) _;have D:=eT.new wr 79 (.slice r A.length t) (.slice s B.length u);have Yn:=D.cell0;have Yo:=D.dh;have f:=z.trans (d.mono z.size);have x:=g.trans (d.mono g.size);have h:=hid (zi rs A B N r s k t u (wr.alloc (.cells #[.slice r A.length t,.slice s B.length u] 79)) ((Q.out.below f).mono f.size) ((((G.mono g.size).below d)).mono d.size) ((((H.mono g.size).below d)).mono d.size) R S T U);clear G H D;by_cases i:fX rs A B=true
    ·rw[i,xZ i]at h
     have j:=hid (n.out i);clear i n o;go_wp2_with fail;refine h.out.mono ?_;rintro O Y⟨rfl,C⟩;clear h;go_wp2;go_roundw
     case rel=>exact⟨q+1,by omega,by go_num,hid (p.out.trans j.out),x.trans (C.mono x.size)⟩
     case measure=>simp[intOf];omega
    ·have l:fX rs A B=false:=by simpa using i
     rw[l]at h;have j:=hid (o.out l);clear i l n o;generalize dF rs A B=Ym at*;go_wp2_with fail;refine h.out.mono ?_;rintro O Y⟨rfl,C⟩;clear h;go_wp2;go_ret2
     exact⟨false,Ym,e.out _ _ (by rw[p.out,j.out]),rfl,f.trans (C.mono f.size)⟩
   ·obtain rfl:q=a.length:=by omega
    have j:=hid (p.out.trans (by rw[eu];rfl:jT rs (a.drop a.length)=(true,0)));go_wp2;go_ret2
    exact⟨true,0,e.out _ _ j.out.symm,rfl,z⟩
 ·have Yd:(c !=0)=true:=by simpa using v
  have e:Hid (mJ rs false c):=⟨c,a,b,.inl ⟨v,rfl,rfl⟩⟩;clear v b;go_wp2;go_ret2
  exact⟨false,c,e.out,rfl,y⟩
theorem xY{ps:bg}:∀k,k<ps.length->(∀j,j<k->eU (ps[j]?.getD ([],[])).1 (ps[j]?.getD ([],[])).2=0)->eU (ps[k]?.getD ([],[])).1 (ps[k]?.getD ([],[])).2≠0->du ps=eU (ps[k]?.getD ([],[])).1 (ps[k]?.getD ([],[])).2:=by
 induction ps with
 |nil=>intro k b;simp at b
 |cons h g e=>
  intro k b d a;cases k with
  |zero=>simp only[fG,dy]at a⊢;rw[du,aE a]
  |succ k=>
   have c:=d 0 (by omega);simp only[fG,dy]at c;simp only[Rt]at a⊢;rw[du,aD c];exact e k (by simpa using b) (fun j f=>by simpa using d (j+1) (by omega)) a
theorem xN{ps:bg}(c:∀k,k<ps.length->eU (ps[k]?.getD ([],[])).1 (ps[k]?.getD ([],[])).2=0):du ps=0:=by
 induction ps with
 |nil=>rfl
 |cons e d b=>
  rw[du,aD (by simpa using c 0 (by simp))];exact b fun k a=>by simpa using c (k+1) (by simpa using a)
theorem pW(c:du l=0):∀k,k<l.length->Tm.err (l[k]?.getD ([],[])).1=0∧Tm.err (l[k]?.getD ([],[])).2=0:=by
 induction l with
 |nil=>intro k b;simp at b
 |cons e f d=>
  intro k b;by_cases a:eU e.1 e.2=0
  ·rw[du,aD a]at c
   cases k with
   |zero=>simpa using oP.1 a
   |succ k=>simpa using d c k (by simpa using b)
  ·rw[du,aE a]at c
   exact absurd c a
def fQ(ps:bg):Int:=if 40<ps.length then 2 else du ps
def gn(rk:List Int)(ps:bg):Int:=if da rk=0 then fQ ps else da rk
theorem xV(rk:List Int)(ps:bg)(K Yo:Option Addr)(P O:Nat)(p:World)(T:cZ p.heap.size p K rk)(S:dw p.heap.size p Yo ps)(Yg:ps.length<=maxLen):
 Calls Tryz.prog 103 #[.slice K rk.length P,.slice Yo ps.length O] p fun s Yk=>s=.returned (.int .i64 (gn rk ps))∧Below p.heap.size p Yk:=by
 have Yr:(ps.length:Int)<=9223372036854775807:=by unfold maxLen at Yg;omega
 have Yp:∀W X F,(Instr.index 171 (.agg #[W,X]) (.int .i64 0)).run Tryz.prog F=.ok W F:=fun _ _ _=>by kernel_rfl
 have Yq:∀W X F,(Instr.index 171 (.agg #[W,X]) (.int .i64 1)).run Tryz.prog F=.ok X F:=fun _ _ _=>by kernel_rfl
 have D:=hid (sB rk K P p T);have Y:=hid S;have c:Hid (gn rk ps=if da rk=0 then fQ ps else da rk):=rfl;clear T S;by_cases l:da rk=0
 ·rw[aD l]at c
  rw[l]at D;rw[c.out];clear l c;by_cases m:40<ps.length
  ·have N:(40:Int)<(ps.length:Int):=by omega
   have v:Hid (fQ ps=2):=by unfold fQ;rw[aD m];exact hid rfl
   rw[v.out];clear m v;go_enter Tryz.func103,Tryz.ntmps103;go_wp2_with(go_at_call 111;refine D.out.mono ?_;rintro s p⟨rfl,rfl⟩)
   go_ret;exact⟨rfl,ah _ _⟩
  ·have N:¬(40:Int)<(ps.length:Int):=by omega
   have V:(ps.length:Int)<=40:=by omega
   have v:Hid (fQ ps=du ps):=by unfold fQ;rw[aE m];exact hid rfl
   rw[v.out];clear m v;have f:=hid (fun i Yc Yd Ye=>xY (ps:=ps) i Yc Yd Ye);have e:=hid (fun Z=>xN (ps:=ps) Z);go_enter Tryz.func103,Tryz.ntmps103;go_wp2_with(go_at_call 111;refine D.out.mono ?_;rintro s p⟨rfl,rfl⟩)
   go_loopw [21](fun Yj wr=>∃i:Nat,i<=ps.length∧Yj=.int .i64 (i:Int)∧Hid (∀y,y<i->eU (ps[y]?.getD ([],[])).1 (ps[y]?.getD ([],[])).2=0)∧Below p.heap.size p wr)(fun Yj _=>ps.length-(intOf Yj).toNat)
   case atStart=>exact⟨0,bf _,rfl,fun y Yf=>by omega,ah _ _⟩
   case round=>
    obtain⟨i,l,rfl,x,c⟩:=hrel;by_cases G:i<ps.length
    ·have Yh:(i:Int)<(ps.length:Int):=by omega
     obtain⟨YC,Yt,rfl,YB,z,B,A,C,Yv,Yw,Q,R,Yx,Yy,Yz,YA⟩:=(Y.out.below c) i G;have h:=hid (f.out i G x.out);have d:Hid (eU (ps[i]?.getD ([],[])).1 (ps[i]?.getD ([],[])).2=0->∀y,y<i+1->eU (ps[y]?.getD ([],[])).1 (ps[y]?.getD ([],[])).2=0):=fun Z y Yf=>if s:y=i then s▸Z else x.out y (by omega)
     have a:Hid (eU (ps[i]?.getD ([],[])).1 (ps[i]?.getD ([],[])).2=if Tm.err (ps[i]?.getD ([],[])).1=0 then Tm.err (ps[i]?.getD ([],[])).2 else Tm.err (ps[i]?.getD ([],[])).1):=rfl;generalize(ps[i]?.getD ([],[])).1=I at*;generalize(ps[i]?.getD ([],[])).2=J at*;have g:Below wr.heap.size wr (wr.alloc (.cells #[.slice z I.length B,.slice A J.length C] 79)):=(ah _ _).alloc (af _) _;have M:=eT.new wr 79 (.slice z I.length B) (.slice A J.length C);have Ym:=M.cell0;have Yn:=M.dh;have b:=c.trans (g.mono c.size);obtain⟨r,w⟩:∃r,wr.alloc (.cells #[.slice z I.length B,.slice A J.length C] 79)=r:=⟨_,rfl⟩;rw[w]at g Ym Yn b;have q:=hid w;have n:=hid (jn I z B r (((Q.mono c.size).below g).mono g.size));have o:=hid (fun F(U:Below r.heap.size r F)=>jn J A C F ((((R.mono c.size).below (g.trans (U.mono g.size)))).mono (aK g.size U.size)));clear Q R M w;by_cases k:Tm.err I=0
     ·rw[k]at n
      rw[aD k]at a;by_cases t:Tm.err J=0
      ·rw[t]at o a
       have Yi:=hid (d.out a.out);clear k t h d a f e;go_wp2_with fail;rw[q.out];refine ft 3 ?_;rw[eK];go_wp2_with(go_at_call 112;refine n.out.mono ?_;rintro s E⟨rfl,j⟩)
       rw[eK];go_wp2_with(go_at_call 112;refine(o.out E j).mono ?_;rintro s Yl⟨rfl,L⟩)
       rw[eK];go_wp2;go_roundw
       case rel=>exact⟨i+1,by omega,by go_num,Yi,(b.trans (j.mono b.size)).trans (L.mono (aK b.size j.size))⟩
       case measure=>simp[intOf];omega
      ·have H:(Tm.err J !=0)=true:=by simpa using t
       have u:=hid ((h.out (by rw[a.out];exact t)).trans a.out);clear k t h d a f e;generalize Tm.err J=Yu at*;go_wp2_with fail;rw[q.out];refine ft 3 ?_;rw[eK];go_wp2_with(go_at_call 112;refine n.out.mono ?_;rintro s E⟨rfl,j⟩)
       rw[eK];go_wp2_with(go_at_call 112;refine(o.out E j).mono ?_;rintro s Yl⟨rfl,L⟩)
       go_ret;exact⟨by rw[u.out];rfl,(b.trans (j.mono b.size)).trans (L.mono (aK b.size j.size))⟩
     ·have H:(Tm.err I !=0)=true:=by simpa using k
      rw[aE k]at a;have u:=hid ((h.out (by rw[a.out];exact k)).trans a.out);clear k h d a f e o;generalize Tm.err I=Yu at*;go_wp2_with fail;rw[q.out];refine ft 3 ?_;rw[eK];go_wp2_with(go_at_call 112;refine n.out.mono ?_;rintro s E⟨rfl,j⟩)
      go_ret;exact⟨by rw[u.out];rfl,b.trans (j.mono b.size)⟩
    ·obtain rfl:i=ps.length:=by omega
     have u:=hid (e.out x.out);clear f e;go_wp2;go_ret;exact⟨by rw[u.out];rfl,c⟩
 ·rw[aE l]at c
  have H:(da rk !=0)=true:=by simpa using l
  rw[c.out];clear l c;generalize da rk=Yu at*;go_enter Tryz.func103,Tryz.ntmps103;go_wp2_with(go_at_call 111;refine D.out.mono ?_;rintro s p⟨rfl,rfl⟩)
  go_ret;exact⟨rfl,ah _ _⟩
def iD(rk:List Int)(rs:bu)(ps:bg):Int:=
 if gn rk ps=0 then(if eh rk rs=0 then(if eW rk rs=true then(if ps.length=0 then 5 else 0)else 6)else eh rk rs)else gn rk ps
theorem Dg(rk:List Int)(c:bu)(b:bg)(j o B:Option Addr)(p s n:Nat)(g:World)(q:cZ g.heap.size g j rk)(v:dw g.heap.size g o c)(w:dw g.heap.size g B b)(x:b.length<=maxLen):
 Calls Tryz.prog 134 #[.slice j rk.length p,.slice o c.length s,.slice B b.length n] g fun i D=>i=.returned (.int .i64 (iD rk c b))∧Below g.heap.size g D:=by
 have F:(b.length:Int)<=9223372036854775807:=by unfold maxLen at x;omega
 have h:=hid (xV rk b j B p n g q w x);have hF:=hid (fun E(m:Below g.heap.size g E)=>CE rk c j o p s E ((q.below m).mono m.size) ((v.below m).mono m.size));have u:Hid (iD rk c b=if gn rk b=0 then(if eh rk c=0 then(if eW rk c=true then(if b.length=0 then 5 else 0)else 6)else eh rk c)else gn rk b):=rfl;rw[u.out];clear q v w u;generalize gn rk b=z at*;generalize eh rk c=A at*;generalize eW rk c=C at*;by_cases k:z=0
 ·subst k
  rw[aD rfl];by_cases l:A=0
  ·subst l
   rw[aD rfl];cases C with
   |true=>
    rw[aD rfl];by_cases f:b.length=0
    ·have t:((b.length:Int)==0)=true:=OW f
     rw[aD f];clear f;go_enter Tryz.func134,Tryz.ntmps134;go_wp2_with fail;refine h.out.mono ?_;rintro i d⟨rfl,a⟩;go_wp2_with fail;refine(hF.out d a).mono ?_;rintro i r⟨rfl,e⟩;go_wp2;go_ret;exact⟨rfl,a.trans (e.mono a.size)⟩
    ·have t:((b.length:Int)==0)=false:=Jc f
     rw[aE f];clear f;go_enter Tryz.func134,Tryz.ntmps134;go_wp2_with fail;refine h.out.mono ?_;rintro i d⟨rfl,a⟩;go_wp2_with fail;refine(hF.out d a).mono ?_;rintro i r⟨rfl,e⟩;go_wp2;go_ret;exact⟨rfl,a.trans (e.mono a.size)⟩
   |false=>
    rw[aE (by simp)];go_enter Tryz.func134,Tryz.ntmps134;go_wp2_with fail;refine h.out.mono ?_;rintro i d⟨rfl,a⟩;go_wp2_with fail;refine(hF.out d a).mono ?_;rintro i r⟨rfl,e⟩;go_wp2;go_ret;exact⟨rfl,a.trans (e.mono a.size)⟩
  ·have y:(A !=0)=true:=by simpa using l
   rw[aE l];clear l;go_enter Tryz.func134,Tryz.ntmps134;go_wp2_with fail;refine h.out.mono ?_;rintro i d⟨rfl,a⟩;go_wp2_with fail;refine(hF.out d a).mono ?_;rintro i r⟨rfl,e⟩;go_wp2;go_ret;exact⟨rfl,a.trans (e.mono a.size)⟩
 ·have y:(z !=0)=true:=by simpa using k
  rw[aE k];clear k;go_enter Tryz.func134,Tryz.ntmps134;go_wp2_with fail;refine h.out.mono ?_;rintro i d⟨rfl,a⟩;go_wp2;go_ret;exact⟨rfl,a⟩
def o0(rs:bu)(P Q:List Int):List Int×List Int:=if dF rs P Q=0 then((bU rs P).1,(bU rs Q).1)else([],[])
theorem LY(b:bu)(g j:List Int)(y s t:Option Addr)(D n o:Nat)(h:World)(E:dw h.heap.size h y b)(K:cZ h.heap.size h s g)(L:cZ h.heap.size h t j)(O:g.length<=n)(P:n<=maxLen)(Q:j.length<=o)(R:o<=maxLen):
 Calls Tryz.prog 135 #[.slice y b.length D,.agg #[.slice s g.length n,.slice t j.length o]] h fun G F=>∃v Yd,G=.returned (.tuple #[v,Yd,.int .i64 (dF b g j)])∧cU h.heap.size F v (o0 b g j).1∧cU h.heap.size F Yd (o0 b g j).2∧Below h.heap.size h F:=by
 obtain⟨k,l⟩:∃k,h.alloc (.cells #[.slice s g.length n,.slice t j.length o] 79)=k:=⟨_,rfl⟩;have a:Below h.heap.size h k:=by rw[<-l];exact(ah _ _).alloc (af _) _
 have u:eT k h.heap.size 79 (.slice s g.length n) (.slice t j.length o):=by rw[<-l];exact eT.new h _ _ _
 have Ye:=u.cell0;have i:=hid (wm b g y s D n k ((E.below a).mono a.size) ((K.below a).mono a.size) O P);have q:=hid (fun Yc(M:Below k.heap.size k Yc)=>wm b j y t D o Yc (by have J:=a.trans (M.mono a.size);exact(E.below J).mono J.size) (by have J:=a.trans (M.mono a.size);exact(L.below J).mono J.size) Q R);have d:Hid (dF b g j=if(bU b g).2.2=0 then(bU b j).2.2 else(bU b g).2.2):=rfl;have e:Hid (o0 b g j=if dF b g j=0 then((bU b g).1,(bU b j).1)else([],[])):=rfl;have r:=hid l;clear l E K L O P Q R;generalize bU b g=Yf at*;generalize bU b j=Yg at*;obtain⟨Yj,Yi,I⟩:=Yf;obtain⟨Yk,Yh,B⟩:=Yg;dsimp only at i q d e
 by_cases x:I=0
 ·subst x
  rw[aD rfl]at d;by_cases m:B=0
  ·subst m
   rw[d.out,aD rfl]at e;rw[d.out,e.out];clear e d;go_enter Tryz.func135,Tryz.ntmps135;go_wp2_with fail;rw[r.out];go_wp2_with fail;refine i.out.mono ?_;rintro G A⟨S,rfl,f,c⟩;obtain⟨T,H,rfl,_⟩:=cU.ints f;have w:=(u.below c u.lt).dh;have U:=hid f;clear i f;go_wp2_with fail;refine(q.out A c).mono ?_;rintro G Y⟨X,rfl,p,z⟩;obtain⟨Z,W,rfl,_⟩:=cU.ints p;have C:=c.trans (z.mono c.size);have V:=hid p;clear q p w;go_wp2;go_ret3
   exact⟨_,_,rfl,(U.out.below z).mono a.size,V.out.mono (aK a.size c.size),a.trans (C.mono a.size)⟩
  ·have N:(B !=0)=true:=by simpa using m
   rw[d.out,aE m]at e;rw[d.out,e.out];clear e d m;go_enter Tryz.func135,Tryz.ntmps135;go_wp2_with fail;rw[r.out];go_wp2_with fail;refine i.out.mono ?_;rintro G A⟨S,rfl,f,c⟩;obtain⟨T,H,rfl,_⟩:=cU.ints f;have w:=(u.below c u.lt).dh;clear i f;go_wp2_with fail;refine(q.out A c).mono ?_;rintro G Y⟨X,rfl,p,z⟩;obtain⟨Z,W,rfl,_⟩:=cU.ints p;have C:=c.trans (z.mono c.size);clear q p w;go_wp2;go_ret3
   exact⟨_,_,rfl,cU.nil _ _,cU.nil _ _,a.trans (C.mono a.size)⟩
 ·rw[aE x]at d
  rw[d.out,aE x]at e;have N:(I !=0)=true:=by simpa using x
  rw[d.out,e.out];clear e d x;go_enter Tryz.func135,Tryz.ntmps135;go_wp2_with fail;rw[r.out];go_wp2_with fail;refine i.out.mono ?_;rintro G A⟨S,rfl,f,c⟩;obtain⟨T,H,rfl,_⟩:=cU.ints f;clear i f;go_wp2;go_ret3
  exact⟨_,_,rfl,cU.nil _ _,cU.nil _ _,a.trans (c.mono a.size)⟩
theorem qn(a:d<l.length):l.take (d+1)=l.take d++[((l[d]?.getD ([],[])).1,(l[d]?.getD ([],[])).2)]:=by
 rw[dz a,an a];rfl
theorem EY{fl:Bool}(g:Nat)(c:bg)(a:Option Addr)(YC:Nat)(s:World)(S:g<=s.heap.size)(YH:dw s.heap.size s a c)(Y7:c.length<=1000)(YI:∀k,k<c.length->Tm.err (c[k]?.getD ([],[])).1=0∧Tm.err (c[k]?.getD ([],[])).2=0):
 Calls Tryz.prog 136 #[.slice a c.length YC] s fun YD W=>∃v,YD=.returned v∧dC fl 70 s.heap.size g W v c∧Below s.heap.size s W:=by
 have YV:(c.length:Int)<=1000:=by omega
 have YM:=hid YH;have YN:=hid YI;clear YH YI;go_enter Tryz.func136,Tryz.ntmps136;go_wp2;go_loopw [3,8](fun YU v wr=>∃k:Nat,k<=c.length∧v=.int .i64 (k:Int)∧Hid (dC fl 70 s.heap.size g wr YU (c.take k))∧Below s.heap.size s wr)(fun _ v _=>c.length-(intOf v).toNat)
 case atStart=>exact⟨0,bf _,rfl,hid (dC.nil _ _ _ _),ah _ _⟩
 case round=>
  obtain⟨k,T,rfl,P,J⟩:=hrel;obtain⟨Z,Yc,rfl⟩:=P.out.slice;by_cases q:k<c.length
  ·have YR:(k:Int)<(c.length:Int):=by omega
   obtain⟨Y8,YY,rfl,Yw,l,n,m,o,Y0,Y2,YG,Yv,Y3,Y4,Y5,Y6⟩:=(YM.out.below J) k q;obtain⟨YE,YF⟩:=YN.out k q;have YK:=hid (qn q);have YW:(c.take k).length<=1000:=by rw[cX];omega
   generalize(c[k]?.getD ([],[])).1=F at*;generalize(c[k]?.getD ([],[])).2=G at*;generalize c.take k=L at*;obtain⟨b,C⟩:∃b,wr.alloc (.cells #[.slice l F.length n,.slice m G.length o] 70)=b:=⟨_,rfl⟩;have e:Below wr.heap.size wr b:=by rw[<-C];exact(ah _ _).alloc (af _) _
   have O:eT b wr.heap.size 70 (.slice l F.length n) (.slice m G.length o):=by rw[<-C];exact eT.new wr _ _ _
   have YB:=hid C;have f:Below b.heap.size b b.drew:=bD (ah _ b) 1;have Yd:=hid (qQ F l n b.drew YE (((YG.mono J.size).below (e.trans (f.mono e.size))).mono (aK e.size f.size)));have Ye:=hid (fun Yz(R:Below b.heap.size b Yz)=>qQ G m o Yz YF (((Yv.mono J.size).below (e.trans (R.mono e.size))).mono (aK e.size R.size)));have K:=hid (fun Yz(R:Below b.heap.size b Yz)=>(show Yz.cell? ⟨wr.heap.size,0,none⟩=some (.slice l F.length n)∧Yz.cell? ⟨wr.heap.size,1,none⟩=some (.slice m G.length o)from⟨(O.below R O.lt).cell0,(O.below R O.lt).dh⟩));have Yh:=K.out b (ah _ _);have Yl:=K.out b.drew f;have Yt:=J.trans (e.mono J.size);have E:=Yt.trans (f.mono Yt.size);clear YG Yv C YE YF O;have Yn:=hid (fun A j(X:cU b.drew.heap.size j A F)(u:Below b.drew.heap.size b.drew j)B d(Y:cU j.heap.size d B G)(w:Below j.heap.size j d)=>(show∃H x I y,A=.slice H F.length x∧B=.slice I G.length y∧F.length<=x∧x<=maxLen∧G.length<=y∧y<=maxLen∧Hid (∀t:World,t.heap=(d.alloc (.cells #[A,B] 70)).heap->fW fl g t H F∧fW fl g t I G∧dC fl 70 s.heap.size g t (.slice Z L.length Yc) L∧t.cell? ⟨d.heap.size,0,none⟩=some A∧t.cell? ⟨d.heap.size,1,none⟩=some B)∧s.heap.size<=d.heap.size∧Hid (Below s.heap.size s d)from by
    obtain⟨H,x,YO,YS,Yx,U⟩:=fW.new (fl:=fl) (base:=g) (X.below w) (.inr (aK S E.size));obtain⟨I,y,YP,YT,Yy,V⟩:=fW.new (fl:=fl) (base:=g) Y (.inr (aK S (aK E.size u.size)));have Yr:=E.trans (u.mono E.size);have r:=Yr.trans (w.mono Yr.size);have Yf:=((((P.out.below e).below f).below u).below w);refine⟨H,x,I,y,YO,YP,Yx,U,Yy,V,hid fun t h=>?_,r.size,hid r⟩;have T:∀M,M<d.heap.size->t.heap[M]?=d.heap[M]?:=fun M i=>by rw[h];exact cM d _ M i
    have z:d.heap.size<=t.heap.size:=by rw[h];simp
    have Yw:t.heap[d.heap.size]?=some (.cells #[A,B] 70 (0,0)):=by rw[h];exact aM d _
    exact⟨YS.eV z (fun M i _=>T M i),YT.eV z (fun M i _=>T M i),Yf.eV z (fun M i=>T M (Yf.block i).2.1) (fun M i _=>T M i),by rw[dp Yw];rfl,by rw[dp Yw];rfl⟩))
   have Ym:=hid (fun t N(z:t.cell? ⟨wr.heap.size,0,none⟩=some (.slice l F.length n)∧t.cell? ⟨wr.heap.size,1,none⟩=some (.slice m G.length o))(YQ:World.grownBy t N (Value.slice Z L.length Yc).ownBlock)=>(show N.cell? ⟨wr.heap.size,0,none⟩=some (.slice l F.length n)∧N.cell? ⟨wr.heap.size,1,none⟩=some (.slice m G.length o)from by
    have YJ:some wr.heap.size≠(Value.slice Z L.length Yc).ownBlock:=fun YD=>by have:=(P.out.block YD.symm).2.1;omega
    have q:wr.heap.size<t.heap.size:=by simpa using fx z.1
    have Yo:=YQ.block wr.heap.size q YJ;exact⟨(aH (a:=⟨wr.heap.size,0,none⟩) Yo).trans z.1,(aH (a:=⟨wr.heap.size,1,none⟩) Yo).trans z.2⟩))
   go_wp2_with fail;rw[YB.out];go_region_held3(fun W=>W.cell? ⟨wr.heap.size,0,none⟩=some (.slice l F.length n)∧W.cell? ⟨wr.heap.size,1,none⟩=some (.slice m G.length o))(first|assumption|exact Yh|exact Yl|exact Yi|exact Yj|exact Q _|exact Yk)(first
    |(go_at_call_of 108(Value.slice l F.length n);refine Yd.out.mono ?_;rintro YD j⟨A,rfl,X,u⟩;have p:=f.trans (u.mono f.size);have Yi:=K.out j p)
    |(go_at_call_of 108(Value.slice m G.length o);refine(Ye.out j p).mono ?_;rintro YD d⟨B,rfl,Y,w⟩;have D:=p.trans (w.mono p.size);have Yj:=K.out d D;have Q:=(fun YX=>K.out (d.alloc YX) (D.alloc D.size YX));obtain⟨H,x,I,y,rfl,rfl,Yx,U,Yy,V,h,Yq,r⟩:=Yn.out A j X u B d Y w)
    |(refine uW _ (by rfl) _ _ (by rfl) s.heap.size g S (.slice Z L.length Yc) L (by rfl) (h.out _ (by rfl)).2.2.1 d.heap.size H I F G x y (by rfl) (h.out _ (by rfl)).2.2.2.1 (h.out _ (by rfl)).2.2.2.2 (h.out _ (by rfl)).1 (h.out _ (by rfl)).2.1 Yx U Yy V (by omega) (by simp;omega) ?_;intro Yv YZ N Yg Yp Yu;have Yk:=Ym.out _ N (Q _) Yp))
   have YL:Hid (Below s.heap.size s N):=by first|exact(r.out.alloc Yq _).trans Yu|exact(bD (r.out.alloc Yq _) 1).trans Yu
   have YA:=hid Yg;clear Yu Yp Yh Yl Yi Yj Q Yk Ym Yn Yd Ye K X Y u w p D Yg;go_wp2;go_roundw
   case rel=>exact⟨k+1,by omega,by go_num,by rw[YK.out];simpa [Hid]using YA,YL.out⟩
   case measure=>simp[intOf];omega
  ·obtain rfl:k=c.length:=by omega
   rw[cJ]at P;rw[cJ];go_wp2;go_ret;exact⟨_,rfl,P.out,J⟩
theorem uX{fl:Bool}(g:Nat)(c:bg)(a:Option Addr)(YC:Nat)(s:World)(S:g<=s.heap.size)(YH:dw s.heap.size s a c)(Y7:c.length<=1000)(YI:∀k,k<c.length->Tm.err (c[k]?.getD ([],[])).1=0∧Tm.err (c[k]?.getD ([],[])).2=0):
 Calls Tryz.prog 137 #[.slice a c.length YC] s fun YD W=>∃v,YD=.returned v∧dC fl 79 s.heap.size g W v c∧Below s.heap.size s W:=by
 have YV:(c.length:Int)<=1000:=by omega
 have YM:=hid YH;have YN:=hid YI;clear YH YI;go_enter Tryz.func137,Tryz.ntmps137;go_wp2;go_loopw [3,8](fun YU v wr=>∃k:Nat,k<=c.length∧v=.int .i64 (k:Int)∧Hid (dC fl 79 s.heap.size g wr YU (c.take k))∧Below s.heap.size s wr)(fun _ v _=>c.length-(intOf v).toNat)
 case atStart=>exact⟨0,bf _,rfl,hid (dC.nil _ _ _ _),ah _ _⟩
 case round=>
  obtain⟨k,T,rfl,P,J⟩:=hrel;obtain⟨Z,Yc,rfl⟩:=P.out.slice;by_cases q:k<c.length
  ·have YR:(k:Int)<(c.length:Int):=by omega
   obtain⟨Y8,YY,rfl,Yw,l,n,m,o,Y0,Y2,YG,Yv,Y3,Y4,Y5,Y6⟩:=(YM.out.below J) k q;obtain⟨YE,YF⟩:=YN.out k q;have YK:=hid (qn q);have YW:(c.take k).length<=1000:=by rw[cX];omega
   generalize(c[k]?.getD ([],[])).1=F at*;generalize(c[k]?.getD ([],[])).2=G at*;generalize c.take k=L at*;obtain⟨b,C⟩:∃b,wr.alloc (.cells #[.slice l F.length n,.slice m G.length o] 79)=b:=⟨_,rfl⟩;have e:Below wr.heap.size wr b:=by rw[<-C];exact(ah _ _).alloc (af _) _
   have O:eT b wr.heap.size 79 (.slice l F.length n) (.slice m G.length o):=by rw[<-C];exact eT.new wr _ _ _
   have YB:=hid C;have f:Below b.heap.size b b.drew:=bD (ah _ b) 1;have Yd:=hid (qQ F l n b.drew YE (((YG.mono J.size).below (e.trans (f.mono e.size))).mono (aK e.size f.size)));have Ye:=hid (fun Yz(R:Below b.heap.size b Yz)=>qQ G m o Yz YF (((Yv.mono J.size).below (e.trans (R.mono e.size))).mono (aK e.size R.size)));have K:=hid (fun Yz(R:Below b.heap.size b Yz)=>(show Yz.cell? ⟨wr.heap.size,0,none⟩=some (.slice l F.length n)∧Yz.cell? ⟨wr.heap.size,1,none⟩=some (.slice m G.length o)from⟨(O.below R O.lt).cell0,(O.below R O.lt).dh⟩));have Yh:=K.out b (ah _ _);have Yl:=K.out b.drew f;have Yt:=J.trans (e.mono J.size);have E:=Yt.trans (f.mono Yt.size);clear YG Yv C YE YF O;have Yn:=hid (fun A j(X:cU b.drew.heap.size j A F)(u:Below b.drew.heap.size b.drew j)B d(Y:cU j.heap.size d B G)(w:Below j.heap.size j d)=>(show∃H x I y,A=.slice H F.length x∧B=.slice I G.length y∧F.length<=x∧x<=maxLen∧G.length<=y∧y<=maxLen∧Hid (∀t:World,t.heap=(d.alloc (.cells #[A,B] 79)).heap->fW fl g t H F∧fW fl g t I G∧dC fl 79 s.heap.size g t (.slice Z L.length Yc) L∧t.cell? ⟨d.heap.size,0,none⟩=some A∧t.cell? ⟨d.heap.size,1,none⟩=some B)∧s.heap.size<=d.heap.size∧Hid (Below s.heap.size s d)from by
    obtain⟨H,x,YO,YS,Yx,U⟩:=fW.new (fl:=fl) (base:=g) (X.below w) (.inr (aK S E.size));obtain⟨I,y,YP,YT,Yy,V⟩:=fW.new (fl:=fl) (base:=g) Y (.inr (aK S (aK E.size u.size)));have Yr:=E.trans (u.mono E.size);have r:=Yr.trans (w.mono Yr.size);have Yf:=((((P.out.below e).below f).below u).below w);refine⟨H,x,I,y,YO,YP,Yx,U,Yy,V,hid fun t h=>?_,r.size,hid r⟩;have T:∀M,M<d.heap.size->t.heap[M]?=d.heap[M]?:=fun M i=>by rw[h];exact cM d _ M i
    have z:d.heap.size<=t.heap.size:=by rw[h];simp
    have Yw:t.heap[d.heap.size]?=some (.cells #[A,B] 79 (0,0)):=by rw[h];exact aM d _
    exact⟨YS.eV z (fun M i _=>T M i),YT.eV z (fun M i _=>T M i),Yf.eV z (fun M i=>T M (Yf.block i).2.1) (fun M i _=>T M i),by rw[dp Yw];rfl,by rw[dp Yw];rfl⟩))
   have Ym:=hid (fun t N(z:t.cell? ⟨wr.heap.size,0,none⟩=some (.slice l F.length n)∧t.cell? ⟨wr.heap.size,1,none⟩=some (.slice m G.length o))(YQ:World.grownBy t N (Value.slice Z L.length Yc).ownBlock)=>(show N.cell? ⟨wr.heap.size,0,none⟩=some (.slice l F.length n)∧N.cell? ⟨wr.heap.size,1,none⟩=some (.slice m G.length o)from by
    have YJ:some wr.heap.size≠(Value.slice Z L.length Yc).ownBlock:=fun YD=>by have:=(P.out.block YD.symm).2.1;omega
    have q:wr.heap.size<t.heap.size:=by simpa using fx z.1
    have Yo:=YQ.block wr.heap.size q YJ;exact⟨(aH (a:=⟨wr.heap.size,0,none⟩) Yo).trans z.1,(aH (a:=⟨wr.heap.size,1,none⟩) Yo).trans z.2⟩))
   go_wp2_with fail;rw[YB.out];go_region_held3(fun W=>W.cell? ⟨wr.heap.size,0,none⟩=some (.slice l F.length n)∧W.cell? ⟨wr.heap.size,1,none⟩=some (.slice m G.length o))(first|assumption|exact Yh|exact Yl|exact Yi|exact Yj|exact Q _|exact Yk)(first
    |(go_at_call_of 108(Value.slice l F.length n);refine Yd.out.mono ?_;rintro YD j⟨A,rfl,X,u⟩;have p:=f.trans (u.mono f.size);have Yi:=K.out j p)
    |(go_at_call_of 108(Value.slice m G.length o);refine(Ye.out j p).mono ?_;rintro YD d⟨B,rfl,Y,w⟩;have D:=p.trans (w.mono p.size);have Yj:=K.out d D;have Q:=(fun YX=>K.out (d.alloc YX) (D.alloc D.size YX));obtain⟨H,x,I,y,rfl,rfl,Yx,U,Yy,V,h,Yq,r⟩:=Yn.out A j X u B d Y w)
    |(refine uQ _ (by rfl) _ _ (by rfl) s.heap.size g S (.slice Z L.length Yc) L (by rfl) (h.out _ (by rfl)).2.2.1 d.heap.size H I F G x y (by rfl) (h.out _ (by rfl)).2.2.2.1 (h.out _ (by rfl)).2.2.2.2 (h.out _ (by rfl)).1 (h.out _ (by rfl)).2.1 Yx U Yy V (by omega) (by simp;omega) ?_;intro Yv YZ N Yg Yp Yu;have Yk:=Ym.out _ N (Q _) Yp))
   have YL:Hid (Below s.heap.size s N):=by first|exact(r.out.alloc Yq _).trans Yu|exact(bD (r.out.alloc Yq _) 1).trans Yu
   have YA:=hid Yg;clear Yu Yp Yh Yl Yi Yj Q Yk Ym Yn Yd Ye K X Y u w p D Yg;go_wp2;go_roundw
   case rel=>exact⟨k+1,by omega,by go_num,by rw[YK.out];simpa [Hid]using YA,YL.out⟩
   case measure=>simp[intOf];omega
  ·obtain rfl:k=c.length:=by omega
   rw[cJ]at P;rw[cJ];go_wp2;go_ret;exact⟨_,rfl,P.out,J⟩
theorem ER(b:Int)(c:World):Calls Tryz.prog 195 #[.int .i64 b] c fun d a=>d=.returned (.bool (ei b))∧a=c:=by
 unfold ei;go_enter Tryz.func195,Tryz.ntmps195;go_wp2;go_ret;exact⟨rfl,rfl⟩
theorem GX(a:List Int)(w:Option Addr)(j:Nat)(i:World)(l:cZ i.heap.size i w a)(s:a.length<=maxLen):
 Calls Tryz.prog 164 #[.slice w a.length j,.func (.func 195) #[] #[]] i fun q v=>∃k:Int,q=.returned (.int .i64 k)∧decide (0<=k)=a.any (fun f=>ei f)∧v=i:=by
 unfold maxLen at s;have hF:=fun f=>ER f i
 go_enter Tryz.func164,Tryz.ntmps164;go_wp2;go_loop [8](fun u=>∃k:Nat,k<=a.length∧u=.int .i64 (k:Int)∧(a.take k).any (fun f=>ei f)=false)(fun u=>a.length-(intOf u).toNat)
 case atStart=>exact⟨0,bf _,rfl,by simp⟩
 case round=>
  obtain⟨k,A,rfl,b⟩:=hrel;by_cases e:k<a.length
  ·have r:(k:Int)<(a.length:Int):=by omega
   obtain⟨B,y,rfl,z,m⟩:=l.at (by omega);have x:=m k e;have g:=hid (xd (p:=fun f=>ei f) e b);have h:=hid (zB (p:=fun f=>ei f) e);have c:=hid (hF (a[k]?.getD 0));clear m l b;generalize a[k]?.getD 0=f at*;cases d:(ei f)with
   |true=>
    rw[d]at c;have o:=hid (h.out d);clear d g;go_wp2_with(go_at_call 195;refine c.out.mono ?_;rintro q i⟨rfl,rfl⟩)
    go_ret;exact⟨_,rfl,by rw[o.out];simp,rfl⟩
   |false=>
    rw[d]at c;have n:=hid (g.out d);clear d h;go_wp2_with(go_at_call 195;refine c.out.mono ?_;rintro q i⟨rfl,rfl⟩)
    go_round
    case rel=>exact⟨k+1,by omega,by go_num,n.out⟩
    case measure=>simp[intOf];omega
  ·obtain rfl:k=a.length:=by omega
   rw[cJ]at b;have t:=hid b;clear b;go_wp2;go_ret;exact⟨-1,rfl,by rw[t.out];rfl,rfl⟩
theorem Cy(a:List Int)(g:Option Addr)(b:Nat)(c:World)(h:cZ c.heap.size c g a)(i:a.length<=maxLen):
 Calls Tryz.prog 133 #[.slice g a.length b,.func (.func 195) #[] #[]] c fun k j=>k=.returned (.bool (a.any (fun l=>ei l)))∧j=c:=by
 have d:=GX a g b c h i;go_enter Tryz.func133,Tryz.ntmps133;go_wp2_with fail;refine d.mono ?_;rintro k c⟨m,rfl,e,rfl⟩;have f:=hid e;clear e d;go_wp2;go_ret;exact⟨kM f.out,rfl⟩
theorem py{a b B:Nat}(f:A.results=#[.cell a 70,.tmp b])(e:w.getD a undef=.pointer (some ⟨B,0,none⟩))(d:eT i B 70 x D):(results A w).run Tryz.prog i=.ok (.tuple #[.agg #[x,D],w.getD b undef]) i:=by
 have c:w[a]?.getD undef=.pointer (some ⟨B,0,none⟩):=by rw[<-e];simp
 simp only[results,f];simp[go_sem,c,d.cell0,d.dh]
theorem cU.vA{base:Nat}(j:cU base i x e)(l:d<base):cU base (i.setCell ⟨d,r,none⟩ D) x e:=
 ⟨j.1,j.2.elim .inl fun⟨b,k,a,c,f,g,h⟩=>.inr ⟨b,k,a,c,f,(aT i ⟨d,r,none⟩ D b (show b≠d by omega)).trans g,h⟩⟩
def ja(P:List Int):Int:=if(dN P).any ei=true then 3 else 0
def ke(P Q:List Int):List Int×List Int:=if ja P=0 then(dN P,gD P Q)else([],[])
theorem CH(c k:List Int)(e f:Option Addr)(g h:Nat)(a:World)(A:Tm.err c=0)(B:Tm.err k=0)(O:cZ a.heap.size a e c)(P:cZ a.heap.size a f k):
 Calls Tryz.prog 166 #[.agg #[.slice e c.length g,.slice f k.length h]] a fun H y=>∃v Yk,H=.returned (.tuple #[.agg #[v,Yk],.int .i64 (ja c)])∧cU a.heap.size y v (ke c k).1∧cU a.heap.size y Yk (ke c k).2∧Below a.heap.size a y:=by
 have Yn:=cK A;have Yo:=cK B;obtain⟨j,i⟩:∃j,((a.alloc (.cells #[.slice e c.length g,.slice f k.length h] 171)).alloc (.cells #[.slice none 0 0,.slice none 0 0] 70)).alloc (.cells #[.slice e c.length g,.slice f k.length h] 68)=j:=⟨_,rfl⟩;have d:Below a.heap.size a j:=by rw[<-i];exact(((ah _ a).alloc (af _) _).alloc (by simp) _).alloc (by simp;omega) _
 have Yj:j.heap.size=a.heap.size+1+1+1:=by rw[<-i];simp
 have z:eT j (a.heap.size+1) 70 (.slice none 0 0) (.slice none 0 0):=by
  rw[<-i];have K:=eT.new (a.alloc (.cells #[.slice e c.length g,.slice f k.length h] 171)) 70 (.slice none 0 0) (.slice none 0 0);rw[bI]at K;exact K.kept (jl _ _ none) (by simp)
 have w:j.heap[a.heap.size+1+1]?=some (.cells #[.slice e c.length g,.slice f k.length h] 68 (0,0)):=by
  rw[<-i];have K:=aM ((a.alloc (.cells #[.slice e c.length g,.slice f k.length h] 171)).alloc (.cells #[.slice none 0 0,.slice none 0 0] 70)) (.cells #[.slice e c.length g,.slice f k.length h] 68);simpa only[bI]using K
 have C:=hid (DR c k e f g h (a.heap.size+1+1) j (by omega) (by omega) (lT A) (xB A) (lT B) (xB B) ((dp w 0).trans rfl) ((dp w 1).trans rfl) ((O.below d).mono d.size) ((P.below d).mono d.size));have m:Hid (ja c=if(dN c).any ei=true then 3 else 0):=rfl;have u:Hid (ke c k=if ja c=0 then(dN c,gD c k)else([],[])):=rfl;have Yp:(dN c).length<=30:=by have:(dN c).length=c.length:=fk _ _ _;omega
 have D:=hid i;have Yl:(a.alloc (.cells #[.slice e c.length g,.slice f k.length h] 171)).cell? ⟨a.heap.size,0,none⟩=some (.slice e c.length g):=(dp (aM a _) 0).trans rfl;have Ym:(a.alloc (.cells #[.slice e c.length g,.slice f k.length h] 171)).cell? ⟨a.heap.size,1,none⟩=some (.slice f k.length h):=(dp (aM a _) 1).trans rfl;clear i O P w A B;generalize dN c=x at*;generalize gD c k=Yq at*;have l:=hid (fun E S Yi(K:cZ E.heap.size E S x)=>Cy x S Yi E K (by unfold maxLen;omega));change Hid (∀(E:World)(S:Option Addr)(Yi:Nat),cZ E.heap.size E S x->Calls _ _ _ E fun H y=>H=.returned (.bool (x.any ei))∧y=E)at l;generalize x.any ei=X at*;cases X with
 |true=>
  rw[aD rfl]at m;rw[m.out,aE (by decide)]at u;rw[m.out,u.out];clear m u;go_enter Tryz.func166,Tryz.ntmps166;go_wp2_with fail;rw[D.out];refine C.out.mono ?_;rintro H t⟨Ye,rfl,n,q⟩;obtain⟨Y,U,u0,u1,rfl,Z,Yg,Yh,r,s⟩:=il.two n;obtain⟨J,G,rfl,I,_⟩:=cU.ints r;obtain⟨Yf,T,rfl,_⟩:=cU.ints s;have F:=d.trans (q.mono d.size);have b:eT t (a.heap.size+1) 70 (.slice none 0 0) (.slice none 0 0):=z.below q z.lt;have Yc:=b.cell0;have Yd:=b.dh;have V:=b.frozen 0;have W:=b.frozen 1;have R:=fun v=>(b.ld v).dh
  have N:=fun v=>(b.ld v).frozen 1
  have L:=hid r;have M:=hid s;have Q:a.heap.size+1<Y:=by omega
  have o:a.heap.size+1<j.heap.size:=by omega
  clear C n r s q;go_wp2_with fail;refine(l.out t J G I).mono ?_;rintro H t⟨rfl,rfl⟩;clear l;go_wp2;refine fI (py rfl rfl ((b.ld _).A0 _)) rfl ?_;exact⟨_,_,rfl,cU.nil _ _,cU.nil _ _,(F.setCell (p:=⟨a.heap.size+1,0,none⟩) (by show a.heap.size<=a.heap.size+1;omega) _).setCell (p:=⟨a.heap.size+1,1,none⟩) (by show a.heap.size<=a.heap.size+1;omega) _⟩
 |false=>
  rw[aE (by simp)]at m;rw[m.out,aD rfl]at u;rw[m.out,u.out];clear m u;go_enter Tryz.func166,Tryz.ntmps166;go_wp2_with fail;rw[D.out];refine C.out.mono ?_;rintro H t⟨Ye,rfl,n,q⟩;obtain⟨Y,U,u0,u1,rfl,Z,Yg,Yh,r,s⟩:=il.two n;obtain⟨J,G,rfl,I,_⟩:=cU.ints r;obtain⟨Yf,T,rfl,_⟩:=cU.ints s;have F:=d.trans (q.mono d.size);have b:eT t (a.heap.size+1) 70 (.slice none 0 0) (.slice none 0 0):=z.below q z.lt;have Yc:=b.cell0;have Yd:=b.dh;have V:=b.frozen 0;have W:=b.frozen 1;have R:=fun v=>(b.ld v).dh
  have N:=fun v=>(b.ld v).frozen 1
  have L:=hid r;have M:=hid s;have Q:a.heap.size+1<Y:=by omega
  have o:a.heap.size+1<j.heap.size:=by omega
  clear C n r s q;go_wp2_with fail;refine(l.out t J G I).mono ?_;rintro H t⟨rfl,rfl⟩;clear l;go_wp2;go_region
  all_goals
   go_wp2;refine fI (py rfl rfl ((b.ld _).A0 _)) rfl ?_;refine⟨_,_,rfl,?_,?_,bD ((F.setCell (p:=⟨a.heap.size+1,0,none⟩) (by show a.heap.size<=a.heap.size+1;omega) _).setCell (p:=⟨a.heap.size+1,1,none⟩) (by show a.heap.size<=a.heap.size+1;omega) _) 1⟩
   ·exact((L.out.vA o).vA o).mono (by omega)
   ·exact((M.out.vA o).vA o).mono (by omega)
def fP(rk P Q:List Int):Int×List Int×List Int:=if dj rk P Q=true then(ja P,ke P Q)else if dj rk Q P=true then(ja Q,ke Q P)else(6,[],[])
theorem EA(rk q r:List Int)(Yh h i:Option Addr)(Yt f g:Nat)(m:World)(Yv:da rk=0)(X:Tm.err q=0)(Y:Tm.err r=0)(Yu:cZ m.heap.size m Yh rk)(Yd:cZ m.heap.size m h q)(Ye:cZ m.heap.size m i r)(Yw:q.length<=f)(Yx:f<=maxLen)(Yy:r.length<=g)(Yz:g<=maxLen):
 Calls Tryz.prog 138 #[.slice Yh rk.length Yt,.slice h q.length f,.slice i r.length g] m fun Yk YA=>∃v YO,Yk=.returned (.tuple #[.agg #[v,YO],.int .i64 (fP rk q r).1])∧cU m.heap.size YA v (fP rk q r).2.1∧cU m.heap.size YA YO (fP rk q r).2.2∧Below m.heap.size m YA:=by
 obtain⟨c,G⟩:∃c,(m.alloc (.cells #[.slice none 0 0,.slice none 0 0] 70)).alloc (.cells #[.slice h q.length f,.slice i r.length g,.slice i r.length g,.slice h q.length f] 171)=c:=⟨_,rfl⟩;have t:Below m.heap.size m c:=by rw[<-G];exact((ah _ m).alloc (af _) _).alloc (by simp) _
 have Yf:c.heap.size=m.heap.size+1+1:=by rw[<-G];simp
 have Yr:eT c m.heap.size 70 (.slice none 0 0) (.slice none 0 0):=by
  rw[<-G];exact(eT.new m _ _ _).kept (jl _ _ none) (by simp)
 have Yj:c.heap[m.heap.size+1]?=some (.cells #[.slice h q.length f,.slice i r.length g,.slice i r.length g,.slice h q.length f] 171 (0,0)):=by
  rw[<-G];have Y6:=aM (m.alloc (.cells #[.slice none 0 0,.slice none 0 0] 70)) (.cells #[.slice h q.length f,.slice i r.length g,.slice i r.length g,.slice h q.length f] 171);simpa only[bI]using Y6
 have hA1:=hid (fun I(e:Below m.heap.size m I)=>pJ rk q r Yh h i Yt f g I ((Yu.below e).mono e.size) ((Yd.below e).mono e.size) ((Ye.below e).mono e.size) Yw Yx Yy Yz);have hA2:=hid (fun I(e:Below m.heap.size m I)=>pJ rk r q Yh i h Yt g f I ((Yu.below e).mono e.size) ((Ye.below e).mono e.size) ((Yd.below e).mono e.size) Yy Yz Yw Yx);rw[jQ Yv X Y]at hA1;rw[jQ Yv Y X]at hA2;have Q:=hid (fun I(e:Below m.heap.size m I)=>CH q r h i f g I X Y ((Yd.below e).mono e.size) ((Ye.below e).mono e.size));have Yc:=hid (fun I(e:Below m.heap.size m I)=>CH r q i h g f I Y X ((Ye.below e).mono e.size) ((Yd.below e).mono e.size));have F:Hid (fP rk q r=if dj rk q r=true then(ja q,ke q r)else if dj rk r q=true then(ja r,ke r q)else(6,[],[])):=rfl;have T:=hid G;have R:=hid (fun I(e:Below c.heap.size c I)=>(show I.cell? ⟨m.heap.size+1,0,none⟩=some (.slice h q.length f)∧I.cell? ⟨m.heap.size+1,1,none⟩=some (.slice i r.length g)∧I.cell? ⟨m.heap.size+1,2,none⟩=some (.slice i r.length g)∧I.cell? ⟨m.heap.size+1,3,none⟩=some (.slice h q.length f)∧eT I m.heap.size 70 (.slice none 0 0) (.slice none 0 0)from by
  have Yi:=(e.block (m.heap.size+1) (by omega)).trans Yj;exact⟨(dp Yi 0).trans rfl,(dp Yi 1).trans rfl,(dp Yi 2).trans rfl,(dp Yi 3).trans rfl,Yr.below e Yr.lt⟩))
 obtain⟨YI,YJ,YK,YL,_⟩:=R.out c (ah _ _);clear G Yu Yd Ye Yw Yx Yy Yz Yj Yr Yv X Y;generalize dj rk q r=YT at*;generalize dj rk r q=YU at*;generalize ja q=Y4 at*;generalize ja r=Y5 at*;generalize ke q r=YV at*;generalize ke r q=YW at*;obtain⟨YZ,Y0⟩:=YV;obtain⟨Y2,Y3⟩:=YW;dsimp only at Q Yc F
 cases YT with
 |true=>
  rw[aD rfl]at F;rw[F.out];clear F hA2 Yc;go_enter Tryz.func138,Tryz.ntmps138;go_wp2_with fail;rw[T.out];refine ft 3 ?_;rw[eK];obtain⟨E,n⟩:∃Yg,c.alloc (.cells #[.slice h q.length f,.slice i r.length g] 171)=Yg:=⟨_,rfl⟩;have J:Below c.heap.size c E:=by rw[<-n];exact(ah _ _).alloc (af _) _
  have l:eT E c.heap.size 171 (.slice h q.length f) (.slice i r.length g):=by rw[<-n];exact eT.new c _ _ _
  have w:=l.cell0;have x:=l.dh;rw[Yf]at l w x;have s:=(ah c.heap.size c).trans (J.mono (ah c.heap.size c).size);have j:=t.trans (s.mono t.size);have D:=hid n;clear n;go_wp2_with fail;rw[D.out];refine(hA1.out E j).mono ?_;rintro Yk P⟨rfl,y⟩;have H:=s.trans (y.mono s.size);have d:=j.trans (y.mono j.size);have YM:=(l.below y l.lt).cell0;have YN:=(l.below y l.lt).dh;have Z:=hid (Q.out P d);go_wp2_with fail;refine Z.out.mono ?_;rintro Yk YB⟨v,YO,rfl,N,O,V⟩;obtain⟨YX,YP,rfl,_⟩:=cU.ints N;obtain⟨YY,YQ,rfl,_⟩:=cU.ints O;have Yn:=H.trans (V.mono H.size);have k:=(R.out YB Yn).2.2.2.2;have YG:=k.cell0;have YH:=k.dh;have YE:=k.frozen 0;have YF:=k.frozen 1;have Ym:=fun v=>(k.ld v).dh
  have Yl:=fun v=>(k.ld v).frozen 1
  have Yp:=hid N;have Yq:=hid O;have S:=d.trans (V.mono d.size);have A:m.heap.size<P.heap.size:=by have:=H.size;omega
  clear N O Z;go_wp2;refine fI (py (a:=6) (b:=7) (B:=m.heap.size) Tryz.results138 rfl ((k.ld _).A0 _)) rfl ?_;refine⟨_,_,rfl,?_,?_,(S.setCell (p:=⟨m.heap.size,0,none⟩) (af _) _).setCell (p:=⟨m.heap.size,1,none⟩) (af _) _⟩
  ·exact((Yp.out.vA A).vA A).mono (by omega)
  ·exact((Yq.out.vA A).vA A).mono (by omega)
 |false=>
  rw[aE (by simp)]at F;cases YU with
  |true=>
   rw[aD rfl]at F;rw[F.out];clear F;clear Q;go_enter Tryz.func138,Tryz.ntmps138;go_wp2_with fail;rw[T.out];refine ft 3 ?_;rw[eK];obtain⟨E,n⟩:∃Yg,c.alloc (.cells #[.slice h q.length f,.slice i r.length g] 171)=Yg:=⟨_,rfl⟩;have J:Below c.heap.size c E:=by rw[<-n];exact(ah _ _).alloc (af _) _
   have l:eT E c.heap.size 171 (.slice h q.length f) (.slice i r.length g):=by rw[<-n];exact eT.new c _ _ _
   have w:=l.cell0;have x:=l.dh;rw[Yf]at l w x;have s:=(ah c.heap.size c).trans (J.mono (ah c.heap.size c).size);have j:=t.trans (s.mono t.size);have D:=hid n;clear n;go_wp2_with fail;rw[D.out];refine(hA1.out E j).mono ?_;rintro Yk C⟨rfl,U⟩;have K:=s.trans (U.mono s.size);have Yo:=j.trans (U.mono j.size);obtain⟨_,_,YR,YS,_⟩:=R.out C K;clear YI YJ YK YL w x;go_wp2;rw[eK];obtain⟨M,z⟩:∃Yg,C.alloc (.cells #[.slice i r.length g,.slice h q.length f] 171)=Yg:=⟨_,rfl⟩;have W:Below C.heap.size C M:=by rw[<-z];exact(ah _ _).alloc (af _) _
   have o:eT M C.heap.size 171 (.slice i r.length g) (.slice h q.length f):=by rw[<-z];exact eT.new C _ _ _
   have YC:=o.cell0;have YD:=o.dh;have d:=K.trans (W.mono K.size);have u:=t.trans (d.mono t.size);have L:=hid z;clear z;go_wp2_with fail;rw[L.out];refine(hA2.out M u).mono ?_;rintro Yk P⟨rfl,y⟩;have H:=d.trans (y.mono d.size);have d:=u.trans (y.mono u.size);have YM:=(o.below y o.lt).cell0;have YN:=(o.below y o.lt).dh;have Z:=hid (Yc.out P d);go_wp2_with fail;refine Z.out.mono ?_;rintro Yk YB⟨v,YO,rfl,N,O,V⟩;obtain⟨YX,YP,rfl,_⟩:=cU.ints N;obtain⟨YY,YQ,rfl,_⟩:=cU.ints O;have Yn:=H.trans (V.mono H.size);have k:=(R.out YB Yn).2.2.2.2;have YG:=k.cell0;have YH:=k.dh;have YE:=k.frozen 0;have YF:=k.frozen 1;have Ym:=fun v=>(k.ld v).dh
   have Yl:=fun v=>(k.ld v).frozen 1
   have Yp:=hid N;have Yq:=hid O;have S:=d.trans (V.mono d.size);have A:m.heap.size<P.heap.size:=by have:=H.size;omega
   clear N O Z;go_wp2;refine fI (py (a:=6) (b:=7) (B:=m.heap.size) Tryz.results138 rfl ((k.ld _).A0 _)) rfl ?_;refine⟨_,_,rfl,?_,?_,(S.setCell (p:=⟨m.heap.size,0,none⟩) (af _) _).setCell (p:=⟨m.heap.size,1,none⟩) (af _) _⟩
   ·exact((Yp.out.vA A).vA A).mono (by omega)
   ·exact((Yq.out.vA A).vA A).mono (by omega)
  |false=>
   rw[aE (by simp)]at F;rw[F.out];clear F;clear Q;go_enter Tryz.func138,Tryz.ntmps138;go_wp2_with fail;rw[T.out];refine ft 3 ?_;rw[eK];obtain⟨E,n⟩:∃Yg,c.alloc (.cells #[.slice h q.length f,.slice i r.length g] 171)=Yg:=⟨_,rfl⟩;have J:Below c.heap.size c E:=by rw[<-n];exact(ah _ _).alloc (af _) _
   have l:eT E c.heap.size 171 (.slice h q.length f) (.slice i r.length g):=by rw[<-n];exact eT.new c _ _ _
   have w:=l.cell0;have x:=l.dh;rw[Yf]at l w x;have s:=(ah c.heap.size c).trans (J.mono (ah c.heap.size c).size);have j:=t.trans (s.mono t.size);have D:=hid n;clear n;go_wp2_with fail;rw[D.out];refine(hA1.out E j).mono ?_;rintro Yk C⟨rfl,U⟩;have K:=s.trans (U.mono s.size);have Yo:=j.trans (U.mono j.size);obtain⟨_,_,YR,YS,_⟩:=R.out C K;clear YI YJ YK YL w x;go_wp2;rw[eK];obtain⟨M,z⟩:∃Yg,C.alloc (.cells #[.slice i r.length g,.slice h q.length f] 171)=Yg:=⟨_,rfl⟩;have W:Below C.heap.size C M:=by rw[<-z];exact(ah _ _).alloc (af _) _
   have o:eT M C.heap.size 171 (.slice i r.length g) (.slice h q.length f):=by rw[<-z];exact eT.new C _ _ _
   have YC:=o.cell0;have YD:=o.dh;have d:=K.trans (W.mono K.size);have u:=t.trans (d.mono t.size);have L:=hid z;clear z;go_wp2_with fail;rw[L.out];refine(hA2.out M u).mono ?_;rintro Yk P⟨rfl,y⟩;have H:=d.trans (y.mono d.size);have d:=u.trans (y.mono u.size);have YM:=(o.below y o.lt).cell0;have YN:=(o.below y o.lt).dh;have k:=(R.out P H).2.2.2.2;have YG:=k.cell0;have YH:=k.dh;have YE:=k.frozen 0;have YF:=k.frozen 1;have Ym:=fun v=>(k.ld v).dh
   have Yl:=fun v=>(k.ld v).frozen 1
   go_wp2;rw[eK];go_wp2;refine fI (py (a:=6) (b:=7) (B:=m.heap.size) Tryz.results138 rfl ((k.ld _).A0 _)) rfl ?_;exact⟨_,_,rfl,cU.nil _ _,cU.nil _ _,(d.setCell (p:=⟨m.heap.size,0,none⟩) (af _) _).setCell (p:=⟨m.heap.size,1,none⟩) (af _) _⟩
def kl(n k:Nat):List (Nat×Nat):=(List.range k).flatMap fun j=>[(j,n),(n,j)]
def js(n:Nat):List (Nat×Nat):=kl n n++[(n,n)]
theorem sD(b a:Nat):kl b (a+1)=kl b a++[(a,b),(b,a)]:=by
 unfold kl;rw[Rv,List.flatMap_append];rfl
theorem oF(c a:Nat):(kl c a).length=2*a:=by
 induction a with
 |zero=>rfl
 |succ a b=>rw[sD,ai,b];simp;omega
theorem oY(a:Nat):(js a).length=2*a+1:=by unfold js;rw[ai,oF];rfl
theorem Fl(n k:Nat)(d:k<=n):∀p∈kl n k,p.1<=n∧p.2<=n:=by
 intro p a;unfold kl at a;rw[List.mem_flatMap]at a;obtain⟨c,b,a⟩:=a;rw[Rd]at b;simp only[dA,Rn,RL]at a;rcases a with rfl|rfl
 ·exact⟨by show c<=n;omega,af _⟩
 ·exact⟨af _,by show c<=n;omega⟩
theorem Jh(n:Nat):∀p∈js n,p.1<=n∧p.2<=n:=by
 intro p a;unfold js at a;rcases dZ.1 a with b|b
 ·exact Fl n n (af _) p b
 ·simp only[dA,Rn,RL]at b
  subst b;exact⟨af _,af _⟩
def kA(rs:bu)(ws:List (Nat×Nat))(k:Nat)(ps:bg):Prop:=∃f:Nat->bg,(∀j,j<k->fi rs ((ws[j]?.getD (0,0)).1:Int) ((ws[j]?.getD (0,0)).2:Int) 0 (f j))∧ps=((List.range k).map f).flatten
def gO(rs:bu)(ws:List (Nat×Nat))(er:Int)(ps:bg):Prop:=
 (er=0∧kA rs ws ws.length ps)∨(er≠0∧ps=[]∧∃k qs,k<ws.length∧(∃l,kA rs ws k l)∧fi rs ((ws[k]?.getD (0,0)).1:Int) ((ws[k]?.getD (0,0)).2:Int) er qs)
theorem kA.zero(a:bu)(b:List (Nat×Nat)):kA a b 0 []:=⟨fun _=>[],fun d c=>by omega,rfl⟩
theorem kA.next{b:bu}{a:List (Nat×Nat)}{d:Nat}{i ps:bg}(k:kA b a d i)(g:fi b ((a[d]?.getD (0,0)).1:Int) ((a[d]?.getD (0,0)).2:Int) 0 ps):kA b a (d+1) (i++ps):=by
 obtain⟨j,f,rfl⟩:=k;refine⟨fun c=>if c=d then ps else j c,fun c e=>?_,?_⟩
 ·dsimp only
  by_cases h:c=d
  ·subst h;rw[aD rfl];exact g
  ·rw[aE h];exact f c (by omega)
 ·rw[Rv,gF,fB]
  simp only[fF,gy,aD,fO,mC,cW];congr 2;refine gm fun c e=>?_
  rw[Rd]at e;rw[aE (by omega)]
theorem kA.len(c:kA h q d l):l.length<=30*d:=by
 obtain⟨g,a,rfl⟩:=c;induction d with
 |zero=>simp
 |succ d b=>
  rw[Rv,gF,fB,ai];have:=b fun f e=>a f (by omega)
  have:=(a d (by omega)).len.2
  simp only[fF,gy,fO,mC,cW];omega
def Ai(base:Nat)(W:World)(v:Value)(ws:List (Nat×Nat)):Prop:=W.ownsRow base 235 2 v ws.length (ws.flatMap fun p=>[.int .i64 (p.1:Int),.int .i64 (p.2:Int)])
theorem Ai.nil(base:Nat)(a:World):Ai base a (.slice none 0 0) []:=gq _ _ _ _
theorem Ai.slice{base:Nat}(f:Ai base i x q):∃e c,x=.slice e q.length c:=by
 rcases f.2 with⟨rfl,a⟩|⟨g,b,d,rfl,_⟩
 ·exact⟨none,0,by rw[a]⟩
 ·exact⟨_,_,rfl⟩
theorem Mw(a:List (Nat×Nat))(b:Nat)(d:b<a.length):(a.flatMap fun c=>[Value.int .i64 (c.1:Int),.int .i64 (c.2:Int)])[b*2]?=some (.int .i64 ((a[b]?.getD (0,0)).1:Int))∧(a.flatMap fun c=>[Value.int .i64 (c.1:Int),.int .i64 (c.2:Int)])[b*2+1]?=some (.int .i64 ((a[b]?.getD (0,0)).2:Int)):=by
 induction a generalizing b with
 |nil=>simp at d
 |cons c f e=>
  rw[kC];cases b with
  |zero=>exact⟨rfl,rfl⟩
  |succ b=>
   have:=e b (by simpa using d)
   rw[show(b+1)*2=b*2+1+1 by omega];simpa using this
theorem Ms(a:List (Nat×Nat)):(a.flatMap fun c=>[Value.int .i64 (c.1:Int),.int .i64 (c.2:Int)]).length=a.length*2:=by
 induction a with
 |nil=>rfl
 |cons c d b=>rw[kC,ai,b];simp;omega
theorem Ai.at{base:Nat}{v:Value}(n:Ai base i v q)(s:0<q.length):∃g c,v=.slice (some ⟨g,0,none⟩) q.length c∧g<i.heap.size∧∀k,k<q.length->i.cell? ⟨g,k*2,none⟩=some (.int .i64 ((q[k]?.getD (0,0)).1:Int))∧i.cell? ⟨g,k*2+1,none⟩=some (.int .i64 ((q[k]?.getD (0,0)).2:Int)):=by
 have h:=n;rcases n.2 with⟨rfl,p⟩|⟨g,a,m,rfl,r,f,u⟩
 ·omega
 ·refine⟨g,a,rfl,(ak.1 f).1,fun k l=>?_⟩
  have b:=fun t j=>dI (show i.ownsRow base 235 2 (.slice (some ⟨g,0,none⟩) q.length a) q.length (q.flatMap fun o=>[.int .i64 (o.1:Int),.int .i64 (o.2:Int)])from h) t j
  obtain⟨d,e⟩:=Mw q k l;exact⟨by rw[b _ (by omega),d],by rw[b _ (by omega),e]⟩
theorem Tryz.OS:(Tryz.prog.info? 235).map (fun a=>(a.zero,a.size,a.bytes))=some (some (.agg #[.int .i64 0,.int .i64 0]),2,16):=by kernel_rfl
theorem Gq{rest:List Oper}(g:World)(k:E.guard=none)(A D:Operand)
 (v:E.op=.call {callee:=.builtin .append,args:=#[A,D],argTypes:=#[234,234]})(base:Nat)(C:Value)(e a:List (Nat×Nat))(w:F.eval A=C)(i:Ai base g C e)
 (o z:Nat)(u:z=a.length)(x:F.eval D=.slice (some ⟨o,0,none⟩) z z)(p:∀j B,(a.flatMap fun h=>[Value.int .i64 (h.1:Int),.int .i64 (h.2:Int)])[j]?=some B->g.cell? ⟨o,j,none⟩=some B)(t:e.length+a.length<=100000)(b:base<=g.heap.size)
 (J:∀d w',Ai base w' d (e++a)->Below base g w'->wpList Tryz.prog H I rest (F.put E.dst d) w'):wpList Tryz.prog H I (E::rest) F g:=by
 subst u;obtain⟨y,r,l,m,n⟩:=fh Tryz.OS;refine fN g k A D 234 v base 235 y (.agg #[.int .i64 0,.int .i64 0]) 2 16 Tryz.underlying234 r l m n rfl (by decide) C e.length _ w i ⟨o,0,none⟩ a.length a.length (a.flatMap fun h=>[.int .i64 (h.1:Int),.int .i64 (h.2:Int)]) x (by rw[Ms])
  (by intro j L s;rw[cz,cI];exact p j L s)
  (by
    intro B c;rw[List.mem_flatMap]at c;obtain⟨h,_,c⟩:=c;simp only[dA,Rn,RL]at c;rcases c with rfl|rfl<;>rfl) (by unfold maxLen;omega) (by omega) b ?_
 intro d w' f q _;exact J d w' (by unfold Ai;rw[ai,List.flatMap_append];exact f) ((ah base g).grown q b fun K G=>(bn i K G).1)
theorem J6(Yu:Nat)(b:bu)(YK:Option Addr)(R:Nat)(q:World)(YU:Yu<=q.heap.size)(Yx:dw q.heap.size q YK b)(Zd:0<b.length)(Ze:b.length<=8):
 Calls Tryz.prog 168 #[.slice YK b.length R] q fun YT YE=>∃e ps v,gO b (js (b.length-1)) e ps∧YT=.returned (.tuple #[v,.int .i64 e])∧dC false 79 q.heap.size Yu YE v ps∧Below q.heap.size q YE:=by
 obtain⟨d,Yz⟩:∃d,b.length=d+1:=⟨b.length-1,by omega⟩;have YY:d<=7:=by omega
 have Y0:(b.length:Int)-1=(d:Int):=by omega
 have YX:(d:Int)<=7:=by omega
 rw[show b.length-1=d by omega];have YH:=hid Yx;have Y5:=hid Yz;have Y3:(b.length:Int)<=8:=by omega
 have YQ:(1:Int)<=(b.length:Int):=by omega
 clear Yx Yz;go_enter Tryz.func168,Tryz.ntmps168;go_wp2;go_loopw [5,16](fun Ym v wr=>∃a:Nat,a<=d∧v=.int .i64 (a:Int)∧Hid (Ai q.heap.size wr Ym (kl d a))∧Below q.heap.size q wr)(fun _ v _=>d-(intOf v).toNat)
 case atStart=>exact⟨0,bf _,rfl,hid (Ai.nil _ _),ah _ _⟩
 case round=>
  obtain⟨a,Zf,rfl,C,M⟩:=hrel;obtain⟨YC,YD,rfl⟩:=C.out.slice;have W:=oF d a;by_cases YW:a<d
  ·have YO:(a:Int)<(d:Int):=by omega
   have YA:=hid (sD d a);have Yy:(kl d a).length<=14:=by omega
   clear W;generalize kl d a=s at*;have E:=M.size;have L:=hid (show Ai q.heap.size (wr.alloc (.cells #[.int .i64 (a:Int),.int .i64 (d:Int),.int .i64 (d:Int),.int .i64 (a:Int)] 235)) (.slice YC s.length YD) s from wI C.out fun YB Yf=>cM wr _ YB (bn C.out YB Yf).2);have J:=hid (M.alloc E (.cells #[.int .i64 (a:Int),.int .i64 (d:Int),.int .i64 (d:Int),.int .i64 (a:Int)] 235));have K:Hid (∀Yl Yn,([(a,d),(d,a)].flatMap fun p=>[Value.int .i64 (p.1:Int),.int .i64 (p.2:Int)])[Yl]?=some Yn->(wr.alloc (.cells #[.int .i64 (a:Int),.int .i64 (d:Int),.int .i64 (d:Int),.int .i64 (a:Int)] 235)).cell? ⟨wr.heap.size,Yl,none⟩=some Yn):=fun Yl Yn Ye=>by
    rw[dp (aM wr _)];simpa using Ye
   go_wp2_with(at_builtin;go_loud(refine Gq _ rfl _ _ rfl q.heap.size _ s [(a,d),(d,a)] rfl L.out wr.heap.size 2 rfl rfl K.out (by simp;omega) (by simp;omega) ?_);intro YR r f t;obtain⟨Y6,YL,rfl⟩:=f.slice)
   go_roundw
   case rel=>exact⟨a+1,by omega,by go_num,by rw[YA.out];simpa [Hid]using f,J.out.trans t⟩
   case measure=>simp[intOf];omega
  ·obtain rfl:a=d:=by omega
   have V:Hid (js a=kl a a++[(a,a)]):=rfl;have Yy:(kl a a).length<=14:=by omega
   have n:=hid (oY a);have P:=hid (Jh a);clear W;generalize kl a a=s at*;have E:=M.size;have L:=hid (show Ai q.heap.size (wr.alloc (.cells #[.int .i64 (a:Int),.int .i64 (a:Int)] 235)) (.slice YC s.length YD) s from wI C.out fun YB Yf=>cM wr _ YB (bn C.out YB Yf).2);have J:=hid (M.alloc E (.cells #[.int .i64 (a:Int),.int .i64 (a:Int)] 235));have K:Hid (∀Yl Yn,([(a,a)].flatMap fun p=>[Value.int .i64 (p.1:Int),.int .i64 (p.2:Int)])[Yl]?=some Yn->(wr.alloc (.cells #[.int .i64 (a:Int),.int .i64 (a:Int)] 235)).cell? ⟨wr.heap.size,Yl,none⟩=some Yn):=fun Yl Yn Ye=>by
    rw[dp (aM wr _)];simpa using Ye
   go_wp2_with(at_builtin;go_loud(refine Gq _ rfl _ _ rfl q.heap.size _ s [(a,a)] rfl L.out wr.heap.size 1 rfl rfl K.out (by simp;omega) (by simp;omega) ?_);intro YR r f t;rw[<-V.out]at f;have I:=J.out.trans t;obtain⟨Yv,YL,rfl,U,T⟩:=f.at (by have:=n.out;omega);have O:=hid T;have Yq:=hid f;clear f T L J K t)
   have Yi:(js a).length<=15:=by have:=n.out;omega
   have N:((js a).length:Int)<=15:=by omega
   obtain⟨c,o⟩:∃c,js a=c:=⟨_,rfl⟩;rw[o]at Yi N O Yq P n⊢;have Q:=hid o;clear o V;go_loopw [7,37](fun Ym v H=>∃(l:Nat)(X:bg),l<=c.length∧v=.int .i64 (l:Int)∧Hid (kA b c l X)∧Hid (dC false 79 r.heap.size Yu H Ym X)∧Below r.heap.size r H)(fun _ v _=>c.length-(intOf v).toNat)
   case atStart=>exact⟨0,[],bf _,rfl,hid (kA.zero _ _),hid (dC.nil _ _ _ _),ah _ _⟩
   case round=>
    obtain⟨H,rfl⟩:∃H,H=wr:=⟨wr,rfl⟩;obtain⟨l,X,Zg,rfl,g,D,j⟩:=hrel;obtain⟨Zh,Zi,rfl⟩:=D.out.slice;have YN:=g.out.len;have Y:=I.trans (j.mono I.size);by_cases y:l<c.length
    ·have YP:(l:Int)<(c.length:Int):=by omega
     obtain⟨YF,YG⟩:=O.out l y;have Zm:=(j.cell (p:=⟨Yv,l*2,none⟩) U).trans YF;have Zn:=(j.cell (p:=⟨Yv,l*2+1,none⟩) U).trans YG;have F:c[l]?.getD (0,0)∈c:=by rw[an y,dy];exact ee y
     have YM:=P.out _ F;have G:=hid (fun ps Yg=>g.out.next (ps:=ps) Yg);have h:Hid (∀e m,e≠0->fi b ((c[l]?.getD (0,0)).1:Int) ((c[l]?.getD (0,0)).2:Int) e m->gO b c e []):=fun e m A Yg=>.inr ⟨A,rfl,l,m,y,⟨X,g.out⟩,Yg⟩
     clear YF YG F g;generalize(c[l]?.getD (0,0)).1=Yj at*;generalize(c[l]?.getD (0,0)).2=Yk at*;obtain⟨z,x⟩:∃z,H.alloc (.cells #[.int .i64 (Yj:Int),.int .i64 (Yk:Int)] 235)=z:=⟨_,rfl⟩;have u:Below H.heap.size H z:=by rw[<-x];exact(ah _ _).alloc (af _) _
     have Yc:eT z H.heap.size 235 (.int .i64 (Yj:Int)) (.int .i64 (Yk:Int)):=by rw[<-x];exact eT.new H _ _ _
     have Zb:=Yc.cell0;have Zc:=Yc.dh;have Yr:=hid x;have i:=Y.trans (u.mono Y.size);have Yd:=hid (Ox b (Yj:Int) (Yk:Int) YK R z ((YH.out.below i).mono i.size));clear x Yc;go_wp2_with fail;rw[Yr.out];go_wp2_with fail;refine Yd.out.mono ?_;rintro YT YS⟨e,m,Zj,k,rfl,w,Z⟩;have YJ:=hid (ll.x (fl:=false) (eb:=Yu) w (.inr (by have:=i.size;omega)));obtain⟨Y7,Y9,rfl⟩:=w.slice;have Yo:=j.trans ((u.trans (Z.mono u.size)).mono j.size);have Yp:=i.trans (Z.mono i.size);by_cases A:e=0
     ·subst A
      have Y2:=k.len.2;have Yt:=hid (G.out m k);have YI:=hid ((D.out.below u).below Z);have Yh:r.heap.size<=YS.heap.size:=Yo.size;have Y4:q.heap.size<=r.heap.size:=I.size;clear Yd w k G h;go_wp2_with(at_builtin;go_loud(refine qu _ rfl _ _ rfl r.heap.size Yu (by omega) _ X rfl YI.out _ m rfl z.heap.size YJ.out (by omega) Yh ?_);intro Zk Zl S YV Yw;obtain⟨Y8,Za,rfl⟩:=S.slice)
      go_roundw
      case rel=>exact⟨l+1,X++m,by omega,by go_num,Yt,by simpa [Hid]using S,Yo.trans Yw⟩
      case measure=>simp[intOf];omega
     ·have YZ:(e !=0)=true:=by simpa using A
      have B:=hid (h.out e m A k);clear Yd w k G h A;go_wp2;go_ret2
      exact⟨e,[],_,by rw[Q.out];exact B.out,rfl,dC.nil _ _ _ _,Yp⟩
    ·obtain rfl:l=c.length:=by omega
     have B:Hid (gO b c 0 X):=.inl ⟨rfl,g.out⟩;clear g;go_wp2;go_ret2
     exact⟨0,X,_,by rw[Q.out];exact B.out,rfl,D.out.mono I.size,Y⟩
