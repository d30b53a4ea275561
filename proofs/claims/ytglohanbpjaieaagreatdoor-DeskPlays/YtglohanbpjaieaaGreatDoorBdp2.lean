/-
  Parts of the proof.
-/
import Derived.Test.YtglohanbpjaieaaGreatDoorBdp1
import Derived.Maps.OwnIn
set_option maxHeartbeats 1000000
set_option maxRecDepth 100000
namespace Go.Proofs.YtglohanbpjaieaaGreatDoor
open Go.Proofs Go.RowKit Go.Shelf Go.Maps
variable {B:List Value}{E:Oper}{G:Act}{H:DataW Unit}{I:Int->Option Value}{J:Array Oper}{K:Exit->Act->World->Prop}{M:List Nat}{N:Array (MapEntry)}{b f u z D:Nat}{d h:List Int}{e r L:World}{g:List (List Int)}{l C:Value}{y:Int}
def gh(ss:List (List Int))(s:Int):List Int:=if s<0 then ss[(-1-s).toNat]?.getD []else [s]
def bo(ss:List (List Int))(t:List Int):List Int:=t.flatMap (gh ss)
theorem rl(a:List (List Int))(c:b<d.length):bo a (d.take (b+1))=bo a (d.take b)++gh a (d[b]?.getD 0):=by
 rw[qv c];simp[bo,List.flatMap_append]
def um(ss:List (List Int)):Prop:=∀j,j<ss.length->(ss[j]?.getD []).length<=30
theorem um.MH(b:ez g=0):um g:=fun c a=>cK (j6 b c a)
theorem um.any(c:um g)(b:Nat):(g[b]?.getD []).length<=30:=by
 by_cases a:b<g.length
 ·exact c b a
 ·rw[ql (by omega)];simp
theorem tj(c:um g)(b:Int):(gh g b).length<=30:=by
 unfold gh;by_cases a:b<0
 ·rw[aD a];exact c.any _
 ·rw[aE a];simp
theorem mi(c:um g)(b:List Int):(bo g b).length<=30*b.length:=by
 induction b with
 |nil=>simp[bo]
 |cons d e a=>
  have:=tj c d
  simp only[bo,kC,ai,aI]at a⊢;omega
theorem GU(a:List (List Int))(F:a.length=8)(x:Option Addr)(m k:Nat)(d:Int)(C: -8<=d)(f:World)(D:f.cell? ⟨k,0,none⟩=some (.slice x 8 m))(h:np f.heap.size f x a):
 Calls Tryz.prog 207 #[.int .i64 d,.pointer (some ⟨k,0,none⟩)] f fun j i=>∃q c,j=.returned (.slice q (gh a d).length c)∧cZ i.heap.size i q (gh a d)∧(q=none->(gh a d).length=0∧c=0)∧Below f.heap.size f i:=by
 by_cases p:d<0
 ·obtain⟨e,rfl⟩:∃e:Nat,d= -1-(e:Int):=⟨(-1-d).toNat,by omega⟩
  obtain⟨q,B,rfl,E,o⟩:=h.at (by omega);obtain⟨s,t,z,n,u,v,g⟩:=o e (by omega);have b:gh a (-1-(e:Int))=a[e]?.getD []:=by
   unfold gh;rw[aD p];congr 2;omega
  rw[b];have A:(e:Int)<8:=by omega
  have r:Hid (s=none->(a[e]?.getD []).length=0∧t=0):=fun j=>⟨by have:=g j;omega,g j⟩
  clear b o h g u v;generalize a[e]?.getD []=H at*;have w:(-1:Int)-(-1-(e:Int))=(e:Int):=by omega
  go_enter Tryz.func207,Tryz.ntmps207;go_wp2;go_ret;exact⟨_,_,rfl,n,r.out,ah _ _⟩
 ·have b:gh a d=[d]:=by simp[gh,p]
  have y:=qX f [d] _ rfl;simp only[fF,gy]at y;have l:=hid b;clear b h;generalize gh a d=G at*;go_enter Tryz.func207,Tryz.ntmps207;go_wp2;go_ret;exact⟨some ⟨f.heap.size,0,none⟩,1,by rw[l.out];rfl,by rw[l.out];simpa using y,(fun j=>by cases j),(ah _ _).alloc (af _) _⟩
theorem DE(b:List (List Int))(A:b.length=8)(n:um b)(L:Option Addr)(i e:Nat)(c:List Int)(h:Option Addr)(Q:Nat)(Yg:c.length<=30)(o:∀k,k<c.length-> -8<=c[k]?.getD 0)(d:World)
 (s:e<d.heap.size)(q:d.cell? ⟨e,0,none⟩=some (.slice L 8 i))(w:np d.heap.size d L b)(x:cZ d.heap.size d h c):
 Calls Tryz.prog 204 #[.slice h c.length Q,.func (.func 207) #[] #[.pointer (some ⟨e,0,none⟩)]] d fun X F=>∃v,X=.returned v∧cU d.heap.size F v (bo b c)∧Below d.heap.size d F:=by
 have S:(c.length:Int)<=30:=by omega
 have H:=hid q;have I:=hid w;have J:=hid x;have G:=hid o;have K:=hid A;clear q w x o A;go_enter Tryz.func204,Tryz.ntmps204;go_wp2;go_loopw [5,10](fun v U wr=>∃k:Nat,k<=c.length∧U=.int .i64 (k:Int)∧cU d.heap.size wr v (bo b (c.take k))∧Below d.heap.size d wr)(fun _ U _=>c.length-(intOf U).toNat)
 case atStart=>exact⟨0,bf _,rfl,cU.nil _ _,ah _ _⟩
 case round=>
  obtain⟨k,Yf,rfl,f,a⟩:=hrel;by_cases g:k<c.length
  ·have T:(k:Int)<(c.length:Int):=by omega
   obtain⟨Yd,E,rfl,R,y⟩:=J.out.at (by omega);have Y:=(a.cell (p:=⟨Yd,E+k,none⟩) R).trans (y k g);have z:=GU b K.out L i e (c[k]?.getD 0) (G.out k g) wr ((a.cell (p:=⟨e,0,none⟩) s).trans H.out) ((I.out.below a).mono a.size);have D:=hid (rl b g);have B:=mi n (c.take k);rw[cX]at B;have Z:=tj n (c[k]?.getD 0);clear y;generalize gh b (c[k]?.getD 0)=V at*;generalize c[k]?.getD 0=Yk at*;generalize bo b (c.take k)=W at*;obtain⟨Yc,Ye,rfl,_⟩:=cU.ints f;go_wp2_with(first
    |(go_at_call 207;refine z.mono ?_;clear z;rintro X Yi⟨N,O,rfl,t,C,j⟩;have u:=cU.below f j;have l:=a.trans (j.mono a.size))
    |(at_builtin;go_loud(refine dB _ rfl _ _ rfl d.heap.size _ W rfl u N V O rfl C t (by omega) l.size ?_);intro Yh Yj m r;obtain⟨M,P,rfl,_⟩:=cU.ints m))
   go_roundw
   case rel=>exact⟨k+1,by omega,by go_num,by rw[D.out];simpa using m,l.trans r⟩
   case measure=>simp[intOf];omega
  ·obtain rfl:k=c.length:=by omega
   rw[cJ]at f;obtain⟨M,P,rfl,_⟩:=cU.ints f;go_wp2;go_ret;exact⟨_,rfl,f,a⟩
theorem JA(d:List (List Int))(C:d.length=8)(o:um d)(p:Option Addr)(b:Nat)(h:List Int)(f:Option Addr)(s:Nat)(D:h.length<=30)(u:∀k,k<h.length-> -8<=h[k]?.getD 0)(e:World)
 (w:np e.heap.size e p d)(x:cZ e.heap.size e f h):
 Calls Tryz.prog 198 #[.slice p 8 b,.slice f h.length s] e fun B y=>∃v,B=.returned (.tuple #[v,.int .i64 (if 30<(bo d h).length then 2 else 0)])∧cU e.heap.size y v (if 30<(bo d h).length then []else bo d h)∧Below e.heap.size e y:=by
 have F:∀(t:Fn)(first b:Array Value)(e:World),(Instr.makeFunc t first b).run Tryz.prog e=.ok (.func t first b) e:=fun _ _ _ _=>rfl
 have r:=dt e 75 (.slice p 8 b);have c:Below e.heap.size e (e.alloc (.cells #[.slice p 8 b] 75)):=(ah _ _).alloc (af _) _;have i:=DE d C o p b e.heap.size h f s D u (e.alloc (.cells #[.slice p 8 b] 75)) (by simp) r.cell ((w.below c).mono c.size) ((x.below c).mono c.size);have n:=mi o h;have q:=hid n;clear n w x u r;generalize bo d h=m at*;have G:(m.length:Int)<=1000:=by have:=q.out;omega
 by_cases a:30<m.length
 ·have l:(30:Int)<(m.length:Int):=by omega
  rw[aD a,aD a];clear a;go_enter Tryz.func198,Tryz.ntmps198;go_wp2_with(go_at_call 204;refine i.mono ?_;clear i;rintro B E⟨v,rfl,j,g⟩;obtain⟨z,A,rfl,_⟩:=cU.ints j)
  go_ret2
  exact⟨_,rfl,cU.nil _ _,c.trans (g.mono c.size)⟩
 ·have l:(m.length:Int)<=30:=by omega
  rw[aE a,aE a];clear a;go_enter Tryz.func198,Tryz.ntmps198;go_wp2_with(go_at_call 204;refine i.mono ?_;clear i;rintro B E⟨v,rfl,j,g⟩;obtain⟨z,A,rfl,_⟩:=cU.ints j)
  go_ret2
  exact⟨_,rfl,j.mono c.size,c.trans (g.mono c.size)⟩
def dH(ss:List (List Int))(t:List Int):Int:=if e7 ss=0 then(if Tm.err t=0 then(if 30<(bo ss t).length then 2 else 0)else Tm.err t)else e7 ss
def eJ(ss:List (List Int))(t:List Int):List Int:=if dH ss t=0 then bo ss t else []
theorem jx(b:e7 g=0):g.length=8∧ez g=0:=by
 unfold e7 at b;by_cases a:g.length=8
 ·rw[aD a]at b;exact⟨a,b⟩
 ·rw[aE a]at b;omega
theorem lT(b:Tm.err d=0):∀k,k<d.length-> -8<=d[k]?.getD 0:=fun _ a=>j7 (lM (fw b) a)
theorem AH(b:e7 g=0)(c:Tm.err d=0):
 dH g d=(if 30<(bo g d).length then 2 else 0)∧eJ g d=(if 30<(bo g d).length then []else bo g d):=by
 have a:dH g d=(if 30<(bo g d).length then 2 else 0):=by unfold dH;rw[aD b,aD c]
 refine⟨a,?_⟩;unfold eJ;rw[a];by_cases e:30<(bo g d).length<;>simp[e]
theorem Ka(c:e7 g=0)(b:Tm.err d≠0):dH g d=Tm.err d∧eJ g d=[]:=by
 have a:dH g d=Tm.err d:=by unfold dH;rw[aD c,aE b]
 exact⟨a,by unfold eJ;rw[a,aE b]⟩
theorem JG{t:List Int}(b:e7 g≠0):dH g t=e7 g∧eJ g t=[]:=by
 have a:dH g t=e7 g:=by unfold dH;rw[aE b]
 exact⟨a,by unfold eJ;rw[a,aE b]⟩
theorem z7(b:List (List Int))(t:List Int)(y d:Option Addr)(n q:Nat)(o:World)(u:np o.heap.size o y b)(w:cZ o.heap.size o d t):
 Calls Tryz.prog 176 #[.slice y b.length n,.slice d t.length q] o fun r l=>∃v,r=.returned (.tuple #[v,.int .i64 (dH b t)])∧cU o.heap.size l v (eJ b t)∧Below o.heap.size o l:=by
 have c:=E3 b y n o u;by_cases f:e7 b=0
 ·have i:∀m,Below o.heap.size o m->Calls Tryz.prog 112 #[.slice d t.length q] m fun r l=>r=.returned (.int .i64 (Tm.err t))∧Below m.heap.size m l:=fun m k=>jn t d q m ((w.below k).mono k.size)
  rw[f]at c;by_cases j:Tm.err t=0
  ·obtain⟨g,h⟩:=AH f j
   obtain⟨x,C⟩:=jx f;have B:∀m,Below o.heap.size o m->Calls Tryz.prog 198 #[.slice y 8 n,.slice d t.length q] m fun r l=>∃v,r=.returned (.tuple #[v,.int .i64 (dH b t)])∧cU m.heap.size l v (eJ b t)∧Below m.heap.size m l:=fun m k=>by
    rw[g,h];exact JA b x (um.MH C) y n t d q (cK j) (lT j) m ((u.below k).mono k.size) ((w.below k).mono k.size)
   rw[x]at c⊢;rw[j]at i;have p:=hid i;have F:=hid B;clear i B u w x C g h f j;generalize dH b t=H at*;generalize eJ b t=L at*;go_enter Tryz.func176,Tryz.ntmps176;go_wp2_with(first
    |(go_at_call 197;refine c.mono ?_;clear c;rintro r E⟨rfl,a⟩)
    |(go_at_call 112;refine(p.out _ a).mono ?_;rintro r G⟨rfl,s⟩;have e:=a.trans (s.mono a.size))
    |(go_at_call 198;refine(F.out _ e).mono ?_;rintro r K⟨v,rfl,A,z⟩;obtain⟨I,J,rfl,_⟩:=cU.ints A))
   go_ret2
   exact⟨_,rfl,A.mono e.size,e.trans (z.mono e.size)⟩
  ·obtain⟨g,h⟩:=Ka f j
   rw[g,h];have p:=hid i;have D:(Tm.err t !=0)=true:=by simp[j]
   clear i u w g h f j;generalize Tm.err t=H at*;go_enter Tryz.func176,Tryz.ntmps176;go_wp2_with(first
    |(go_at_call 197;refine c.mono ?_;clear c;rintro r E⟨rfl,a⟩)
    |(go_at_call 112;refine(p.out _ a).mono ?_;rintro r G⟨rfl,s⟩;have e:=a.trans (s.mono a.size)))
   go_ret2
   exact⟨_,rfl,cU.nil _ _,e⟩
 ·obtain⟨g,h⟩:=JG (t:=t) f
  rw[g,h];have D:(e7 b !=0)=true:=by simp[f]
  clear u w g h f;generalize e7 b=H at*;go_enter Tryz.func176,Tryz.ntmps176;go_wp2_with(go_at_call 197;refine c.mono ?_;clear c;rintro r E⟨rfl,a⟩)
  go_ret2
  exact⟨_,rfl,cU.nil _ _,a⟩
theorem GG(b:List (List Int))(R:b.length=8)(x:um b)(Yn:Option Addr)(G:Nat)(c:List Int)(r:Option Addr)(Yc:Nat)(Yx:c.length<=30)(I:∀k,k<c.length-> -8<=c[k]?.getD 0)(h:World)
 (M:np h.heap.size h Yn b)(N:cZ h.heap.size h r c):
 Calls Tryz.prog 121 #[.slice Yn 8 G,.slice r c.length Yc] h fun B U=>∃v,B=.returned v∧cU h.heap.size U v (bo b c)∧Below h.heap.size h U:=by
 have Yf:(c.length:Int)<=30:=by omega
 obtain⟨Z,Yi,rfl,O,t⟩:=M.at (by omega);have C:=hid t;have X:=hid N;have W:=hid I;have Y:=hid R;clear t M N I R;go_enter Tryz.func121,Tryz.ntmps121;go_wp2;go_loopw [5,6](fun v Yh wr=>∃k:Nat,k<=c.length∧Yh=.int .i64 (k:Int)∧cU h.heap.size wr v (bo b (c.take k))∧Below h.heap.size h wr)(fun _ Yh _=>c.length-(intOf Yh).toNat)
 case atStart=>exact⟨0,bf _,rfl,cU.nil _ _,ah _ _⟩
 case round=>
  obtain⟨k,Yw,rfl,g,a⟩:=hrel;by_cases m:k<c.length
  ·have Yg:(k:Int)<(c.length:Int):=by omega
   obtain⟨Yu,T,rfl,Ye,P⟩:=X.out.at (by omega);have Q:=(a.cell (p:=⟨Yu,T+k,none⟩) Ye).trans (P k m);have f:=hid (rl b m);have S:=mi x (c.take k);rw[cX]at S;have u:=tj x (c[k]?.getD 0);have w:=W.out k m;clear P;obtain⟨Yt,Yv,rfl,_⟩:=cU.ints g;by_cases n:c[k]?.getD 0<0
   ·obtain⟨o,z⟩:∃o:Nat,c[k]?.getD 0= -1-(o:Int):=⟨(-1-(c[k]?.getD 0)).toNat,by omega⟩
    have Yp:(o:Int)<8:=by omega
    obtain⟨E,H,l,j,q,Yd,y⟩:=C.out o (by rw[Y.out];omega);have Yo:=(a.cell (p:=⟨Z,Yi+o,none⟩) O).trans l;have K:=(j.below a).mono a.size;have e:gh b (c[k]?.getD 0)=b[o]?.getD []:=by
     rw[z];unfold gh;rw[aD (by omega)];congr 2;omega
    rw[e]at f u;rw[z]at Q;have V:Hid (E=none->(b[o]?.getD []).length=0∧H=0):=fun B=>⟨by have:=y B;omega,y B⟩
    clear l j e z n w y q Yd;generalize b[o]?.getD []=Yj at*;generalize bo b (c.take k)=A at*;have Yq:(-1-(o:Int))<0:=by omega
    have Yr: -(-1-(o:Int))-1=(o:Int):=by omega
    go_wp2_with(at_builtin;go_loud(refine dB _ rfl _ _ rfl h.heap.size _ A rfl g E Yj H rfl V.out K (by omega) a.size ?_);intro Yl Ym d i;obtain⟨D,F,rfl,_⟩:=cU.ints d)
    go_roundw
    case rel=>exact⟨k+1,by omega,by go_num,by rw[f.out];simpa using d,a.trans i⟩
    case measure=>simp[intOf];omega
   ·have e:gh b (c[k]?.getD 0)=[c[k]?.getD 0]:=by unfold gh;rw[aE n]
    rw[e]at f;clear e u w;generalize c[k]?.getD 0=Yk at*;generalize bo b (c.take k)=A at*;have q:=qX wr [Yk] _ rfl;simp only[fF,gy]at q;have J:Below wr.heap.size wr (wr.alloc (.cells #[.int .i64 Yk] 3)):=(ah _ _).alloc (af _) _;have L:=cU.below g J;have s:=a.trans (J.mono a.size);go_wp2_with(at_builtin;go_loud(refine dB _ rfl _ _ rfl h.heap.size _ A rfl L (some ⟨wr.heap.size,0,none⟩) [Yk] 1 rfl (fun B=>by cases B) (by simpa using q) (by simp;omega) s.size ?_);intro Yl Ym d i;obtain⟨D,F,rfl,_⟩:=cU.ints d)
    go_roundw
    case rel=>exact⟨k+1,by omega,by go_num,by rw[f.out];simpa using d,s.trans i⟩
    case measure=>simp[intOf];omega
  ·obtain rfl:k=c.length:=by omega
   rw[cJ]at g;obtain⟨D,F,rfl,_⟩:=cU.ints g;go_wp2;go_ret;exact⟨_,rfl,g,a⟩
theorem Tryz.P7:(Tryz.prog.info? 68).map (fun a=>(a.zero,a.size,a.bytes))=some (some (.slice none 0 0),1,24):=by kernel_rfl
def il(base:Nat)(W:World)(v:Value)(ss:List (List Int)):Prop:=
 ∃us:List Value,W.ownsRow base 68 1 v ss.length us∧∀j,j<ss.length->∃u,us[j]?=some u∧cU base W u (ss[j]?.getD [])
theorem il.nil(base:Nat)(b:World):il base b (.slice none 0 0) []:=⟨[],gq _ _ _ _,fun c a=>by simp at a⟩
theorem cU.apart{base:Nat}(j:cU base e l d)(k:e.ownsRow base 68 1 C b B):l.ownBlock=none∨l.ownBlock≠C.ownBlock:=by
 rcases j.2 with⟨rfl,_⟩|⟨p,m,n,rfl,_,i,_⟩
 ·exact .inl rfl
 ·rcases k.2 with⟨rfl,_⟩|⟨h,c,f,rfl,_,a,_⟩
  ·exact .inr (by simp[Value.ownBlock])
  ·refine .inr fun o=>?_
   have g:p=h:=by simpa [Value.ownBlock]using o
   subst g;rw[i]at a;simp at a
theorem il.below{base:Nat}(j:il base e l g)(a:Below e.heap.size e r):il base r l g:=by
 obtain⟨i,b,c⟩:=j;refine⟨i,dM b (gI a) (by cases j:l.ownBlock with|none=>exact .inl rfl|some n=>exact .inr (by simp)),fun k f=>?_⟩;obtain⟨m,h,d⟩:=c k f;exact⟨m,h,d.below a⟩
theorem il.mono{base:Nat}(r:il base e l g)(f:b<=base):il b e l g:=by
 obtain⟨p,d,k⟩:=r;refine⟨p,⟨d.1,d.2.elim .inl (fun⟨q,a,c,h,i,j⟩=>.inr ⟨q,a,c,h,aK f i,j⟩)⟩,fun s n=>?_⟩;obtain⟨t,o,m⟩:=k s n;exact⟨t,o,m.mono f⟩
theorem il.qg{base:Nat}(A:il base e l g):∃h a,l=.slice h g.length a∧np e.heap.size e h g∧g.length<=a∧a<=maxLen∧(h=none->a=0):=by
 obtain⟨C,c,n⟩:=A;rcases c.2 with⟨rfl,r⟩|⟨z,a,w,rfl,B,q,k,m,x,y⟩
 ·exact⟨none,0,by rw[r],fun t f=>by omega,by omega,by omega,fun _=>rfl⟩
 ·refine⟨_,_,rfl,fun t f=>?_,k,m,fun b=>by cases b⟩
  obtain⟨D,s,d⟩:=n t f;have o:=dI c t (by omega);obtain⟨i,j,rfl,p,u,v⟩:=cU.ints d;refine⟨z,0,i,j,rfl,(ak.1 q).1,?_,p,u,v,fun b=>?_⟩
  ·rw[cI,o,s]
  ·subst b
   rcases d.2 with⟨b,_⟩|⟨_,_,_,b,_⟩
   ·simp only[iS]at b;exact b.2.2
   ·simp at b
theorem nf{rest:List Oper}(i:World)(p:E.guard=none)(N Q:Operand)
 (H:E.op=.call {callee:=.builtin .append,args:=#[N,Q],argTypes:=#[75,75]})(base:Nat)(P:Value)(a:List (List Int))(I:G.eval N=P)(C:il base i P a)
 (n:Value)(O:List Int)(z:Nat)(L:G.eval Q=.slice (some ⟨z,0,none⟩) 1 1)(B:i.cell? ⟨z,0,none⟩=some n)(r:cU base i n O)(F:a.length<=1000000)(c:base<=i.heap.size)
 (S:∀h w',il base w' h (a++[O])->Below base i w'->wpList Tryz.prog J K rest (G.put E.dst h) w'):wpList Tryz.prog J K (E::rest) G i:=by
 obtain⟨M,D,v,w,x⟩:=fh Tryz.P7;obtain⟨m,g,A⟩:=C;have t:m.length=a.length:=by have:=g.1;omega
 refine fN i p N Q 75 H base 68 M (.slice none 0 0) 1 24 Tryz.underlying75 D v w x rfl (by decide) P a.length m I g ⟨z,0,none⟩ 1 1 [n] L (by simp)
  (by intro y U e
      match y,e with
      |0,e=>simp at e;subst e;rw[cz];simpa using B)
  (by intro U u;simp at u;subst u;obtain⟨_,_,rfl,_⟩:=cU.ints r;rfl) (by unfold maxLen;omega) (by omega) c ?_
 intro h w' k o _;have d:∀(f:Value)(l:List Int),cU base i f l->cU base w' f l:=fun f l b=>dM b o (cU.apart b g)
 refine S h w' ⟨m++[n],by simpa using k,fun y e=>?_⟩ ((ah base i).grown o c (fun T R=>(bn g T R).1));by_cases j:y<a.length
 ·obtain⟨f,s,b⟩:=A y j
  refine⟨f,by rw[aV (by omega)];exact s,?_⟩;rw[aV j];exact d f _ b
 ·have q:y=a.length:=by simp at e;omega
  subst q;refine⟨n,by rw[aU (by omega),t];simp,?_⟩;rw[aU (by omega)];simpa using d n O r
theorem JC(a:b<g.length):g.take (b+1)=g.take b++[g[b]?.getD []]:=by
 rw[dz a];simp[a]
def gU(k:Nat):List (List Int):=(List.range k).map fun i:Nat=>[-1-(i:Int)]
theorem xO(a:Nat):gU (a+1)=gU a++[[-1-(a:Int)]]:=by simp[gU,List.range_succ]
theorem j5(a:Nat):(gU a).length=a:=by simp[gU]
theorem il.alloc{base:Nat}(a:il base e l g)(b:Obj):il base (e.alloc b) l g:=a.below ((ah _ _).alloc (af _) _)
theorem cU.alloc{base:Nat}(a:cU base e l d)(b:Obj):cU base (e.alloc b) l d:=a.below ((ah _ _).alloc (af _) _)
theorem l0(a:World)(d:Value)(e:TypeId)(c:Nat)(b:c=a.heap.size):(a.alloc (.cells #[d] e)).cell? ⟨c,0,none⟩=some d:=by
 subst b;rw[dp (aM a _)];rfl
theorem F8(c:World):Calls Tryz.prog 175 #[] c fun z q=>∃v,z=.returned v∧il c.heap.size q v (gU 8)∧Below c.heap.size c q:=by
 go_enter Tryz.func175,Tryz.ntmps175;go_wp2;go_loopw [1,3](fun v u wr=>∃a:Nat,a<=8∧u=.int .i64 (a:Int)∧il c.heap.size wr v (gU a)∧Below c.heap.size c wr)(fun _ u _=>8-(intOf u).toNat)
 case atStart=>exact⟨0,bf _,rfl,il.nil _ _,ah _ _⟩
 case round=>
  obtain⟨a,A,rfl,d,b⟩:=hrel;by_cases w:a<8
  ·have t:(a:Int)<8:=by omega
   have p:=hid (xO a);have l:=hid (j5 a);obtain⟨x,y,rfl,_⟩:=il.qg d;have i:=cU.lit c.heap.size wr [-1-(a:Int)] b.size (by unfold maxLen;simp);simp only[fF,gy,aI,bH,cI]at i;have n:Below c.heap.size c (((wr.alloc (.cells #[.int .i64 (-1-(a:Int))] 3)).alloc (.cells #[.slice (some ⟨wr.heap.size,0,none⟩) 1 1] 68))):=(b.alloc b.size _).alloc (by have:=b.size;simp;omega) _;have e:=(d.alloc (.cells #[.int .i64 (-1-(a:Int))] 3)).alloc (.cells #[.slice (some ⟨wr.heap.size,0,none⟩) 1 1] 68);have h:=i.alloc (.cells #[.slice (some ⟨wr.heap.size,0,none⟩) 1 1] 68);have g:=l0 (wr.alloc (.cells #[.int .i64 (-1-(a:Int))] 3)) (.slice (some ⟨wr.heap.size,0,none⟩) 1 1) 68 (wr.heap.size+1) (by simp);have j:=hid e;have m:=hid h;have k:=hid g;clear i e h g;go_wp2_with(at_builtin;go_loud(refine nf _ rfl _ _ rfl c.heap.size _ (gU a) rfl j.out (.slice (some ⟨wr.heap.size,0,none⟩) 1 1) [-1-(a:Int)] (wr.heap.size+1) rfl k.out m.out (by rw[l.out];omega) n.size ?_);intro B C f o;obtain⟨r,s,rfl,_⟩:=il.qg f)
   go_roundw
   case rel=>exact⟨a+1,by omega,by go_num,by rw[p.out];simpa using f,n.trans o⟩
   case measure=>simp[intOf];omega
  ·obtain rfl:a=8:=by omega
   obtain⟨r,s,rfl,_⟩:=il.qg d;go_wp2;go_ret;exact⟨_,rfl,d,b⟩
theorem ym(c:World):Calls Tryz.prog 156 #[] c fun w n=>∃v,w=.returned v∧il c.heap.size n v (gU 8)∧Below c.heap.size c n:=by
 go_enter Tryz.func156,Tryz.ntmps156;go_wp2;go_loopw [1,2](fun v r wr=>∃a:Nat,a<=8∧r=.int .i64 ((a:Int)+1)∧il c.heap.size wr v (gU a)∧Below c.heap.size c wr)(fun _ r _=>9-(intOf r).toNat)
 case atStart=>exact⟨0,bf _,rfl,il.nil _ _,ah _ _⟩
 case round=>
  obtain⟨a,x,rfl,d,b⟩:=hrel;by_cases s:a<8
  ·have q:(a:Int)+1<=8:=by omega
   have m:Hid (gU (a+1)=gU a++[[-((a:Int)+1)]]):=by
    show _=_;rw[xO,show(-1:Int)-(a:Int)= -((a:Int)+1)from by omega]
   have i:=hid (j5 a);obtain⟨t,u,rfl,_⟩:=il.qg d;have f:=cU.lit c.heap.size wr [-((a:Int)+1)] b.size (by unfold maxLen;simp);simp only[fF,gy,aI,bH,cI]at f;have k:Below c.heap.size c (((wr.alloc (.cells #[.int .i64 (-((a:Int)+1))] 3)).alloc (.cells #[.slice (some ⟨wr.heap.size,0,none⟩) 1 1] 68))):=(b.alloc b.size _).alloc (by have:=b.size;simp;omega) _;have g:=hid ((d.alloc (.cells #[.int .i64 (-((a:Int)+1))] 3)).alloc (.cells #[.slice (some ⟨wr.heap.size,0,none⟩) 1 1] 68));have j:=hid (f.alloc (.cells #[.slice (some ⟨wr.heap.size,0,none⟩) 1 1] 68));have h:=hid (l0 (wr.alloc (.cells #[.int .i64 (-((a:Int)+1))] 3)) (.slice (some ⟨wr.heap.size,0,none⟩) 1 1) 68 (wr.heap.size+1) (by simp));clear f;go_wp2_with(at_builtin;go_loud(refine nf _ rfl _ _ rfl c.heap.size _ (gU a) rfl g.out (.slice (some ⟨wr.heap.size,0,none⟩) 1 1) [-((a:Int)+1)] (wr.heap.size+1) rfl h.out j.out (by rw[i.out];omega) k.size ?_);intro y z e l;obtain⟨o,p,rfl,_⟩:=il.qg e)
   go_roundw
   case rel=>exact⟨a+1,by omega,by go_num,by rw[m.out];simpa using e,k.trans l⟩
   case measure=>simp[intOf];omega
  ·obtain rfl:a=8:=by omega
   obtain⟨o,p,rfl,_⟩:=il.qg d;go_wp2;go_ret;exact⟨_,rfl,d,b⟩
theorem il.set{base:Nat}{n:Nat}(t:il base e (.slice (some ⟨b,0,none⟩) n f) g)(v:n=g.length)(w:cU base e l d)(j:Nat):
 il base (e.setCell ⟨b,j,none⟩ l) (.slice (some ⟨b,0,none⟩) n f) (g.set j d):=by
 subst v;obtain⟨s,m,u⟩:=t;have r:s.length=g.length:=by have:=m.1;omega
 have c:∀(h:Value)(o:List Int),cU base e h o->cU base (e.setCell ⟨b,j,none⟩ l) h o:=fun h o a=>dM a (iz e b j l) (by
  have:=cU.apart a m
  simpa [Value.ownBlock]using this)
 refine⟨s.set j l,?_,fun i k=>?_⟩
 ·have:=World.ownsRow.stored m j l
  rw[oQ];exact this.1
 ·rw[oQ]at k
  by_cases x:i=j
  ·subst x
   refine⟨l,by simp[r,k],?_⟩;simpa [k]using c l d w
  ·obtain⟨h,q,a⟩:=u i k
   have p:¬j=i:=fun t=>x t.symm
   refine⟨h,by rw[List.getElem?_set_ne p];exact q,?_⟩;rw[List.getElem?_set_ne p];exact c h _ a
def Le(us:List (List Int))(t:List Int):Bool:=decide ((bo us t).length<=30)
def xp(ss us:List (List Int)):List (List Int):=ss.map (bo us)
def tn(ss us:List (List Int)):Int:=if e7 ss=0 then(if e7 us=0 then(if ss.all (Le us)=true then 0 else 2)else e7 us)else e7 ss
def Ar(ss us:List (List Int)):List (List Int):=if tn ss us=0 then xp ss us else []
def me(seen:List Int)(s:Int):Nat:=seen.findIdx (fun x=>x==s)
def jh(seen:List Int)(s:Int):List Int:=if s<0 then(if seen.contains s=true then seen else seen++[s])else seen
def jM(seen:List Int)(s:Int):Int:=if s<0 then-1-(me seen s:Int)else s
def db(seen:List Int)(l:List Int):List Int:=l.foldl jh seen
def gB(seen:List Int)(t:List Int)(k:Nat):List Int:=(List.range k).map fun i:Nat=>jM (db seen (t.take i)) (t[i]?.getD 0)
theorem ri(seen b:List Int)(a:Nat):gB seen b (a+1)=gB seen b a++[jM (db seen (b.take a)) (b[a]?.getD 0)]:=by simp[gB,List.range_succ]
theorem fk(seen b:List Int)(a:Nat):(gB seen b a).length=a:=by simp[gB]
theorem vm(seen:List Int)(a:b<d.length):db seen (d.take (b+1))=jh (db seen (d.take b)) (d[b]?.getD 0):=by
 rw[qv a];simp[db,List.foldl_append]
theorem yi{seen:List Int}(b:seen.contains y=false):me seen y=seen.length:=by
 unfold me;rw[List.findIdx_eq_length];intro c a;have:¬y∈seen:=by simpa using b
 simp only[aW];rintro rfl;exact this a
theorem Ca{seen:List Int}(a:seen.contains y=true)(b:List Int):me (seen++b) y=me seen y:=by
 unfold me;rw[rB,aD];rw[mT];exact⟨y,by simpa using a,by simp⟩
theorem Ke(seen:List Int)(a:Int):(jh seen a).length<=seen.length+1:=by
 unfold jh;split
 ·split
  ·omega
  ·simp
 ·omega
theorem wC(c:List Int):∀seen:List Int,(db seen c).length<=seen.length+c.length:=by
 induction c with
 |nil=>intro seen;simp[db]
 |cons d f b=>
  intro seen;have a:=b (jh seen d);have e:=Ke seen d;simp only[db,List.foldl_cons,aI]at a⊢;omega
structure Ci(seen:List Int)(D:DataW Unit):Prop where
 has:∀s:Int,Maps.has D (.int .i64 s)=seen.contains s
 at_:∀s:Int,seen.contains s=true->D.atKey (.int .i64 s) (.lit (.int .i64 0))=.lit (.int .i64 (-1-(me seen s:Int)))
 size:Maps.size D=seen.length
theorem Ci.empty:Ci [] (.map []):=⟨fun _=>rfl,fun b a=>by simp at a,rfl⟩
theorem Ci.put{seen:List Int}(h:Ci seen H)(d:Tidy H)(g:seen.contains y=false):
 Ci (seen++[y]) (H.put (.int .i64 y) (.lit (.int .i64 (-1-(seen.length:Int))))):=by
 have e:WideAt.IsKeyLit (.int .i64 y):=trivial;have i:Maps.has H (.int .i64 y)=false:=by rw[h.has,g]
 have f:¬y∈seen:=by simpa using g
 refine⟨fun c=>?_,fun c j=>?_,?_⟩
 ·by_cases a:c=y
  ·subst a
   rw[has_put_same d.isMap e];simp
  ·rw[has_put_other (by simp[a]),h.has]
   simp[a]
 ·by_cases a:c=y
  ·subst a
   rw[atKey_put_same d.isMap e];have:me (seen++[c]) c=seen.length:=by
    unfold me;rw[rB,aE]
    ·simp
    ·rw[mT]
     rintro⟨l,k,a⟩;have:l=c:=by simpa using a
     subst this;exact f k
   rw[this]
  ·rw[atKey_put_other (by simp[a])]
   have b:seen.contains c=true:=by simpa [a]using j
   rw[Ca b];exact h.at_ c b
 ·rw[size_put d,i,h.size]
  simp
def mP(W:World)(Bf Bm:Nat)(seen:List Int):Prop:=
 W.cell? ⟨Bf,0,none⟩=some (.map (some Bm))∧∃D:DataW Unit,W.ownsMap Tryz.prog 3 (plainElem Tryz.prog 3) Bm seen.length D∧Ci seen D
theorem mP.eV{W':World}{seen:List Int}(m:mP e b f seen)(g:W'.heap[b]?=e.heap[b]?)(h:W'.heap[f]?=e.heap[f]?):mP W' b f seen:=by
 obtain⟨k,l,⟨d,c,j,n⟩,i⟩:=m;exact⟨(aH (a:=⟨b,0,none⟩) g).trans k,l,⟨d,c,h.trans j,n⟩,i⟩
theorem mP.map{seen:List Int}(g:mP e f b seen):∃c a,e.heap[b]?=some (.map c a):=by
 obtain⟨_,h,⟨c,a,d,_⟩,_⟩:=g;exact⟨c,a,d⟩
theorem mP.lt{seen:List Int}(d:mP e b f seen):b<e.heap.size∧f<e.heap.size:=by
 obtain⟨g,a,c⟩:=d.map;exact⟨fx d.1,(ak.1 c).1⟩
theorem rj(a:e.cell? ⟨b,u,none⟩=some l)(c:e.heap[f]?=some (.map N z)):b≠f:=by
 rintro rfl;simp[World.cell?,c]at a
structure eZ(n m:Nat)(w w':World):Prop where
 os:w'.os=w.os
 tape:w'.tape=w.tape
 output:w'.output=w.output
 size:w.heap.size<=w'.heap.size
 block:∀k,k<n->k≠m->w'.heap[k]?=w.heap[k]?
theorem eZ.refl(c b:Nat)(a:World):eZ c b a a:=⟨rfl,rfl,rfl,af _,fun _ _ _=>rfl⟩
theorem eZ.trans(a:eZ b f e r)(g:eZ b f r L):eZ b f e L:=
 ⟨g.os.trans a.os,g.tape.trans a.tape,g.output.trans a.output,aK a.size g.size,fun h c d=>(g.block h c d).trans (a.block h c d)⟩
theorem eZ.kd(a:Below b e r):eZ b f e r:=⟨a.os,a.tape,a.output,a.size,fun d c _=>a.block d c⟩
theorem eZ.oz(a:e.grownBy r (some f))(g:b<=e.heap.size):eZ b f e r:=
 ⟨a.os,a.tape,a.output,a.size,fun h d c=>a.block h (by omega) (by simpa using c)⟩
theorem eZ.mono(a:eZ b u e r)(g:f<=b):eZ f u e r:=⟨a.os,a.tape,a.output,a.size,fun h d c=>a.block h (by omega) c⟩
theorem eZ.below(a:eZ b f e r)(d:b<=f):Below b e r:=⟨a.os,a.tape,a.output,a.size,fun g c=>a.block g c (by omega)⟩
theorem tL:Keyed Tryz.prog 3:=int_keyed Tryz.underlying3
theorem rK(a:World):(zeroValue 3).run Tryz.prog a=.ok (.int .i64 0) a:=by kernel_rfl
theorem Pj{s:Int}(a: -1000<=s)(b:s<=1000):(Lit.int .i64 s).wf=true:=by
 simp[Lit.wf,IntKind.min,IntKind.max,IntKind.signed,IntKind.bits];omega
theorem Ko(seen:List Int)(s:Int)(g h:Nat)(x:World)(T: -8<=s)(S:s<6)(U:seen.length<=500)(hF:mP x g h seen):
 Calls Tryz.prog 206 #[.int .i64 s,.pointer (some ⟨g,0,none⟩)] x fun Q t=>∃K,Q=.returned (.slice (some K) 1 1)∧cZ t.heap.size t (some K) [jM seen s]∧mP t g h (jh seen s)∧x.grownBy t (some h):=by
 by_cases m:s<0
 ·have k:=keyOf_int_mk Tryz.underlying3 (Pj (s:=s) (by omega) (by omega))
  obtain⟨q,z,c,j⟩:=hF;have l:=j.has s;cases d:seen.contains s with
  |true=>
   rw[d]at l;have o:=j.at_ s d;have e:jM seen s= -1-(me seen s:Int):=by unfold jM;rw[aD m]
   have f:jh seen s=seen:=by unfold jh;rw[aD m,aD d]
   rw[f];have n:=hid e;have A:=hid o;have i:Hid (mP x g h seen):=⟨q,z,c,j⟩;have w:=hid l;clear e o f l d j;go_enter Tryz.func206,Tryz.ntmps206;go_wp2_with(first
    |(at_lookup;go_loud(refine tM _ rfl _ _ 241 rfl 3 3 .i64 tL Tryz.underlying241 Tryz.underlying3 (rK _) h seen.length z rfl c _ _ rfl k ?_);intro L u E;rw[w.out];obtain rfl: -1-(me seen s:Int)=L:=(by have:=A.out.symm.trans u;simpa using this)))
   go_ret;have p:=qX x [jM seen s] _ rfl;simp only[fF,gy]at p;rw[n.out]at p⊢;exact⟨_,rfl,by simpa using p,i.out.eV (cM _ _ _ i.out.lt.1) (cM _ _ _ i.out.lt.2),jl _ _ _⟩
  |false=>
   rw[d]at l;have e:jM seen s= -1-(seen.length:Int):=by unfold jM;rw[aD m,yi d]
   have f:jh seen s=seen++[s]:=by unfold jh;rw[aD m,aE (by rw[d];decide)]
   rw[f];have n:=hid e;have w:=hid l;have C:=hid j.size;have G:=hid (j.put (c.tidy tL) d);have N:(seen.length:Int)<=500:=by omega
   have M:=c.lt;have D:g<x.heap.size:=fx q;have v:g≠h:=by
    obtain⟨R,F,H,_⟩:=c;exact rj q H
   have B:=hid v;clear e f l d j v;go_enter Tryz.func206,Tryz.ntmps206;go_wp2_with(first
    |(at_lookup;go_loud(refine tM _ rfl _ _ 241 rfl 3 3 .i64 tL Tryz.underlying241 Tryz.underlying3 (rK _) h seen.length z rfl c _ _ rfl k ?_);intro L u E;rw[w.out])
    |(at_len;go_loud(refine wpList_len_own _ rfl _ 241 rfl 3 3 Tryz.underlying241 _ h seen.length z rfl c ?_);rw[C.out])
    |(at_mapUpdate;go_loud(refine wpList_mapUpdate_own _ rfl _ _ _ 241 rfl 3 3 tL Tryz.underlying241 _ h seen.length z rfl c (by unfold maxLen;omega) _ (.int .i64 (-1-(seen.length:Int))) _ rfl rfl k (.lit (.int .i64 (-1-(seen.length:Int)))) [] (plainElem_int Tryz.underlying3 (Pj (by omega) (by omega))) ?_);intro y r b))
   go_ret;have p:=qX y [jM seen s] _ rfl;simp only[fF,gy]at p;rw[n.out]at p⊢;have O:=b.size;refine⟨_,rfl,by simpa using p,⟨?_,_,?_,G.out⟩,?_⟩
   ·rw[aH (a:=⟨g,0,none⟩) (cM y _ g (by omega)),aH (a:=⟨g,0,none⟩) (b.block g D (by simpa using B.out))]
    exact q
   ·rw[ai]
    exact World.ownsMap.alloc r _
   ·exact⟨b.os,b.tape,b.output,by simp;omega,fun P I J=>(cM y _ P (by omega)).trans (b.block P I J)⟩
 ·have e:jM seen s=s:=by unfold jM;rw[aE m]
  have f:jh seen s=seen:=by unfold jh;rw[aE m]
  rw[f,e];have i:=hid hF;clear e f hF;go_enter Tryz.func206,Tryz.ntmps206;go_wp2;go_ret;have p:=qX x [s] _ rfl;simp only[fF,gy]at p;exact⟨_,rfl,by simpa using p,i.out.eV (cM _ _ _ i.out.lt.1) (cM _ _ _ i.out.lt.2),jl _ _ _⟩
theorem xM(seen:List Int)(b:List Int)(n:Option Addr)(W f d:Nat)(g:World)(Yk:b.length<=100)(Yj:seen.length<=200)(C:∀k,k<b.length-> -8<=b[k]?.getD 0)(B:∀k,k<b.length->b[k]?.getD 0<6)
 (hF:mP g f d seen)(G:cZ g.heap.size g n b):
 Calls Tryz.prog 204 #[.slice n b.length W,.func (.func 206) #[] #[.pointer (some ⟨f,0,none⟩)]] g fun M x=>
  ∃v,M=.returned v∧cU g.heap.size x v (gB seen b b.length)∧mP x f d (db seen b)∧eZ g.heap.size d g x:=by
 have Y:(b.length:Int)<=100:=by omega
 obtain⟨I,J⟩:=hF.lt;obtain⟨Yg,L,j⟩:=hF.map;have Q:=hid hF;have R:=hid G;have P:=hid C;have O:=hid B;have t:=hid j;clear hF G C B j;go_enter Tryz.func204,Tryz.ntmps204;go_wp2;go_loopw [5,10](fun v Yc wr=>∃k:Nat,k<=b.length∧Yc=.int .i64 (k:Int)∧cU g.heap.size wr v (gB seen b k)∧mP wr f d (db seen (b.take k))∧eZ g.heap.size d g wr)(fun _ Yc _=>b.length-(intOf Yc).toNat)
 case atStart=>exact⟨0,bf _,rfl,cU.nil _ _,Q.out,eZ.refl _ _ _⟩
 case round=>
  obtain⟨k,Yi,rfl,i,e,l⟩:=hrel;by_cases c:k<b.length
  ·have Z:(k:Int)<(b.length:Int):=by omega
   obtain⟨T,s,rfl,X,u⟩:=R.out.at (by omega);have Yf:wr.cell? ⟨T,s+k,none⟩=some (.int .i64 (b[k]?.getD 0)):=(aH (a:=⟨T,s+k,none⟩) (l.block T X (rj (u k c) t.out))).trans (u k c);have r:=wC (b.take k) seen;rw[cX]at r;have H:=Ko (db seen (b.take k)) (b[k]?.getD 0) f d wr (P.out k c) (O.out k c) (by omega) e;have K:=hid (ri seen b k);have w:=hid (vm seen c);have y:=hid (fk seen b k);clear u r e;generalize jM (db seen (b.take k)) (b[k]?.getD 0)=Yd at*;generalize jh (db seen (b.take k)) (b[k]?.getD 0)=N at*;generalize b[k]?.getD 0=Yo at*;generalize gB seen b k=m at*;obtain⟨z,A,rfl,_⟩:=cU.ints i;go_wp2_with(first
    |(go_at_call 206;refine H.mono ?_;clear H;rintro M Ye⟨U,rfl,E,D,q⟩;have F:cU g.heap.size Ye (.slice z m.length A) m:=dM i q (by cases Yh:(Value.slice z m.length A).ownBlock with|none=>exact .inl rfl|some Yl=>exact .inr (by have:=(bn i Yl Yh).1;simp;omega));have o:=l.trans (eZ.oz q l.size))
    |(at_builtin;go_loud(refine dB _ rfl _ _ rfl g.heap.size _ m rfl F (some U) [Yd] 1 rfl (fun M=>by cases M) E (by simp[y.out];omega) o.size ?_);intro Ym Yn p h;obtain⟨S,V,rfl,_⟩:=cU.ints p))
   go_roundw
   case rel=>exact⟨k+1,by omega,by go_num,by rw[K.out];simpa using p,by rw[w.out];exact D.eV (h.block f I) (h.block d J),o.trans (eZ.kd h)⟩
   case measure=>simp[intOf];omega
  ·obtain rfl:k=b.length:=by omega
   rw[cJ]at e;obtain⟨S,V,rfl,_⟩:=cU.ints i;go_wp2;go_ret;exact⟨_,rfl,i,e,l⟩
section
def l6(v:Value):Option (DataW Value×List MemPlace):=some (.held v,[])
def gM(W:World)(b n:Nat)(m:Int->Option Value):Prop:=
 ∃D:DataW Value,W.ownsMap Tryz.prog 3 l6 b n D∧(∀k:Int,Maps.has D (.int .i64 k)=(m k).isSome)∧∀(k:Int)(v:Value),m k=some v->∀z,D.atKey (.int .i64 k) z=.held v
def upd{α:Type}(m:Int->Option α)(s:Int)(v:α):Int->Option α:=fun x=>if x=s then some v else m x
theorem nC{c:Type}(d:Int->Option c)(a:Int)(b:c):upd d a b a=some b:=by simp[upd]
theorem my{d:Type}(b:Int->Option d){c a:Int}(f:d)(e:a≠c):upd b c f a=b a:=by simp[upd,e]
theorem gM.made(w:World):gM (w.alloc (.map #[] 0)) w.heap.size 0 (fun _=>none):=
 ⟨_,sG w _ _ _,fun _=>rfl,fun _ _ a=>by cases a⟩
theorem gM.lt{b:World}{c f:Nat}{e:Int->Option Value}(d:gM b c f e):c<b.heap.size:=by
 obtain⟨g,a,_⟩:=d;exact a.lt
theorem gM.eV{g W':World}{c i:Nat}{h:Int->Option Value}(k:gM g c i h)(e:W'.heap[c]?=g.heap[c]?):gM W' c i h:=by
 obtain⟨j,⟨d,a,b,l⟩,f⟩:=k;exact⟨j,⟨d,a,e.trans b,l⟩,f⟩
theorem gM.mono{d:World}{e g a:Nat}{f:Int->Option Value}(i:gM d e g f)(c:g<=a):gM d e a f:=by
 obtain⟨h,b,j⟩:=i;exact⟨h,b.mono c,j⟩
theorem gM.map{d:World}{e h:Nat}{g:Int->Option Value}(f:gM d e h g):∃b a,d.heap[e]?=some (.map b a):=by
 obtain⟨j,⟨b,a,c,k⟩,i⟩:=f;exact⟨b,a,c⟩
theorem CP{a:DataW Value}{e:Lit}(c:IsMap a)(f:Maps.has a e=false)(g:DataW Value):a.atKey e g=g:=by
 cases a with
 |map b=>
  simp only[Maps.has,kD]at f;simp only[DataW.atKey];have:b.find? (fun h=>h.1.sameKey e)=none:=by
   rw[kn];intro i d;simpa using f i d
  simp[this]
 |_=>simp[IsMap]at c
theorem gM.look{w:World}{p v:Nat}{j:Int->Option Value}(u:gM w p v j){r s:TypeId}(m:Tryz.prog.underlying r=some (.map 3 s)){i:Value}(o:(zeroValue s).run Tryz.prog w=.ok i w){a:Int}(n:(Lit.int .i64 a).wf=true):
 (Instr.lookup r (.map (some p)) (.int .i64 a) true).run Tryz.prog w=.ok (.tuple #[(j a).getD i,.bool (j a).isSome]) w∧(Instr.lookup r (.map (some p)) (.int .i64 a) false).run Tryz.prog w=.ok ((j a).getD i) w:=by
 obtain⟨t,f,k,q⟩:=u;have e:=keyOf_int_mk Tryz.underlying3 n;have c:∀h,l6 h=some (t.atKey (.int .i64 a) (.held i),[])->h=(j a).getD i:=fun h c=>by
  unfold l6 at c;simp only[dx,tN,oH]at c;cases l:j a with
  |none=>
   rw[CP (f.tidy tL).isMap (by rw[k,l];rfl)]at c;simpa using c
  |some x=>
   rw[q a x l]at c;simpa using c
 constructor
 ·obtain⟨h,g,d,b⟩:=f.look_ok tL m o (R:=l6) (zd:=.held i) (zp:=[]) rfl e
  have:g=[]:=by unfold l6 at b;simp at b;exact b.2
  subst this;rw[d,c h b,k]
 ·obtain⟨h,g,d,b⟩:=f.lookup tL m o (R:=l6) (zd:=.held i) (zp:=[]) rfl e
  have:g=[]:=by unfold l6 at b;simp at b;exact b.2
  subst this;rw[d,c h b]
theorem gM.set{w:World}{j n:Nat}{s:Int->Option Value}(u:gM w j n s){t b:TypeId}(r:Tryz.prog.underlying t=some (.map 3 b))(q:n<maxLen){a:Int}(i:(Lit.int .i64 a).wf=true)(v:Value):
 ∃w',(Instr.mapUpdate t (.map (some j)) (.int .i64 a) v).run Tryz.prog w=.ok () w'∧gM w' j (n+1) (upd s a v)∧w.grownBy w' (some j):=by
 obtain⟨z,e,p,o⟩:=u;have f:=keyOf_int_mk Tryz.underlying3 i;obtain⟨w',g,l,m⟩:=e.update (R:=l6) tL r q f (val:=v) (d:=.held v) (ps:=[]) rfl;have h:WideAt.IsKeyLit (.int .i64 a):=trivial;refine⟨w',g,⟨_,l,fun k=>?_,fun k x c y=>?_⟩,m⟩
 ·by_cases b:k=a
  ·subst b;rw[has_put_same (e.tidy tL).isMap h,nC];rfl
  ·rw[has_put_other (by simp[b]),my _ _ b,p]
 ·by_cases b:k=a
  ·subst b;rw[nC]at c;cases c;exact atKey_put_same (e.tidy tL).isMap h _ _
  ·rw[my _ _ b]at c;rw[atKey_put_other (by simp[b])];exact o k x c y
section
variable(w:World){ops:Array Oper}{rest:List Oper}{o:Oper}{a:Act}{Q:Exit->Act->World->Prop}
theorem vY(i:o.guard=none)(s v:Operand)(t:TypeId)(e:o.op=Op.lookup t s v true)(r:TypeId)(k:Tryz.prog.underlying t=some (.map 3 r)){z:Value}(n:(zeroValue r).run Tryz.prog w=.ok z w)(q y:Nat)(p:Int->Option Value)
 (j:a.eval s=.map (some q))(g:gM w q y p)(c:Int)(m:a.eval v=.int .i64 c)(f:(Lit.int .i64 c).wf=true)(u:Value)(l:p c=some u)
 (h:wpList Tryz.prog ops Q rest (a.put o.dst (.tuple #[u,.bool true])) w):wpList Tryz.prog ops Q (o::rest) a w:=by
 refine pZ i fun x d=>?_
 have b:=(g.look k n f).1;rw[l]at b;unfold Oper.wp;simp[execOp,e,j,m,b,Result.andThen];exact d _ _ h
theorem yH(i:o.guard=none)(s u:Operand)(t:TypeId)(e:o.op=Op.lookup t s u true)(r:TypeId)(k:Tryz.prog.underlying t=some (.map 3 r)){v:Value}(n:(zeroValue r).run Tryz.prog w=.ok v w)(q y:Nat)(p:Int->Option Value)
 (j:a.eval s=.map (some q))(g:gM w q y p)(c:Int)(m:a.eval u=.int .i64 c)(f:(Lit.int .i64 c).wf=true)(l:p c=none)
 (h:wpList Tryz.prog ops Q rest (a.put o.dst (.tuple #[v,.bool false])) w):wpList Tryz.prog ops Q (o::rest) a w:=by
 refine pZ i fun x d=>?_
 have b:=(g.look k n f).1;rw[l]at b;unfold Oper.wp;simp[execOp,e,j,m,b,Result.andThen];exact d _ _ h
theorem oX(l:o.guard=none)(v z y:Operand)(x:TypeId)(e:o.op=Op.mapUpdate x v z y)(B:TypeId)(p:Tryz.prog.underlying x=some (.map 3 B))(g s:Nat)(u:Int->Option Value)
 (m:a.eval v=.map (some g))(j:gM w g s u)(n:s<maxLen)(b:Int)(r:a.eval z=.int .i64 b)(f:(Lit.int .i64 b).wf=true)(t:Value)(q:a.eval y=t)
 (k:∀w',gM w' g (s+1) (upd u b t)->w.grownBy w' (some g)->wpList Tryz.prog ops Q rest (a.put o.dst undef) w'):wpList Tryz.prog ops Q (o::rest) a w:=by
 refine pZ l fun A d=>?_
 obtain⟨w',c,h,i⟩:=j.set p n f t;unfold Oper.wp;simp[execOp,e,m,r,q,c,Result.andThen];exact d _ _ (k w' h i)
end
section
variable{F:Fence}{nF:Nat}(w:World){ops:Array Oper}{rest:List Oper}{o:Oper}{a:Act}{Q:Exit->Act->World->Prop}
theorem Br(j:o.guard=none)(t x:Operand)(u:TypeId)(b:o.op=Op.lookup u t x false)(s:TypeId)(l:Tryz.prog.underlying u=some (.map 3 s)){y:Value}(p:(zeroValue s).run Tryz.prog w=.ok y w)(r A:Nat)(q:Int->Option Value)
 (k:a.eval t=.map (some r))(h:gM w r A q)(d:Int)(n:a.eval x=.int .i64 d)(g:(Lit.int .i64 d).wf=true)(v:Value)(m:(q d).getD y=v)
 (i:wpListIn F nF Tryz.prog ops Q rest (a.put o.dst v) w):wpListIn F nF Tryz.prog ops Q (o::rest) a w:=by
 refine xg j fun z e=>?_
 have c:=(h.look l p g).2;rw[m]at c;unfold Oper.wpIn;refine⟨by simp[Oper.about,b],?_⟩;rw[od F _ _ (by rw[b];intro B f;cases f)];simp[execOp,b,k,n,c,Result.andThen];exact e _ _ i
theorem Bx(m:o.guard=none)(x A z:Operand)(y:TypeId)(b:o.op=Op.mapUpdate y x A z)(C:TypeId)(q:Tryz.prog.underlying y=some (.map 3 C))(h t:Nat)(v:Int->Option Value)
 (n:a.eval x=.map (some h))(k:gM w h t v)(p:t<maxLen)(c:Int)(s:a.eval A=.int .i64 c)(g:(Lit.int .i64 c).wf=true)(u:Value)(r:a.eval z=u)
 (l:∀w',gM w' h (t+1) (upd v c u)->w.grownBy w' (some h)->wpListIn F nF Tryz.prog ops Q rest (a.put o.dst undef) w'):wpListIn F nF Tryz.prog ops Q (o::rest) a w:=by
 refine xg m fun B e=>?_
 obtain⟨w',d,i,j⟩:=k.set q p g u;unfold Oper.wpIn;refine⟨by simp[Oper.about,b],?_⟩;rw[od F _ _ (by rw[b];intro D f;cases f)];simp[execOp,b,n,s,r,d,Result.andThen];exact e _ _ (l w' i j)
end
end
theorem mh(a:List Int):∀(d:List Int)(n:Nat),Tm.run a n<=a.length->Tm.run (a++d) n=Tm.run a n:=by
 induction a with
 |nil=>intro d n b;rw[Tm.oM]at b;have:n=0:=by simpa using b
       subst this;simp[Tm.gu]
 |cons e a c=>
  intro d n b;cases n with
  |zero=>simp[Tm.gu]
  |succ n=>
   rw[bc,Tm.fT,Tm.fT,c];rw[Tm.fT,aI]at b;omega
theorem AR(a:List Int):∀(n:Nat),Tm.run a n<=a.length->Tm.run (a.take (Tm.run a n)) n=Tm.run a n:=by
 induction a with
 |nil=>intro n b;simp[Tm.oM]
 |cons d a c=>
  intro n b;cases n with
  |zero=>simp[Tm.gu]
  |succ n=>
   rw[Tm.fT]at b⊢;rw[aI]at b;rw[show 1+Tm.run a (n+Tm.room d)=Tm.run a (n+Tm.room d)+1 from by omega,List.take_succ_cons,Tm.fT,c _ (by omega)];omega
theorem Gw(a:List Int):∀(c:List Int)(n:Nat),a.length<Tm.run (a++c) n->∃m,∀x,Tm.run (a++x) n=a.length+Tm.run x (m+1):=by
 induction a with
 |nil=>
  intro c n b;cases n with
  |zero=>simp[Tm.gu]at b
  |succ n=>exact⟨n,fun x=>by simp⟩
 |cons f a e=>
  intro c n b;cases n with
  |zero=>simp[Tm.gu]at b
  |succ n=>
   rw[bc,Tm.fT,aI]at b;obtain⟨m,d⟩:=e c (n+Tm.room f) (by omega);refine⟨m,fun x=>?_⟩;rw[bc,Tm.fT,d,aI];omega
theorem Tm.split(a:List Int)(b:Nat):a=a.take b++(cD a b++a.drop (Tm.dn a b)):=by
 have d:=Tm.im a b;have c:a.drop (Tm.dn a b)=(a.drop b).drop (Tm.dn a b-b):=by rw[kt];congr 1;omega
 rw[c,cD,fM,fM]
theorem AU(a:Tm.err d=0)(c:b<d.length):Tm.run (cD d b) 1=(cD d b).length:=by
 rw[fZ a c];have f:=gL a c;have e:Tm.dn d b-b=Tm.run (d.drop b) 1:=by unfold Tm.dn;omega
 unfold cD;rw[e,AR];rw[cH];omega
theorem GB(a:Tm.err d=0)(e:Nat):(cD d e).all Tm.known=true:=by
 have c:=fw a;rw[dD]at c⊢;intro f b;exact c f (jG (nJ b))
theorem fD(a:Tm.err d=0)(c:b<d.length):Tm.err (cD d b)=0:=by
 refine nQ ?_ (GB a b) (AU a c);rw[fZ a c];have:=gL a c
 have:=cK a
 omega
theorem Lw(a b:List Int)(c:Nat):eI a c b=a.take c++(b++a.drop (Tm.dn a c)):=by unfold eI;rw[dE]
theorem Ki(c:Tm.err d=0)(o:Tm.run h 1=h.length)(m:b<d.length):Tm.run (eI d b h) 1=(eI d b h).length:=by
 have f:=Tm.split d b;have a:=fS c;have n:=AU c m;have q:(d.take b).length=b:=by rw[cX];omega
 generalize l:cD d b=p at*;rw[Lw];generalize j:d.take b=r at*;generalize k:d.drop (Tm.dn d b)=i at*;clear l j k;rw[f]at a;obtain⟨g,e⟩:=Gw r (p++i) 1 (by rw[a];rw[<-f];omega);rw[e,show g+1=1+g from by omega,Tm.rF,mh p i 1 (by omega),n,lu]at a;rw[e,show g+1=1+g from by omega,Tm.rF,mh h i 1 (by omega),o,lu];simp only[ai]at a⊢;omega
theorem Jm(e:Tm.err d=0)(b:h.all Tm.known=true)(g:Nat):(eI d g h).all Tm.known=true:=by
 have c:=fw e;rw[dD]at c b⊢;intro f a;unfold eI at a;rw[dZ,dZ]at a;rcases a with(a|a)|a
 ·exact c f (nJ a)
 ·exact b f a
 ·exact c f (jG a)
theorem Co(a:Tm.err d=0)(c:Tm.err h=0)(e:b<d.length)(f:(eI d b h).length<=30):Tm.err (eI d b h)=0:=
 nQ f (Jm a (fw c) b) (Ki a (fS c) e)
abbrev uC:=Int->Option (List Int)
variable {A:uC}
def eD(t:List Int):List Int->Nat->uC->Option uC
 |[],_,m=>some m
 |s::p,k,m=>if s<0 then(if(m s).isSome=true∧m s≠some (cD t k)then none else eD t p (Tm.dn t k) (upd m s (cD t k)))else if t[k]?.getD 0=s then eD t p (k+1) m else none
def Tm.fit(p t:List Int):Option uC:=eD t p 0 (fun _=>none)
theorem mO(c:List Int)(b:Nat)(a:uC):eD c [] b a=some a:=rfl
theorem EG{t:List Int}{k:Nat}{m:uC}(a:b<d.length)(e:d[b]?.getD 0<0)(c:m (d[b]?.getD 0)=none):eD t (d.drop b) k m=eD t (d.drop (b+1)) (Tm.dn t k) (upd m (d[b]?.getD 0) (cD t k)):=by
 rw[bZ a,eD];simp only[a,an,dy]at e c⊢;rw[aD e,c,aE (by simp)]
theorem Fa{t:List Int}{k:Nat}{m:uC}(a:b<d.length)(e:d[b]?.getD 0<0)(c:m (d[b]?.getD 0)=some (cD t k)):eD t (d.drop b) k m=eD t (d.drop (b+1)) (Tm.dn t k) (upd m (d[b]?.getD 0) (cD t k)):=by
 rw[bZ a,eD];simp only[a,an,dy]at e c⊢;rw[aD e,aE (by simp[c])]
theorem BQ{t:List Int}{k:Nat}{m:uC}{zs:List Int}(a:b<d.length)(f:d[b]?.getD 0<0)(c:m (d[b]?.getD 0)=some zs)(e:zs≠cD t k):eD t (d.drop b) k m=none:=by
 rw[bZ a,eD];simp only[a,an,dy]at f c⊢;rw[aD f,aD (by simp[c,e])]
theorem EK{t:List Int}{k:Nat}{m:uC}(c:b<d.length)(e:¬d[b]?.getD 0<0)(a:t[k]?.getD 0=d[b]?.getD 0):eD t (d.drop b) k m=eD t (d.drop (b+1)) (k+1) m:=by
 rw[bZ c,eD];simp only[c,an,dy]at e a⊢;rw[aE e,aD a]
theorem Cm{t:List Int}{k:Nat}{m:uC}(c:b<d.length)(e:¬d[b]?.getD 0<0)(a:t[k]?.getD 0≠d[b]?.getD 0):eD t (d.drop b) k m=none:=by
 rw[bZ c,eD];simp only[c,an,dy]at e a⊢;rw[aE e,aE a]
def ko(p t:List Int)(i k:Nat):Prop:=∃o,Tm.run (p.drop i) o=p.length-i∧Tm.run (t.drop k) o=t.length-k∧i<=p.length∧k<=t.length
theorem ko.start(a:Tm.err d=0)(b:Tm.err h=0):ko d h 0 0:=⟨1,by simpa using fS a,by simpa using fS b,by omega,by omega⟩
theorem ko.pos(e:ko h d f b)(k:f<h.length):b<d.length:=by
 obtain⟨c,a,g,i,j⟩:=e;have l:c≠0:=by rintro rfl;rw[Tm.gu]at a;omega
 have:=Tm.Ef (d.drop b) c
 omega
theorem tg(a:y<0):Tm.room y=0:=by unfold Tm.room;rw[aE (by omega),aE (by omega)]
theorem ko.var(l:ko h d f b)(i:f<h.length)(j:h[f]?.getD 0<0):ko h d (f+1) (Tm.dn d b):=by
 have o:=l.pos i;obtain⟨c,e,g,m,n⟩:=l;have p:c≠0:=by rintro rfl;rw[Tm.gu]at e;omega
 obtain⟨c,rfl⟩:∃k,c=k+1:=⟨c-1,by omega⟩;rw[tt i,tg j]at e;rw[kT c 1,Tm.rF]at g;have a:Tm.dn d b<=d.length:=by
  rw[show Tm.dn d b=b+Tm.run (d.drop b) 1 from rfl];omega
 refine⟨c,by simpa using(by omega:Tm.run (h.drop (f+1)) (c+0)=h.length-(f+1)),?_,by omega,a⟩;rw[kt]at g;rw[show Tm.dn d b=b+Tm.run (d.drop b) 1 from rfl]at a⊢;omega
theorem ko.sym(k:ko d h b f)(c:b<d.length)(g:h[f]?.getD 0=d[b]?.getD 0):ko d h (b+1) (f+1):=by
 have i:=k.pos c;obtain⟨e,a,h2,l,m⟩:=k;have n:e≠0:=by rintro rfl;rw[Tm.gu]at a;omega
 obtain⟨e,rfl⟩:∃j,e=j+1:=⟨e-1,by omega⟩;rw[tt c]at a;rw[tt i,g]at h2;exact⟨e+Tm.room (d[b]?.getD 0),by omega,by omega,by omega,by omega⟩
theorem ko.FV(i:ko h d f b)(l:f<h.length):Tm.dn d b<=d.length:=by
 obtain⟨a,c,e,j,k⟩:=i;have m:a≠0:=by rintro rfl;rw[Tm.gu]at c;omega
 obtain⟨a,rfl⟩:∃g,a=g+1:=⟨a-1,by omega⟩;rw[kT a 1,Tm.rF]at e;rw[show Tm.dn d b=b+Tm.run (d.drop b) 1 from rfl];omega
def BR(n:Nat)(W:World)(v:Value)(zs:List Int):Prop:=∃b off c,v=.slice (some ⟨b,off,none⟩) zs.length c∧cZ n W (some ⟨b,off,none⟩) zs∧zs.length<=c∧c<=maxLen∧zs.length<=30
theorem BR.below(j:BR b e l d)(f:Below b e r):BR b r l d:=by
 obtain⟨h,a,i,rfl,g,c⟩:=j;exact⟨h,a,i,rfl,g.below f,c⟩
def DL(n:Nat)(W:World)(bm N:Nat)(m:uC):Prop:=∃M,gM W bm N M∧(∀s,m s=none->M s=none)∧∀s zs,m s=some zs->∃v,M s=some v∧BR n W v zs
theorem DL.upd{s:Int}{v:Value}(i:∀s,A s=none->I s=none)(j:∀s d,A s=some d->∃v,I s=some v∧BR b e v d)
 (k:gM r f u (upd I s v))(g:Below b e r)(n:BR b e v d):DL b r f u (upd A s d):=by
 refine⟨_,k,fun h a=>?_,fun h o a=>?_⟩
 ·by_cases c:h=s
  ·subst c;rw[nC]at a;cases a
  ·rw[my _ _ c]at a⊢;exact i h a
 ·by_cases c:h=s
  ·subst c;rw[nC]at a;cases a;exact⟨v,nC _ _ _,n.below g⟩
  ·rw[my _ _ c]at a
   obtain⟨p,m,l⟩:=j h o a;exact⟨p,by rw[my _ _ c];exact m,l.below g⟩
def fH(m:uC)(k:Nat):List (List Int):=(List.range 8).map fun i:Nat=>if i<k then(m (-1-(i:Int))).getD [-1-(i:Int)]else [-1-(i:Int)]
theorem nr(b:uC)(a:Nat):(fH b a).length=8:=by simp[fH]
theorem zn(a:uC):fH a 0=gU 8:=by simp[fH,gU]
theorem yU(e:A (-1-(b:Int))=none):fH A (b+1)=fH A b:=by
 unfold fH;refine gm fun c _=>?_
 by_cases d:c=b
 ·subst d;rw[aD (by omega),aE (by omega),e];rfl
 ·by_cases a:c<b
  ·rw[aD (by omega),aD a]
  ·rw[aE (by omega),aE a]
theorem zj(g:A (-1-(b:Int))=some d):fH A (b+1)=(fH A b).set b d:=by
 refine iA (by simp[fH]) fun e c h=>?_
 simp only[fH,en,List.length_range]at c;by_cases f:e=b
 ·subst f
  rw[List.getElem_set_self];simp[fH,g]
 ·rw[List.getElem_set_ne (by omega)]
  simp only[fH,kZ,List.getElem_range];by_cases a:e<b
  ·rw[aD (by omega),aD a]
  ·rw[aE (by omega),aE a]
def dY(p t:List Int):Int:=ez [p,t]
def oE(p t:List Int):Bool:=if dY p t=0 then(Tm.fit p t).isSome else false
def Ah:Option uC->List (List Int)
 |some m=>fH m 8
 |none=>[]
def lK(p t:List Int):List (List Int):=if dY p t=0 then Ah (Tm.fit p t)else []
theorem pE(a:dY d h=0):Tm.err d=0∧Tm.err h=0:=by
 have:=j6 a
 exact⟨by simpa using this 0 (by simp),by simpa using this 1 (by simp)⟩
theorem rM(a:Tm.err d=0)(b:Tm.err h=0):dY d h=0:=by simp[dY,ez,a,b]
theorem JH(a:dY d h≠0):oE d h=false∧lK d h=[]:=by
 constructor
 ·unfold oE;rw[aE a]
 ·unfold lK;rw[aE a]
theorem LN(b:dY d h=0)(a:Tm.fit d h=none):oE d h=false∧lK d h=[]:=by
 constructor
 ·unfold oE;rw[aD b,a];rfl
 ·unfold lK;rw[aD b,a];rfl
theorem BZ(b:dY d h=0)(a:Tm.fit d h=some A):oE d h=true∧lK d h=fH A 8:=by
 constructor
 ·unfold oE;rw[aD b,a];rfl
 ·unfold lK;rw[aD b,a];rfl
theorem xy(a b:List Int)(H I:Option Addr)(w x:Nat)(l:World)(j:cZ l.heap.size l H a)(k:cZ l.heap.size l I b)(B:a.length<=maxLen):
 Calls Tryz.prog 109 #[.slice H a.length w,.slice I b.length x] l fun N G=>N=.returned (.bool (lJ a b))∧Below l.heap.size l G:=by
 unfold maxLen at B;by_cases g:a.length=b.length
 ·have r:((a.length:Int)!=(b.length:Int))=false:=by simp[g]
  have q:Hid (a.length=b.length):=g;clear g;go_enter Tryz.func109,Tryz.ntmps109;go_wp2;go_loopw [13](fun D wr=>∃c:Nat,c<=a.length∧D=.int .i64 (c:Int)∧Hid (a.take c=b.take c)∧Below l.heap.size l wr)(fun D _=>a.length-(intOf D).toNat)
  case atStart=>exact⟨0,bf _,rfl,by simp[Hid],ah _ _⟩
  case round=>
   obtain⟨c,O,rfl,d,f⟩:=hrel;by_cases o:c<a.length
   ·have z:(c:Int)<(a.length:Int):=by omega
    have h:c<b.length:=by have:=q.out;omega
    have A:(c:Int)<(b.length:Int):=by omega
    obtain⟨L,E,rfl,J,m⟩:=(j.below f).at (by omega);obtain⟨M,F,rfl,K,n⟩:=(k.below f).at (by omega);have P:=m c o;have s:=n c h;have p:=show Hid _ from @D5 a b c o h d.out
    have i:=show Hid _ from @Ib a b c
    clear m n j k h;generalize a[c]?.getD 0=t at*;generalize b[c]?.getD 0=u at*;by_cases e:t=u
    ·have C:(t !=u)=false:=by simp[e]
     have v:Hid (t=u):=e;clear e i;go_wp2;go_quiet(fail)
     go_wp2;go_roundw
     case rel=>exact⟨c+1,by omega,by go_num,p.out v.out,bD f _⟩
     case measure=>simp[intOf];omega
    ·have C:(t !=u)=true:=by simp[e]
     have y:=show Hid _ from i.out e
     clear e i p;go_wp2;go_quiet(fail)
     go_wp2;go_ret;exact⟨by rw[y.out];rfl,bD f _⟩
   ·obtain rfl:c=a.length:=by omega
    have s:=show Hid _ from G0 d.out q.out
    clear j k;go_wp2;go_ret;exact⟨by rw[s.out];rfl,f⟩
 ·have r:((a.length:Int)!=(b.length:Int))=true:=by simp;omega
  rw[GL g];clear g j k;go_enter Tryz.func109,Tryz.ntmps109;go_wp2;go_ret;exact⟨rfl,ah _ _⟩
theorem wy(a:World):(zeroValue 68).run Tryz.prog a=.ok (.slice none 0 0) a:=by kernel_rfl
def JU(w w':World)(e:Ending):Option uC->Prop
 |none=>e=.returned (.tuple #[.map none,.bool false])
 |some m=>∃bm N,e=.returned (.tuple #[.map (some bm),.bool true])∧w.heap.size<=bm∧DL w.heap.size w' bm N m
theorem K5(p t:List Int)(Yy Yd:Option Addr)(YR q:Nat)(l:World)(L:Tm.err p=0)(W:Tm.err t=0)(YE:cZ l.heap.size l Yy p)(Yl:cZ l.heap.size l Yd t)(Y4:t.length<=q)(Yn:q<=maxLen):
 Calls Tryz.prog 174 #[.slice Yy p.length YR,.slice Yd t.length q] l fun E Y=>Below l.heap.size l Y∧JU l Y E (Tm.fit p t):=by
 have YW:=cK L;have Yo:=cK W;have YB:=lT L;have YA:=fun k(YI:k<p.length)=>iC (lM (fw L) YI)
 have YC:=hid (ko.start L W);obtain⟨Yv,v,rfl,YS,YG⟩:=Yl.at (dU W);obtain⟨YP,Yp,rfl,YF,Yh⟩:=YE.at (dU L);have Y9:=@q7 Tryz.prog;have YT:q<=9223372036854775807:=Yn;have Yw:=hid Yl;have YO:=hid YG;have Yx:=hid Yh;have YN:=hid YB;have YM:=hid YA;have Y6:(p.length:Int)<=30:=by omega
 have Y7:(t.length:Int)<=30:=by omega
 clear Yl YE YG Yh YB YA L W;go_enter Tryz.func174,Tryz.ntmps174;go_wp2;go_loopw [7,16](fun X YX wr=>∃(o k:Nat)(m:uC),o<=p.length∧k<=t.length∧YX=.int .i64 (o:Int)∧X=.int .i64 (k:Int)∧Hid (Tm.fit p t=eD t (p.drop o) k m)∧Hid (ko p t o k)∧Below l.heap.size l wr∧Hid (DL l.heap.size wr l.heap.size o m))(fun _ YX _=>p.length-(intOf YX).toNat)
 case atStart=>exact⟨0,0,fun _=>none,bf _,bf _,rfl,rfl,by simp[Hid,Tm.fit],YC,(ah _ _).alloc (af _) _,⟨_,gM.made l,fun _ _=>rfl,fun _ _ G=>by cases G⟩⟩
 case round=>
  obtain⟨o,k,m,Zc,YI,rfl,rfl,e,u,a,hF⟩:=hrel;by_cases c:o<p.length
  ·have YV:(o:Int)<(p.length:Int):=by omega
   have YJ:=u.out.pos c;have YU:(k:Int)<(t.length:Int):=by omega
   have Y3:=(a.cell (p:=⟨YP,Yp+o,none⟩) YF).trans (Yx.out o c);have YH:=(a.cell (p:=⟨Yv,v+k,none⟩) YS).trans (YO.out k YJ);by_cases M:p[o]?.getD 0<0
   ·have K:=xw t Yo (some ⟨Yv,v,none⟩) q k (by omega) wr ((Yw.out.below a).mono a.size)
    have Y8:=u.out.FV c;have Y5:=Tm.im t k;have h:=hid (u.out.var c M);have y:Hid ((cD t k).length=Tm.dn t k-k):=by show _=_;simp only[cD,cX,cH];omega
    have Z:=hid (Yw.out.sub k (Tm.dn t k-k));have w:=hid (fun G=>e.out.trans (EG (t:=t) (k:=k) (m:=m) c M G));have x:=hid (fun G=>e.out.trans (Fa (t:=t) (k:=k) (m:=m) c M G));have J:=hid (fun zs z A=>e.out.trans (BQ (t:=t) (k:=k) (m:=m) (zs:=zs) c M z A));have D:=hid (Pj (s:=p[o]?.getD 0) (by have:=YN.out o c;omega) (by have:=YM.out o c;omega));have O:Hid (cZ l.heap.size l (some ⟨Yv,v+k,none⟩) (cD t k)):=Z;clear YH Z e u;generalize p[o]?.getD 0=s at*;generalize cD t k=N at*;generalize Tm.dn t k=X at*;have z:(k:Int)<=(X:Int):=by omega
    have A:(X:Int)<=(q:Int):=by omega
    have Zb:¬q-k=0:=by omega
    have Za:Hid (X=k+N.length):=by have:=y.out;show _=_;omega
    obtain⟨Yk,U,H,C⟩:=hF.out;have Yi:Hid (BR l.heap.size l (.slice (some ⟨Yv,v+k,none⟩) (X-k) (q-k)) N):=⟨Yv,v+k,q-k,by rw[y.out],O.out,by have:=y.out;omega,by omega,by have:=y.out;omega⟩;clear hF;cases j:m s with
    |none=>
     have I:=hid (H s j);have g:=hid (w.out j);have Yj:=hid H;have P:=hid C;have F:=hid U;clear w x J j H C U;go_wp2_with(first
      |(go_at_call 148;refine K.mono ?_;clear K;rintro E YK⟨rfl,b⟩;have f:=hid (F.out.eV (b.block _ F.out.lt));have d:=a.trans (b.mono a.size))
      |(at_lookup;go_loud(refine yH _ rfl _ _ 209 rfl 68 Tryz.underlying209 (wy _) l.heap.size o Yk rfl f.out s rfl D.out I.out ?_))
      |(at_mapUpdate;go_loud(refine oX _ rfl _ _ _ 209 rfl 68 Tryz.underlying209 l.heap.size o Yk rfl f.out (by unfold maxLen;omega) s rfl D.out _ rfl ?_);intro Yr Q B))
     have i:Below l.heap.size l Yr:=d.grown B d.size (fun Yt E=>by simp at E;omega);go_roundw
     case rel=>exact⟨o+1,X,_,by omega,by omega,by go_num,rfl,g,h,i,DL.upd Yj.out (fun Yt zs G=>by obtain⟨YL,z,A⟩:=P.out Yt zs G;exact⟨YL,z,A.below (b.mono a.size)⟩) Q (Below.grown (ah _ _) B d.size (fun Yt E=>by simp at E;omega)) (Yi.out.below d)⟩
     case measure=>simp[intOf];omega
    |some zs=>
     obtain⟨YL,I,YQ,Yq,Yz,rfl,Yf,Y0,Y2,_⟩:=C s zs j;have Ye:∀Yu,Below wr.heap.size wr Yu->Calls Tryz.prog 109 #[.slice (some ⟨YQ,Yq,none⟩) zs.length Yz,.slice (some ⟨Yv,v+k,none⟩) (X-k) (q-k)] Yu fun E Y=>E=.returned (.bool (lJ zs N))∧Below Yu.heap.size Yu Y:=fun Yu V=>by
      rw[<-y.out];exact xy zs N _ _ Yz (q-k) Yu (((Yf.below (V.mono a.size)).mono (by have:=V.size;have:=a.size;omega))) (((O.out.below a).below (V.mono a.size)).mono (by have:=V.size;have:=a.size;omega)) (by omega)
     have HEq:=hid Ye;have Yc:=hid I;have Yj:=hid H;have P:=hid C;have F:=hid U;clear Ye I H C U Yf;by_cases n:zs=N
     ·subst n
      have S:lJ zs zs=true:=by simp[lJ]
      have g:=hid (x.out j);clear w x J j;go_wp2_with(first
       |(go_at_call 148;refine K.mono ?_;clear K;rintro E YK⟨rfl,b⟩;have f:=hid (F.out.eV (b.block _ F.out.lt));have d:=a.trans (b.mono a.size))
       |(at_lookup;go_loud(refine vY _ rfl _ _ 209 rfl 68 Tryz.underlying209 (wy _) l.heap.size o Yk rfl f.out s rfl D.out _ Yc.out ?_))
       |(go_at_call 109;refine(HEq.out _ b).mono ?_;rw[S];rintro E YZ⟨rfl,i⟩;have Yg:=hid (f.out.eV (i.block _ f.out.lt));have r:=d.trans (i.mono d.size))
       |(at_mapUpdate;go_loud(refine oX _ rfl _ _ _ 209 rfl 68 Tryz.underlying209 l.heap.size o Yk rfl Yg.out (by unfold maxLen;omega) s rfl D.out _ rfl ?_);intro Yr Q B))
      have YD:Below l.heap.size l Yr:=r.grown B r.size (fun Yt E=>by simp at E;omega);go_roundw
      case rel=>exact⟨o+1,X,_,by omega,by omega,by go_num,rfl,g,h,YD,DL.upd Yj.out (fun Yt zs G=>by obtain⟨YL,z,A⟩:=P.out Yt zs G;exact⟨YL,z,(A.below (b.mono a.size)).below (i.mono d.size)⟩) Q (Below.grown (ah _ _) B r.size (fun Yt E=>by simp at E;omega)) (Yi.out.below r)⟩
      case measure=>simp[intOf];omega
     ·have S:lJ zs N=false:=by simp[lJ,n]
      have g:=hid (J.out zs j n);clear w x J j n;go_wp2_with(first
       |(go_at_call 148;refine K.mono ?_;clear K;rintro E YK⟨rfl,b⟩;have f:=hid (F.out.eV (b.block _ F.out.lt));have d:=a.trans (b.mono a.size))
       |(at_lookup;go_loud(refine vY _ rfl _ _ 209 rfl 68 Tryz.underlying209 (wy _) l.heap.size o Yk rfl f.out s rfl D.out _ Yc.out ?_))
       |(go_at_call 109;refine(HEq.out _ b).mono ?_;rw[S];rintro E YZ⟨rfl,i⟩;have Yg:=hid (f.out.eV (i.block _ f.out.lt));have r:=d.trans (i.mono d.size)))
      go_ret2
      exact⟨r,by rw[g.out];rfl⟩
   ·have T:=hid (fun G=>e.out.trans (EK (t:=t) (k:=k) (m:=m) c M G))
    have R:=hid (fun G=>e.out.trans (Cm (t:=t) (k:=k) (m:=m) c M G));have h:=hid (fun G=>u.out.sym c G);clear e u;generalize p[o]?.getD 0=s at*;generalize t[k]?.getD 0=YY at*;by_cases n:YY=s
    ·have H:(YY !=s)=false:=by simp[n]
     have g:=hid (T.out n);have Ym:=hid (h.out n);clear T R n h;go_wp2;go_roundw
     case rel=>exact⟨o+1,k+1,m,by omega,by omega,by go_num,by go_num,g,Ym,a,by obtain⟨Yk,z,A⟩:=hF.out;exact⟨Yk,z.mono (by omega),A⟩⟩
     case measure=>simp[intOf];omega
    ·have H:(YY !=s)=true:=by simp[n]
     have g:=hid (R.out n);clear T R n h;go_wp2;go_ret2
     exact⟨a,by rw[g.out];rfl⟩
  ·obtain rfl:o=p.length:=by omega
   go_wp2;go_ret2
   exact⟨a,by rw[e.out,eu,mO];exact⟨_,_,rfl,af _,hF.out⟩⟩
theorem CG(ss:List (List Int))(K:ss.length<=1000)(F:Option Addr)(o:Nat)(n:World)(q:np n.heap.size n F ss):
 Calls Tryz.prog 173 #[.slice F ss.length o] n fun w D=>w=.returned (.int .i64 (ez ss))∧Below n.heap.size n D:=by
 have t:=hid q;have G:(ss.length:Int)<=1000:=by omega
 clear q;go_enter Tryz.func173,Tryz.ntmps173;go_wp2;go_loopw [8](fun B wr=>∃k:Nat,k<=ss.length∧B=.int .i64 (k:Int)∧Hid (ez ss=ez (ss.drop k))∧Below n.heap.size n wr)(fun B _=>ss.length-(intOf B).toNat)
 case atStart=>exact⟨0,bf _,rfl,rfl,ah _ _⟩
 case round=>
  obtain⟨k,J,rfl,c,a⟩:=hrel;by_cases f:k<ss.length
  ·have A:(k:Int)<(ss.length:Int):=by omega
   obtain⟨I,s,rfl,y,r⟩:=t.out.at (by omega);obtain⟨u,v,j,i,_⟩:=r k f;have z:=(a.cell (p:=⟨I,s+k,none⟩) y).trans j;have e:=jn (ss[k]?.getD []) u v wr ((i.below a).mono a.size);have h:=hid (uj (ss:=ss) (k:=k) f);have g:=hid (uy (ss:=ss) (k:=k) f);clear j i r;generalize ss[k]?.getD []=C at*;by_cases b:Tm.err C=0
   ·have m:=hid (c.out.trans (h.out b))
    rw[b]at e;clear h g b c;go_wp2_with(go_at_call 112;refine e.mono ?_;clear e;rintro w E⟨rfl,d⟩)
    go_roundw
    case rel=>exact⟨k+1,by omega,by go_num,m.out,a.trans (d.mono a.size)⟩
    case measure=>simp[intOf];omega
   ·have l:=hid (c.out.trans (g.out b))
    have H:(Tm.err C !=0)=true:=by simp[b]
    clear h g b c;generalize Tm.err C=L at*;go_wp2_with(go_at_call 112;refine e.mono ?_;clear e;rintro w E⟨rfl,d⟩)
    go_ret;exact⟨by rw[l.out];rfl,a.trans (d.mono a.size)⟩
  ·obtain rfl:k=ss.length:=by omega
   have x:Hid (ez ss=0):=by
    show _=_;rw[c.out,eu];rfl
   clear c;go_wp2;go_ret;exact⟨by rw[x.out];rfl,a⟩
theorem Ni(d:World)(g h:List Int)(e a:Option Addr)(b c o:Nat)(p:o=d.heap.size+1)(m:cZ d.heap.size d e g)(n:cZ d.heap.size d a h)(k:g.length<=b∧b<=maxLen∧(e=none->b=0))(l:h.length<=c∧c<=maxLen∧(a=none->c=0)):
 np o (d.alloc (.cells #[.slice e g.length b,.slice a h.length c] 68)) (some ⟨d.heap.size,0,none⟩) [g,h]:=by
 have i:Below d.heap.size d (d.alloc (.cells #[.slice e g.length b,.slice a h.length c] 68)):=(ah _ _).alloc (af _) _;have f:=aM d (.cells #[.slice e g.length b,.slice a h.length c] 68);intro q j;simp only[aI,bH]at j;match q,j with
 |0,_=>exact⟨d.heap.size,0,e,b,rfl,by omega,(dp f 0).trans rfl,(m.below i).mono (by omega),k⟩
 |1,_=>exact⟨d.heap.size,0,a,c,rfl,by omega,(dp f 1).trans rfl,(n.below i).mono (by omega),l⟩
theorem Al(f g:List Int)(e a:Option Addr)(b c:Nat)(d:World)(l:cZ d.heap.size d e f)(m:cZ d.heap.size d a g)(i:f.length<=b∧b<=maxLen∧(e=none->b=0))(j:g.length<=c∧c<=maxLen∧(a=none->c=0)):
 Calls Tryz.prog 173 #[.slice (some ⟨d.heap.size,0,none⟩) 2 2] (d.alloc (.cells #[.slice e f.length b,.slice a g.length c] 68)) fun n h=>n=.returned (.int .i64 (dY f g))∧Below d.heap.size d h:=
 (CG [f,g] (by simp) _ 2 _ (Ni d f g e a b c _ (by simp) l m i j)).mono fun n h⟨o,k⟩=>⟨o,((ah _ _).alloc (af _) _).trans (k.mono (by simp))⟩
theorem Af{base:Nat}(j:il base e (.slice (some ⟨b,0,none⟩) 8 u) g)(d:g.length=8)(k:f<8):
 base<=b∧∃x,e.cell? ⟨b,f,none⟩=some x∧e.frozen? ⟨b,f,none⟩=false:=by
 obtain⟨h,a,_⟩:=j;rw[d]at a;have i:h.length=8:=by have:=a.1;omega
 have c:=dI a f (by omega);rw[an (by omega)]at c;exact⟨(bn a b rfl).1,_,c,World.ownsRow.frozenAt a f⟩
theorem OY(p r:List Int)(u h:Option Addr)(o q:Nat)(t:World)(E:cZ t.heap.size t u p)(F:cZ t.heap.size t h r)(d:p.length<=o∧o<=maxLen∧(u=none->o=0))(w:r.length<=q∧q<=maxLen∧(h=none->q=0)):
 Calls Tryz.prog 143 #[.slice u p.length o,.slice h r.length q] t fun z I=>∃v,z=.returned (.tuple #[v,.bool (oE p r),.int .i64 (dY p r)])∧il t.heap.size I v (lK p r)∧Below t.heap.size t I:=by
 have m:=Al p r u h o q t E F d w;by_cases c:dY p r=0
 ·obtain⟨W,X⟩:=pE c
  have b:∀V,Below t.heap.size t V->Calls Tryz.prog 174 #[.slice u p.length o,.slice h r.length q] V fun z I=>Below V.heap.size V I∧JU V I z (Tm.fit p r):=fun V M=>
   K5 p r u h o q V W X ((E.below M).mono M.size) ((F.below M).mono M.size) w.1 w.2.1
  cases x:Tm.fit p r with
  |none=>
   obtain⟨j,k⟩:=LN c x;rw[x]at b;rw[j,k,c];rw[c]at m;have U:=hid b;clear b x j k W X c E F d w;go_enter Tryz.func143,Tryz.ntmps143;go_wp2_with(first
    |(go_at_call 173;refine m.mono ?_;clear m;rintro z N⟨rfl,a⟩)
    |(go_at_call 174;refine(U.out _ a).mono ?_;rintro z Z⟨e,rfl⟩;have l:=a.trans (e.mono a.size)))
   go_ret3
   exact⟨_,rfl,il.nil _ _,l⟩
  |some Yn=>
   obtain⟨j,k⟩:=BZ c x;rw[x]at b;rw[j,k,c];rw[c]at m;have U:=hid b;clear b x j k W X c E F d w;go_enter Tryz.func143,Tryz.ntmps143;go_wp2_with(first
    |(go_at_call 173;refine m.mono ?_;clear m;rintro z N⟨rfl,a⟩)
    |(go_at_call 174;refine(U.out _ a).mono ?_;rintro z Z⟨e,K,Yq,rfl,Yz,Yp,Yh,Q,g⟩;have l:=a.trans (e.mono a.size);have Yc:=hid Q;have Yd:=hid g;have J:=hid Yh;clear Q g Yh)
    |(go_at_call 175;refine(F8 _).mono ?_;rintro z YJ⟨v,rfl,C,A⟩;have Yy:=l.trans (A.mono l.size);have G:(gU 8).length=8:=j5 8;obtain⟨L,Yt,rfl⟩:∃L Yt,v=.slice (some ⟨L,0,none⟩) 8 Yt:=(by obtain⟨Yl,d,_⟩:=C;rw[G]at d;exact jy d)))
   have Yi:=hid (J.out.eV (A.block _ J.out.lt));have Yj:L≠K:=by
    obtain⟨Yl,d,_⟩:=C;have:=(bn d L rfl).1
    have:=J.out.lt
    omega
   have YC:Z.heap.size<=L:=by
    obtain⟨Yl,d,_⟩:=C;exact(bn d L rfl).1
   have Yo:=hid C;clear C J G;go_loopw [32](fun Yx wr=>∃i:Nat,i<=8∧Yx=.int .i64 (i:Int)∧Hid (il t.heap.size wr (.slice (some ⟨L,0,none⟩) 8 Yt) (fH Yn i))∧Hid (gM wr K Yq Yp)∧Below N.heap.size Z wr)(fun Yx _=>8-(intOf Yx).toNat)
   case atStart=>exact⟨0,bf _,rfl,by rw[zn];exact Yo.out.mono l.size,Yi,A.mono e.size⟩
   case round=>
    obtain⟨i,YI,rfl,D,n,f⟩:=hrel;by_cases Yk:i<8
    ·have Yv:(i:Int)<8:=by omega
     have YE:(0:Int)<=(i:Int):=by omega
     have T:=hid (Pj (s:= -1-(i:Int)) (by omega) (by omega));cases y:Yn (-1-(i:Int))with
     |none=>
      have g:=hid (Yc.out _ y);have H:=hid (yU y);clear y;go_wp2_with(first
       |(at_lookup;go_loud(refine yH _ rfl _ _ 209 rfl 68 Tryz.underlying209 (wy _) K Yq Yp rfl n.out (-1-(i:Int)) rfl T.out g.out ?_)))
      go_roundw
      case rel=>exact⟨i+1,by omega,by go_num,by rw[H.out];exact D.out,n,f⟩
      case measure=>simp[intOf];omega
     |some Ym=>
      obtain⟨v,g,Yr,Y,Yu,rfl,P,_,_,Yf⟩:=Yd.out _ Ym y;have H:=hid (zj y);have Ye:=hid g;have Yw:=e.size;have O:=D9 Ym Yr Y Yu wr Yf ((P.below f).mono (by have:=f.size;omega));clear y g P;go_wp2_with(first
       |(at_lookup;go_loud(refine vY _ rfl _ _ 209 rfl 68 Tryz.underlying209 (wy _) K Yq Yp rfl n.out (-1-(i:Int)) rfl T.out _ Ye.out ?_))
       |(go_at_call 108;refine O.mono ?_;clear O;rintro z YK⟨YN,rfl,S,B⟩;obtain⟨YG,YH,rfl,_⟩:=cU.ints S;have R:=hid (D.out.below B);obtain⟨YD,YL,YA,YB⟩:=Af R.out (nr Yn i) Yk))
      have Yg:Below t.heap.size t wr:=a.trans ((e.trans f).mono a.size);go_roundw
      case rel=>
       refine⟨i+1,by omega,by go_num,?_,?_,?_⟩
       ·rw[H.out]
        exact R.out.set (nr Yn i).symm (S.mono Yg.size) i
       ·exact(n.out.eV (B.block _ n.out.lt)).eV (aT _ _ _ _ (fun z=>Yj z.symm))
       ·exact(f.trans (B.mono (by have:=f.size;omega))).setCell (p:=⟨L,i,none⟩) (show N.heap.size<=L by omega) _
      case measure=>simp[intOf];omega
    ·obtain rfl:i=8:=by omega
     go_wp2;go_ret3
     exact⟨_,rfl,D.out,a.trans ((e.trans f).mono a.size)⟩
 ·obtain⟨j,k⟩:=JH c
  rw[j,k];have YF:(dY p r !=0)=true:=by simp[c]
  clear E F j k c d w;generalize dY p r=YM at*;go_enter Tryz.func143,Tryz.ntmps143;go_wp2_with(first
   |(go_at_call 173;refine m.mono ?_;clear m;rintro z N⟨rfl,a⟩))
  go_ret3
  exact⟨_,rfl,il.nil _ _,a⟩
abbrev lh(X:Nat):Value:=.pointer (some ⟨X,0,none⟩)
def vv(lo hi:Nat)(W:World)(v:Value)(Xs:List Nat):Prop:=∃a c,v=.slice a Xs.length c∧∀j,j<Xs.length->∃b off,a=some ⟨b,off,none⟩∧lo<=b∧b<hi∧W.cell? ⟨b,off+j,none⟩=some (lh (Xs[j]?.getD 0))
inductive gv(lo hi:Nat)(W:World):Nat->List Int->Prop
 |mk(X:Nat)(s:Int)(v:Value)(Xs:List Nat)(gK:List (List Int)):lo<=X->X<hi->Node W X s v->vv lo hi W v Xs->Xs.length=Tm.room s->gK.length=Xs.length->
  (∀j,j<Xs.length->gv lo hi W (Xs[j]?.getD 0) (gK[j]?.getD []))->gv lo hi W X (s::gK.flatten)
theorem vv.eV{W':World}(r:vv b f e l M)(s:u<=b)(t:f<=z)(n:∀k,b<=k->k<f->W'.heap[k]?=e.heap[k]?):vv u z W' l M:=by
 obtain⟨a,p,rfl,j⟩:=r;refine⟨a,p,rfl,fun o m=>?_⟩;obtain⟨i,d,q,g,h,c⟩:=j o m;exact⟨i,d,q,by omega,by omega,(aH (a:=⟨i,d+o,none⟩) (n i g h)).trans c⟩
theorem gv.eV{W':World}(r:gv f u e b d)(j:z<=f)(l:u<=D)(g:∀k,f<=k->k<u->W'.heap[k]?=e.heap[k]?):gv z D W' b d:=by
 induction r with
 |mk b s t i h a c m n p o _ q=>
  exact gv.mk b s t i h (by omega) (by omega) ((g b a c).trans m) (n.eV j l g) p o q
theorem gv.under(c:gv f b e z d)(a:Below u e r)(h:b<=u):gv f b r z d:=
 c.eV (af _) (af _) fun i _ g=>a.block i (by omega)
theorem gv.wide(g:gv b f e D d)(a:u<=b)(c:f<=z):gv u z e D d:=g.eV a c fun _ _ _=>rfl
theorem Dt(e:Tm.pos d 0 (b+1)<=d.length):(d.take (Tm.pos d 0 (b+1))).drop 1=(d.take (Tm.pos d 0 b)).drop 1++(d.drop (Tm.pos d 0 b)).take (Tm.pos d 0 (b+1)-Tm.pos d 0 b):=by
 have c:=nz d 0 b (b+1) (by omega);have a:1<=Tm.pos d 0 b:=Tm.om d 0 b;rw[show d.take (Tm.pos d 0 (b+1))=d.take (Tm.pos d 0 b)++(d.drop (Tm.pos d 0 b)).take (Tm.pos d 0 (b+1)-Tm.pos d 0 b)from by
  rw[<-ye];congr 1;omega]
 rw[ku];simp only[cX];omega
def pO(base:Nat)(wr:World)(zs:List Int)(m:Nat)(v:Value)(xs:List Value):Prop:=
 ∃(Xs:List Nat)(gK:List (List Int)),Xs.length=m∧gK.length=m∧xs=Xs.map lh∧gK.flatten=(zs.take (Tm.pos zs 0 m)).drop 1∧
  ∀j,j<m->∃lo hi,base<lo∧hi<=wr.heap.size∧gv lo hi wr (Xs[j]?.getD 0) (gK[j]?.getD [])∧∀k,v.ownBlock=some k->k<lo∨hi<=k
theorem pO.start(base:Nat)(wr:World)(b:List Int)(e:Value)(a:List Value)(c:a=[]):pO base wr b 0 e a:=
 ⟨[],[],rfl,rfl,by rw[c];rfl,by rw[Tm.iI];simp,fun f d=>by omega⟩
theorem pO.step{base:Nat}{wr:World}(H:pO base wr d b l B)(P:f=wr.heap.size)(M:base<f)(N:f<=u)(s:∀k,k<f->e.heap[k]?=wr.heap[k]?)
 (L:gv f u e z h)(g:∀k,l.ownBlock=some k->k<f)(c:C.ownBlock=l.ownBlock∨∃q,C.ownBlock=some q∧u<=q)(D:u<=r.heap.size)
 (w:∀k,base<k->k<u->(∀q,l.ownBlock=some q->k≠q)->r.heap[k]?=e.heap[k]?)
 (A:h=(d.drop (Tm.pos d 0 b)).take (Tm.pos d 0 (b+1)-Tm.pos d 0 b))(y:Tm.pos d 0 (b+1)<=d.length):pO base r d (b+1) C (B++[lh z]):=by
 obtain⟨F,E,o,p,I,J,K⟩:=H;refine⟨F++[z],E++[h],by simp[o],by simp[p],by simp[I],by rw[fB,J,Dt y,A];simp,fun O R=>?_⟩;by_cases v:O<b
 ·obtain⟨S,H,G,Q,t,n⟩:=K O v
  refine⟨S,H,G,by omega,?_,?_⟩
  ·rw[aV (by omega),aV (by omega)]
   refine t.eV (af _) (af _) fun k x j=>?_
   rw[w k (by omega) (by omega) (fun q i=>by have:=n q i;omega),s k (by omega)]
  ·intro k a
   rcases c with m|⟨q,m,i⟩
   ·exact n k (by rw[<-m];exact a)
   ·rw[m]at a
    have:q=k:=by simpa using a
    exact .inr (by omega)
 ·obtain rfl:O=b:=by omega
  refine⟨f,u,M,D,?_,?_⟩
  ·rw[aU (by omega),aU (by omega),o,p]
   simp only[oe,fG,dy];refine L.eV (af _) (af _) fun k x j=>w k (by omega) j (fun q i=>by have:=g q i;omega)
  ·intro k a
   rcases c with m|⟨q,m,i⟩
   ·exact .inl (g k (by rw[<-m];exact a))
   ·rw[m]at a
    have:q=k:=by simpa using a
    exact .inr (by omega)
theorem pO.done{base:Nat}{wr:World}(E:pO base wr d b l B)(i:Node wr base y l)(a:wr.ownsRow (base+1) 92 1 l b B)(J:b=Tm.room y)(j:d[0]?.getD 0=y)(o:0<d.length):
 gv base wr.heap.size wr base (d.take (Tm.pos d 0 b)):=by
 obtain⟨m,c,h,F,p,q,e⟩:=E;have v:d.take (Tm.pos d 0 b)=y::c.flatten:=by
  rw[q];have I:0<Tm.pos d 0 b:=Tm.om d 0 b;cases d with
  |nil=>simp at o
  |cons w z=>
   simp at j;subst j;obtain⟨A,u⟩:∃A,Tm.pos (w::z) 0 b=A+1:=⟨Tm.pos (w::z) 0 b-1,by omega⟩;rw[u];simp
 rw[v];refine gv.mk base y l m c (af _) i.lt i ?_ (by omega) (by omega) (fun k f=>?_)
 ·rcases a.2 with⟨rfl,t⟩|⟨D,g,x,rfl,G,s,_⟩
  ·exact⟨none,0,by rw[h,t],fun k f=>by omega⟩
  ·refine⟨_,g,by rw[h],fun k f=>⟨D,0,rfl,by omega,(ak.1 s).1,?_⟩⟩
   have e:=dI a k (by omega);rw[cI,e,p];simp[f]
 ·obtain⟨K,H,C,n,r,_⟩:=e k (by omega)
  exact r.wide (by omega) n
