/-
  Parts of the proof.
-/
import Derived.Test.YtglohanbpjaieaaGreatDoorBdp25
set_option maxHeartbeats 4000000
set_option maxRecDepth 100000
namespace Go.Proofs.YtglohanbpjaieaaGreatDoor
open Go.Proofs Go.RowKit Go.Shelf Go.Maps
variable {A F:List UInt8}{B T:Value}{D:UInt8}{G:Act}{H:Oper}{L:List (List UInt8)}{M:List (List Int)}{N:TypeId}{O:Array Oper}{P:Exit->Act->World->Prop}{Q:Prop}{U:Bool}{X:Option Addr}{Y:Act->World->Prop}{Z:Int->Int}{d z:List Int}{e K W:Nat}{h I:bu}{t J:bg}{u C V:World}{y S Yc:Int}
def fV(c:UInt8):List UInt8->List (List UInt8)
 |[]=>[[]]
 |b::l=>if b=c then []::fV c l else(match fV c l with|[]=>[[b]]|x::xs=>(b::x)::xs)
theorem qK:∀{l:List UInt8},D∉l->fV D l=[l]
 |[],_=>rfl
 |d::l,b=>by
  rw[fV,aE (fun c=>b (by simp[c])),qK (fun a=>b (by simp[a]))]
theorem se:∀{a b:List UInt8},D∉a->fV D (a++D::b)=a::fV D b
 |[],b,_=>by rw[bV,fV,aD rfl]
 |f::a,b,d=>by
  rw[bc,fV,aE (fun e=>d (by simp[e])),se (fun c=>d (by simp[c]))]
theorem th:∀{l:List UInt8},D∈l->∃b c,l=b++D::c∧D∉b
 |e::l,f=>by
  by_cases a:e=D
  ·exact⟨[],l,by rw[a];rfl,by simp⟩
  ·obtain⟨b,c,rfl,d⟩:=th (List.mem_of_ne_of_mem (Ne.symm a) f)
   exact⟨e::b,c,rfl,by simp[d,Ne.symm a]⟩
theorem uw(b:UInt8)(d:List UInt8):fV b d≠[]:=by
 by_cases c:b∈d
 ·obtain⟨e,f,rfl,a⟩:=th c
  rw[se a];simp
 ·rw[qK c];simp
theorem vi:∀{a b:List UInt8},D∉a->Lib.indexByte (a++D::b) D=(a.length:Int)
 |[],b,_=>by simp[Lib.indexByte]
 |g::a,b,e=>by
  have d:g≠D:=fun f=>e (by simp[f])
  rw[bc,Lib.indexByte,aE (by simpa using d),vi (fun c=>e (by simp[c])),aE (by simp)];simp
theorem E6(a:UInt8):∀(n:Nat)(l:List UInt8),l.length<=n->Lib.splitK [a] 0 (Lib.count l [a]) l=fV a l:=by
 intro n;induction n with
 |zero=>
  intro l e;obtain rfl:l=[]:=bJ (by omega);rfl
 |succ n i=>
  intro l e;by_cases h:a∈l
  ·obtain⟨f,g,rfl,b⟩:=th h
   have d:Lib.index (f++a::g) [a]=(f.length:Int):=by rw[Lib.index_one,vi b]
   have c:(f++a::g).drop (f.length+1)=g:=by rw[uE];simp
   rw[Lib.count_hit (by simp) d,iH,c,kT,Lib.splitK,d,aE (by simp),se b];simp only[tz,iH,gp];rw[c,i g (by simp at e;omega)];simp
  ·rw[qK h,Lib.count_one,List.count_eq_zero.2 h]
   rfl
theorem jB(c:UInt8)(b:List UInt8):(fV c b).length=b.count c+1:=by
 induction b with
 |nil=>rfl
 |cons e b d=>
  rw[fV];by_cases a:e=c
  ·rw[aD a,aI,d,a,List.count_cons_self]
  ·rw[aE a,List.count_cons_of_ne a,<-d]
   cases f:fV c b with
   |nil=>exact absurd f (uw c b)
   |cons h g=>rfl
theorem lO(c:UInt8):∀(l:List UInt8),∀x∈fV c l,x.length<=l.length
 |[],x,a=>by simp[fV]at a;simp[a]
 |f::l,x,a=>by
  rw[fV]at a;have d:=lO c l;by_cases e:f=c
  ·rw[aD e]at a
   rcases dA.1 a with rfl|a
   ·simp
   ·have:=d x a;simp;omega
  ·rw[aE e]at a
   cases b:fV c l with
   |nil=>exact absurd b (uw c l)
   |cons g h=>
    rw[b]at a;rcases dA.1 a with rfl|a
    ·have:=d g (by simp[b]);simpa using this
    ·have:=d x (by simp[b,a]);simp;omega
def gV(t:List UInt8):List (List UInt8):=(fV 10 t).dropLast
theorem zJ(a:10∉A):gV (A++10::F)=A::gV F:=by
 rw[gV,se a,List.dropLast_cons_of_ne_nil (uw _ _)];rfl
def gW(out:List UInt8)(er:Int):List UInt8:=if er=0 then out else tK++Lib.decDigits er.toNat
def jZ(E:bg)(R:bu):List (List UInt8)->bg->bu->List UInt8->Prop
 |[],E',R',o=>E'=E∧R'=R∧o=[]
 |l::ls,E',R',o=>∃E1 R1 o1 er o2,dm E R (fV 32 l) E1 R1 o1 er∧jZ E1 R1 ls E' R' o2∧o=gW o1 er++10::o2
theorem jZ.snoc:∀{a:List (List UInt8)}{b:bg}{c:bu}{o:List UInt8},jZ b c a t h o->dm t h (fV 32 A) J I F y->jZ b c (a++[A]) J I (o++(gW F y++[10]))
 |[],_,_,_,⟨rfl,rfl,rfl⟩,f=>⟨_,_,_,_,[],f,⟨rfl,rfl,rfl⟩,rfl⟩
 |m::a,_,_,_,⟨j,k,d,e,l,g,i,rfl⟩,f=>⟨j,k,d,e,_,g,i.snoc f,by simp⟩
def jE(t out:List UInt8)(er:Int):Prop:=
 if 4096<t.length∨40<t.count 10 then out=[]∧er=2
 else if t≠[]∧t.getLast?≠some 10 then out=[]∧er=1
 else er=0∧∃E R,jZ [] [] (gV t) E R out
theorem ks.mono(j:e<=K)(d:ks e u X L):ks K u X L:=fun i c=>by
 obtain⟨f,a,g,h,b⟩:=d i c;exact⟨f,a,g,by omega,b⟩
theorem ks.lit(b:World)(a:List (List UInt8))(d:TypeId):ks (b.alloc (.cells (a.map sv).toArray d)).heap.size (b.alloc (.cells (a.map sv).toArray d)) (some ⟨b.heap.size,0,none⟩) a:=fun e c=>by
 refine⟨_,_,rfl,by simp,?_⟩;rw[cI,dp (aM b _) e];simp[c]
theorem il.cells{base:Nat}(o:il base u B M)(r:0<M.length):∃g c,B=.slice (some ⟨g,0,none⟩) M.length c∧g<u.heap.size∧
 ∀j,j<M.length->∃a b,u.cell? ⟨g,j,none⟩=some (.slice a (M[j]?.getD []).length b)∧cU base u (.slice a (M[j]?.getD []).length b) (M[j]?.getD []):=by
 obtain⟨s,e,h⟩:=o;rcases e.2 with⟨rfl,q⟩|⟨g,d,n,rfl,p,k,_⟩
 ·omega
 ·refine⟨g,d,rfl,(ak.1 k).1,fun j l=>?_⟩
  obtain⟨t,m,f⟩:=h j l;have i:=dI e j (by omega);obtain⟨a,b,rfl,_⟩:=cU.ints f;exact⟨a,b,by rw[i,m],f⟩
theorem nZ{n:Nat}(a:n<100):(Lib.decDigits n).length<=2:=by
 rw[Lib.decDigits];split
 ·simp
 ·rw[Lib.decDigits,dif_pos (by omega)];simp
theorem zt(a:Nat)(e:a<100)(b:World):Calls Tryz.prog 25 #[.int .i64 (a:Int)] b fun d c=>d=.returned (sv (Lib.decDigits a))∧c=b:=Tryz.strconv_Itoa_small a e b
theorem ui(b a:List (List UInt8))(f:Option Addr)(q:Nat)(d:World)(m:ks d.heap.size d f b)(n:∀k,k<b.length->(b[k]?.getD []).length<=4096)(p:b.length<=5000)(o:a.length<=10):
 Calls Tryz.prog 72 #[.slice f b.length q,.slice (some ⟨d.heap.size,0,none⟩) a.length a.length] (d.alloc (.cells (a.map sv).toArray 9)) fun g e=>Below d.heap.size d e∧((∃l v,eN b a=some l∧g=.returned v∧il d.heap.size e v l)∨(eN b a=none∧g=.panicked (sf 1))):=by
 have c:Below d.heap.size d (d.alloc (.cells (a.map sv).toArray 9)):=(ah _ _).alloc (af _) _;refine(xr b a f _ q _ _ ((m.below c).mono c.size) (ks.lit d a _) n p o).mono ?_;rintro g e⟨r,s⟩;exact⟨c.trans (r.mono c.size),s.imp (fun⟨l,v,h,i,j⟩=>⟨l,v,h,i,j.mono c.size⟩) id⟩
theorem tH(b:(bU h d).2.2=0):Tm.err (bU h d).1=0∧(bU h d).2.1<=60:=by
 have f:∀(c:Nat)(d:List Int)(e:Nat),(mX h c d e).2.2=0->Tm.err (mX h c d e).1=0∧(mX h c d e).2.1+1<=c+e:=by
  intro c;induction c with
  |zero=>intro d e b;exact absurd b (by simp[mX])
  |succ c i=>
   intro d e b;by_cases a:dS h d=0
   ·by_cases g:(dT h d).length=0
    ·rw[xA a g]
     refine⟨?_,by simp;omega⟩;unfold dS at a;split at a
     ·split at a
      ·assumption
      ·exact absurd a (by assumption)
     ·exact absurd a (by assumption)
    ·rw[zC a (by omega)]at b⊢
     have:=i _ _ b
     exact⟨this.1,by omega⟩
   ·rw[ur a]at b
    exact absurd b a
 have:=f 61 d 0 b
 exact⟨this.1,by have:=this.2;unfold bU;omega⟩
theorem Mk(w:Nat)(E:bg)(R:bu)(f:List (List UInt8))(Ym:Option Addr)(Yz:Nat)(j:World)(J:nA j w E R)(Yd:ks j.heap.size j Ym f)(i:∀k,k<f.length->(f[k]?.getD []).length<=4096)(Yw:f.length<=5000):
 Calls Tryz.prog 49 #[.pointer (some ⟨w,0,none⟩),.slice Ym f.length Yz] j fun I z=>pz w E R (nI::f) j I z:=by
 have H:=hid J;obtain⟨YF,YG,l,m,c,Yr,YI,YJ,W,YK,YL⟩:=J.open;have K:=hid (ui f [mu] Ym Yz j Yd i Yw (by simp));have Ye:w<j.heap.size:=(ak.1 c).1;have X:=hid (fun x(e:Below j.heap.size j x)=>(W.below e).mono e.size);have L:=hid (fun x(e:Below j.heap.size j x)=>show x.cell? ⟨w,1,none⟩=some (.slice l R.length m)from(e.cell (p:=⟨w,1,none⟩) Ye).trans ((dp c 1).trans rfl));clear c Yr W Yd i J;go_enter Tryz.func49,Tryz.ntmps49;go_wp2_with fail;refine K.out.mono ?_;rintro I a⟨g,⟨N,YP,q,rfl,Yh⟩|⟨q,rfl⟩⟩
 ·obtain⟨u,rfl,D,rfl⟩:=tA q
  obtain⟨U,YH,rfl,Yv,B⟩:=Yh.cells (by simp);obtain⟨b,h,Yf,y⟩:=B 0 (by simp);have s:a.cell? ⟨U,0,none⟩=some (.slice b (aO u).1.length h):=Yf;replace y:cU j.heap.size a (.slice b (aO u).1.length h) (aO u).1:=y;have P:=hid D;have C:Hid (∀t,((bU R (aO u).1).2.2=0->∃N,kh (bU R (aO u).1).1 N∧t=N++[32]++Lib.decDigits (bU R (aO u).1).2.1)->dm E R [nI,u] E R t (bU R (aO u).1).2.2):=fun t V=>by
   unfold dm;dsimp only
   rw[aD ⟨rfl,P.out⟩];exact⟨rfl,rfl,rfl,V⟩
  clear K q D P Yh B Yf;generalize(aO u).1=v at*;obtain⟨_,_,Yq,Yg,Yx,Yy⟩:=cU.ints y;cases Yq;have d:Below a.heap.size a a.drew:=bD (ah _ a) 1;have G:=g.trans (d.mono g.size);have hF:=hid (wm R v l b m h a.drew (X.out _ G) ((Yg.below d).mono d.size) Yx Yy);have o:a.cell? ⟨w,1,none⟩=some (.slice l R.length m)∧a.cell? ⟨U,0,none⟩=some (.slice b v.length h):=⟨L.out a g,s⟩;have Z:=hid (fun x(e:Below a.heap.size a x)=>show x.cell? ⟨w,1,none⟩=some (.slice l R.length m)∧x.cell? ⟨U,0,none⟩=some (.slice b v.length h)from⟨L.out x (g.trans (e.mono g.size)),(e.cell (p:=⟨U,0,none⟩) Yv).trans s⟩);have r:Hid ((bU R v).2.2=0->Tm.err (bU R v).1=0∧(bU R v).2.1<=60):=fun V=>tH V
  clear Yg y s;generalize(bU R v).1=YE at*;generalize(bU R v).2.1=k at*;generalize(bU R v).2.2=T at*;go_wp2;go_region_held3(fun z=>z.cell? ⟨w,1,none⟩=some (.slice l R.length m)∧z.cell? ⟨U,0,none⟩=some (.slice b v.length h))(first|assumption|exact o|exact Y)((go_at_call 80;refine hF.out.mono ?_;rintro I A⟨YN,rfl,O,Q⟩;have F:=G.trans (Q.mono G.size);have Y:=Z.out A (d.trans (Q.mono d.size))))
  obtain⟨Yn,Yp,rfl,M,_⟩:=cU.ints O;by_cases c:T=0
  ·subst c
   obtain⟨S,YD⟩:=r.out rfl;have YM:(k:Int)<=60:=by omega
   have Yc:=hid (zX YE Yn Yp A S M);clear hF o r S M O;go_wp2_with fail;refine(s8 _).mono ?_;rintro I A⟨rfl,rfl⟩;go_wp2_with fail;refine Yc.out.mono ?_;rintro I Yi⟨N,i,rfl,Yo⟩;have Yj:=F.trans (Yo.mono F.size);have YB:N.length<=4000:=by obtain⟨u,_,_,_,YO,rfl⟩:=i;exact zh u (by omega)
   have Yk:=hid i;have Yt:=hid (zt k (by omega) Yi);have YA:=nZ (n:=k) (by omega);have YC:¬9223372036854775807<N.length+1+(Lib.decDigits k).length:=by omega
   clear i;go_wp2_with fail;refine Yt.out.mono ?_;rintro I Yi⟨rfl,rfl⟩;go_wp2;go_ret;exact .same H.out Yj (C.out _ fun _=>⟨N,Yk.out,rfl⟩) (.inl ⟨rfl,rfl⟩)
  ·have Yu:=hid (r8 T c)
   clear hF o r M O;go_wp2_with fail;refine(Yu.out _).mono ?_;rintro I A⟨rfl,rfl⟩;go_wp2;exact⟨rfl,.same H.out F (C.out [] fun V=>absurd V c) (.inr ⟨c,rfl⟩)⟩
 ·have Yl:=hid (zY (E:=E) (R:=R) q)
  clear q K X L;go_wp2;exact⟨rfl,.same H.out g Yl.out (.inr ⟨by decide,rfl⟩)⟩
theorem L5(z:Nat)(E:bg)(R:bu)(f:List (List UInt8))(Yj:Option Addr)(Yz:Nat)(w:World)(M:nA w z E R)(Y:ks w.heap.size w Yj f)(Yc:∀k,k<f.length->(f[k]?.getD []).length<=4096)(Yp:f.length<=5000):
 Calls Tryz.prog 50 #[.pointer (some ⟨z,0,none⟩),.slice Yj f.length Yz] w fun K o=>pz z E R (nh::f) w K o:=by
 have J:=hid M;obtain⟨YA,YB,r,s,d,Yl,YD,YE,V,YF,YG⟩:=M.open;have N:=hid (ui f [mu,mu] Yj Yz w Y Yc Yp (by simp));have Yd:z<w.heap.size:=(ak.1 d).1;have Ym:=hid (fun q(e:Below w.heap.size w q)=>(V.below e).mono e.size);have Yo:=hid (fun q(e:Below w.heap.size w q)=>show q.cell? ⟨z,1,none⟩=some (.slice r R.length s)from(e.cell (p:=⟨z,1,none⟩) Yd).trans ((dp d 1).trans rfl));clear d Yl V Y Yc M;go_enter Tryz.func50,Tryz.ntmps50;go_wp2_with fail;refine N.out.mono ?_;rintro K a⟨h,⟨YH,YI,m,rfl,Ye⟩|⟨m,rfl⟩⟩
 ·obtain⟨G,H,rfl,D,F,rfl⟩:=yd m
  obtain⟨A,YC,rfl,Z,l⟩:=Ye.cells (by simp);obtain⟨c,i,t,v⟩:=l 0 (by simp);obtain⟨g,j,u,x⟩:=l 1 (by simp);replace t:a.cell? ⟨A,0,none⟩=some (.slice c (aO G).1.length i):=t;replace v:cU w.heap.size a (.slice c (aO G).1.length i) (aO G).1:=v;replace u:a.cell? ⟨A,1,none⟩=some (.slice g (aO H).1.length j):=u;replace x:cU w.heap.size a (.slice g (aO H).1.length j) (aO H).1:=x;have S:=hid (And.intro D F);have C:Hid (∀n,(dF R (aO G).1 (aO H).1=0->n=qY (fX R (aO G).1 (aO H).1))->dm E R [nh,G,H] E R n (dF R (aO G).1 (aO H).1)):=fun n Yk=>by
   unfold dm;dsimp only
   rw[aD ⟨rfl,S.out⟩];exact⟨rfl,rfl,rfl,Yk⟩
  clear N m D F S Ye l;generalize(aO G).1=Yf at*;generalize(aO H).1=Yg at*;obtain⟨_,_,L,Yq,Yu,Yv⟩:=cU.ints v;cases L;obtain⟨_,_,L,Yr,Yw,Yx⟩:=cU.ints x;cases L;have b:Below a.heap.size a a.drew:=bD (ah _ a) 1;have I:=h.trans (b.mono h.size);have hF:=hid (zi R Yf Yg r c g s i j a.drew (Ym.out _ I) ((Yq.below b).mono b.size) ((Yr.below b).mono b.size) Yu Yv Yw Yx);have B:=hid (fun q(e:Below a.heap.size a q)=>show q.cell? ⟨z,1,none⟩=some (.slice r R.length s)∧q.cell? ⟨A,0,none⟩=some (.slice c Yf.length i)∧q.cell? ⟨A,1,none⟩=some (.slice g Yg.length j)from⟨Yo.out q (h.trans (e.mono h.size)),(e.cell (p:=⟨A,0,none⟩) Z).trans t,(e.cell (p:=⟨A,1,none⟩) Z).trans u⟩);have W:=B.out a (ah _ _);clear v x t u;generalize fX R Yf Yg=Yt at*;generalize dF R Yf Yg=U at*;go_wp2;go_region_held3(fun o=>o.cell? ⟨z,1,none⟩=some (.slice r R.length s)∧o.cell? ⟨A,0,none⟩=some (.slice c Yf.length i)∧o.cell? ⟨A,1,none⟩=some (.slice g Yg.length j))(first|assumption|exact W|exact X)((go_at_call 81;refine hF.out.mono ?_;rintro K y⟨rfl,T⟩;have Q:=I.trans (T.mono I.size);have X:=B.out y (b.trans (T.mono b.size))))
  by_cases d:U=0
  ·subst d
   go_wp2_with fail;refine(s8 _).mono ?_;rintro K y⟨rfl,rfl⟩;go_wp2_with fail;refine(wG _ _).mono ?_;rintro K y⟨O,rfl⟩;obtain⟨Yy,P⟩:∃Yy,qY Yt=Yy:=⟨_,rfl⟩;replace O:K=.returned (sv Yy):=by rw[<-P];exact O
   have Yi:=hid P;subst O;clear P;go_wp2;go_ret;exact .same J.out Q (C.out _ fun _=>Yi.out.symm) (.inl ⟨rfl,rfl⟩)
  ·have Yn:=hid (r8 U d)
   go_wp2_with fail;refine(Yn.out _).mono ?_;rintro K y⟨rfl,rfl⟩;go_wp2;exact⟨rfl,.same J.out Q (C.out [] fun Yk=>absurd Yk d) (.inr ⟨d,rfl⟩)⟩
 ·have Yh:=hid (vE (E:=E) (R:=R) (w:=nh) (by simp) m)
  clear m N;go_wp2;exact⟨rfl,.same J.out h Yh.out (.inr ⟨by decide,rfl⟩)⟩
theorem JL(Yg:Nat)(E:bg)(R:bu)(f:List (List UInt8))(Yj:Option Addr)(YB:Nat)(w:World)(K:nA w Yg E R)(Y:ks w.heap.size w Yj f)(Yc:∀k,k<f.length->(f[k]?.getD []).length<=4096)(Yp:f.length<=5000):
 Calls Tryz.prog 52 #[.pointer (some ⟨Yg,0,none⟩),.slice Yj f.length YB] w fun y x=>pz Yg E R (kS::f) w y x:=by
 have G:=hid K;obtain⟨YE,YG,YF,YI,d,Yl,YJ,YK,Ym,YL,YM⟩:=K.open;have L:=hid (ui f [mu,mu] Yj YB w Y Yc Yp (by simp));have YC:Yg<w.heap.size:=(ak.1 d).1;clear d Yl Ym Y Yc K;go_enter Tryz.func52,Tryz.ntmps52;go_wp2_with fail;refine L.out.mono ?_;rintro y a⟨h,⟨YN,YO,o,rfl,Yd⟩|⟨o,rfl⟩⟩
 ·obtain⟨D,F,rfl,B,C,rfl⟩:=yd o
  obtain⟨z,YH,rfl,Z,n⟩:=Yd.cells (by simp);obtain⟨c,i,s,u⟩:=n 0 (by simp);obtain⟨g,j,t,v⟩:=n 1 (by simp);replace s:a.cell? ⟨z,0,none⟩=some (.slice c (aO D).1.length i):=s;replace u:cU w.heap.size a (.slice c (aO D).1.length i) (aO D).1:=u;replace t:a.cell? ⟨z,1,none⟩=some (.slice g (aO F).1.length j):=t;replace v:cU w.heap.size a (.slice g (aO F).1.length j) (aO F).1:=v;have Q:=hid (And.intro B C);have A:Hid (∀q,(fC wM (aO D).1 (aO F).1=0->q=qY (dj wM (aO D).1 (aO F).1))->dm E R [kS,D,F] E R q (fC wM (aO D).1 (aO F).1)):=fun q U=>by
   unfold dm;dsimp only
   rw[aE (fun U=>absurd U.1 (by decide))];rw[aD ⟨rfl,Q.out⟩];exact⟨rfl,rfl,rfl,U⟩
  clear L o B C Q Yd n;generalize(aO D).1=Ye at*;generalize(aO F).1=Yf at*;obtain⟨_,_,J,Yr,Yv,Yw⟩:=cU.ints u;cases J;obtain⟨_,_,J,Yt,Yx,Yy⟩:=cU.ints v;cases J;have l:Below a.heap.size a a.drew:=bD (ah _ a) 1;have YD:=h.trans (l.mono h.size);have hF:=hid (fun O(e:Below a.heap.size a O)H I Yn=>pJ wM Ye Yf H c g I i j O Yn ((Yr.below e).mono e.size) ((Yt.below e).mono e.size) Yv Yw Yx Yy);have m:=hid (fun O(e:Below a.heap.size a O)=>show O.cell? ⟨z,0,none⟩=some (.slice c Ye.length i)∧O.cell? ⟨z,1,none⟩=some (.slice g Yf.length j)from⟨(e.cell (p:=⟨z,0,none⟩) Z).trans s,(e.cell (p:=⟨z,1,none⟩) Z).trans t⟩);have V:=m.out a (ah _ _);clear u v s t;generalize dj wM Ye Yf=Yu at*;generalize fC wM Ye Yf=T at*;go_wp2;go_region_held3(fun x=>x.cell? ⟨z,0,none⟩=some (.slice c Ye.length i)∧x.cell? ⟨z,1,none⟩=some (.slice g Yf.length j))(first|assumption|exact V|exact W|exact X)((first
   |(go_at_call 77;refine(DZ _).mono ?_;rintro y r⟨H,I,rfl,Yq,_,_,Yk⟩;have b:=l.trans (Yk.mono l.size);have W:=m.out r b)
   |(go_at_call 84;refine(hF.out r b H I Yq).mono ?_;rintro y Yz⟨rfl,S⟩;have P:=h.trans ((b.trans (S.mono b.size)).mono h.size);have X:=m.out Yz (b.trans (S.mono b.size)))))
  by_cases d:T=0
  ·subst d
   go_wp2_with fail;refine(s8 _).mono ?_;rintro y r⟨rfl,rfl⟩;go_wp2_with fail;refine(wG _ _).mono ?_;rintro y r⟨M,rfl⟩;obtain⟨YA,N⟩:∃YA,qY Yu=YA:=⟨_,rfl⟩;replace M:y=.returned (sv YA):=by rw[<-N];exact M
   have Yi:=hid N;subst M;clear N;go_wp2;go_ret;exact .same G.out P (A.out _ fun _=>Yi.out.symm) (.inl ⟨rfl,rfl⟩)
  ·have Yo:=hid (r8 T d)
   go_wp2_with fail;refine(Yo.out _).mono ?_;rintro y r⟨rfl,rfl⟩;go_wp2;exact⟨rfl,.same G.out P (A.out [] fun U=>absurd U d) (.inr ⟨d,rfl⟩)⟩
 ·have Yh:=hid (vE (E:=E) (R:=R) (w:=kS) (by simp) o)
  clear o L;go_wp2;exact⟨rfl,.same G.out h Yh.out (.inr ⟨by decide,rfl⟩)⟩
theorem JT:Keyed Tryz.prog 9:=string_keyed Tryz.underlying9
def lk:List (List UInt8×Value)->List UInt8->Option Value
 |[],_=>none
 |p::l,x=>if x=p.1 then some p.2 else lk l x
def KL(w:World)(W:World)(l:List (List UInt8×Value)):Prop:=(∃M,qo 9 W w.heap.size l.length M∧∀x,M (sv x)=lk l x)∧Below w.heap.size w W
theorem Qg(a:sv A=sv F):A=F:=by
 unfold sv at a;simp at a;exact a
theorem O4{rest:List Oper}(k:World)(v:H.guard=none)(D i E:Operand)(f:H.op=Op.insert 61 D i E)(h:World)(C:List (List UInt8×Value))(y:G.eval D=.map (some h.heap.size))(t:KL h k C)(z:C.length<maxLen)
 (c:List UInt8)(B:G.eval i=sv c)(x:c.length<=maxLen)(g:Value)(A:G.eval E=g)(u:∀W',KL h W' ((c,g)::C)->wpList Tryz.prog O P rest (G.put H.dst undef) W'):wpList Tryz.prog O P (H::rest) G k:=by
 refine pZ v fun F e=>?_
 obtain⟨⟨J,q,r⟩,d⟩:=t;obtain⟨W',j,b,m,n,o,p⟩:=q.set JT Tryz.underlying61 z (tV Tryz.underlying9 (s:=⟨c.toArray⟩) x) g;have a:(Instr.mapUpdate 61 (.map (some h.heap.size)) (sv c) g).run Tryz.prog k=.ok () W':=b;unfold Oper.wp;simp[execOp,f,y,B,A,a,Result.andThen];refine e _ _ (u W' ⟨⟨j,m,fun i=>?_⟩,d.grown p d.size (fun K w=>by cases w;exact af _)⟩);rw[lk];by_cases l:i=c
 ·subst l;rw[aD rfl];exact n
 ·rw[aE l,<-r];exact o _ (fun I=>l (Qg I))
def mv(f D:Nat):Value:=.func (.func f) #[.pointer (some ⟨D,0,none⟩)] #[]
def Lc(D:Nat):List (List UInt8×Value):=[(kS,mv 52 D),(mA,mv 51 D),(nh,mv 50 D),(nI,mv 49 D),(jO,mv 48 D),(kj,mv 47 D),(mr,mv 46 D),(pK,mv 45 D)]
theorem LQ(f:Nat)(a:World):Calls Tryz.prog 27 #[.pointer (some ⟨f,0,none⟩)] a fun i e=>i=.returned (.map (some a.heap.size))∧KL a e (Lc f):=by
 have h:=@q7 Tryz.prog;have g:∀(d:Fn)(first c:Array Value)(a:World),(Instr.makeFunc d first c).run Tryz.prog a=.ok (.func d first c) a:=fun _ _ _ _=>rfl
 have b:KL a (a.alloc (.map #[] 0)) []:=⟨⟨_,qo.made _ a,fun _=>rfl⟩,(ah _ _).alloc (af _) _⟩;go_enter Tryz.func27,Tryz.ntmps27;go_wp2_with(refine O4 _ (by rfl) _ _ _ (by rfl) a _ (by rfl) b (by simp[maxLen]) _ (by rfl) (by decide) _ (by rfl) ?_;clear b;intro j b)
 go_ret;exact⟨rfl,b⟩
theorem C7(a:List UInt8):(Lib.splitB ⟨#[32]⟩ 0 (Lib.countB ⟨a.toArray⟩ ⟨#[32]⟩) ⟨a.toArray⟩).map Value.string=(fV 32 a).map sv:=by
 have d:=Lib.splitB_data ⟨#[32]⟩ 0 (Lib.countB ⟨a.toArray⟩ ⟨#[32]⟩) ⟨a.toArray⟩;have b:Lib.splitK [32] 0 (Lib.count a [32]) a=fV 32 a:=E6 32 _ a (af _);have c:(Lib.splitB ⟨#[32]⟩ 0 (Lib.countB ⟨a.toArray⟩ ⟨#[32]⟩) ⟨a.toArray⟩).map (·.data.toList)=fV 32 a:=d.trans b;rw[<-c,RP];refine gm fun e _=>?_
 obtain⟨⟨f⟩⟩:=e;rfl
theorem GC(l:List UInt8)(C:Int)(d:World)(E:l.length<=4096)(t:d.cell? ⟨0,0,none⟩=some (.int .i64 C)):Calls Tryz.prog 26 #[sv l] d fun i o=>∃x b a c,fV 32 l=x::b∧i=.returned (.tuple #[sv x,.slice a b.length c])∧ks o.heap.size o a b∧Below d.heap.size d o:=by
 have e:=Tryz.strings_Split ⟨l.toArray⟩ ⟨#[32]⟩ C d (by show l.toArray.size<_;simp;omega) t (by decide);have g:Lib.countB ⟨l.toArray⟩ ⟨#[32]⟩+1=(fV 32 l).length:=by
  have:=RG List.length (C7 l)
  rw[en,en,Lib.splitB_all ⟨#[32]⟩ (by decide) 0 _ _ rfl]at this;exact this
 rw[C7,g]at e;have f:(fV 32 l).length<=4097:=by
  rw[jB];have:=kx (a:=(32:UInt8)) (l:=l)
  omega
 obtain⟨x,b,n⟩:∃x b,fV 32 l=x::b:=by
  cases q:fV 32 l with
  |nil=>exact absurd q (uw _ _)
  |cons x b=>exact⟨x,b,rfl⟩
 rw[n]at e f;have w:=hid n;clear g n;rw[aI]at e f;have j:=hid e;have B:(b.length:Int)<=4096:=by omega
 have r:Below d.heap.size d (d.alloc (.cells ((x::b).map sv).toArray 9)):=(ah _ _).alloc (af _) _;have k:=hid (ks.lit d (x::b) 9);obtain⟨y,s⟩:∃y,d.alloc (.cells ((x::b).map sv).toArray 9)=y:=⟨_,rfl⟩;rw[s]at r k j;have A:y.cell? ⟨d.heap.size,0,none⟩=some (sv x):=by
  obtain⟨D,u,i,_,q⟩:=k.out 0 (by simp);cases i;exact q
 clear e t s f;have G:(1:Int)<=(b.length:Int)+1:=by omega
 go_enter Tryz.func26,Tryz.ntmps26;go_wp2_with fail;refine j.out.mono ?_;rintro i p⟨rfl,rfl⟩;go_wp2;go_quiet(fail)
 obtain⟨v,h⟩:∃v,(if b=[]then some (⟨d.heap.size,0,none⟩:Addr)else some ⟨d.heap.size,1,none⟩)=v:=⟨_,rfl⟩;have hA2:Hid (ks p.heap.size p v b):=fun F m=>by
  rw[aE (fun i=>by rw[i]at m;simp at m)]at h;obtain⟨D,u,i,z,q⟩:=k.out (F+1) (by simpa using m);cases i;exact⟨_,_,h.symm,z,by simpa [Nat.add_comm]using q⟩
 rw[h];clear h;go_wp2;go_ret2
 exact⟨x,b,v,_,w.out,rfl,hA2.out.below (bD (ah _ p) nq),bD r nq⟩
theorem Cj(a:List Int×List Int):a∈h↔a∈fK d h∨a∈fY d h:=by
 unfold fK fY;rw[vK,vK];cases b:kW d a<;>simp
theorem DN(a:y∈fu d e):y∈d:=by
 unfold fu cD at a;exact jG (nJ a)
theorem DT(f:Tm.err d=0)(a:y∈d):dX d=y∨∃m,m<Tm.room (dX d)∧y∈fu d m:=by
 rw[KZ f]at a;rcases dA.1 a with c|a
 ·exact .inl c.symm
 ·right
  rw[mF]at a;obtain⟨g,e,a⟩:=a;obtain⟨m,b,rfl⟩:=gQ e;rw[s6]at b;have c:=Ju d b;rw[an (by rw[s6];exact b)]at c;rw[show(lH d (Tm.room (dX d)))[m]=fu d m from c]at a;exact⟨m,b,a⟩
theorem iw.vars(l:iw Z d z):Tm.err d=0->Tm.err z=0->∀s∈z,s<0->s∈d:=by
 induction l with
 |eq d z h b i=>intro _ _ s a _;rw[<-i]at a;exact DN a
 |sub d z h b _ g=>intro f c s a e;exact DN (g (mS f b) c s a e)
 |rk d z j k _ _ _ g=>
  intro f c s a e;rcases DT c a with i|⟨h,b,a⟩
  ·omega
  ·exact g h b f (mS c b) s a e
 |lex d z h j k _ _ _ _ g _=>
  intro f c s a e;rcases DT c a with i|⟨h,b,a⟩
  ·omega
  ·exact g h b f (mS c b) s a e
theorem tF{rk:List Int}(n:da rk=0)(e:Tm.err d=0)(f:Tm.err z=0)(s:dj rk d z=true)(c:ja d=0):ff (dN d) (gD d z)=0∧dj rk (dN d) (gD d z)=true:=by
 have t:=(rh (jQ n e f)).1 s;obtain⟨w,p,q,r,g,h⟩:=uV e f;have b:=t.stays (qO.of p) e f;rw[<-q,<-r]at b;have o:=b.vars g h;have i:(dN d).any ei=false:=by
  unfold ja at c;cases u:(dN d).any ei with
  |false=>rfl
  |true=>rw[aD u]at c;exact absurd c (by decide)
 refine⟨?_,(rh (jQ n g h)).2 b⟩;have l:(gD d z).any ei=false:=by
  rw[kD]at i⊢;intro k j a;have c:k< -4:=by simpa [ei]using a
  exact i k (o k j (by omega)) a
 have m:(gD d z).any (jN (dN d))=false:=by
  rw[kD];intro k j a;unfold jN at a;rw[dW]at a;have c:k<0:=by simpa using a.1
  have:=o k j c
  simp[iK,this]at a
 have v:(0:Int)<=(dN d)[0]?.getD 0:=b.pos;unfold ff;rw[aD g,aD h,aE (by rw[i];decide),aE (by rw[l];decide),aE (by omega),aE (by rw[m];decide)]
theorem Il{rk:List Int}(h:da rk=0)(f:Tm.err d=0)(g:Tm.err z=0)(b:(fP rk d z).1=0):ff (fP rk d z).2.1 (fP rk d z).2.2=0∧dj rk (fP rk d z).2.1 (fP rk d z).2.2=true:=by
 unfold fP at b⊢;by_cases c:dj rk d z=true
 ·rw[aD c]at b⊢
  have a:ja d=0:=b;unfold ke;rw[aD a];exact tF h f g c a
 ·rw[aE c]at b⊢
  by_cases e:dj rk z d=true
  ·rw[aD e]at b⊢
   have a:ja z=0:=b;unfold ke;rw[aD a];exact tF h g f e a
  ·rw[aE e]at b
   exact absurd b (by decide)
theorem vH{rs:bu}(c:∀x∈rs,ff x.1 x.2=0):gw rs=0:=by
 induction rs with
 |nil=>rfl
 |cons d e b=>
  rw[gw,aD (c d (by simp))];exact b fun x a=>c x (by simp[a])
theorem Dj{rs:bu}(c:cm rs=0):∀x∈rs,ff x.1 x.2=0:=fun x b=>by
 obtain⟨d,a,rfl⟩:=gQ b;have:=(dV c).2 d a
 rwa[an a]at this
theorem Dl{rk:List Int}{rs:bu}(a:eh rk rs=0)(b:eW rk rs=true):cm rs=0∧∀x∈rs,dj rk x.1 x.2=true:=by
 have d:cm rs=0:=by
  unfold eh at a;by_cases c:da rk=0
  ·rwa[aD c]at a
  ·rw[aE c]at a;exact absurd a c
 unfold eW at b;rw[aD a]at b;unfold ky at b;rw[dD]at b;exact⟨d,b⟩
theorem AL{rk:List Int}{rs:bu}(c:da rk=0)(e:rs.length<=8)(a:∀x∈rs,ff x.1 x.2=0)(b:∀x∈rs,dj rk x.1 x.2=true):eh rk rs=0∧eW rk rs=true:=by
 have d:eh rk rs=0:=by
  unfold eh cm;rw[aD c,aE (by omega)];exact vH a
 refine⟨d,?_⟩;unfold eW ky;rw[aD d,dD];exact b
theorem Dr{rk:List Int}(b:eH rk h t 0 I J):eh rk I=0∧eW rk I=true:=by
 rcases b with⟨b,c,_⟩|⟨p,m,C,rfl,b⟩
 ·exact absurd c.symm b
 obtain⟨i,v,w,x,j,k,y⟩:=rr p;rcases b with⟨b,c,_⟩|⟨_,_,_,rfl,rfl⟩|⟨_,_,b,c,_⟩|⟨s,_,r,e⟩
 ·exact absurd c.symm b
 ·exact⟨j,k⟩
 ·exact absurd c.symm b
 ·obtain⟨n,o⟩:=wW s
  have d:=Il i (mZ n) (mZ o) r;obtain⟨u,f⟩:=Dl j k;have g:=Dj u;generalize(fP rk (bU h m.1).1 (bU h m.2).1).2.1=z at e d;generalize(fP rk (bU h m.1).1 (bU h m.2).1).2.2=A at e d;rcases e with⟨_,b,_⟩|⟨q,B,D,_,b⟩
  ·exact absurd b (by decide)
  ·rcases b with⟨b,c,_⟩|⟨_,_,b,_⟩|⟨rfl,_,_,rfl,rfl⟩
   ·exact absurd c.symm b
   ·exact absurd b (by decide)
   ·refine AL i (by rw[ai];exact q) (fun l a=>?_) (fun l a=>?_)
    ·rcases dZ.1 a with a|a
     ·exact g l ((Cj l).2 (.inl a))
     ·rw[Rj]at a;subst a;exact d.1
    ·rcases dZ.1 a with a|a
     ·exact f l ((Cj l).2 (.inl a))
     ·rw[Rj]at a;subst a;exact d.2
theorem Cq{rk:List Int}(d:da rk=0):∀(k:Nat)(rs:bu)(b:bg),jr rk t k rs b->eh rk rs=0∧eW rk rs=true:=by
 intro k;cases k with
 |zero=>
  rintro rs b⟨rfl,rfl⟩;exact AL d (by simp) (fun i a=>by simp at a) (fun i a=>by simp at a)
 |succ k=>
  rintro rs b⟨f,e,g,h,c⟩;exact Dr c
theorem Fb{rk:List Int}(a:jC rk t 0 h e):eh rk h=0∧eW rk h=true:=by
 rcases a with⟨a,f,_⟩|⟨b,k,g,j,i,d,a⟩
 ·exact absurd f.symm a
 ·have c:da rk=0:=by
   unfold gn at b;by_cases a:da rk=0
   ·exact a
   ·rw[aE a]at b;exact absurd b a
  rcases a with⟨_,_,rfl,_⟩|⟨_,_,a,_⟩|⟨_,_,a,_⟩
  ·exact Cq c _ _ _ d
  ·exact absurd a (by decide)
  ·exact absurd rfl a
def jz(e:Int):Prop:=0<=e∧e<=6
theorem jz.ite{_:Decidable Q}(a:jz y)(b:jz S):jz (if Q then y else S):=by split<;>assumption
theorem gi(a:decide (0<=y∧y<=6)=true):jz y:=show 0<=y∧y<=6 from of_decide_eq_true a
theorem nT(a:List Int):jz (Tm.err a):=.ite (gi rfl) (.ite (gi rfl) (.ite (gi rfl) (gi rfl)))
theorem wh:∀a:List (List Int),jz (ez a)
 |[]=>gi rfl
 |c::b=>.ite (wh b) (nT c)
theorem Mo(a:List (List Int)):jz (e7 a):=.ite (wh a) (gi rfl)
theorem wY(a:List (List Int))(b:List Int):jz (dH a b):=by
 unfold dH;repeat' first|exact Mo _|exact nT _|exact gi rfl|apply jz.ite
theorem D6(b:List Int)(a:Int)(c:List Int):jz (gZ b a c):=by
 unfold gZ;repeat' first|exact nT _|exact gi rfl|apply jz.ite
theorem Kx(a:List (List Int))(d:List Int)(b:Int)(c:List Int):jz (lg a d b c):=.ite (D6 _ _ _) (wY _ _)
theorem LV(b:List (List Int))(c d:List Int)(e:Int)(a:List Int):jz (gA b c d e a):=.ite (.ite (wY _ _) (wY _ _)) (D6 _ _ _)
theorem Ku(a b:List Int):jz (eU a b):=.ite (nT _) (nT _)
theorem wQ:∀ps:bg,jz (du ps)
 |[]=>gi rfl
 |_::a=>.ite (wQ a) (Ku _ _)
theorem JV(a b:List Int):jz (ff a b):=by
 unfold ff;repeat' first|exact nT _|exact gi rfl|apply jz.ite
theorem Au:∀rs:bu,jz (gw rs)
 |[]=>gi rfl
 |_::a=>.ite (Au a) (JV _ _)
theorem sT(a:bu):jz (cm a):=.ite (gi rfl) (Au a)
theorem DM(a:bg):jz (fQ a):=.ite (gi rfl) (wQ a)
theorem yg(rk:List Int):jz (da rk):=.ite (.ite (gi rfl) (gi rfl)) (gi rfl)
theorem CC(rk:List Int)(a:bg):jz (gn rk a):=.ite (DM a) (yg rk)
theorem IL(rk:List Int)(a:bu):jz (eh rk a):=.ite (sT a) (yg rk)
theorem JX(rk:List Int)(b:bu)(a:bg):jz (iD rk b a):=.ite (.ite (.ite (.ite (gi rfl) (gi rfl)) (gi rfl)) (IL _ _)) (CC _ _)
theorem IA(rk a b:List Int):jz (fC rk a b):=.ite (.ite (nT _) (nT _)) (yg _)
theorem DQ(a:bu)(c:List Int)(b:Nat):∀n,jz (jI a c b n)
 |0=>gi rfl
 |n+1=>.ite (.ite (Kx _ _ _ _) (gi rfl)) (DQ a c b n)
theorem DY(a:bu)(b:List Int):∀n,jz (jv a b n)
 |0=>gi rfl
 |n+1=>.ite (DQ a b n _) (DY a b n)
theorem JP(a:bu)(b:List Int):jz (dS a b):=.ite (.ite (DY _ _ _) (nT _)) (sT _)
theorem IP(a:bu):∀(f:Nat)(b:List Int)(k:Nat),jz (mX a f b k).2.2
 |0,_,_=>gi rfl
 |f+1,b,k=>by
  rw[mX];split
  ·split
   ·exact gi rfl
   ·exact IP a f _ _
  ·exact JP a b
theorem yE(a:bu)(b:List Int):jz (bU a b).2.2:=IP a 61 b 0
theorem yo(a:bu)(b c:List Int):jz (dF a b c):=.ite (yE _ _) (yE _ _)
theorem AW(a:bu):∀ps:bg,jz (jT a ps).2
 |[]=>gi rfl
 |c::b=>by
  rw[jT];split
  ·exact AW a b
  ·exact yo _ _ _
theorem Kr(a:fs t y U M):jz y:=by
 rcases a with⟨_,rfl,_⟩|⟨_,_,rfl,_⟩|⟨_,_,_,_,rfl,_⟩|⟨_,_,_,_,rfl,_⟩
 ·exact wQ _
 all_goals exact gi rfl
theorem ID(a:fi h S Yc y t):jz y:=by
 rcases a with⟨_,rfl,_⟩|⟨_,_,rfl,_⟩|⟨_,_,_,_,_,_,_,⟨rfl,_⟩|⟨⟨_,_,_,_,_,_,⟨_,_,a⟩|⟨_,_,rfl⟩⟩,_⟩⟩
 ·exact sT _
 ·exact gi rfl
 ·exact gi rfl
 ·exact Kr a
 ·exact LV _ _ _ _ _
theorem Ih(b:mJ h U y):jz y:=by
 obtain⟨e,a,c,⟨_,_,rfl⟩|⟨_,d⟩⟩:=b
 ·rcases c with⟨_,_,⟨_,rfl,_⟩|⟨_,rfl,_⟩⟩|⟨_,_,_,_,_,_,_,b,_⟩
  ·exact gi rfl
  ·exact gi rfl
  ·exact ID b
 ·rw[show y=(jT h a).2 from RG Prod.snd d]
  exact AW h a
theorem F7{rk:List Int}(b:eH rk h t y I J):jz y:=by
 rcases b with⟨_,rfl,_⟩|⟨_,i,g,_,⟨_,rfl,_⟩|⟨_,_,rfl,_⟩|⟨_,_,_,rfl,_⟩|⟨_,_,_,d⟩⟩
 ·exact JX _ _ _
 ·exact yo _ _ _
 ·exact gi rfl
 ·unfold fP
  have a:∀e,jz (ja e):=fun e=>.ite (gi rfl) (gi rfl)
  split
  ·exact a _
  ·split
   ·exact a _
   ·exact gi rfl
 ·rcases d with⟨_,rfl,_⟩|⟨_,f,j,c,⟨_,rfl,_⟩|⟨_,_,rfl,_⟩|⟨_,_,rfl,_⟩⟩
  ·exact gi rfl
  ·rcases c with⟨rfl,_⟩|⟨_,_,_,_,_,_,b⟩
   ·exact gi rfl
   ·exact ID b
  ·exact gi rfl
  ·exact gi rfl
theorem xt{rk:List Int}(a:jC rk t y h e):jz y∧e<=30:=by
 rcases a with⟨_,rfl,_,rfl⟩|⟨_,c,_,_,b,_,⟨_,rfl,_,rfl⟩|⟨_,_,rfl,_,rfl⟩|⟨_,_,_,⟨_,_,a⟩,_,rfl⟩⟩
 ·exact⟨CC _ _,by omega⟩
 ·exact⟨gi rfl,b⟩
 ·exact⟨gi rfl,by omega⟩
 ·exact⟨F7 a,by omega⟩
def lW(E:bg)(R:bu):Prop:=fQ E=0∧cm R=0
theorem uN(b:jC wM t 0 h e):cm h=0:=by
 have a:=(Fb b).1;unfold eh at a;rwa[aD (by decide)]at a
theorem dm.ok(a:dm J I L t h A y)(b:lW J I):lW t h∧jz y:=by
 have c:∀{t:bg}{h:bu}{y:Int},t=J∧h=I∧y=1->lW t h∧jz y:=by
  rintro _ _ _⟨rfl,rfl,rfl⟩;exact⟨b,gi rfl⟩
 match L,a with
 |[f],a=>
  unfold dm at a;dsimp only at a
  split at a
  ·obtain⟨rfl,j,l,e,rfl,_⟩:=a
   refine⟨?_,(xt e).1⟩;split
   ·next d=>subst d;exact⟨b.1,uN e⟩
   ·exact b
  ·split at a
   ·obtain⟨rfl,rfl,rfl,_⟩:=a
    exact⟨b,gi rfl⟩
   ·split at a
    ·obtain⟨rfl,rfl,_,e,_⟩:=a
     exact⟨b,Ih e⟩
    ·exact c a
 |[f,g],a=>
  unfold dm at a;dsimp only at a
  split at a
  ·obtain⟨rfl,rfl,rfl,_⟩:=a
   exact⟨b,yE _ _⟩
  ·exact c a
 |[f,g,i],a=>
  unfold dm at a;dsimp only at a
  split at a
  ·obtain⟨rfl,rfl,rfl,_⟩:=a
   exact⟨b,yo _ _ _⟩
  ·split at a
   ·obtain⟨rfl,rfl,rfl,_⟩:=a
    exact⟨b,IA _ _ _⟩
   ·exact c a
 |[f,g,k,i],a=>
  unfold dm at a;dsimp only at a
  split at a
  ·obtain⟨rfl,rfl,rfl,_⟩:=a
   refine⟨?_,DM _⟩;split
   ·next d=>exact⟨d,b.2⟩
   ·exact b
  ·split at a
   ·obtain⟨rfl,rfl,rfl,_⟩:=a
    refine⟨?_,sT _⟩;split
    ·next d=>exact⟨b.1,d⟩
    ·exact b
   ·exact c a
 |[],a=>exact c a
 |_::_::_::_::_::_,a=>exact c a
theorem fW.Bz{base:Nat}{a:Option Addr}(h:fW false base u a d)(t:u.heap.size<=C.heap.size)(o:∀b,base<=b->(∃f p,u.heap[b]?=some (.cells f 3 p))->C.heap[b]?=u.heap[b]?):fW false base C a d:=fun r n=>by
 obtain⟨b,e,s,k,q,m⟩:=h r n;rcases k with⟨h,_⟩|⟨h|⟨i,f,l⟩,c,p,j⟩
 ·cases h
 ·cases h
 ·have g:=o b i ⟨c,p,j⟩
  exact⟨b,e,s,.inr ⟨.inr ⟨i,f,g.trans l⟩,c,p,g.trans j⟩,by omega,(aH (a:=⟨b,e+r,none⟩) g).trans m⟩
theorem dC.Bz(v:dC false N K e u B t)(c:u.heap.size<=C.heap.size)(j:∀q,B.ownBlock=some q->C.heap[q]?=u.heap[q]?)(b:∀a,e<=a->(∃i p,u.heap[a]?=some (.cells i 3 p))->C.heap[a]?=u.heap[a]?):dC false N K e C B t:=by
 obtain⟨n,k,l⟩:=v;refine⟨n,wI k j,fun w m=>?_⟩;obtain⟨d,g,f,h,o,a,r,s,x⟩:=l w m;exact⟨d,g,f,h,o,a,r.Bz c b,s.Bz c b,x⟩
theorem nA.lt(a:nA u e t h):e<u.heap.size:=let⟨_,_,a,_⟩:=a;(ak.1 a).1
theorem xv(d:u.heap[e]?=some (.cells #[B,T] N (0,0)))(b:Value):(u.setCell ⟨e,0,none⟩ b).heap[e]?=some (.cells #[b,T] N (0,0))∧(u.setCell ⟨e,1,none⟩ b).heap[e]?=some (.cells #[B,b] N (0,0)):=by
 obtain⟨a,c⟩:=ak.1 d;constructor<;>(
  show(u.heap.modify e _)[e]?=_;rw[fo (by rw[iO];exact a),fJ,c];rfl)
theorem mN.set{i:Nat}(c:World)(v:Value):mN e c (c.setCell ⟨e,i,none⟩ v):=
 ⟨(ah _ _).setCell (p:=⟨e,i,none⟩) (af _) _,fun f _ b a _=>(aT _ ⟨e,i,none⟩ _ f (fun d=>a (by rw[d]))).trans b⟩
theorem dC.OQ(a:dC false N (e+1) (e+1) u B t):dC false N (e+1) (e+1) (u.setCell ⟨e,K,none⟩ T) B t:=
 a.Bz (by simp) (fun d b=>aT _ ⟨e,K,none⟩ _ d (by have:=(a.block b).1;show d≠e;omega)) (fun c f _=>aT _ ⟨e,K,none⟩ _ c (by show c≠e;omega))
theorem nA.Dd(f:nA u e t I)(c:dC false 70 (e+1) (e+1) u B h):nA (u.setCell ⟨e,1,none⟩ B) e t h:=by
 obtain⟨d,i,a,b,g⟩:=f;exact⟨d,B,(xv a B).2,b.OQ,c.OQ⟩
theorem JQ(o:Nat)(H:bg)(Yu:bu)(d:List (List UInt8))(Yc:Option Addr)(Yv:Nat)(h:World)(B:nA h o H Yu)(U:ks h.heap.size h Yc d)(W:∀k,k<d.length->(d[k]?.getD []).length<=4096)(Yn:d.length<=5000):
 Calls Tryz.prog 47 #[.pointer (some ⟨o,0,none⟩),.slice Yc d.length Yv] h fun v F=>pz o H Yu (kj::d) h v F:=by
 have w:=hid B;obtain⟨y,A,Yz,YA,a,L,Yh,Yi,Yj,YD,YE⟩:=B.open;have D:=hid (xr d [] Yc none Yv 0 h U (fun YI Ym=>by simp at Ym) W Yn (by simp));have f:o<h.heap.size:=(ak.1 a).1;have C:=hid (fun r(t:Below h.heap.size h r)x z Yk=>OZ wM H x y z A r Yk ((L.below t).mono t.size) Yh Yi);have u:=hid (fun r(t:Below h.heap.size h r)=>show r.cell? ⟨o,0,none⟩=some (.slice y H.length A)from(t.cell (p:=⟨o,0,none⟩) f).trans ((dp a 0).trans rfl));clear a L Yj U W B;go_enter Tryz.func47,Tryz.ntmps47;go_wp2_with fail;refine D.out.mono ?_;rintro v j⟨s,⟨YJ,YG,c,rfl,_⟩|⟨c,rfl⟩⟩
 ·obtain⟨rfl,_⟩:=tD c
  have M:Below j.heap.size j j.drew:=bD (ah _ j) 1;have I:=s.trans (M.mono s.size);have R:=u.out j s;clear c D;go_wp2;go_region_held3(fun F=>F.cell? ⟨o,0,none⟩=some (.slice y H.length A))(first|assumption|exact R|exact S|exact T)((first
   |(go_at_call 77;refine(DZ _).mono ?_;rintro v G⟨x,z,rfl,Yq,_,_,Ye⟩;have g:=I.trans (Ye.mono I.size);have S:=u.out G g)
   |(go_at_call 76;refine(C.out G g x z Yq).mono ?_;rintro v l⟨J,b,n,YG,c,rfl,E,Yf⟩;have m:=g.trans (Yf.mono g.size);have T:=u.out l m)))
  have Q:=hid ((E.mono (aK f g.size)).PD (aK f g.size));obtain⟨Yd,Yg,rfl⟩:=E.slice;have q:=hid c;clear E c C;by_cases a:J=0
  ·subst a
   have Yy:b.length<=8:=(dV (uN q.out)).1;have Yo:n<=30:=(xt q.out).2;have Yp:(b.length:Int)<=8:=by omega
   have X:(n:Int)<=30:=by omega
   have e:=w.out.below m;have N:=hid (e.Dd Q.out);have Yw:l.frozen? ⟨o,1,none⟩=false:=by obtain⟨_,_,K,_⟩:=e;simp[World.frozen?,K]
   have V:∃Y,l.cell? ⟨o,1,none⟩=some Y:=by obtain⟨_,Y,K,_⟩:=e;exact⟨Y,(dp K 1).trans rfl⟩
   obtain⟨Y,YF⟩:=V;have Z:=hid ((mN.of (RB f) m).trans (mN.set (i:=1) l (.slice Yd b.length Yg)));have O:=hid (fun r=>zt b.length (by omega) r);have P:=hid (fun r=>zt n (by omega) r);have YB:=nZ (n:=b.length) (by omega);have YC:=nZ (n:=n) (by omega);have Yx:¬9223372036854775807<(Lib.decDigits b.length).length+1+(Lib.decDigits n).length:=by omega
   clear e Q;go_wp2_with fail;refine(s8 _).mono ?_;rintro v l⟨rfl,rfl⟩;go_wp2_with fail;refine(O.out _).mono ?_;rintro v Yr⟨rfl,rfl⟩;go_wp2_with fail;refine(P.out _).mono ?_;rintro v Yr⟨rfl,rfl⟩;go_wp2;go_ret;exact⟨Z.out,H,b,_,0,⟨rfl,b,n,q.out,rfl,fun _=>rfl⟩,N.out,.inl ⟨rfl,rfl⟩⟩
  ·have Yl:=hid (r8 J a)
   go_wp2_with fail;refine(Yl.out _).mono ?_;rintro v G⟨rfl,rfl⟩;go_wp2;exact⟨rfl,.same w.out m (out:=[]) ⟨rfl,b,n,q.out,by rw[aE a],fun K=>absurd K a⟩ (.inr ⟨a,rfl⟩)⟩
 ·obtain⟨YH,Yt,rfl⟩:=r6 c
  clear c D C u;go_wp2;exact⟨rfl,.same w.out s (vu (.inr (.inl rfl)) YH Yt) (.inr ⟨by decide,rfl⟩)⟩
theorem kh.len(a:kh d A):A.length<=4000:=by obtain⟨b,_,_,_,c,rfl⟩:=a;exact zh b (by omega)
theorem fg.snoc{r:List Int×List Int}(a:kh r.1 A)(b:kh r.2 F):∀{rs:bu}{c:List (List UInt8)},fg rs c->fg (rs++[r]) (c++[A++[32,62,32]++F])
 |[],_,rfl=>⟨A,F,[],a,b,rfl,rfl⟩
 |_::_,_,⟨h,i,g,d,e,rfl,f⟩=>⟨h,i,_,d,e,rfl,fg.snoc a b f⟩
theorem fg.len:∀{rs:bu}{b:List (List UInt8)},fg rs b->b.length=rs.length∧(Lib.joinTail [59,32] b).length<=rs.length*9000
 |[],_,rfl=>⟨rfl,bf _⟩
 |_::_,_,⟨f,g,a,c,d,rfl,e⟩=>by
  have i:=fg.len e;have:=c.len
  have:=d.len
  refine⟨by simp[i.1],?_⟩;have h:(Lib.joinTail [59,32] ((f++[32,62,32]++g)::a)).length=2+(f.length+3+g.length)+(Lib.joinTail [59,32] a).length:=by simp[Lib.joinTail];omega
  rw[h,aI,Nat.add_mul];omega
theorem fg.join(c:fg h L):(Lib.join L [59,32]).length<=h.length*9000:=by
 have:=c.len.2
 cases L with
 |nil=>exact bf _
 |cons b a=>
  rw[tW];have d:(Lib.joinTail [59,32] (b::a)).length=2+b.length+(Lib.joinTail [59,32] a).length:=by simp[Lib.joinTail];omega
  rw[ai];omega
theorem Tryz.MU:(Tryz.prog.info? 9).map (fun a=>(a.zero,a.size,a.bytes))=some (some (.string ⟨#[]⟩),1,16):=by kernel_rfl
theorem EE(e:World)(j:H.guard=none)(x y:Operand)
 (t:H.op=.call {callee:=.builtin .append,args:=#[x,y],argTypes:=#[56,56]})(base:Nat)(o:Value)(a:List (List UInt8))(u:G.eval x=o)(h:iq base e o a)
 (p:Nat)(z:List UInt8)(v:G.eval y=.slice (some ⟨p,0,none⟩) 1 1)(q:e.cell? ⟨p,0,none⟩=some (sv z))(s:a.length<=1000000)(b:base<=e.heap.size)
 (B:∀g c w',iq base w' (.slice (some ⟨g,0,none⟩) (a.length+1) c) (a++[z])->e.grownBy w' o.ownBlock->Below base e w'->Y (G.put H.dst (.slice (some ⟨g,0,none⟩) (a.length+1) c)) w'):
 if Region.wanted H (yielded O G.tmps)=true then Oper.wp Tryz.prog H G e Y P else Q:=by
 obtain⟨w,r,l,m,n⟩:=fh Tryz.MU;refine og e j x y 56 t base 9 w (.string ⟨#[]⟩) 1 16 Tryz.underlying56 r l m n rfl (by decide) o a.length (a.map sv) u h ⟨p,0,none⟩ 1 1 [sv z] v (by simp)
  (by intro C F d
      match C,d with
      |0,d=>simp at d;subst d;rw[cz];simpa using q)
  (by intro E k;simp at k;subst k;rfl) (by decide) (by unfold maxLen;omega) (by omega) b e.heap.size rfl ?_
 intro g c w' f i _ _;exact B g c w' (by simpa [iq]using f) i ((ah base e).grown i b fun D A=>(bn h D A).1)
theorem Cl{rest:List Oper}(f:World)(i:H.guard=none)(w y:Operand)
 (s:H.op=.call {callee:=.builtin .append,args:=#[w,y],argTypes:=#[56,56]})(base:Nat)(x:Value)(a:List (List UInt8))(t:G.eval w=x)(h:iq base f x a)
 (n:Nat)(z:List UInt8)(u:G.eval y=.slice (some ⟨n,0,none⟩) 1 1)(o:f.cell? ⟨n,0,none⟩=some (sv z))(r:a.length<=1000000)(b:base<=f.heap.size)
 (B:∀g d w',iq base w' (.slice (some ⟨g,0,none⟩) (a.length+1) d) (a++[z])->Below base f w'->wpList Tryz.prog O P rest (G.put H.dst (.slice (some ⟨g,0,none⟩) (a.length+1) d)) w'):wpList Tryz.prog O P (H::rest) G f:=by
 obtain⟨v,q,k,l,m⟩:=fh Tryz.MU;refine fN f i w y 56 s base 9 v (.string ⟨#[]⟩) 1 16 Tryz.underlying56 q k l m rfl (by decide) x a.length (a.map sv) t h ⟨n,0,none⟩ 1 1 [sv z] u (by simp)
  (by intro C I e
      match C,e with
      |0,e=>simp at e;subst e;rw[cz];simpa using o)
  (by intro F j;simp at j;subst j;rfl) (by unfold maxLen;omega) (by omega) b ?_
 intro E w' c p _;obtain⟨g,d,rfl⟩:=jy c;exact B g d w' (by simpa [iq]using c) ((ah base f).grown p b fun D A=>(bn h D A).1)
theorem JK(Yx:Nat)(Yz:bg)(g:bu)(x:List (List UInt8))(a:Option Addr)(Zg:Nat)(Q:World)(Yt:nA Q Yx Yz g)(K:lW Yz g)(u:ks Q.heap.size Q a x)(YP:∀k,k<x.length->(x[k]?.getD []).length<=4096)(Y9:x.length<=5000):
 Calls Tryz.prog 48 #[.pointer (some ⟨Yx,0,none⟩),.slice a x.length Zg] Q fun Yo X=>pz Yx Yz g (jO::x) Q Yo X:=by
 have Ym:=hid Yt;obtain⟨Zr,Zt,YW,YX,Yq,YZ,Y0,Y2,YJ,Y3,Y4⟩:=Yt.open;obtain⟨ZB,Yl⟩:=dV K.2;have Yu:=hid (xr x [] a none Zg 0 Q u (fun ZG Yv=>by simp at Yv) YP Y9 (by simp));have w:Yx<Q.heap.size:=(ak.1 Yq).1;have Y6:=hid (fun B(h:Below Q.heap.size Q B)=>(YJ.below h).mono h.size);have Y5:=hid (fun k K=>eo (Yl k K));have YO:=hid (fun B(h:Below Q.heap.size Q B)=>show B.cell? ⟨Yx,1,none⟩=some (.slice YW g.length YX)from(h.cell (p:=⟨Yx,1,none⟩) w).trans ((dp Yq 1).trans rfl));have Zh:(g.length:Int)<=8:=by omega
 clear Yq YZ YJ u YP Yt K Yl Y0 Y2 Y3 Y4;go_enter Tryz.func48,Tryz.ntmps48;go_wp2_with fail;refine Yu.out.mono ?_;rintro Yo m⟨E,⟨ZH,YU,l,rfl,_⟩|⟨l,rfl⟩⟩
 ·obtain⟨rfl,_⟩:=tD l
  have Zi:=YO.out m E;have J:Hid (∀c,fg g c->dm Yz g [jO] Yz g (if g=[]then [45]else Lib.join c [59,32]) 0):=fun c YY=>⟨rfl,rfl,rfl,c,YY,rfl⟩
  clear l Yu;by_cases y:g=[]
  ·subst y
   go_wp2;go_ret;exact .same Ym.out E (J.out [] rfl) (.inl ⟨rfl,rfl⟩)
  ·have Zb:0<g.length:=kN.2 y
   have Zk:((g.length:Int)==0)=false:=by rw[aW];omega
   have YB:=hid y;clear y;go_wp2;go_loopw [5,21](fun Ze YU wr=>∃(k:Nat)(c:List (List UInt8)),k<=g.length∧YU=.int .i64 (k:Int)∧Hid (iq m.heap.size wr Ze c∧fg (g.take k) c)∧Below m.heap.size m wr)(fun _ YU _=>g.length-(intOf YU).toNat)
   case atStart=>exact⟨0,[],bf _,rfl,hid ⟨iq.nil _ _,rfl⟩,ah _ _⟩
   case round=>
    obtain⟨k,c,K,rfl,j,Yr⟩:=hrel;obtain⟨V,W,rfl⟩:=j.out.1.slice;have L:=j.out.2.len.1;have G:=E.trans (Yr.mono E.size);by_cases w:k<g.length
    ·have Y8:(k:Int)<(g.length:Int):=by omega
     obtain⟨ZF,Zp,rfl,ZC,n,q,o,s,Zv,Zw,YI,Yp,Zx,Zy,Zz,ZA⟩:=(Y6.out wr G) k w;obtain⟨YG,YH,_⟩:=Y5.out k w;have YS:=hid (qn w);have Zl:c.length<=8:=by rw[L,cX];omega
     clear L;generalize(g[k]?.getD ([],[])).1=R at*;generalize(g[k]?.getD ([],[])).2=S at*;obtain⟨b,z⟩:∃b,wr.alloc (.cells #[.slice n R.length q,.slice o S.length s] 70)=b:=⟨_,rfl⟩;have e:Below wr.heap.size wr b:=by rw[<-z];exact(ah _ _).alloc (af _) _
     have F:eT b wr.heap.size 70 (.slice n R.length q) (.slice o S.length s):=by rw[<-z];exact eT.new wr _ _ _
     have YC:=hid z;have t:Below b.heap.size b b.drew:=bD (ah _ b) 1;have Y:=hid (zX R n q b.drew YG ((YI.below (e.trans (t.mono e.size))).mono (aK e.size t.size)));have Z:=hid (fun Yy(u:Below b.heap.size b Yy)=>zX S o s Yy YH ((Yp.below (e.trans (u.mono e.size))).mono (aK e.size u.size)));have C:=hid (fun Yy(u:Below b.heap.size b Yy)=>(show Yy.cell? ⟨wr.heap.size,0,none⟩=some (.slice n R.length q)∧Yy.cell? ⟨wr.heap.size,1,none⟩=some (.slice o S.length s)from⟨(F.below u F.lt).cell0,(F.below u F.lt).dh⟩));have Ye:=C.out b (ah _ _);have Yi:=C.out b.drew t;have M:=Yr.trans (e.mono Yr.size);have Yc:=hid (j.out.1.below e);have YL:=hid j.out.2;have YQ:Hid (some wr.heap.size≠(Value.slice V c.length W).ownBlock):=fun Yo=>by
      obtain⟨_,Zu,p,YY⟩:=j.out.1.block Yo.symm;exact absurd (ak.1 YY).1 (by omega)
     have YN:=hid (fun f(d:Below b.heap.size b f)(Zq:List UInt8)=>(show Hid (∀B:World,B.heap=(f.alloc (.cells #[sv Zq] 9)).heap->iq m.heap.size B (.slice V c.length W) c∧B.cell? ⟨f.heap.size,0,none⟩=some (sv Zq))from fun B h=>⟨wI (Yc.out.below d) (fun ZD Zc=>by rw[h];exact cM f _ ZD (ak.1 (((Yc.out.below d).block Zc).2.choose_spec.choose_spec)).1),(dp (by rw[h];exact aM f _) 0).trans rfl⟩));have YM:=hid (fun B D(l:B.cell? ⟨wr.heap.size,0,none⟩=some (.slice n R.length q)∧B.cell? ⟨wr.heap.size,1,none⟩=some (.slice o S.length s))(Y7:World.grownBy B D (Value.slice V c.length W).ownBlock)=>(show D.cell? ⟨wr.heap.size,0,none⟩=some (.slice n R.length q)∧D.cell? ⟨wr.heap.size,1,none⟩=some (.slice o S.length s)from by
      have Yj:=Y7.block wr.heap.size (by simpa using fx l.1) YQ.out;exact⟨(aH (a:=⟨wr.heap.size,0,none⟩) Yj).trans l.1,(aH (a:=⟨wr.heap.size,1,none⟩) Yj).trans l.2⟩))
     clear YI Yp z YG YH F j;go_wp2_with fail;rw[YC.out];go_region_held3(fun X=>X.cell? ⟨wr.heap.size,0,none⟩=some (.slice n R.length q)∧X.cell? ⟨wr.heap.size,1,none⟩=some (.slice o S.length s))(first|assumption|exact Ye|exact Yi|exact Yf|exact Yg|exact H _|exact Yh)(first
      |(go_at_call_of 78(Value.slice n R.length q);refine Y.out.mono ?_;rintro Yo Yw⟨N,O,rfl,T⟩;have v:=t.trans (T.mono t.size);have Yf:=C.out Yw v;have Zm:=O.len;have YD:=hid O;clear O;have Za:¬9223372036854775807<N.length+3:=by omega)
      |(go_at_call_of 78(Value.slice o S.length s);refine(Z.out Yw v).mono ?_;rintro Yo f⟨U,P,rfl,YF⟩;have d:=v.trans (YF.mono v.size);have Yg:=C.out f d;have H:=(fun Zo=>C.out (f.alloc Zo) (d.alloc d.size Zo));have Zn:=P.len;have YE:=hid P;clear P;have Zj:¬9223372036854775807<N.length+3+U.length:=(by omega);have Zd:m.heap.size<=f.heap.size:=aK M.size d.size;have h:=YN.out f d (N++[32,62,32]++U))
      |(refine EE _ (by rfl) _ _ (by rfl) m.heap.size (.slice V c.length W) c (by rfl) (h.out _ (by rfl)).1 f.heap.size (N++[32,62,32]++U) (by rfl) (h.out _ (by rfl)).2 (by omega) (by simp;omega) ?_;intro Yp Zs D Yd Yk Yn;have Yh:=YM.out _ D (H _) Yk))
     have A:=M.trans (d.mono M.size);have YT:Hid (Below m.heap.size m D):=by first|exact(A.alloc A.size _).trans Yn|exact(bD (A.alloc A.size _) 1).trans Yn
     have YA:=hid Yd;have YR:Hid (fg (g.take (k+1)) (c++[N++[32,62,32]++U])):=by
      show fg _ _;rw[YS.out];exact fg.snoc (r:=(R,S)) YD.out YE.out YL.out
     clear Yn Yk Ye Yi Yf Yg H Yh Y Z C T YF v d Yd;go_wp2;go_roundw
     case rel=>exact⟨k+1,_,by omega,by go_num,hid ⟨by simpa using YA.out,YR.out⟩,YT.out⟩
     case measure=>simp[intOf];omega
    ·obtain rfl:k=g.length:=by omega
     have i:=j.out.2;rw[cJ]at i;have Yv:=i.join;have YK:=hid (GD j.out.1 (by rw[i.len.1];exact Zb) (by rw[i.len.1];omega) [59,32] (by omega));have I:=J.out c i;rw[aE YB.out]at I;have YV:=hid I;clear j i Yv L I J;go_wp2_with fail;refine YK.out.mono ?_;rintro Yo Yw⟨rfl,T⟩;go_wp2;go_ret;exact .same Ym.out (G.trans (T.mono G.size)) YV.out (.inl ⟨rfl,rfl⟩)
 ·obtain⟨ZE,Zf,rfl⟩:=r6 l
  clear l Yu YO;go_wp2;exact⟨rfl,.same Ym.out E (vu (.inr (.inr rfl)) ZE Zf) (.inr ⟨by decide,rfl⟩)⟩
theorem dC.QM(d:Bool)(f:TypeId)(b c:Nat)(a:World)(g:b<=a.heap.size):dC d f b c (a.alloc (.cells #[] f)) (.slice (some ⟨a.heap.size,0,none⟩) 0 0) []:=
 ⟨[],⟨rfl,.inr ⟨a.heap.size,0,#[],rfl,g,aM a _,af _,by unfold maxLen;omega,rfl,rfl⟩⟩,fun h e=>by simp at e⟩
theorem uk{E:bg}{R:bu}(b:F=pK∧A=[61]∨F=mr∧A=[62])(d:eN L [mu,A,mu]=none):dm E R (F::L) E R [] 1:=by
 match L,d with
 |[],_=>rcases b with⟨rfl,_⟩|⟨rfl,_⟩<;>simp[dm,pK,mr,kj,jO,mA]
 |[_],_=>rcases b with⟨rfl,_⟩|⟨rfl,_⟩<;>simp[dm,pK,mr,nI]
 |[_,_],_=>rcases b with⟨rfl,_⟩|⟨rfl,_⟩<;>simp[dm,pK,mr,nh,kS]
 |[g,i,h],d=>
  have c:¬(i=A∧(aO g).2=0∧(aO h).2=0):=fun⟨a,e,f⟩=>by
   rcases b with⟨_,rfl⟩|⟨_,rfl⟩<;>simp[eN,mu,a,e,f]at d
  unfold dm;dsimp only
  rcases b with⟨rfl,rfl⟩|⟨rfl,rfl⟩
  ·rw[aE (fun a=>c a.2),aE (fun a=>absurd a.1 (by decide))]
   exact⟨rfl,rfl,rfl⟩
  ·rw[aE (fun a=>absurd a.1 (by decide)),aE (fun a=>c a.2)]
   exact⟨rfl,rfl,rfl⟩
 |_::_::_::_::_,_=>exact⟨rfl,rfl,rfl⟩
theorem Kn(c:Nat)(t:Value)(d:bu)(b:World)(j:c<=b.heap.size)(e:dC false 70 c c b t d)(w:d.length<=8):
 Calls Tryz.prog 73 #[t] b fun q m=>∃l,q=.returned l∧dC false 70 b.heap.size c m l d∧Below b.heap.size b m:=by
 obtain⟨n,p,rfl⟩:=e.slice;have a:(binOp .eql 31 (.slice n d.length p) (.slice none 0 0)).run Tryz.prog b=.ok (.bool n.isNone) b:=lI b _ _ _ _ _ _ _ Tryz.underlying31;cases n with
 |none=>
  have f:d=[]:=by
   obtain⟨y,r,_⟩:=e;rcases r.2 with⟨_,s⟩|⟨_,_,_,q,_⟩
   ·exact bJ s
   ·cases q
  subst f;replace a:(binOp .eql 31 (.slice none 0 p) (.slice none 0 0)).run Tryz.prog b=.ok (.bool true) b:=a;clear e;go_enter Tryz.func73,Tryz.ntmps73;go_wp2;go_ret;exact⟨_,rfl,dC.nil _ _ _ _,ah _ _⟩
 |some x=>
  replace a:(binOp .eql 31 (.slice (some x) d.length p) (.slice none 0 0)).run Tryz.prog b=.ok (.bool false) b:=a;have h:Below b.heap.size b (b.alloc (.cells #[] 70)):=(ah _ _).alloc (af _) _;have i:=hid (e.below h);have f:=hid (dC.QM false 70 b.heap.size c b (af _));clear e;go_enter Tryz.func73,Tryz.ntmps73;go_wp2_with(at_builtin;refine Mb _ rfl _ _ rfl b.heap.size c j _ [] rfl f.out _ d rfl c i.out (by simp;omega) (by simp) ?_;intro z A g _ o)
  have k:=hid g;obtain⟨u,v,rfl⟩:=g.slice;clear g;go_ret;exact⟨_,rfl,by simpa [Hid]using k,h.trans o⟩
theorem Lz(q:Nat)(E:bg)(R:bu)(I:List (List UInt8))(a:Option Addr)(Zh:Nat)(Q:World)(YC:nA Q q E R)(H:lW E R)(YO:ks Q.heap.size Q a I)(YR:∀k,k<I.length->(I[k]?.getD []).length<=4096)(Ze:I.length<=5000):
 Calls Tryz.prog 46 #[.pointer (some ⟨q,0,none⟩),.slice a I.length Zh] Q fun Ye Y=>pz q E R (mr::I) Q Ye Y:=by
 have Yz:=hid YC;have Zc:=(dV H.2).1;have z:=YC.lt;have YD:=hid (ui I [mu,[62],mu] a Zh Q YO YR Ze (by simp));obtain⟨Zm,Zg,G,Zb,N⟩:=YC;have Yk:=hid (fun m(o:Below Q.heap.size Q m)=>N.below o);have YP:=hid (fun m(o:Below Q.heap.size Q m)=>show m.cell? ⟨q,1,none⟩=some Zg from(o.cell (p:=⟨q,1,none⟩) z).trans ((dp G 1).trans rfl));obtain⟨Z,Yd,rfl⟩:=N.slice;clear G Zb N YO YR H;go_enter Tryz.func46,Tryz.ntmps46;go_wp2_with fail;refine YD.out.mono ?_;rintro Ye b⟨r,⟨Zn,Zo,n,rfl,YV⟩|⟨n,rfl⟩⟩
 ·obtain⟨Yw,Yx,rfl,Yu,Yv,rfl⟩:=wB (by decide) n
  obtain⟨F,Zk,rfl,YE,V⟩:=YV.cells (by simp);obtain⟨d,g,Yf,Yh⟩:=V 0 (by simp);obtain⟨e,h,Yg,Yi⟩:=V 1 (by simp);replace Yf:b.cell? ⟨F,0,none⟩=some (.slice d (aO Yw).1.length g):=Yf;replace Yh:cU Q.heap.size b (.slice d (aO Yw).1.length g) (aO Yw).1:=Yh;replace Yg:b.cell? ⟨F,1,none⟩=some (.slice e (aO Yx).1.length h):=Yg;replace Yi:cU Q.heap.size b (.slice e (aO Yx).1.length h) (aO Yx).1:=Yi;have YH:=hid (And.intro Yu Yv);have Yq:Hid (dm E R [mr,Yw,[62],Yx] E (if cm (R++[((aO Yw).1,(aO Yx).1)])=0 then R++[((aO Yw).1,(aO Yx).1)]else R) OJ (cm (R++[((aO Yw).1,(aO Yx).1)]))):=by
   unfold Hid dm;dsimp only
   rw[aE (fun YM=>absurd YM.1 (by decide)),aD ⟨rfl,rfl,YH.out⟩];exact⟨rfl,rfl,rfl,rfl⟩
  clear YD n Yu Yv YH YV V;generalize(aO Yw).1=v at*;generalize(aO Yx).1=w at*;obtain⟨_,_,D,YT,YX,YY⟩:=fW.new (fl:=false) (base:=q+1) Yh (.inr z);cases D;obtain⟨_,_,D,YU,YZ,Y0⟩:=fW.new (fl:=false) (base:=q+1) Yi (.inr z);cases D;have j:Below b.heap.size b b.drew:=bD (ah _ b) 1;have Zj:=r.trans (j.mono r.size);have x:=hid (fun m(o:Below b.heap.size b m)=>show m.cell? ⟨q,1,none⟩=some (.slice Z R.length Yd)∧m.cell? ⟨F,0,none⟩=some (.slice d v.length g)∧m.cell? ⟨F,1,none⟩=some (.slice e w.length h)from⟨YP.out m (r.trans (o.mono r.size)),(o.cell (p:=⟨F,0,none⟩) YE).trans Yf,(o.cell (p:=⟨F,1,none⟩) YE).trans Yg⟩);have Yl:=x.out b (ah _ _);have Ym:=fun YW=>x.out (b.drew.alloc YW) (j.alloc j.size YW)
  have YB:=hid (fun m(o:Below b.heap.size b m)=>Kn (q+1) _ R m (aK z (aK r.size o.size)) (Yk.out m (r.trans (o.mono r.size))) Zc);have Yo:=hid (fun c l(f:Below b.heap.size b c)(t:dC false 70 b.heap.size (q+1) c l R)=>(show Hid (∀m:World,m.heap=(c.alloc (.cells #[.slice d v.length g,.slice e w.length h] 70)).heap->dC false 70 b.heap.size (q+1) m l R∧fW false (q+1) m d v∧fW false (q+1) m e w∧m.cell? ⟨c.heap.size,0,none⟩=some (.slice d v.length g)∧m.cell? ⟨c.heap.size,1,none⟩=some (.slice e w.length h))from fun m o=>by
   have H:∀P,P<c.heap.size->m.heap[P]?=c.heap[P]?:=fun P A=>by rw[o];exact cM c _ P A
   have n:c.heap.size<=m.heap.size:=by rw[o];simp
   have s:m.heap[c.heap.size]?=some (.cells #[.slice d v.length g,.slice e w.length h] 70 (0,0)):=by rw[o];exact aM c _
   exact⟨t.eV n (fun P A=>H P (t.block A).2.1) (fun P A _=>H P A),(YT.below f).eV n (fun P A _=>H P A),(YU.below f).eV n (fun P A _=>H P A),(dp s 0).trans rfl,(dp s 1).trans rfl⟩))
  have Yp:=hid (fun c l(t:dC false 70 (b.drew.alloc (.cells #[.slice d v.length g,.slice e w.length h] 70)).heap.size (q+1) c l R)(C:Below (b.drew.alloc (.cells #[.slice d v.length g,.slice e w.length h] 70)).heap.size (b.drew.alloc (.cells #[.slice d v.length g,.slice e w.length h] 70)) c)=>(show Below b.heap.size b c∧dC false 70 b.heap.size (q+1) c l R∧Hid (fW false (q+1) c d v∧fW false (q+1) c e w∧c.cell? ⟨b.heap.size,0,none⟩=some (.slice d v.length g)∧c.cell? ⟨b.heap.size,1,none⟩=some (.slice e w.length h))from by
   have YA:=j.alloc j.size (.cells #[.slice d v.length g,.slice e w.length h] 70);have f:=YA.trans (C.mono YA.size);have s:=(C.block b.heap.size (by simp)).trans (aM b.drew (.cells #[.slice d v.length g,.slice e w.length h] 70));exact⟨f,t.mono YA.size,YT.below f,YU.below f,(dp s 0).trans rfl,(dp s 1).trans rfl⟩))
  have U:=hid (fun m u l c(t:dC false 70 b.heap.size (q+1) c l R)(n:m.cell? ⟨q,1,none⟩=some (.slice Z R.length Yd)∧m.cell? ⟨F,0,none⟩=some (.slice d v.length g)∧m.cell? ⟨F,1,none⟩=some (.slice e w.length h))(y:World.grownBy m u l.ownBlock)=>(show u.cell? ⟨q,1,none⟩=some (.slice Z R.length Yd)∧u.cell? ⟨F,0,none⟩=some (.slice d v.length g)∧u.cell? ⟨F,1,none⟩=some (.slice e w.length h)from by
   have s:∀YF,YF<b.heap.size->YF<m.heap.size->u.heap[YF]?=m.heap[YF]?:=fun YF s Zf=>y.block YF Zf fun Ye=>by have:=(t.block Ye.symm).1;omega
   have Zd:=s q (by have:=r.size;omega) (by simpa using fx n.1);have Yr:=s F YE (by simpa using fx n.2.1);exact⟨(aH (a:=⟨q,1,none⟩) Zd).trans n.1,(aH (a:=⟨F,0,none⟩) Yr).trans n.2.1,(aH (a:=⟨F,1,none⟩) Yr).trans n.2.2⟩))
  have X:q+1<=b.heap.size:=aK z r.size;clear Yh Yi Yf Yg;go_wp2;go_region_held3(fun Y=>Y.cell? ⟨q,1,none⟩=some (.slice Z R.length Yd)∧Y.cell? ⟨F,0,none⟩=some (.slice d v.length g)∧Y.cell? ⟨F,1,none⟩=some (.slice e w.length h))(first|assumption|exact Yl|exact Ym _|exact L|exact Yn _|exact T)((first
   |(go_at_call 73;refine(YB.out b.drew j).mono ?_;rintro Ye c⟨l,rfl,t,C⟩;have f:=j.trans (C.mono j.size);have L:=x.out c f;have Yn:=(fun YW=>x.out (c.alloc YW) (f.alloc f.size YW));have O:=t.mono j.size;have B:=Yo.out c l f O;have YS:=f.size)
   |(go_at_call 73;refine(YB.out (b.drew.alloc (.cells #[.slice d v.length g,.slice e w.length h] 70)) (j.alloc j.size _)).mono ?_;rintro Ye c⟨l,rfl,t,C⟩;obtain⟨f,O,M⟩:=Yp.out c l t C;have L:=x.out c f;have YS:=f.size)
   |(refine uW _ (by rfl) _ _ (by rfl) b.heap.size (q+1) X l R (by rfl) (B.out _ (by rfl)).1 c.heap.size d e v w g h (by rfl) (B.out _ (by rfl)).2.2.2.1 (B.out _ (by rfl)).2.2.2.2 (B.out _ (by rfl)).2.1 (B.out _ (by rfl)).2.2.1 YX YY YZ Y0 (by omega) (by simp;omega) ?_;intro YL YJ u K y Yc;have T:=U.out _ u l c O (Yn _) y)
   |(refine uW c (by rfl) _ _ (by rfl) b.heap.size (q+1) X l R (by rfl) O b.heap.size d e v w g h (by rfl) M.out.2.2.1 M.out.2.2.2 M.out.1 M.out.2.1 YX YY YZ Y0 (by omega) (by omega) ?_;intro YL YJ u K y Yc;have T:=U.out c u l c O L y)
   |fail))
  all_goals(
   have Y8:Hid (Below b.heap.size b u):=by first|exact(f.alloc f.size _).trans Yc|exact f.trans Yc
   have YG:=r.trans (Y8.out.mono r.size);have Y7:=hid (K.mono X);obtain⟨Y9,Za,D,Y2,_,_⟩:=K.at;have S:=lf (R++[(v,w)]) Y9 Za u Y2;have Yt:(R++[(v,w)]).length=R.length+1:=by simp
   rw[Yt]at S D;obtain⟨rfl,_,rfl⟩:=vM D;have Y4:=hid S;have W:=hid Yq.out;clear D Y2 S Yt K Yc y T Yo Yp U Yl Ym L YB x Yq C O t;generalize cm (R++[(v,w)])=YK at*;go_wp2_with fail;refine Y4.out.mono ?_;rintro Ye Yj⟨rfl,YI⟩;have Yy:=YG.trans (YI.mono YG.size);by_cases G:YK=0
   ·subst G
    have J:=Yz.out.below Yy;have YN:=hid (J.Dd (Y7.out.below YI));have Zi:Yj.frozen? ⟨q,1,none⟩=false:=by obtain⟨_,_,YM,_⟩:=J;simp[World.frozen?,YM]
    have YQ:∃Y3,Yj.cell? ⟨q,1,none⟩=some Y3:=by obtain⟨_,Y3,YM,_⟩:=J;exact⟨Y3,(dp YM 1).trans rfl⟩
    obtain⟨Y3,Zl⟩:=YQ;have Y6:=hid ((mN.of (RB z) Yy).trans (mN.set (i:=1) Yj (.slice (some ⟨YL,0,none⟩) (R.length+1) YJ)));clear J;go_wp2_with fail;refine(s8 _).mono ?_;rintro Ye Yj⟨rfl,rfl⟩;go_wp2;go_ret;exact⟨Y6.out,E,_,OJ,0,W.out,YN.out,.inl ⟨rfl,rfl⟩⟩
   ·have s:=hid (r8 YK G)
    go_wp2_with fail;refine(s.out _).mono ?_;rintro Ye c⟨rfl,rfl⟩;go_wp2;have N:=W.out;rw[aE G]at N;exact⟨rfl,.same Yz.out Yy N (.inr ⟨G,rfl⟩)⟩)
 ·have Y5:=hid (uk (E:=E) (R:=R) (.inr ⟨rfl,rfl⟩) n)
  clear n YD Yk YP;go_wp2;exact⟨rfl,.same Yz.out r Y5.out (.inr ⟨by decide,rfl⟩)⟩
theorem Az(a:fQ t=0)(g:Tm.err d=0)(h:Tm.err z=0):t.length<=40∧fQ (t++[(d,z)])=if t.length=40 then 2 else 0:=by
 have e:∀f:bg,du f=0->du (f++[(d,z)])=0:=by
  intro f;induction f with
  |nil=>intro _;simp[du,eU,g,h]
  |cons k f i=>
   intro a;rw[du]at a;rw[bc,du];by_cases c:eU k.1 k.2=0
   ·rw[aD c]at a⊢;exact i a
   ·rw[aE c]at a;exact absurd a c
 unfold fQ at a⊢;by_cases b:40<t.length
 ·rw[aD b]at a;cases a
 ·rw[aE b]at a
  refine⟨by omega,?_⟩;rw[ai,iH];by_cases j:t.length=40
  ·rw[aD (by omega),aD j]
  ·rw[aE (by omega),aE j,e t a]
theorem sY(e:(aO A).2=0):Tm.err (aO A).1=0:=by
 rcases qD A with⟨f,b,c,d,_,_,a⟩|⟨_,_,a⟩
 ·rw[a];exact Tr.IV b c d
 ·rw[a]at e;exact absurd e (by decide)
theorem nA.QO(s:nA u e t h)(y:u.cell? ⟨e,0,none⟩=some B)(f:Below u.heap.size u V)(o:V.grownBy C B.ownBlock)(A:dC false 79 (e+1) (e+1) C (.slice (some ⟨K,0,none⟩) (t.length+1) W) J):
 C.heap[e]?=u.heap[e]?∧nA (C.setCell ⟨e,0,none⟩ (.slice (some ⟨K,0,none⟩) (t.length+1) W)) e J h∧mN e u (C.setCell ⟨e,0,none⟩ (.slice (some ⟨K,0,none⟩) (t.length+1) W)):=by
 have g:=(let⟨_,_,H,_⟩:=s;(ak.1 H).1:e<u.heap.size);obtain⟨i,z,q,r,n⟩:=s;obtain rfl:i=B:=by rw[dp q 0]at y;simpa using y
 have c:∀d,i.ownBlock=some d->e+1<=d∧∃m,u.heap[d]?=some (.cells m 79 (0,0)):=fun d b=>⟨(r.block b).1,(r.block b).2.2⟩
 have b:∀d,d<u.heap.size->i.ownBlock≠some d->C.heap[d]?=u.heap[d]?:=fun d b w=>(o.block d (df b f.size) (Ne.symm w)).trans (f.block d b)
 have v:C.heap[e]?=u.heap[e]?:=b e g fun j=>by have:=(c e j).1;omega
 have D:dC false 70 (e+1) (e+1) C z h:=n.Bz (aK f.size o.size) (fun G x=>b G (n.block x).2.1 fun j=>by
  obtain⟨_,_,m,k⟩:=n.block x;obtain⟨_,l,a⟩:=c G j;rw[k]at a;simp at a) (fun F _⟨m,L,k⟩=>b F (ak.1 k).1 fun j=>by
  obtain⟨_,l,a⟩:=c F j;rw[k]at a;simp at a)
 refine⟨v,⟨_,z,(xv (v.trans q) _).1,A.OQ,D.OQ⟩,mN.trans ⟨(f.mono (RB g)).trans ((ah e V).grown o (aK (RB g) f.size) fun d j=>by have:=(c d j).1;omega),fun d I p _ E=>(b d (ak.1 p).1 fun j=>?_).trans p⟩ (mN.set C _)⟩;obtain⟨_,l,a⟩:=c d j;rw[p]at a;exact E _ _ (rz a)
theorem OC(d:Nat)(E:bg)(R:bu)(x:List (List UInt8))(a:Option Addr)(YQ:Nat)(s:World)(Yg:nA s d E R)(w:lW E R)(Yq:ks s.heap.size s a x)(Yw:∀k,k<x.length->(x[k]?.getD []).length<=4096)(YG:x.length<=5000):
 Calls Tryz.prog 45 #[.pointer (some ⟨d,0,none⟩),.slice a x.length YQ] s fun Yz YP=>pz d E R (pK::x) s Yz YP:=by
 have P:=hid Yg;have y:=Yg.lt;have Yh:=hid (ui x [mu,[61],mu] a YQ s Yq Yw YG (by simp));obtain⟨YO,YX,Yo,Ye,YC⟩:=Yg;have I:=hid (fun m(n:Below s.heap.size s m)=>Ye.below n);have Yi:=hid (fun m(n:Below s.heap.size s m)=>show m.cell? ⟨d,0,none⟩=some YO from(n.cell (p:=⟨d,0,none⟩) y).trans ((dp Yo 0).trans rfl));obtain⟨z,B,rfl⟩:=Ye.slice;clear Yo Ye YC Yq Yw;go_enter Tryz.func45,Tryz.ntmps45;go_wp2_with fail;refine Yh.out.mono ?_;rintro Yz b⟨j,⟨Y0,Y2,r,rfl,Yy⟩|⟨r,rfl⟩⟩
 ·obtain⟨Y,Z,rfl,L,M,rfl⟩:=wB (by decide) r
  obtain⟨T,YW,rfl,Yv,K⟩:=Yy.cells (by simp);obtain⟨c,h,Q,N⟩:=K 0 (by simp);obtain⟨e,i,S,O⟩:=K 1 (by simp);replace Q:b.cell? ⟨T,0,none⟩=some (.slice c (aO Y).1.length h):=Q;replace N:cU s.heap.size b (.slice c (aO Y).1.length h) (aO Y).1:=N;replace S:b.cell? ⟨T,1,none⟩=some (.slice e (aO Z).1.length i):=S;replace O:cU s.heap.size b (.slice e (aO Z).1.length i) (aO Z).1:=O;have Ym:=hid (And.intro L M);obtain⟨YR,X⟩:=Az w.1 (sY L) (sY M);have u:Hid (dm E R [pK,Y,[61],Z] (if fQ (E++[((aO Y).1,(aO Z).1)])=0 then E++[((aO Y).1,(aO Z).1)]else E) R OJ (fQ (E++[((aO Y).1,(aO Z).1)]))):=by
   unfold Hid dm;dsimp only
   rw[aD ⟨rfl,rfl,Ym.out⟩];exact⟨rfl,rfl,rfl,rfl⟩
  rw[X]at u;clear Yh r L M Ym Yy K X w;generalize(aO Y).1=G at*;generalize(aO Z).1=H at*;have YD:(E.length:Int)<=40:=by omega
  have V:=Yi.out b j;by_cases D:E.length=40
  ·have Yp:((E.length:Int)==40)=true:=by rw[RQ];omega
   have l:=u.out;rw[aD D,aE (by decide)]at l;have Yc:=hid l;clear u l N O Q S D;go_wp2;exact⟨rfl,.same P.out j Yc.out (.inr ⟨by decide,rfl⟩)⟩
  ·have Yp:((E.length:Int)==40)=false:=by rw[aW];omega
   have l:=u.out;rw[aE D,aD rfl]at l;have Yc:=hid l;clear u l D;obtain⟨_,_,Yd,YI,YK,YL⟩:=fW.new (fl:=false) (base:=d+1) N (.inr y);cases Yd;obtain⟨_,_,Yd,YJ,YM,YN⟩:=fW.new (fl:=false) (base:=d+1) O (.inr y);cases Yd;have U:Below b.heap.size b b.drew:=bD (ah _ b) 1;have YV:d+1<=b.heap.size:=aK y j.size;have o:Hid (∀m:World,m.heap=(b.alloc (.cells #[.slice c G.length h,.slice e H.length i] 79)).heap->dC false 79 (d+1) (d+1) m (.slice z E.length B) E∧fW false (d+1) m c G∧fW false (d+1) m e H∧m.cell? ⟨b.heap.size,0,none⟩=some (.slice c G.length h)∧m.cell? ⟨b.heap.size,1,none⟩=some (.slice e H.length i)):=fun m n=>by
    have Yx:=I.out b j;have w:∀F,F<b.heap.size->m.heap[F]?=b.heap[F]?:=fun F q=>by rw[n];exact cM b _ F q
    have r:b.heap.size<=m.heap.size:=by rw[n];simp
    have Yr:m.heap[b.heap.size]?=some (.cells #[.slice c G.length h,.slice e H.length i] 79 (0,0)):=by rw[n];exact aM b _
    exact⟨Yx.eV r (fun F q=>w F (Yx.block q).2.1) (fun F q _=>w F q),YI.eV r (fun F q _=>w F q),YJ.eV r (fun F q _=>w F q),(dp Yr 0).trans rfl,(dp Yr 1).trans rfl⟩
   have v:=hid (fun m f C A(t:dC false 79 (d+1) (d+1) f (.slice (some ⟨C,0,none⟩) (E.length+1) A) (E++[(G,H)]))(Yf:Below s.heap.size s m)(g:World.grownBy m f (Value.slice z E.length B).ownBlock)=>P.out.QO (Yi.out s (ah _ _)) Yf g t);have W:=hid (fun m f(n:m.heap=(b.alloc (.cells #[.slice c G.length h,.slice e H.length i] 79)).heap)(g:World.grownBy m f (Value.slice z E.length B).ownBlock)=>(show f.cell? ⟨d,0,none⟩=some (.slice z E.length B)∧f.frozen? ⟨d,0,none⟩=false from by
    obtain⟨YY,YZ,YH,_⟩:=P.out.below j;have Yu:f.heap[d]?=b.heap[d]?:=(g.block d (by rw[n];simp;omega) (fun Yz=>by have:=((I.out b j).block Yz.symm).1;omega)).trans (by rw[n];exact cM b _ d (by omega));exact⟨(aH (a:=⟨d,0,none⟩) Yu).trans V,by simp[World.frozen?,Yu,YH]⟩))
   have YT:(b.alloc (.cells #[.slice c G.length h,.slice e H.length i] 79)).cell? ⟨d,0,none⟩=some (.slice z E.length B):=(aH (a:=⟨d,0,none⟩) (cM b _ d (by omega))).trans V;have Yt:(b.alloc (.cells #[.slice c G.length h,.slice e H.length i] 79)).cell? ⟨T,0,none⟩=some (.slice c G.length h)∧(b.alloc (.cells #[.slice c G.length h,.slice e H.length i] 79)).cell? ⟨T,1,none⟩=some (.slice e H.length i):=⟨(aH (a:=⟨T,0,none⟩) (cM b _ T Yv)).trans Q,(aH (a:=⟨T,1,none⟩) (cM b _ T Yv)).trans S⟩;obtain⟨YE,YF⟩:=Yt;clear N O;go_wp2;go_region_law((refine uQ _ (by rfl) _ _ (by rfl) (d+1) (d+1) (af _) (.slice z E.length B) E (by rfl) (o.out _ (by rfl)).1 b.heap.size c e G H h i (by rfl) (o.out _ (by rfl)).2.2.2.1 (o.out _ (by rfl)).2.2.2.2 (o.out _ (by rfl)).2.1 (o.out _ (by rfl)).2.2.1 YK YL YM YN (by omega) (by simp;omega) ?_;intro C A f t g YB;have J:=W.out _ f (by rfl) g;have YS:=J.1;have YU:=J.2))
   all_goals(
    have Yf:Hid (Below s.heap.size s (b.drew.alloc (.cells #[.slice c G.length h,.slice e H.length i] 79))):=j.trans ((U.alloc U.size _).mono j.size);have D:Hid (nA (f.setCell ⟨d,0,none⟩ (.slice (some ⟨C,0,none⟩) (E.length+1) A)) d (E++[(G,H)]) R∧mN d s (f.setCell ⟨d,0,none⟩ (.slice (some ⟨C,0,none⟩) (E.length+1) A))):=by first|exact(v.out _ f C A t Yf.out g).2|exact(v.out _ f C A t (bD (j.trans (((ah _ b).alloc (af _) _).mono j.size)) 1) g).2
    obtain⟨Yj,Yn⟩:=D.out;have Yk:=hid Yj;have Yl:=hid Yn;clear Yj Yn J W v o t g YB;go_wp2;go_ret;exact⟨Yl.out,_,R,OJ,0,Yc.out,Yk.out,.inl ⟨rfl,rfl⟩⟩)
 ·have YA:=hid (uk (E:=E) (R:=R) (.inl ⟨rfl,rfl⟩) r)
  clear r Yh I Yi;go_wp2;exact⟨rfl,.same P.out j YA.out (.inr ⟨by decide,rfl⟩)⟩
def Nt(D:Nat)(x:List UInt8)(f:Nat):Prop:=∀(E:bg)(R:bu)(ws:List (List UInt8))(a:Option Addr)(c:Nat)(w:World),nA w D E R->lW E R->ks w.heap.size w a ws->(∀k,k<ws.length->(ws[k]?.getD []).length<=4096)->ws.length<=5000->
 Calls Tryz.prog f #[.pointer (some ⟨D,0,none⟩),.slice a ws.length c] w fun e w'=>pz D E R (x::ws) w e w'
theorem Ps(e:Nat)(g:List UInt8):(∃f,lk (Lc e) g=some (mv f e)∧(∀args b,(callFunc f args).run Tryz.prog b=.ok (.enter f args) b)∧Nt e g f)∨(lk (Lc e) g=none∧∀(a:bg)(R:bu)(ws:List (List UInt8)),dm a R (g::ws) a R [] 1):=by
 unfold Lc;simp only[lk];by_cases i:g=kS
 ·subst i;exact .inl ⟨_,aD rfl,iW Tryz.func52 (by kernel_rfl) rfl,fun a R ws c d b h _=>JL e a R ws c d b h⟩
 rw[aE i];by_cases j:g=mA
 ·subst j;exact .inl ⟨_,aD rfl,iW Tryz.func51 (by kernel_rfl) rfl,fun a R ws c d b h _=>LX e a R ws c d b h⟩
 rw[aE j];by_cases k:g=nh
 ·subst k;exact .inl ⟨_,aD rfl,iW Tryz.func50 (by kernel_rfl) rfl,fun a R ws c d b h _=>L5 e a R ws c d b h⟩
 rw[aE k];by_cases l:g=nI
 ·subst l;exact .inl ⟨_,aD rfl,iW Tryz.func49 (by kernel_rfl) rfl,fun a R ws c d b h _=>Mk e a R ws c d b h⟩
 rw[aE l];by_cases m:g=jO
 ·subst m;exact .inl ⟨_,aD rfl,iW Tryz.func48 (by kernel_rfl) rfl,fun a R ws c d b=>JK e a R ws c d b⟩
 rw[aE m];by_cases n:g=kj
 ·subst n;exact .inl ⟨_,aD rfl,iW Tryz.func47 (by kernel_rfl) rfl,fun a R ws c d b h _=>JQ e a R ws c d b h⟩
 rw[aE n];by_cases o:g=mr
 ·subst o;exact .inl ⟨_,aD rfl,iW Tryz.func46 (by kernel_rfl) rfl,fun a R ws c d b=>Lz e a R ws c d b⟩
 rw[aE o];by_cases p:g=pK
 ·subst p;exact .inl ⟨_,aD rfl,iW Tryz.func45 (by kernel_rfl) rfl,fun a R ws c d b=>OC e a R ws c d b⟩
 rw[aE p];refine .inr ⟨rfl,fun a R ws=>?_⟩;match ws with
 |[]=>simp[dm,n,m,j]
 |[_]=>simp[dm,l]
 |[_,_]=>simp[dm,k,i]
 |[_,_,_]=>simp[dm,p,o]
 |_::_::_::_::_=>exact⟨rfl,rfl,rfl⟩
theorem LM(h:Addr)(e:World):CallsD Tryz.prog 24 #[.pointer (some h)] .returning e fun g c d=>g=.returned (.tuple #[])∧c=.returning∧d=e:=by
 refine RJ Tryz.func24 rfl fun a f b=>?_
 apply wpS_seq;apply RT;simp[wpOpsS,go_sem,recoverD,b,Tryz.ntmps24,Exit.thenS];simp only[bM,bQ,cE,bV,bc,Rq,RA,jD,bY];refine Sa ?_;go_wp2;cases a;simp_all[bodyPostS,results,Tryz.results24]
theorem AM(e a:Nat)(s:a<=6)(b:World)(c:Boxed b e 9 (.string ⟨#[]⟩)):
 CallsD Tryz.prog 24 #[.pointer (some ⟨e,0,none⟩)] (.panicking (sf (a:Int))) b fun j g h=>j=.returned (.tuple #[])∧g=.panicking [{v:=.iface 22 (.int .i64 (a:Int)),recovered:=true}]∧
  h=b.setCell ⟨e,0,none⟩ (sv (tK++Lib.decDigits a)):=by
 refine RJ Tryz.func24 rfl fun q p d=>?_
 have o:=c.cell;have r:=c.frozen;unfold sf at d;have m:∀(i:TypeId)(b:World),(Instr.typeAssert (.iface 22 (.int .i64 (a:Int))) i 22 false).run Tryz.prog b=.ok (.int .i64 (a:Int)) b:=fun _ _=>by kernel_rfl
 have f:=hid (zt a (by omega) b);have k:=nZ (n:=a) (by omega);have l:¬9223372036854775807<6+(Lib.decDigits a).length:=by omega
 apply wpS_seq;apply RT;simp[wpOpsS,go_sem,recoverD,d,Tryz.ntmps24,Exit.thenS];simp only[bM,bQ,cE,bV,bc,Rq,RA,jD,bY];refine Sa ?_;go_wp2_with fail;refine f.out.mono ?_;rintro j t⟨rfl,rfl⟩;go_wp2;exact⟨rfl,_,rfl,_,mb rfl _ _ _,rfl,rfl,rfl⟩
