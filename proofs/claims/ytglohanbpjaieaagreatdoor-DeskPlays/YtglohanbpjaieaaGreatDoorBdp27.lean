/-
  Parts of the proof.
-/
import Derived.Test.YtglohanbpjaieaaGreatDoorBdp26
set_option maxHeartbeats 4000000
set_option maxRecDepth 100000
namespace Go.Proofs.YtglohanbpjaieaaGreatDoor
open Go.Proofs Go.RowKit Go.Shelf Go.Maps
variable {B:Oper}{D N:Value}{E:Addr}{G:Int}{H:List Value}{K:Array Oper}{L:Exit->Act->World->Prop}{M:Array Value}{O:Func}{P:ByteArray}{b m:Nat}{d h t:World}{e I:bg}{g Q:List UInt8}{q J:bu}{s:List (List UInt8)}{u:Act}{y A:TypeId}{z F:List Int}
theorem vj(f:O.results=#[.cell b 9])(c:M.getD b undef=.pointer (some ⟨m,0,none⟩))(e:d.cell? ⟨m,0,none⟩=some (.string P)):(results O M).run Tryz.prog d=.ok (.string P) d:=by
 have a:M[b]?.getD undef=.pointer (some ⟨m,0,none⟩):=by rw[<-c];simp
 simp only[results,f];simp[go_sem,a,e]
theorem nA.kept(f:nA d b e q)(o:d.heap.size<=h.heap.size)(c:∀(k:Nat)(a:Array Value)(r:TypeId)(p:Nat×Nat),d.heap[k]?=some (.cells a r p)->(r=33∨r=79∨r=70∨r=3)->h.heap[k]?=d.heap[k]?):nA h b e q:=by
 obtain⟨t,u,j,l,m⟩:=f;have n:∀i,b+1<=i->(∃a p,d.heap[i]?=some (.cells a 3 p))->h.heap[i]?=d.heap[i]?:=fun i _⟨a,p,f⟩=>c i a _ p f (.inr (.inr (.inr rfl)))
 exact⟨t,u,(c b _ _ _ j (.inl rfl)).trans j,l.Bz o (fun s g=>by obtain⟨_,_,a,f⟩:=l.block g;exact c s a _ _ f (.inr (.inl rfl))) n,m.Bz o (fun s g=>by obtain⟨_,_,a,f⟩:=m.block g;exact c s a _ _ f (.inr (.inr (.inl rfl)))) n⟩
theorem nA.box(c:nA d m e q)(f:Boxed d b 9 D):nA (d.setCell ⟨b,0,none⟩ N) m e q:=by
 refine c.kept (by simp) fun h i l k a g=>aT _ ⟨b,0,none⟩ _ h (show h≠b from fun j=>?_)
 subst j;rw[show d.heap[h]?=_ from f]at a;simp at a;obtain⟨_,rfl,_⟩:=a;rcases g with c|c|c|c<;>exact absurd c (by decide)
theorem mN.box(f:mN b h t)(c:Boxed h d.heap.size 9 D)(g:b<d.heap.size):Boxed t d.heap.size 9 D:=
 f.2 _ _ c (fun a=>by cases a;omega) (fun i e a=>by simp at a)
theorem mN.end(g:mN b d h)(i:b<d.heap.size):mN b d (h.setCell ⟨d.heap.size,0,none⟩ D):=
 ⟨g.1.setCell (p:=⟨d.heap.size,0,none⟩) (show b<=d.heap.size by omega) _,fun f j c a e=>(aT _ ⟨d.heap.size,0,none⟩ _ f (show f≠d.heap.size by have:=(ak.1 c).1;omega)).trans (g.2 f j c a e)⟩
theorem wv(c:List UInt8)(a:(b:Int)≠0):gW c (b:Int)=tK++Lib.decDigits b:=by
 unfold gW;rw[aE a,tz]
theorem Nn(K:Nat)(X:bg)(Z:bu)(l:List UInt8)(YA:Int)(g:World)(T:nA g K X Z)(F:lW X Z)(G:l.length<=4096)(U:g.cell? ⟨0,0,none⟩=some (.int .i64 YA)):
 Calls Tryz.prog 11 #[.pointer (some ⟨K,0,none⟩),sv l] g fun Q Yp=>∃q R' o R,dm X Z (fV 32 l) q R' o R∧Q=.returned (sv (gW o R))∧nA Yp K q R'∧mN K g Yp:=by
 have Yz:∀(Yi:Fn)(first H:Array Value)(g:World),(Instr.makeFunc Yi first H).run Tryz.prog g=.ok (.func Yi first H) g:=fun _ _ _ _=>rfl
 have e:=T.lt;obtain⟨n,m⟩:∃n,g.alloc (.cells #[.string ⟨#[]⟩] 9)=n:=⟨_,rfl⟩;have u:Below g.heap.size g n:=by rw[<-m];exact(ah _ _).alloc (af _) _
 have Yh:Boxed n g.heap.size 9 (.string ⟨#[]⟩):=by rw[<-m];exact dt g _ _
 have Yk:=hid (GC l YA n G ((u.cell (p:=⟨0,0,none⟩) (fx U)).trans U));have y:Hid (∀k h,fV 32 l=k::h->k.length<=4096∧(∀Yn,Yn<h.length->(h[Yn]?.getD []).length<=4096)∧h.length<=5000):=fun k h YF=>by
  have c:=lO 32 l;have Yj:=jB 32 l;rw[YF]at c Yj;refine⟨aK (c k (by simp)) G,fun Yn F=>?_,by have:=kx (a:=(32:UInt8)) (l:=l);simp at Yj;omega⟩;rw[an F];exact aK (c _ (by simp)) G
 have Yf:=hid m;have Yr:=hid T;have Yg:=hid F;have J:g.heap.size<n.heap.size:=Yh.lt;clear m U G T F;go_enter_defers Tryz.func11,Tryz.ntmps11
 go_wp2_with fail;rw[Yf.out];refine Yk.out.mono ?_;rintro Q Yu⟨k,h,a,YB,V,rfl,Yl,D⟩;have Yc:=u.trans (D.mono u.size);obtain⟨YG,Yw,Yx⟩:=y.out k h V;have N:=hid V;clear Yk y V;go_wp2_with fail;refine(LQ K Yu).mono ?_;rintro Q W⟨rfl,⟨⟨Y,E,d⟩,t⟩⟩;have Yd:=Yc.trans (t.mono Yc.size);have i:Boxed W g.heap.size 9 (.string ⟨#[]⟩):=(t.block _ (df J D.size)).trans ((D.block _ J).trans Yh);have v:=(Yl.below t).mono t.size;have x:=tV Tryz.underlying9 (s:=⟨k.toArray⟩) (by show k.toArray.size<=maxLen;simp[maxLen];omega);have P:=mN.of (RB e) Yd;have L:=Yr.out.below Yd;clear D t Yl;rcases Ps K k with⟨f,c,Yy,I⟩|⟨c,w⟩
 ·have A:(Y (sv k)).getD .nilFunc=mv f K:=by rw[d,c];rfl
  have z:(Y (sv k)).isSome=true:=by rw[d,c];rfl
  have S:=hid (I X Z h a YB W L Yg.out v Yw Yx);have M:=hid E;have B:=hid A;have O:=hid z;clear A z E d c I L v;unfold mv at B;go_wp2_with(first
   |(at_lookup;refine FP _ JT (by rfl) _ _ _ (by rfl) _ Tryz.underlying61 (Tryz.zeroValue59 _) _ _ Y (by rfl) M.out (sv k) _ (by rfl) x _ _ B.out O.out ?_)
   |fail)
  refine S.out.mono ?_;rintro Q Yv⟨C,q,R',o,R,j,Ye,⟨rfl,rfl⟩|⟨Ym,rfl⟩⟩
  ·have b:=C.box i e
   have YC:=b.cell;have YE:=b.frozen;rw[<-N.out]at j;have r:=hid j;clear j S;go_wp2;refine RH (f:=24) (args:=#[.pointer (some ⟨g.heap.size,0,none⟩)]) (by simp) (by simp[go_sem]) ?_;refine(LM ⟨g.heap.size,0,none⟩ _).mono ?_;rintro Q Yo Yq⟨rfl,rfl,rfl⟩;refine⟨_,vj rfl rfl (b.set _).cell,?_⟩;exact⟨q,R',o,0,r.out,rfl,Ye.box b,(P.trans C).end e⟩
  ·have b:=C.box i e
   rw[<-N.out]at j;obtain⟨_,Yt,YD⟩:=j.ok Yg.out;obtain⟨Yn,rfl⟩:=Rx Yt;have r:=hid j;clear j S;go_wp2;refine RH (f:=24) (args:=#[.pointer (some ⟨g.heap.size,0,none⟩)]) (by simp) (by simp[go_sem]) ?_;refine(AM g.heap.size Yn (by omega) Yv b).mono ?_;rintro Q Yo Yq⟨rfl,rfl,rfl⟩;refine⟨_,vj rfl rfl (b.set _).cell,?_⟩;exact⟨q,R',o,_,r.out,by rw[wv o Ym],Ye.box b,(P.trans C).end e⟩
 ·have A:(Y (sv k)).getD .nilFunc=.nilFunc:=by rw[d,c];rfl
  have z:(Y (sv k)).isSome=false:=by rw[d,c];rfl
  have r:=hid (w X Z h);have M:=hid E;have B:=hid A;have O:=hid z;clear A z E d c v w;go_wp2_with(first
   |(at_lookup;refine FP _ JT (by rfl) _ _ _ (by rfl) _ Tryz.underlying61 (Tryz.zeroValue59 _) _ _ Y (by rfl) M.out (sv k) _ (by rfl) x _ _ B.out O.out ?_)
   |fail)
  refine RH (f:=24) (args:=#[.pointer (some ⟨g.heap.size,0,none⟩)]) (by simp) (by simp[go_sem]) ?_;refine(AM g.heap.size 1 (by omega) W i).mono ?_;rintro Q Yo Yq⟨rfl,rfl,rfl⟩;refine⟨_,vj rfl rfl (i.set _).cell,?_⟩;exact⟨X,Z,[],1,by rw[N.out];exact r.out,rfl,L.box i,P.end e⟩
section
attribute [local go_sem] Oper.semAt_some
def mQ(ls:List (List UInt8)):List UInt8:=(ls.map (·++[10])).flatten
theorem wE(a:b<s.length):mQ (s.drop b)=(s[b]?.getD [])++10::mQ (s.drop (b+1)):=by
 rw[bZ a,an a];show(s[b]++[10])++mQ (s.drop (b+1))=_;simp
theorem yx{ls:List (List UInt8)}:∀i,(mQ (ls.drop i)).length<=(mQ ls).length
 |0=>af _
 |i+1=>by
  refine aK ?_ (yx i);by_cases a:i<ls.length
  ·rw[wE a];simp;omega
  ·rw[vz (by omega)];simp[mQ]
theorem EL:∀(n:Nat)(b:List UInt8),b.length<=n->(b=[]∨b.getLast?=some 10)->mQ (gV b)=b∧∀l∈gV b,10∉l:=by
 intro n;induction n with
 |zero=>
  intro b e _;obtain rfl:b=[]:=bJ (by omega);exact⟨rfl,fun l a=>by simp[gV,fV]at a⟩
 |succ n j=>
  intro b e f;rcases f with rfl|f
  ·exact⟨rfl,fun l a=>by simp[gV,fV]at a⟩
  ·obtain⟨k,c,rfl,d⟩:=th (List.mem_of_getLast? f)
   rw[zJ d];have i:c=[]∨c.getLast?=some 10:=by
    cases c with
    |nil=>exact .inl rfl
    |cons m c=>right;simpa [List.getLast?_append,List.getLast?_cons_cons]using f
   obtain⟨g,h⟩:=j c (by simp at e;omega) i;refine⟨by show(k++[10])++mQ (gV c)=_;rw[g];simp,fun l a=>?_⟩;rcases dA.1 a with rfl|a
   ·exact d
   ·exact h l a
theorem Qn{l r:List UInt8}{k:Nat}(e:l.length=k):(⟨(l++10::r).toArray⟩:ByteArray).extract 0 (k+1)=⟨(l++[10]).toArray⟩∧(⟨(l++10::r).toArray⟩:ByteArray).extract (k+1) (l++10::r).length=⟨r.toArray⟩:=by
 subst e;have d:∀(c:List UInt8)(a b:Nat),(⟨c.toArray⟩:ByteArray).extract a b=⟨((c.drop a).take (b-a)).toArray⟩:=fun c a b=>by
  apply tU;apply Array.toList_inj.1;simp[ByteArray.data_extract]
 rw[d,d];constructor
 ·rw[sH,Nat.sub_zero,show l++10::r=(l++[10])++r by simp,ra (by simp),Ry (by simp)]
 ·rw[show l++10::r=(l++[10])++r by simp,ku (by simp),jX (by simp),bV,Ry (by simp;omega)]
def Qh:Option Value->Nat
 |some (.string s)=>s.size
 |_=>0
theorem LB(f:List UInt8)(b:World):Calls Tryz.prog 9 #[sv f] b fun g d=>g=.returned (.func (.func 21) #[] #[.pointer (some ⟨b.heap.size,0,none⟩)])∧d=b.alloc (.cells #[sv f] 9):=by
 have e:∀(c:Fn)(first a:Array Value)(b:World),(Instr.makeFunc c first a).run Tryz.prog b=.ok (.func c first a) b:=fun _ _ _ _=>rfl
 go_enter Tryz.func9,Tryz.ntmps9;go_wp2;go_ret;exact⟨rfl,rfl⟩
theorem J7(O:Fence)(hF:O=Fence.wide)(n e:Nat)(ls:List (List UInt8))(D:∀l∈ls,10∉l)(Z:(mQ ls).length<=5000):
 EO O n Tryz.prog 21 #[.pointer (some ⟨e,0,none⟩)] (fun M=>#[sv ((ls[M]?.getD [])++[10])]) ls.length (fun M N=>Boxed N e 9 (sv (mQ (ls.drop M)))) (fun M N=>N.setCell ⟨e,0,none⟩ (sv (mQ (ls.drop (M+1))))):=by
 intro l Yh Yj Yi N X h E W;obtain⟨I,q,p,v⟩:=jk hF;have Q:=hid hF;clear hF;have w:=q 21;have Y:=q 22;have R:=hid E;have y:=hid h;clear E h;refine fE Tryz.func21 rfl w ?_ I;simp only[Tryz.ntmps21,cY,aI,bH,Nat.reduceAdd,Nat.reduceSub,bM,bQ,cE,bY,bV,bc];gi_wp2
 gi_loopw [3](fun _ wr=>∃c:Nat,c<=ls.length∧Yh c wr)(fun _ wr=>Qh (wr.cell? ⟨e,0,none⟩))
 case atStart=>exact⟨0,bf _,W⟩
 case round=>
  obtain⟨c,Yl,g⟩:=hrel;have d:=y.out c wr g;have f:=d.cell;have V:=d.frozen;have i:=yx (ls:=ls) c;by_cases a:c<ls.length
  ·have G:=wE a
   have j:(10:UInt8)∉ls[c]?.getD []:=by rw[an a];exact D _ (ee a)
   have K:=hid (fun k=>R.out c (wr.drewN k) (X _ _ _ none g (gI (bD (ah _ wr) k)) (fun r A=>by cases A)) a);have z:=hid (y.out (c+1));have s:=vi (b:=mQ (ls.drop (c+1))) j;rw[G]at d f i;generalize ls[c]?.getD []=m at*;generalize mQ (ls.drop (c+1))=r at*;obtain⟨B,C⟩:=Qn (l:=m) (r:=r) (k:=m.length) rfl;have u:Calls Tryz.prog 22 #[sv (m++10::r),.int .u8 10] wr fun A Yd=>A=.returned (.int .i64 (m.length:Int))∧Yd=wr:=by
    have Yf:=yp ⟨(m++10::r).toArray⟩ 10 wr;rw[show Lib.indexByte (⟨(m++10::r).toArray⟩:ByteArray).data.toList 10=_ from s]at Yf;exact Yf
   have t:(m++10::r).length=m.length+1+r.length:=by simp;omega
   obtain⟨x,L⟩:∃x,m++10::r=x:=⟨_,rfl⟩;rw[L]at d f B C u t i;have Ym:(m.length:Int)+1<=(x.length:Int):=by omega
   have Yn:(x.length:Int)<=5000:=by omega
   have Ye:r.length<x.length:=by omega
   have P:=hid (v (n:=n-1) u);have F:=hid f;clear s G t L i j u;gi_wp2_with(first
    |((try refine⟨p _,?_⟩);gi_at_call 22;refine P.out.mono ?_;rintro A S⟨rfl,rfl⟩)
    |fail)
   rw[Q.out];refine RN.2 ?_;go_region
   obtain⟨Yk,Yc,assign,body,Yg,h⟩:YieldAt O (n-1) Tryz.prog l #[sv (m++[10])] (S.setCell ⟨e,0,none⟩ (sv r)).drew _:=K.out 1;clear K f V d B C;gi_wp2_with((try refine⟨p _,?_⟩);refine h.mono ?_;clear h;rintro A T(⟨rfl,o⟩|⟨rfl,J⟩|⟨U,rfl,H⟩))
   ·exact⟨⟨c+1,by omega,o⟩,by rw[(z.out T o).cell,F.out];show r.toArray.size<x.toArray.size;simpa using Ye⟩
   ·refine fI (mb rfl _ _ _) rfl ?_
    exact .inl ⟨⟨_,rfl⟩,.inr J⟩
   ·exact⟨rfl,.inr ⟨U,rfl,H⟩⟩
  ·obtain rfl:c=ls.length:=by omega
   rw[eu]at d f;gi_wp2
   go_end0
   exact .inl ⟨⟨_,rfl⟩,.inl g⟩
end
theorem dm.len(a:dm e q s I J g G)(j:lW e q)(i:G=0):g.length<=80000:=by
 subst i;have c:∀d,(qY d).length<=3:=fun d=>by cases d<;>simp[qY]
 match s,a with
 |[m],a=>
  unfold dm at a;dsimp only at a
  split at a
  ·obtain⟨_,l,n,o,_,a⟩:=a
   have:=nZ (n:=n) (by have:=(xt o).2;omega)
   have:=nZ (n:=l.length) (by have:=(dV (uN o)).1;omega)
   rw[a rfl];simp;omega
  ·split at a
   ·obtain⟨_,_,_,p,b,rfl⟩:=a
    have:=b.join
    have:=(dV j.2).1
    split
    ·simp
    ·omega
   ·split at a
    ·obtain⟨_,_,k,_,a⟩:=a
     have:=c k
     rw[a rfl];omega
    ·exact absurd a.2.2 (by decide)
 |[m,f],a=>
  unfold dm at a;dsimp only at a
  split at a
  ·obtain⟨_,_,h,a⟩:=a
   obtain⟨r,b,rfl⟩:=a rfl;have:=b.len
   have:=nZ (n:=(bU q (aO f).1).2.1) (by have:=(tH h.symm).2;omega)
   simp;omega
  ·exact absurd a.2.2 (by decide)
 |[m,f,d],a=>
  unfold dm at a;dsimp only at a
  split at a
  ·rw[a.2.2.2 rfl]
   exact aK (c _) (by omega)
  ·split at a
   ·rw[a.2.2.2 rfl]
    exact aK (c _) (by omega)
   ·exact absurd a.2.2 (by decide)
 |[m,f,t,d],a=>
  unfold dm at a;dsimp only at a
  split at a
  ·rw[a.2.2.2];decide
  ·split at a
   ·rw[a.2.2.2];decide
   ·exact absurd a.2.2 (by decide)
 |[],a=>exact absurd a.2.2 (by decide)
 |_::_::_::_::_::_,a=>exact absurd a.2.2 (by decide)
theorem sA(c:dm e q s I J g G)(a:lW e q):(gW g G).length<=80000:=by
 unfold gW;split
 ·next b=>exact c.len a b
 ·have:=(c.ok a).2
  have:=nZ (n:=G.toNat) (by unfold jz at this;omega)
  simp[tK];omega
theorem Cn(v:Lib.IsBuilderF y A b m H d)(j:∀(k:Nat)(l:Array Value)(t:TypeId)(p:Nat×Nat),d.heap[k]?=some (.cells l t p)->(t=y∨t=A)->h.heap[k]?=d.heap[k]?):Lib.IsBuilderF y A b m H h:=by
 have a:∀p,Lib.BuilderAtF y A b m p H d->Lib.BuilderAtF y A b m p H h:=fun p⟨o,x,f,g,q⟩=>by
  refine⟨o,x,(j _ _ _ _ f (.inl rfl)).trans f,⟨g.1,?_⟩,q⟩;rcases g.2 with s|⟨u,c,e,n,rfl,r,i,w⟩
  ·exact .inl s
  ·exact .inr ⟨u,c,e,n,rfl,r,(j _ _ _ _ i (.inr rfl)).trans i,w⟩
 exact v.imp (a _) (a _)
structure oC(w:World)(E:bg)(R:bu)(out rest:List UInt8)(W:World):Prop where
 dk:nA W w.heap.size E R
 dv:Boxed W (w.heap.size+1) 29 (.pointer (some ⟨w.heap.size,0,none⟩))
 bd:Lib.IsBuilderF 37 5 (w.heap.size+2) (w.heap.size+2) (Lib.byteCells out) W
 bs:Boxed W (w.heap.size+3) 9 (sv rest)
 kp:Below w.heap.size w W
theorem oC.eV{rest:List UInt8}{W':World}(i:oC h e q g rest d)(j:Below h.heap.size d W')(l:∀(k:Nat)(a:Array Value)(f:TypeId)(p:Nat×Nat),h.heap.size<=k->d.heap[k]?=some (.cells a f p)->W'.heap[k]?=d.heap[k]?):oC h e q g rest W':=by
 have b:∀(k:Nat)(a:Array Value)(f:TypeId)(p:Nat×Nat),d.heap[k]?=some (.cells a f p)->W'.heap[k]?=d.heap[k]?:=fun k a f p c=>by
  by_cases m:h.heap.size<=k
  ·exact l k a f p m c
  ·exact j.block k (by omega)
 exact⟨i.dk.kept j.size (fun k a f p c _=>b k a f p c),(b _ _ _ _ i.dv).trans i.dv,Cn i.bd (fun k a f p c _=>b k a f p c),(b _ _ _ _ i.bs).trans i.bs,i.kp.trans j⟩
theorem oC.own{rest:List UInt8}{row:Option Nat}(p:oC h e q g rest d)(a:h.heap.size<=b)(f:d.grownBy t row)(j:∀n,row=some n->b<=n∧∃o:Obj,d.heap[n]?=some o∧o.isCells=false):oC h e q g rest t:=by
 refine p.eV ((ah _ d).grown f p.kp.size fun k l=>aK a (j k l).1) fun k r u s _ c=>f.block k (ak.1 c).1 fun l=>?_
 obtain⟨_,o,i,m⟩:=j k l.symm;rw[c]at i;cases i;simp[Obj.isCells]at m
theorem oC.next{f j:World}{l:bg}{m:bu}{g rest:List UInt8}(k:List UInt8)(h:oC f l m g rest j):oC f l m g k (j.setCell ⟨f.heap.size+3,0,none⟩ (sv k)):=by
 have c:∀(e:Nat)(b:Array Value)(i:TypeId)(p:Nat×Nat),j.heap[e]?=some (.cells b i p)->i≠9->(j.setCell ⟨f.heap.size+3,0,none⟩ (sv k)).heap[e]?=j.heap[e]?:=fun e b i p a d=>aT _ ⟨f.heap.size+3,0,none⟩ _ e (show e≠f.heap.size+3 from fun n=>by
  subst n;rw[show j.heap[f.heap.size+3]?=_ from h.bs]at a;simp at a;exact d a.2.1.symm)
 exact⟨h.dk.kept (by simp) (fun e b i p a d=>c e b i p a (by rcases d with rfl|rfl|rfl|rfl<;>decide)),(c _ _ _ _ h.dv (by decide)).trans h.dv,Cn h.bd (fun e b i p a d=>c e b i p a (by rcases d with rfl|rfl<;>decide)),h.bs.set _,h.kp.setCell (p:=⟨f.heap.size+3,0,none⟩) (by show f.heap.size<=f.heap.size+3;omega) _⟩
theorem oC.PY{rest:List UInt8}(i:oC d I J g rest h)(n:mN d.heap.size h t)(r:nA t d.heap.size e q):oC d e q g rest t:=by
 have b:∀(k:Nat)(c:Array Value)(l:TypeId)(o:Nat×Nat),h.heap[k]?=some (.cells c l o)->l≠79->l≠33->t.heap[k]?=h.heap[k]?:=fun k c l o a f m=>(n.2 k _ a (fun p=>by
  cases p;obtain⟨_,_,j,_⟩:=i.dk;rw[a]at j;simp at j;exact m j.2.1) (fun u s p=>by cases p;exact f rfl)).trans a.symm
 exact⟨r,(b _ _ _ _ i.dv (by decide) (by decide)).trans i.dv,Cn i.bd (fun k c l o a f=>b k c l o a (by rcases f with rfl|rfl<;>decide) (by rcases f with rfl|rfl<;>decide)),(b _ _ _ _ i.bs (by decide) (by decide)).trans i.bs,i.kp.trans n.1⟩
theorem oC.wrote{rest:List UInt8}(a:oC d e q Q rest h)(s:Lib.IsBuilderF 37 5 (d.heap.size+2) (d.heap.size+2) (Lib.byteCells g) t)(m:Below (d.heap.size+2) h t)(u:Lib.OthersKept 5 (some (d.heap.size+2)) h t):oC d e q g rest t:=by
 have c:∀(k:Nat)(f:Array Value)(l:TypeId)(p:Nat×Nat),h.heap[k]?=some (.cells f l p)->l≠5->l≠37->t.heap[k]?=h.heap[k]?:=fun k f l p b i n=>(u k _ b (fun r=>by
  cases r;have:∃w o,h.heap[d.heap.size+2]?=some (.cells #[w,o] 37 (0,0)):=a.bd.elim (fun⟨_,o,a,_⟩=>⟨_,o,a⟩) (fun⟨_,o,a,_⟩=>⟨_,o,a⟩)
  obtain⟨_,_,j⟩:=this;rw[b]at j;simp at j;exact n j.2.1) (fun x v r=>by cases r;exact i rfl)).trans b.symm
 exact⟨a.dk.kept m.size (fun k f l p b i=>c k f l p b (by rcases i with rfl|rfl|rfl|rfl<;>decide) (by rcases i with rfl|rfl|rfl|rfl<;>decide)),(c _ _ _ _ a.dv (by decide) (by decide)).trans a.dv,s,(c _ _ _ _ a.bs (by decide) (by decide)).trans a.bs,a.kp.trans (m.mono (by omega))⟩
theorem oC.new(a:World)(i:List UInt8):oC a [] [] [] i ((((a.alloc (.cells #[.slice none 0 0,.slice none 0 0] 33)).alloc (.cells #[.pointer (some ⟨a.heap.size,0,none⟩)] 29)).alloc (.cells #[.pointer none,.slice none 0 0] 37)).alloc (.cells #[sv i] 9)):=by
 have t:=aM a (.cells #[.slice none 0 0,.slice none 0 0] 33);generalize e:a.alloc (.cells #[.slice none 0 0,.slice none 0 0] 33)=c at*;have n:c.heap.size=a.heap.size+1:=by rw[<-e];simp
 have j:=aM c (.cells #[.pointer (some ⟨a.heap.size,0,none⟩)] 29);have u:=cM c (.cells #[.pointer (some ⟨a.heap.size,0,none⟩)] 29);have p:Below a.heap.size a c:=by rw[<-e];exact(ah _ _).alloc (af _) _
 generalize f:c.alloc (.cells #[.pointer (some ⟨a.heap.size,0,none⟩)] 29)=d at*;have o:d.heap.size=a.heap.size+2:=by rw[<-f];simp[n]
 have k:=aM d (.cells #[.pointer none,.slice none 0 0] 37);have m:=cM d (.cells #[.pointer none,.slice none 0 0] 37);have q:Below a.heap.size a d:=by rw[<-f];exact p.alloc (by omega) _
 generalize g:d.alloc (.cells #[.pointer none,.slice none 0 0] 37)=b at*;have v:b.heap.size=a.heap.size+3:=by rw[<-g];simp[o]
 have l:=aM b (.cells #[sv i] 9);have h:=cM b (.cells #[sv i] 9);have r:Below a.heap.size a b:=by rw[<-g];exact q.alloc (by omega) _
 have s:Below a.heap.size a (b.alloc (.cells #[sv i] 9)):=r.alloc (by omega) _;generalize b.alloc (.cells #[sv i] 9)=w at*;rw[n]at j;rw[o]at k;rw[v]at l;exact⟨⟨_,_,(h _ (by omega)).trans ((m _ (by omega)).trans ((u _ (by omega)).trans t)),dC.nil _ _ _ _,dC.nil _ _ _ _⟩,(h _ (by omega)).trans ((m _ (by omega)).trans j),
  .inl ⟨af _,_,(h _ (by omega)).trans k,World.ownsRowF_nil _ _ _ _,by simp[Value.ownBlock]⟩,l,s⟩
theorem O1:Lays.n166 Tryz.prog Tryz.lays156_ren:={Tryz.lays156 with}
theorem OX(c d:Nat)(f g:List UInt8)(b:World)(n:Lib.IsBuilderF 37 5 c d (Lib.byteCells f) b)(l:f.length+g.length<=100000000)(e:c<=b.heap.size):Calls Tryz.prog 10 #[.pointer (some ⟨d,0,none⟩),sv g] b fun m a=>(∃v,m=.returned v)∧Lib.IsBuilderF 37 5 c d (Lib.byteCells (f++g)) a∧Below c b a∧Lib.OthersKept 5 (some d) b a:=by
 refine(Any.Builder_WriteString_k O1 Tryz.Builder_Extra_156 c d (Lib.byteCells f) ⟨g.toArray⟩ b n (by rw[Lib.byteCells_length];show f.length+g.toArray.size<=_;simp;omega) e).mono ?_;rintro m a⟨k,h,i,j⟩;exact⟨⟨_,k⟩,.inr (by rw[Lib.byteCells_append];exact h),i,j⟩
def AD:Go.Shelf.Ren:=⟨fun|167=>13|n=>Tryz.lays156_ren.f n,Tryz.lays156_ren.t,Tryz.lays156_ren.g⟩
theorem Pv:Lays.n167 Tryz.prog AD:={Tryz.lays156,Tryz.Builder_Extra_156 with f167:=Tryz.func13.trans (RG some (by kernel_rfl)),f240:=Tryz.lays156.f240,f276:=Tryz.lays156.f276}
theorem Oc:Builder.Extra Tryz.prog AD:={Tryz.Builder_Extra_156 with}
theorem Ou(c d:Nat)(f:List UInt8)(g:UInt8)(b:World)(n:Lib.IsBuilderF 37 5 c d (Lib.byteCells f) b)(l:f.length<=100000000)(e:c<=b.heap.size):Calls Tryz.prog 13 #[.pointer (some ⟨d,0,none⟩),.int .u8 (g.toNat:Int)] b fun m a=>m=.returned .nilIface∧Lib.IsBuilderF 37 5 c d (Lib.byteCells (f++[g])) a∧Below c b a∧Lib.OthersKept 5 (some d) b a:=by
 refine(Any.Builder_WriteByte_k Pv Oc c d (Lib.byteCells f) (g.toNat:Int) b n (by rw[Lib.byteCells_length];omega) e).mono ?_;rintro m a⟨k,h,i,j⟩;exact⟨k,.inr (by rw[Lib.byteCells_append];exact h),i,j⟩
section
attribute [local go_sem] Oper.semAt_some
theorem yt(b:List UInt8):Lib.hasSuffix b [10]=decide (b.getLast?=some 10):=by
 rw[ry,decide_eq_true_iff];unfold Lib.hasSuffix;rw[List.isSuffixOf_iff_suffix];constructor
 ·rintro⟨a,rfl⟩;simp
 ·intro c
  obtain⟨a,rfl⟩:=List.getLast?_eq_some_iff.1 c;exact⟨a,rfl⟩
theorem NU(a:List UInt8):Lib.trimSuffix (a++[10]) [10]=a:=by
 unfold Lib.trimSuffix;rw[yt,aD (by simp)];simp
theorem NP(b:List UInt8)(m:World)(E:b.length<=maxLen)(z:(4096<b.length∨40<b.count 10)∨(b≠[]∧b.getLast?≠some 10)):Calls Tryz.prog 4 #[sv b] m fun k c=>∃t,jE b [] t∧k=.returned (.tuple #[sv [],.int .i64 t])∧c=m:=by
 unfold maxLen at E;have I:(b.length:Int)<=9223372036854775807:=by omega
 obtain⟨B,hF⟩:∃B,B=Fence.wide:=⟨_,rfl⟩;refine(gx (n:=3)).1 ?_;rw[<-hF];obtain⟨j,i,g,f⟩:=jk hF;clear hF;have h:=i 4;have G:=i 7;have H:=i 8;have x:Calls Tryz.prog 7 #[sv b,.string ⟨#[10]⟩] m fun k c=>k=.returned (.int .i64 ((b.count 10:Nat):Int))∧c=m:=Tryz.strings_Count_one ⟨b.toArray⟩ 10 m
 have y:Calls Tryz.prog 8 #[sv b,.string ⟨#[10]⟩] m fun k c=>k=.returned (.bool (decide (b.getLast?=some 10)))∧c=m:=by
  have u:=Tryz.strings_HasSuffix ⟨b.toArray⟩ ⟨#[10]⟩ m (by show b.toArray.size<=_;simp;omega);rw[show Lib.hasSuffix (⟨b.toArray⟩:ByteArray).data.toList (⟨#[10]⟩:ByteArray).data.toList=_ from yt b]at u;exact u
 have q:=hid (fun n=>f (n:=n) x);have r:=hid (fun n=>f (n:=n) y);clear x y;have F:(b.count 10:Int)<=9223372036854775807:=by have:=kx (a:=(10:UInt8)) (l:=b);omega
 generalize e:b.count 10=C at*;by_cases D:4096<b.length
 ·have v:(4096:Int)<(b.length:Int):=by omega
  have d:Hid (jE b [] 2):=by unfold Hid jE;rw[aD (.inl D)];exact⟨rfl,rfl⟩
  clear e;refine eE Tryz.func4 rfl h ?_ j;simp only[Tryz.ntmps4,cY,aI,bH,Nat.reduceAdd,Nat.reduceSub,bM,bQ,cE,bY,bV,bc];gi_wp2
  exact⟨_,rS rfl _ _ _,2,d.out,rfl,rfl⟩
 ·have v:¬(4096:Int)<(b.length:Int):=by omega
  by_cases w:40<C
  ·have p:(40:Int)<(C:Int):=by omega
   have d:Hid (jE b [] 2):=by unfold Hid jE;rw[aD (.inr (by rw[e];exact w))];exact⟨rfl,rfl⟩
   clear e;refine eE Tryz.func4 rfl h ?_ j;simp only[Tryz.ntmps4,cY,aI,bH,Nat.reduceAdd,Nat.reduceSub,bM,bQ,cE,bY,bV,bc];gi_wp2_with((try refine⟨g _,?_⟩);gi_at_call 7;refine(q.out _).mono ?_;rintro k A⟨rfl,rfl⟩)
   exact⟨_,rS rfl _ _ _,2,d.out,rfl,rfl⟩
  ·have p:¬(40:Int)<(C:Int):=by omega
   have o:b≠[]∧b.getLast?≠some 10:=z.resolve_left (by omega);have d:Hid (jE b [] 1):=by unfold Hid jE;rw[aE (by rw[e];omega),aD o];exact⟨rfl,rfl⟩
   have J:(!b.isEmpty)=true:=by simpa using o.1
   have s:Hid (∀n,CallsIn B n Tryz.prog 8 #[sv b,.string ⟨#[10]⟩] m fun k c=>k=.returned (.bool false)∧c=m):=fun n=>by
    have u:=r.out n;rw[Rr o.2]at u;exact u
   clear e o z r;refine eE Tryz.func4 rfl h ?_ j;simp only[Tryz.ntmps4,cY,aI,bH,Nat.reduceAdd,Nat.reduceSub,bM,bQ,cE,bY,bV,bc];gi_wp2_with(first
    |((try refine⟨g _,?_⟩);gi_at_call 7;refine(q.out _).mono ?_;rintro k A⟨rfl,rfl⟩)
    |((try refine⟨g _,?_⟩);gi_at_call 8;refine(s.out _).mono ?_;rintro k A⟨rfl,rfl⟩))
   exact⟨_,rS rfl _ _ _,1,d.out,rfl,rfl⟩
end
section
attribute [local go_sem] Oper.semAt_some
def Ac(w:World)(ls:List (List UInt8))(i j:Nat)(W:World):Prop:=∃E R out,jZ [] [] (ls.take i) E R out∧lW E R∧out.length<=i*90000∧oC w E R out (mQ (ls.drop j)) W
theorem Ac.own(h:d.heap.size<=b)(o:Nat->Nat):OwnFrom b (fun k n=>Ac d s k (o k) n):=by
 rintro k p q row⟨l,m,a,c,e,f,g⟩i j;exact⟨l,m,a,c,e,f,g.own h i j⟩
theorem Ac.step{w W2:World}{E':bg}{R':bu}{o:List UInt8}{er:Int}(d:b<s.length)(f:jZ [] [] (s.take b) e q g)(c:lW e q)(j:g.length<=b*90000)(a:dm e q (fV 32 (s[b]?.getD [])) E' R' o er)(h:oC w E' R' (g++gW o er++[10]) (mQ (s.drop (b+1))) W2):Ac w s (b+1) (b+1) W2:=by
 refine⟨E',R',_,?_,(a.ok c).1,?_,h⟩
 ·have i:=f.snoc a
  rw[dz d];rw[an d]at i;rw[dE];exact i
 ·have:=sA a c
  simp;omega
theorem Ac.set{i:Nat}(p:Ac d s i i h):Ac d s i (i+1) (h.setCell ⟨d.heap.size+3,0,none⟩ (sv (mQ (s.drop (i+1)))))∧∀(k:Nat)(o:Obj),h.heap[k]?=some o->o.isCells=false->(h.setCell ⟨d.heap.size+3,0,none⟩ (sv (mQ (s.drop (i+1))))).heap[k]?=some o:=by
 obtain⟨l,m,c,e,f,g,b⟩:=p;refine⟨⟨l,m,c,e,f,g,b.next _⟩,fun k o a j=>(aT _ ⟨d.heap.size+3,0,none⟩ _ k (show k≠d.heap.size+3 from fun n=>?_)).trans a⟩;subst n;rw[show h.heap[d.heap.size+3]?=_ from b.bs]at a;cases a;simp[Obj.isCells]at j
theorem rG{C:Nat}(i:Lib.OthersKept y (some b) d h)(f:d.heap.size<=h.heap.size)(e:d.heap[b]?=some (.cells #[D,N] A (0,0))):KeepsFrom C d h:=
 ⟨f,fun j k _ c a=>i j k c (fun y=>by cases y;rw[e]at c;cases c;simp[Obj.isCells]at a) (fun l g y=>by rw[y]at a;simp[Obj.isCells]at a)⟩
theorem Aj(a:Lib.IsBuilderF y A m b H d):∃x e,d.heap[b]?=some (.cells #[x,e] y (0,0)):=a.elim (fun⟨_,c,a,_⟩=>⟨_,c,a⟩) (fun⟨_,c,a,_⟩=>⟨_,c,a⟩)
theorem Ob(a:List UInt8)(b:World)(f:a.length<=4096):Calls Tryz.prog 12 #[sv (a++[10]),.string ⟨#[10]⟩] b fun c d=>c=.returned (sv a)∧d=b:=by
 have e:=Tryz.strings_TrimSuffix ⟨(a++[10]).toArray⟩ ⟨#[10]⟩ b (by show(a++[10]).toArray.size<=_;simp;omega);have c:Lib.trimSuffix (⟨(a++[10]).toArray⟩:ByteArray).data.toList (⟨#[10]⟩:ByteArray).data.toList=a:=NU a;rw[c]at e;exact e
theorem Mu(c:List UInt8)(Zf:Int)(w:World)(Yu:w.cell? ⟨0,0,none⟩=some (.int .i64 Zf))(Zk:c.length<=4096)(Y3:c.count 10<=40)(l:c=[]∨c.getLast?=some 10):Calls Tryz.prog 4 #[sv c] w fun u D=>∃K R out,jZ [] [] (gV c) K R out∧u=.returned (.tuple #[sv out,.int .i64 0])∧Below w.heap.size w D:=by
 obtain⟨z,Yj⟩:=EL _ c (af _) l;have Zc:(gV c).length<=40:=by
  unfold gV;rw[List.length_dropLast,jB];omega
 have Yx:(mQ (gV c)).length<=5000:=by rw[z];omega
 obtain⟨YD,hF⟩:∃YD,YD=Fence.wide:=⟨_,rfl⟩;refine(gx (n:=3)).1 ?_;rw[<-hF];obtain⟨y,d,f,b⟩:=jk hF;have YI:=hid hF;clear hF;have Yp:=d 4;have Y5:=d 7;have Y6:=d 9;have Yq:=d 21;have Y7:=d 14;have Y8:=d 8;have Y9:=d 12;have Za:=d 11;have Zb:=d 10;have YQ:=d 13;have Yk:Calls Tryz.prog 7 #[sv c,.string ⟨#[10]⟩] w fun u D=>u=.returned (.int .i64 ((c.count 10:Nat):Int))∧D=w:=Tryz.strings_Count_one ⟨c.toArray⟩ 10 w
 have Yo:c.getLast?=some 10->Calls Tryz.prog 8 #[sv c,.string ⟨#[10]⟩] w fun u D=>u=.returned (.bool true)∧D=w:=fun l=>by
  have m:=Tryz.strings_HasSuffix ⟨c.toArray⟩ ⟨#[10]⟩ w (by show c.toArray.size<=_;simp;omega);rw[show Lib.hasSuffix (⟨c.toArray⟩:ByteArray).data.toList (⟨#[10]⟩:ByteArray).data.toList=true from by rw[show Lib.hasSuffix (⟨c.toArray⟩:ByteArray).data.toList (⟨#[10]⟩:ByteArray).data.toList=_ from yt c,Rw l]]at m;exact m
 have YH:=hid (fun n=>b (n:=n) Yk);have YL:=hid (fun n m=>b (n:=n) (Yo m));have YJ:=hid (fun n h=>b (n:=n) (LB c h));have B:Ac w (gV c) 0 0 _:=⟨[],[],[],⟨rfl,rfl,rfl⟩,⟨by decide,by decide⟩,by simp,by rw[sH,z];exact oC.new w c⟩;obtain⟨q,x⟩:∃q,((((w.alloc (.cells #[.slice none 0 0,.slice none 0 0] 33)).alloc (.cells #[.pointer (some ⟨w.heap.size,0,none⟩)] 29)).alloc (.cells #[.pointer none,.slice none 0 0] 37)).alloc (.cells #[sv c] 9))=q:=⟨_,rfl⟩;rw[x]at B;have Y:=hid B;have Ze:w.heap.size+4=q.heap.size:=by rw[<-x];simp
 have Yc:=hid x;have Y2:¬(4096:Int)<(c.length:Int):=by omega
 have Y4:¬(40:Int)<((c.count 10:Nat):Int):=by omega
 have Yd:=hid Yu;have Zg:=hid l;have Yv:(!c.isEmpty)=false∨(!c.isEmpty)=true∧c.getLast?=some 10:=by
  rcases l with rfl|l
  ·exact .inl rfl
  ·exact .inr ⟨by cases c with|nil=>simp at l|cons _ _=>rfl,l⟩
 have N:Hid (∀i,i<(gV c).length->((gV c)[i]?.getD []).length<=4096):=fun i t=>by
  have Yi:=yx (ls:=gV c) i;rw[wE t,z]at Yi;simp at Yi;omega
 clear Yk Yo x B Yu l z;generalize gV c=ls at*;generalize c.count 10=Zi at*;rcases Yv with YY|⟨YY,YZ⟩
 all_goals(
  refine eE Tryz.func4 rfl Yp ?_ y;simp only[Tryz.ntmps4,cY,aI,bH,Nat.reduceAdd,Nat.reduceSub,bM,bQ,cE,bY,bV,bc];gi_wp2_with(first
   |((try refine⟨f _,?_⟩);gi_at_call 7;refine(YH.out _).mono ?_;rintro u a⟨rfl,rfl⟩)
   |((try refine⟨f _,?_⟩);gi_at_call 8;refine(YL.out _ YZ).mono ?_;rintro u a⟨rfl,rfl⟩)
   |((try refine⟨f _,?_⟩);gi_at_call 9;refine(YJ.out _ _).mono ?_;rintro u Zp⟨rfl,rfl⟩)
   |fail)
  rw[Yc.out];apply wO y (by omega) (gf:=21) (lb:=#[.pointer (some ⟨a.heap.size+3,0,none⟩)]) rfl Yq (iW Tryz.func21 (by kernel_rfl) rfl)
   (J7 YD YI.out _ (a.heap.size+3) ls Yj Yx) (fun _=>rfl)
   (fun i h=>Ac a ls i i h) (fun i h=>Ac a ls i (i+1) h) (fun _ _=>False) (fun _ _=>False) (.inl fun _ _ m=>m)
   (Ac.own (by omega) id) (Ac.own (by omega) (·+1)) (fun i h m _=>m.set)
   (by
     rintro Zh Zq Zr row t Zl Zm;exact t)
   (fun i h⟨K,R,out,r,g,k,e⟩=>e.bs) Y.out
  ·intro YA i h L j
   gi_wp2
   exact j
  ·rintro YA i h⟨K,R,out,r,g,k,e⟩t
   have M:Below h.heap.size h h.drew:=bD (ah _ h) 1;have I:oC a K R out (mQ (ls.drop (i+1))) h.drew:=e.eV (M.mono e.kp.size) (fun _ _ _ _ _ _=>rfl);have Ym:=Nn a.heap.size K R (ls[i]?.getD []) Zf h.drew I.dk g (N.out i t) ((I.kp.cell (p:=⟨0,0,none⟩) (fx Yd.out)).trans Yd.out);have YK:=hid (fun n=>eS YA (b (n:=n) Ym));have Yn:=Ob (ls[i]?.getD []) h.drew (N.out i t);have Z:=hid (fun n=>eS YA (b (n:=n) Yn));have Yw:=hid (fun W2 E' R' o er s P=>Ac.step (w:=a) (W2:=W2) (E':=E') (R':=R') (o:=o) (er:=er) t r g k s P);have Yt:=hid (fun E' R' o er(s:dm K R (fV 32 (ls[i]?.getD [])) E' R' o er)=>sA s g);have Zj:h.cell? ⟨a.heap.size+1,0,none⟩=some (.pointer (some ⟨a.heap.size,0,none⟩)):=e.dv.cell;have Zd:out.length<=4000000:=by omega
   have W:=hid I;have J:Tryz.prog.follows .mixedOrders=true:=by kernel_rfl
   clear Ym Yn e I r g k;generalize ls[i]?.getD []=Zn at*;gi_wp2_with fail
   refine ni y (by kernel_rfl) J ?_;show wpAnyIn YD _ _ _ _ _ 5 (Array.replicate 5 false) _ _;refine Rg (i:=1) (v:=sv (Zn++[10])) y rfl (by kernel_rfl) (by kernel_rfl) (by kernel_rfl) (fun _ _ _ m=>m.2.2.elim) ⟨Or.inl ⟨by rfl,fun w=>by go_simp⟩,fun _=>rfl⟩ ?_;refine Rc (rs:=[0,2]) (by kernel_rfl) (by simp) ?_;refine Ra rfl (fun L j=>?_) (Ra rfl (fun L j=>?_) Rb);focus
    go_simp;refine j _ _ ?_;clear j L;refine Rc (rs:=[2]) (by kernel_rfl) (by simp) ?_;refine Ra rfl (fun L j=>?_) Rb;go_simp;gi_wp2_with((try refine⟨f _,?_⟩);gi_at_call 12;refine(Z.out _).mono ?_;rintro u F⟨rfl,rfl⟩)
   rotate_left
   focus
    go_simp;gi_wp2_with((try refine⟨f _,?_⟩);gi_at_call 12;refine(Z.out _).mono ?_;rintro u F⟨rfl,rfl⟩)
    refine Rc (rs:=[0]) (by kernel_rfl) (by simp) ?_;refine Ra rfl (fun L j=>?_) Rb;go_simp;refine j _ _ ?_;clear j L
   all_goals(
    refine Rc (rs:=[3]) (by kernel_rfl) (by simp) ?_;refine Ra rfl (fun L j=>?_) Rb;go_simp;gi_wp2_with((try refine⟨f _,?_⟩);gi_at_call 11;refine(YK.out _).mono ?_;rintro u G⟨E',R',o,er,s,rfl,T,E⟩)
    have YR:=Yt.out E' R' o er s;have Q:=hid (fun W2 P=>Yw.out W2 E' R' o er s P);have g:=W.out.PY E T;have YU:KeepsFrom q.heap.size h.drew G:=by obtain⟨_,_,m,_⟩:=W.out.dk;exact rG E.2 E.1.size m
    generalize gW o er=YB at*;have Yy:a.heap.size+2<=G.heap.size:=by have:=g.bs.lt;omega
    have YG:=hid (fun n=>eS YA (b (n:=n) (OX (a.heap.size+2) (a.heap.size+2) out YB G g.bd (by omega) Yy)));have U:=hid g;clear s T E g;refine Rc (rs:=[4]) (by kernel_rfl) (by simp) ?_;refine Ra rfl (fun L j=>?_) Rb;go_simp;gi_wp2_with((try refine⟨f _,?_⟩);gi_at_call 10;refine(YG.out _).mono ?_;rintro u H⟨⟨Zo,rfl⟩,Yh,O,S⟩)
    have k:=U.out.wrote Yh O S;have YV:KeepsFrom q.heap.size G H:=rG S O.size (Aj U.out.bd).choose_spec.choose_spec;have Yz:a.heap.size+2<=H.heap.size:=by have:=k.bs.lt;omega
    have X:=hid (fun n=>eS YA (b (n:=n) (Ou (a.heap.size+2) (a.heap.size+2) (out++YB) 10 H k.bd (by simp;omega) Yz)));have V:=hid k;clear Yh O S k;refine Rm (by kernel_rfl) ?_ _;gi_wp2_with((try refine⟨f _,?_⟩);gi_at_call 13;refine(X.out _).mono ?_;rintro u Ye⟨rfl,YM,Yg,YC⟩)
    have e:=V.out.wrote YM Yg YC;have YW:KeepsFrom q.heap.size H Ye:=rG YC Yg.size (Aj V.out.bd).choose_spec.choose_spec;exact⟨((zv M).trans YU).trans (YV.trans YW),Q.out Ye e⟩)
  ·rintro YE h YO⟨K,R,out,r,g,k,e⟩Yl
   have YP:=hid (fun n=>b (n:=n) (Tryz.Builder_String_any_k (a.heap.size+2) (a.heap.size+2) out h e.bd (by have:=e.bs.lt;omega)));have YT:=hid (fun Y0(YN:Below (a.heap.size+2) h Y0)(YS:Lib.OthersKept 5 (some (a.heap.size+2)) h Y0)=>(rG (C:=q.heap.size) YS YN.size (Aj e.bd).choose_spec.choose_spec).same YE _ YO Yl rfl);have Yr:=hid e.kp;rw[cJ]at r;have YF:=hid r;clear r g k e;gi_wp2_with((try refine⟨f _,?_⟩);gi_at_call 14;refine(YP.out _).mono ?_;rintro u F⟨rfl,_,Yf,YX⟩)
   have A:=YT.out F Yf YX;refine⟨by simp,.inl ⟨_,_,rfl,ed A,?_⟩⟩;exact⟨_,rS rfl _ _ _,K,R,out,YF.out,rfl,(Yr.out.trans (Yf.mono (by omega))).trans (uD (w:=a) (af _) F YE _ _ (by omega) A rfl rfl)⟩
  ·rintro YE Zh h _ m _
   exact m.elim
  ·exact fun _ _ _ _ m=>m.elim)
theorem IG(a:List UInt8)(m:Int)(f:World)(l:f.cell? ⟨0,0,none⟩=some (.int .i64 m))(k:a.length<=maxLen):Calls Tryz.prog 4 #[sv a] f fun i e=>∃out b,jE a out b∧i=.returned (.tuple #[sv out,.int .i64 b])∧Below f.heap.size f e:=by
 by_cases d:(4096<a.length∨40<a.count 10)∨(a≠[]∧a.getLast?≠some 10)
 ·refine(NP a f k d).mono ?_
  rintro i e⟨b,c,rfl,rfl⟩;exact⟨[],b,c,rfl,ah _ _⟩
 ·have h:¬(a≠[]∧a.getLast?≠some 10):=fun c=>d (.inr c)
  have j:¬(4096<a.length∨40<a.count 10):=fun c=>d (.inl c)
  refine(Mu a m f l (by omega) (by omega) ?_).mono ?_
  ·by_cases g:a=[]
   ·exact .inl g
   ·exact .inr (Classical.byContradiction fun c=>h ⟨g,c⟩)
  ·rintro i e⟨n,o,out,c,rfl,p⟩
   refine⟨out,0,?_,rfl,p⟩;unfold jE;rw[aE j,aE h];exact⟨rfl,n,o,c⟩
end
theorem yu(a:Bool)(c:World):Calls Tryz.prog 32 #[.bool a] c fun d b=>d=.returned (sv (qY a))∧b=c:=by
 cases a
 all_goals(
  go_enter Tryz.func32,Tryz.ntmps32;go_wp2;go_ret;exact⟨rfl,rfl⟩)
theorem BP:((UInt8.ofNat (48+b%10)).toNat:Int)=48+(b:Int)%10:=by
 rw[UInt8.toNat_ofNat'];omega
theorem zu(a:Nat)(f:a<10)(c:World):Calls Tryz.prog 16 #[.int .i64 (a:Int)] c fun g e=>g=.returned (sv (Lib.decDigits a))∧Below c.heap.size c e:=by
 have h:(a:Int)<10:=by omega
 have i:(0:Int)<=(a:Int):=by omega
 have d:=wF c (UInt8.ofNat (48+a%10)) 5;rw[BP]at d;have b:Lib.decDigits a=[UInt8.ofNat (48+a%10)]:=by rw[Lib.decDigits,dif_pos f,Nat.mod_eq_of_lt f]
 rw[b];clear b;generalize UInt8.ofNat (48+a%10)=j at*;go_enter Tryz.func16,Tryz.ntmps16;go_wp2;go_ret;exact⟨rfl,(ah _ _).alloc (af _) _⟩
theorem qE(n:Nat)(u:n<100)(a:World):Calls Tryz.prog 16 #[.int .i64 (n:Int)] a fun k j=>k=.returned (sv (Lib.decDigits n))∧Below a.heap.size a j:=by
 by_cases c:n<10
 ·exact zu n c a
 ·have o:¬(n:Int)<10:=by omega
  have r:(n:Int)<100:=by omega
  have p:(0:Int)<=(n:Int):=by omega
  have i:=wF a (UInt8.ofNat (48+n%10)) 5;rw[BP]at i;have e:Lib.decDigits n=Lib.decDigits (n/10)++[UInt8.ofNat (48+n%10)]:=by rw[Lib.decDigits,dif_neg c]
  have d:Below a.heap.size a (a.alloc (.cells #[.int .u8 (48+(n:Int)%10)] 5)):=(ah _ _).alloc (af _) _;have q:=nZ (n:=n/10) (by omega);have b:=fun m=>zu (n/10) (by omega) m
  rw[show(((n/10:Nat)):Int)=(n:Int)/10 from by omega]at b;have f:=hid b;rw[e];clear e b;generalize UInt8.ofNat (48+n%10)=t at*;generalize Lib.decDigits (n/10)=h at*;go_enter Tryz.func16,Tryz.ntmps16;go_wp2_with fail;refine(f.out _).mono ?_;rintro k s⟨rfl,g⟩;have l:¬9223372036854775807<h.length+1:=by omega
  go_wp2;go_ret;exact⟨by rw[uU];rfl,d.trans (g.mono d.size)⟩
theorem JF(c:List UInt8)(a b:Nat):(⟨c.toArray⟩:ByteArray).extract a b=⟨((c.drop a).take (b-a)).toArray⟩:=by
 apply tU;apply Array.toList_inj.1;simp[ByteArray.data_extract]
def kH(l:List UInt8)(i f:Nat)(done:List (List UInt8)):Prop:=(i<=l.length∧f<=i∧32∉(l.drop f).take (i-f)∧fV 32 l=done++fV 32 (l.drop f))∨(i=l.length+1∧done=fV 32 l)
theorem kH.more{done:List (List UInt8)}(a:kH g b m done)(h:b<g.length)(f:g[b]?.getD 0≠32):kH g (b+1) m done:=by
 rcases a with⟨c,j,d,e⟩|⟨c,_⟩
 ·refine .inl ⟨by omega,by omega,?_,e⟩
  rw[show b+1-m=(b-m)+1 by omega,dz (by rw[cH];omega),dZ,not_or];refine⟨d,fun a=>f ?_⟩;rw[Rj,List.getElem_drop]at a;rw[an h];have i:m+(b-m)=b:=by omega
  simp only[i]at a;exact a.symm
 ·omega
theorem kH.cut{done:List (List UInt8)}(i:kH g b m done)(c:b<g.length)(a:g[b]?.getD 0=32):kH g (b+1) (b+1) (done++[(g.drop m).take (b-m)]):=by
 rcases i with⟨d,j,e,f⟩|⟨d,_⟩
 ·refine .inl ⟨by omega,by omega,by simp,?_⟩
  have h:g.drop m=(g.drop m).take (b-m)++32::g.drop (b+1):=by
   conv=>lhs;rw[<-fM (b-m) (g.drop m)]
   rw[kt,show m+(b-m)=b by omega,bZ c];rw[an c]at a;rw[show g[b]=32 from a]
  rw[f];conv=>lhs;rw[h]
  rw[se e];simp
 ·omega
theorem kH.last{done:List (List UInt8)}(f:kH g g.length b done):kH g (g.length+1) (g.length+1) (done++[(g.drop b).take (g.length-b)]):=by
 rcases f with⟨c,h,a,d⟩|⟨c,_⟩
 ·refine .inr ⟨rfl,?_⟩
  have e:(g.drop b).take (g.length-b)=g.drop b:=Ry (by rw[cH];omega);rw[e]at a⊢;rw[d,qK a]
 ·omega
theorem kH.len{l:List UInt8}{done:List (List UInt8)}(f:kH l b m done):done.length<=l.length+1:=by
 have c:=jB 32 l;have:=kx (a:=(32:UInt8)) (l:=l)
 rcases f with⟨d,g,_,e⟩|⟨d,rfl⟩
 ·rw[e,ai]at c
  omega
 ·omega
theorem jW(a:List UInt8)(q:World)(P:a.length<=4096):Calls Tryz.prog 33 #[sv a] q fun N y=>∃v,N=.returned v∧iq q.heap.size y v (fV 32 a)∧Below q.heap.size q y:=by
 have M:(a.length:Int)<=4096:=by omega
 go_enter Tryz.func33,Tryz.ntmps33;go_wp2;go_loopw [3,4,5](fun I A t wr=>∃(b i:Nat)(done:List (List UInt8)),b<=a.length+1∧A=.int .i64 (i:Int)∧t=.int .i64 (b:Int)∧Hid (kH a b i done)∧Hid (iq q.heap.size wr I done)∧Below q.heap.size q wr)(fun _ _ t _=>a.length+1-(intOf t).toNat)
 case atStart=>exact⟨0,0,[],bf _,rfl,rfl,hid (.inl ⟨bf _,af _,by simp,rfl⟩),hid (iq.nil _ _),ah _ _⟩
 case round=>
  obtain⟨b,i,done,O,rfl,rfl,d,h,k⟩:=hrel;obtain⟨Q,R,rfl⟩:=h.out.slice;have K:=d.out.len;by_cases c:b<a.length
  ·have F:(b:Int)<(a.length:Int):=by omega
   have s:(b:Int)<=(a.length:Int):=by omega
   have G:((b:Int)==(a.length:Int))=false:=by rw[aW];omega
   have E:(i:Int)<=(b:Int):=by rcases d.out with⟨_,u,_⟩|⟨u,_⟩<;>omega
   have x:(0:Int)<=(i:Int):=by omega
   have L:(0:Int)<=(b:Int):=by omega
   have j:(⟨a.toArray⟩:ByteArray)[b]'(by show b<a.toArray.size;simpa using c)=a[b]?.getD 0:=by rw[an c];rfl
   by_cases l:a[b]?.getD 0=32
   ·have w:((((⟨a.toArray⟩:ByteArray)[b]'(by show b<a.toArray.size;simpa using c)).toNat:Int)==32)=true:=by rw[j,l];rfl
    have H:=JF a i b;have g:=hid (d.out.cut c l);clear j l;generalize(a.drop i).take (b-i)=m at*;have o:=hid (h.out.below ((ah _ wr).alloc (af _) (.cells #[sv m] 9)));have p:Hid ((wr.alloc (.cells #[sv m] 9)).cell? ⟨wr.heap.size,0,none⟩=some (sv m)):=(dp (aM wr _) 0).trans rfl;have e:=hid (k.alloc k.size (.cells #[sv m] 9));clear h d;go_wp2_with(at_builtin;refine Cl _ rfl _ _ rfl q.heap.size _ done rfl o.out wr.heap.size m rfl p.out (by omega) e.out.size ?_;intro B z J f r)
    have n:=hid f;clear f;go_roundw
    case rel=>exact⟨b+1,b+1,done++[m],by omega,by go_num,by go_num,g,hid (by simpa using n.out),e.out.trans r⟩
    case measure=>simp[intOf];omega
   ·have w:((((⟨a.toArray⟩:ByteArray)[b]'(by show b<a.toArray.size;simpa using c)).toNat:Int)==32)=false:=by
     rw[j,aW];intro u;exact l (kJ.1 (by show(a[b]?.getD 0).toNat=32;omega))
    have g:=hid (d.out.more c l);clear j l;go_wp2;go_roundw
    case rel=>exact⟨b+1,i,done,by omega,rfl,by go_num,g,h,k⟩
    case measure=>simp[intOf];omega
  ·by_cases D:b=a.length
   ·subst D
    have E:(i:Int)<=(a.length:Int):=by rcases d.out with⟨_,u,_⟩|⟨u,_⟩<;>omega
    have x:(0:Int)<=(i:Int):=by omega
    have H:=JF a i a.length;have g:=hid d.out.last;generalize(a.drop i).take (a.length-i)=m at*;have o:=hid (h.out.below ((ah _ wr).alloc (af _) (.cells #[sv m] 9)));have p:Hid ((wr.alloc (.cells #[sv m] 9)).cell? ⟨wr.heap.size,0,none⟩=some (sv m)):=(dp (aM wr _) 0).trans rfl;have e:=hid (k.alloc k.size (.cells #[sv m] 9));clear h d;go_wp2_with(at_builtin;refine Cl _ rfl _ _ rfl q.heap.size _ done rfl o.out wr.heap.size m rfl p.out (by omega) e.out.size ?_;intro B z J f r)
    have n:=hid f;clear f;go_roundw
    case rel=>exact⟨a.length+1,a.length+1,done++[m],by omega,by go_num,by go_num,g,hid (by simpa using n.out),e.out.trans r⟩
    case measure=>simp[intOf]
   ·obtain rfl:b=a.length+1:=by omega
    have s:¬((a.length+1:Nat):Int)<=(a.length:Int):=by omega
    have C:done=fV 32 a:=d.out.elim (fun u=>absurd u.1 (by omega)) And.right;subst C;go_wp2;go_ret;exact⟨_,rfl,h.out,k⟩
theorem jP(ws:List (List UInt8))(D:Option Addr)(Q:Nat)(l:World)(I:ks l.heap.size l D ws)(K:∀k,k<ws.length->(ws[k]?.getD []).length<=4096)(Yg:ws.length<=5000):
 Calls Tryz.prog 34 #[.slice D ws.length Q] l fun N M=>Below l.heap.size l M∧(((∀x∈ws,(aO x).2=0)∧∃v,N=.returned (.tuple #[v,.bool true])∧il l.heap.size M v (ws.map fun x=>(aO x).1))∨((¬∀x∈ws,(aO x).2=0)∧N=.returned (.tuple #[.slice none 0 0,.bool false]))):=by
 have W:(ws.length:Int)<=5000:=by omega
 have P:=hid I;have O:=hid K;clear I K;go_enter Tryz.func34,Tryz.ntmps34;go_wp2;go_loopw [4,5](fun U v wr=>∃k:Nat,k<=ws.length∧v=.int .i64 (k:Int)∧Hid (∀x∈ws.take k,(aO x).2=0)∧Hid (il l.heap.size wr U ((ws.take k).map fun x=>(aO x).1))∧Below l.heap.size l wr)(fun _ v _=>ws.length-(intOf v).toNat)
 case atStart=>exact⟨0,bf _,rfl,hid (by simp),hid (by simpa using il.nil _ _),ah _ _⟩
 case round=>
  obtain⟨k,Yf,rfl,A,h,d⟩:=hrel;have L:((ws.take k).map fun x=>(aO x).1).length<=5000:=by rw[en,cX];omega
  obtain⟨B,j⟩:∃B,(ws.take k).map (fun x=>(aO x).1)=B:=⟨_,rfl⟩;rw[j]at h L;have f:=hid j;clear j;obtain⟨Yj,Yk,rfl,_⟩:=il.qg h.out;by_cases a:k<ws.length
  ·have R:(k:Int)<(ws.length:Int):=by omega
   obtain⟨Ym,X,rfl,Yd,Ye⟩:=(P.out.below d) k a;have T:=O.out k a;have u:ws.take (k+1)=ws.take k++[ws[k]?.getD []]:=by rw[dz a,an a];rfl
   have i:ws[k]?.getD []∈ws:=by rw[an a];exact ee a
   have m:=hid (ES (ws[k]?.getD []) wr T);have r:=hid u;have z:=hid i;have V:(0:Int)<=(k:Int):=by omega
   clear u i;generalize ws[k]?.getD []=x at*;by_cases e:(aO x).2=0
   ·have b:mz x=true:=by unfold mz;exact Rw e
    have y:=hid e;rw[b]at m;clear b e;go_wp2_with fail;refine m.out.mono ?_;rintro N c⟨v,rfl,o,g⟩;obtain⟨p,q,rfl,_⟩:=cU.ints o;have w:=cU.mono o d.size;have C:=d.trans (g.mono d.size);have hA1:Below c.heap.size c (c.alloc (.cells #[.slice p (aO x).1.length q] 68)):=(ah _ _).alloc (af _) _;have s:=hid (C.trans (hA1.mono C.size));have G:=hid ((h.out.below g).below hA1);have S:=hid (w.below hA1);have J:Hid ((c.alloc (.cells #[.slice p (aO x).1.length q] 68)).cell? ⟨c.heap.size,0,none⟩=some (.slice p (aO x).1.length q)):=(dp (aM c _) 0).trans rfl;clear hA1 o w h g;go_wp2_with(at_builtin;go_loud(refine nf _ rfl _ _ rfl l.heap.size _ B rfl G.out (.slice p (aO x).1.length q) (aO x).1 c.heap.size rfl J.out S.out (by omega) s.out.size ?_);intro Yh Yi t E)
    have H:=hid t;have F:=s.out.trans E;obtain⟨Y,Z,rfl,_⟩:=il.qg t;go_roundw
    case rel=>exact⟨k+1,by omega,by go_num,hid (by rw[r.out];intro Yl n;exact(dZ.1 n).elim (A.out Yl) (fun n=>by rw[Rj]at n;subst n;exact y.out)),hid (by rw[r.out,gF,f.out];exact H.out),F⟩
    case measure=>simp[intOf];omega
   ·have b:mz x=false:=by unfold mz;exact Rr e
    have y:Hid (¬∀x∈ws,(aO x).2=0):=fun Yc=>e (Yc x z.out)
    rw[b]at m;clear b e;go_wp2_with fail;refine m.out.mono ?_;rintro N c⟨v,rfl,o,g⟩;go_wp2;go_ret2
    exact⟨d.trans (g.mono d.size),.inr ⟨y.out,rfl⟩⟩
  ·obtain rfl:k=ws.length:=by omega
   rw[cJ]at A f;go_wp2;go_ret2
   exact⟨d,.inl ⟨A.out,_,rfl,by rw[f.out];exact h.out⟩⟩
theorem F6{rk:List Int}(l:da rk=0)(c:Tm.err z=0)(d:Tm.err F=0)(j:dj rk z F=true):(dN z++gD z F).any ei=(dN z).any ei:=by
 have k:=(rh (jQ l c d)).1 j;obtain⟨r,e,f,g,h,i⟩:=uV c d;have b:=k.stays (qO.of e) c d;rw[<-f,<-g]at b;have n:=b.vars h i;rw[vI];cases p:(dN z).any ei with
 |true=>rfl
 |false=>
  rw[Bool.false_or,kD];rw[kD]at p;intro o m a;have q:o< -4:=by simpa [ei]using a
  exact p o (n o m (by omega)) a
theorem Fp{rk:List Int}(d:da rk=0)(a:Tm.err z=0)(b:Tm.err F=0)(c:dj rk z F=true):ja z=if(dN z++gD z F).any ei=true then 3 else 0:=by
 rw[F6 d a b c];rfl
end Go.Proofs.YtglohanbpjaieaaGreatDoor
namespace Go.Proofs.YtglohanbpjaieaaGreatDoor
open Go.Proofs Go.RowKit Go.Shelf Go.Maps Go.Deep
variable {B:Oper}{D N:Value}{E:Addr}{G:Int}{H:List Value}{K:Array Oper}{L:Exit->Act->World->Prop}{M:Array Value}{O:Func}{P:ByteArray}{b m:Nat}{d h t:World}{e I:bg}{g Q:List UInt8}{q J:bu}{s:List (List UInt8)}{u:Act}{y A:TypeId}{z F:List Int}
theorem uT{n:Nat}(A:dw n d (some E) e):∃o:List Value,o.length=e.length*2∧(∀j r,o[j]?=some r->d.cell? (E.add j)=some r)∧(∀r∈o,∃q n c,r=.slice q n c)∧
 ∀j,j<e.length->∃g a h b,o[j*2]?=some (.slice g (e[j]?.getD ([],[])).1.length a)∧o[j*2+1]?=some (.slice h (e[j]?.getD ([],[])).2.length b)∧cZ n d g (e[j]?.getD ([],[])).1∧cZ n d h (e[j]?.getD ([],[])).2∧(e[j]?.getD ([],[])).1.length<=a∧a<=maxLen∧(e[j]?.getD ([],[])).2.length<=b∧b<=maxLen:=by
 have p:∀m,m<e.length->∃g a h b,d.cell? (E.add (m*2))=some (.slice g (e[m]?.getD ([],[])).1.length a)∧d.cell? (E.add (m*2+1))=some (.slice h (e[m]?.getD ([],[])).2.length b)∧cZ n d g (e[m]?.getD ([],[])).1∧cZ n d h (e[m]?.getD ([],[])).2∧(e[m]?.getD ([],[])).1.length<=a∧a<=maxLen∧(e[m]?.getD ([],[])).2.length<=b∧b<=maxLen:=fun m v=>by
  obtain⟨B,z,s,_,g,a,h,b,i,k,y⟩:=A m v;cases s;exact⟨g,a,h,b,by rw[cz];exact i,by rw[cz];exact k,y⟩
 have l:∀j,j<e.length*2->∃q t c,d.cell? (E.add j)=some (.slice q t c):=fun j f=>by
  obtain⟨g,a,h,b,i,k,_⟩:=p (j/2) (by omega);rcases jY j with u|u
  ·rw[show j/2*2=j by omega]at i;exact⟨_,_,_,i⟩
  ·rw[show j/2*2+1=j by omega]at k;exact⟨_,_,_,k⟩
 have get:∀j,j<e.length*2->((List.range (e.length*2)).map fun j=>(d.cell? (E.add j)).getD (.bool true))[j]?=d.cell? (E.add j):=fun j f=>by
  obtain⟨q,t,c,s⟩:=l j f;rw[ic,oo f,rv,s,dy]
 refine⟨(List.range (e.length*2)).map fun j=>(d.cell? (E.add j)).getD (.bool true),by simp,fun j r f=>?_,fun r x=>?_,fun j f=>?_⟩
 ·have w:j<e.length*2:=by simpa using(ig.1 f).1
  rw[get j w]at f;exact f
 ·obtain⟨j,f,rfl⟩:=Rl.1 x
  rw[Rd]at f;obtain⟨q,t,c,s⟩:=l j f;exact⟨q,t,c,by rw[s];rfl⟩
 ·obtain⟨g,a,h,b,i,k,y⟩:=p j f
  exact⟨g,a,h,b,(get _ (by omega)).trans i,(get _ (by omega)).trans k,y⟩
theorem Qt{rest:List Oper}(h:World)(n:B.guard=none)(Z Yc:Operand)
 (I:B.op=.call {callee:=.builtin .append,args:=#[Z,Yc],argTypes:=#[31,31]})(d b:Nat)(M:b<=d)(A:Value)(a:bg)(J:u.eval Z=A)(Yg:dC true 70 d b h A a)
 (k:Option Addr)(r:Nat)(c:bg)(S:u.eval Yc=.slice k c.length r)(Yk:k=none->r=0)(F:dw b h k c)(m:b<=h.heap.size)(Yj:a.length+c.length<=100000)(g:d<=h.heap.size)
 (Y:∀l w',dC true 70 d b w' l (a++c)->h.grownBy w' A.ownBlock->Below d h w'->wpList Tryz.prog K L rest (u.put B.dst l) w'):wpList Tryz.prog K L (B::rest) u h:=by
 obtain⟨W,G,T,U,V⟩:=fh Tryz.Bv;obtain⟨i,e,E⟩:=Yg;have R:i.length=a.length*2:=e.1;cases k with
 |none=>
  have Yh:=Yk rfl;obtain rfl:c=[]:=by
   cases c with
   |nil=>rfl
   |cons Yu Yt=>obtain⟨Yr,Yp,Yf,_⟩:=F 0 (by simp);cases Yf
  subst Yh;exact ij n Z Yc 31 I d 70 W 2 Tryz.underlying31 G A a.length i J e S (Y A h (by rw[cW];exact⟨i,e,E⟩) ⟨rfl,rfl,rfl,af _,fun _ _ _=>rfl⟩ (ah _ _))
 |some Yd=>
  obtain⟨q,N,O,P,Q⟩:=uT F;refine fN h n Z Yc 31 I d 70 W (.agg #[.slice none 0 0,.slice none 0 0]) 2 48 Tryz.underlying31 G T U V rfl (by decide) A a.length i J e Yd c.length r q S N O
   (by intro Yq Ym;obtain⟨_,_,_,rfl⟩:=P Yq Ym;rfl) (by unfold maxLen;omega) (by omega) g ?_
  intro l w' t s _;have Yl:∀v,A.ownBlock=some v->b<=v∧∃Ye,h.heap[v]?=some (.cells Ye 70 (0,0)):=fun v f=>⟨aK M (bn e v f).1,qP e f⟩
  have f:∀{u:Option Addr}{X:List Int},fW true b h u X->fW true b w' u X:=fun Y=>Y.grown (by decide) s Yl
  refine Y l w' ⟨i++q,by simpa using t,fun p Yi=>?_⟩ s ((ah d h).grown s g (fun v Yf=>(bn e v Yf).1));by_cases o:p<a.length
  ·obtain⟨Yo,D,C,j,y,z,w,x,Yn⟩:=E p o
   rw[aV o,aV (by omega),aV (by omega)];exact⟨Yo,D,C,j,y,z,f w,f x,Yn⟩
  ·have H:p-a.length<c.length:=by rw[ai]at Yi;omega
   obtain⟨Yo,D,C,j,y,z,w,x,Yn⟩:=Q (p-a.length) H;rw[aU (by omega),aU (by omega),aU (by omega),R];rw[show p*2-a.length*2=(p-a.length)*2 by omega,show p*2+1-a.length*2=(p-a.length)*2+1 by omega];exact⟨Yo,D,C,j,y,z,f (fW.KA w m (ah _ _)),f (fW.KA x m (ah _ _)),Yn⟩
theorem LC{rest:List Oper}(h:World)(n:B.guard=none)(Z Yc:Operand)
 (I:B.op=.call {callee:=.builtin .append,args:=#[Z,Yc],argTypes:=#[30,30]})(d b:Nat)(M:b<=d)(A:Value)(a:bg)(J:u.eval Z=A)(Yg:dC true 79 d b h A a)
 (k:Option Addr)(r:Nat)(c:bg)(S:u.eval Yc=.slice k c.length r)(Yk:k=none->r=0)(F:dw b h k c)(m:b<=h.heap.size)(Yj:a.length+c.length<=100000)(g:d<=h.heap.size)
 (Y:∀l w',dC true 79 d b w' l (a++c)->h.grownBy w' A.ownBlock->Below d h w'->wpList Tryz.prog K L rest (u.put B.dst l) w'):wpList Tryz.prog K L (B::rest) u h:=by
 obtain⟨W,G,T,U,V⟩:=fh Tryz.uK;obtain⟨i,e,E⟩:=Yg;have R:i.length=a.length*2:=e.1;cases k with
 |none=>
  have Yh:=Yk rfl;obtain rfl:c=[]:=by
   cases c with
   |nil=>rfl
   |cons Yu Yt=>obtain⟨Yr,Yp,Yf,_⟩:=F 0 (by simp);cases Yf
  subst Yh;exact ij n Z Yc 30 I d 79 W 2 Tryz.underlying30 G A a.length i J e S (Y A h (by rw[cW];exact⟨i,e,E⟩) ⟨rfl,rfl,rfl,af _,fun _ _ _=>rfl⟩ (ah _ _))
 |some Yd=>
  obtain⟨q,N,O,P,Q⟩:=uT F;refine fN h n Z Yc 30 I d 79 W (.agg #[.slice none 0 0,.slice none 0 0]) 2 48 Tryz.underlying30 G T U V rfl (by decide) A a.length i J e Yd c.length r q S N O
   (by intro Yq Ym;obtain⟨_,_,_,rfl⟩:=P Yq Ym;rfl) (by unfold maxLen;omega) (by omega) g ?_
  intro l w' t s _;have Yl:∀v,A.ownBlock=some v->b<=v∧∃Ye,h.heap[v]?=some (.cells Ye 79 (0,0)):=fun v f=>⟨aK M (bn e v f).1,qP e f⟩
  have f:∀{u:Option Addr}{X:List Int},fW true b h u X->fW true b w' u X:=fun Y=>Y.grown (by decide) s Yl
  refine Y l w' ⟨i++q,by simpa using t,fun p Yi=>?_⟩ s ((ah d h).grown s g (fun v Yf=>(bn e v Yf).1));by_cases o:p<a.length
  ·obtain⟨Yo,D,C,j,y,z,w,x,Yn⟩:=E p o
   rw[aV o,aV (by omega),aV (by omega)];exact⟨Yo,D,C,j,y,z,f w,f x,Yn⟩
  ·have H:p-a.length<c.length:=by rw[ai]at Yi;omega
   obtain⟨Yo,D,C,j,y,z,w,x,Yn⟩:=Q (p-a.length) H;rw[aU (by omega),aU (by omega),aU (by omega),R];rw[show p*2-a.length*2=(p-a.length)*2 by omega,show p*2+1-a.length*2=(p-a.length)*2+1 by omega];exact⟨Yo,D,C,j,y,z,f (fW.KA w m (ah _ _)),f (fW.KA x m (ah _ _)),Yn⟩
