/-
  Parts of the proof.
-/
import Derived.Test.YtglohanbpjaieaaGreatDoorBdp21
import Derived.Deep.RegionLaw
set_option maxHeartbeats 8000000
set_option maxRecDepth 100000
namespace Go.Proofs.YtglohanbpjaieaaGreatDoor
open Go.Proofs Go.RowKit Go.Shelf Go.Maps
variable {D:Nat->Nat->Nat}{G L:Option Addr}{J:Nat->List Int}{M:List Int}{Q:TypeId}{R:Bool}{T Yi:List Nat}{U:Option Nat}{X:Oper}{Y:Act}{Yc:Nat->Prop}{Yd Ye:Int}{Yj:Obj}{Yk:Act->World->Prop}{Yl:Array Oper}{Ym:Exit->Act->World->Prop}{Yn:Prop}{Z:List Value}{a h u E I:Nat}{e A P:Nat->Nat}{r F Yf:World}{t:Nat->Int}{w:Nat->List Nat}{y B N O Yg Yh:Value}
theorem GP(d:List Nat)(e:Nat->Bool)(c:Nat)(b:c<d.length)(f:(d.take c).any e=false)(a:e (d[c]?.getD 0)=false):(d.take (c+1)).any e=false:=by
 rw[dz b,vI,f];rw[an b]at a;simpa using a
theorem Jj(c:List Nat)(d:Nat->Bool)(e:Nat)(b:e<c.length)(a:d (c[e]?.getD 0)=true):c.any d=true:=by
 rw[an b]at a;exact Rs.2 ⟨_,ee b,a⟩
theorem Kt{x:Nat}{K:Nat->List Nat}(P:∀k,k<a->(K k).length=Tm.room (t k))(Q:World)(Ye:qT Q x a G h L u A e t K D)(f i N:Nat)(YS:f+1+i=a+1)
 (Yp:∀(Yl d:Nat),Calls Tryz.prog 188 #[lh x,.int .i64 (Yl:Int),.int .i64 ((i:Int)+1)] (Q.drewN d) fun c C=>c=.returned (.bool (Mt.rnd a t K e f Yl))∧∃m,C=(Q.drewN d).drewN m):
 Calls Tryz.prog 188 #[lh x,.int .i64 (N:Int),.int .i64 (i:Int)] Q fun c C=>c=.returned (.bool (Mt.rnd a t K e (f+1) N))∧∃m,C=Q.drewN m:=by
 have YU:=Ye.le;have YM:(a:Int)<=5000:=by omega
 have S:=Ye.c0;have T:=Ye.c1;have YJ:(i:Int)<=(a:Int):=by omega
 have n:=yB Q Ye N;have g:=hid Ye;have Yt:=hid Yp;clear Ye Yp;cases z:Mt.sym a t e N with
 |none=>
  have O:=hid (Mt.FR (K:=K) (f:=f) z);have w:Mt.yM a t e N= -1:=by unfold Mt.yM;rw[z]
  rw[w]at n;clear w z;generalize Mt.rnd a t K e (f+1) N=YV at*;go_enter Tryz.func188,Tryz.ntmps188;go_wp2_with(first
   |(go_at_call 205;refine n.mono ?_;clear n;rintro c YF⟨rfl,d,rfl⟩))
  go_ret;exact⟨by rw[O.out];rfl,_,rfl⟩
 |some k=>
  obtain⟨l,Yx,Yy⟩:=Mt.qH z;have O:=hid (Mt.By (K:=K) (f:=f) z);have w:Mt.yM a t e N=(k:Int):=by unfold Mt.yM;rw[z]
  rw[w]at n;clear w z Yx Yy;generalize Mt.rnd a t K e (f+1) N=YV at*;have YL:(k:Int)<(a:Int):=by omega
  obtain⟨Yj,J,rfl,W⟩:=g.out.nd k l;obtain⟨Yu,Yv,R,v⟩:=g.out.tr k l;have Y:=R.dh;have Yr:=hid v;have YP:=Tm.room_le (t k);have I:=hid (P k l);clear R v;obtain⟨Yk,M,rfl,_⟩:=g.out.cl k l;have YG:=hid (fun o F=>g.out.ps k o l F);have Yh:=hid (fun o F=>g.out.fd k o l F);have Yi:=hid (fun d o F=>by
   obtain⟨YX,YD⟩:=g.out.ps k o l F;exact EI (x:=x) (Q.drewN d) (D k o) ((K k)[o]?.getD 0) g.out.c0 g.out.nd (fun k l=>by obtain⟨YW,N,YR,_⟩:=g.out.tr k l;exact⟨_,YR⟩) g.out.le YD (g.out.fd k o l F))
  generalize Yo:Tm.room (t k)=B at*;clear Yo;have YC:(B:Int)<=2:=by omega
  generalize Ym:K k=q at*;clear Ym;go_enter Tryz.func188,Tryz.ntmps188;go_wp2_with(first
   |(go_at_call 205;refine n.mono ?_;clear n;rintro c YF⟨rfl,d,rfl⟩))
  go_loopw [8](fun o wr=>∃j:Nat,j<=B∧o=.int .i64 (j:Int)∧Hid ((q.take j).any (fun o=>Mt.rnd a t K e f (e o))=false)∧Hid (∃d,wr=Q.drewN d))(fun o _=>B-(intOf o).toNat)
  case atStart=>exact⟨0,bf _,rfl,by simp[Hid],_,rfl⟩
  case round=>
   obtain⟨j,YT,rfl,X,b⟩:=hrel;have YH:wr.cell? ⟨x,0,none⟩=some (.slice (some ⟨Yj,J,none⟩) a h):=by obtain⟨d,c⟩:=b;rw[c];exact S
   have YI:wr.cell? ⟨x,1,none⟩=some (.slice (some ⟨Yk,M,none⟩) a u):=by obtain⟨d,c⟩:=b;rw[c];exact T
   have YN:wr.cell? ⟨Yj,J+k,none⟩=some (lh (A k)):=by obtain⟨d,c⟩:=b;rw[c];exact W
   have YO:wr.cell? ⟨A k,1,none⟩=some (.slice Yu B Yv):=by obtain⟨d,c⟩:=b;rw[c];exact Y
   by_cases s:j<B
   ·have YK:(j:Int)<(B:Int):=by omega
    obtain⟨YQ,Yq,rfl,U⟩:=Yr.out j s;obtain⟨Yn,_⟩:=Yh.out j s;obtain⟨_,_,c,V⟩:=g.out.cl _ Yn;cases c;have YB:((q[j]?.getD 0:Nat):Int)<(a:Int):=by omega
    have y:=hid (Jj q (fun o=>Mt.rnd a t K e f (e o)) j (by rw[I.out];exact s));have p:=hid (GP q (fun o=>Mt.rnd a t K e f (e o)) j (by rw[I.out];exact s) X.out);have Yz:wr.cell? ⟨YQ,Yq+j,none⟩=some (lh (D k j)):=by obtain⟨d,c⟩:=b;rw[c];exact U
    have YA:wr.cell? ⟨Yk,M+(q[j]?.getD 0),none⟩=some (.int .i64 (e (q[j]?.getD 0):Int)):=by obtain⟨d,c⟩:=b;rw[c];exact V
    have E:Hid (∀m,Calls Tryz.prog 185 #[lh x,lh (D k j)] (wr.drewN m) fun c C=>c=.returned (.int .i64 ((q[j]?.getD 0:Nat):Int))∧∃Yd,C=(wr.drewN m).drewN Yd):=fun m=>by obtain⟨d,c⟩:=b;have:=Yi.out (d+m) j s;rw[<-qd,<-c]at this;exact this
    generalize q[j]?.getD 0=Yf at*;have r:Hid (∀m,Calls Tryz.prog 188 #[lh x,.int .i64 (e Yf:Int),.int .i64 ((i:Int)+1)] (wr.drewN m) fun c C=>c=.returned (.bool (Mt.rnd a t K e f (e Yf)))∧∃Yd,C=(wr.drewN m).drewN Yd):=fun m=>by obtain⟨d,c⟩:=b;have:=Yt.out (e Yf) (d+m);rw[<-qd,<-c]at this;exact this
    have Yg:Hid (∀m,∃d,wr.drewN m=Q.drewN d):=fun m=>by obtain⟨d,c⟩:=b;exact⟨_,by rw[c];exact qd _ _ _⟩
    clear S T W Y U V;cases H:Mt.rnd a t K e f (e Yf)with
    |true=>
     rw[H]at r;have Yc:=hid (y.out H);clear y p H;generalize e Yf=Yw at*;generalize D k j=YE at*;go_wp2;go_quiet((first
      |(go_at_call 185;exact lD (E.out _))
      |(go_at_call 188;exact lD (r.out _))))
     go_wp2;go_ret;exact⟨by rw[O.out,Yc.out];rfl,Yg.out _⟩
    |false=>
     rw[H]at r;have Yc:=hid (p.out H);clear y p H;generalize e Yf=Yw at*;generalize D k j=YE at*;go_wp2;go_quiet((first
      |(go_at_call 185;exact lD (E.out _))
      |(go_at_call 188;exact lD (r.out _))))
     go_wp2;go_roundw
     case rel=>exact⟨j+1,by omega,by go_num,Yc,Yg.out _⟩
     case measure=>simp[intOf];omega
   ·obtain rfl:j=B:=by omega
    have Z:=hid (show(q.any fun o=>Mt.rnd a t K e f (e o))=false by have:=X.out;rw[<-I.out,cJ]at this;exact this);go_wp2;go_ret;exact⟨by rw[O.out,Z.out];rfl,b⟩
theorem L6(d:∀k,k<a->(w k).length=Tm.room (t k)):∀(f b c:Nat)(g:World),qT g h a G u L E A e t w D->f+b=a+1->
 Calls Tryz.prog 188 #[lh h,.int .i64 (c:Int),.int .i64 (b:Int)] g fun r o=>r=.returned (.bool (Mt.rnd a t w e f c))∧∃m,o=g.drewN m:=by
 intro f;induction f with
 |zero=>
  intro b c g i j;have v:=i.le;have q:=i.c0;have s:(a:Int)<(b:Int):=by omega
  clear i;rw[show Mt.rnd a t w e 0 c=true from rfl];go_enter Tryz.func188,Tryz.ntmps188;go_wp2;go_ret;exact⟨rfl,0,rfl⟩
 |succ f n=>
  intro b c g i j;refine Kt d g i f b c j fun l p=>?_
  have:=n (b+1) l (g.drewN p) (i.drewN p) (by omega)
  rw[show((b+1:Nat):Int)=(b:Int)+1 from by omega]at this;exact this
section
theorem DS(b:F.heap=r.heap)(a:Addr):F.cell? a=r.cell? a:=by simp only[World.cell?,b]
theorem qT.eV{W':World}(g:qT r a h G u L E e A t w D)(j:∀k,k<r.heap.size->W'.heap[k]?=r.heap[k]?):qT W' a h G u L E e A t w D:=by
 have f:∀(p:Addr)q,r.cell? p=some q->W'.cell? p=some q:=fun p q o=>by
  have n:p.block<r.heap.size:=fx o;rw[aH (j p.block n),o]
 refine⟨f _ _ g.c0,f _ _ g.c1,fun k b=>?_,fun k b=>?_,fun k b=>?_,fun k x b i=>?_,g.fd,g.le⟩
 ·obtain⟨l,d,m,c⟩:=g.nd k b;exact⟨l,d,m,f _ _ c⟩
 ·obtain⟨l,d,m,c⟩:=g.cl k b;exact⟨l,d,m,f _ _ c⟩
 ·obtain⟨y,z,c,s⟩:=g.tr k b
  exact⟨y,z,(j _ c.lt).trans c,fun x i=>by obtain⟨l,d,m,v⟩:=s x i;exact⟨l,d,m,f _ _ v⟩⟩
 ·obtain⟨q,c⟩:=g.ps k x b i;exact⟨q,(j _ c.lt).trans c⟩
theorem qT.heap(c:qT r a h G u L E e A t w D)(b:F.heap=r.heap):qT F a h G u L E e A t w D:=c.eV fun d _=>by rw[b]
theorem qT.below(c:qT r a h G u L E e A t w D)(b:Below r.heap.size r F):qT F a h G u L E e A t w D:=c.eV b.block
theorem qT.node{x:Nat}(c:qT r x a G h L u e A t w D){k i:Nat}(b:k<a)(d:i<Tm.room (t k)):
 Calls Tryz.prog 185 #[lh x,lh (D k i)] r fun j g=>j=.returned (.int .i64 (((w k)[i]?.getD 0:Nat):Int))∧∃m,g=r.drewN m:=by
 obtain⟨o,f⟩:=c.ps k i b d;exact EI (x:=x) r (D k i) ((w k)[i]?.getD 0) c.c0 c.nd (fun k b=>by obtain⟨l,n,c,_⟩:=c.tr k b;exact⟨_,c⟩) c.le f (c.fd k i b d)
def Ft(w w':World)(e:Ending)(zs:List Int):Prop:=∃v,e=.returned v∧Below w.heap.size w w'∧((zs.length<=30∧cU w.heap.size w' v zs)∨(30<zs.length∧v=.slice none 0 0))
theorem J2(k:World)(q:qT k h a G u L E A e t w D)(c:Nat)(y:Mt.sym a t e c=none):
 Calls Tryz.prog 189 #[lh h,.int .i64 (c:Int)] k fun K J=>Ft k J K [Mt.bst t e c a]:=by
 have Yf:=q.le;have R:(a:Int)<=5000:=by omega
 have M:=q.c0;have N:=q.c1;have j:=yB k q c;have o:Mt.yM a t e c= -1:=by unfold Mt.yM;rw[y]
 rw[o]at j;have p:=hid q;clear q o y;go_enter Tryz.func189,Tryz.ntmps189;go_wp2_with(first
  |(go_at_call 205;refine j.mono ?_;clear j;rintro K Yh⟨rfl,B,rfl⟩))
 go_loopw [6,7](fun Yg H wr=>∃b:Nat,b<=a∧H=.int .i64 (b:Int)∧Yg=.int .i64 (Mt.bst t e c b)∧wr=k.drewN B)(fun _ H _=>a-(intOf H).toNat)
 case atStart=>exact⟨0,bf _,rfl,rfl,rfl⟩
 case round=>
  obtain⟨b,Ye,rfl,rfl,rfl⟩:=hrel;by_cases i:b<a
  ·have Q:(b:Int)<(a:Int):=by omega
   obtain⟨Yi,W,rfl,O⟩:=p.out.cl b i;obtain⟨Yc,I,rfl,T⟩:=p.out.nd b i;obtain⟨Z,Yd,m,_⟩:=p.out.tr b i;have V:=m.cell0;clear m;have d:Hid (Mt.bst t e c (b+1)=if e b=c∧Mt.bst t e c b<t b then t b else Mt.bst t e c b):=rfl;have r:Hid (Mt.bst t e c b=Mt.bst t e c b):=rfl;generalize x:Mt.bst t e c b=z at d⊢;clear x r;by_cases g:e b=c
   ·have P:((e b:Int)==(c:Int))=true:=by rw[g];simp
    have C:=hid g;clear g;by_cases l:z<t b
    ·have f:=hid (d.out.trans (aD ⟨C.out,l⟩))
     clear d;generalize t b=Y at*;generalize e b=s at*;generalize A b=X at*;go_wp2;go_roundw
     case rel=>exact⟨b+1,by omega,by go_num,by rw[f.out],by first|rfl|trivial⟩
     case measure=>simp[intOf];omega
    ·have f:=hid (d.out.trans (aE fun F=>l F.2))
     have U:decide (z<t b)=false:=by simpa using l
     clear d l;generalize t b=Y at*;generalize e b=s at*;generalize A b=X at*;go_wp2;go_roundw
     case rel=>exact⟨b+1,by omega,by go_num,by rw[f.out],by first|rfl|trivial⟩
     case measure=>simp[intOf];omega
   ·have S:((e b:Int)==(c:Int))=false:=by simp;omega
    have f:=hid (d.out.trans (aE fun F=>g F.1));clear d g;generalize t b=Y at*;generalize e b=s at*;generalize A b=X at*;go_wp2;go_roundw
    case rel=>exact⟨b+1,by omega,by go_num,by rw[f.out],by first|rfl|trivial⟩
    case measure=>simp[intOf];omega
  ·obtain rfl:b=a:=by omega
   have n:=cU.lit k.heap.size (k.drewN B) [Mt.bst t e c b] (af _) (by unfold maxLen;simp);simp only[fF,gy,aI,bH,cI]at n;have v:Below k.heap.size k ((k.drewN B).alloc (.cells #[.int .i64 (Mt.bst t e c b)] 3)):=(bD (ah _ _) B).alloc (af _) _;go_wp2;go_ret;exact⟨_,rfl,v,.inl ⟨by simp,n⟩⟩
attribute [local go_sem ↓] Go.wp_at_zero Go.wp_at_succ
namespace Mt
def AZ(n:Nat)(S:Nat->Int)(K:Nat->List Nat)(C:Nat->Nat)(f:Nat)(l:List Nat)(j:Nat):List Int:=((l.take j).map fun i=>uJ n S K C f (C i)).flatten
theorem Lq(f:Nat)(c:Nat->Int)(b:Nat->List Nat)(a:Nat->Nat)(d:Nat)(e:List Nat):AZ f c b a d e 0=[]:=rfl
theorem Lo{n:Nat}{S:Nat->Int}{K:Nat->List Nat}{C:Nat->Nat}{f:Nat}(b:a<T.length):AZ n S K C f T (a+1)=AZ n S K C f T a++uJ n S K C f (C (T[a]?.getD 0)):=by
 unfold AZ;rw[dz b,gF,fB,an b];simp
theorem MG{n:Nat}{S:Nat->Int}{K:Nat->List Nat}{C:Nat->Nat}{f:Nat}{l:List Nat}(b:Nat):(AZ n S K C f l b).length<=((l.map fun a=>uJ n S K C f (C a)).flatten).length:=by
 unfold AZ;have c:(l.map fun a=>uJ n S K C f (C a)).flatten=((l.take b).map fun a=>uJ n S K C f (C a)).flatten++((l.drop b).map fun a=>uJ n S K C f (C a)).flatten:=by
  rw[<-fB,<-gF,fM]
 rw[c,ai];omega
end Mt
theorem Jf{n:Nat}{C:Nat->Nat}{S:Nat->Int}{K:Nat->List Nat}(Yp:∀k,k<n->(K k).length=Tm.room (S k))(Ym:World)(P:qT Ym a n G h L u e C S K D)(f Y8 k:Nat)(YG:Mt.sym n S C Y8=some k)(Yj:∀i∈K k,0<(Mt.uJ n S K C f (C i)).length)
 (Y5:∀(i:Nat)(o:World),i∈K k->qT o a n G h L u e C S K D->Calls Tryz.prog 189 #[lh a,.int .i64 (C i:Int)] o fun B j=>Ft o j B (Mt.uJ n S K C f (C i))):
 Calls Tryz.prog 189 #[lh a,.int .i64 (Y8:Int)] Ym fun B j=>Ft Ym j B (S k::((K k).map fun i=>Mt.uJ n S K C f (C i)).flatten):=by
 have ZH:=P.le;have ZA:(n:Int)<=5000:=by omega
 have Zu:=P.c0;have Zv:=P.c1;have Yl:=yB Ym P Y8;have YB:Mt.yM n S C Y8=(k:Int):=by unfold Mt.yM;rw[YG]
 obtain⟨O,_,_⟩:=Mt.qH YG;rw[YB]at Yl;have Zz:(k:Int)<(n:Int):=by omega
 obtain⟨Q,d,rfl,YY⟩:=P.nd k O;obtain⟨ZE,YN,Yc,r⟩:=P.tr k O;have YZ:=Yc.cell0;have Y0:=Yc.dh;obtain⟨R,g,rfl,_⟩:=P.cl k O;have ZC:=Tm.room_le (S k);have YA:=hid (Yp k O);have Zb:=hid r;have YK:=hid (fun i Yf=>P.cl i Yf);have YL:=hid (fun i Yf=>P.fd k i O Yf);have Yn:=hid (fun o(Zf:qT o a n (some ⟨Q,d,none⟩) h (some ⟨R,g,none⟩) u e C S K D)i Yf=>Zf.node (k:=k) (i:=i) O Yf);have Za:=hid P;have Zc:=hid Y5;have YD:=hid Yj;clear P YB YG Y5 r Yc Yj;generalize Y3:Tm.room (S k)=t at*;clear Y3;have Zn:(t:Int)<=2:=by omega
 have Yy:=cU.lit Ym.heap.size Ym [S k] (af _) (by unfold maxLen;simp);simp only[fF,gy,aI,bH,cI]at Yy;go_enter Tryz.func189,Tryz.ntmps189;go_wp2_with(first
  |(go_at_call 205;refine Yl.mono ?_;clear Yl;rintro B ZN⟨rfl,ZF,rfl⟩))
 go_loopw [8,9](fun ZK i wr=>∃c:Nat,c<=t∧i=.int .i64 (c:Int)∧Hid (cU Ym.heap.size wr ZK (S k::Mt.AZ n S K C f (K k) c))∧Hid ((S k::Mt.AZ n S K C f (K k) c).length<=30)∧Hid (Below Ym.heap.size Ym wr))(fun _ i _=>t-(intOf i).toNat)
 case atStart=>exact⟨0,bf _,rfl,Yy,by rw[Mt.Lq];simp[Hid],(bD (ah _ _) ZF).alloc (af _) _⟩
 case round=>
  obtain⟨c,ZG,rfl,Yd,Yw,W⟩:=hrel;have F:=Za.out.below W.out;have V:=F.c0;have Yv:=F.c1;have q:∀(p:Addr)YC,Ym.cell? p=some YC->wr.cell? p=some YC:=fun p YC Yq=>(W.out.cell (p:=p) (fx Yq)).trans Yq
  have Yh:=q _ _ YY;have Zl:=q _ _ YZ;have y:=q _ _ Y0;have Yt:=hid q;have Yu:=hid F;clear q F;obtain⟨u1,ZL,rfl,Zt,_⟩:=cU.ints Yd.out;by_cases H:c<t
  ·have Zy:(c:Int)<(t:Int):=by omega
   obtain⟨Y7,M,rfl,YV⟩:=Zb.out c H;obtain⟨YX,_⟩:=YL.out c H;obtain⟨_,_,B,YW⟩:=YK.out _ YX;cases B;have Zj:(((K k)[c]?.getD 0:Nat):Int)<(n:Int):=by omega
   have v:=Yt.out _ _ YV;have w:=Yt.out _ _ YW;have Yg:c<(K k).length:=by rw[YA.out];exact H
   have I:=hid (fun o(B:o.heap=wr.heap)=>Yn.out o (Yu.out.heap B) c H);have J:=hid (Mt.Lo (n:=n) (S:=S) (K:=K) (C:=C) (f:=f) Yg);have x:Hid ((K k)[c]?.getD 0∈K k):=by rw[an Yg];exact ee Yg
   have Yk:=hid (fun o(B:o.heap=wr.heap)=>Zc.out _ o x.out (Yu.out.heap B));have Y2:=YD.out _ x.out;have Yz:=hid (Mt.MG (n:=n) (S:=S) (K:=K) (C:=C) (f:=f) (l:=K k) (c+1));clear x;generalize Zm:(K k)[c]?.getD 0=Y9 at*;clear Zm;have Zo:=fx y;have Zp:=fx V;have Zh:=fx Yh;have Zi:=fx w;have Zk:=fx v;generalize Mt.uJ n S K C f (C Y9)=A at*;generalize C Y9=YO at*;generalize D k c=Y6 at*;generalize Mt.AZ n S K C f (K k) c=s at*;have YU:Hid (∀o m:World,o.heap=wr.heap->Below o.heap.size o m->m.cell? ⟨a,0,none⟩=some (.slice (some ⟨Q,d,none⟩) n h)∧m.cell? ⟨a,1,none⟩=some (.slice (some ⟨R,g,none⟩) n u)∧m.cell? ⟨Q,d+k,none⟩=some (lh (e k))∧m.cell? ⟨e k,1,none⟩=some (.slice (some ⟨Y7,M,none⟩) t YN)∧m.cell? ⟨Y7,M+c,none⟩=some (lh Y6)∧m.cell? ⟨R,g+Y9,none⟩=some (.int .i64 (YO:Int))):=fun o m B Zg=>by
    have N:∀(p:Addr)YC,wr.cell? p=some YC->m.cell? p=some YC:=fun p YC Yq=>by
     have YR:o.cell? p=some YC:=(DS B p).trans Yq;exact(Zg.cell (p:=p) (fx YR)).trans YR
    exact⟨N _ _ V,N _ _ Yv,N _ _ Yh,N _ _ y,N _ _ v,N _ _ w⟩
   go_wp2;go_region_held3(fun j=>j.cell? ⟨a,0,none⟩=some (.slice (some ⟨Q,d,none⟩) n h)∧j.cell? ⟨a,1,none⟩=some (.slice (some ⟨R,g,none⟩) n u)∧j.cell? ⟨Q,d+k,none⟩=some (lh (e k))∧j.cell? ⟨e k,1,none⟩=some (.slice (some ⟨Y7,M,none⟩) t YN)∧j.cell? ⟨Y7,M+c,none⟩=some (lh Y6)∧j.cell? ⟨R,g+Y9,none⟩=some (.int .i64 (YO:Int)))
    (first|assumption|exact⟨V,Yv,Yh,y,v,w⟩)(first
    |(go_at_call 185;refine(I.out _ (by rfl)).mono ?_;rintro B ZO⟨rfl,ZJ,rfl⟩)
    |(go_at_call 189;refine(Yk.out _ (by rfl)).mono ?_;rintro B z⟨Zr,rfl,b,Yi⟩;have Yx:=YU.out _ _ (by rfl) b;obtain⟨Yo,Yr,T,rfl⟩:∃Yo Yr T,Zr=.slice Yo Yr T:=(by rcases Yi with⟨_,YQ⟩|⟨_,YQ⟩;exact cU.slice3 YQ;exact⟨_,_,_,YQ⟩);have YM:=hid Yi;clear Yi;have YJ:=hid Yx;clear Yx))
   have X:Hid (Below wr.heap.size wr z):=⟨b.os,b.tape,b.output,b.size,b.block⟩;have E:=hid (W.out.trans (X.out.mono W.out.size));have YE:=hid (Yd.out.below X.out);clear YU Yk I b YJ;rcases YM.out with⟨YH,Z⟩|⟨YH,U⟩
   ·obtain⟨Ze,YP,U,Y,Zw,Zx⟩:=cU.ints Z
    obtain⟨rfl,rfl,rfl⟩:Yo=Ze∧Yr=A.length∧T=YP:=by cases U;exact⟨rfl,rfl,rfl⟩
    obtain⟨Zd,Zq,rfl,_⟩:=Y.at Y2;have ZB:(s.length:Int)+1<=30:=by have:=Yw.out;simp only[aI]at this;omega
    have ZD:(A.length:Int)<=30:=by omega
    have Zs:=hid Z;have YI:=hid Y;clear U Z Y;have YF:(binOp .eql 68 (.slice (some ⟨Zd,Zq,none⟩) A.length T) (.slice none 0 0)).run Tryz.prog z=.ok (.bool false) z:=lI z _ _ _ _ _ _ _ Tryz.underlying68;by_cases ZI:s.length+1+A.length<=30
    ·have Y4:(s.length:Int)+1+(A.length:Int)<=30:=by omega
     go_wp2_with(at_builtin;go_loud(refine dB _ rfl _ _ rfl Ym.heap.size _ (S k::s) rfl YE.out _ A _ rfl (by intro YQ;cases YQ) YI.out (by simp only[aI];omega) (by have:=E.out.size;omega) ?_);intro ZM ZP YT YS)
     go_roundw
     case rel=>
      refine⟨c+1,by omega,by go_num,?_,?_,E.out.trans YS⟩
      ·show cU _ _ _ _
       rw[J.out];exact YT
      ·show _<=_
       rw[J.out];simp only[aI,ai];omega
     case measure=>simp[intOf];omega
    ·have Y4:30<(s.length:Int)+1+(A.length:Int):=by omega
     go_wp2;go_ret;refine⟨_,rfl,E.out,.inr ⟨?_,rfl⟩⟩;have:=Yz.out
     rw[J.out]at this;simp only[aI,ai]at this⊢;omega
   ·obtain⟨rfl,rfl,rfl⟩:Yo=none∧Yr=0∧T=0:=by cases U;exact⟨rfl,rfl,rfl⟩
    clear U;have YF:(binOp .eql 68 (.slice none 0 0) (.slice none 0 0)).run Tryz.prog z=.ok (.bool true) z:=lI z _ _ _ _ _ _ _ Tryz.underlying68;go_wp2;go_ret;refine⟨_,rfl,E.out,.inr ⟨?_,rfl⟩⟩;have:=Yz.out
    rw[J.out]at this;simp only[aI,ai]at this⊢;omega
  ·obtain rfl:c=t:=by omega
   have Ye:Hid (Mt.AZ n S K C f (K k) c=((K k).map fun i=>Mt.uJ n S K C f (C i)).flatten):=by
    show Mt.AZ n S K C f (K k) c=_;unfold Mt.AZ;rw[<-YA.out,cJ]
   go_wp2;go_ret;refine⟨_,rfl,W.out,.inl ⟨?_,?_⟩⟩
   ·rw[<-Ye.out];exact Yw.out
   ·rw[<-Ye.out];exact Yd.out
theorem Mt.KG(c:Mt.rnd h t w e a u=false):0<(Mt.uJ h t w e a u).length:=by
 cases a with
 |zero=>simp[Mt.rnd]at c
 |succ a=>
  cases b:Mt.sym h t e u with
  |none=>rw[Mt.qI b];simp
  |some d=>rw[Mt.px b];simp
theorem GM(d:∀k,k<a->(w k).length=Tm.room (t k)):∀(f c:Nat)(g:World),Mt.rnd a t w e f c=false->qT g h a G u L E A e t w D->
 Calls Tryz.prog 189 #[lh h,.int .i64 (c:Int)] g fun r p=>Ft g p r (Mt.uJ a t w e f c):=by
 intro f;induction f with
 |zero=>intro c g j;simp[Mt.rnd]at j
 |succ f o=>
  intro c g j q;cases b:Mt.sym a t e c with
  |none=>rw[Mt.qI b];exact J2 g q c b
  |some k=>
   rw[Mt.px b];exact Jf d g q f c k b (fun n i=>Mt.KG (Mt.xk b j n i)) fun n m i l=>o _ m (Mt.xk b j n i) l
end
namespace Mt
def Ao(n:Nat)(C:Nat->Nat):List Int:=(List.range n).map fun k=>(C k:Int)
theorem kG(a:Nat)(b:Nat->Nat):(Ao a b).length=a:=by simp[Ao]
theorem P6(b:Nat->Nat)(c:a<h):(Ao h b)[a]?.getD 0=(b a:Int):=by simp[Ao,c]
theorem DH(c:∀k,k<a->e k=A k):Ao a e=Ao a A:=by
 unfold Ao;exact gm fun k b=>by rw[c k (Rd.1 b)]
theorem ON(d:∀j,j≠a->e j=A j):(Ao h A).set a (e a:Int)=Ao h e:=by
 refine iA (by rw[oQ,kG,kG]) fun g i f=>?_
 rw[List.getElem_set];rw[kG]at f;by_cases b:a=g
 ·subst b;rw[aD rfl];simp[Ao]
 ·rw[aE b];simp[Ao,d g fun c=>b c.symm]
def KS(C:Nat->Nat)(a b k:Nat):Nat->Nat:=fun j=>if j<k then tied C a b j else C j
theorem MR(a:Nat->Nat)(b c:Nat):KS a b c 0=a:=by funext d;unfold KS;rw[aE (by omega)]
theorem FL(b:Nat->Nat)(c d a:Nat):KS b c d a a=b a:=by unfold KS;rw[aE (by omega)]
theorem BJ(b:Nat->Nat)(c d a:Nat):KS b c d (a+1) a=tied b c d a:=by unfold KS;rw[aD (by omega)]
theorem FM(c:Nat->Nat)(d e b:Nat)(g:a≠b):KS c d e (b+1) a=KS c d e b a:=by
 unfold KS;by_cases f:a<b
 ·rw[aD f,aD (by omega)]
 ·rw[aE f,aE (by omega)]
theorem OR(c:Nat->Nat)(d e b:Nat):Ao b (KS c d e b)=Ao b (tied c d e):=DH fun f a=>by unfold KS;rw[aD a]
end Mt
def pH(W:World)(x n:Nat)(aN:Option Addr)(cN g cC:Nat)(N:Nat->Nat)(C:Nat->Nat)(S:Nat->Int)(K:Nat->List Nat)(P:Nat->Nat->Nat):Prop:=
 g<W.heap.size∧(∀W',eZ W.heap.size g W W'->∀C',(∀k,k<n->W'.cell? ⟨g,k,none⟩=some (.int .i64 (C' k:Int)))->qT W' x n aN cN (some ⟨g,0,none⟩) cC N C' S K P)∧cU 0 W (.slice (some ⟨g,0,none⟩) n cC) (Mt.Ao n C)
theorem cU.QN{base:Nat}(m:cU base r (.slice (some ⟨a,0,none⟩) h u) M)(n:h=M.length):(∀j,j<h->r.cell? ⟨a,j,none⟩=some (.int .i64 (M[j]?.getD 0)))∧∀j,r.frozen? ⟨a,j,none⟩=false:=by
 by_cases e:0<M.length
 ·obtain⟨d,c,b,f,g⟩:=cU.PC m e
  cases b;exact⟨fun j k=>f j (by omega),g⟩
 ·refine⟨fun j k=>by omega,fun j=>?_⟩
  rcases m.2 with⟨b,_⟩|⟨d,c,l,b,_,i,_⟩
  ·cases b
  ·cases b
   simp[World.frozen?,i]
theorem pH.ties(f:pH r h a G u E I A e t w D):qT r h a G u (some ⟨E,0,none⟩) I A e t w D:=by
 obtain⟨_,c,d⟩:=f;refine c r (eZ.refl _ _ _) e fun g b=>?_
 rw[(cU.QN d (Mt.kG a e).symm).1 g b,Mt.P6 e b]
theorem pH.eV{W':World}(j:pH r E a G I h u e P t w D)(b:eZ r.heap.size h r W')(i:cU 0 W' (.slice (some ⟨h,0,none⟩) a u) (Mt.Ao a A)):pH W' E a G I h u e A t w D:=
 ⟨by have:=j.1;have:=b.size;omega,fun g d f c=>j.2.1 g (b.trans (d.mono b.size)) f c,i⟩
theorem K8(r:World)(N:pH r u a G I h E A e t w D)(f g:Nat)(P:f<a)(Q:g<a):
 Calls Tryz.prog 186 #[lh u,.int .i64 (f:Int),.int .i64 (g:Int)] r fun l M=>(∃v,l=.returned v)∧eZ r.heap.size h r M∧pH M u a G I h E A (Mt.tied e f g) t w D:=by
 have k:=N.ties;have Yg:=k.le;have Yd:(a:Int)<=5000:=by omega
 have X:=k.c1;obtain⟨_,_,l,B⟩:=k.cl f P;cases l;obtain⟨_,_,l,C⟩:=k.cl g Q;cases l;have V:(f:Int)<(a:Int):=by omega
 have W:(g:Int)<(a:Int):=by omega
 rw[cI]at B C;have s:=hid N;have p:=hid N.2.2;clear N k;have n:Hid (∀q,Mt.tied e f g q=if e q=e f then e g else e q):=fun q=>rfl
 generalize H:e f=o at*;generalize J:e g=y at*;clear H J;go_enter Tryz.func186,Tryz.ntmps186;go_wp2;go_quiet(fail)
 go_wp2;go_loopw [8](fun S wr=>∃b:Nat,b<=a∧S=.int .i64 (b:Int)∧Hid (cU 0 wr (.slice (some ⟨h,0,none⟩) a E) (Mt.Ao a (Mt.KS e f g b)))∧Hid (eZ r.heap.size h r wr))(fun S _=>a-(intOf S).toNat)
 case atStart=>exact⟨0,bf _,rfl,by rw[Mt.MR];exact p,iE (eZ.refl _ _ _) _⟩
 case round=>
  obtain⟨b,Yf,rfl,d,c⟩:=hrel;have z:=hid (s.out.eV c.out d.out);have U:=z.out.ties.c1;by_cases K:b<a
  ·have Yc:(b:Int)<(a:Int):=by omega
   obtain⟨_,_,l,F⟩:=z.out.ties.cl b K;cases l;rw[cI,Mt.FL]at F;have Z:=(cU.QN d.out (Mt.kG _ _).symm).2 b;by_cases i:e b=o
   ·have Y:((e b:Int)==(o:Int))=true:=by rw[i];simp
    have m:Hid (Mt.tied e f g b=y):=(n.out b).trans (aD i);clear i;generalize e b=O at*;go_wp2;go_roundw
    case rel=>
     refine⟨b+1,by omega,by go_num,?_,c.out.trans (eZ.oz (iz wr h b _) c.out.size)⟩;have T:=d.out.set (Mt.kG _ _).symm b (y:Int);rw[<-m.out,<-Mt.BJ,Mt.ON (fun q R=>Mt.FM e f g b R),Mt.BJ,m.out]at T;exact T
    case measure=>simp[intOf];omega
   ·have Ye:((e b:Int)==(o:Int))=false:=by simp;omega
    have m:Hid (Mt.tied e f g b=e b):=(n.out b).trans (aE i);clear i;have L:Hid (Mt.Ao a (Mt.KS e f g (b+1))=Mt.Ao a (Mt.KS e f g b)):=Mt.DH fun q _=>by
     by_cases l:q=b
     ·subst l;rw[Mt.BJ,m.out,Mt.FL]
     ·exact Mt.FM e f g b l
    generalize e b=O at*;go_wp2;go_roundw
    case rel=>exact⟨b+1,by omega,by go_num,by rw[L.out];exact d,c⟩
    case measure=>simp[intOf];omega
  ·obtain rfl:b=a:=by omega
   have j:=d.out;rw[Mt.OR]at j;have x:=hid j;clear j;go_wp2;first|go_end0|refine fI (mb rfl _ _ _) rfl ?_
   exact⟨⟨_,rfl⟩,c.out,s.out.eV c.out x.out⟩
section
namespace Mt
open Wb(App jJ xE Sb)
structure wb(n:Nat)(Z:Nat->List Int)(C0 C1:Nat->Nat)(ag:Bool)(C:Nat->Nat):Prop where
 lt:∀k,k<n->C k<n
 coarse:∀i j,i<n->j<n->C0 i=C0 j->C i=C j
 sound:∀θ,jJ θ->nO n Z C0 θ->nO n Z C θ
 same:ag=false->C=C1
 less:ag=true->cls n C<cls n C1
theorem wb.le(b:wb a J P e R A):cls a A<=cls a e:=by
 cases R with
 |false=>rw[b.same rfl];exact af _
 |true=>have:=b.less rfl;omega
theorem wb.begin(b:wb a J A P R e):wb a J A e false e:=⟨b.lt,b.coarse,b.sound,fun _=>rfl,fun c=>by cases c⟩
theorem wb.start(d:Nat->List Int)(b:∀k,k<a->e k<a):wb a d e e false e:=⟨b,fun _ _ _ _ f=>f,fun _ _ c=>c,fun _=>rfl,fun b=>by cases b⟩
theorem wb.parts(k:Bi u t w J)(l:wb u J A P R e)(c:a<u)(d:h<u)(g:0<=t a)(j:0<=t h)(n:e a=e h):∀b,jJ b->nO u J A b->t a=t h∧∀i,i<Tm.room (t a)->App b (J ((w a)[i]?.getD 0))=App b (J ((w h)[i]?.getD 0)):=
 fun b f m=>k.eq f c d g j (l.sound b f m a h c d n)
theorem wb.tie(s:Bi a t w J)(d:wb a J A P R e){i:Nat}(l:h<a)(m:u<a)(o:0<=t h)(p:0<=t u)(k:e h=e u)(b:i<Tm.room (t h))(j:(w h)[i]?.getD 0<a)(c:(w u)[i]?.getD 0<a)(f:e ((w h)[i]?.getD 0)≠e ((w u)[i]?.getD 0)):
 wb a J A P true (tied e ((w h)[i]?.getD 0) ((w u)[i]?.getD 0)):=by
 refine⟨KC d.lt c,fun i z b n k=>zW _ _ (d.coarse i z b n k),fun r g q=>(d.sound r g q).tie j c ((d.parts s l m o p k r g q).2 i b),(fun v=>by cases v),fun _=>?_⟩;have x:=OV d.lt j c f;have y:=d.le;omega
theorem Ll(d:∀k,k<a->e k=A k):cls a e=cls a A:=by
 unfold cls;congr 1;refine List.filter_congr fun f _=>?_
 rw[ry,qF,qF];constructor
 ·rintro⟨k,b,c⟩;exact⟨k,b,by rw[<-d k b];exact c⟩
 ·rintro⟨k,b,c⟩;exact⟨k,b,by rw[d k b];exact c⟩
def QQ(g:Nat)(W:World)(k:Nat):Nat:=match W.cell? ⟨g,k,none⟩with
 |some (.int _ z)=>z.toNat
 |_=>0
def left(n g:Nat)(v:Value)(W:World):Nat:=2*cls n (QQ g W)+(match v with|.bool true=>1|_=>0)
end Mt
theorem pH.drewN(c:pH r a h G u E I e A t w D)(b:Nat):pH (r.drewN b) a h G u E I e A t w D:=c.eV (iE (eZ.refl _ _ _) b) (c.2.2.drewN b)
theorem pH.cls(f:pH r u a G E h I A e t w D):Mt.cls a (Mt.QQ h r)=Mt.cls a e:=by
 refine Mt.Ll fun g c=>?_
 obtain⟨_,_,d,b⟩:=f.ties.cl g c;cases d;rw[cI]at b;unfold Mt.QQ;rw[b];exact tz _
def NG(w w':World)(e:Ending)(x n:Nat)(aN:Option Addr)(cN g cC:Nat)(N:Nat->Nat)(C0:Nat->Nat)(S:Nat->Int)(K:Nat->List Nat)(P:Nat->Nat->Nat)(Z:Nat->List Int):Prop:=
 eZ w.heap.size g w w'∧((e=.returned (.bool false)∧∀θ,Wb.jJ θ->¬Mt.nO n Z C0 θ)∨
  (e=.returned (.bool true)∧∃C,pH w' x n aN cN g cC N C S K P∧(∀k,k<n->C k<n)∧(∀i j,i<n->j<n->C0 i=C0 j->C i=C j)∧(∀θ,Wb.jJ θ->Mt.nO n Z C0 θ->Mt.nO n Z C θ)∧∀a b,a<n->b<n->Mt.Shut S K C a b))
theorem Mt.Shut.symm(j:Mt.Shut t w e a h):Mt.Shut t w e h a:=fun i d f=>by
 obtain⟨b,c⟩:=j i.symm f d;exact⟨b.symm,fun k g=>(c k (by rw[b];exact g)).symm⟩
theorem Mt.Shut.all(h:∀b c,b<a->c<b->Mt.Shut t w e b c):∀b c,b<a->c<a->Mt.Shut t w e b c:=fun b c f g=>by
 rcases nn c b with d|rfl|d
 ·exact h b c f d
 ·exact fun _ _ _=>⟨rfl,fun _ _=>rfl⟩
 ·exact(h c b g d).symm
theorem Kw(Zv:Mt.Bi a t w J)(Yy:World)(Zc:pH Yy u a G E h I A e t w D)(Yr:∀k,k<a->e k<a)(Y7:0<a):
 Calls Tryz.prog 187 #[lh u] Yy fun r Zu=>NG Yy Zu r u a G E h I A e t w D J:=by
 have ZL:=Zc.ties.le;have ZB:(a:Int)<=5000:=by omega
 obtain⟨Yz,YD,rfl,_⟩:=Zc.ties.nd 0 Y7;have YS:=hid Zv;have Y2:=hid (Mt.wb.start J Yr);have Zf:=hid Zc;clear Zc Yr Zv;go_enter Tryz.func187,Tryz.ntmps187;go_wp2;go_loopw [3](fun YE wr=>∃(d:Bool)(T:Nat->Nat),YE=.bool d∧Hid (Mt.wb a J e T false T)∧Hid (d=false->∀f g,f<a->g<f->Mt.Shut t w T f g)∧Hid (eZ Yy.heap.size h Yy wr)∧Hid (pH wr u a (some ⟨Yz,YD,none⟩) E h I A T t w D))(fun YE wr=>Mt.left a h YE wr)
 case atStart=>exact⟨true,e,rfl,Y2,(fun m=>by cases m),eZ.refl _ _ _,Zf⟩
 case round=>
  obtain⟨d,j,rfl,Yc,Yp,YI,Yn⟩:=hrel;have YA:Hid (Mt.left a h (.bool d) wr=2*Mt.cls a j+(match Value.bool d with|.bool true=>1|_=>0)):=by show Mt.left a h (.bool d) wr=_;unfold Mt.left;rw[Yn.out.cls]
  cases d with
  |false=>
   go_wp2;go_ret;exact⟨YI.out,.inr ⟨rfl,j,Yn.out,Yc.out.lt,Yc.out.coarse,Yc.out.sound,Mt.Shut.all (Yp.out (by first|rfl|trivial))⟩⟩
  |true=>
   clear Yp;go_wp2;go_loopw [3,4](fun YE i wr=>∃(d:Bool)(f:Nat)(T:Nat->Nat),YE=.bool d∧i=.int .i64 (f:Int)∧f<=a∧Hid (Mt.wb a J e j d T)∧Hid (d=false->∀b c,b<f->c<b->Mt.Shut t w j b c)∧Hid (eZ Yy.heap.size h Yy wr)∧Hid (pH wr u a (some ⟨Yz,YD,none⟩) E h I A T t w D))(fun _ i _=>a-(intOf i).toNat)
   case atStart=>exact⟨false,0,j,rfl,rfl,bf _,Yc,fun _ b c m=>by omega,YI,Yn⟩
   case round=>
    obtain⟨d,f,YY,rfl,rfl,ZI,Q,Yq,YJ,Yf⟩:=hrel;have Yl:=Yf.out.ties.c0;by_cases n:f<a
    ·have Zi:(f:Int)<(a:Int):=by omega
     have Zz:=(YS.out.known f n);go_wp2;go_loopw [3,5](fun YE i wr=>∃(d:Bool)(g:Nat)(T:Nat->Nat),YE=.bool d∧i=.int .i64 (g:Int)∧g<=f∧Hid (Mt.wb a J e j d T)∧Hid (d=false->∀b c,c<b->(b<f∨(b=f∧c<g))->Mt.Shut t w j b c)∧Hid (eZ Yy.heap.size h Yy wr)∧Hid (pH wr u a (some ⟨Yz,YD,none⟩) E h I A T t w D))(fun _ i _=>f-(intOf i).toNat)
     case atStart=>exact⟨d,0,YY,rfl,rfl,bf _,Q,fun m b c P Yk=>Yq.out m b c (by omega) P,YJ,Yf⟩
     case round=>
      obtain⟨d,g,q,rfl,rfl,ZJ,s,V,YK,Yo⟩:=hrel;have l:=Yo.out.ties;have Yl:=l.c0;have YH:=l.c1;by_cases Zw:g<f
      ·have Zj:(g:Int)<(f:Int):=by omega
       have o:g<a:=by omega
       have Zk:(g:Int)<(a:Int):=by omega
       obtain⟨_,_,r,Y8⟩:=l.nd f n;cases r;obtain⟨_,_,r,Y9⟩:=l.nd g o;cases r;obtain⟨_,_,r,YL⟩:=l.cl f n;cases r;obtain⟨_,_,r,YM⟩:=l.cl g o;cases r;rw[cI]at YL YM;obtain⟨Zq,Zs,B,S⟩:=l.tr f n;obtain⟨Zr,Zt,C,K⟩:=l.tr g o;have YQ:=B.cell0;have YR:=C.cell0;have F:=hid B.dh;have x:=hid C.dh;have YF:=hid S;have YG:=hid K;have U:=hid l;have M:=hid (fun YX=>Yo.out.drewN YX);have v:=hid (fun YX=>iE YK.out YX);clear B C S K l;have p:Hid (Mt.Shut t w j f g->d=false->∀b c,c<b->(b<f∨(b=f∧c<g+1))->Mt.Shut t w j b c):=fun O m b c P Yk=>by
        by_cases r:b=f∧c=g
        ·obtain⟨rfl,rfl⟩:=r;exact O
        ·exact V.out m b c P (by omega)
       by_cases L:q f=q g
       ·have YU:((q f:Int)!=(q g:Int))=false:=by rw[L];simp
        by_cases Yj:t f<0
        ·have W:Hid (d=false->∀b c,c<b->(b<f∨(b=f∧c<g+1))->Mt.Shut t w j b c):=p.out fun _ m _=>by omega
         clear L F x p;go_wp2;go_quiet(fail)
         go_wp2;go_quiet(fail)
         go_wp2;go_roundw
         case rel=>exact⟨d,g+1,q,rfl,by go_num,by omega,s,W,v.out _,M.out _⟩
         case measure=>simp[intOf];omega
        ·have Zm:decide (t f<0)=false:=by simpa using Yj
         by_cases Yu:t g<0
         ·have W:Hid (d=false->∀b c,c<b->(b<f∨(b=f∧c<g+1))->Mt.Shut t w j b c):=p.out fun _ _ m=>by omega
          clear L F x p Yj;go_wp2;go_quiet(fail)
          go_wp2;go_quiet(fail)
          go_wp2;go_roundw
          case rel=>exact⟨d,g+1,q,rfl,by go_num,by omega,s,W,v.out _,M.out _⟩
          case measure=>simp[intOf];omega
         ·have Zn:decide (t g<0)=false:=by simpa using Yu
          have Yt:0<=t f:=by omega
          have Yv:0<=t g:=by omega
          have y:=hid (s.out.parts YS.out n o Yt Yv L);by_cases O:t f=t g
          ·have Zb:(t f !=t g)=false:=by simpa using O
           have Yi:Tm.room (t g)=Tm.room (t f):=by rw[O]
           have Z:=hid Yi;have YT:=hid O;have YZ:Hid ((∀i,i<Tm.room (t f)->j ((w f)[i]?.getD 0)=j ((w g)[i]?.getD 0))->(∀b c,c<b->(b<f∨(b=f∧c<g))->Mt.Shut t w j b c)->∀b c,c<b->(b<f∨(b=f∧c<g+1))->Mt.Shut t w j b c):=fun m Zh b c P Yk=>by
            by_cases r:b=f∧c=g
            ·obtain⟨rfl,rfl⟩:=r;exact fun _ _ _=>⟨YT.out,m⟩
            ·exact Zh b c P (by omega)
           have Y0:=hid L;have ZC:=Tm.room_le (t f);clear L F x p Yj Yu O y Yi;go_wp2;go_quiet(fail)
           go_wp2;go_quiet(fail)
           go_wp2;go_quiet(fail)
           go_wp2;go_loopw [3,8](fun YE i wr=>∃(d:Bool)(k:Nat)(T:Nat->Nat),YE=.bool d∧i=.int .i64 (k:Int)∧k<=Tm.room (t f)∧Hid (Mt.wb a J e j d T)∧Hid (T f=T g)∧Hid (d=false->(∀b c,c<b->(b<f∨(b=f∧c<g))->Mt.Shut t w j b c)∧∀i,i<k->j ((w f)[i]?.getD 0)=j ((w g)[i]?.getD 0))∧Hid (eZ Yy.heap.size h Yy wr)∧Hid (pH wr u a (some ⟨Yz,YD,none⟩) E h I A T t w D))(fun _ i _=>Tm.room (t f)-(intOf i).toNat)
           case atStart=>exact⟨d,0,q,rfl,rfl,bf _,s,Y0,fun m=>⟨V.out m,fun i Zl=>by omega⟩,iE (iE (v.out _) _) _,((M.out _).drewN _).drewN _⟩
           case round=>
            clear Yl YH Y8 Y9 YL YM YQ YR;obtain⟨d,k,z,rfl,rfl,ZK,Yd,Ym,N,Ye,Yg⟩:=hrel;have l:=Yg.out.ties;have Yl:=l.c0;have YH:=l.c1;obtain⟨Zq,Zs,B,S⟩:=l.tr f n;obtain⟨Zr,Zt,C,K⟩:=l.tr g o;have F:=B.dh;have x:=C.dh;rw[Z.out]at x K;have YF:=hid S;have YG:=hid K;have U:=hid l;clear B C S K l;by_cases H:k<Tm.room (t f)
            ·have ZA:(k:Int)<(Tm.room (t f):Int):=by omega
             obtain⟨ZG,ZM,rfl,Zx⟩:=YF.out k H;obtain⟨ZH,ZN,rfl,Zy⟩:=YG.out k H;have YN:k<Tm.room (t g):=by rw[Z.out];exact H
             have YO:=hid (fun Zp=>(U.out.drewN Zp).node (k:=f) (i:=k) n H);have YP:=hid (fun Zp=>(U.out.drewN Zp).node (k:=g) (i:=k) o YN);obtain⟨YV,_⟩:=U.out.fd f k n H;obtain⟨YW,_⟩:=U.out.fd g k o YN;obtain⟨_,_,r,Y5⟩:=U.out.cl _ YV;cases r;obtain⟨_,_,r,Y6⟩:=U.out.cl _ YW;cases r;rw[cI]at Y5 Y6;have Y:=hid (Yd.out.tie YS.out (i:=k) n o Yt Yv Ym.out H YV YW);have X:Hid (z ((w f)[k]?.getD 0)=z ((w g)[k]?.getD 0)->d=false->(∀b c,c<b->(b<f∨(b=f∧c<g))->Mt.Shut t w j b c)∧∀i,i<k+1->j ((w f)[i]?.getD 0)=j ((w g)[i]?.getD 0)):=fun r m=>by
              refine⟨(N.out m).1,fun i Zl=>?_⟩;by_cases Zg:i=k
              ·subst Zg
               rw[Yd.out.same m]at r;exact r
              ·exact(N.out m).2 i (by omega)
             have ZD:(((w f)[k]?.getD 0:Nat):Int)<(a:Int):=by omega
             have ZE:(((w g)[k]?.getD 0:Nat):Int)<(a:Int):=by omega
             generalize(w f)[k]?.getD 0=i at*;generalize(w g)[k]?.getD 0=Zd at*;by_cases R:z i=z Zd
             ·have YB:((z i:Int)!=(z Zd:Int))=false:=by rw[R];simp
              have W:=hid (X.out R);clear R Y X;generalize D f k=Yw at*;generalize D g k=Yx at*;go_wp2;go_quiet((first|(go_at_call_of 185(lh Yw);exact lD (YO.out _))|(go_at_call_of 185(lh Yx);exact lD (YP.out _))))
              go_wp2;go_quiet(fail)
              go_wp2;go_roundw
              case rel=>exact⟨d,k+1,z,rfl,by go_num,by omega,Yd,Ym,W,iE Ye.out _,Yg.out.drewN _⟩
              case measure=>simp[intOf];omega
             ·have YB:((z i:Int)!=(z Zd:Int))=true:=by simp;omega
              have YC:=hid (Y.out R);have Yh:=hid (fun YX=>K8 (wr.drewN YX) (Yg.out.drewN YX) i Zd YV YW);clear R Y X;generalize D f k=Yw at*;generalize D g k=Yx at*;go_wp2;go_quiet((first|(go_at_call_of 185(lh Yw);exact lD (YO.out _))|(go_at_call_of 185(lh Yx);exact lD (YP.out _))))
              go_wp2;go_quiet(fail)
              go_wp2_with(go_at_call 186;refine(Yh.out _).mono ?_;clear Yh;rintro r ZP⟨⟨ZO,rfl⟩,Y3,Y4⟩)
              go_roundw
              case rel=>exact⟨true,k+1,_,rfl,by go_num,by omega,YC.out,Mt.zW _ _ Ym.out,(fun m=>by cases m),(iE Ye.out _).trans (Y3.mono Ye.out.size),Y4⟩
              case measure=>simp[intOf];omega
            ·obtain rfl:k=Tm.room (t f):=by omega
             go_wp2;go_roundw
             case rel=>exact⟨d,g+1,z,rfl,by go_num,by omega,Yd,fun m=>YZ.out (N.out m).2 (N.out m).1,Ye,Yg⟩
             case measure=>simp[intOf];omega
          ·have Zb:(t f !=t g)=true:=by simpa using O
           have Za:Hid (∀θ,Wb.jJ θ->¬Mt.nO a J e θ):=fun θ Zo ZF=>O (y.out θ Zo ZF).1
           clear L F x p Yj Yu O y;go_wp2;go_quiet(fail)
           go_wp2;go_quiet(fail)
           go_wp2;go_quiet(fail)
           go_wp2;go_ret;exact⟨iE (iE (v.out _) _) _,.inl ⟨rfl,Za.out⟩⟩
       ·have YU:((q f:Int)!=(q g:Int))=true:=by simp;omega
        have W:Hid (d=false->∀b c,c<b->(b<f∨(b=f∧c<g+1))->Mt.Shut t w j b c):=fun m=>p.out (fun r=>absurd (by rw[s.out.same m];exact r) L) m
        clear L F x p YQ YR;go_wp2;go_quiet(fail)
        go_wp2;go_quiet(fail)
        go_wp2;go_roundw
        case rel=>exact⟨d,g+1,q,rfl,by go_num,by omega,s,W,v.out _,M.out _⟩
        case measure=>simp[intOf];omega
      ·obtain rfl:g=f:=by omega
       go_wp2;go_roundw
       case rel=>exact⟨d,g+1,q,rfl,by go_num,by omega,s,fun m b c P Yk=>V.out m b c Yk (by omega),YK,Yo⟩
       case measure=>simp[intOf];omega
    ·obtain rfl:f=a:=by omega
     go_wp2;go_roundw
     case rel=>exact⟨d,YY,rfl,Q.out.begin,fun m f g P Yk=>by rw[Q.out.same m];exact Yq.out m f g P Yk,YJ,Yf⟩
     case measure=>
      rw[YA.out];show Mt.left _ h (.bool d) _<_;unfold Mt.left;rw[Yf.out.cls];cases d with
      |false=>have:=Q.out.le;simp only;omega
      |true=>have:=Q.out.less rfl;simp only;omega
end
structure Nd where
 X:Nat
 s:Int
 Xs:List Nat
 gK:List (List Int)
variable {H:Nd}{o:List Nd}
def Nd.z(d:Nd):List Int:=d.s::d.gK.flatten
def Q9:Nd:=⟨0,0,[],[]⟩
abbrev kK(L:List Nd)(k:Nat):Nd:=L[k]?.getD Q9
def Nu(z:List Int):Int:=z[0]?.getD 0
theorem Nd.hd(a:Nd):Nu a.z=a.s:=rfl
def Dk(L:List Nd)(p:Nat)(z:List Int)(i:Nat):Prop:=i<L.length∧(kK L i).z=z∧(Nu z<0->∀k,k<i->(kK L k).s≠Nu z)∧(0<=Nu z->(kK L i).X=p∧∀k,k<i->(kK L k).X≠p)
def xX(L:List Nd)(d:Nd):Prop:=∀j,j<d.Xs.length->∃i,Dk L (d.Xs[j]?.getD 0) (d.gK[j]?.getD []) i
def Oo(L:List Nd):Prop:=∀i j,i<L.length->j<L.length->(kK L i).s<0->(kK L i).s=(kK L j).s->i=j
theorem nG(b:List Nd)(c:a<o.length):kK (o++b) a=kK o a:=by unfold kK;rw[aV c]
theorem Ag(a:List Nd)(b:Nd):kK (a++[b]) a.length=b:=by unfold kK;simp
theorem ma(b:a<o.length):kK o a∈o:=by unfold kK;rw[an b];exact ee b
theorem Dk.app(m:Dk o a M h)(d:List Nd):Dk (o++d) a M h:=by
 obtain⟨e,f,g,i⟩:=m;refine⟨by rw[ai];omega,by rw[nG d e];exact f,fun c l b=>by rw[nG d (by omega)];exact g c l b,fun c=>?_⟩;obtain⟨j,k⟩:=i c;exact⟨by rw[nG d e];exact j,fun l b=>by rw[nG d (by omega)];exact k l b⟩
theorem xX.app(d:xX o H)(c:List Nd):xX (o++c) H:=fun f b=>by
 obtain⟨e,a⟩:=d f b;exact⟨e,a.app c⟩
theorem Oo.snoc(j:Oo o)(e:H.s<0->∀k,k<o.length->(kK o k).s≠H.s):Oo (o++[H]):=fun g f h i b c=>by
 rw[ai,iH]at h i;by_cases d:g<o.length
 ·rw[nG _ d]at b c
  by_cases a:f<o.length
  ·rw[nG _ a]at c
   exact j g f d a b c
  ·obtain rfl:f=o.length:=by omega
   rw[Ag]at c;exact absurd c (e (by omega) g d)
 ·obtain rfl:g=o.length:=by omega
  rw[Ag]at b c;by_cases a:f<o.length
  ·rw[nG _ a]at c
   exact absurd c.symm (e b f a)
  ·omega
def QJ(vN vC:Value)(lo hi:Nat):Prop:=∀q,(vN.ownBlock=some q∨vC.ownBlock=some q)->q<lo∨hi<=q
def A6(W:World)(x:Nat)(vN vC:Value)(d:Nd):Prop:=∃lo hi v,x<lo∧hi<=W.heap.size∧QJ vN vC lo hi∧lo<=d.X∧d.X<hi∧Node W d.X d.s v∧vv lo hi W v d.Xs∧d.Xs.length=Tm.room d.s∧d.gK.length=d.Xs.length∧(∀s∈d.z,-8<=s∧s<6)∧∀j,j<d.Xs.length->gv lo hi W (d.Xs[j]?.getD 0) (d.gK[j]?.getD [])
structure WK(W W':World)(x:Nat)(vN vC zO zQ:Value):Prop where
 os:W'.os=W.os
 tape:W'.tape=W.tape
 output:W'.output=W.output
 size:W.heap.size<=W'.heap.size
 block:∀k,k<W.heap.size->k≠x->some k≠vN.ownBlock->some k≠vC.ownBlock->W'.heap[k]?=W.heap[k]?
 M7:∀k,zO.ownBlock=some k->vN.ownBlock=some k∨W.heap.size<=k
 M8:∀k,zQ.ownBlock=some k->vC.ownBlock=some k∨W.heap.size<=k
theorem WK.refl(d:World)(e:Nat)(b a:Value):WK d d e b a b a:=⟨rfl,rfl,rfl,af _,fun _ _ _ _ _=>rfl,fun _ c=>.inl c,fun _ c=>.inl c⟩
theorem WK.drewN(b:WK r F a y B N O)(c:Nat):WK r (F.drewN c) a y B N O:=⟨b.os,b.tape,b.output,b.size,b.block,b.M7,b.M8⟩
theorem WK.trans(b:WK r F a y B N O)(g:WK F Yf a N O Yg Yh):WK r Yf a y B Yg Yh:=by
 refine⟨g.os.trans b.os,g.tape.trans b.tape,g.output.trans b.output,aK b.size g.size,fun e d h i j=>?_,fun e d=>?_,fun e d=>?_⟩
 ·have k:=b.block e d h i j
  refine(g.block e (by have:=b.size;omega) h (fun f=>?_) (fun f=>?_)).trans k
  ·rcases b.M7 e f.symm with c|c
   ·exact i c.symm
   ·omega
  ·rcases b.M8 e f.symm with c|c
   ·exact j c.symm
   ·omega
 ·rcases g.M7 e d with f|f
  ·exact b.M7 e f
  ·have:=b.size;exact .inr (by omega)
 ·rcases g.M8 e d with f|f
  ·exact b.M8 e f
  ·have:=b.size;exact .inr (by omega)
theorem WK.QW(e:WK r F u y B N O)(hF:QJ y B h a)(f:a<=r.heap.size):QJ N O h a:=fun c d=>by
 rcases d with b|b
 ·rcases e.M7 c b with b|b
  ·exact hF c (.inl b)
  ·exact .inr (by omega)
 ·rcases e.M8 c b with b|b
  ·exact hF c (.inr b)
  ·exact .inr (by omega)
theorem WK.keeps(c:WK r F u y B N O)(hF:QJ y B a h)(g:u<a)(f:h<=r.heap.size):∀k,a<=k->k<h->F.heap[k]?=r.heap[k]?:=fun k d e=>
 c.block k (by omega) (by omega) (fun b=>by have:=hF k (.inl b.symm);omega) (fun b=>by have:=hF k (.inr b.symm);omega)
theorem A6.eV{W':World}(s:A6 r a y B H)(j:WK r W' a y B N O):A6 W' a N O H:=by
 obtain⟨q,o,u,c,f,g,h,i,k,l,m,n,d,e⟩:=s;have b:=j.keeps g c f;exact⟨q,o,u,c,by have:=j.size;omega,j.QW g f,h,i,(b _ h i).trans k,l.eV (af _) (af _) b,m,n,d,fun t p=>(e t p).eV (af _) (af _) b⟩
theorem Mj(t:vv a h r y T)(v:vv u E r y Yi):T=Yi:=by
 obtain⟨w,z,rfl,i⟩:=t;obtain⟨p,s,m,j⟩:=v;simp only[iS]at m;obtain⟨rfl,k,rfl⟩:=m;refine iA k fun n d e=>?_
 obtain⟨x,o,g,_,_,f⟩:=i n d;obtain⟨q,l,c,_,_,b⟩:=j n e;rw[g]at c;simp only[dx,RC]at c;obtain⟨rfl,rfl,_⟩:=c;rw[f]at b;simp only[dx,Value.pointer.injEq,RC]at b;have:=b.1
 rw[an d,an e]at this;exact this
theorem gv.one(D:gv h u r a M):∀{d c:Nat}{b:List Int},gv d c r a b->M=b:=by
 induction D with
 |mk a G H C B w x k l F E _ m=>
  intro d c b j;cases j with
  |mk _ p q t s _ _ f g z y i=>
   have v:some (Obj.cells #[Value.int .i64 G,H] 119 (0,0))=some (Obj.cells #[Value.int .i64 p,q] 119 (0,0)):=(show r.heap[a]?=_ from k).symm.trans (show r.heap[a]?=_ from f);simp only[dx,fU,oH]at v;have e:=RG Array.toList v;simp only[Rk,oH,Value.int.injEq,Se]at e;obtain⟨rfl,rfl⟩:=e;obtain rfl:=Mj l g;congr 2;refine iA (by omega) fun A n o=>?_
   have:=m A (by omega) (i A (by omega))
   rw[an n,an o]at this;exact this
theorem A6.tree(l:A6 r a y B H):∃c b,gv c b r H.X H.z:=by
 obtain⟨c,b,p,m,n,o,e,f,g,h,i,j,k,d⟩:=l;exact⟨c,b,gv.mk H.X H.s p H.Xs H.gK e f g h i j d⟩
theorem A6.node(c:A6 r a y B H):∃v,Node r H.X H.s v:=by
 obtain⟨j,i,v,d,e,f,g,h,b,_⟩:=c;exact⟨v,b⟩
theorem Oy(d:Node r a Yd y)(e:Node r a Ye B):Yd=Ye∧y=B:=by
 have c:some (Obj.cells #[Value.int .i64 Yd,y] 119 (0,0))=some (Obj.cells #[Value.int .i64 Ye,B] 119 (0,0)):=(show r.heap[a]?=_ from d).symm.trans (show r.heap[a]?=_ from e);simp only[dx,fU,oH]at c;have b:=RG Array.toList c;simp only[Rk,oH,Value.int.injEq,Se]at b;exact b
structure TB(W:World)(x:Nat)(vN vC:Value)(L:List Nd)(m:Nat)(C:Nat->Nat):Prop where
 cell:W.heap[x]?=some (.cells #[vN,vC] 220 (0,0))
 xF:W.ownsRow (x+1) 92 1 vN L.length (L.map fun d=>lh d.X)
 vW:cU (x+1) W vC (Mt.Ao m C)
 Eg:∀d∈L,A6 W x vN vC d
 one:Oo L
theorem TB.lt(b:TB r a y B o h e):a<r.heap.size:=(ak.1 b.cell).1
theorem TB.drewN(b:TB r a y B o h e)(d:Nat):TB (r.drewN d) a y B o h e:=⟨b.cell,b.xF,b.vW,fun f c=>(b.Eg f c).eV ((WK.refl r a y B).drewN d),b.one⟩
theorem TB.form(p:TB r a y B o h e):∃c j,y=.slice c o.length j∧∀k,k<o.length->∃m b,c=some ⟨m,b,none⟩∧r.cell? ⟨m,b+k,none⟩=some (lh (kK o k).X):=by
 rcases p.xF.2 with⟨i,l⟩|⟨q,d,n,i,_⟩
 ·exact⟨none,0,by rw[i,l],fun k f=>by omega⟩
 ·refine⟨_,d,i,fun k f=>⟨q,0,rfl,?_⟩⟩
  have g:=p.xF;rw[i]at g;have:=dI g k (by omega)
  rw[cI,this];simp[kK,f]
def uf(n:Nat)(C:Nat->Nat):Nat->Nat:=fun k=>if k<n then C k else k
theorem Pq(b:a<h):uf h e a=e a:=by unfold uf;rw[aD b]
theorem jR{W':World}{base:Nat}{size:Nat}(j:r.ownsRow base Q size y a Z)(h:∀q,y.ownBlock=some q->W'.heap[q]?=r.heap[q]?):W'.ownsRow base Q size y a Z:=by
 refine⟨j.1,?_⟩;rcases j.2 with d|⟨i,b,c,rfl,e,f,g⟩
 ·exact .inl d
 ·exact .inr ⟨i,b,c,rfl,e,(h i rfl).trans f,g⟩
theorem uA{base:Nat}{size:Nat}(f:r.ownsRow base Q size y h Z)(c:y.ownBlock=some a):∃b,r.heap[a]?=some (.cells b Q (0,0)):=by
 rcases f.2 with⟨rfl,_⟩|⟨j,e,b,rfl,g,d,i⟩
 ·cases c
 ·cases c;exact⟨b,d⟩
theorem TB.apart(g:TB r a y B o h e){q:Nat}(d:y.ownBlock=some q)(f:B.ownBlock=some q):False:=by
 obtain⟨i,c⟩:=uA g.xF d;obtain⟨j,b⟩:=uA g.vW f;rw[c]at b;simp only[dx,fU]at b;exact absurd b.2.1 (by decide)
theorem La(e:r.heap[a]?=some (.cells #[y,B] Q (0,0)))(d:Value):(r.setCell ⟨a,0,none⟩ d).heap[a]?=some (.cells #[d,B] Q (0,0))∧(r.setCell ⟨a,1,none⟩ d).heap[a]?=some (.cells #[y,d] Q (0,0)):=by
 obtain⟨b,c⟩:=ak.1 e;constructor
 ·show(r.heap.modify a _)[a]?=_
  rw[fo (by rw[iO];exact b),fJ,c];rfl
 ·show(r.heap.modify a _)[a]?=_
  rw[fo (by rw[iO];exact b),fJ,c];rfl
theorem Lt{W V:World}(c:V.heap=W.heap)(d:V.os=W.os)(e:V.tape=W.tape)(f:V.output=W.output)(a:(V.alloc Yj).grownBy r U):W.grownBy r U:=by
 have h:(V.alloc Yj).heap.size=W.heap.size+1:=by simp[c]
 refine⟨a.os.trans d,a.tape.trans e,a.output.trans f,by have:=a.size;omega,fun i g b=>?_⟩;rw[a.block i (by omega) b,cM _ _ _ (by rw[c];exact g),c]
theorem Km{W:World}{tmp:Obj}(g:r.heap=(W.alloc tmp).heap)(c:r.os=W.os)(d:r.tape=W.tape)(e:r.output=W.output)(a:r.grownBy F U):W.grownBy F U:=by
 have h:r.heap.size=W.heap.size+1:=by rw[g];simp
 refine⟨a.os.trans c,a.tape.trans d,a.output.trans e,by have:=a.size;omega,fun i f b=>?_⟩;rw[a.block i (by omega) b,g,cM _ _ _ f]
theorem TB.QP(k:TB F a y B o E e)(f:F.grownBy r y.ownBlock)(g:r.ownsRow (a+1) 92 1 (.slice (some ⟨h,0,none⟩) (o.length+1) u) (o.length+1) ((o.map fun q=>lh q.X)++[lh I]))(s:y.ownBlock=some h∨F.heap.size<=h)
 (q:Nd)(A:q.X=I)(t:A6 F a y B q)(p:Oo (o++[q])):
 TB (r.setCell ⟨a,0,none⟩ (.slice (some ⟨h,0,none⟩) (o.length+1) u)) a (.slice (some ⟨h,0,none⟩) (o.length+1) u) B (o++[q]) E e∧WK F (r.setCell ⟨a,0,none⟩ (.slice (some ⟨h,0,none⟩) (o.length+1) u)) a y B (.slice (some ⟨h,0,none⟩) (o.length+1) u) B∧r.heap[a]?=some (.cells #[y,B] 220 (0,0)):=by
 have C:=k.lt;have G:=f.size;have n:∀c,c<F.heap.size->some c≠y.ownBlock->r.heap[c]?=F.heap[c]?:=fun c b v=>f.block c b v
 have x:some a≠y.ownBlock:=fun l=>by have:=(bn k.xF a l.symm).1;omega
 have j:r.heap[a]?=some (.cells #[y,B] 220 (0,0)):=(n a C x).trans k.cell;have D:a+1<=h:=(bn g h rfl).1;have d:∀c,c≠a->(r.setCell ⟨a,0,none⟩ (.slice (some ⟨h,0,none⟩) (o.length+1) u)).heap[c]?=r.heap[c]?:=fun c b=>aT _ _ _ c b
 have i:WK F (r.setCell ⟨a,0,none⟩ (.slice (some ⟨h,0,none⟩) (o.length+1) u)) a y B (.slice (some ⟨h,0,none⟩) (o.length+1) u) B:=by
  refine⟨f.os,f.tape,f.output,?_,fun c b m z H=>?_,fun c b=>?_,fun c b=>.inl b⟩
  ·have:=(ef r ⟨a,0,none⟩ (Value.slice (some ⟨h,0,none⟩) (o.length+1) u)).size
   omega
  ·rw[d c m,n c b z]
  ·obtain rfl:h=c:=by simpa [Value.ownBlock]using b
   rcases s with l|l
   ·exact .inl l
   ·exact .inr (by omega)
 refine⟨⟨(La j _).1,?_,?_,fun c b=>?_,p⟩,i,j⟩
 ·have m:=jR g (W':=r.setCell ⟨a,0,none⟩ (.slice (some ⟨h,0,none⟩) (o.length+1) u)) fun c b=>d c (fun l=>by have:h=c:=(by simpa [Value.ownBlock]using b);omega)
  rw[ai,iH,gF,sM,A];exact m
 ·refine jR k.vW fun c b=>?_
  have w:=bn k.vW c b;rw[d c (by omega),n c w.2 fun l=>k.apart l.symm b]
 ·rcases dZ.1 b with b|b
  ·exact(k.Eg c b).eV i
  ·rw[Rj]at b
   subst b;exact t.eV i
theorem TB.QS(j:TB F h B y o a e)(f:F.grownBy r y.ownBlock)(g:r.ownsRow (h+1) 3 1 (.slice (some ⟨u,0,none⟩) (a+1) E) (a+1) ((Mt.Ao a e).map (Value.int .i64)++[.int .i64 (a:Int)]))(p:y.ownBlock=some u∨F.heap.size<=u):
 TB (r.setCell ⟨h,1,none⟩ (.slice (some ⟨u,0,none⟩) (a+1) E)) h B (.slice (some ⟨u,0,none⟩) (a+1) E) o (a+1) (uf a e)∧WK F (r.setCell ⟨h,1,none⟩ (.slice (some ⟨u,0,none⟩) (a+1) E)) h B y B (.slice (some ⟨u,0,none⟩) (a+1) E)∧r.heap[h]?=some (.cells #[B,y] 220 (0,0)):=by
 have x:=j.lt;have A:=f.size;have n:∀c,c<F.heap.size->some c≠y.ownBlock->r.heap[c]?=F.heap[c]?:=fun c b q=>f.block c b q
 have t:some h≠y.ownBlock:=fun i=>by have:=(bn j.vW h i.symm).1;omega
 have k:r.heap[h]?=some (.cells #[B,y] 220 (0,0)):=(n h x t).trans j.cell;have z:h+1<=u:=(bn g u rfl).1;have d:∀c,c≠h->(r.setCell ⟨h,1,none⟩ (.slice (some ⟨u,0,none⟩) (a+1) E)).heap[c]?=r.heap[c]?:=fun c b=>aT _ _ _ c b
 have l:WK F (r.setCell ⟨h,1,none⟩ (.slice (some ⟨u,0,none⟩) (a+1) E)) h B y B (.slice (some ⟨u,0,none⟩) (a+1) E):=by
  refine⟨f.os,f.tape,f.output,?_,fun c b m C v=>?_,fun c b=>.inl b,fun c b=>?_⟩
  ·have:=(ef r ⟨h,1,none⟩ (Value.slice (some ⟨u,0,none⟩) (a+1) E)).size
   omega
  ·rw[d c m,n c b v]
  ·obtain rfl:u=c:=by simpa [Value.ownBlock]using b
   rcases p with i|i
   ·exact .inl i
   ·exact .inr (by omega)
 refine⟨⟨(La k _).2,?_,?_,fun c b=>(j.Eg c b).eV l,j.one⟩,l,k⟩
 ·refine jR j.xF fun c b=>?_
  have s:=bn j.xF c b;rw[d c (by omega),n c s.2 fun i=>j.apart b i.symm]
 ·have m:=jR g (W':=r.setCell ⟨h,1,none⟩ (.slice (some ⟨u,0,none⟩) (a+1) E)) fun c b=>d c (fun i=>by have:u=c:=(by simpa [Value.ownBlock]using b);omega)
  have i:Mt.Ao (a+1) (uf a e)=Mt.Ao a e++[(a:Int)]:=by
   unfold Mt.Ao;rw[Rv,gF,sM];congr 1
   ·exact gm fun D w=>by rw[Pq (Rd.1 w)]
   ·simp[uf]
  show World.ownsRow _ _ _ _ _ _ _;rw[Mt.kG,i,gF,sM];exact m
theorem least:∀n,(∃k,k<n∧Yc k)->∃k,k<n∧Yc k∧∀j,j<k->¬Yc j:=by
 intro n;induction n with
 |zero=>rintro⟨k,h,_⟩;omega
 |succ n g=>
  intro h;by_cases b:∃k,k<n∧Yc k
  ·obtain⟨k,e,a,c⟩:=g b
   exact⟨k,by omega,a,c⟩
  ·obtain⟨k,e,a⟩:=h
   have:k=n:=by
    by_cases i:k=n
    ·exact i
    ·exact absurd ⟨k,by omega,a⟩ b
   subst this;exact⟨k,by omega,a,fun j d f=>b ⟨j,d,f⟩⟩
def zg(W W':World)(e:Ending)(x:Nat)(vN vC:Value)(L:List Nd)(C:Nat->Nat)(p:Nat)(z:List Int):Prop:=
 ∃(i:Nat)(zO zQ:Value)(M:List Nd),e=.returned (.int .i64 (i:Int))∧Dk (L++M) p z i∧(∀d∈M,xX (L++M) d)∧TB W' x zO zQ (L++M) (L++M).length (uf L.length C)∧WK W W' x vN vC zO zQ∧M.length<=z.length
theorem FX{x:Nat}(p:TB r x B y o o.length e)(w:o.length<=5000)(f:Nat)(n:List Int)(d:Nat)(D:Dk o f n d){vp:Value}(z:Node r f (Nu n) vp)(u:uf o.length e=e):
 Calls Tryz.prog 185 #[lh x,lh f] r fun A m=>zg r m A x B y o e f n:=by
 obtain⟨q,s,rfl,l⟩:=p.form;obtain⟨g,h,i,j⟩:=D;have a:(kK o d).s=Nu n:=by rw[<-h];rfl
 have k:r.cell? ⟨x,0,none⟩=some (.slice q o.length s):=(dp p.cell 0).trans rfl;refine(EI (x:=x) (N:=fun c=>(kK o c).X) (S:=fun c=>(kK o c).s) r f d k l (fun c b=>(p.Eg _ (ma b)).node) w (vp:=vp) (by rw[a];exact z) ⟨g,fun t c b=>by show(kK o c).s≠(kK o d).s;rw[a];exact i (by rw[<-a];exact t) c b,fun t=>j (by rw[<-a];exact t)⟩).mono ?_;rintro A m⟨rfl,C,rfl⟩;have hF:Dk o f n d:=⟨g,h,i,j⟩;refine⟨d,_,y,[],rfl,by rw[cW];exact hF,fun E v=>by simp at v,?_,(WK.refl r x _ y).drewN C,by simp⟩;rw[cW,u];exact p.drewN C
theorem Nd.var(f:A6 r a y B H)(c:H.s<0):H.z=[H.s]:=by
 obtain⟨p,o,q,g,h,i,j,k,l,m,b,n,d,e⟩:=f;rw[Wb.lV c]at b;have:H.gK=[]:=bJ (by omega)
 unfold Nd.z;rw[this];rfl
theorem EB{n:Nat}{C:Nat->Nat}(b:∀k,n<=k->C k=k):uf n C=C:=by
 funext k
 unfold uf;by_cases a:k<n
 ·rw[aD a]
 ·rw[aE a,b k (by omega)]
theorem Bg(d:World)(j:X.guard=none)(z A:Operand)
 (v:X.op=.call {callee:=.builtin .append,args:=#[z,A],argTypes:=#[64,64]})(base h:Nat)(o:Value)(f:List Int)(w:Y.eval z=o)(r:d.ownsRow base 3 1 o h (f.map (Value.int .i64)))
 (p:Nat)(B:Int)(x:Y.eval A=.slice (some ⟨p,0,none⟩) 1 1)(q:d.cell? ⟨p,0,none⟩=some (.int .i64 B))(u:h<=1000000)(b:base<=d.heap.size)
 (C:∀g a w',w'.ownsRow base 3 1 (.slice (some ⟨g,0,none⟩) (h+1) a) (h+1) (f.map (Value.int .i64)++[.int .i64 B])->d.grownBy w' o.ownBlock->(o.ownBlock=some g∨g=d.heap.size)->Yk (Y.put X.dst (.slice (some ⟨g,0,none⟩) (h+1) a)) w'):
 if Region.wanted X (yielded Yl Y.tmps)=true then Oper.wp Tryz.prog X Y d Yk Ym else Yn:=by
 obtain⟨y,t,l,m,n⟩:=fh Tryz.yJ;refine og d j z A 64 v base 3 y (.int .i64 0) 1 8 Tryz.BK t l m n rfl (by decide) o h (f.map (Value.int .i64)) w r ⟨p,0,none⟩ 1 1 [.int .i64 B] x (by simp)
  (by intro D F c
      match D,c with
      |0,c=>simp at c;subst c;rw[cz];simpa using q)
  (by intro E k;simp at k;subst k;rfl) (by decide) (by unfold maxLen;omega) (by omega) b d.heap.size rfl ?_
 intro g a w' e s i _;exact C g a w' e s i
theorem Ny{W:World}{m:Nat}{C:Nat->Nat}(Y4:TB W m B y o o.length C)(c:Nd)(YC:o.length+c.z.length<=5000)(Yh:A6 W m B y c)(Yo:c.s<0->∀k,k<o.length->(kK o k).s≠c.s)(Yp:∀k,k<o.length->(kK o k).X≠c.X)(YS:uf o.length C=C)
 (Zt:∀(j:Nat)(W':World)(h g:Value)(S:List Nd),j<c.Xs.length->WK W W' m B y h g->TB W' m h g S S.length C->o.length<=S.length->S.length+(c.gK[j]?.getD []).length<=5000->
   Calls Tryz.prog 185 #[lh m,lh (c.Xs[j]?.getD 0)] W' fun e Y2=>zg W' Y2 e m h g S C (c.Xs[j]?.getD 0) (c.gK[j]?.getD [])):
 Calls Tryz.prog 185 #[lh m,lh c.X] W fun e Y2=>zg W Y2 e m B y o C c.X c.z:=by
 obtain⟨Ym,Yn,rfl,Yi⟩:=Y4.form;have ZL:W.cell? ⟨m,0,none⟩=some (.slice Ym o.length Yn):=(dp Y4.cell 0).trans rfl;have YX:=hid (Y4.one.snoc Yo);obtain⟨Z9,YK,YL⟩:=Tryz.infoTree;obtain⟨ab,X⟩:=Yh.node;have ZM:=X.cell0;have ZS:o.length<=5000:=by omega
 have ZF:(o.length:Int)<=5000:=by omega
 have A:=hid Yi;have N:=hid Y4;have Y9:=hid Yh;have Yu:=hid X;have Y5:=hid Yo;have YO:=hid Yp;have ZC:=hid Zt;have Y7:=hid YC;clear Yi Yh X Yo Yp Zt YC Y4;generalize YJ:c.s=ZB at*;have Za:=hid YJ;clear YJ;obtain⟨ZG,YV,Zq,Zr,Zs⟩:=fh Tryz.IT;by_cases YZ:ZB<0
 case' pos=>
  have Y6:=hid (Y5.out YZ);go_enter Tryz.func185,Tryz.ntmps185;go_wp2;go_loopw [5](fun r wr=>∃k:Nat,k<=o.length∧r=.int .i64 (k:Int)∧∃e,wr=W.drewN e)(fun r _=>o.length-(intOf r).toNat)
  case atStart=>exact⟨0,bf _,rfl,0,rfl⟩
  case' round=>
   obtain⟨k,Yt,rfl,e,rfl⟩:=hrel;by_cases d:k<o.length
   ·have YG:(k:Int)<(o.length:Int):=by omega
    obtain⟨b,YM,rfl,YE⟩:=A.out k d;obtain⟨Zy,l⟩:=(N.out.Eg _ (ma d)).node;have ZX:=l.cell0;have ZT:((kK o k).s==ZB)=false:=by simpa using Y6.out k d
    clear l;generalize(kK o k).s=Z8 at*;generalize(kK o k).X=Zv at*;go_wp2;go_quiet(fail)
    go_wp2;go_roundw
    case rel=>exact⟨k+1,by omega,by go_num,_,rfl⟩
    case measure=>simp[intOf];omega
   obtain rfl:k=o.length:=by omega
   go_wp2;go_loopw [6](fun r wr=>∃k:Nat,k<=o.length∧r=.int .i64 (k:Int)∧∃e,wr=W.drewN e)(fun r _=>o.length-(intOf r).toNat)
   case atStart=>exact⟨0,bf _,rfl,_,rfl⟩
   case' round=>
    obtain⟨k,Yt,rfl,e,rfl⟩:=hrel;by_cases d:k<o.length
    ·have YG:(k:Int)<(o.length:Int):=by omega
     obtain⟨b,YM,rfl,YE⟩:=A.out k d;obtain⟨Zy,l⟩:=(N.out.Eg _ (ma d)).node;have YY:=tx (P:=Tryz.prog) (W.drewN e) (a:=⟨(kK o k).X,0,none⟩) (b:=⟨c.X,0,none⟩) Tryz.underlying92 YK YL (fun e=>YO.out k d (RG Addr.block e)) l Yu.out;clear l;generalize(kK o k).X=Zv at*;go_wp2;go_roundw
     case rel=>exact⟨k+1,by omega,by go_num,_,rfl⟩
     case measure=>simp[intOf];omega
    obtain rfl:k=o.length:=by omega
 case' neg=>
  have ZW:decide (ZB<0)=false:=by simpa using YZ
  clear YZ;by_cases ZE:0<o.length
  case' pos=>
   have Zc:(0:Int)<(o.length:Int):=by omega
   go_enter Tryz.func185,Tryz.ntmps185;go_wp2;refine ft 1 ?_;rw[eK];go_wp2;go_loopw [6](fun r wr=>∃k:Nat,k<=o.length∧r=.int .i64 (k:Int)∧∃e,wr=W.drewN e)(fun r _=>o.length-(intOf r).toNat)
   case atStart=>exact⟨0,bf _,rfl,0,rfl⟩
   case' round=>
    obtain⟨k,Yt,rfl,e,rfl⟩:=hrel;by_cases d:k<o.length
    ·have YG:(k:Int)<(o.length:Int):=by omega
     obtain⟨b,YM,rfl,YE⟩:=A.out k d;obtain⟨Zy,l⟩:=(N.out.Eg _ (ma d)).node;have YY:=tx (P:=Tryz.prog) (W.drewN e) (a:=⟨(kK o k).X,0,none⟩) (b:=⟨c.X,0,none⟩) Tryz.underlying92 YK YL (fun e=>YO.out k d (RG Addr.block e)) l Yu.out;clear l;generalize(kK o k).X=Zv at*;go_wp2;go_roundw
     case rel=>exact⟨k+1,by omega,by go_num,_,rfl⟩
     case measure=>simp[intOf];omega
    obtain rfl:k=o.length:=by omega
  case' neg=>
   have Zc:decide ((0:Int)<(o.length:Int))=false:=by have Zf:o.length=0:=(by omega);rw[Zf];rfl
   have ZJ:decide (0<o.length)=false:=by simpa using ZE
   go_enter Tryz.func185,Tryz.ntmps185;go_wp2;refine ft 1 ?_;rw[eK];go_wp2;go_loopw [6](fun r wr=>∃k:Nat,k<=o.length∧r=.int .i64 (k:Int)∧∃e,wr=W.drewN e)(fun r _=>o.length-(intOf r).toNat)
   case atStart=>exact⟨0,bf _,rfl,0,rfl⟩
   case' round=>
    obtain⟨k,Yt,rfl,e,rfl⟩:=hrel;by_cases d:k<o.length
    ·exact absurd d (by omega)
    obtain rfl:k=o.length:=by omega
 all_goals(
  go_wp2_with(first
   |(at_builtin;go_loud(refine wpList_append_lies _ rfl _ _ 117 rfl (m+1) 92 ZG (.pointer none) 1 8 Tryz.underlying117 YV Zq Zr Zs rfl (by decide) _ o.length (o.map fun c=>lh c.X) rfl (rD (show(W.drewN e).ownsRow _ _ _ _ _ _ from N.out.xF) _) ⟨W.heap.size,0,none⟩ 1 1 [lh c.X] rfl rfl (vy _ _ _) (by simp[Value.oneCell',lh]) (by decide) (by unfold maxLen;omega) (by omega) (by have:=N.out.lt;simp;omega) (W.heap.size+1) (by simp) ?_);intro Q p Zz Yj K w YW;have YF:=Lt (W:=W) (V:=W.drewN e) rfl rfl rfl rfl K;have ZA:=N.out.QP YF Yj (by rcases w with e|e;exact .inl e;exact .inr (by omega)) c rfl Y9.out YX.out;have YT:=(dp ZA.2.2 0).trans rfl;have YU:Zz.frozen? ⟨m,0,none⟩=false:=(by simp[World.frozen?,ZA.2.2]);have YP:=hid ZA;clear ZA Yj K w YF YW))
  obtain⟨f,I⟩:∃f,Zz.setCell ⟨m,0,none⟩ (Value.slice (some ⟨Q,0,none⟩) (o.length+1) p)=f:=⟨_,rfl⟩;rw[I];have q:Hid (TB f m (.slice (some ⟨Q,0,none⟩) (o.length+1) p) y (o++[c]) o.length C):=by rw[<-I];exact YP.out.1
  have Yy:Hid (WK W f m (.slice Ym o.length Yn) y (.slice (some ⟨Q,0,none⟩) (o.length+1) p) y):=by rw[<-I];exact YP.out.2.1
  clear I YP YT YU;obtain⟨u,v,Zb,_,_⟩:=cU.ints q.out.vW;rw[Mt.kG]at Zb;subst Zb;have Zo:f.cell? ⟨m,0,none⟩=some (.slice (some ⟨Q,0,none⟩) (o.length+1) p):=(dp q.out.cell 0).trans rfl;have Zp:f.cell? ⟨m,1,none⟩=some (.slice u o.length v):=(dp q.out.cell 1).trans rfl;have Y0:=q.out.lt;obtain⟨Z6,Yr,ZO,ZP,ZQ⟩:=fh Tryz.yJ;have YI:Hid (∀(V:World)(ZI:Obj),V.heap=(f.alloc ZI).heap->V.ownsRow (m+1) 3 1 (.slice u o.length v) o.length ((Mt.Ao o.length C).map (Value.int .i64))):=fun V ZI Z=>by
   have i:=q.out.vW;unfold cU at i;rw[Mt.kG]at i;exact jR (rD i ZI) fun Zu _=>by rw[Z]
  have L:Hid (∀V:World,V.heap=(f.alloc (.cells #[.int .i64 (o.length:Int)] 3)).heap->V.cell? ⟨f.heap.size,0,none⟩=some (.int .i64 (o.length:Int))):=fun V Z=>(DS Z _).trans ((dp (aM f _) 0).trans rfl)
  have Ye:Hid (∀(V:World)(Q:Nat),V.heap=(f.alloc (.cells #[.int .i64 (o.length:Int)] 3)).heap->((Value.slice u o.length v).ownBlock=some Q∨Q=V.heap.size)->((Value.slice u o.length v).ownBlock=some Q∨f.heap.size<=Q)):=fun V Q Z i=>by
   rcases i with e|e
   ·exact .inl e
   ·exact .inr (by rw[e,Z];simp)
  go_region_law((refine Bg _ (by rfl) _ _ (by rfl) (m+1) o.length (.slice u o.length v) (Mt.Ao o.length C) (by rfl) (YI.out _ _ (by rfl)) f.heap.size (o.length:Int) (by rfl) (L.out _ (by rfl)) (by omega) (by simp;omega) ?_;intro YR D Y3 M z Yd;have Yg:=Km (W:=f) (tmp:=.cells #[.int .i64 (o.length:Int)] 3) (by rfl) (by rfl) (by rfl) (by rfl) z;have Yl:=q.out.QS Yg M (Ye.out _ _ (by rfl) Yd);have Zh:Y3.cell? ⟨m,1,none⟩=some (.slice u o.length v):=(dp Yl.2.2 1).trans (by rfl);have Zl:Y3.frozen? ⟨m,1,none⟩=false:=(by simp[World.frozen?,Yl.2.2]);have R:=hid Yl;clear Yl M z Yd Yg))
  all_goals(
   obtain⟨T,J⟩:∃T,Y3.setCell ⟨m,1,none⟩ (Value.slice (some ⟨YR,0,none⟩) (o.length+1) D)=T:=⟨_,rfl⟩;rw[J];have YB:Hid (TB T m (.slice (some ⟨Q,0,none⟩) (o.length+1) p) (.slice (some ⟨YR,0,none⟩) (o.length+1) D) (o++[c]) (o.length+1) C):=by rw[<-J];have i:=R.out.1;rw[YS]at i;exact i
   have Ze:Hid (WK W T m (.slice Ym o.length Yn) (.slice u o.length v) (.slice (some ⟨Q,0,none⟩) (o.length+1) p) (.slice (some ⟨YR,0,none⟩) (o.length+1) D)):=by rw[<-J];exact Yy.out.trans R.out.2.1
   have ZY:T.cell? ⟨m,0,none⟩=some (.slice (some ⟨Q,0,none⟩) (o.length+1) p):=(dp YB.out.cell 0).trans rfl;clear J R Zh Zl q Yy Zo Zp YI L Ye Y0;go_wp2;go_loopw [8](fun r wr=>∃(k:Nat)(t:List Nd)(h g:Value),k<=c.Xs.length∧r=.int .i64 (k:Int)∧Hid (TB wr m h g (o++[c]++t) (o++[c]++t).length C)∧Hid (WK W wr m (.slice Ym o.length Yn) (.slice u o.length v) h g)∧Hid (∀E∈t,xX (o++[c]++t) E)∧Hid (∀j,j<k->∃r,Dk (o++[c]++t) (c.Xs[j]?.getD 0) (c.gK[j]?.getD []) r)∧Hid (t.length<=(c.gK.take k).flatten.length))(fun r _=>c.Xs.length-(intOf r).toNat)
   case atStart=>exact⟨0,[],_,_,bf _,rfl,by rw[cW,ai,iH];exact YB,Ze,(fun E i=>by simp at i),(fun j Yr=>by omega),by simp[Hid]⟩
   case round=>
    obtain⟨k,t,h,g,Yt,rfl,Y,Yc,Yx,YA,U⟩:=hrel;obtain⟨ZZ,ZN,aa,_,_,_,_,_,Yz,Zg,YH,Yk,_,_⟩:=Y.out.Eg c (by simp);obtain⟨Z0,Z2,rfl,YD⟩:=Zg;have ZU:=Yz.dh;have Yv:=hid YH;have Yw:=hid Yk;have Y8:=hid YD;have ZV:=Tm.room_le c.s;clear Yz YH Yk YD;by_cases d:k<c.Xs.length
    ·have ZR:(k:Int)<(c.Xs.length:Int):=by omega
     obtain⟨Z1,Z7,rfl,_,_,Yq⟩:=Y8.out k d;have Zm:=yv (gK:=c.gK) (k:=k) (by have:=Yw.out;omega);have x:(o++[c]++t).length+(c.gK[k]?.getD []).length<=5000:=by
      have Yo:=Y7.out;have Yp:=U.out;have Z4:c.z.length=1+c.gK.flatten.length:=by unfold Nd.z;rw[aI];omega
      rw[ai,ai,iH];omega
     have s:=hid (ZC.out k wr h g (o++[c]++t) d Yc.out Y.out (by rw[ai,ai];omega) x);have Zn:=hid (pV (gK:=c.gK) (k:=k) (by have:=Yw.out;omega));have Zk:(c.Xs.length:Int)<=2:=by have:=Yv.out;omega
     clear x Zm;obtain⟨YN,G⟩:∃YN,c.Xs[k]?.getD 0=YN:=⟨_,rfl⟩;rw[G]at Yq s;have YQ:=hid G;clear G;go_wp2_with(go_at_call 185;refine s.out.mono ?_;clear s;rintro Z3 ad⟨ZH,Zx,Zw,O,rfl,Zd,hA6,Zi,Zj,ZK⟩)
     go_roundw
     case rel=>
      have F:o++[c]++t++O=o++[c]++(t++O):=dE _ _ _;refine⟨k+1,t++O,Zx,Zw,by omega,by go_num,?_,Yc.out.trans Zj,?_,?_,?_⟩
      ·have i:=Zi
       rw[EB (n:=(o++[c]++t).length) (C:=C) (fun Zu H=>by rw[<-YS];unfold uf;rw[aE (by rw[ai,ai]at H;omega)]),F]at i;exact i
      ·intro E Yf
       rw[<-F];rcases dZ.1 Yf with i|i
       ·exact(Yx.out E i).app O
       ·exact hA6 E i
      ·intro j Yr
       rw[<-F];by_cases e:j=k
       ·subst e;exact⟨ZH,by rw[YQ.out];exact Zd⟩
       ·obtain⟨r,YV⟩:=YA.out j (by omega)
        exact⟨r,YV.app O⟩
      ·show(t++O).length<=_
       rw[Zn.out,ai,ai];have:=U.out
       omega
     case measure=>simp[intOf];omega
    ·obtain rfl:k=c.Xs.length:=by omega
     have Zk:(c.Xs.length:Int)<=2:=by have:=Yv.out;omega
     go_wp2;go_ret;have F:o++[c]++t=o++([c]++t):=dE _ _ _;refine⟨o.length,h,g,[c]++t,by first|rfl|go_num,?_,?_,?_,Yc.out,?_⟩
     ·rw[<-F]
      have w:kK (o++[c]++t) o.length=c:=by rw[nG _ (by simp),Ag]
      refine⟨by simp,by rw[w],fun i Zu H=>?_,fun i=>⟨by rw[w],fun Zu H=>?_⟩⟩
      ·rw[dE,nG _ H]
       have ZD:Nu c.z=ZB:=(Nd.hd c).trans Za.out;rw[ZD]at i⊢;exact Y5.out i Zu H
      ·rw[dE,nG _ H]
       exact YO.out Zu H
     ·intro E Yf
      rw[<-F];rcases dZ.1 Yf with i|i
      ·rw[Rj]at i
       subst i;exact fun j Yr=>YA.out j Yr
      ·exact Yx.out E i
     ·rw[<-F,YS]
      exact Y.out
     ·rw[ai,iH]
      have Yp:=U.out;have Z5:=A1 (gK:=c.gK) c.Xs.length;unfold Nd.z;rw[aI];omega))
theorem Oz(Q:gv h u r a M):(∀s∈M,-8<=s∧s<6)->∀(y:World)(x:Nat)(v t:Value)(w:List Nd)(C:Nat->Nat),(∀k,h<=k->k<u->y.heap[k]?=r.heap[k]?)->u<=y.heap.size->x<h->QJ v t h u->TB y x v t w w.length C->uf w.length C=C->w.length+M.length<=5000->
 Calls Tryz.prog 185 #[lh x,lh a] y fun P Yp=>zg y Yp P x v t w C a M:=by
 induction Q with
 |mk a s Yo H b n o T U X I V Yn=>
  intro F y x v t w C l p L e i z Yl;have f:Node y a s Yo:=(l a n o).trans T;have W:gv h u y a (s::b.flatten):=(gv.mk a s Yo H b n o T U X I V).eV (af _) (af _) l;have G:A6 y x v t ⟨a,s,H,b⟩:=⟨h,u,Yo,L,p,e,n,o,f,U.eV (af _) (af _) l,X,I,F,fun N A=>(V N A).eV (af _) (af _) l⟩;by_cases j:s<0∧∃k,k<w.length∧(kK w k).s=s
  ·obtain⟨K,j⟩:=j
   obtain⟨Ye,c,g,q⟩:=least _ j;refine FX i (by omega) a (s::b.flatten) Ye ⟨c,?_,fun _ k d=>q k d,fun Q=>?_⟩ f z
   ·have Yi:=Nd.var (i.Eg _ (ma c)) (by omega)
    have Yj:=Nd.var G K;rw[Yi,g];exact Yj.symm
   ·have Yt:0<=s:=Q
    omega
  ·by_cases R:∃k,k<w.length∧(kK w k).X=a
   ·obtain⟨Ye,c,g,q⟩:=least _ R
    obtain⟨Yu,Yq,D⟩:=(i.Eg _ (ma c)).tree;obtain⟨Yv,B⟩:=(i.Eg _ (ma c)).node;rw[g]at D B;obtain⟨Yk,_⟩:=Oy B f;refine FX i (by omega) a (s::b.flatten) Ye ⟨c,D.one W,fun Q=>?_,fun _=>⟨g,fun k d=>q k d⟩⟩ f z;exact absurd ⟨Q,Ye,c,Yk⟩ j
   ·refine Ny i ⟨a,s,H,b⟩ Yl G (fun K k d P=>j ⟨K,k,d,P⟩) (fun k d P=>R ⟨k,d,P⟩) z ?_
    intro N Yh Yd Yc Yg A m O Yr S;have J:∀Yf∈b[N]?.getD [],-8<=Yf∧Yf<6:=fun Yf Ym=>by
     refine F Yf (jb _ (mF.2 ⟨b[N]?.getD [],?_,Ym⟩));have E:N<b.length:=by rw[I];exact A
     rw[an E];exact ee E
    exact Yn N A J Yh x Yd Yc Yg C (fun k Y Z=>(m.keeps e L p k Y Z).trans (l k Y Z)) (by have:=m.size;omega) L (m.QW e p) O (EB fun k d=>by rw[<-z];unfold uf;rw[aE (by omega)]) S
