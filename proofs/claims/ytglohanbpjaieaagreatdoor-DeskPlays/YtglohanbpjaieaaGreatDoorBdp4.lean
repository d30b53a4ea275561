/-
  Parts of the proof.
-/
import Derived.Test.YtglohanbpjaieaaGreatDoorBdp3
set_option maxHeartbeats 1000000
set_option maxRecDepth 100000
namespace Go.Proofs.YtglohanbpjaieaaGreatDoor
open Go.Proofs Go.RowKit Go.Shelf Go.Maps
variable {a:List Int}
section
attribute [local go_sem] Oper.semAt_some
def mM(t p:List Int)(l:List (rJ t)):List Int:=(l.filter fun x=>(Tm.fit p (cD t x.1)).isSome).map fun x=>(x.1:Int)
theorem Gr{p:List Int}(b:List (rJ a))(c:rJ a)(d:Tm.fit p (cD a c.1)=none):mM a p (b++[c])=mM a p b:=by
 simp[mM,List.filter_append,d]
theorem D8{p:List Int}(c:List (rJ a))(b:rJ a){m:uC}(d:Tm.fit p (cD a b.1)=some m):mM a p (c++[b])=mM a p c++[(b.1:Int)]:=by
 simp[mM,List.filter_append,d]
theorem Gf{p:List Int}(b:List (rJ a)):(mM a p b).length<=b.length:=by
 simp only[mM,en];exact ki _ _
def mf(t p:List Int):List Int:=if dY t p=0 then mM t p (jq t t.length)else []
theorem Jz(e p:List Int)(d j:Option Addr)(c h:Nat)(w:World)(X:Tm.err e=0)(YO:Tm.err p=0)(M:cZ w.heap.size w d e)(Yp:cZ w.heap.size w j p)(J:e.length<=c∧c<=maxLen∧(d=none->c=0))(YH:p.length<=h∧h<=maxLen∧(j=none->h=0)):
 Calls Tryz.prog 167 #[.slice d e.length c,.slice j p.length h] w fun H y=>∃v,H=.returned (.tuple #[v,.int .i64 0])∧cU w.heap.size y v (mM e p (jq e e.length))∧Below w.heap.size w y:=by
 obtain⟨Yu,hF⟩:∃Yu,Yu=Fence.wide:=⟨_,rfl⟩;refine(gx (n:=3)).1 ?_;rw[<-hF];obtain⟨Yl,A,P,O⟩:=jk hF;have Yv:Hid (Yu=Fence.wide):=hF;clear hF;have YK:=A 167;have Zd:=A 173;have Zf:=A 142;have Yq:=A 172;have Ze:=A 174;have Yr:=cK X;have s:Below w.heap.size w ((w.alloc (.cells #[.slice d e.length c] 68)).alloc (.cells #[.slice j p.length h] 68)):=((ah _ w).alloc (af _) _).alloc (by simp) _;have C:=Al e p d j c h _ ((M.below s).mono s.size) ((Yp.below s).mono s.size) J YH;rw[rM X YO]at C;simp only[bI]at C;have YI:=O (n:=3-1) C;clear C;have Ym:=(dt w 68 (.slice d e.length c)).alloc (.cells #[.slice j p.length h] 68);have Z:=dt (w.alloc (.cells #[.slice d e.length c] 68)) 68 (.slice j p.length h);rw[bI]at Z;have W:((w.alloc (.cells #[.slice d e.length c] 68)).alloc (.cells #[.slice j p.length h] 68)).heap.size=w.heap.size+1+1:=by simp
 obtain⟨YC,N⟩:∃YC,(w.alloc (.cells #[.slice d e.length c] 68)).alloc (.cells #[.slice j p.length h] 68)=YC:=⟨_,rfl⟩;have Yw:=hid N;rw[N]at Ym Z W s;have YB:=hid W;clear N W;refine eE Tryz.func167 rfl YK ?_ Yl;simp only[Tryz.ntmps167,cY,aI,bH,Nat.reduceAdd,Nat.reduceSub,bM,bQ,cE,bY,bV,bc];gi_wp2_with(first
  |((try refine⟨P _,?_⟩);gi_at_call 173;refine YI.mono ?_;clear YI;rintro H b⟨rfl,z⟩;rw[Yw.out]at z;have Yn:=((z.cell (p:=⟨w.heap.size,0,none⟩) (by show w.heap.size<_;omega)).trans Ym.cell);have YG:=((z.cell (p:=⟨w.heap.size+1,0,none⟩) (by show w.heap.size+1<_;omega)).trans Z.cell);have Zk:w.heap.size+1+1<=b.heap.size:=(by have:=z.size;have:=YB.out;omega);have YF:(b.alloc (.cells #[.slice none 0 0] 64)).cell? ⟨w.heap.size,0,none⟩=some (.slice d e.length c):=(aH (a:=⟨w.heap.size,0,none⟩) (cM b _ w.heap.size (by omega))).trans Yn)
  |((try refine⟨P _,?_⟩);gi_at_call 142;refine(LF Yu Yv.out _ _ _ _ _).mono ?_;rintro H y⟨rfl,rfl⟩))
 have q:Below w.heap.size w b:=s.trans (z.mono (by omega));have YE:=(dt b 64 (.slice none 0 0)).alloc (.cells #[.slice d e.length c] 68);have Yc:=dt (b.alloc (.cells #[.slice none 0 0] 64)) 68 (.slice d e.length c);rw[bI]at Yc;have Yh:Below b.heap.size b ((b.alloc (.cells #[.slice none 0 0] 64)).alloc (.cells #[.slice d e.length c] 68)):=((ah _ b).alloc (af _) _).alloc (by simp) _;refine wpIn_rangeFunc_ownG Yl (by omega) (gf:=172) (lb:=#[.pointer (some ⟨b.heap.size+1,0,none⟩)]) rfl Yq (iW Tryz.func172 (by kernel_rfl) rfl)
  (Ey Yu Yv.out _ (b.heap.size+1) b.heap.size c d e Yr _ (by simp;omega) (by simp) Yc.cell (((M.below q).mono q.size).below Yh)) Ov (NO (by simp;omega) (by simp)) (ah _ _) (fun _=>rfl)
  (fun f r=>(∃v,Boxed r b.heap.size 64 v∧r.ownsRow b.heap.size 3 1 v (mM e p f).length ((mM e p f).map (Value.int .i64))∧True)∧Boxed r (b.heap.size+1) 68 (.slice d e.length c)∧Below b.heap.size b r)
  (fun _ _ _=>False)
  (qZ ((holdsRow_own b.heap.size b.heap.size 64 3 1 (fun f=>(mM e p f).length) (fun f=>(mM e p f).map (Value.int .i64)) (fun _ _=>True)).from _) (qZ ((pn (b.heap.size+1) 68 (fun _=>.slice d e.length c)).from _) (ownFrom_below (af _) (by simp;omega))))
  (fun _ _ _ _ _ Y6 _ _=>Y6)
  ⟨⟨_,YE,gq _ _ _ _,trivial⟩,Yc,Yh⟩
  (fun g=>{tmps:=#[.slice d e.length c,.slice j p.length h,.pointer (some ⟨w.heap.size,0,none⟩),.pointer (some ⟨w.heap.size+1,0,none⟩),.slice none 0 0,.int .i64 0,.int .i64 0,.pointer (some ⟨b.heap.size,0,none⟩),.int .i64 (g.1:Int),.int .i64 (Tm.dn e g.1:Int),undef,undef,
    .slice d e.length c,.slice j p.length h,.slice (some ⟨w.heap.size+1+1,0,none⟩) 2 2,.int .i64 0,.int .i64 0,.bool false,undef,.slice d e.length c,.func (.func 172) #[] #[.pointer (some ⟨b.heap.size+1,0,none⟩)],.int .i64 (g.1:Int),.int .i64 (Tm.dn e g.1:Int),
    undef,undef,undef,undef,undef,undef,undef,undef,undef,undef,undef,undef,undef,undef,undef],defers:=[]}) ?assign ?body ?done ?stop
 case assign=>
  intro Zl g r ZB L;simp only[BO];gi_wp2
  exact L
 case body=>
  rintro Zl f g r⟨⟨v,E,x,_⟩,D,G⟩Zi;have Nu:=(G.cell (p:=⟨w.heap.size,0,none⟩) (by show w.heap.size<_;omega)).trans Yn;have Zc:=(G.cell (p:=⟨w.heap.size+1,0,none⟩) (by show w.heap.size+1<_;omega)).trans YG;have Y:=g.2;have Zh:=gL X Y;have Zg:=Tm.im e g.1;have U:=fZ X Y;obtain⟨Yg,o,rfl,Zq,_⟩:=M.at (by omega);have R:∀i,Below b.heap.size b i->Calls Tryz.prog 174 #[.slice j p.length h,.slice (some ⟨Yg,o+g.1,none⟩) (Tm.dn e g.1-g.1) (c-g.1)] i fun H y=>Below i.heap.size i y∧JU i y H (Tm.fit p (cD e g.1)):=fun i YJ=>by
   rw[<-U];have l:=q.trans (YJ.mono q.size);exact K5 p (cD e g.1) j _ h (c-g.1) i YO (fD X Y) ((Yp.below l).mono l.size) (((M.sub g.1 _).below l).mono l.size) (by rw[U];omega) (by have:=J.2.1;omega)
  have I:=hid R;have YV:Tryz.prog.follows .mixedOrders=true:=by kernel_rfl
  have YW:=hid x;have Zj:c<=9223372036854775807:=J.2.1;have Zb:=J.1;clear R x U Yn YG YF M Yp J YH Ym Z YE Yc;have Zt:(g.1:Int)<=(Tm.dn e g.1:Int):=by omega
  have Zu:(Tm.dn e g.1:Int)<=(c:Int):=by omega
  have Zv:¬c-g.1=0:=by omega
  have Zw:(0:Int)<=(g.1:Int):=by omega
  have Zx:¬c=g.1:=by omega
  have K:Below b.heap.size b r.drew:=bD G 1;have YX:Hid (CallsIn Yu 0 Tryz.prog 174 #[.slice j p.length h,.slice (some ⟨Yg,o+g.1,none⟩) (Tm.dn e g.1-g.1) (c-g.1)] r.drew fun H y=>Below r.drew.heap.size r.drew y∧∃Yf,H=.returned (.tuple #[.map Yf,.bool (Tm.fit p (cD e g.1)).isSome])):=by
   refine O ((I.out r.drew K).mono ?_);rintro H y⟨k,Ye⟩;refine⟨k,?_⟩;cases V:Tm.fit p (cD e g.1)with
   |none=>rw[V]at Ye;exact⟨_,Ye⟩
   |some Yt=>rw[V]at Ye;obtain⟨Zo,ZC,Yd,_⟩:=Ye;exact⟨_,Yd⟩
  have YA:Hid (∀Yt,Tm.fit p (cD e g.1)=some Yt->mM e p (f++[g])=mM e p f++[(g.1:Int)]):=fun Yt Yd=>D8 f g Yd
  have Yz:=hid (Gr (p:=p) f g);have Yy:Hid ((Tm.fit p (cD e g.1)).isSome=true->∃Yt,Tm.fit p (cD e g.1)=some Yt):=fun Yd=>tO.1 Yd
  have Yx:Hid ((Tm.fit p (cD e g.1)).isSome=false->Tm.fit p (cD e g.1)=none):=fun Yd=>by simpa using Yd
  clear I;generalize(Tm.fit p (cD e g.1)).isSome=YU at*;gi_wp2
  refine xD (Q:=fun H YD i=>H=.normal∧∃Yf,YD={tmps:=#[.slice (some ⟨Yg,o,none⟩) e.length c,.slice j p.length h,.pointer (some ⟨w.heap.size,0,none⟩),.pointer (some ⟨w.heap.size+1,0,none⟩),.slice none 0 0,.int .i64 0,.int .i64 0,.pointer (some ⟨b.heap.size,0,none⟩),.int .i64 (g.1:Int),.int .i64 (Tm.dn e g.1:Int),.map Yf,.bool YU,.slice (some ⟨Yg,o,none⟩) e.length c,.slice j p.length h,.slice (some ⟨w.heap.size+1+1,0,none⟩) 2 2,.int .i64 0,.int .i64 0,.bool false,undef,.slice (some ⟨Yg,o,none⟩) e.length c,.func (.func 172) #[] #[.pointer (some ⟨b.heap.size+1,0,none⟩)],.int .i64 (g.1:Int),.int .i64 (Tm.dn e g.1:Int),.tuple #[.map Yf,.bool YU],.slice j p.length h,.slice (some ⟨Yg,o,none⟩) e.length c,.int .i64 (g.1:Int),.int .i64 (Tm.dn e g.1:Int),.slice (some ⟨Yg,o+g.1,none⟩) (Tm.dn e g.1-g.1) (c-g.1),.tuple #[.map Yf,.bool YU],.map Yf,.bool YU,undef,undef,undef,undef,undef,undef],defers:=[]}∧Below r.drew.heap.size r.drew i) ?reg ?cont
  case reg=>
   gi_region_with_o(first|((try refine⟨P _,?_⟩);gi_at_call 174;refine(eS Zl YX.out).mono ?_;rintro H Zm⟨Yo,Yf,rfl⟩))
   all_goals exact⟨rfl,Yf,rfl,Yo⟩
  case cont=>
   rintro H YD i⟨rfl,Yf,rfl,k⟩;have l:Below b.heap.size b i:=K.trans (k.mono K.size);have B:Boxed i b.heap.size 64 v:=(k.block _ E.lt).trans E;have m:Boxed i (b.heap.size+1) 68 (.slice (some ⟨Yg,o,none⟩) e.length c):=(k.block _ D.lt).trans D;have t:cU b.heap.size i v (mM e p f):=cU.below (show cU b.heap.size r.drew v (mM e p f)from YW.out) k;have Yj:KeepsOthers r i:=⟨k.size,fun Zs ZE YL _=>(k.block Zs (ak.1 YL).1).trans YL⟩;have S:Kept b.heap.size (b.heap.size+1) r i:=⟨(bD (ah _ r) 1).trans (k.mono G.size),(k.block _ D.lt)⟩;cases YU with
   |false=>
    have T:=hid (Yz.out (Yx.out rfl));gi_wp2
    exact⟨Yj.from _,S,⟨v,B,by rw[T.out];exact t⟩,m,l⟩
   |true=>
    obtain⟨Yt,YN⟩:=Yy.out rfl;have T:=hid (YA.out Yt YN);have Yk:=hid (Gf (p:=p) f);clear YN;have Za:=B.cell;obtain⟨Y7,Y4,YR,YS,YT⟩:=fh Tryz.yJ;obtain⟨Zn,Y9,rfl,_⟩:=cU.ints t;gi_wp2_with(gi_at_builtin;(refine rC _ rfl _ _ 64 rfl b.heap.size 3 Y7 (.int .i64 0) 1 8 Tryz.BK Y4 YR YS YT rfl (by decide) _ (mM e p f).length ((mM e p f).map (Value.int .i64)) rfl (rD t _) ⟨i.heap.size,0,none⟩ 1 1 [.int .i64 (g.1:Int)] rfl rfl (vy _ _ _) (by simp[Value.oneCell']) (by have:=Yk.out;unfold maxLen;omega) (by have:=Yk.out;omega) (by have:=l.size;simp;omega) ?_);intro Zy Zz F u Y5;obtain⟨Zp,YZ,rfl⟩:=jy F;have YY:=B.appended (by decide) t l.size (af _) F u;have Y2:=YY.1.cell;have Y3:=YY.1.frozen)
    obtain⟨_,YQ,YP,YM,Yi⟩:=YY;refine⟨(Yj.trans YM).from _,⟨S.1.trans Yi,?_⟩,⟨_,YQ,by rw[T.out];simpa using YP⟩,?_,l.trans Yi⟩
    ·rw[aT _ _ _ _ (by simp),u.block _ (by have:=m.lt;simp;omega) (m.not_row (by decide) t),cM _ _ _ m.lt]
     exact S.2
    ·refine nK (Boxed.kept (m.alloc _) u (m.not_row (by decide) t)) (by omega) _
 case done=>
  rintro Y8 ZA r Y0 rfl⟨⟨v,E,x,_⟩,D,G⟩L;have Zr:=E.cell;gi_wp2
  refine⟨by simp,.inl ⟨_,_,rfl,ed L,?_⟩⟩;exact⟨_,rS rfl _ _ _,v,rfl,cU.mono (show cU b.heap.size _ v _ from ownsRow_putObj x _ L rfl) q.size,q.trans ((G.trans (uD (w:=b) (af _) r Y8 _ _ (by simp at Y0;omega) L rfl rfl)).mono q.size)⟩
 case stop=>
  rintro Y8 ZD f r _ _ Yd _;exact Yd.elim
theorem Je(i h:List Int)(a f:Option Addr)(d c:Nat)(e:World)(o:dY i h≠0)(n:cZ e.heap.size e a i)(m:cZ e.heap.size e f h)(j:i.length<=d∧d<=maxLen∧(a=none->d=0))(k:h.length<=c∧c<=maxLen∧(f=none->c=0)):
 Calls Tryz.prog 167 #[.slice a i.length d,.slice f h.length c] e fun q p=>∃v,q=.returned (.tuple #[v,.int .i64 (dY i h)])∧cU e.heap.size p v []∧Below e.heap.size e p:=by
 have b:Below e.heap.size e ((e.alloc (.cells #[.slice a i.length d] 68)).alloc (.cells #[.slice f h.length c] 68)):=((ah _ e).alloc (af _) _).alloc (by simp) _;have g:=Al i h a f d c _ ((n.below b).mono b.size) ((m.below b).mono b.size) j k;simp only[bI]at g;have r:(dY i h !=0)=true:=by simp[o]
 clear n m j k o;generalize dY i h=t at*;go_enter Tryz.func167,Tryz.ntmps167;go_wp2_with(first|(go_at_call 173;refine g.mono ?_;clear g;rintro q s⟨rfl,l⟩))
 go_ret2
 exact⟨_,rfl,cU.nil _ _,b.trans (l.mono (by omega))⟩
theorem Ok(h g:List Int)(a d:Option Addr)(c b:Nat)(f:World)(l:cZ f.heap.size f a h)(k:cZ f.heap.size f d g)(i:h.length<=c∧c<=maxLen∧(a=none->c=0))(j:g.length<=b∧b<=maxLen∧(d=none->b=0)):
 Calls Tryz.prog 167 #[.slice a h.length c,.slice d g.length b] f fun p m=>∃v,p=.returned (.tuple #[v,.int .i64 (dY h g)])∧cU f.heap.size m v (mf h g)∧Below f.heap.size f m:=by
 unfold mf;by_cases e:dY h g=0
 ·obtain⟨o,n⟩:=pE e
  rw[aD e,e];exact Jz h g a d c b f o n l k i j
 ·rw[aE e]
  exact Je h g a d c b f e l k i j
end
