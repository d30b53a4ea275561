/-
  Parts of the proof.
-/
import Derived.Test.YtglohanbpjaieaaGreatDoorBdp11
set_option maxHeartbeats 2000000
set_option maxRecDepth 100000
namespace Go.Proofs.YtglohanbpjaieaaGreatDoor
open Go.Proofs Go.RowKit Go.Shelf Go.Maps
variable {A:Act}{B:Func}{C:Bool}{D:Option Addr}{E:Int}{F:Array Oper}{G:Exit->Act->World->Prop}{H:List (List Int)}{I:Array (MapEntry)}{a c w:World}{b e l m n o r z:Nat}{d:List Int}{h:Value}{p:Nat->List Int}{s:Nat->Option Nat}{t:Array Value}{u:Nat->Nat}{y:Oper}
section
attribute [local go_sem] Oper.semAt_some
theorem Dq(c:List Int)(Zo:Wb.Good c)(Zm:Nat->Option Nat)(Yj:Nat->Nat)(ZR:Wb.St c Zm Yj)(o R V y w Zs base YK:Nat)(X:List (List Int))(v:Value)(g:List Int)(n:World)
 (Yr:iV n o R (some ⟨V,y,none⟩) w c Zs Zm)(ZO:YK<c.length)(Yw:cU base n v g)(Yt:∀k,v.ownBlock=some k->k≠o∧k≠R∧k≠V)(ZQ:base<=n.heap.size)(Z5:g.length<=29)(Za:X.length=Tm.room (Wb.sg c (Wb.hd c Yj YK)))
 (Zi:∀i,i<Tm.room (Wb.sg c (Wb.hd c Yj YK))->∀(p:Value)(Zl:List Int)(P:World),iV P o R (some ⟨V,y,none⟩) w c Zs Zm->cU base P p Zl->(∀k,p.ownBlock=some k->k≠o∧k≠R∧k≠V)->base<=P.heap.size->Zl.length<=30->
   CallsIn Fx 3 Tryz.prog 219 #[.pointer (some ⟨o,0,none⟩),p,.int .i64 (Tm.pos c (Wb.hd c Yj YK) i:Int)] P fun l ZS=>GF P ZS base l p Zl (X[i]?.getD [])):
 CallsIn Fx 3 Tryz.prog 219 #[.pointer (some ⟨o,0,none⟩),v,.int .i64 (YK:Int)] n fun l ZP=>GF n ZP base l v g (Wb.sg c (Wb.hd c Yj YK)::X.flatten):=by
 obtain⟨YO,hF⟩:∃YO,YO=Fx:=⟨_,rfl⟩;have Y:Hid (Pl YO):=by rw[hF];exact PN
 have Zf:Hid (∀Zz,YO.fn Zz->∃av,Tryz.prog.funcs[Zz]?=some av):=by rw[hF];exact Ql
 rw[<-hF];rw[<-hF]at Zi;clear hF;obtain⟨YI,K,YB⟩:=oG Y.out;have ZH:=K _ _ Tryz.func219;have Z6:=K _ _ Tryz.func215;have Z7:=K _ _ Tryz.func169;have ZI:=K _ _ Tryz.func196;clear K;have Y9:=Zo.len;have ZW:(c.length:Int)<=5000:=by omega
 obtain⟨Zk,Zj⟩:=Yr.lt;obtain⟨YH,_,_⟩:=Wb.tX Zo ZR ZO;have ZY:(Wb.hd c Yj YK:Int)<(c.length:Int):=by omega
 have YA:V<n.heap.size:=by
  obtain⟨ao,ZZ,l,YS,_⟩:=Yr.ints.at (by omega);cases l;exact YS
 have ad:((g.length:Int)==30)=false:=by simp;omega
 have YG:=fun k(l:v.ownBlock=some k)=>(bn Yw k l).2
 have H:Below n.heap.size n ((n.alloc (.cells #[.pointer (some ⟨o,0,none⟩)] 243)).alloc (.cells #[v] 68)):=((ah _ n).alloc (af _) _).alloc (by simp) _;have Yc:=(dt n 243 (.pointer (some ⟨o,0,none⟩))).alloc (.cells #[v] 68);have M:=dt (n.alloc (.cells #[.pointer (some ⟨o,0,none⟩)] 243)) 68 v;rw[bI]at M;have YJ:((n.alloc (.cells #[.pointer (some ⟨o,0,none⟩)] 243)).alloc (.cells #[v] 68)).heap.size=n.heap.size+1+1:=by simp
 have Zd:=hid (yZ YO Y.out (3-1) c Zm Yj Zo ZR o R _ w Zs YK ZO _ (Yr.below H));have Ye:=Yr.below H;have Yx:=Yw.below H;obtain⟨r,s,rfl,_⟩:=cU.ints Yw;obtain⟨B,Yy⟩:∃B,(n.alloc (.cells #[.pointer (some ⟨o,0,none⟩)] 243)).alloc (.cells #[.slice r g.length s] 68)=B:=⟨_,rfl⟩;have YZ:=hid Yy;rw[Yy]at H Yc M Zd Ye YJ Yx;have ZF:=Yc.cell;have ZE:=M.cell;have ZJ:=M.frozen;have ZD:=Ye.cell0;have ZG:=iV.MB Ye YH;have Z8:=hid (fun i Zg=>Wb.pw Zo YH (i:=i) Zg);have al:=hid Yw;have YX:=hid Yx;have an:=hid Yr;have YY:=hid Ye;have Zr:=hid Zi;have Y2:=hid Za;have Yu:=hid Yt;have z:=hid YG;clear Yy Zo ZR Yr Yw Zi Yx Ye Za Yt YG;generalize Wb.hd c Yj YK=x at*;refine eE Tryz.func219 rfl ZH ?_ YI;simp only[Tryz.ntmps219,cY,aI,bH,Nat.reduceAdd,Nat.reduceSub,bM,bQ,cE,bY,bV,bc];gi_wp2_with(first
  |((try refine⟨YB _,?_⟩);gi_at_call 215;rw[YZ.out];refine Zd.out.mono ?_;clear Zd;rintro l B⟨rfl,rfl⟩))
 have YU:Tryz.prog.follows .mixedOrders=true:=by kernel_rfl
 have G:=(show Boxed (B.alloc (.cells #[.int .i64 (Wb.sg c x)] 3)).drew (n.heap.size+1) 68 (.slice r g.length s)from M.alloc (.cells #[.int .i64 (Wb.sg c x)] 3));have q:(B.alloc (.cells #[.int .i64 (Wb.sg c x)] 3)).drew.heap.size=n.heap.size+1+1+1:=by show(B.alloc (.cells #[.int .i64 (Wb.sg c x)] 3)).heap.size=_;simp[YJ]
 have I:=hid (show cU base (B.alloc (.cells #[.int .i64 (Wb.sg c x)] 3)).drew (.slice r g.length s) g from cU.alloc YX.out (.cells #[.int .i64 (Wb.sg c x)] 3));have J:=hid (show(B.alloc (.cells #[.int .i64 (Wb.sg c x)] 3)).drew.cell? ⟨n.heap.size+1+1,0,none⟩=some (.int .i64 (Wb.sg c x))from by rw[<-YJ];exact(dt B 3 (.int .i64 (Wb.sg c x))).cell);have u:=hid (show∀(p:Value)(e:World),(B.alloc (.cells #[.int .i64 (Wb.sg c x)] 3)).drew.grownBy e (Value.slice r g.length s).ownBlock->(p.ownBlock=(Value.slice r g.length s).ownBlock∨p.ownBlock=some (B.alloc (.cells #[.int .i64 (Wb.sg c x)] 3)).drew.heap.size)->
  B.grownBy e (Value.slice r g.length s).ownBlock∧∀k,p.ownBlock=some k->(Value.slice r g.length s).ownBlock=some k∨n.heap.size+1+1<=k from fun p e b h=>by
  refine⟨⟨b.os,b.tape,b.output,by have:=b.size;rw[q]at this;omega,fun k W Z=>(b.block k (by rw[q];omega) Z).trans (cM B _ k W)⟩,fun k l=>?_⟩;rcases h with Zh|Zh
  ·exact .inl (Zh▸l)
  ·rw[Zh]at l
   cases l;exact .inr (by rw[q];omega))
 refine xD (Q:=fun l Z2 P=>l=.normal∧∃p e YL YM,Z2={tmps:=#[.pointer (some ⟨o,0,none⟩),.slice r g.length s,.int .i64 (x:Int),.pointer (some ⟨n.heap.size,0,none⟩),.pointer (some ⟨n.heap.size+1,0,none⟩),undef,.slice none 0 0,undef,.slice r g.length s,.int .i64 (g.length:Int),.bool false,undef,.pointer (some ⟨o,0,none⟩),.int .i64 (YK:Int),.int .i64 (x:Int),
  .slice r g.length s,.pointer (some ⟨o,0,none⟩),.pointer (some ⟨o,0,none⟩),.pointer (some ⟨o,0,none⟩),.slice (some ⟨V,y,none⟩) c.length w,.int .i64 (x:Int),YL,.int .i64 (Wb.sg c x),YM,p,undef,undef,undef,undef,undef,undef,undef,undef,undef,undef,undef,undef,undef],defers:=[]}∧P=e.setCell ⟨n.heap.size+1,0,none⟩ p∧cU base e p (g++[Wb.sg c x])∧
  B.grownBy e (Value.slice r g.length s).ownBlock∧(∀k,p.ownBlock=some k->(Value.slice r g.length s).ownBlock=some k∨n.heap.size+1+1<=k)∧Boxed e (n.heap.size+1) 68 (.slice r g.length s)) ?region ?rest
 case region=>
  refine wpIn_region_any YU ?_;change wpAnyIn _ _ _ _ _ _ _ _ _ (World.drew _);show wpAnyIn YO _ _ _ _ _ 11 (Array.replicate 11 false) _ _;refine Rg (i:=5) (v:=.int .i64 (x:Int)) YI rfl (by kernel_rfl) (by kernel_rfl) (by kernel_rfl) (fun _ _ _ Yj=>absurd Yj.1 (by simp)) ⟨Or.inl ⟨by rfl,fun n=>by go_simp⟩,fun _=>rfl⟩ ?_;refine Rc (rs:=[0,1]) (by kernel_rfl) (by simp) ?_;refine Ra rfl (fun d a=>?_) (Ra rfl (fun d a=>?_) Rb)
  ·go_simp
   refine a _ _ ?_;clear a d;refine Rc (rs:=[1]) (by kernel_rfl) (by simp) ?_;refine Ra rfl (fun d a=>?_) Rb;go_simp;refine a _ _ ?_;clear a d;refine Rc (rs:=[2]) (by kernel_rfl) (by simp) ?_;refine Ra rfl (fun d a=>?_) Rb;go_simp;refine a _ _ ?_;clear a d;refine Rc (rs:=[3]) (by kernel_rfl) (by simp) ?_;refine Ra rfl (fun d a=>?_) Rb;go_simp;refine a _ _ ?_;clear a d;refine Rc (rs:=[4]) (by kernel_rfl) (by simp) ?_;refine Ra rfl (fun d a=>?_) Rb;go_simp;refine a _ _ ?_;clear a d;refine Rc (rs:=[6]) (by kernel_rfl) (by simp) ?_;refine Ra rfl (fun d a=>?_) Rb;go_simp;refine a _ _ ?_;clear a d;refine Rc (rs:=[7]) (by kernel_rfl) (by simp) ?_;refine Ra rfl (fun d a=>?_) Rb;go_simp;refine a _ _ ?_;clear a d;refine Rc (rs:=[8]) (by kernel_rfl) (by simp) ?_;refine Ra rfl (fun d a=>?_) Rb;go_simp;refine a _ _ ?_;clear a d;refine Rc (rs:=[9]) (by kernel_rfl) (by simp) ?_;refine Ra rfl (fun d a=>?_) Rb;rw[aD (by rfl)];refine mI _ _ _ rfl base _ g rfl I.out (n.heap.size+1+1) (Wb.sg c x) rfl J.out (by omega) (by rw[q];omega) ?_;intro p e j b h;refine a _ _ ?_;clear a d;have f:Boxed e (n.heap.size+1) 68 (.slice r g.length s):=(b.block _ (by rw[q];omega) (fun l=>by have:=z.out _ l.symm;omega)).trans G;have S:=f.cell;have T:=f.frozen;obtain⟨C,F,D,rfl⟩:=j.slice3;refine Rc (rs:=[10]) (by kernel_rfl) (by simp) ?_;refine Ra rfl (fun d a=>?_) Rb;go_simp;refine a _ _ ?_;clear a d;refine Rm (by kernel_rfl) ?_ _;exact⟨rfl,.slice C F D,e,_,_,rfl,rfl,j,(u.out _ e b h).1,(u.out _ e b h).2,f⟩
  ·go_simp
   refine a _ _ ?_;clear a d;refine Rc (rs:=[0,2]) (by kernel_rfl) (by simp) ?_;refine Ra rfl (fun d a=>?_) (Ra rfl (fun d a=>?_) Rb)
   ·go_simp
    refine a _ _ ?_;clear a d;refine Rc (rs:=[2]) (by kernel_rfl) (by simp) ?_;refine Ra rfl (fun d a=>?_) Rb;go_simp;refine a _ _ ?_;clear a d;refine Rc (rs:=[3]) (by kernel_rfl) (by simp) ?_;refine Ra rfl (fun d a=>?_) Rb;go_simp;refine a _ _ ?_;clear a d;refine Rc (rs:=[4]) (by kernel_rfl) (by simp) ?_;refine Ra rfl (fun d a=>?_) Rb;go_simp;refine a _ _ ?_;clear a d;refine Rc (rs:=[6]) (by kernel_rfl) (by simp) ?_;refine Ra rfl (fun d a=>?_) Rb;go_simp;refine a _ _ ?_;clear a d;refine Rc (rs:=[7]) (by kernel_rfl) (by simp) ?_;refine Ra rfl (fun d a=>?_) Rb;go_simp;refine a _ _ ?_;clear a d;refine Rc (rs:=[8]) (by kernel_rfl) (by simp) ?_;refine Ra rfl (fun d a=>?_) Rb;go_simp;refine a _ _ ?_;clear a d;refine Rc (rs:=[9]) (by kernel_rfl) (by simp) ?_;refine Ra rfl (fun d a=>?_) Rb;rw[aD (by rfl)];refine mI _ _ _ rfl base _ g rfl I.out (n.heap.size+1+1) (Wb.sg c x) rfl J.out (by omega) (by rw[q];omega) ?_;intro p e j b h;refine a _ _ ?_;clear a d;have f:Boxed e (n.heap.size+1) 68 (.slice r g.length s):=(b.block _ (by rw[q];omega) (fun l=>by have:=z.out _ l.symm;omega)).trans G;have S:=f.cell;have T:=f.frozen;obtain⟨C,F,D,rfl⟩:=j.slice3;refine Rc (rs:=[10]) (by kernel_rfl) (by simp) ?_;refine Ra rfl (fun d a=>?_) Rb;go_simp;refine a _ _ ?_;clear a d;refine Rm (by kernel_rfl) ?_ _;exact⟨rfl,.slice C F D,e,_,_,rfl,rfl,j,(u.out _ e b h).1,(u.out _ e b h).2,f⟩
   ·go_simp
    refine a _ _ ?_;clear a d;refine Rc (rs:=[0,3]) (by kernel_rfl) (by simp) ?_;refine Ra rfl (fun d a=>?_) (Ra rfl (fun d a=>?_) Rb)
    ·go_simp
     refine a _ _ ?_;clear a d;refine Rc (rs:=[3]) (by kernel_rfl) (by simp) ?_;refine Ra rfl (fun d a=>?_) Rb;go_simp;refine a _ _ ?_;clear a d;refine Rc (rs:=[4]) (by kernel_rfl) (by simp) ?_;refine Ra rfl (fun d a=>?_) Rb;go_simp;refine a _ _ ?_;clear a d;refine Rc (rs:=[6]) (by kernel_rfl) (by simp) ?_;refine Ra rfl (fun d a=>?_) Rb;go_simp;refine a _ _ ?_;clear a d;refine Rc (rs:=[7]) (by kernel_rfl) (by simp) ?_;refine Ra rfl (fun d a=>?_) Rb;go_simp;refine a _ _ ?_;clear a d;refine Rc (rs:=[8]) (by kernel_rfl) (by simp) ?_;refine Ra rfl (fun d a=>?_) Rb;go_simp;refine a _ _ ?_;clear a d;refine Rc (rs:=[9]) (by kernel_rfl) (by simp) ?_;refine Ra rfl (fun d a=>?_) Rb;rw[aD (by rfl)];refine mI _ _ _ rfl base _ g rfl I.out (n.heap.size+1+1) (Wb.sg c x) rfl J.out (by omega) (by rw[q];omega) ?_;intro p e j b h;refine a _ _ ?_;clear a d;have f:Boxed e (n.heap.size+1) 68 (.slice r g.length s):=(b.block _ (by rw[q];omega) (fun l=>by have:=z.out _ l.symm;omega)).trans G;have S:=f.cell;have T:=f.frozen;obtain⟨C,F,D,rfl⟩:=j.slice3;refine Rc (rs:=[10]) (by kernel_rfl) (by simp) ?_;refine Ra rfl (fun d a=>?_) Rb;go_simp;refine a _ _ ?_;clear a d;refine Rm (by kernel_rfl) ?_ _;exact⟨rfl,.slice C F D,e,_,_,rfl,rfl,j,(u.out _ e b h).1,(u.out _ e b h).2,f⟩
    ·go_simp
     refine a _ _ ?_;clear a d;refine Rc (rs:=[0,4]) (by kernel_rfl) (by simp) ?_;refine Ra rfl (fun d a=>?_) (Ra rfl (fun d a=>?_) Rb)
     ·go_simp
      refine a _ _ ?_;clear a d;refine Rc (rs:=[4]) (by kernel_rfl) (by simp) ?_;refine Ra rfl (fun d a=>?_) Rb;go_simp;refine a _ _ ?_;clear a d;refine Rc (rs:=[6]) (by kernel_rfl) (by simp) ?_;refine Ra rfl (fun d a=>?_) Rb;go_simp;refine a _ _ ?_;clear a d;refine Rc (rs:=[7]) (by kernel_rfl) (by simp) ?_;refine Ra rfl (fun d a=>?_) Rb;go_simp;refine a _ _ ?_;clear a d;refine Rc (rs:=[8]) (by kernel_rfl) (by simp) ?_;refine Ra rfl (fun d a=>?_) Rb;go_simp;refine a _ _ ?_;clear a d;refine Rc (rs:=[9]) (by kernel_rfl) (by simp) ?_;refine Ra rfl (fun d a=>?_) Rb;rw[aD (by rfl)];refine mI _ _ _ rfl base _ g rfl I.out (n.heap.size+1+1) (Wb.sg c x) rfl J.out (by omega) (by rw[q];omega) ?_;intro p e j b h;refine a _ _ ?_;clear a d;have f:Boxed e (n.heap.size+1) 68 (.slice r g.length s):=(b.block _ (by rw[q];omega) (fun l=>by have:=z.out _ l.symm;omega)).trans G;have S:=f.cell;have T:=f.frozen;obtain⟨C,F,D,rfl⟩:=j.slice3;refine Rc (rs:=[10]) (by kernel_rfl) (by simp) ?_;refine Ra rfl (fun d a=>?_) Rb;go_simp;refine a _ _ ?_;clear a d;refine Rm (by kernel_rfl) ?_ _;exact⟨rfl,.slice C F D,e,_,_,rfl,rfl,j,(u.out _ e b h).1,(u.out _ e b h).2,f⟩
     ·go_simp
      refine a _ _ ?_;clear a d;refine Rc (rs:=[0,6]) (by kernel_rfl) (by simp) ?_;refine Ra rfl (fun d a=>?_) (Ra rfl (fun d a=>?_) Rb)
      ·go_simp
       refine a _ _ ?_;clear a d;refine Rc (rs:=[6]) (by kernel_rfl) (by simp) ?_;refine Ra rfl (fun d a=>?_) Rb;go_simp;refine a _ _ ?_;clear a d;refine Rc (rs:=[7]) (by kernel_rfl) (by simp) ?_;refine Ra rfl (fun d a=>?_) Rb;go_simp;refine a _ _ ?_;clear a d;refine Rc (rs:=[8]) (by kernel_rfl) (by simp) ?_;refine Ra rfl (fun d a=>?_) Rb;go_simp;refine a _ _ ?_;clear a d;refine Rc (rs:=[9]) (by kernel_rfl) (by simp) ?_;refine Ra rfl (fun d a=>?_) Rb;rw[aD (by rfl)];refine mI _ _ _ rfl base _ g rfl I.out (n.heap.size+1+1) (Wb.sg c x) rfl J.out (by omega) (by rw[q];omega) ?_;intro p e j b h;refine a _ _ ?_;clear a d;have f:Boxed e (n.heap.size+1) 68 (.slice r g.length s):=(b.block _ (by rw[q];omega) (fun l=>by have:=z.out _ l.symm;omega)).trans G;have S:=f.cell;have T:=f.frozen;obtain⟨C,F,D,rfl⟩:=j.slice3;refine Rc (rs:=[10]) (by kernel_rfl) (by simp) ?_;refine Ra rfl (fun d a=>?_) Rb;go_simp;refine a _ _ ?_;clear a d;refine Rm (by kernel_rfl) ?_ _;exact⟨rfl,.slice C F D,e,_,_,rfl,rfl,j,(u.out _ e b h).1,(u.out _ e b h).2,f⟩
      ·go_simp
       refine a _ _ ?_;clear a d;refine Rc (rs:=[0,7]) (by kernel_rfl) (by simp) ?_;refine Ra rfl (fun d a=>?_) (Ra rfl (fun d a=>?_) Rb)
       ·go_simp
        refine a _ _ ?_;clear a d;refine Rc (rs:=[7]) (by kernel_rfl) (by simp) ?_;refine Ra rfl (fun d a=>?_) Rb;go_simp;refine a _ _ ?_;clear a d;refine Rc (rs:=[8]) (by kernel_rfl) (by simp) ?_;refine Ra rfl (fun d a=>?_) Rb;go_simp;refine a _ _ ?_;clear a d;refine Rc (rs:=[9]) (by kernel_rfl) (by simp) ?_;refine Ra rfl (fun d a=>?_) Rb;rw[aD (by rfl)];refine mI _ _ _ rfl base _ g rfl I.out (n.heap.size+1+1) (Wb.sg c x) rfl J.out (by omega) (by rw[q];omega) ?_;intro p e j b h;refine a _ _ ?_;clear a d;have f:Boxed e (n.heap.size+1) 68 (.slice r g.length s):=(b.block _ (by rw[q];omega) (fun l=>by have:=z.out _ l.symm;omega)).trans G;have S:=f.cell;have T:=f.frozen;obtain⟨C,F,D,rfl⟩:=j.slice3;refine Rc (rs:=[10]) (by kernel_rfl) (by simp) ?_;refine Ra rfl (fun d a=>?_) Rb;go_simp;refine a _ _ ?_;clear a d;refine Rm (by kernel_rfl) ?_ _;exact⟨rfl,.slice C F D,e,_,_,rfl,rfl,j,(u.out _ e b h).1,(u.out _ e b h).2,f⟩
       ·go_simp
        refine a _ _ ?_;clear a d;refine Rc (rs:=[0,8]) (by kernel_rfl) (by simp) ?_;refine Ra rfl (fun d a=>?_) (Ra rfl (fun d a=>?_) Rb)
        ·go_simp
         refine a _ _ ?_;clear a d;refine Rc (rs:=[8]) (by kernel_rfl) (by simp) ?_;refine Ra rfl (fun d a=>?_) Rb;go_simp;refine a _ _ ?_;clear a d;refine Rc (rs:=[9]) (by kernel_rfl) (by simp) ?_;refine Ra rfl (fun d a=>?_) Rb;rw[aD (by rfl)];refine mI _ _ _ rfl base _ g rfl I.out (n.heap.size+1+1) (Wb.sg c x) rfl J.out (by omega) (by rw[q];omega) ?_;intro p e j b h;refine a _ _ ?_;clear a d;have f:Boxed e (n.heap.size+1) 68 (.slice r g.length s):=(b.block _ (by rw[q];omega) (fun l=>by have:=z.out _ l.symm;omega)).trans G;have S:=f.cell;have T:=f.frozen;obtain⟨C,F,D,rfl⟩:=j.slice3;refine Rc (rs:=[10]) (by kernel_rfl) (by simp) ?_;refine Ra rfl (fun d a=>?_) Rb;go_simp;refine a _ _ ?_;clear a d;refine Rm (by kernel_rfl) ?_ _;exact⟨rfl,.slice C F D,e,_,_,rfl,rfl,j,(u.out _ e b h).1,(u.out _ e b h).2,f⟩
        ·go_simp
         refine a _ _ ?_;clear a d;refine Rc (rs:=[0]) (by kernel_rfl) (by simp) ?_;refine Ra rfl (fun d a=>?_) Rb;go_simp;refine a _ _ ?_;clear a d;refine Rc (rs:=[9]) (by kernel_rfl) (by simp) ?_;refine Ra rfl (fun d a=>?_) Rb;rw[aD (by rfl)];refine mI _ _ _ rfl base _ g rfl I.out (n.heap.size+1+1) (Wb.sg c x) rfl J.out (by omega) (by rw[q];omega) ?_;intro p e j b h;refine a _ _ ?_;clear a d;have f:Boxed e (n.heap.size+1) 68 (.slice r g.length s):=(b.block _ (by rw[q];omega) (fun l=>by have:=z.out _ l.symm;omega)).trans G;have S:=f.cell;have T:=f.frozen;obtain⟨C,F,D,rfl⟩:=j.slice3;refine Rc (rs:=[10]) (by kernel_rfl) (by simp) ?_;refine Ra rfl (fun d a=>?_) Rb;go_simp;refine a _ _ ?_;clear a d;refine Rm (by kernel_rfl) ?_ _;exact⟨rfl,.slice C F D,e,_,_,rfl,rfl,j,(u.out _ e b h).1,(u.out _ e b h).2,f⟩
 case rest=>
  rintro l Z2 P⟨rfl,p,e,YL,YM,rfl,rfl,j,b,h,f⟩;obtain⟨t,Yl⟩:∃t,e.setCell ⟨n.heap.size+1,0,none⟩ p=t:=⟨_,rfl⟩;have Zt:Boxed t (n.heap.size+1) 68 p:=Yl▸f.set p;have Yd:e.grownBy t (some (n.heap.size+1)):=Yl▸iz e _ 0 _;have ae:=b.size;have ag:=Yd.size;have Yp:∀k,p.ownBlock=some k->((Value.slice r g.length s).ownBlock=some k∨n.heap.size<=k)∧k≠n.heap.size∧k≠n.heap.size+1∧k<e.heap.size:=fun k l=>by
   have N:=(bn j k l).2;rcases h k l with YR|YR
   ·have aw:=z.out k YR
    exact⟨.inl YR,by omega,by omega,N⟩
   ·exact⟨.inr (by omega),by omega,by omega,N⟩
  have ZC:cU base t p (g++[Wb.sg c x]):=dM j Yd (by
   cases Yt:p.ownBlock with
   |none=>exact .inl rfl
   |some k=>exact .inr (by have:=Yp k Yt;simp;omega))
  have Yf:∀k,k<n.heap.size->some k≠(Value.slice r g.length s).ownBlock->t.heap[k]?=B.heap[k]?:=fun k W Z=>(Yd.block k (by omega) (by simp;omega)).trans (b.block k (by omega) Z)
  have Y4:Boxed t n.heap.size 243 (.pointer (some ⟨o,0,none⟩)):=(Yd.block _ (by omega) (by simp)).trans ((b.block _ (by omega) (fun l=>by have:=z.out _ l.symm;omega)).trans Yc);have Yz:iV t o R (some ⟨V,y,none⟩) w c Zs Zm:=YY.out.of (Yf o Zk (fun l=>(Yu.out _ l.symm).1 rfl)) (Yf R Zj (fun l=>(Yu.out _ l.symm).2.1 rfl)) (Yf V YA (fun l=>(Yu.out _ l.symm).2.2 rfl)) (by omega);have ZA:n.grownBy t (Value.slice r g.length s).ownBlock:=⟨(Yd.os.trans b.os).trans H.os,(Yd.tape.trans b.tape).trans H.tape,(Yd.output.trans b.output).trans H.output,by omega,fun k W Z=>(Yf k W Z).trans (H.block k W)⟩;have aq:=Y4.cell;have ar:=Yz.cell0;rw[Yl];clear Yl Yd b Yf f j h M Yc H ZF ZE ZJ ZD ZG YZ YX YY G q I J u;gi_wp2_with(first
   |((try refine⟨YB _,?_⟩);gi_at_call 169;refine(pf YO Y.out _ _ _ _ _ _).mono ?_;rintro l ZP⟨rfl,rfl⟩))
  have Yq:((t.alloc (.cells #[.slice (some ⟨V,y,none⟩) c.length w] 68)).alloc (.cells #[.int .i64 (x:Int)] 3)).heap.size=t.heap.size+1+1:=by simp
  have Zw:=(dt t 68 (.slice (some ⟨V,y,none⟩) c.length w)).alloc (.cells #[.int .i64 (x:Int)] 3);have Y3:=dt (t.alloc (.cells #[.slice (some ⟨V,y,none⟩) c.length w] 68)) 3 (.int .i64 (x:Int));rw[bI]at Y3;have Zx:=(Y4.alloc (.cells #[.slice (some ⟨V,y,none⟩) c.length w] 68)).alloc (.cells #[.int .i64 (x:Int)] 3);have Zu:=(Zt.alloc (.cells #[.slice (some ⟨V,y,none⟩) c.length w] 68)).alloc (.cells #[.int .i64 (x:Int)] 3);have E:Below t.heap.size t ((t.alloc (.cells #[.slice (some ⟨V,y,none⟩) c.length w] 68)).alloc (.cells #[.int .i64 (x:Int)] 3)):=((ah _ t).alloc (af _) _).alloc (by simp) _;refine jf YI (by omega) (gf:=196) (lb:=#[.pointer (some ⟨t.heap.size+1,0,none⟩),.pointer (some ⟨t.heap.size,0,none⟩)]) rfl ZI (iW Tryz.func196 (by kernel_rfl) rfl)
   (mH YO Y.out _ (t.heap.size+1) t.heap.size x w (some ⟨V,y,none⟩) c Y9 YH (nw YO Y.out c Y9 _ w x)) (fun _=>rfl)
   (Pr n t.heap.size o R V y w Zs base c Zm (.slice r g.length s) (g++[Wb.sg c x]) X x)
   (fun _ _=>False) (fun Zy P=>Zy=qw∧30<g.length+(Wb.sg c x::X.flatten).length∧n.grownBy P (Value.slice r g.length s).ownBlock) (.inr Zf.out)
   (Pr.own Zk Zj YA (by rw[Yq];omega))
   (fun _ _ _ _ Yj _ _=>Yj)
   (fun i P Ze=>⟨Ze.bK.cell,Ze.bT.cell,Ze.FC.ints⟩)
   ⟨⟨p,Zu,by simpa using ZC.below E,by simp;omega,fun k l=>by have:=Yp k l;exact⟨this.1,this.2.1,this.2.2.1,by omega,by omega⟩⟩,Yz.below E,Zx,Y3,Zw,mK ZA ⟨E.os,E.tape,E.output,E.size,fun k W _=>E.block k W⟩ (row':=none) (fun k l=>by cases l)⟩
   (fun i=>{tmps:=#[.pointer (some ⟨o,0,none⟩),.slice r g.length s,.int .i64 (x:Int),.pointer (some ⟨n.heap.size,0,none⟩),.pointer (some ⟨n.heap.size+1,0,none⟩),undef,.slice none 0 0,.int .i64 (Tm.pos c x i:Int),.slice r g.length s,.int .i64 (g.length:Int),.bool false,undef,.pointer (some ⟨o,0,none⟩),.int .i64 (YK:Int),.int .i64 (x:Int),
     .slice r g.length s,.pointer (some ⟨o,0,none⟩),.pointer (some ⟨o,0,none⟩),.pointer (some ⟨o,0,none⟩),.slice (some ⟨V,y,none⟩) c.length w,.int .i64 (x:Int),YL,.int .i64 (Wb.sg c x),YM,p,.pointer (some ⟨o,0,none⟩),.pointer (some ⟨o,0,none⟩),.pointer (some ⟨o,0,none⟩),.slice (some ⟨V,y,none⟩) c.length w,.int .i64 (x:Int),
     .func (.func 196) #[] #[.pointer (some ⟨t.heap.size+1,0,none⟩),.pointer (some ⟨t.heap.size,0,none⟩)],.int .i64 (Tm.pos c x i:Int),.int .i64 (Tm.pos c x (i+1):Int),undef,undef,undef,undef,undef],defers:=[]}) ?assign ?body ?done ?stop ?panic
  case assign=>
   intro ak i P d a;simp only[rL];gi_wp2
   exact a
  case body=>
   rintro ak i P⟨⟨YW,M,U,Yo,L⟩,Yi,Yc,Zb,Zv,Yg⟩Zg;have Y8:i<Tm.room (Wb.sg c x):=Zg;have aj:=Yg.size;have ZX:=bn U;have ZB:=Jl Y.out (m:=0) (Zr.out i Y8 YW _ P Yi U (fun k l=>by
    rcases(L k l).1 with N|N
    ·exact Yu.out k N
    ·exact⟨by omega,by omega,by omega⟩) (by omega) (by rw[ai];exact Yo))
   have Y5:=hid (eS ak ZB);have ZM:i<X.length:=by rw[Y2.out];exact Y8
   have YC:=Wb.vZ X i ZM;have Y7:=Wb.Eh X (i+1);have K:=RG List.length YC;rw[ai]at K;have Zq:=hid YC;have Y0:=hid K;have Zp:=hid Y7;have au:=Yc.cell;have ZT:=M.cell;have Ym:∀{YN:Nat}{Z0:TypeId}{Z1:Value},Boxed P YN Z0 Z1->YN=n.heap.size∨YN=n.heap.size+1∨YN=t.heap.size∨YN=t.heap.size+1->∀A:World,P.grownBy A YW.ownBlock->Boxed A YN Z0 Z1:=fun{YN Z0 Z1}YS ZU A O=>(O.block YN YS.lt (fun l=>by have:=L YN l.symm;omega)).trans YS
   clear ZB YC K Y7;gi_wp2_with(first
    |((try refine⟨YB _,?_⟩);gi_at_call 219;refine Y5.out.mono ?_;clear Y5;rintro l A⟨O,(⟨ZL,ax,rfl,Y6,ZN⟩|⟨YD,rfl⟩)⟩;(have Yv:=Ym M (by omega) A O;have Z3:=Yv.cell;have Z4:=Yv.frozen;obtain⟨YP,YV,YQ,rfl⟩:=Y6.slice3)))
   ·have ZK:KeepsFrom (t.heap.size+1+1) P A:=Ed U O
    have YE:∀k,k<n.heap.size->k=o∨k=R∨k=V->A.heap[k]?=P.heap[k]?:=fun k W ZU=>O.block k (by omega) (fun l=>by
     rcases(L k l.symm).1 with N|N
     ·have:=Yu.out k N;omega
     ·omega)
    have Yh:∀k,k≠n.heap.size+1->(A.setCell ⟨n.heap.size+1,0,none⟩ (.slice YP YV YQ)).heap[k]?=A.heap[k]?:=fun k W=>aT A ⟨n.heap.size+1,0,none⟩ _ k W
    have ab:=O.size;have aa:=(ef A ⟨n.heap.size+1,0,none⟩ (.slice YP YV YQ)).size;have Z9:=M.lt;have ZV:=Zb.lt;have YF:∀k,(Value.slice YP YV YQ).ownBlock=some k->((Value.slice r g.length s).ownBlock=some k∨n.heap.size<=k)∧k≠n.heap.size∧k≠n.heap.size+1∧k≠t.heap.size∧k≠t.heap.size+1:=fun k l=>by
     rcases ZN k l with N|N
     ·exact L k N
     ·exact⟨.inr (by omega),by omega,by omega,by omega,by omega⟩
    rw[Yq];refine⟨ZK.trans ((dO _ _ _).from _),⟨_,Yv.set _,?_,?_,YF⟩,Yi.of ((Yh o (by omega)).trans (YE o Zk (by omega))) ((Yh R (by omega)).trans (YE R Zj (by omega))) ((Yh V (by omega)).trans (YE V YA (by omega))) (by omega),(Ym Yc (by omega) A O).other (by omega) _,(Ym Zb (by omega) A O).other (by omega) _,(Ym Zv (by omega) A O).other (by omega) _,?_⟩
    ·rw[Zq.out,<-dE]
     refine dM Y6 (iz A (n.heap.size+1) 0 _) ?_;cases Yt:(Value.slice YP YV YQ).ownBlock with
     |none=>exact .inl rfl
     |some k=>exact .inr (by have:=YF k Yt;simp;omega)
    ·rw[Y0.out]
     rw[ai]at ZL;omega
    ·exact mK (mK Yg O (fun k l=>(L k l).1)) (iz A (n.heap.size+1) 0 _) (fun k l=>by cases l;exact .inr (by omega))
   ·refine⟨rfl,Ed U O,rfl,?_,mK Yg O (fun k l=>(L k l).1)⟩
    have N:=Y0.out;have YR:=Zp.out;simp only[ai,aI,bH]at YD⊢;omega
  case done=>
   rintro Zn P Zc⟨⟨YW,M,U,Yo,L⟩,Yi,Yc,Zb,Zv,Yg⟩Yk;have ZT:=M.cell;rw[Yq]at Zc;have YT:Hid (X.take (Tm.room (c[x]?.getD 0))=X):=Ry (by rw[Y2.out];exact af _);have Yn:P.grownBy (P.putObj Zn (.deferred none)) (some Zn):=⟨rfl,rfl,rfl,by simp,fun k _ Z=>cd (by simpa using Z)⟩;gi_wp2
   refine⟨by simp,.inl ⟨_,_,rfl,ed Yk,?_⟩⟩;rw[YT.out]at U Yo;refine⟨_,tu rfl _ _ _,mK Yg Yn (fun k l=>by cases l;exact .inr (by omega)),.inl ⟨?_,YW,rfl,?_,fun k l=>(L k l).1⟩⟩
   ·simp only[ai,aI,bH]at Yo⊢
    omega
   ·have:=U.own Yn (fun ay l=>by cases l;exact⟨_,Yk,rfl⟩)
    rw[dE]at this;exact this
  case stop=>exact fun _ _ _ _ Yj=>Yj.elim
  case panic=>
   rintro Zn Zy P Zc⟨rfl,YD,Yg⟩Yk;rw[Yq]at Zc;have Yn:P.grownBy (P.putObj Zn (.deferred none)) (some Zn):=⟨rfl,rfl,rfl,by simp,fun k _ Z=>cd (by simpa using Z)⟩;refine⟨by simp,.inl ⟨_,_,rfl,ed Yk,?_⟩⟩;exact⟨mK Yg Yn (fun k l=>by cases l;exact .inr (by omega)),.inr ⟨YD,rfl⟩⟩
end
theorem Lv(c:List Int)(p:Wb.Good c)(q:Nat->Option Nat)(s:Nat->Nat)(J:Wb.St c q s)(e i r g f I base:Nat)(K:Wb.xo c s b d):b<c.length->∀(v:Value)(a:List Int)(h:World),iV h e i (some ⟨r,g,none⟩) f c I q->cU base h v a->
 (∀k,v.ownBlock=some k->k≠e∧k≠i∧k≠r)->base<=h.heap.size->a.length<=30->
 CallsIn Fx 3 Tryz.prog 219 #[.pointer (some ⟨e,0,none⟩),v,.int .i64 (b:Int)] h fun M G=>GF h G base M v a d:=by
 induction K with
 |mk b E B _ D=>
  intro n v a h z l C A N;by_cases j:a.length=30
  ·exact J5 3 base e b v a _ h l j (by simp)
  ·obtain⟨o,_,_⟩:=Wb.tX p J n
   exact Dq c p q s J e i r g f I base b E v a h z n l C A (by omega) B (fun O m F H L t u w x y=>D O m (Wb.pw p o m) F H L t u w x y)
theorem LD(a:List Int)(y:Wb.Good a)(n:Nat->Option Nat)(o:Nat->Nat)(A:Wb.St a n o)(g l w f e u:Nat)(z:Wb.xo a o b d)(t:b<a.length)(j:World)(r:iV j g l (some ⟨w,f,none⟩) e a u n):
 Calls Tryz.prog 219 #[.pointer (some ⟨g,0,none⟩),.slice none 0 0,.int .i64 (b:Int)] j fun m k=>Below j.heap.size j k∧((d.length<=30∧∃v,m=.returned v∧cU j.heap.size k v d)∨(30<d.length∧m=.panicked qw)):=by
 refine NI (CallsIn.mono (Lv a y n o A g l w f e u j.heap.size z t (.slice none 0 0) [] j r (cU.nil _ _) (fun x m=>by cases m) (af _) (by simp)) ?_);rintro m k⟨c,q⟩;refine⟨⟨c.os,c.tape,c.output,c.size,fun x s=>c.block x s (by simp[Value.ownBlock])⟩,?_⟩;rcases q with⟨h,v,i,p,_⟩|⟨h,i⟩
 ·exact .inl ⟨by simpa using h,v,i,by simpa using p⟩
 ·exact .inr ⟨by simpa using h,i⟩
theorem LR(h i j:Addr)(e:World):CallsD Tryz.prog 218 #[.pointer (some h),.pointer (some i),.pointer (some j)] .returning e fun g c d=>g=.returned (.tuple #[])∧c=.returning∧d=e:=by
 refine RJ Tryz.func218 rfl fun a f b=>?_
 apply wpS_seq;apply RT;simp[wpOpsS,go_sem,recoverD,b,Tryz.ntmps218,Exit.thenS];simp only[bM,bQ,cE,bV,bc,Rq,RA,jD,bY];refine Sa ?_;go_wp2;cases a;simp_all[bodyPostS,results,Tryz.results218]
theorem Ig (a : Nat) (b : World) (d : Boxed b a 75 (.slice none 0 0)) (e : Boxed b (a + 1) 4 (.bool false)) (f : Boxed b (a + 1 + 1) 22 (.int .i64 0)) :
 CallsD Tryz.prog 218 #[.pointer (some ⟨a, 0, none⟩), .pointer (some ⟨a + 1, 0, none⟩), .pointer (some ⟨a + 1 + 1, 0, none⟩)] (.panicking qw) b fun q h c => q = .returned (.tuple #[]) ∧ h = .panicking [{ v := .iface 22 (.int .i64 2), recovered := true }] ∧
  Below a b c ∧ Boxed c a 75 (.slice none 0 0) ∧ Boxed c (a + 1) 4 (.bool false) ∧ Boxed c (a + 1 + 1) 22 (.int .i64 2) := by
 refine RJ Tryz.func218 rfl fun o n g => ?_
 have k := d.cell;have l := e.cell;have m := f.cell;have r := d.frozen;have s := e.frozen;have t := f.frozen;unfold qw at g;have j : ∀ (i : TypeId) (b : World), (Instr.typeAssert (.iface 22 (.int .i64 2)) i 22 false).run Tryz.prog b = .ok (.int .i64 2) b := fun _ _ => by kernel_rfl
 apply wpS_seq;apply RT;simp [wpOpsS, go_sem, recoverD, g, Tryz.ntmps218, Exit.thenS];simp only [bM, bQ, cE, bV, bc, Rq, RA, jD, bY];refine Sa ?_;go_wp2;go_region
 all_goals (
  refine ⟨rfl, _, rfl, _, mb rfl _ _ _, rfl, rfl, ?_⟩;refine ⟨bD (((ah a b).setCell (p := ⟨a, 0, none⟩) (af _) _).setCell (p := ⟨a + 1, 0, none⟩) (by show a <= a + 1; omega) _ |>.setCell (p := ⟨a + 1 + 1, 0, none⟩) (by show a <= a + 1 + 1; omega) _) 1, ?_, ?_, ?_⟩
  · exact ((d.set _).other (by omega) _).other (by omega) _
  · exact ((e.other (by omega) _).set _).other (by omega) _
  · exact ((f.other (by omega) _).other (by omega) _).set _)
theorem zM(q:B.results=#[.cell b 75,.cell e 4,.cell l 22])
 (j:t.getD b undef=.pointer (some ⟨m,0,none⟩))(k:t.getD e undef=.pointer (some ⟨n,0,none⟩))(p:t.getD l undef=.pointer (some ⟨o,0,none⟩))
 (g:a.cell? ⟨m,0,none⟩=some (.slice D r z))(h:a.cell? ⟨n,0,none⟩=some (.bool C))(i:a.cell? ⟨o,0,none⟩=some (.int .i64 E)):(results B t).run Tryz.prog a=.ok (.tuple #[.slice D r z,.bool C,.int .i64 E]) a:=by
 have c:t[b]?.getD undef=.pointer (some ⟨m,0,none⟩):=by rw[<-j];simp
 have d:t[e]?.getD undef=.pointer (some ⟨n,0,none⟩):=by rw[<-k];simp
 have f:t[l]?.getD undef=.pointer (some ⟨o,0,none⟩):=by rw[<-p];simp
 simp only[results,q];simp[go_sem,c,d,f,g,h,i]
structure oO(w:World)(Bw Bm b off cap N:Nat)(zs:List Int)(T:Nat->Option Nat)(f:Nat->List Int)(k:Nat)(W:World):Prop where
 arr:∃cs:Array Value,W.heap[w.heap.size+1+1+1]?=some (.cells cs 250 (0,0))∧cs.size=8∧∀j,j<k->∃u,cs[j]?=some u∧cU (w.heap.size+1+1+1+1) W u (f j)
 b0:Boxed W w.heap.size 75 (.slice none 0 0)
 b1:Boxed W (w.heap.size+1) 4 (.bool false)
 b2:Boxed W (w.heap.size+1+1) 22 (.int .i64 0)
 FC:iV W Bw Bm (some ⟨b,off,none⟩) cap zs N T
 bl:Below w.heap.size w W
theorem oO.below{f:Nat->List Int}(x:oO c b e l m n o d s f r a)(g:Below a.heap.size a w):oO c b e l m n o d s f r w:=by
 obtain⟨⟨k,h,p,t⟩,b0,b1,b2,j,i⟩:=x;refine⟨⟨k,(g.block _ (ak.1 h).1).trans h,p,fun y u=>?_⟩,(g.block _ b0.lt).trans b0,(g.block _ b1.lt).trans b1,(g.block _ b2.lt).trans b2,j.below g,i.trans (g.mono i.size)⟩;obtain⟨z,v,q⟩:=t y u;exact⟨z,v,q.below g⟩
theorem oO.Qy(j:oO a e l m n o r d s p z c)(t:b<8):∃x,c.cell? ⟨a.heap.size+1+1+1,b,none⟩=some x∧c.frozen? ⟨a.heap.size+1+1+1,b,none⟩=false:=by
 obtain⟨⟨g,f,k,q⟩,b0,b1,b2,h,i⟩:=j;refine⟨g[b]'(by omega),?_,?_⟩
 ·rw[dp f,fo]
 ·simp only[World.frozen?]
  rw[f];simp
theorem oO.set{J:Nat->List Int}(P:oO a e l m n o r d s J b c)(M:b<8)(t:e<a.heap.size∧l<a.heap.size)(w:m<a.heap.size){v:Value}{base:Nat}(K:cU base c v (J b))(i:a.heap.size+1+1+1+1<=base):oO a e l m n o r d s J (b+1) (c.setCell ⟨a.heap.size+1+1+1,b,none⟩ v):=by
 obtain⟨⟨I,x,C,L⟩,b0,b1,b2,y,q⟩:=P;have E:=iz c (a.heap.size+1+1+1) b v;have g:∀{B:Nat}{z:TypeId}{O:Value},Boxed c B z O->B≠a.heap.size+1+1+1->Boxed (c.setCell ⟨a.heap.size+1+1+1,b,none⟩ v) B z O:=fun{B z O}w G=>(aT c ⟨a.heap.size+1+1+1,b,none⟩ v B G).trans w
 have h:∀u,u<a.heap.size->(c.setCell ⟨a.heap.size+1+1+1,b,none⟩ v).heap[u]?=c.heap[u]?:=fun u R=>aT c ⟨a.heap.size+1+1+1,b,none⟩ v u (show u≠a.heap.size+1+1+1 by omega)
 have f:∀(A:Value)(z:List Int),cU (a.heap.size+1+1+1+1) c A z->cU (a.heap.size+1+1+1+1) (c.setCell ⟨a.heap.size+1+1+1,b,none⟩ v) A z:=fun A z k=>dM k E (by
  cases H:A.ownBlock with
  |none=>exact .inl rfl
  |some u=>exact .inr (by have:=(bn k u H).1;simp;omega))
 refine⟨⟨I.setIfInBounds b v,?_,by simp[C],fun j Q=>?_⟩,g b0 (by omega),g b1 (by omega),g b2 (by omega),y.of (h e t.1) (h l t.2) (h m w) (by have:=E.size;have:=q.size;omega),q.setCell (p:=⟨a.heap.size+1+1+1,b,none⟩) (by show a.heap.size<=a.heap.size+1+1+1;omega) _⟩
 ·obtain⟨F,N⟩:=ak.1 x
  show(c.heap.modify (a.heap.size+1+1+1) _)[a.heap.size+1+1+1]?=_;rw[fo (by rw[iO];exact F),fJ,N];rfl
 ·by_cases H:j=b
  ·subst H
   exact⟨v,by simp[C,M],f v _ (K.mono i)⟩
  ·obtain⟨A,k,D⟩:=L j (by omega)
   exact⟨A,by simp[Ne.symm H,k],f A _ D⟩
theorem oO.qg(J:oO a b e l m n o d s p 8 w)(x:∀q,a.heap.size+1+1+1<=q->c.heap[q]?=w.heap[q]?)(O:w.heap.size<=c.heap.size):np c.heap.size c (some ⟨a.heap.size+1+1+1,0,none⟩) ((List.range 8).map p):=by
 obtain⟨⟨L,g,N,D⟩,b0,b1,b2,G,H⟩:=J;intro y E;have j:y<8:=by simpa using E
 have k:((List.range 8).map p)[y]?.getD []=p y:=by simp[j]
 obtain⟨P,F,v⟩:=D y j;have I:=(ak.1 g).1;have h:=(x _ (af _)).trans g;have i:cU (a.heap.size+1+1+1+1) c P (p y):=by
  refine⟨v.1,v.2.elim .inl fun⟨A,z,u,r,t,f,B⟩=>.inr ⟨A,z,u,r,t,(x A (by omega)).trans f,B⟩⟩
 obtain⟨K,z,rfl,C,r,t⟩:=cU.ints i;refine⟨a.heap.size+1+1+1,0,K,z,rfl,by omega,?_,?_,?_,t,fun M=>?_⟩
 ·rw[k,cI,dp h,F]
 ·rw[k];exact C
 ·rw[k];exact r
 ·subst M
  rcases i.2 with⟨f,_⟩|⟨A,_,_,f,_⟩
  ·simp at f;exact f.2
  ·simp at f
theorem OF(k:List Int)(U:Wb.Good k)(F:Nat->Option Nat)(o:Nat->Nat)(Yj:Wb.St k F o)(n v J m c T:Nat)(f:Nat->List Int)(P:∀i,i<8->Wb.xo k o i (f i))(a:World)(x:iV a n v (some ⟨J,m,none⟩) c k T F):
 Calls Tryz.prog 214 #[.pointer (some ⟨n,0,none⟩)] a fun h e=>Below a.heap.size a e∧(((∀i,i<8->(f i).length<=30)∧∃Yk,h=.returned (.tuple #[.slice Yk 8 8,.bool true,.int .i64 0])∧np e.heap.size e Yk ((List.range 8).map f))∨
  ((∃i,i<8∧30<(f i).length)∧h=.returned (.tuple #[.slice none 0 0,.bool false,.int .i64 2]))):=by
 have Yl:∀(K:Fn)(first c:Array Value)(a:World),(Instr.makeFunc K first c).run Tryz.prog a=.ok (.func K first c) a:=fun _ _ _ _=>rfl
 have Yz:=U.eight;obtain⟨Yi,Yd⟩:=x.lt;have O:J<a.heap.size:=by
  obtain⟨Yn,Ye,h,Z,_⟩:=x.ints.at (by omega);cases h;exact Z
 have N:Hid (oO a n v J m c T k F f 0 ((((a.alloc (.cells #[.slice none 0 0] 75)).alloc (.cells #[.bool false] 4)).alloc (.cells #[.int .i64 0] 22)).alloc (.cells #[.slice none 0 0,.slice none 0 0,.slice none 0 0,.slice none 0 0,.slice none 0 0,.slice none 0 0,.slice none 0 0,.slice none 0 0] 250))):=by
  have L:Below a.heap.size a ((((a.alloc (.cells #[.slice none 0 0] 75)).alloc (.cells #[.bool false] 4)).alloc (.cells #[.int .i64 0] 22)).alloc (.cells #[.slice none 0 0,.slice none 0 0,.slice none 0 0,.slice none 0 0,.slice none 0 0,.slice none 0 0,.slice none 0 0,.slice none 0 0] 250)):=
   ((((ah _ a).alloc (af _) _).alloc (by simp) _).alloc (by simp;omega) _).alloc (by simp;omega) _
  have Y:=(((dt a 75 (.slice none 0 0)).alloc (.cells #[.bool false] 4)).alloc (.cells #[.int .i64 0] 22)).alloc (.cells #[.slice none 0 0,.slice none 0 0,.slice none 0 0,.slice none 0 0,.slice none 0 0,.slice none 0 0,.slice none 0 0,.slice none 0 0] 250);have G:=((dt (a.alloc (.cells #[.slice none 0 0] 75)) 4 (.bool false)).alloc (.cells #[.int .i64 0] 22)).alloc (.cells #[.slice none 0 0,.slice none 0 0,.slice none 0 0,.slice none 0 0,.slice none 0 0,.slice none 0 0,.slice none 0 0,.slice none 0 0] 250);have H:=(dt ((a.alloc (.cells #[.slice none 0 0] 75)).alloc (.cells #[.bool false] 4)) 22 (.int .i64 0)).alloc (.cells #[.slice none 0 0,.slice none 0 0,.slice none 0 0,.slice none 0 0,.slice none 0 0,.slice none 0 0,.slice none 0 0,.slice none 0 0] 250);have I:=aM (((a.alloc (.cells #[.slice none 0 0] 75)).alloc (.cells #[.bool false] 4)).alloc (.cells #[.int .i64 0] 22)) (.cells #[.slice none 0 0,.slice none 0 0,.slice none 0 0,.slice none 0 0,.slice none 0 0,.slice none 0 0,.slice none 0 0,.slice none 0 0] 250);simp only[bI]at G H I;exact⟨⟨_,I,rfl,fun u Q=>by omega⟩,Y,G,H,x.below L,L⟩
 have V:=hid U;have W:=hid Yj;have X:=hid P;clear U Yj P x;go_enter_defers Tryz.func214,Tryz.ntmps214
 go_wp2_with fail;go_loopw [8](fun i wr=>∃j:Nat,j<=8∧i=.int .i64 (j:Int)∧Hid (∀u,u<j->(f u).length<=30)∧Hid (oO a n v J m c T k F f j wr))(fun i _=>8-(intOf i).toNat)
 case atStart=>exact⟨0,by omega,rfl,fun u Q=>by omega,N⟩
 case round=>
  obtain⟨j,YA,rfl,t,d⟩:=hrel;by_cases l:j<8
  ·have Yc:(j:Int)<8:=by omega
   have w:=LD k V.out F o W.out n v J m c T (X.out j l) (by omega) wr d.out.FC;by_cases q:(f j).length<=30
   ·have g:=hid (w.mono (R':=fun h e=>Below wr.heap.size wr e∧∃Yg,h=.returned Yg∧cU wr.heap.size e Yg (f j)) (fun h e r=>⟨r.1,r.2.elim (fun o=>o.2) (fun o=>absurd o.1 (by omega))⟩))
    have D:=hid (show∀u,u<j+1->(f u).length<=30 from fun u Q=>if h:u=j then h▸q else t.out u (by omega));have R:a.heap.size+1+1+1+1<=wr.heap.size:=by
     obtain⟨Yp,C,_⟩:=d.out.arr;have:=(ak.1 C).1
     omega
    clear w q t;go_wp2_with(first
     |(go_at_call 219;refine g.out.mono ?_;clear g;rintro h S⟨s,Yg,rfl,y⟩;obtain⟨Ym,YC,Yq,rfl⟩:=y.slice3;have b:=hid (d.out.below s);obtain⟨YD,Yo,Yy⟩:=b.out.Qy l))
    go_roundw
    case rel=>exact⟨j+1,by omega,by go_num,D,hid (b.out.set l ⟨Yi,Yd⟩ O y R)⟩
    case measure=>simp[intOf];omega
   ·have g:=hid (w.mono (R':=fun h e=>Below wr.heap.size wr e∧h=.panicked qw) (fun h e r=>⟨r.1,r.2.elim (fun o=>absurd o.1 q) (fun o=>o.2)⟩))
    clear w;go_wp2_with(first
     |(go_at_call 219;refine g.out.mono ?_;clear g;rintro h S⟨s,rfl⟩))
    have b:=d.out.below s;refine RH (f:=218) (args:=#[.pointer (some ⟨a.heap.size,0,none⟩),.pointer (some ⟨a.heap.size+1,0,none⟩),.pointer (some ⟨a.heap.size+1+1,0,none⟩)]) (by simp) (by simp[go_sem]) ?_;refine(Ig a.heap.size S b.b0 b.b1 b.b2).mono ?_;rintro h Yf Yh⟨rfl,rfl,M,z,A,B⟩;exact⟨_,zM rfl rfl rfl rfl z.cell A.cell B.cell,b.bl.trans M,.inr ⟨⟨j,l,by omega⟩,rfl⟩⟩
  ·obtain rfl:j=8:=by omega
   have Yr:=d.out.b0.cell;have Yt:=d.out.b1.cell;have Yu:=d.out.b2.cell;have Yv:=d.out.b0.frozen;have Yw:=d.out.b1.frozen;have Yx:=d.out.b2.frozen;go_wp2;refine RH (f:=218) (args:=#[.pointer (some ⟨a.heap.size,0,none⟩),.pointer (some ⟨a.heap.size+1,0,none⟩),.pointer (some ⟨a.heap.size+1+1,0,none⟩)]) (by simp) (by simp[go_sem]) ?_;refine(LR ⟨a.heap.size,0,none⟩ ⟨a.heap.size+1,0,none⟩ ⟨a.heap.size+1+1,0,none⟩ _).mono ?_;rintro h Yf Yh⟨rfl,rfl,rfl⟩;have b:=d.out;have z:=((b.b0.set (.slice (some ⟨a.heap.size+1+1+1,0,none⟩) 8 8)).other (B':=a.heap.size+1) (by omega) (.bool true)).other (B':=a.heap.size+1+1) (by omega) (.int .i64 0);have A:=((b.b1.other (B':=a.heap.size) (by omega) (.slice (some ⟨a.heap.size+1+1+1,0,none⟩) 8 8)).set (.bool true)).other (B':=a.heap.size+1+1) (by omega) (.int .i64 0);have B:=((b.b2.other (B':=a.heap.size) (by omega) (.slice (some ⟨a.heap.size+1+1+1,0,none⟩) 8 8)).other (B':=a.heap.size+1) (by omega) (.bool true)).set (.int .i64 0);refine⟨_,zM rfl rfl rfl rfl z.cell A.cell B.cell,?_,.inl ⟨t.out,_,rfl,?_⟩⟩
   ·exact((b.bl.setCell (p:=⟨a.heap.size,0,none⟩) (af _) _).setCell (p:=⟨a.heap.size+1,0,none⟩) (by show a.heap.size<=a.heap.size+1;omega) _).setCell (p:=⟨a.heap.size+1+1,0,none⟩) (by show a.heap.size<=a.heap.size+1+1;omega) _
   ·refine b.qg (fun E YB=>?_) ?_
    ·exact((aT _ ⟨a.heap.size+1+1,0,none⟩ _ E (show E≠a.heap.size+1+1 by omega)).trans (aT _ ⟨a.heap.size+1,0,none⟩ _ E (show E≠a.heap.size+1 by omega))).trans (aT _ ⟨a.heap.size,0,none⟩ _ E (show E≠a.heap.size by omega))
    ·exact aK (aK (ef wr _ _).size (ef _ _ _).size) (ef _ _ _).size
theorem CF(l:World)(k:TypeId)(base:Nat)(B:Value)(c:List Int)(v:cU base l B c)(f:Addr)(a:List Int)(x:Nat)(D:cZ l.heap.size l (some f) a)(F:c.length+a.length<=1000000)(m:base<=l.heap.size):
 ∃h w',(Builtin.append_ #[68,68] k #[B,.slice (some f) a.length x]).run Tryz.prog l=.ok h w'∧cU base w' h (c++a)∧l.grownBy w' B.ownBlock∧(h.ownBlock=B.ownBlock∨h.ownBlock=some l.heap.size):=by
 obtain⟨e,o,j,t,u⟩:=fh Tryz.yJ;have n:=D.news;have y:∀N∈a.map (Value.int .i64),N.oneCell'=true:=by intro N A;simp at A;obtain⟨Q,_,rfl⟩:=A;rfl
 obtain⟨h,w',p,H,I,J⟩:=aZ (P:=Tryz.prog) l base 68 k 3 e (.int .i64 0) 1 8 Tryz.underlying68 o j t u rfl (by decide) B c.length (c.map (Value.int .i64)) v f a.length x (a.map (Value.int .i64)) (by simp) n y (by unfold maxLen;omega) (by omega) m;refine⟨h,w',p,by simpa [cU]using H,I,?_⟩;have d:e.size=1:=t;have s:e.bytes=8:=u;rcases v.2 with⟨rfl,O⟩|⟨g,i,r,rfl,K,E,M,L,z,C⟩
 ·by_cases G:a.length=0
  ·rw[J.2 ⟨rfl,G⟩]
   exact .inl rfl
  ·have b:=run_append_nil (P:=Tryz.prog) l 68 k 3 e (.int .i64 0) Tryz.underlying68 o j f a.length x (a.map (Value.int .i64)) (by simp[d]) n (by omega) (by omega) (by rw[s];omega)
   rw[p]at b;cases b;exact .inr rfl
 ·by_cases q:c.length+a.length<=i
  ·have w:c.length*e.size+(a.map (Value.int .i64)).length<=r.size:=by rw[z,d];simp;omega
   have b:=run_append_room (P:=Tryz.prog) l 68 k 3 e Tryz.underlying68 o g c.length i r E f a.length x (a.map (Value.int .i64)) (by simp[d]) n y q w;rw[p]at b;cases b;exact .inl rfl
  ·have b:=run_append_grow (P:=Tryz.prog) l 68 k 3 e (.int .i64 0) Tryz.underlying68 o j ⟨g,0,none⟩ c.length i (c.map (Value.int .i64)) (by simp[d]) (World.ownsRow.cells v (g:=g) rfl) f a.length x (a.map (Value.int .i64)) (by simp[d]) n (by omega) (by omega) (growslice_fits (by omega) (by rw[s];omega))
   rw[p]at b;cases b;exact .inr rfl
theorem CW{rest:List Oper}(f:World)(g:y.guard=none)(B C:Operand)
 (k:y.op=.call {callee:=.builtin .append,args:=#[B,C],argTypes:=#[68,68]})(base:Nat)(j:Value)(c:List Int)(l:A.eval B=j)(h:cU base f j c)
 (d:Option Addr)(a:List Int)(o:Nat)(m:A.eval C=.slice d a.length o)(w:d=none->a.length=0∧o=0)(t:cZ f.heap.size f d a)(i:c.length+a.length<=1000000)(e:base<=f.heap.size)
 (D:∀b w',cU base w' b (c++a)->f.grownBy w' j.ownBlock->(b.ownBlock=j.ownBlock∨b.ownBlock=some f.heap.size)->wpList Tryz.prog F G rest (A.put y.dst b) w'):wpList Tryz.prog F G (y::rest) A f:=by
 cases d with
 |none=>
  obtain⟨z,v,E,H,I⟩:=fh Tryz.yJ;obtain⟨p,rfl⟩:=w rfl;obtain rfl:a=[]:=bJ p;exact ij g B C 68 k base 3 z 1 Tryz.underlying68 v j c.length (c.map (Value.int .i64)) l h m (D j f (by simpa using h) ⟨rfl,rfl,rfl,af _,fun _ _ _=>rfl⟩ (.inl rfl))
 |some n=>
  refine pZ g fun _ u=>?_
  obtain⟨b,w',x,q,r,s⟩:=CF f y.type base j c h n a o t i e;unfold Oper.wp execOp;simp only[k,resolve,invoke,builtin,Sem.run_bind,Sem.run_pure,Result.andThen_ok,List.map_toArray,fF,gy,l,m,x];exact u _ _ (D b w' q r s)
theorem O5(b n:List Int)(a o:Nat)(C:Value)(e:Option Addr)(t:Nat)(f:World)(E:Kp f a o C b)(F:cZ f.heap.size f e n)(z:e=none->n.length=0∧t=0)(M:b.length+n.length<=5000):
 Calls Tryz.prog 212 #[.pointer (some ⟨a,0,none⟩),.slice e n.length t] f fun g h=>g=.returned (.int .i64 (b.length:Int))∧∃y,Kp h a o y (b++n)∧h.os=f.os∧h.tape=f.tape∧h.output=f.output∧f.heap.size<=h.heap.size∧
  (∀k,y.ownBlock=some k->C.ownBlock=some k∨f.heap.size<=k)∧∀k,k<f.heap.size->k≠a->some k≠C.ownBlock->h.heap[k]?=f.heap[k]?:=by
 obtain⟨m,u⟩:=E;have A:a<f.heap.size:=(ak.1 m).1;have I:f.cell? ⟨a,0,none⟩=some C:=(dp m 0).trans rfl;have K:f.frozen? ⟨a,0,none⟩=false:=by simp only[World.frozen?];rw[m];simp
 obtain⟨p,r,rfl,_⟩:=cU.ints u;have x:∀k,(Value.slice p b.length r).ownBlock=some k->a+1<=k:=fun k g=>(bn u k g).1
 have N:(b.length:Int)<=5000:=by omega
 go_enter Tryz.func212,Tryz.ntmps212;go_wp2_with(first
  |(at_builtin;go_loud(refine CW _ rfl _ _ rfl (a+1) _ b rfl u e n t rfl z F (by omega) (by omega) ?_);intro y d i c B;have j:d.heap[a]?=some (.cells #[.slice p b.length r,.map (some o)] 248 (0,0)):=(c.block a A (fun g=>by have:=x a g.symm;omega)).trans m;have J:d.cell? ⟨a,0,none⟩=some (.slice p b.length r):=(dp j 0).trans rfl;have L:d.frozen? ⟨a,0,none⟩=false:=(by simp only[World.frozen?];rw[j];simp);obtain⟨q,s,rfl,_⟩:=cU.ints i))
 go_ret;have l:∀k,(Value.slice q (b++n).length s).ownBlock=some k->a+1<=k:=fun k g=>(bn i k g).1
 refine⟨rfl,.slice q (b++n).length s,⟨?_,?_⟩,c.os,c.tape,c.output,aK c.size (ef d _ _).size,fun k g=>B.elim (fun D=>.inl (D▸g)) (fun D=>.inr (by rw[D]at g;cases g;exact af _)),fun k v G H=>(aT d ⟨a,0,none⟩ _ k G).trans (c.block k v H)⟩
 ·obtain⟨w,v⟩:=ak.1 j
  rw[ai];show(d.heap.modify a _)[a]?=_;rw[fo (by rw[iO];exact w),fJ,v];rfl
 ·refine dM i (iz d a 0 _) ?_
  cases g:(Value.slice q (b++n).length s).ownBlock with
  |none=>exact .inl rfl
  |some k=>exact .inr (by have:=l k g;simp;omega)
namespace Wb
theorem PS(a c:List Int)(d:Nat->Nat):rt (a++c) d<=rt a d+c.length:=by
 unfold rt;rw[ai,List.range_add,RU,ai];have g:((List.map (fun h=>a.length+h) (List.range c.length)).filter fun b=>decide (can (a++c) b=b∧d b=b)).length<=c.length:=by
  refine aK (ki _ _) ?_;simp
 have e:((List.range a.length).filter fun b=>decide (can (a++c) b=b∧d b=b))=(List.range a.length).filter fun b=>decide (can a b=b∧d b=b):=by
  refine List.filter_congr fun b f=>?_
  rw[Bl (Rd.1 f)]
 rw[e];omega
end Wb
structure FW(W:World)(Bw Bm:Nat)(v:Value)(zs:List Int)(h:Nat->Nat):Prop where
 own:Kp W Bw Bm v zs
 tied:∃T N M,Wb.St zs T h∧gM W Bm N M∧(∀p:Nat,M (p:Int)=(T p).map fun q=>.int .i64 (q:Int))∧N+Wb.rt zs h<=zs.length
theorem FW.st(p:FW a b e h d u)(x:0<d.length):∃n c,h=.slice (some ⟨n,0,none⟩) d.length c∧Db a b e (some ⟨n,0,none⟩) c d u:=by
 obtain⟨⟨m,f⟩,t,r,q,s,j,k,l⟩:=p;obtain⟨z,g,v,i,_⟩:=cU.ints f;rcases f.2 with⟨rfl,y⟩|⟨w,A,o,rfl,_⟩
 ·omega
 ·cases v
  exact⟨w,g,rfl,t,r,s,⟨m,i,q,j,k⟩,l⟩
theorem FW.lt(g:FW a b e h d u):b<a.heap.size∧e<a.heap.size:=by
 obtain⟨⟨f,i⟩,o,m,l,n,c,j,k⟩:=g;exact⟨(ak.1 f).1,c.lt⟩
theorem F5{base:Nat}(f:cU base a h d)(i:a.heap[b]?=some (.map I e)):some b≠h.ownBlock:=fun j=>by
 obtain⟨k,c,g⟩:=zZ f j.symm;rw[i]at c;cases c;cases g
def Oa(w w':World)(Bw Bm:Nat)(v:Value):Prop:=w'.os=w.os∧w'.tape=w.tape∧w'.output=w.output∧w.heap.size<=w'.heap.size∧∀k,k<w.heap.size->k≠Bw->k≠Bm->some k≠v.ownBlock->w'.heap[k]?=w.heap[k]?
theorem Kl(d j:List Int)(v:Nat->Nat)(c b:Nat)(u:Value)(a:Option Addr)(g:Nat)(l:World)(F:FW l c b u d v)(A:cZ l.heap.size l a j)(p:a=none->j.length=0∧g=0)(B:d.length+j.length<=5000):
 Calls Tryz.prog 212 #[.pointer (some ⟨c,0,none⟩),.slice a j.length g] l fun t m=>t=.returned (.int .i64 (d.length:Int))∧∃f,FW m c b f (d++j) v∧Oa l m c b u∧∀k,f.ownBlock=some k->u.ownBlock=some k∨l.heap.size<=k:=by
 obtain⟨i,J,H,G,I,h,n,M⟩:=F;refine(O5 d j c b u a g l i A p B).mono ?_;rintro t m⟨rfl,f,o,w,x,y,z,C,q⟩;obtain⟨L,K,e⟩:=h.map;have s:b≠c:=fun t=>by
  have:=i.1
  rw[<-t,e]at this;cases this
 refine⟨rfl,f,⟨o,J,H,G,I.ext,h.eV (q b h.lt s (F5 i.2 e)),n,?_⟩,⟨w,x,y,z,fun k r D _ E=>q k r D E⟩,C⟩;have:=Wb.PS d j v
 rw[ai];omega
theorem Qm(b:List Int)(K:Wb.Good b)(u:Nat->Nat)(d c:Nat)(J:Value)(one a:Nat)(t:World)(z:one<b.length)(A:a<b.length)(G:FW t d c J b u):
 Calls Tryz.prog 211 #[.pointer (some ⟨d,0,none⟩),.int .i64 (one:Int),.int .i64 (a:Int)] t fun f j=>∃q,f=.returned (.bool q)∧eZ t.heap.size c t j∧
  ((q=true∧∃h',Wb.qG b u h' [(one,a)]∧FW j d c J b h')∨(q=false∧Wb.No b u [(one,a)])):=by
 obtain⟨L,k,rfl,r⟩:=G.st (by omega);obtain⟨p,T,R,Q,S,D,I,P⟩:=G;obtain⟨O,N,i⟩:=D.map;refine(O9 (Po b K d c L 0 k _ u (af _) one a t z A r)).mono ?_;rintro f j⟨q,rfl,m,F⟩;refine⟨q,rfl,m,?_⟩;rcases F with⟨rfl,h',C,⟨y,w,x,g,s⟩,_⟩|⟨rfl,o⟩
 ·obtain⟨v,n,h⟩:=g.ties
  refine .inl ⟨rfl,h',C,⟨⟨g.FC,?_⟩,y,w,v,x,n,h,s⟩⟩;rcases p.2.2 with⟨f,_⟩|⟨H,M,l,f,E,e,B⟩
  ·cases f
  ·refine⟨p.2.1,.inr ⟨H,M,l,f,E,?_,B⟩⟩
   exact(m.block H (ak.1 e).1 (fun f=>by rw[f,i]at e;cases e)).trans e
 ·exact .inr ⟨rfl,o⟩
namespace Wb
def eight(k:Nat):List Int:=((gU 8).take k).flatten
theorem IW(a:b<8):eight (b+1)=eight b++((gU 8)[b]?.getD []):=vZ _ b (by rw[j5];exact a)
theorem pr:∀k,k<=8->(eight k).length=k:=by decide+kernel
theorem FN:∀k,k<8->((gU 8)[k]?.getD []).length=1:=by decide+kernel
theorem Pz:Good (Wb.eight 8):=by
 refine⟨by decide+kernel,by decide+kernel,?_,?_,?_⟩
 ·have:∀b,b<8-> -8<=sg (Wb.eight 8) b∧sg (Wb.eight 8) b<6:=by decide+kernel
  intro b a;exact this b (by rw[pr 8 (by omega)]at a;exact a)
 ·decide+kernel
 ·have:∀b,b<8->Tm.dn (Wb.eight 8) b<=8:=by decide+kernel
  intro b a;rw[pr 8 (by omega)]at a⊢;exact this b a
end Wb
theorem FW.eV{W':World}(l:FW a b e h d u)(c:Below a.heap.size a W'):FW W' b e h d u:=by
 obtain⟨⟨g,i⟩,p,n,m,o,f,j,k⟩:=l;exact⟨⟨(c.block _ (ak.1 g).1).trans g,i.below c⟩,p,n,m,o,f.eV (c.block _ f.lt),j,k⟩
theorem cU.yK{base:Nat}(j:cU base a h d)(g:∀q,base<=q->q<a.heap.size->c.heap[q]?=a.heap[q]?):cU base c h d:=
 ⟨j.1,j.2.elim .inl fun⟨i,k,b,l,e,f,m⟩=>.inr ⟨i,k,b,l,e,(g i e (ak.1 f).1).trans f,m⟩⟩
theorem il.yK{base:Nat}(r:il base a h H)(g:∀q,base<=q->q<a.heap.size->c.heap[q]?=a.heap[q]?)(_hs:a.heap.size<=c.heap.size):il base c h H:=by
 obtain⟨m,d,i⟩:=r;refine⟨m,⟨d.1,d.2.elim .inl fun⟨n,o,b,p,e,f,t⟩=>.inr ⟨n,o,b,p,e,(g n e (ak.1 f).1).trans f,t⟩⟩,fun s k=>?_⟩;obtain⟨u,l,j⟩:=i s k;exact⟨u,l,j.yK g⟩
theorem Jr(a:World):Calls Tryz.prog 210 #[] a fun h R=>∃v,h=.returned (.pointer (some ⟨a.heap.size+1,0,none⟩))∧FW R (a.heap.size+1) a.heap.size v (Wb.eight 8) (fun B=>B)∧Below a.heap.size a R:=by
 have Yg:=@q7 Tryz.prog;have q:Hid (FW ((a.alloc (.map #[] 0)).alloc (.cells #[.slice none 0 0,.map (some a.heap.size)] 248)) (a.heap.size+1) a.heap.size (.slice none 0 0) [] (fun B=>B)):=by
  have c:=aM (a.alloc (.map #[] 0)) (.cells #[.slice none 0 0,.map (some a.heap.size)] 248);rw[bI]at c;refine⟨⟨c,cU.nil _ _⟩,fun _=>none,0,fun _=>none,Wb.St.start [],(gM.made a).eV (cM _ _ _ (by simp)),fun _=>rfl,by simp[Wb.rt]⟩
 have p:Below a.heap.size a ((a.alloc (.map #[] 0)).alloc (.cells #[.slice none 0 0,.map (some a.heap.size)] 248)):=((ah _ a).alloc (af _) _).alloc (by simp) _;have t:((a.alloc (.map #[] 0)).alloc (.cells #[.slice none 0 0,.map (some a.heap.size)] 248)).heap.size=a.heap.size+1+1:=by simp
 go_enter Tryz.func210,Tryz.ntmps210;go_wp2_with(first
  |(go_at_call 175;refine(F8 _).mono ?_;rintro h e⟨Yr,rfl,n,f⟩;obtain⟨Yi,Yq,rfl,o,_⟩:=n.qg;have d:(gU 8).length=8:=j5 8;rw[d]))
 have N:=f.size;rw[t]at N n;have H:Hid (∀C:World,(∀b,a.heap.size+1+1<=b->b<e.heap.size->C.heap[b]?=e.heap[b]?)->e.heap.size<=C.heap.size->np C.heap.size C Yi (gU 8)):=fun C c z=>by
  obtain⟨Yj,Yl,h,I,_⟩:=(n.yK c z).qg;cases h;exact I
 have E:=hid (q.out.eV f);have g:=hid (p.trans (f.mono (by rw[t];omega)));clear n o q p f;go_loopw [9](fun X wr=>∃(i:Nat)(v:Value),i<=8∧X=.int .i64 (i:Int)∧Hid (FW wr (a.heap.size+1) a.heap.size v (Wb.eight i) (fun B=>B))∧Hid (∀b,v.ownBlock=some b->e.heap.size<=b)∧Hid (wr.os=a.os∧wr.tape=a.tape∧wr.output=a.output∧e.heap.size<=wr.heap.size∧∀b,b<e.heap.size->b≠a.heap.size+1->b≠a.heap.size->wr.heap[b]?=e.heap[b]?))(fun X _=>8-(intOf X).toNat)
 case atStart=>exact⟨0,.slice none 0 0,by omega,rfl,E,fun b h=>by simp[Value.ownBlock]at h,g.out.os,g.out.tape,g.out.output,af _,fun _ _ _ _=>rfl⟩
 case round=>
  obtain⟨i,v,V,rfl,hF,L,m⟩:=hrel;by_cases k:i<8
  ·have W:(i:Int)<8:=by omega
   have o:=H.out wr (fun b c z=>m.out.2.2.2.2 b z (by omega) (by omega)) m.out.2.2.2.1;obtain⟨Yp,Yh,rfl,Ym,J⟩:=o.at (by rw[d];omega);obtain⟨S,T,K,j,_⟩:=J i (by rw[d];exact k);have r:=Wb.FN i k;have s:=Wb.pr i V;have l:=hid (Kl (Wb.eight i) ((gU 8)[i]?.getD []) (fun B=>B) (a.heap.size+1) a.heap.size v S T wr hF.out j (fun h=>by
    obtain⟨Yk,Ye,D,_⟩:=j.at (by omega);rw[h]at D;cases D) (by omega))
   have O:=hid (Wb.IW k);rw[r]at l K;rw[s]at l;clear o J j r s hF;go_wp2_with(first
    |(go_at_call 212;refine l.out.mono ?_;clear l;rintro h Yo⟨rfl,Yf,F,G,M⟩))
   go_roundw
   case rel=>
    obtain⟨u,w,x,U,y⟩:=m.out;obtain⟨Y,Z,Yc,Yn,Yd⟩:=G;refine⟨i+1,Yf,by omega,by go_num,by rw[O.out];exact F,fun b h=>?_,Y.trans u,Z.trans w,Yc.trans x,by omega,fun b A P Q=>(Yd b (by omega) P Q (fun h=>by have:=L.out b h.symm;omega)).trans (y b A P Q)⟩;rcases M b h with c|c
    ·exact L.out b c
    ·omega
   case measure=>simp[intOf];omega
  ·obtain rfl:i=8:=by omega
   go_wp2;go_ret;obtain⟨u,w,x,U,y⟩:=m.out;exact⟨v,rfl,hF.out,u,w,x,by omega,fun b A=>(y b (by omega) (by omega) (by omega)).trans (g.out.block b A)⟩
def gD(t u:List Int):List Int:=gB (db [] t) u u.length
theorem DR(c q:List Int)(x K:Option Addr)(R S M:Nat)(a:World)(Yr:c.length<=100)(Yt:q.length<=100)(X:∀k,k<c.length-> -8<=c[k]?.getD 0)(W:∀k,k<c.length->c[k]?.getD 0<6)(V:∀k,k<q.length-> -8<=q[k]?.getD 0)(U:∀k,k<q.length->q[k]?.getD 0<6)
 (g:a.cell? ⟨M,0,none⟩=some (.slice x c.length R))(D:a.cell? ⟨M,1,none⟩=some (.slice K q.length S))(Z:cZ a.heap.size a x c)(Yc:cZ a.heap.size a K q):
 Calls Tryz.prog 194 #[.slice (some ⟨M,0,none⟩) 2 2] a fun Yo Yg=>∃v,Yo=.returned v∧il a.heap.size Yg v [dN c,gD c q]∧Below a.heap.size a Yg:=by
 have Yw:∀(T:Fn)(first C:Array Value)(a:World),(Instr.makeFunc T first C).run Tryz.prog a=.ok (.func T first C) a:=fun _ _ _ _=>rfl
 have Yx:=@q7 Tryz.prog;have E:=fx g;have Ym:=hid Z;have Yn:=hid Yc;have Yl:=hid g;have N:=hid D;have Yk:=hid X;have Yj:=hid W;have Yi:=hid V;have Yh:=hid U;clear Z g Yc D X W V U;go_enter Tryz.func194,Tryz.ntmps194;go_wp2;have d:Below a.heap.size a ((a.alloc (.map #[] 0)).alloc (.cells #[.map (some a.heap.size)] 241)):=((ah _ _).alloc (af _) _).alloc (by simp) _;have F:mP ((a.alloc (.map #[] 0)).alloc (.cells #[.map (some a.heap.size)] 241)) (a.heap.size+1) a.heap.size []:=
  ⟨l0 (a.alloc (.map #[] 0)) (.map (some a.heap.size)) 241 (a.heap.size+1) (by simp),.map [],(sG a Tryz.prog 3 (plainElem Tryz.prog 3)).alloc _,Ci.empty⟩
 have z:((a.alloc (.map #[] 0)).alloc (.cells #[.map (some a.heap.size)] 241)).heap.size=a.heap.size+2:=by simp
 obtain⟨t,H⟩:∃t,(a.alloc (.map #[] 0)).alloc (.cells #[.map (some a.heap.size)] 241)=t:=⟨_,rfl⟩;rw[H]at d F z⊢;clear H;have B:=hid z;clear z;go_loopw [5,12](fun v Yf wr=>(Yf=.int .i64 0∧v=.slice none 0 0∧wr=t)∨(Yf=.int .i64 1∧il t.heap.size wr v [dN c]∧mP wr (a.heap.size+1) a.heap.size (db [] c)∧Below a.heap.size a wr∧t.heap.size<=wr.heap.size)∨(Yf=.int .i64 2∧il a.heap.size wr v [dN c,gD c q]∧Below a.heap.size a wr))(fun _ Yf _=>2-(intOf Yf).toNat)
 case atStart=>exact .inl ⟨rfl,rfl,rfl⟩
 case round=>
  rcases hrel with⟨rfl,rfl,rfl⟩|⟨rfl,y,hF,g,Yq⟩|⟨rfl,h,g⟩
  ·have Yd:=(d.cell (p:=⟨M,0,none⟩) E).trans Yl.out
   have s:=xM [] c x R (a.heap.size+1) a.heap.size wr Yr (by simp) Yk.out Yj.out F ((Ym.out.below d).mono d.size);have r:=hid (fk [] c c.length);have n:gB [] c c.length=dN c:=rfl;rw[n]at s r;clear n;generalize dN c=o at*;go_wp2_with fail;refine s.mono ?_;rintro Yo b⟨v,rfl,h,G,j⟩;clear s;obtain⟨e,f,rfl,_⟩:=cU.ints h;have l:Below a.heap.size a b:=d.trans ((j.mono d.size).below (af _));have J:=hid (h.alloc (.cells #[.slice e o.length f] 68));have w:=hid (l0 b (.slice e o.length f) 68 b.heap.size rfl);have L:Below a.heap.size a (b.alloc (.cells #[.slice e o.length f] 68)):=l.alloc l.size _;have hA1:Below b.heap.size b (b.alloc (.cells #[.slice e o.length f] 68)):=(ah _ _).alloc (af _) _;have O:=hid G;have Ye:=j.size;clear h j G;go_wp2_with(at_builtin;go_loud(refine nf _ rfl _ _ rfl wr.heap.size _ [] rfl (il.nil _ _) (.slice e o.length f) o b.heap.size rfl w.out J.out (by simp) (by have:=hA1.size;omega) ?_);intro Yu Yv m i;obtain⟨P,Q,rfl,_⟩:=il.qg m)
   go_roundw
   case rel=>
    have YD:=B.out;have Yz:=hA1.size;have Yy:=i.size;refine .inr (.inl ⟨rfl,m,O.out.eV ?_ ?_,L.trans (i.mono (by omega)),by omega⟩)
    ·exact(i.block _ (by omega)).trans (hA1.block _ (by omega))
    ·exact(i.block _ (by omega)).trans (hA1.block _ (by omega))
   case measure=>simp[intOf]
  ·have Yd:=(g.cell (p:=⟨M,1,none⟩) E).trans N.out
   have I:=wC c [];have s:=xM (db [] c) q K S (a.heap.size+1) a.heap.size wr Yt (by simp at I;omega) Yi.out Yh.out hF ((Yn.out.below g).mono g.size);have r:=hid (fk (db [] c) q q.length);have n:gB (db [] c) q q.length=gD c q:=rfl;rw[n]at s r;have A:=hid y;obtain⟨YA,YB,rfl,_⟩:=il.qg y;clear n I y;generalize gD c q=u at*;generalize dN c=o at*;go_wp2_with fail;refine s.mono ?_;rintro Yo b⟨v,rfl,h,_,j⟩;clear s;obtain⟨e,f,rfl,_⟩:=cU.ints h;have l:Below a.heap.size a b:=g.trans ((j.mono g.size).below (af _));have Y:=hid (A.out.yK (fun YE YC Yp=>j.block YE Yp (by have:=B.out;omega)) j.size);have J:=hid ((h.mono Yq).alloc (.cells #[.slice e u.length f] 68));have w:=hid (l0 b (.slice e u.length f) 68 b.heap.size rfl);have L:Below a.heap.size a (b.alloc (.cells #[.slice e u.length f] 68)):=l.alloc l.size _;have hA1:Below b.heap.size b (b.alloc (.cells #[.slice e u.length f] 68)):=(ah _ _).alloc (af _) _;have Ye:=j.size;clear h j A;go_wp2_with(at_builtin;go_loud(refine nf _ rfl _ _ rfl t.heap.size _ [o] rfl (Y.out.alloc _) (.slice e u.length f) u b.heap.size rfl w.out J.out (by simp) (by have:=hA1.size;omega) ?_);intro Yu Yv m i;obtain⟨P,Q,rfl,_⟩:=il.qg m)
   go_roundw
   case rel=>exact .inr (.inr ⟨rfl,m.mono d.size,L.trans (i.mono d.size)⟩)
   case measure=>simp[intOf]
  ·obtain⟨P,Q,rfl,_⟩:=il.qg h
   go_wp2;go_ret;exact⟨_,rfl,h,g⟩
