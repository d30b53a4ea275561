/-
  Parts of the proof.
-/
import Derived.Test.YtglohanbpjaieaaGreatDoorBdp17
namespace Go.Proofs.YtglohanbpjaieaaGreatDoor
open Go.Proofs Go.RowKit Go.Shelf Go.Maps
variable {a:bu}{b c:List Int}{d:Nat}
inductive xu(rs:bu):List Int->Nat->List Int->Prop where
 |stop{t:List Int}(h:dS rs t=0)(hn:(dT rs t).length=0):xu rs t 0 t
 |go{t x:List Int}{n:Nat}(h:dS rs t=0)(hn:0<(dT rs t).length)(hr:xu rs ((dT rs t)[0]?.getD (0,0,[])).2.2 n x):xu rs t (n+1) x
theorem JD:∀(f:Nat)(c:List Int)(k:Nat),(mX a f c k).2.2=0->∃n,xu a c n (mX a f c k).1∧(mX a f c k).2.1=k+n∧n<f:=by
 intro f;induction f with
 |zero=>intro c k d;simp[mX]at d
 |succ f j=>
  intro c k d;by_cases b:dS a c=0
  ·by_cases e:(dT a c).length=0
   ·rw[xA b e]
    exact⟨0,.stop b e,rfl,by omega⟩
   ·have g:0<(dT a c).length:=by omega
    rw[zC b g]at d⊢;obtain⟨n,h,i,l⟩:=j _ _ d;exact⟨n+1,.go b g h,by rw[i];omega,by omega⟩
  ·rw[ur b]at d
   exact absurd d b
theorem Hw(e:xu a c d b):dS a b=0∧(dT a b).length=0:=by
 induction e with
 |stop e f=>exact⟨e,f⟩
 |go _ _ _ g=>exact g
theorem EW(e:(bU a b).2.2=0):∃n,n<=60∧xu a b n (bU a b).1∧(bU a b).2.1=n:=by
 obtain⟨n,c,d,f⟩:=JD 61 b 0 e;exact⟨n,by omega,c,by unfold bU;rw[d];omega⟩
