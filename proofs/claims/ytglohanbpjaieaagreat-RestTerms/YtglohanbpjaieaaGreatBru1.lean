/-
  Parts of the proof: Math, Base, Signs, End, Check, RefErr, Same, Place, Part, Part2, Concat.
-/
import Derived.Test.YtglohanbpjaieaaGreatProg
import Derived.WalkSpells
import Derived.RangeFuncNested
import Derived.RangeFuncBound
import Derived.Shelf.RegionOpen
import Derived.OwnWalkIn
import Derived.LoopNIn
import Derived.LoopIn
import Derived.WalkSmall
import Derived.Laws.AppendOwnNone
import Derived.Lib.AppendZeros
set_option maxHeartbeats 1000000
set_option maxRecDepth 100000
namespace Go.Proofs.YtglohanbpjaieaaGreat.Tm
def room (s:Int):Nat:=if s = 2∨s = 3 then 1 else if s = 4∨s = 5 then 2 else 0
theorem room_le (s:Int):room s≤2:=by unfold room;split <;> (try split) <;> omega
def run:List Int→Nat→Nat
 | _,0=>0
 | [],n+1=>n+1
 | s :: l,n+1=>1+run l (n+room s)
theorem cZ (l:List Int):run l 0 = 0:=by cases l <;> simp [run]
theorem jJ (n:Nat):run [] n = n:=by cases n <;> simp [run]
theorem bU (s:Int) (l:List Int) (n:Nat):run (s :: l) (n+1) = 1+run l (n+room s):=by simp [run]
theorem lV (l:List Int):∀ (a b:Nat),run l (a+b) = run l a+run (l.drop (run l a)) b:=by
 induction l with
 | nil=>intro a b;simp [jJ]
 | cons s l ih =>
  intro a b;cases a with
  | zero=>simp [cZ]
  | succ a =>
   rw [show a+1+b = (a+b)+1 from by omega,bU,bU,show a+b+room s = (a+room s)+b from by omega,ih,
    show 1+run l (a+room s) = run l (a+room s)+1 from by omega,List.drop_succ_cons]
   omega
theorem GL (l:List Int):∀ (n:Nat),n≤run l n:=by
 induction l with
 | nil=>intro n;simp [jJ]
 | cons s l ih =>
  intro n;cases n with
  | zero=>simp
  | succ n=>rw [bU];have:=ih (n+room s);omega
theorem XU (l:List Int):∀ (n:Nat),run l n≤2 * l.length+n:=by
 induction l with
 | nil=>intro n;simp [jJ]
 | cons s l ih =>
  intro n;cases n with
  | zero=>simp [cZ]
  | succ n=>rw [bU];have:=ih (n+room s);have:=room_le s;simp only [List.length_cons];omega
def ai (t:List Int) (k:Nat):Nat:=k+run (t.drop k) 1
theorem dw (t:List Int) (k:Nat):k < ai t k:=by unfold ai;have:=GL (t.drop k) 1;omega
theorem nM (t:List Int) (k:Nat) (h:t.length≤k):ai t k = k+1:=by
 unfold ai;rw [List.drop_of_length_le h,jJ]
def pos (t:List Int) (k i:Nat):Nat:=k+1+run (t.drop (k+1)) i
theorem dB (t:List Int) (k:Nat):pos t k 0 = k+1:=by simp [pos,cZ]
theorem ed (t:List Int) (k i:Nat):pos t k (i+1) = ai t (pos t k i):=by
 unfold pos ai;rw [lV,List.drop_drop];omega
theorem jr (t:List Int) (k i:Nat):k < pos t k i:=by unfold pos;omega
theorem Rw (t:List Int) (k i:Nat):pos t k i≤k+1+(2 * (t.length - (k+1))+i):=by
 unfold pos;have:=XU (t.drop (k+1)) i;rw [List.length_drop] at this;omega
theorem nN (t:List Int) (k:Nat) (h:k < t.length):ai t k = pos t k (room (t[k]?.getD 0)):=by
 unfold ai pos;rw [List.drop_eq_getElem_cons h,show (1:Nat) = 0+1 from rfl,bU];simp [h];omega
def parts (t:List Int) (k n:Nat):List (Nat × Nat):=(List.range n).map fun i=>(pos t k i,pos t k (i+1))
theorem Dq (t:List Int) (k n:Nat):parts t k (n+1) = parts t k n++[(pos t k n,pos t k (n+1))]:=by simp [parts,List.range_succ]
theorem GM (t:List Int) (k n:Nat):(parts t k n).length = n:=by simp [parts]
def yE (k:Nat) (pre:List (Nat × Nat)):Nat:=(pre.getLast?.map Prod.snd).getD (k+1)
theorem yF (k:Nat) (pre:List (Nat × Nat)) (x:Nat × Nat):yE k (pre++[x]) = x.2:=by simp [yE]
theorem Fp (t:List Int) (k n:Nat):yE k (parts t k n) = pos t k n:=by
 cases n with
 | zero=>simp [parts,yE,dB]
 | succ n=>rw [Dq,yF]
def known (s:Int):Bool:=decide (-8≤s) && decide (s < 6)
def err (t:List Int):Int:=if 30 < t.length then 2 else if t.all known = false then 3 else if run t 1 = t.length then 0 else 1
end Go.Proofs.YtglohanbpjaieaaGreat.Tm
namespace Go.Proofs.YtglohanbpjaieaaGreat
open Go.Proofs Go.RowKit
theorem hid {p:Prop} (h:p):Hid p:=h
theorem lW {k:IntKind} {a b:Int} (h:a = b):Ending.returned (.int k a) = .returned (.int k b):=by rw [h]
theorem fG {a b:Bool} (h:a = b):Ending.returned (.bool a) = .returned (.bool b):=by rw [h]
theorem Rx (s:Int) (w:World):Calls Tryz.prog 124 #[.int .i64 s] w fun e w'=>e = .returned (.int .i64 (Tm.room s:Int))∧w' = w:=by
 by_cases h2:s = 2
 ·subst h2;go_enter Tryz.func124,Tryz.ntmps124;go_wp2;go_ret;exact ⟨rfl,rfl⟩
 by_cases h3:s = 3
 ·subst h3;go_enter Tryz.func124,Tryz.ntmps124;go_wp2;go_ret;exact ⟨rfl,rfl⟩
 by_cases h4:s = 4
 ·subst h4;go_enter Tryz.func124,Tryz.ntmps124;go_wp2;go_ret;exact ⟨rfl,rfl⟩
 by_cases h5:s = 5
 ·subst h5;go_enter Tryz.func124,Tryz.ntmps124;go_wp2;go_ret;exact ⟨rfl,rfl⟩
 have e:Tm.room s = 0:=by simp [Tm.room,h2,h3,h4,h5]
 have b2:(s == 2) = false:=by simp [h2]
 have b3:(s == 3) = false:=by simp [h3]
 have b4:(s == 4) = false:=by simp [h4]
 have b5:(s == 5) = false:=by simp [h5]
 clear h2 h3 h4 h5;rw [e];clear e;go_enter Tryz.func124,Tryz.ntmps124;go_wp2;go_ret;exact ⟨rfl,rfl⟩
theorem FT (s:Int) (w:World):Calls Tryz.prog 68 #[.int .i64 s] w fun e w'=>e = .returned (.bool (Tm.known s))∧w' = w:=by
 by_cases h1:-8≤s
 ·by_cases h2:s < 6
  ·go_enter Tryz.func68,Tryz.ntmps68;go_wp2;go_ret;exact ⟨fG (by simp [Tm.known,h1,h2]),rfl⟩
  ·go_enter Tryz.func68,Tryz.ntmps68;go_wp2;go_ret;exact ⟨fG (by simp [Tm.known,h1,h2]),rfl⟩
 ·have h1':decide (-8≤s) = false:=by simpa using h1
  go_enter Tryz.func68,Tryz.ntmps68;go_wp2;go_ret;exact ⟨fG (by simp [Tm.known];omega),rfl⟩
theorem yG (s:Int) (w:World) (h:s < 6):Calls Tryz.prog 43 #[.int .i64 s] w fun e w'=>e = .returned (.int .i64 (Tm.room s:Int))∧w' = w:=by
 by_cases h2:s < 2
 ·have e:Tm.room s = 0:=by unfold Tm.room;rw [if_neg (by omega),if_neg (by omega)]
  rw [e];clear e;go_enter Tryz.func43,Tryz.ntmps43;go_wp2;go_ret;exact ⟨rfl,rfl⟩
 by_cases h4:s < 4
 ·have e:Tm.room s = 1:=by unfold Tm.room;rw [if_pos (by omega)]
  rw [e];clear e;go_enter Tryz.func43,Tryz.ntmps43;go_wp2;go_ret;exact ⟨rfl,rfl⟩
 ·have e:Tm.room s = 2:=by unfold Tm.room;rw [if_neg (by omega),if_pos (by omega)]
  rw [e];clear e;go_enter Tryz.func43,Tryz.ntmps43;go_wp2;go_ret;exact ⟨rfl,rfl⟩
def eZ (n low high:Int):Bool:=decide (low≤n) && decide (n≤high)
theorem mX (n low high:Int):eZ n low high = true ↔ low≤n∧n≤high:=by simp [eZ]
theorem Dr (n low high:Int) (w:World):Calls Tryz.prog 42 #[.int .i64 n,.int .i64 low,.int .i64 high] w fun e w'=>e = .returned (.bool (eZ n low high))∧w' = w:=by
 by_cases h1:low≤n
 ·by_cases h2:n≤high
  ·go_enter Tryz.func42,Tryz.ntmps42;go_wp2;go_ret;exact ⟨fG (by simp [eZ,h1,h2]),rfl⟩
  ·go_enter Tryz.func42,Tryz.ntmps42;go_wp2;go_ret;exact ⟨fG (by simp [eZ,h1,h2]),rfl⟩
 ·have h1':decide (low≤n) = false:=by simpa using h1
  go_enter Tryz.func42,Tryz.ntmps42;go_wp2;go_ret;exact ⟨fG (by simp [eZ];omega),rfl⟩
theorem jK (a:Option Addr) (len cap:Nat) (k:Int) (w:World):Calls Tryz.prog 104 #[.slice a len cap,.int .i64 k] w fun e w'=>e = .returned (.bool (eZ k 0 ((len:Int) - 1)))∧w' = w:=by
 by_cases h1:0≤k
 ·by_cases h2:k < (len:Int)
  ·go_enter Tryz.func104,Tryz.ntmps104;go_wp2;go_ret;exact ⟨fG (by simp [eZ];omega),rfl⟩
  ·go_enter Tryz.func104,Tryz.ntmps104;go_wp2;go_ret;exact ⟨fG (by simp [eZ];omega),rfl⟩
 ·have h1':decide (0≤k) = false:=by simpa using h1
  go_enter Tryz.func104,Tryz.ntmps104;go_wp2;go_ret;exact ⟨fG (by simp [eZ];omega),rfl⟩
end Go.Proofs.YtglohanbpjaieaaGreat
namespace Go.Proofs.YtglohanbpjaieaaGreat
open Go.Proofs Go.RowKit Go.Shelf
section
attribute [local go_sem] Oper.semAt_some
def Ints (n:Nat) (W:World) (a:Option Addr) (zs:List Int):Prop :=
 ∀ j,j < zs.length→∃ b off,a = some ⟨b,off,none⟩∧b < n∧W.cell? ⟨b,off+j,none⟩ = some (.int .i64 (zs[j]?.getD 0))
theorem Ints.below {n:Nat} {A B:World} (h:Below n A B) {a:Option Addr} {zs:List Int} (hi:Ints n A a zs):Ints n B a zs:=fun j hj=>by
 obtain ⟨b,off,e,hb,hc⟩:=hi j hj;exact ⟨b,off,e,hb,(h.cell (p:=⟨b,off+j,none⟩) hb).trans hc⟩
theorem Ints.mono {n m:Nat} (h:n≤m) {W:World} {a:Option Addr} {zs:List Int} (hi:Ints n W a zs):Ints m W a zs:=fun j hj=>by
 obtain ⟨b,off,e,hb,hc⟩:=hi j hj;exact ⟨b,off,e,by omega,hc⟩
theorem Ints.at {n:Nat} {W:World} {a:Option Addr} {zs:List Int} (hi:Ints n W a zs) (h:0 < zs.length) :
 ∃ b off,a = some ⟨b,off,none⟩∧b < n∧∀ j,j < zs.length→W.cell? ⟨b,off+j,none⟩ = some (.int .i64 (zs[j]?.getD 0)):=by
 obtain ⟨b,off,rfl,hb,_⟩:=hi 0 h;refine ⟨b,off,rfl,hb,fun j hj=>?_⟩;obtain ⟨b',off',e,_,hc⟩:=hi j hj;cases e;exact hc
theorem dx {W W':World} (h:Below W.heap.size W W'):W.grownBy W' none:=⟨h.os,h.tape,h.output,h.size,fun k hk _=>h.block k hk⟩
theorem fC {F:Fence} (hF:F = Fence.wide):F.round = none∧(∀ f,F.fn f)∧(∀ k:Nat,(F.depth.isSome = true→1≤k)) ∧
 (∀ {n:Nat} {P:Program} {f:FuncId} {args:Array Value} {w:World} {R:Ending→World→Prop},Calls P f args w R→CallsIn F n P f args w R):=by
 subst hF;exact ⟨rfl,fun _=>trivial,fun k h=>by simp [Fence.wide] at h,fun h=>callsIn_wide.2 h⟩
def Kept (n B:Nat) (W W':World):Prop:=Below n W W'∧W'.heap[B]? = W.heap[B]?
theorem Ry (F:Fence) (hF:F = Fence.wide) (n:Nat) (a:Option Addr) (len cap:Nat) (k:Int) (w:World) :
 CallsIn F n Tryz.prog 101 #[.slice a len cap,.int .i64 k] w fun e w'=>e = .returned (.func (.func 123) #[] #[.pointer (some ⟨w.heap.size+1,0,none⟩),.pointer (some ⟨w.heap.size,0,none⟩)]) ∧
  w' = (w.alloc (.cells #[.slice a len cap] 35)).alloc (.cells #[.int .i64 k] 3):=by
 have hro:F.round = none:=by subst hF;rfl
 have hfn:F.fn 101:=by subst hF;trivial
 refine callsIn_of_wp Tryz.func101 rfl hfn ?_ hro;simp only [Tryz.ntmps101,List.size_toArray,List.length_cons,List.length_nil,Nat.reduceAdd,Nat.reduceSub,Array.replicate_succ,Array.replicate_zero,List.push_toArray,List.append_toArray,List.nil_append,List.cons_append];gi_wp2
 go_ret;exact ⟨rfl,rfl⟩
theorem PI (F:Fence) (hF:F = Fence.wide) (n l Bk Bt n₀ k cap:Nat) (a:Option Addr) (zs:List Int) (hlen:zs.length≤30) (hk:k < zs.length)
 (hE:∀ (p:Nat) (W:World),k < p→p≤200→Ints n₀ W a zs→n₀≤W.heap.size→Calls Tryz.prog 69 #[.slice a zs.length cap,.int .i64 (p:Int)] W fun e W'=>e = .returned (.int .i64 (Tm.ai zs p:Int))∧Below W.heap.size W W')
 (J Jx:List (Nat × Nat)→World→Prop) (W:World) (hJ:AbidesFrom W.heap.size J)
 (hY:∀ pre x W,J pre W→pre.length < Tm.room (zs[k]?.getD 0)→YieldAt F (n - 1) Tryz.prog l #[.int .i64 (x.1:Int),.int .i64 (x.2:Int)] W fun e W' =>
   (e = .returned (.bool true)∧J (pre++[x]) W'∧Kept n₀ Bt W W')∨(e = .returned (.bool false)∧Jx (pre++[x]) W'))
 (hn₀:n₀≤W.heap.size) (oH:W.cell? ⟨Bk,0,none⟩ = some (.int .i64 (k:Int))) (XV:W.cell? ⟨Bt,0,none⟩ = some (.slice a zs.length cap)) (Rz:Bt < W.heap.size) (hI:Ints n₀ W a zs) (h0:J [] W) :
 CallsIn F n Tryz.prog 123 #[.func (.yield l) #[] #[],.pointer (some ⟨Bk,0,none⟩),.pointer (some ⟨Bt,0,none⟩)] W fun e W'=>(∃ v,e = .returned v) ∧
  ((∃ ys,ys = Tm.parts zs k (Tm.room (zs[k]?.getD 0))∧J ys W')∨(∃ pre,True∧Jx pre W')):=by
 obtain ⟨hro,hfn,hdd,jv⟩:=fC hF;clear hF;have Dt:=hfn 123;have aey:=hfn 124;have Li:=hfn 69;have hr2:=Tm.room_le (zs[k]?.getD 0);obtain ⟨b,off,rfl,hb,hc⟩:=hI.at (by omega);have hck:=hc k hk;have hkl:(k:Int) < (zs.length:Int):=by omega
 have hroom:∀ W,CallsIn F (n - 1) Tryz.prog 124 #[.int .i64 (zs[k]?.getD 0)] W fun e w'=>e = .returned (.int .i64 (Tm.room (zs[k]?.getD 0):Int))∧w' = W:=fun W=>jv (Rx _ W)
 generalize RA:Tm.room (zs[k]?.getD 0) = r at *;clear RA;generalize zs[k]?.getD 0 = s at *;have HY:=show Hid _ from hY
 have HE:=show Hid _ from hE
 clear hY hE hc;refine callsIn_of_wp Tryz.func123 rfl Dt ?_ hro;simp only [Tryz.ntmps123,List.size_toArray,List.length_cons,List.length_nil,Nat.reduceAdd,Nat.reduceSub,Array.replicate_succ,Array.replicate_zero,List.push_toArray,List.append_toArray,List.nil_append,List.cons_append];gi_wp2_with ((try refine ⟨hdd _,?_⟩);gi_at_call 124;refine (hroom _).mono ?_;rintro e W ⟨rfl,rfl⟩)
 gi_loopw [4,13] (fun p i wr=>∃ m:Nat,m≤r∧i = .int .i64 (m:Int)∧p = .int .i64 (Tm.pos zs k m:Int)∧J (Tm.parts zs k m) wr∧wr.heap[Bt]? = W.heap[Bt]?∧Below n₀ W wr∧W.heap.size≤wr.heap.size)
  (fun _ i _=>r - (intOf i).toNat)
 case atStart=>exact ⟨0,Nat.zero_le _,rfl,by rw [Tm.dB];rfl,h0,rfl,Below.refl _ _,Nat.le_refl _⟩
 case round =>
  obtain ⟨m,hm,rfl,rfl,hJs,hT,hnx,hsz⟩:=hrel;have hbt:wr.cell? ⟨Bt,0,none⟩ = some (.slice (some ⟨b,off,none⟩) zs.length cap):=(World.cell?_of_block (a:=⟨Bt,0,none⟩) hT).trans XV;by_cases hlt:m < r
  ·have hlt':(m:Int) < (r:Int):=by omega
   have h1:=(HE.out (Tm.pos zs k m) wr (Tm.jr _ _ _) (by have:=Tm.Rw zs k m;omega) (hI.below hnx) (by omega)).mono (R':=fun e W1=>e = .returned (.int .i64 (Tm.pos zs k (m+1):Int))∧YieldAt F (n - 1) Tryz.prog l #[.int .i64 (Tm.pos zs k m:Int),.int .i64 (Tm.pos zs k (m+1):Int)] W1 fun e W' =>
    (e = .returned (.bool true)∧J (Tm.parts zs k (m+1)) W'∧Below n₀ W W'∧W'.heap[Bt]? = W.heap[Bt]?∧W.heap.size≤W'.heap.size)∨(e = .returned (.bool false)∧∃ pre,Jx pre W'))
    (fun e W1 ⟨he,hB⟩=>⟨by rw [Tm.ed];exact he,by
      have hg:=dx hB;have XW:=hJ _ _ _ none hJs hg (fun r e=>by cases e);refine YieldAt.mono (HY.out _ (Tm.pos zs k m,Tm.pos zs k (m+1)) W1 XW (by rw [Tm.GM];exact hlt)) fun e W2 h=>h.elim (fun ⟨he,hj,hb2,Bu⟩=>.inl ⟨he,?_,?_,?_,?_⟩) (fun ⟨he,hx⟩=>.inr ⟨he,_,hx⟩)
      ·rw [Tm.Dq];exact hj
      ·exact (hnx.trans (hB.mono (by omega))).trans hb2
      ·exact Bu.trans ((hB.block Bt (by omega)).trans hT)
      ·have:=hB.size;have:=hb2.size;omega⟩)
   have h1':=jv (n:=n - 1) h1;clear h1;gi_wp2_with (first
    | ((try refine ⟨hdd _,?_⟩);gi_at_call 69;refine h1'.mono ?_;clear h1';rintro e W1 ⟨rfl,fn,tmps,assign,body,hy,hR⟩)
    | ((try refine ⟨hdd _,?_⟩);refine hR.mono ?_;clear hR;rintro e W2 (⟨rfl,hJ2,hb2,Bu,hs2⟩ | ⟨rfl,hx2⟩)))
   ·exact ⟨⟨m+1,by omega,by go_num,rfl,hJ2,Bu,hb2,hs2⟩,by simp [intOf];omega⟩
   ·obtain ⟨pre,hx2⟩:=hx2
    refine bodyPost_ret (results_none rfl _ _ _) rfl ?_;exact ⟨⟨_,rfl⟩,.inr ⟨pre,trivial,hx2⟩⟩
  ·obtain rfl:m = r:=by omega
   have hlt':¬ (m:Int) < (m:Int):=by omega
   gi_wp2
   go_end0
   exact ⟨⟨_,rfl⟩,.inl hJs⟩
theorem Js (F:Fence) (hF:F = Fence.wide) (n Bk Bt n₀ k cap:Nat) (a:Option Addr) (zs:List Int) (hlen:zs.length≤30) (hk:k < zs.length)
 (hE:∀ (p:Nat) (W:World),k < p→p≤200→Ints n₀ W a zs→n₀≤W.heap.size→Calls Tryz.prog 69 #[.slice a zs.length cap,.int .i64 (p:Int)] W fun e W'=>e = .returned (.int .i64 (Tm.ai zs p:Int))∧Below W.heap.size W W')
 (w:World) (hn₀:n₀≤w.heap.size) (aez:Bk < w.heap.size) (Rz:Bt < w.heap.size)
 (oH:w.cell? ⟨Bk,0,none⟩ = some (.int .i64 (k:Int))) (XV:w.cell? ⟨Bt,0,none⟩ = some (.slice a zs.length cap)) (hI:Ints n₀ w a zs) :
 SeqStopsK F n Tryz.prog 123 #[.pointer (some ⟨Bk,0,none⟩),.pointer (some ⟨Bt,0,none⟩)] (fun x:Nat × Nat=>#[Value.int .i64 (x.1:Int),Value.int .i64 (x.2:Int)]) (Kept n₀ Bt)
  (fun ys=>ys = Tm.parts zs k (Tm.room (zs[k]?.getD 0))) (fun _=>True) (Tm.room (zs[k]?.getD 0)) w:=fun l J Jx W hW hJ _ hY h0 =>
 PI F hF n l Bk Bt n₀ k cap a zs hlen hk hE J Jx W hJ hY (by have:=hW.size;omega) ((hW.cell (p:=⟨Bk,0,none⟩) aez).trans oH) ((hW.cell (p:=⟨Bt,0,none⟩) Rz).trans XV) (by have:=hW.size;omega) (hI.below (hW.mono hn₀)) h0
end
section
attribute [local go_sem] Oper.semAt_some
theorem RB {n B:Nat} {X Y Z:World} (h:Kept n B X Y) (k:Kept n B Y Z):Kept n B X Z:=⟨h.1.trans k.1,k.2.trans h.2⟩
theorem RD {n B:Nat} {w:World} (hn:n≤w.heap.size) (hB:B < w.heap.size) (W:World) (l:Nat) (o o':Obj) (hl:w.heap.size≤l) (h:W.heap[l]? = some o) (h1:o.isCells = false) (h2:o.isWalk = false):Kept n B W (W.putObj l o') :=
 ⟨belowK_b hn W l o o' hl h h1 h2,World.putObj_heap_other (by omega)⟩
theorem Ot (a:Option Addr) (len cap k:Nat) (w:World) (hk:len≤k) (hk2:k≤200) :
 Calls Tryz.prog 69 #[.slice a len cap,.int .i64 (k:Int)] w fun e w'=>e = .returned (.int .i64 ((k:Int)+1))∧Below w.heap.size w w':=by
 have h1:(len:Int)≤(k:Int):=by omega
 have h2:(k:Int)≤200:=by omega
 have h3:(0:Int)≤(k:Int):=by omega
 go_enter Tryz.func69,Tryz.ntmps69;go_wp2;go_ret;exact ⟨rfl,(Below.refl _ _).alloc (Nat.le_refl _) _⟩
theorem RF (a:Option Addr) (cap k:Nat) (zs:List Int) (w:World) (hlen:zs.length≤30) (hk:k < zs.length) (hI:Ints w.heap.size w a zs)
 (hE:∀ (p:Nat) (W:World),k < p→p≤200→Ints w.heap.size W a zs→w.heap.size≤W.heap.size→Calls Tryz.prog 69 #[.slice a zs.length cap,.int .i64 (p:Int)] W fun e W'=>e = .returned (.int .i64 (Tm.ai zs p:Int))∧Below W.heap.size W W') :
 Calls Tryz.prog 69 #[.slice a zs.length cap,.int .i64 (k:Int)] w fun e w'=>e = .returned (.int .i64 (Tm.ai zs k:Int))∧Below w.heap.size w w':=by
 obtain ⟨F,hF⟩:∃ F,F = Fence.wide:=⟨_,rfl⟩;refine (callsIn_wide (n:=3)).1 ?_;rw [← hF];obtain ⟨hro,hfn,hdd,jv⟩:=fC hF;have HF:Hid (F = Fence.wide):=hF;have HE:=show Hid _ from hE
 clear hF hE;have Li:=hfn 69;have aeA:=hfn 101;have Dt:=hfn 123;have hlt:(k:Int) < (zs.length:Int):=by omega
 have jD:(zs.length:Int)≤30:=by omega
 have hk0:(0:Int)≤(k:Int):=by omega
 rw [Tm.nN zs k hk];refine callsIn_of_wp_marks Tryz.func69 rfl Li ?_ hro;simp only [Tryz.ntmps69,List.size_toArray,List.length_cons,List.length_nil,Nat.reduceAdd,Nat.reduceSub,Array.replicate_succ,Array.replicate_zero,List.push_toArray,List.append_toArray,List.nil_append,List.cons_append];gi_wp2_with ((try refine ⟨hdd _,?_⟩);gi_at_call 101;refine (Ry F HF.out _ _ _ _ _ _).mono ?_;rintro e w' ⟨rfl,rfl⟩)
 have bE:=Boxed.new w 3 (.int .i64 ((k:Int)+1));have bT:=Boxed.new (w.alloc (.cells #[.int .i64 ((k:Int)+1)] 3)) 35 (.slice a zs.length cap);have bK:=Boxed.new ((w.alloc (.cells #[.int .i64 ((k:Int)+1)] 3)).alloc (.cells #[.slice a zs.length cap] 35)) 3 (.int .i64 (k:Int));rw [World.size_alloc] at bT;rw [World.size_alloc,World.size_alloc] at bK;have hB0:Below w.heap.size w (((w.alloc (.cells #[.int .i64 ((k:Int)+1)] 3)).alloc (.cells #[.slice a zs.length cap] 35)).alloc (.cells #[.int .i64 (k:Int)] 3)):=(((Below.refl _ w).alloc (Nat.le_refl _) _).alloc (by simp) _).alloc (by simp;omega) _;refine wpIn_rangeFunc_ownG hro (by omega) (gf:=123) (lb:=#[.pointer (some ⟨w.heap.size+1+1,0,none⟩),.pointer (some ⟨w.heap.size+1,0,none⟩)]) rfl Dt (enters_of Tryz.func123 (by kernel_rfl) rfl)
  (Js F HF.out _ (w.heap.size+1+1) (w.heap.size+1) w.heap.size k cap a zs hlen hk HE.out _ (by simp;omega) (by simp) (by simp) bK.cell (bT.alloc _).cell (hI.below hB0)) RB (RD (by simp;omega) (by simp)) (Below.refl _ _) (fun _=>rfl)
  (fun pre W=>(W.cell? ⟨w.heap.size,0,none⟩ = some (.int .i64 (Tm.yE k pre:Int))∧W.frozen? ⟨w.heap.size,0,none⟩ = false)∧Below w.heap.size w W)
  (fun _ _ _=>False)
  (OwnFrom.and (Own.from (fun s X Y row hs hg hr=>⟨cell_kept hs.1 hg hr,(frozen_kept hs.1 hg hr).trans hs.2⟩) _) (ownFrom_below (Nat.le_refl _) (by simp;omega)))
  (fun _ _ _ _ _ hs _ _=>hs)
  ⟨⟨((bE.alloc _).alloc _).cell,((bE.alloc _).alloc _).frozen⟩,hB0⟩
  (fun x=>{ tmps:=#[.slice a zs.length cap,.int .i64 (k:Int),undef,undef,.int .i64 0,.pointer (some ⟨w.heap.size,0,none⟩),undef,.int .i64 (x.2:Int),.int .i64 (k:Int),.int .i64 ((k:Int)+1),.int .i64 (k:Int),.slice a zs.length cap,
    .int .i64 (zs.length:Int),.bool false,undef,.slice a zs.length cap,.int .i64 (k:Int),.func (.func 123) #[] #[.pointer (some ⟨w.heap.size+1+1,0,none⟩),.pointer (some ⟨w.heap.size+1,0,none⟩)],.int .i64 (x.1:Int),.int .i64 (x.2:Int),undef,undef],defers:=[] }) ?assign ?body ?done ?stop
 case assign =>
  intro l x W K hK;gi_wp2
  exact hK
 case body =>
  rintro l pre x W ⟨⟨hc,hf⟩,hB⟩ _;gi_wp2
  exact ⟨(KeepsOthers.setCell _ _ _).from _,⟨(Below.refl w.heap.size W).setCell (p:=⟨w.heap.size,0,none⟩) (Nat.le_refl _) _,Below.heap_setCell W ⟨w.heap.size,0,none⟩ _ _ (by simp)⟩,
   ⟨by rw [Tm.yF];exact World.cell?_setCell_same' _ _ _ (by rw [hc];rfl),by rw [World.frozen?_setCell];exact hf⟩,hB.setCell (p:=⟨w.heap.size,0,none⟩) (Nat.le_refl _) _⟩
 case done =>
  rintro D ys W hD rfl ⟨⟨hc,_⟩,hB⟩ hK;rw [Tm.Fp] at hc;gi_wp2
  refine ⟨by simp,.inl ⟨_,_,rfl,run_takeDeferred hK,?_⟩⟩;exact ⟨_,results_tmp rfl _ _ _,by simp [hk],hB.trans (belowK_b (w:=w) (Nat.le_refl _) W D _ _ (by simp at hD;omega) hK rfl rfl)⟩
 case stop =>
  rintro D c pre W _ _ h _;exact h.elim
theorem Vl (zs:List Int) (hlen:zs.length≤30) (a:Option Addr) (cap:Nat):∀ (m k:Nat),zs.length - k≤m→k≤200→∀ w:World,Ints w.heap.size w a zs →
 Calls Tryz.prog 69 #[.slice a zs.length cap,.int .i64 (k:Int)] w fun e w'=>e = .returned (.int .i64 (Tm.ai zs k:Int))∧Below w.heap.size w w':=by
 intro m;induction m with
 | zero =>
  intro k hm hk w hI;rw [Tm.nM zs k (by omega)];exact Ot a zs.length cap k w (by omega) hk
 | succ m ih =>
  intro k hm hk w hI;by_cases hlt:k < zs.length
  ·exact RF a cap k zs w hlen hlt hI (fun p W h1 h2 h3 h4=>ih p (by omega) h2 W (h3.mono h4))
  ·rw [Tm.nM zs k (by omega)]
   exact Ot a zs.length cap k w (by omega) hk
theorem qV (zs:List Int) (hlen:zs.length≤30) (a:Option Addr) (cap k:Nat) (hk:k≤200) (w:World) (hI:Ints w.heap.size w a zs) :
 Calls Tryz.prog 69 #[.slice a zs.length cap,.int .i64 (k:Int)] w fun e w'=>e = .returned (.int .i64 (Tm.ai zs k:Int))∧Below w.heap.size w w' :=
 Vl zs hlen a cap _ k (Nat.le_refl _) hk w hI
end
theorem Tm.Du {zs:List Int} (h:30 < zs.length):Tm.err zs = 2:=by simp [Tm.err,h]
theorem Tm.FU {zs:List Int} (h:zs.length≤30) {k:Nat} (hk:k < zs.length) (hs:Tm.known (zs[k]?.getD 0) = false):Tm.err zs = 3:=by
 have:zs.all Tm.known = false:=by
  rw [List.all_eq_false];exact ⟨zs[k],List.getElem_mem hk,by simpa [hk] using hs⟩
 simp only [Tm.err,this];rw [if_neg (by omega)];rfl
theorem Tm.oJ {zs:List Int} (h:zs.length≤30) (ha:zs.all Tm.known = true) (hr:Tm.run zs 1 = zs.length):Tm.err zs = 0:=by
 simp only [Tm.err,ha,hr];rw [if_neg (by omega)];rfl
theorem Tm.Dv {zs:List Int} (h:zs.length≤30) (ha:zs.all Tm.known = true) (hr:Tm.run zs 1≠zs.length):Tm.err zs = 1:=by
 simp only [Tm.err,ha];rw [if_neg (by omega),if_neg (by simp),if_neg hr]
theorem Tm.Jt {zs:List Int} {k:Nat} (hk:k < zs.length) (h:(zs.take k).all Tm.known = true) (hs:Tm.known (zs[k]?.getD 0) = true):(zs.take (k+1)).all Tm.known = true:=by
 rw [List.take_succ_eq_append_getElem hk,List.all_append,h];simpa [hk] using hs
theorem Tm.iq (zs:List Int):Tm.ai zs 0 = Tm.run zs 1:=by simp [Tm.ai]
theorem Ju (zs:List Int) (hlen:zs.length≤30) (a:Option Addr) (cap:Nat) (w:World) (hI:Ints w.heap.size w a zs) :
 Calls Tryz.prog 69 #[.slice a zs.length cap,.int .i64 0] w fun e w'=>e = .returned (.int .i64 (Tm.run zs 1:Int))∧Below w.heap.size w w':=by
 have h:=qV zs hlen a cap 0 (by omega) w hI;rw [Tm.iq] at h;exact h
theorem Lj (len:Nat) (a:Option Addr) (cap:Nat) (w:World) (hlen:30 < len) :
 Calls Tryz.prog 49 #[.slice a len cap] w fun e w'=>e = .returned (.int .i64 2)∧Below w.heap.size w w':=by
 have h1:(30:Int) < (len:Int):=by omega
 go_enter Tryz.func49,Tryz.ntmps49;go_wp2;go_ret;exact ⟨rfl,Below.refl _ _⟩
theorem PK (zs:List Int) (hlen:zs.length≤30) (a:Option Addr) (cap:Nat) (w:World) (hI:Ints w.heap.size w a zs) :
 Calls Tryz.prog 49 #[.slice a zs.length cap] w fun e w'=>e = .returned (.int .i64 (Tm.err zs))∧Below w.heap.size w w':=by
 have h1:(zs.length:Int)≤30:=by omega
 go_enter Tryz.func49,Tryz.ntmps49;go_wp2;go_loop [10] (fun i=>∃ k:Nat,k≤zs.length∧i = .int .i64 (k:Int)∧(zs.take k).all Tm.known = true) (fun i=>zs.length - (intOf i).toNat)
 case atStart=>exact ⟨0,Nat.zero_le _,rfl,by simp⟩
 case round =>
  obtain ⟨k,hk,rfl,hall⟩:=hrel;by_cases hlt:k < zs.length
  ·have hlt':(k:Int) < (zs.length:Int):=by omega
   obtain ⟨b,off,rfl,hb,hc⟩:=hI.at (by omega);have hck:=hc k hlt;have hsn:=Tm.Jt hlt hall;have her:=Tm.FU hlen hlt;clear hc hI hall;generalize zs[k]?.getD 0 = s at *;cases hkn:Tm.known s with
   | true =>
    have XX:=show Hid _ from hsn hkn
    clear hsn her;go_wp2_with (go_at_call 68;refine (FT _ _).mono ?_;rw [hkn];rintro e w ⟨rfl,rfl⟩)
    go_round
    case rel=>exact ⟨k+1,by omega,by go_num,XX.out⟩
    case measure=>simp [intOf];omega
   | false =>
    have XY:=show Hid _ from her hkn
    clear hsn her;go_wp2_with (go_at_call 68;refine (FT _ _).mono ?_;rw [hkn];rintro e w ⟨rfl,rfl⟩)
    go_ret;exact ⟨by rw [XY.out];rfl,Below.refl _ _⟩
  ·obtain rfl:k = zs.length:=by omega
   rw [List.take_length] at hall;by_cases hr:Tm.run zs 1 = zs.length
   ·have he:=show Hid _ from Tm.oJ hlen hall hr
    have hne:((Tm.run zs 1:Int) != (zs.length:Int)) = false:=by simp [hr]
    have hE:=Ju zs hlen a cap w hI;clear hall hr hI;generalize Tm.run zs 1 = q at *;go_wp2_with (go_at_call 69;refine hE.mono ?_;clear hE;rintro e w1 ⟨rfl,hB⟩)
    go_ret;exact ⟨by rw [he.out];rfl,hB⟩
   ·have he:=show Hid _ from Tm.Dv hlen hall hr
    have hne:((Tm.run zs 1:Int) != (zs.length:Int)) = true:=by simp;omega
    have hE:=Ju zs hlen a cap w hI;clear hall hr hI;generalize Tm.run zs 1 = q at *;go_wp2_with (go_at_call 69;refine hE.mono ?_;clear hE;rintro e w1 ⟨rfl,hB⟩)
    go_ret;exact ⟨by rw [he.out];rfl,hB⟩
theorem dZ (zs:List Int) (a:Option Addr) (cap:Nat) (w:World) (hI:Ints w.heap.size w a zs) :
 Calls Tryz.prog 49 #[.slice a zs.length cap] w fun e w'=>e = .returned (.int .i64 (Tm.err zs))∧Below w.heap.size w w':=by
 by_cases h:zs.length≤30
 ·exact PK zs h a cap w hI
 ·rw [Tm.Du (by omega)]
  exact Lj _ a cap w (by omega)
theorem yH (s:Int):eZ s (-8) 5 = Tm.known s:=by
 unfold eZ Tm.known;congr 1;simp only [decide_eq_decide];omega
theorem Tm.gK {s:Int} (h:Tm.known s = true):s < 6:=by simp [Tm.known] at h;omega
theorem Tm.iK {s:Int} (h:Tm.known s = true):-8≤s:=by simp [Tm.known] at h;omega
theorem Tm.lq {zs:List Int} (h:zs.all Tm.known = true) {k:Nat} (hk:k < zs.length):Tm.known (zs[k]?.getD 0) = true:=by
 rw [List.all_eq_true] at h;simpa [hk] using h zs[k] (List.getElem_mem hk)
theorem Tm.yI {zs:List Int} {k o:Nat} (hk:k < zs.length):Tm.run (zs.drop k) (o+1) = 1+Tm.run (zs.drop (k+1)) (o+Tm.room (zs[k]?.getD 0)):=by
 rw [List.drop_eq_getElem_cons hk,Tm.bU];simp [hk]
theorem Dw (len:Nat) (a:Option Addr) (cap:Nat) (w:World) (hlen:30 < len) :
 Calls Tryz.prog 14 #[.slice a len cap] w fun e w'=>e = .returned (.int .i64 2)∧w' = w:=by
 have h1:(30:Int) < (len:Int):=by omega
 go_enter Tryz.func14,Tryz.ntmps14;go_wp2;go_ret;exact ⟨rfl,rfl⟩
theorem Fq (zs:List Int) (hlen:zs.length≤30) (a:Option Addr) (cap:Nat) (w:World) (hI:Ints w.heap.size w a zs) :
 Calls Tryz.prog 14 #[.slice a zs.length cap] w fun e w'=>e = .returned (.int .i64 (Tm.err zs))∧w' = w:=by
 have h1:(zs.length:Int)≤30:=by omega
 go_enter Tryz.func14,Tryz.ntmps14;go_wp2;go_loop [3] (fun i=>∃ k:Nat,k≤zs.length∧i = .int .i64 (k:Int)∧(zs.take k).all Tm.known = true) (fun i=>zs.length - (intOf i).toNat)
 case atStart=>exact ⟨0,Nat.zero_le _,rfl,by simp⟩
 case round =>
  obtain ⟨k,hk,rfl,hall⟩:=hrel;by_cases hlt:k < zs.length
  ·have hlt':(k:Int) < (zs.length:Int):=by omega
   obtain ⟨b,off,rfl,hb,hc⟩:=hI.at (by omega);have hck:=hc k hlt;have hsn:=Tm.Jt hlt hall;have her:=Tm.FU hlen hlt;clear hc hI hall;generalize zs[k]?.getD 0 = s at *;cases hkn:Tm.known s with
   | true =>
    have XX:=show Hid _ from hsn hkn
    clear hsn her;go_wp2_with (go_at_call 42;refine (Dr _ _ _ _).mono ?_;rw [yH,hkn];rintro e w ⟨rfl,rfl⟩)
    go_round
    case rel=>exact ⟨k+1,by omega,by go_num,XX.out⟩
    case measure=>simp [intOf];omega
   | false =>
    have XY:=show Hid _ from her hkn
    clear hsn her;go_wp2_with (go_at_call 42;refine (Dr _ _ _ _).mono ?_;rw [yH,hkn];rintro e w ⟨rfl,rfl⟩)
    go_ret;exact ⟨by rw [XY.out];rfl,rfl⟩
  ·obtain rfl:k = zs.length:=by omega
   rw [List.take_length] at hall;have nH:=show Hid _ from hall
   clear hall;go_wp2;go_loop [4,5] (fun o i=>∃ k n:Nat,k≤zs.length∧n≤k+1∧i = .int .i64 (k:Int)∧o = .int .i64 (n:Int)∧Tm.run zs 1 = k+Tm.run (zs.drop k) n) (fun _ i=>zs.length - (intOf i).toNat)
   case atStart=>exact ⟨0,1,Nat.zero_le _,by omega,rfl,rfl,by simp⟩
   case round =>
    obtain ⟨k,n,hk,hn,rfl,rfl,hrun⟩:=hrel;have XZ:=show Hid _ from hrun
    clear hrun;by_cases hlt:k < zs.length
    ·have hlt':(k:Int) < (zs.length:Int):=by omega
     by_cases hn0:n = 0
     ·subst hn0
      have he:=show Hid _ from Tm.Dv hlen nH.out (by rw [XZ.out,Tm.cZ];omega)
      clear hI;go_wp2;go_ret;exact ⟨by rw [he.out];rfl,rfl⟩
     ·obtain ⟨m,rfl⟩:∃ m,n = m+1:=⟨n - 1,by omega⟩
      have aeB:(((m+1:Nat):Int) == 0) = false:=by simp;omega
      obtain ⟨b,off,rfl,hb,hc⟩:=hI.at (by omega);have hck:=hc k hlt;have hs6:=Tm.gK (Tm.lq nH.out hlt);have hst:=show Hid _ from Tm.yI (o:=m) hlt
      have hr2:=Tm.room_le (zs[k]?.getD 0);clear hc hI;generalize zs[k]?.getD 0 = s at *;have hsz:=yG s w hs6;generalize Tm.room s = r at *;go_wp2_with (go_at_call 43;refine hsz.mono ?_;clear hsz;rintro e w ⟨rfl,rfl⟩)
      go_round
      case rel=>exact ⟨k+1,m+r,by omega,by omega,by go_num,by go_num,by rw [XZ.out,hst.out];omega⟩
      case measure=>simp [intOf];omega
    ·obtain rfl:k = zs.length:=by omega
     have hrn:Tm.run zs 1 = zs.length+n:=by rw [XZ.out,List.drop_length,Tm.jJ]
     by_cases hn0:n = 0
     ·subst hn0
      have he:=show Hid _ from Tm.oJ hlen nH.out (by omega)
      clear hI hrn;go_wp2;go_ret;exact ⟨by rw [he.out];rfl,rfl⟩
     ·have he:=show Hid _ from Tm.Dv hlen nH.out (by omega)
      have aeB:((n:Int) != 0) = true:=by simp;omega
      clear hI hrn;go_wp2;go_ret;exact ⟨by rw [he.out];rfl,rfl⟩
theorem kE (zs:List Int) (a:Option Addr) (cap:Nat) (w:World) (hI:Ints w.heap.size w a zs) :
 Calls Tryz.prog 14 #[.slice a zs.length cap] w fun e w'=>e = .returned (.int .i64 (Tm.err zs))∧w' = w:=by
 by_cases h:zs.length≤30
 ·exact Fq zs h a cap w hI
 ·rw [Tm.Du (by omega)]
  exact Dw _ a cap w (by omega)
def dK (xs ys:List Int):Bool:=decide (xs = ys)
theorem j3 {zs:List Int} {k:Nat} (h:k < zs.length):zs.take (k+1) = zs.take k++[zs[k]?.getD 0]:=by
 rw [List.take_succ_eq_append_getElem h];simp [h]
theorem Bz {xs ys:List Int} {k:Nat} (hx:k < xs.length) (hy:k < ys.length) (h:xs.take k = ys.take k) (he:xs[k]?.getD 0 = ys[k]?.getD 0):xs.take (k+1) = ys.take (k+1):=by
 rw [j3 hx,j3 hy,h,he]
theorem Dx {xs ys:List Int} {k:Nat} (he:xs[k]?.getD 0≠ys[k]?.getD 0):dK xs ys = false:=by
 simp only [dK,decide_eq_false_iff_not];rintro rfl;exact he rfl
theorem Dy {xs ys:List Int} (h:xs.length≠ys.length):dK xs ys = false:=by
 simp only [dK,decide_eq_false_iff_not];rintro rfl;exact h rfl
theorem Dz {xs ys:List Int} (h:xs.take xs.length = ys.take xs.length) (hl:xs.length = ys.length):dK xs ys = true:=by
 simp only [dK,decide_eq_true_eq];rw [List.take_length,hl,List.take_length] at h;exact h
theorem nO (xs ys:List Int) (a b:Option Addr) (ca cb:Nat) (w:World) (hX:Ints w.heap.size w a xs) (hY:Ints w.heap.size w b ys) (hm:xs.length≤maxLen) :
 Calls Tryz.prog 25 #[.slice a xs.length ca,.slice b ys.length cb] w fun e w'=>e = .returned (.bool (dK xs ys))∧Below w.heap.size w w':=by
 unfold maxLen at hm;by_cases hl:xs.length = ys.length
 ·have hne:((xs.length:Int) != (ys.length:Int)) = false:=by simp [hl]
  have Hl:Hid (xs.length = ys.length):=hl;clear hl;go_enter Tryz.func25,Tryz.ntmps25;go_wp2;go_loopw [5] (fun i wr=>∃ k:Nat,k≤xs.length∧i = .int .i64 (k:Int)∧Hid (xs.take k = ys.take k)∧Below w.heap.size w wr) (fun i _=>xs.length - (intOf i).toNat)
  case atStart=>exact ⟨0,Nat.zero_le _,rfl,by simp [Hid],Below.refl _ _⟩
  case round =>
   obtain ⟨k,hk,rfl,hsame,hB⟩:=hrel;by_cases hlt:k < xs.length
   ·have hlt':(k:Int) < (xs.length:Int):=by omega
    have Ll:k < ys.length:=by have:=Hl.out;omega
    have X0:(k:Int) < (ys.length:Int):=by omega
    obtain ⟨b1,X3,rfl,hb1,hc1⟩:=(hX.below hB).at (by omega);obtain ⟨b2,RG,rfl,hb2,hc2⟩:=(hY.below hB).at (by omega);have hx:=hc1 k hlt;have hy:=hc2 k Ll;have hst:=show Hid _ from @Bz xs ys k hlt Ll hsame.out
    have hno:=show Hid _ from @Dx xs ys k
    clear hc1 hc2 hX hY Ll;generalize xs[k]?.getD 0 = s at *;generalize ys[k]?.getD 0 = u at *;by_cases he:s = u
    ·have hn:(s != u) = false:=by simp [he]
     have He:Hid (s = u):=he;clear he hno;go_wp2;go_quiet (fail)
     go_wp2;go_roundw
     case rel=>exact ⟨k+1,by omega,by go_num,hst.out He.out,below_drewN hB _⟩
     case measure=>simp [intOf];omega
    ·have hn:(s != u) = true:=by simp [he]
     have hf:=show Hid _ from hno.out he
     clear he hno hst;go_wp2;go_quiet (fail)
     go_wp2;go_ret;exact ⟨by rw [hf.out];rfl,below_drewN hB _⟩
   ·obtain rfl:k = xs.length:=by omega
    have hy:=show Hid _ from Dz hsame.out Hl.out
    clear hX hY;go_wp2;go_ret;exact ⟨by rw [hy.out];rfl,hB⟩
 ·have hne:((xs.length:Int) != (ys.length:Int)) = true:=by simp;omega
  rw [Dy hl];clear hl hX hY;go_enter Tryz.func25,Tryz.ntmps25;go_wp2;go_ret;exact ⟨rfl,Below.refl _ _⟩
theorem Tm.aI {zs:List Int} (h:Tm.err zs = 0):zs.length≤30:=by
 by_cases jD:30 < zs.length
 ·rw [Tm.Du jD] at h;omega
 ·omega
theorem Tm.dH {zs:List Int} (h:Tm.err zs = 0):zs.all Tm.known = true:=by
 have hl:=Tm.aI h;unfold Tm.err at h;rw [if_neg (by omega)] at h;by_cases ha:zs.all Tm.known = false
 ·rw [if_pos ha] at h;omega
 ·simpa using ha
theorem Tm.eT {zs:List Int} (h:Tm.err zs = 0):Tm.run zs 1 = zs.length:=by
 have hl:=Tm.aI h;have ha:=Tm.dH h;unfold Tm.err at h;rw [if_neg (by omega),if_neg (by simp [ha])] at h;by_cases hr:Tm.run zs 1 = zs.length
 ·exact hr
 ·rw [if_neg hr] at h;omega
theorem Tryz.GN:(Tryz.prog.info? 117).map (fun i=>(i.zero,i.size,i.bytes)) = some (some (.pointer none),1,8):=by kernel_rfl
def Node (W:World) (X:Nat) (s:Int) (v:Value):Prop:=W.heap[X]? = some (.cells #[.int .i64 s,v] 121 (0,0))
theorem Node.cell0 {W:World} {X:Nat} {s:Int} {v:Value} (h:Node W X s v):W.cell? ⟨X,0,none⟩ = some (.int .i64 s):=by simp [World.cell?,show W.heap[X]? = _ from h]
theorem Node.cell1 {W:World} {X:Nat} {s:Int} {v:Value} (h:Node W X s v):W.cell? ⟨X,1,none⟩ = some v:=by simp [World.cell?,show W.heap[X]? = _ from h]
theorem Node.frozen {W:World} {X:Nat} {s:Int} {v:Value} (h:Node W X s v):W.frozen? ⟨X,1,none⟩ = false:=by simp [World.frozen?,show W.heap[X]? = _ from h]
theorem Node.lt {W:World} {X:Nat} {s:Int} {v:Value} (h:Node W X s v):X < W.heap.size:=(Array.getElem?_eq_some_iff.1 h).1
theorem Node.kept {W W':World} {row:Option Nat} {X:Nat} {s:Int} {v:Value} (h:Node W X s v) (hg:W.grownBy W' row) (hne:some X≠row):Node W' X s v:=(hg.block X h.lt hne).trans h
theorem Node.set {W:World} {X:Nat} {s:Int} {v:Value} (v':Value) (h:Node W X s v):Node (W.setCell ⟨X,1,none⟩ v') X s v':=by
 obtain ⟨hlt,hk⟩:=Array.getElem?_eq_some_iff.1 h;show (W.heap.modify X _)[X]? = _;rw [Array.getElem?_eq_getElem (by rw [Array.size_modify];exact hlt),Array.getElem_modify_self,hk];rfl
theorem dz (W:World) (b o:Nat) (v:Value):W.grownBy (W.setCell ⟨b,o,none⟩ v) (some b) :=
 ⟨rfl,rfl,rfl,(KeepsWalks.setCell W _ v).size,fun k _ hk=>Below.heap_setCell _ _ _ k (fun e=>hk (by rw [e]))⟩
theorem Node.appended {W w2:World} {X:Nat} {s:Int} {v v':Value} {e:TypeId} {n m:Nat} {xs ys:List Value} {tmp:Obj}
 (hN:Node W X s v) (hrow:W.ownsRow (X+1) e 1 v n xs) (hown:w2.ownsRow (X+1) e 1 v' m ys) (hgrow:(W.alloc tmp).grownBy w2 v.ownBlock) :
 Node w2 X s v∧Node (w2.setCell ⟨X,1,none⟩ v') X s v'∧(w2.setCell ⟨X,1,none⟩ v').ownsRow (X+1) e 1 v' m ys∧Below X W (w2.setCell ⟨X,1,none⟩ v'):=by
 have h1:∀ k,v.ownBlock = some k→X+1≤k:=fun k h=>(hrow.lt k h).1
 have h2:∀ k,v'.ownBlock = some k→X+1≤k:=fun k h=>(hown.lt k h).1
 have eH:Node w2 X s v:=(hN.kept (World.grownBy_alloc W tmp none) (by simp)).kept hgrow (fun e=>by have:=h1 X e.symm;omega);refine ⟨eH,eH.set v',hown.kept (dz w2 X 1 v') (.inr fun e=>by have:=h2 X e;omega),?_⟩;have hX:=hN.lt;exact (((Below.refl X W).alloc (by omega) tmp).grown hgrow (by simp;omega) (fun k e=>by have:=h1 k e;omega)).setCell (p:=⟨X,1,none⟩) (Nat.le_refl _) v'
theorem Jv {W:World} {base:Nat} {e:TypeId} {v:Value} {n:Nat} {xs:List Value} (h:W.ownsRow base e 1 v n xs):∃ ao c,v = .slice ao n c:=by
 rcases h.2 with ⟨rfl,rfl⟩ | ⟨g,cap,_,rfl,_⟩
 ·exact ⟨_,_,rfl⟩
 ·exact ⟨_,_,rfl⟩
theorem Tm.mD (t:List Int) (k i j:Nat) (h:i≤j):Tm.pos t k i≤Tm.pos t k j:=by
 induction j with
 | zero=>have:i = 0:=by omega
         subst this;omega
 | succ j ih =>
  by_cases e:i = j+1
  ·subst e;omega
  ·have:=ih (by omega);rw [Tm.ed];have:=Tm.dw t (Tm.pos t k j);omega
theorem Ints.drop {n:Nat} {W:World} {b off:Nat} {zs:List Int} (h:Ints n W (some ⟨b,off,none⟩) zs) (e:Nat):Ints n W (some ⟨b,off+e,none⟩) (zs.drop e):=fun j hj=>by
 rw [List.length_drop] at hj;obtain ⟨b',off',he,hb,hc⟩:=h (e+j) (by omega);cases he;refine ⟨b,off+e,rfl,hb,?_⟩;rw [show off+e+j = off+(e+j) from by omega,hc];simp
theorem Ints.nil (n:Nat) (W:World) (a:Option Addr):Ints n W a []:=fun j hj=>by simp at hj
theorem Lm (zs:List Int) (a:Option Addr) (cap:Nat) (w:World) (hlen:zs.length≤30) (h0:0 < zs.length) (hall:zs.all Tm.known = true) (hrun:Tm.run zs 1≤zs.length) (hcap:zs.length≤cap) (hcap2:cap≤maxLen)
 (hI:Ints w.heap.size w a zs)
 (ih:∀ (e:Nat) (a':Option Addr) (cap':Nat) (W:World),0 < e→e < zs.length→Tm.run (zs.drop e) 1≤zs.length - e→zs.length - e≤cap'→cap'≤maxLen→Ints W.heap.size W a' (zs.drop e) →
   Calls Tryz.prog 110 #[.slice a' (zs.length - e) cap'] W fun r w'=>∃ p a2 c2,r = .returned (.tuple #[.pointer p,.slice a2 (zs.length - Tm.ai zs e) c2])∧Below W.heap.size W w'∧(∀ n X,Ints n X a' (zs.drop e)→Ints n X a2 (zs.drop (Tm.ai zs e)))∧zs.length - Tm.ai zs e≤c2∧c2≤maxLen) :
 Calls Tryz.prog 110 #[.slice a zs.length cap] w fun r w'=>∃ p a2 c2,r = .returned (.tuple #[.pointer p,.slice a2 (zs.length - Tm.run zs 1) c2])∧Below w.heap.size w w'∧(∀ n X,Ints n X a zs→Ints n X a2 (zs.drop (Tm.run zs 1)))∧zs.length - Tm.run zs 1≤c2∧c2≤maxLen:=by
 have abm:cap≤9223372036854775807:=hcap2;obtain ⟨b,off,rfl,hb,hc⟩:=hI.at h0;have hc0:=hc 0 h0;rw [Nat.add_zero] at hc0;have h1:(0:Int) < (zs.length:Int):=by omega
 have jD:(zs.length:Int)≤30:=by omega
 have h2:(zs.length:Int)≤(cap:Int):=by omega
 have hend:=Tm.nN zs 0 h0;rw [Tm.iq] at hend;rw [hend] at hrun ⊢;have hs6:=Tm.gK (Tm.lq hall h0);have hr2:=Tm.room_le (zs[0]?.getD 0);have hI':=show Hid _ from hI
 have ih':=show Hid _ from ih
 clear hc hI hend hall ih;generalize zs[0]?.getD 0 = s at *;have hsz:∀ W,Calls Tryz.prog 43 #[.int .i64 s] W fun e w'=>e = .returned (.int .i64 (Tm.room s:Int))∧w' = W:=fun W=>yG s W hs6
 clear hs6;generalize Tm.room s = r at *;obtain ⟨i0,hi,hz0,hz1,hz2⟩:=info_parts Tryz.GN;have mY:Node (w.alloc (.cells #[.int .i64 s,.slice none 0 0] 121)) w.heap.size s (.slice none 0 0):=World.alloc_heap_new w _;have hB0:Below w.heap.size w (w.alloc (.cells #[.int .i64 s,.slice none 0 0] 121)):=(Below.refl _ w).alloc (Nat.le_refl _) _;obtain ⟨W0,hW0⟩:∃ W0,w.alloc (.cells #[.int .i64 s,.slice none 0 0] 121) = W0:=⟨_,rfl⟩;rw [hW0] at mY hB0;have HW0:Hid (w.alloc (.cells #[.int .i64 s,.slice none 0 0] 121) = W0):=hW0;clear hW0;by_cases hc1:cap = 1
 ·subst hc1
  have hl1:zs.length = 1:=by omega
  have hr0:r = 0:=by have:=Tm.mD zs 0 1 r;have h:=Tm.ed zs 0 0;rw [Nat.zero_add] at h;have:=Tm.dw zs (Tm.pos zs 0 0);have:=Tm.dB zs 0;omega
  subst hr0;rw [Tm.dB];go_enter Tryz.func110,Tryz.ntmps110;go_wp2;rw [HW0.out];have hn0:=mY.cell0;have HN:=show Hid _ from mY
  clear mY hl1;refine wp_loop_rounds 1 ?_;rw [rounds_succ];go_wp2_with (go_at_call 43;refine (hsz _).mono ?_;rintro e wr ⟨rfl,rfl⟩)
  go_ret2
  refine ⟨some ⟨w.heap.size,0,none⟩,some ⟨b,off,none⟩,0,?_,hB0,fun n X hX=>by rw [List.drop_of_length_le (by omega)];exact Ints.nil _ _ _,by omega,by unfold maxLen;omega⟩;rw [show zs.length - (0+1) = 0 from by omega];rfl
 ·have Hc1:Hid (¬ cap = 1):=hc1
  go_enter Tryz.func110,Tryz.ntmps110;go_wp2;rw [HW0.out];go_loopw [5,6] (fun q i wr=>∃ (m:Nat) (a':Option Addr) (c':Nat) (v:Value) (xs:List Value),m≤r∧i = .int .i64 (m:Int)∧q = .slice a' (zs.length - Tm.pos zs 0 m) c'∧Hid (∀ n X,Ints n X (some ⟨b,off,none⟩) zs→Ints n X a' (zs.drop (Tm.pos zs 0 m)))∧zs.length - Tm.pos zs 0 m≤c'∧c'≤maxLen ∧
   Node wr w.heap.size s v∧wr.ownsRow (w.heap.size+1) 117 1 v m xs∧Below w.heap.size w wr) (fun _ i _=>r - (intOf i).toNat)
  case atStart=>exact ⟨0,_,_,_,[],Nat.zero_le _,rfl,by rw [Tm.dB],fun n X hX=>by rw [Tm.dB];exact hX.drop 1,by rw [Tm.dB];omega,by unfold maxLen;omega,mY,World.ownsRow_nil _ _ _ _,hB0⟩
  case round =>
   obtain ⟨m,a',c',v,xs,hm,rfl,rfl,X4,Db,GQ,hN,hown,hB⟩:=hrel;have hn0:=hN.cell0;by_cases hlt:m < r
   ·have hlt':(m:Int) < (r:Int):=by omega
    have hp1:=Tm.jr zs 0 m;have hp2:=Tm.ed zs 0 m;have hp3:=Tm.mD zs 0 (m+1) r (by omega);have hp4:=Tm.dw zs (Tm.pos zs 0 m);have hg:=ih'.out (Tm.pos zs 0 m) a' c' wr hp1 (by omega) (by unfold Tm.ai at hp2;omega) Db GQ ((X4.out _ _ (Ints.below hB hI'.out)).mono hB.size);rw [← hp2] at hg;have hX:=hN.lt;have aeD:c'≤9223372036854775807:=GQ;have Hp3:=show Hid _ from hp3
    clear hp1 hp2 hp3 hp4 GQ mY hB0 hcap2;go_wp2_with (first
     | (go_at_call 43;refine (hsz _).mono ?_;rintro e wr ⟨rfl,rfl⟩)
     | (go_at_call 110;refine hg.mono ?_;clear hg;rintro e W1 ⟨p,a2,c2,rfl,hB1,hI2,hc2,hc22⟩;have hN1:=hN.kept (dx hB1) (by simp);have hown1:=hown.kept (dx hB1) (by cases h:v.ownBlock with | none=>exact .inl rfl | some k=>exact .inr (by simp));obtain ⟨ao,co,rfl⟩:=Jv hown1;have hn1:=hN1.cell1;have hf1:=hN1.frozen;have HI2:=show Hid _ from hI2;clear hI2;have X5:=show Hid _ from hc22;clear hc22)
     | (at_builtin;go_loud (refine wpList_append_own _ rfl _ _ 113 rfl (w.heap.size+1) 117 i0 (.pointer none) 1 8 Tryz.underlying113 hi hz0 hz1 hz2 rfl (by decide) _ _ _ rfl (hown1.alloc _) ⟨W1.heap.size,0,none⟩ 1 1 [.pointer p] rfl rfl (cell_one_new _ _ _) (by simp [Value.oneCell']) (by unfold maxLen;omega) (by omega) (by have:=hB1.size;simp;omega) ?_);intro v' w2 hown' hgrow _;obtain ⟨g',cap',rfl⟩:=ownsRow_succ hown';have R:=hN1.appended hown1 hown' hgrow;have hn2:=R.1.cell1;have hf2:=R.1.frozen;have HR:=show Hid _ from R;clear R hown' hgrow))
    exact ⟨⟨m+1,a2,c2,_,_,by omega,by go_num,rfl,fun n X hX=>HI2.out n X (X4.out n X hX),hc2,X5.out,HR.out.2.1,HR.out.2.2.1,(hB.trans (hB1.mono hB.size)).trans HR.out.2.2.2⟩,by simp [intOf];omega⟩
   ·obtain rfl:m = r:=by omega
    go_wp2_with (go_at_call 43;refine (hsz _).mono ?_;rintro e wr ⟨rfl,rfl⟩)
    go_ret2
    exact ⟨_,_,_,rfl,hB,X4,Db,GQ⟩
theorem Tm.r9 (zs:List Int) (e:Nat):Tm.ai zs e = e+Tm.run (zs.drop e) 1:=rfl
theorem PL:∀ (m:Nat) (zs:List Int) (a:Option Addr) (cap:Nat) (w:World),zs.length≤m→zs.length≤30→0 < zs.length→zs.all Tm.known = true→Tm.run zs 1≤zs.length→zs.length≤cap→cap≤maxLen→Ints w.heap.size w a zs →
 Calls Tryz.prog 110 #[.slice a zs.length cap] w fun r w'=>∃ p a2 c2,r = .returned (.tuple #[.pointer p,.slice a2 (zs.length - Tm.run zs 1) c2])∧Below w.heap.size w w'∧(∀ n X,Ints n X a zs→Ints n X a2 (zs.drop (Tm.run zs 1)))∧zs.length - Tm.run zs 1≤c2∧c2≤maxLen:=by
 intro m;induction m with
 | zero=>intro zs a cap w h1 _ h2;omega
 | succ m ih =>
  intro zs a cap w hm jD h0 hall hrun hcap hcap2 hI;refine Lm zs a cap w jD h0 hall hrun hcap hcap2 hI ?_;intro e a' cap' W he1 he2 hr hc hc2 hIe;have h:=ih (zs.drop e) a' cap' W (by rw [List.length_drop];omega) (by rw [List.length_drop];omega) (by rw [List.length_drop];omega)
   (by rw [List.all_eq_true] at hall ⊢;exact fun x hx=>hall x (List.mem_of_mem_drop hx)) (by rw [List.length_drop];exact hr) (by rw [List.length_drop];exact hc) hc2 hIe
  simp only [List.length_drop,List.drop_drop] at h;rw [Tm.r9,show zs.length - (e+Tm.run (zs.drop e) 1) = zs.length - e - Tm.run (zs.drop e) 1 from by omega];exact h
theorem Tm.RH (l:List Int) {n m:Nat} (h:n≤m):Tm.run l n≤Tm.run l m:=by
 obtain ⟨d,rfl⟩:∃ d,m = n+d:=⟨m - n,by omega⟩;rw [Tm.lV];omega
theorem Tm.GR:∀ (l:List Int) (n k:Nat),k < Tm.run l n→Tm.ai l k≤Tm.run l n:=by
 intro l;induction l with
 | nil=>intro n k h;rw [Tm.jJ] at *;rw [Tm.nM _ _ (by simp)];omega
 | cons s l ih =>
  intro n k h;cases n with
  | zero=>rw [Tm.cZ] at h;omega
  | succ n =>
   rw [Tm.bU] at h ⊢;cases k with
   | zero =>
    rw [Tm.iq,show (1:Nat) = 0+1 from rfl,Tm.bU];have:=Tm.RH l (n:=0+Tm.room s) (m:=n+Tm.room s) (by omega)
    omega
   | succ k =>
    have:=ih (n+Tm.room s) k (by omega)
    unfold Tm.ai at this ⊢;rw [List.drop_succ_cons];omega
theorem Tm.fV {zs:List Int} (he:Tm.err zs = 0) {k:Nat} (hk:k < zs.length):Tm.ai zs k≤zs.length:=by
 have hr:=Tm.eT he;have:=Tm.GR zs 1 k (by omega)
 omega
def Tm.part (zs:List Int) (k:Nat):List Int:=(zs.drop k).take (Tm.ai zs k - k)
theorem Tm.dF {zs:List Int} (he:Tm.err zs = 0) {k:Nat} (hk:k < zs.length):(Tm.part zs k).length = Tm.ai zs k - k:=by
 have:=Tm.fV he hk
 simp only [Tm.part,List.length_take,List.length_drop];omega
theorem Tryz.info3:(Tryz.prog.info? 3).map (fun i=>(i.zero,i.size,i.bytes)) = some (some (.int .i64 0),1,8):=by kernel_rfl
def New (base:Nat) (W:World) (v:Value) (zs:List Int):Prop:=W.ownsRow base 3 1 v zs.length (zs.map (Value.int .i64))
theorem New.ints {base:Nat} {W:World} {v:Value} {zs:List Int} (h:New base W v zs):∃ a cap,v = .slice a zs.length cap∧Ints W.heap.size W a zs∧zs.length≤cap∧cap≤maxLen:=by
 rcases h.2 with ⟨rfl,hn⟩ | ⟨g,cap,cur,rfl,hb,hg,h1,h2,h3,h4⟩
 ·exact ⟨none,0,by rw [hn],fun j hj=>by omega,by omega,by omega⟩
 ·refine ⟨_,_,rfl,fun j hj=>⟨g,0,rfl,(Array.getElem?_eq_some_iff.1 hg).1,?_⟩,h1,h2⟩
  have h5:=World.ownsRow.cellAt (show W.ownsRow base 3 1 (.slice (some ⟨g,0,none⟩) zs.length cap) zs.length (zs.map (Value.int .i64)) from h) j (by omega);rw [Nat.zero_add,h5];simp [hj]
theorem New.below {base:Nat} {W W':World} {v:Value} {zs:List Int} (h:New base W v zs) (hB:Below W.heap.size W W'):New base W' v zs :=
 World.ownsRow.kept h (dx hB) (by cases h:v.ownBlock with | none=>exact .inl rfl | some k=>exact .inr (by simp))
theorem New.mono {base base':Nat} {W:World} {v:Value} {zs:List Int} (h:New base W v zs) (hb:base'≤base):New base' W v zs :=
 ⟨h.1,h.2.elim .inl (fun ⟨g,cap,cur,h1,h2,h3⟩=>.inr ⟨g,cap,cur,h1,Nat.le_trans hb h2,h3⟩)⟩
theorem New.nil (base:Nat) (W:World):New base W (.slice none 0 0) []:=World.ownsRow_nil _ _ _ _
theorem New.lit (base:Nat) (W:World) (zs:List Int) (hb:base≤W.heap.size) (hm:zs.length≤maxLen):New base (W.alloc (.cells (zs.map (Value.int .i64)).toArray 3)) (.slice (some ⟨W.heap.size,0,none⟩) zs.length zs.length) zs:=by
 have h:=World.ownsRow_lit (base:=base) (e:=3) (size:=1) W (zs.map (Value.int .i64)).toArray zs.length hb hm (by simp);simpa [New] using h
theorem Ints.news {n:Nat} {W:World} {ad:Addr} {zs:List Int} (h:Ints n W (some ad) zs):∀ j u,(zs.map (Value.int .i64))[j]? = some u→W.cell? (ad.add j) = some u:=by
 intro j u hj;have hlt:j < zs.length:=by
  have:=(List.getElem?_eq_some_iff.1 hj).1
  simpa using this
 obtain ⟨b,off,e,_,hc⟩:=h j hlt;cases e;rw [Go.WideShapes.add_plain,hc];simpa [hlt] using hj
theorem aK {ops:Array Oper} {rest:List Oper} {o:Oper} {a:Act} {Q:Exit→Act→World→Prop} (w:World) (hgd:o.guard = none) (s x:Operand)
 (ho:o.op = .call { callee:=.builtin .append,args:=#[s,x],argTypes:=#[35,35] }) (base:Nat) (v:Value) (xs:List Int) (hs:a.eval s = v) (hN:New base w v xs)
 (ao:Option Addr) (ys:List Int) (c:Nat) (hx:a.eval x = .slice ao ys.length c) (hn:ao = none→ys.length = 0∧c = 0) (hI:Ints w.heap.size w ao ys) (hlen:xs.length+ys.length≤1000000) (hbase:base≤w.heap.size)
 (h:∀ v' w',New base w' v' (xs++ys)→Below base w w'→wpList Tryz.prog ops Q rest (a.put o.dst v') w'):wpList Tryz.prog ops Q (o :: rest) a w:=by
 obtain ⟨i0,hi,hz0,hz1,hz2⟩:=info_parts Tryz.info3;cases ao with
 | none =>
  obtain ⟨h0,rfl⟩:=hn rfl;obtain rfl:ys = []:=List.eq_nil_of_length_eq_zero h0;refine wpList_append_own_none hgd s x 35 ho base 3 i0 1 Tryz.underlying35 hi v xs.length (xs.map (Value.int .i64)) hs hN hx (h v w (by simpa using hN) (Below.refl _ _))
 | some ad =>
  refine wpList_append_own w hgd s x 35 ho base 3 i0 (.int .i64 0) 1 8 Tryz.underlying35 hi hz0 hz1 hz2 rfl (by decide) v xs.length (xs.map (Value.int .i64)) hs hN ad ys.length c (ys.map (Value.int .i64)) hx (by simp) hI.news
   (by intro u hu;simp at hu;obtain ⟨z,_,rfl⟩:=hu;rfl) (by unfold maxLen;omega) (by omega) hbase ?_
  intro v' w' hown hg _;refine h v' w' (by simpa [New] using hown) ((Below.refl base w).grown hg hbase (fun k e=>(World.ownsRow.lt hN k e).1))
theorem FV (zs:List Int) (b off cap:Nat) (w:World) (jD:zs.length≤30) (hI:Ints w.heap.size w (some ⟨b,off,none⟩) zs) :
 Calls Tryz.prog 47 #[.slice (some ⟨b,off,none⟩) zs.length cap] w fun e w'=>∃ v,e = .returned v∧New w.heap.size w' v zs∧Below w.heap.size w w':=by
 have he:∀ (w:World) (n c:Nat),(binOp .eql 35 (.slice (some ⟨b,off,none⟩) n c) (.slice none 0 0)).run Tryz.prog w = .ok (.bool false) w:=fun _ _ _=>rfl
 have hl:New w.heap.size (w.alloc (.cells #[] 3)) (.slice (some ⟨w.heap.size,0,none⟩) 0 0) []:=New.lit w.heap.size w [] (Nat.le_refl _) (by unfold maxLen;simp);have hB:Below w.heap.size w (w.alloc (.cells #[] 3)):=(Below.refl _ _).alloc (Nat.le_refl _) _;have hI2:=(hI.below hB).mono hB.size;go_enter Tryz.func47,Tryz.ntmps47;go_wp2_with (at_builtin;go_loud (refine aK _ rfl _ _ rfl w.heap.size _ [] rfl hl _ zs cap rfl (fun h=>by cases h) hI2 (by simp;omega) (by simp) ?_);intro v' w2 hN hB2)
 obtain ⟨a',c',rfl,_⟩:=New.ints hN;go_ret;exact ⟨_,rfl,hN,hB.trans hB2⟩
theorem Ints.sub {n:Nat} {W:World} {b off:Nat} {zs:List Int} (h:Ints n W (some ⟨b,off,none⟩) zs) (k m:Nat):Ints n W (some ⟨b,off+k,none⟩) ((zs.drop k).take m):=fun j hj=>by
 have hj':j < m∧j < zs.length - k:=by
  simp only [List.length_take,List.length_drop] at hj;omega
 obtain ⟨b',off',he,hb,hc⟩:=(h.drop k) j (by rw [List.length_drop];omega);cases he;refine ⟨b,off+k,rfl,hb,?_⟩;rw [hc];simp [hj'.1]
theorem qW (zs:List Int) (a:Option Addr) (cap j:Nat) (w:World) (hI:Ints w.heap.size w a zs) (hcap:zs.length≤cap) (hcap2:cap≤maxLen) (he:Tm.err zs = 0) (hj:j < zs.length) :
 Calls Tryz.prog 120 #[.slice a zs.length cap,.int .i64 (j:Int)] w fun e w'=>e = .returned (.int .i64 (Tm.ai zs j:Int))∧Below w.heap.size w w':=by
 have jD:=Tm.aI he;have hei:=Tm.fV he hj;have heg:=Tm.dw zs j;have hall:=Tm.dH he;obtain ⟨b,off,rfl,hb,hc⟩:=hI.at (by omega);have hg:Calls Tryz.prog 110 #[.slice (some ⟨b,off+j,none⟩) (zs.length - j) (cap - j)] w fun r w'=>∃ p a2 c2,r = .returned (.tuple #[.pointer p,.slice a2 (zs.length - Tm.ai zs j) c2])∧Below w.heap.size w w':=by
  have h:=PL (zs.drop j).length (zs.drop j) (some ⟨b,off+j,none⟩) (cap - j) w (Nat.le_refl _) (by rw [List.length_drop];omega) (by rw [List.length_drop];omega)
   (by rw [List.all_eq_true] at hall ⊢;exact fun x hx=>hall x (List.mem_of_mem_drop hx)) (by rw [List.length_drop];unfold Tm.ai at hei;omega) (by rw [List.length_drop];omega) (by omega) (hI.drop j)
  rw [List.length_drop] at h;refine h.mono ?_;rintro e w' ⟨p,a2,c2,rfl,hB,_⟩;exact ⟨p,a2,c2,by rw [Tm.r9,show zs.length - (j+Tm.run (zs.drop j) 1) = zs.length - j - Tm.run (zs.drop j) 1 from by omega],hB⟩
 unfold maxLen at hcap2;clear hall hc hI he;generalize Tm.ai zs j = q at *;have h1:(j:Int) < (zs.length:Int):=by omega
 have h2:(zs.length:Int)≤30:=by omega
 have h3:¬ cap - j = 0:=by omega
 have h4:(zs.length:Int)≤(cap:Int):=by omega
 have h5:((zs.length - q:Nat):Int)≤30:=by omega
 go_enter Tryz.func120,Tryz.ntmps120;go_wp2_with (go_at_call 110;refine hg.mono ?_;clear hg;rintro e w1 ⟨p,a2,c2,rfl,hB1⟩)
 go_ret;exact ⟨lW (by omega),hB1⟩
theorem mE (zs:List Int) (a:Option Addr) (cap j:Nat) (w:World) (hI:Ints w.heap.size w a zs) (hcap:zs.length≤cap) (hcap2:cap≤maxLen) (he:Tm.err zs = 0) (hj:j < zs.length) :
 Calls Tryz.prog 94 #[.slice a zs.length cap,.int .i64 (j:Int)] w fun e w'=>∃ v,e = .returned v∧New w.heap.size w' v (Tm.part zs j)∧Below w.heap.size w w':=by
 have jD:=Tm.aI he;have hei:=Tm.fV he hj;have heg:=Tm.dw zs j;have hpl:=Tm.dF he hj;obtain ⟨b,off,rfl,hb,hc⟩:=hI.at (by omega);have hB0:Below w.heap.size w (w.alloc (.cells #[] 3)):=(Below.refl _ _).alloc (Nat.le_refl _) _;have hl:New w.heap.size (w.alloc (.cells #[] 3)) (.slice (some ⟨w.heap.size,0,none⟩) 0 0) []:=New.lit w.heap.size w [] (Nat.le_refl _) (by unfold maxLen;simp);have hE:=qW zs (some ⟨b,off,none⟩) cap j (w.alloc (.cells #[] 3)) ((hI.below hB0).mono hB0.size) hcap hcap2 he hj;have hIs:=hI.sub j (Tm.ai zs j - j);unfold maxLen at hcap2;clear hc hI he;have Hpl:Hid ((Tm.part zs j).length = Tm.ai zs j - j):=hpl;have HIs:Hid (Ints w.heap.size w (some ⟨b,off+j,none⟩) (Tm.part zs j)):=hIs;clear hpl hIs;generalize Tm.part zs j = pt at *;generalize Tm.ai zs j = q at *;have h1:(j:Int)≤(q:Int):=by omega
 have h2:(q:Int)≤(cap:Int):=by omega
 have h3:¬ cap - j = 0:=by omega
 go_enter Tryz.func94,Tryz.ntmps94;go_wp2_with (first
  | (go_at_call 120;refine hE.mono ?_;clear hE;rintro e w1 ⟨rfl,hB1⟩;have hl1:=New.below hl hB1;have hB2:=hB0.trans (hB1.mono hB0.size))
  | (at_builtin;go_loud (refine aK _ rfl _ _ rfl w.heap.size _ [] rfl hl1 (some ⟨b,off+j,none⟩) pt (cap - j) (by rw [Hpl.out];rfl) (fun h=>by cases h) ((HIs.out.below hB2).mono hB2.size) (by simp [Hpl.out];omega) hB2.size ?_);intro v' w2 hN hB3))
 obtain ⟨a',c',rfl,_⟩:=New.ints hN;go_ret;exact ⟨_,rfl,hN,hB2.trans hB3⟩
theorem RI (n:Nat) (w:World) (h1:1≤n) (h2:n≤100000) :
 Calls Tryz.prog 126 #[.slice none 0 0,.int .i64 (n:Int)] w fun e w'=>∃ v,e = .returned v∧New w.heap.size w' v []∧Below w.heap.size w w':=by
 obtain ⟨i0,hi,hz0,hz1,hz2⟩:=info_parts Tryz.info3;have happ:=Lib.run_append_nil_zeros (P:=Tryz.prog) w 35 3 35 3 i0 (.int .i64 0) .i64 .i64 Tryz.underlying35 Tryz.underlying3 hi hz0 n (by omega) (by omega) (by omega) (by rw [hz2];omega);generalize hcap:grownCap w n 0 3 = cap2 at happ;have hcapge:n≤cap2:=by rw [← hcap];exact grownCap_ge w _ 0 3
 have hcaple:cap2≤maxLen:=by rw [← hcap];exact grownCap_le_maxLen w _ 0 3 (by unfold maxLen;omega)
 generalize hZ:(Builtin.zeroCells (Value.int .i64 0).cells n++Builtin.zeroCells (Value.int .i64 0).cells (cap2 - n)) = Z at happ;have hZs:Z.size = cap2:=by rw [← hZ];simp [size_zeroCells,Value.cells];omega
 clear hcap hZ;have hp:(0:Int) < (n:Int):=by omega
 have hq:(n:Int)≤100000:=by omega
 have hcz:¬ cap2 = 0:=by omega
 go_enter Tryz.func126,Tryz.ntmps126;go_wp2_with (at_builtin;go_loud (refine Lib.wpList_append_run _ rfl _ _ _ _ rfl _ _ rfl rfl _ _ happ ?_))
 go_ret;exact ⟨_,rfl,⟨by simp,.inr ⟨w.heap.size,cap2,Z,rfl,Nat.le_refl _,World.alloc_heap_new w _,Nat.zero_le _,hcaple,by omega,by simp⟩⟩,((Below.refl _ _).alloc (Nat.le_refl _) _).drew⟩
def lens (l:List (List Int)):Nat:=(l.map List.length).sum
theorem FX {l:List (List Int)} {k:Nat} (h:k < l.length):lens (l.take (k+1)) = lens (l.take k)+(l[k]?.getD []).length:=by
 have e:l[k]?.getD [] = l[k]:=by simp [h]
 rw [List.take_succ_eq_append_getElem h,e];unfold lens;rw [List.map_append,List.sum_append];simp only [List.map_cons,List.map_nil,List.sum_cons,List.sum_nil,Nat.add_zero]
theorem GU (l:List (List Int)) (k:Nat):lens (l.take k)≤lens l:=by
 have h:lens l = lens (l.take k)+lens (l.drop k):=by
  unfold lens;rw [← List.sum_append,← List.map_append,List.take_append_drop]
 omega
theorem PM {l:List (List Int)} {k:Nat} (h:k < l.length):(l.take (k+1)).flatten = (l.take k).flatten++(l[k]?.getD []):=by
 have e:l[k]?.getD [] = l[k]:=by simp [h]
 rw [List.take_succ_eq_append_getElem h,e,List.flatten_append];simp only [List.flatten_cons,List.flatten_nil,List.append_nil]
theorem RJ (l:List (List Int)):l.flatten.length = lens l:=by simp [lens,List.length_flatten]
theorem Lp (df:List (List Int)) (fa:Nat→Option Addr) (fc:Nat→Nat) (B cap:Nat) (w:World) (hl:df.length≤1000) (hsum:lens df≤1000) (hpos:0 < lens df) (hB:B < w.heap.size)
 (hcell:∀ j,j < df.length→w.cell? ⟨B,j,none⟩ = some (.slice (fa j) (df[j]?.getD []).length (fc j))) (hI:∀ j,j < df.length→Ints w.heap.size w (fa j) (df[j]?.getD []))
 (hn:∀ j,j < df.length→fa j = none→(df[j]?.getD []).length = 0∧fc j = 0) :
 Calls Tryz.prog 105 #[.slice (some ⟨B,0,none⟩) df.length cap] w fun e w'=>∃ v,e = .returned v∧New w.heap.size w' v df.flatten∧Below w.heap.size w w':=by
 have h1:(df.length:Int)≤1000:=by omega
 have Xd:=show Hid _ from hcell
 have HI:=show Hid _ from hI
 have Hn:=show Hid _ from hn
 clear hcell hI hn;go_enter Tryz.func105,Tryz.ntmps105;go_wp2;go_loop [3,11] (fun q i=>∃ k:Nat,k≤df.length∧i = .int .i64 (k:Int)∧q = .int .i64 (lens (df.take k):Int)) (fun _ i=>df.length - (intOf i).toNat)
 case atStart=>exact ⟨0,Nat.zero_le _,rfl,rfl⟩
 case round =>
  obtain ⟨k,hk,rfl,rfl⟩:=hrel;have hle:=GU df k;by_cases hlt:k < df.length
  ·have hlt':(k:Int) < (df.length:Int):=by omega
   have hck:=Xd.out k hlt;have hsn:=FX hlt;have hle2:=GU df (k+1);have Hsn:=show Hid _ from hsn
   rw [hsn] at hle2;clear hsn;generalize (df[k]?.getD []).length = m at *;generalize lens (df.take k) = q at *;have hq0:(0:Int)≤(q:Int)+(m:Int):=by omega
   have hq1:(q:Int)+(m:Int)≤1000:=by omega
   go_wp2;go_round
   case rel=>exact ⟨k+1,by omega,by go_num,by rw [Hsn.out];go_num⟩
   case measure=>simp [intOf];omega
  ·obtain rfl:k = df.length:=by omega
   rw [List.take_length] at *;go_wp2_with fail;refine (RI (lens df) _ (by omega) (by omega)).mono ?_;rintro e w1 ⟨v0,rfl,hN0,hB1⟩;obtain ⟨a0,c0,rfl,_⟩:=New.ints hN0;go_wp2;go_loopw [6,27] (fun v i wr=>∃ k:Nat,k≤df.length∧i = .int .i64 (k:Int)∧New w.heap.size wr v (df.take k).flatten∧Below w.heap.size w wr) (fun _ i _=>df.length - (intOf i).toNat)
   case atStart=>exact ⟨0,Nat.zero_le _,rfl,hN0,hB1⟩
   case round =>
    clear hN0 hB1;obtain ⟨k,hk,rfl,hN,hBr⟩:=hrel;by_cases hlt:k < df.length
    ·have hlt':(k:Int) < (df.length:Int):=by omega
     have hck:=(hBr.cell (p:=⟨B,k,none⟩) hB).trans (Xd.out k hlt);have hIk:=((HI.out k hlt).below hBr).mono hBr.size;have hnk:=show Hid _ from Hn.out k hlt
     have hfs:=show Hid _ from PM hlt
     have hll:(df.take k).flatten.length+(df[k]?.getD []).length≤1000:=by
      rw [RJ];have:=FX hlt;have:=GU df (k+1);omega
     generalize df[k]?.getD [] = ys at *;generalize (df.take k).flatten = xs at *;go_wp2_with (at_builtin;go_loud (refine aK _ rfl _ _ rfl w.heap.size _ xs rfl hN _ ys _ rfl hnk.out hIk (by omega) hBr.size ?_);intro v' w2 eH hB2;obtain ⟨a2,c2,rfl,_⟩:=New.ints eH)
     go_roundw
     case rel=>exact ⟨k+1,by omega,by go_num,by rw [hfs.out];simpa using eH,hBr.trans hB2⟩
     case measure=>simp [intOf];omega
    ·obtain rfl:k = df.length:=by omega
     rw [List.take_length] at hN;obtain ⟨a2,c2,rfl,_⟩:=New.ints hN;go_wp2;go_ret;exact ⟨_,rfl,hN,hBr⟩
end Go.Proofs.YtglohanbpjaieaaGreat
