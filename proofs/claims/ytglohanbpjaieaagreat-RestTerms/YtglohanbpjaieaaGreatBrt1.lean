/-
  Parts of the proof: Math, Base, Signs, End, Check, RefErr, Same, Place, Part, Part2, Concat.
-/
import Derived.Test.YtglohanbpjaieaaGreatProg
import Derived.WalkKit
import Derived.WalkSpells
import Derived.RangeFuncNested
import Derived.RangeFuncBound
import Derived.RangeFuncCalls
import Derived.RangeFuncLeaves
import Derived.RangeFuncBox
import Derived.Shelf.Abstract
import Derived.Shelf.RegionOpen
import Derived.OwnWalkIn
import Derived.TacticsInMore
import Derived.LoopNIn
import Derived.LoopIn
import Derived.Deep.QuietTactic
import Derived.BigQuiet
import Derived.WalkSmall
import Derived.Laws.AppendOwnNone
import Derived.Lib.AppendZeros
namespace Go.Proofs.YtglohanbpjaieaaGreat.Tm
def room (s:Int):Nat:=if s = 2∨s = 3 then 1 else if s = 4∨s = 5 then 2 else 0
theorem room_le (s:Int):room s≤2:=by unfold room;split <;> (try split) <;> omega
def run:List Int→Nat→Nat
 | _,0=>0
 | [],n+1=>n+1
 | s :: l,n+1=>1+run l (n+room s)
theorem run_zero (l:List Int):run l 0 = 0:=by cases l <;> simp [run]
theorem run_nil (n:Nat):run [] n = n:=by cases n <;> simp [run]
theorem run_cons (s:Int) (l:List Int) (n:Nat):run (s :: l) (n+1) = 1+run l (n+room s):=by simp [run]
theorem run_add (l:List Int):∀ (a b:Nat),run l (a+b) = run l a+run (l.drop (run l a)) b:=by
 induction l with
 | nil=>intro a b;simp [run_nil]
 | cons s l ih =>
  intro a b
  cases a with
  | zero=>simp [run_zero]
  | succ a =>
   rw [show a+1+b = (a+b)+1 from by omega,run_cons,run_cons,show a+b+room s = (a+room s)+b from by omega,ih,
    show 1+run l (a+room s) = run l (a+room s)+1 from by omega,List.drop_succ_cons]
   omega
theorem run_ge (l:List Int):∀ (n:Nat),n≤run l n:=by
 induction l with
 | nil=>intro n;simp [run_nil]
 | cons s l ih =>
  intro n
  cases n with
  | zero=>simp
  | succ n=>rw [run_cons];have:=ih (n+room s);omega
theorem run_le (l:List Int):∀ (n:Nat),run l n≤2 * l.length+n:=by
 induction l with
 | nil=>intro n;simp [run_nil]
 | cons s l ih =>
  intro n
  cases n with
  | zero=>simp [run_zero]
  | succ n=>rw [run_cons];have:=ih (n+room s);have:=room_le s;simp only [List.length_cons];omega
def endAt (t:List Int) (k:Nat):Nat:=k+run (t.drop k) 1
theorem endAt_gt (t:List Int) (k:Nat):k < endAt t k:=by unfold endAt;have:=run_ge (t.drop k) 1;omega
theorem endAt_out (t:List Int) (k:Nat) (h:t.length≤k):endAt t k = k+1:=by
 unfold endAt;rw [List.drop_of_length_le h,run_nil]
def pos (t:List Int) (k i:Nat):Nat:=k+1+run (t.drop (k+1)) i
theorem pos_zero (t:List Int) (k:Nat):pos t k 0 = k+1:=by simp [pos,run_zero]
theorem pos_succ (t:List Int) (k i:Nat):pos t k (i+1) = endAt t (pos t k i):=by
 unfold pos endAt
 rw [run_add,List.drop_drop]
 omega
theorem pos_gt (t:List Int) (k i:Nat):k < pos t k i:=by unfold pos;omega
theorem pos_le (t:List Int) (k i:Nat):pos t k i≤k+1+(2 * (t.length - (k+1))+i):=by
 unfold pos;have:=run_le (t.drop (k+1)) i;rw [List.length_drop] at this;omega
theorem endAt_in (t:List Int) (k:Nat) (h:k < t.length):endAt t k = pos t k (room (t[k]?.getD 0)):=by
 unfold endAt pos
 rw [List.drop_eq_getElem_cons h,show (1:Nat) = 0+1 from rfl,run_cons]
 simp [h]
 omega
def parts (t:List Int) (k n:Nat):List (Nat × Nat):=(List.range n).map fun i=>(pos t k i,pos t k (i+1))
theorem parts_succ (t:List Int) (k n:Nat):parts t k (n+1) = parts t k n++[(pos t k n,pos t k (n+1))]:=by simp [parts,List.range_succ]
theorem parts_length (t:List Int) (k n:Nat):(parts t k n).length = n:=by simp [parts]
def lastEnd (k:Nat) (pre:List (Nat × Nat)):Nat:=(pre.getLast?.map Prod.snd).getD (k+1)
theorem lastEnd_snoc (k:Nat) (pre:List (Nat × Nat)) (x:Nat × Nat):lastEnd k (pre++[x]) = x.2:=by simp [lastEnd]
theorem lastEnd_parts (t:List Int) (k n:Nat):lastEnd k (parts t k n) = pos t k n:=by
 cases n with
 | zero=>simp [parts,lastEnd,pos_zero]
 | succ n=>rw [parts_succ,lastEnd_snoc]
def known (s:Int):Bool:=decide (-8≤s) && decide (s < 6)
def err (t:List Int):Int:=if 30 < t.length then 2 else if t.all known = false then 3 else if run t 1 = t.length then 0 else 1
end Go.Proofs.YtglohanbpjaieaaGreat.Tm
namespace Go.Proofs.YtglohanbpjaieaaGreat
open Go.Proofs Go.RowKit
theorem hid {p:Prop} (h:p):Hid p:=h
theorem ret_int {k:IntKind} {a b:Int} (h:a = b):Ending.returned (.int k a) = .returned (.int k b):=by rw [h]
theorem ret_bool {a b:Bool} (h:a = b):Ending.returned (.bool a) = .returned (.bool b):=by rw [h]
set_option maxHeartbeats 400000 in
theorem room_any (s:Int) (w:World):Calls Tryz.prog 124 #[.int .i64 s] w fun e w'=>e = .returned (.int .i64 (Tm.room s:Int))∧w' = w:=by
 by_cases h2:s = 2
 ·subst h2;go_enter Tryz.func124,Tryz.ntmps124;go_wp2;go_ret;exact ⟨rfl,rfl⟩
 by_cases h3:s = 3
 ·subst h3;go_enter Tryz.func124,Tryz.ntmps124;go_wp2;go_ret;exact ⟨rfl,rfl⟩
 by_cases h4:s = 4
 ·subst h4;go_enter Tryz.func124,Tryz.ntmps124;go_wp2;go_ret;exact ⟨rfl,rfl⟩
 by_cases h5:s = 5
 ·subst h5;go_enter Tryz.func124,Tryz.ntmps124;go_wp2;go_ret;exact ⟨rfl,rfl⟩
 have e:Tm.room s = 0:=by simp [Tm.room,h2,h3,h4,h5]
 have b2:(s == 2) = false:=by simp [h2]
 have b3:(s == 3) = false:=by simp [h3]
 have b4:(s == 4) = false:=by simp [h4]
 have b5:(s == 5) = false:=by simp [h5]
 clear h2 h3 h4 h5
 rw [e]
 clear e
 go_enter Tryz.func124,Tryz.ntmps124
 go_wp2
 go_ret
 exact ⟨rfl,rfl⟩
set_option maxHeartbeats 400000 in
theorem known_any (s:Int) (w:World):Calls Tryz.prog 68 #[.int .i64 s] w fun e w'=>e = .returned (.bool (Tm.known s))∧w' = w:=by
 by_cases h1:-8≤s
 ·by_cases h2:s < 6
  ·go_enter Tryz.func68,Tryz.ntmps68;go_wp2;go_ret;exact ⟨ret_bool (by simp [Tm.known,h1,h2]),rfl⟩
  ·go_enter Tryz.func68,Tryz.ntmps68;go_wp2;go_ret;exact ⟨ret_bool (by simp [Tm.known,h1,h2]),rfl⟩
 ·have h1':decide (-8≤s) = false:=by simpa using h1
  go_enter Tryz.func68,Tryz.ntmps68;go_wp2;go_ret;exact ⟨ret_bool (by simp [Tm.known];omega),rfl⟩
theorem size_any (s:Int) (w:World) (h:s < 6):Calls Tryz.prog 43 #[.int .i64 s] w fun e w'=>e = .returned (.int .i64 (Tm.room s:Int))∧w' = w:=by
 by_cases h2:s < 2
 ·have e:Tm.room s = 0:=by unfold Tm.room;rw [if_neg (by omega),if_neg (by omega)]
  rw [e];clear e
  go_enter Tryz.func43,Tryz.ntmps43;go_wp2;go_ret;exact ⟨rfl,rfl⟩
 by_cases h4:s < 4
 ·have e:Tm.room s = 1:=by unfold Tm.room;rw [if_pos (by omega)]
  rw [e];clear e
  go_enter Tryz.func43,Tryz.ntmps43;go_wp2;go_ret;exact ⟨rfl,rfl⟩
 ·have e:Tm.room s = 2:=by unfold Tm.room;rw [if_neg (by omega),if_pos (by omega)]
  rw [e];clear e
  go_enter Tryz.func43,Tryz.ntmps43;go_wp2;go_ret;exact ⟨rfl,rfl⟩
def insideB (n low high:Int):Bool:=decide (low≤n) && decide (n≤high)
theorem insideB_iff (n low high:Int):insideB n low high = true ↔ low≤n∧n≤high:=by simp [insideB]
set_option maxHeartbeats 400000 in
theorem within_any (n low high:Int) (w:World):Calls Tryz.prog 42 #[.int .i64 n,.int .i64 low,.int .i64 high] w fun e w'=>e = .returned (.bool (insideB n low high))∧w' = w:=by
 by_cases h1:low≤n
 ·by_cases h2:n≤high
  ·go_enter Tryz.func42,Tryz.ntmps42;go_wp2;go_ret;exact ⟨ret_bool (by simp [insideB,h1,h2]),rfl⟩
  ·go_enter Tryz.func42,Tryz.ntmps42;go_wp2;go_ret;exact ⟨ret_bool (by simp [insideB,h1,h2]),rfl⟩
 ·have h1':decide (low≤n) = false:=by simpa using h1
  go_enter Tryz.func42,Tryz.ntmps42;go_wp2;go_ret;exact ⟨ret_bool (by simp [insideB];omega),rfl⟩
set_option maxHeartbeats 400000 in
theorem hasPlace_any (a:Option Addr) (len cap:Nat) (k:Int) (w:World):Calls Tryz.prog 104 #[.slice a len cap,.int .i64 k] w fun e w'=>e = .returned (.bool (insideB k 0 ((len:Int) - 1)))∧w' = w:=by
 by_cases h1:0≤k
 ·by_cases h2:k < (len:Int)
  ·go_enter Tryz.func104,Tryz.ntmps104;go_wp2;go_ret;exact ⟨ret_bool (by simp [insideB];omega),rfl⟩
  ·go_enter Tryz.func104,Tryz.ntmps104;go_wp2;go_ret;exact ⟨ret_bool (by simp [insideB];omega),rfl⟩
 ·have h1':decide (0≤k) = false:=by simpa using h1
  go_enter Tryz.func104,Tryz.ntmps104;go_wp2;go_ret;exact ⟨ret_bool (by simp [insideB];omega),rfl⟩
end Go.Proofs.YtglohanbpjaieaaGreat
namespace Go.Proofs.YtglohanbpjaieaaGreat
open Go.Proofs Go.RowKit Go.Shelf
attribute [local go_sem] Oper.semAt_some
def Ints (n:Nat) (W:World) (a:Option Addr) (zs:List Int):Prop :=
 ∀ j,j < zs.length→∃ b off,a = some ⟨b,off,none⟩∧b < n∧W.cell? ⟨b,off+j,none⟩ = some (.int .i64 (zs[j]?.getD 0))
theorem Ints.below {n:Nat} {A B:World} (h:Below n A B) {a:Option Addr} {zs:List Int} (hi:Ints n A a zs):Ints n B a zs:=fun j hj=>by
 obtain ⟨b,off,e,hb,hc⟩:=hi j hj
 exact ⟨b,off,e,hb,(h.cell (p:=⟨b,off+j,none⟩) hb).trans hc⟩
theorem Ints.mono {n m:Nat} (h:n≤m) {W:World} {a:Option Addr} {zs:List Int} (hi:Ints n W a zs):Ints m W a zs:=fun j hj=>by
 obtain ⟨b,off,e,hb,hc⟩:=hi j hj
 exact ⟨b,off,e,by omega,hc⟩
theorem Ints.at {n:Nat} {W:World} {a:Option Addr} {zs:List Int} (hi:Ints n W a zs) (h:0 < zs.length) :
 ∃ b off,a = some ⟨b,off,none⟩∧b < n∧∀ j,j < zs.length→W.cell? ⟨b,off+j,none⟩ = some (.int .i64 (zs[j]?.getD 0)):=by
 obtain ⟨b,off,rfl,hb,_⟩:=hi 0 h
 refine ⟨b,off,rfl,hb,fun j hj=>?_⟩
 obtain ⟨b',off',e,_,hc⟩:=hi j hj
 cases e
 exact hc
theorem grown_of_below {W W':World} (h:Below W.heap.size W W'):W.grownBy W' none:=⟨h.os,h.tape,h.output,h.size,fun k hk _=>h.block k hk⟩
theorem wide_facts {F:Fence} (hF:F = Fence.wide):F.round = none∧(∀ f,F.fn f)∧(∀ k:Nat,(F.depth.isSome = true→1≤k)) ∧
 (∀ {n:Nat} {P:Program} {f:FuncId} {args:Array Value} {w:World} {R:Ending→World→Prop},Calls P f args w R→CallsIn F n P f args w R):=by
 subst hF
 exact ⟨rfl,fun _=>trivial,fun k h=>by simp [Fence.wide] at h,fun h=>callsIn_wide.2 h⟩
def Kept (n B:Nat) (W W':World):Prop:=Below n W W'∧W'.heap[B]? = W.heap[B]?
set_option maxHeartbeats 400000 in
theorem parts_in (F:Fence) (hF:F = Fence.wide) (n:Nat) (a:Option Addr) (len cap:Nat) (k:Int) (w:World) :
 CallsIn F n Tryz.prog 101 #[.slice a len cap,.int .i64 k] w fun e w'=>e = .returned (.func (.func 123) #[] #[.pointer (some ⟨w.heap.size+1,0,none⟩),.pointer (some ⟨w.heap.size,0,none⟩)]) ∧
  w' = (w.alloc (.cells #[.slice a len cap] 35)).alloc (.cells #[.int .i64 k] 3):=by
 have hro:F.round = none:=by subst hF;rfl
 have hfn:F.fn 101:=by subst hF;trivial
 refine callsIn_of_wp Tryz.func101 rfl hfn ?_ hro
 simp only [Tryz.ntmps101,List.size_toArray,List.length_cons,List.length_nil,Nat.reduceAdd,Nat.reduceSub,Array.replicate_succ,Array.replicate_zero,List.push_toArray,List.append_toArray,List.nil_append,List.cons_append]
 gi_wp2
 go_ret
 exact ⟨rfl,rfl⟩
set_option maxRecDepth 100000 in
set_option maxHeartbeats 1000000 in
theorem parts1_in (F:Fence) (hF:F = Fence.wide) (n l Bk Bt n₀ k cap:Nat) (a:Option Addr) (zs:List Int) (hlen:zs.length≤30) (hk:k < zs.length)
 (hE:∀ (p:Nat) (W:World),k < p→p≤200→Ints n₀ W a zs→n₀≤W.heap.size→Calls Tryz.prog 69 #[.slice a zs.length cap,.int .i64 (p:Int)] W fun e W'=>e = .returned (.int .i64 (Tm.endAt zs p:Int))∧Below W.heap.size W W')
 (J Jx:List (Nat × Nat)→World→Prop) (W:World) (hJ:AbidesFrom W.heap.size J)
 (hY:∀ pre x W,J pre W→pre.length < Tm.room (zs[k]?.getD 0)→YieldAt F (n - 1) Tryz.prog l #[.int .i64 (x.1:Int),.int .i64 (x.2:Int)] W fun e W' =>
   (e = .returned (.bool true)∧J (pre++[x]) W'∧Kept n₀ Bt W W')∨(e = .returned (.bool false)∧Jx (pre++[x]) W'))
 (hn₀:n₀≤W.heap.size) (hBk:W.cell? ⟨Bk,0,none⟩ = some (.int .i64 (k:Int))) (hBt:W.cell? ⟨Bt,0,none⟩ = some (.slice a zs.length cap)) (hBt':Bt < W.heap.size) (hI:Ints n₀ W a zs) (h0:J [] W) :
 CallsIn F n Tryz.prog 123 #[.func (.yield l) #[] #[],.pointer (some ⟨Bk,0,none⟩),.pointer (some ⟨Bt,0,none⟩)] W fun e W'=>(∃ v,e = .returned v) ∧
  ((∃ ys,ys = Tm.parts zs k (Tm.room (zs[k]?.getD 0))∧J ys W')∨(∃ pre,True∧Jx pre W')):=by
 obtain ⟨hro,hfn,hdd,hcin⟩:=wide_facts hF
 clear hF
 have hf55:=hfn 123
 have hf56:=hfn 124
 have hf32:=hfn 69
 have hr2:=Tm.room_le (zs[k]?.getD 0)
 obtain ⟨b,off,rfl,hb,hc⟩:=hI.at (by omega)
 have hck:=hc k hk
 have hkl:(k:Int) < (zs.length:Int):=by omega
 have hroom:∀ W,CallsIn F (n - 1) Tryz.prog 124 #[.int .i64 (zs[k]?.getD 0)] W fun e w'=>e = .returned (.int .i64 (Tm.room (zs[k]?.getD 0):Int))∧w' = W:=fun W=>hcin (room_any _ W)
 generalize hrdef:Tm.room (zs[k]?.getD 0) = r at *
 clear hrdef
 generalize zs[k]?.getD 0 = s at *
 have HY:=show Hid _ from hY
 have HE:=show Hid _ from hE
 clear hY hE hc
 refine callsIn_of_wp Tryz.func123 rfl hf55 ?_ hro
 simp only [Tryz.ntmps123,List.size_toArray,List.length_cons,List.length_nil,Nat.reduceAdd,Nat.reduceSub,Array.replicate_succ,Array.replicate_zero,List.push_toArray,List.append_toArray,List.nil_append,List.cons_append]
 gi_wp2_with ((try refine ⟨hdd _,?_⟩);gi_at_call 124;refine (hroom _).mono ?_;rintro e W ⟨rfl,rfl⟩)
 gi_loopw [4,13] (fun p i wr=>∃ m:Nat,m≤r∧i = .int .i64 (m:Int)∧p = .int .i64 (Tm.pos zs k m:Int)∧J (Tm.parts zs k m) wr∧wr.heap[Bt]? = W.heap[Bt]?∧Below n₀ W wr∧W.heap.size≤wr.heap.size)
  (fun _ i _=>r - (intOf i).toNat)
 case atStart=>exact ⟨0,Nat.zero_le _,rfl,by rw [Tm.pos_zero];rfl,h0,rfl,Below.refl _ _,Nat.le_refl _⟩
 case round =>
  obtain ⟨m,hm,rfl,rfl,hJs,hT,hnx,hsz⟩:=hrel
  have hbt:wr.cell? ⟨Bt,0,none⟩ = some (.slice (some ⟨b,off,none⟩) zs.length cap):=(World.cell?_of_block (a:=⟨Bt,0,none⟩) hT).trans hBt
  by_cases hlt:m < r
  ·have hlt':(m:Int) < (r:Int):=by omega
   have h1:=(HE.out (Tm.pos zs k m) wr (Tm.pos_gt _ _ _) (by have:=Tm.pos_le zs k m;omega) (hI.below hnx) (by omega)).mono (R':=fun e W1=>e = .returned (.int .i64 (Tm.pos zs k (m+1):Int))∧YieldAt F (n - 1) Tryz.prog l #[.int .i64 (Tm.pos zs k m:Int),.int .i64 (Tm.pos zs k (m+1):Int)] W1 fun e W' =>
    (e = .returned (.bool true)∧J (Tm.parts zs k (m+1)) W'∧Below n₀ W W'∧W'.heap[Bt]? = W.heap[Bt]?∧W.heap.size≤W'.heap.size)∨(e = .returned (.bool false)∧∃ pre,Jx pre W'))
    (fun e W1 ⟨he,hB⟩=>⟨by rw [Tm.pos_succ];exact he,by
      have hg:=grown_of_below hB
      have hJ1:=hJ _ _ _ none hJs hg (fun r e=>by cases e)
      refine YieldAt.mono (HY.out _ (Tm.pos zs k m,Tm.pos zs k (m+1)) W1 hJ1 (by rw [Tm.parts_length];exact hlt)) fun e W2 h=>h.elim (fun ⟨he,hj,hb2,hT2⟩=>.inl ⟨he,?_,?_,?_,?_⟩) (fun ⟨he,hx⟩=>.inr ⟨he,_,hx⟩)
      ·rw [Tm.parts_succ];exact hj
      ·exact (hnx.trans (hB.mono (by omega))).trans hb2
      ·exact hT2.trans ((hB.block Bt (by omega)).trans hT)
      ·have:=hB.size;have:=hb2.size;omega⟩)
   have h1':=hcin (n:=n - 1) h1
   clear h1
   gi_wp2_with (first
    | ((try refine ⟨hdd _,?_⟩);gi_at_call 69;refine h1'.mono ?_;clear h1';rintro e W1 ⟨rfl,fn,tmps,assign,body,hy,hR⟩)
    | ((try refine ⟨hdd _,?_⟩);refine hR.mono ?_;clear hR;rintro e W2 (⟨rfl,hJ2,hb2,hT2,hs2⟩ | ⟨rfl,hx2⟩)))
   ·exact ⟨⟨m+1,by omega,by go_num,rfl,hJ2,hT2,hb2,hs2⟩,by simp [intOf];omega⟩
   ·obtain ⟨pre,hx2⟩:=hx2
    refine bodyPost_ret (results_none rfl _ _ _) rfl ?_
    exact ⟨⟨_,rfl⟩,.inr ⟨pre,trivial,hx2⟩⟩
  ·obtain rfl:m = r:=by omega
   have hlt':¬ (m:Int) < (m:Int):=by omega
   gi_wp2
   go_end0
   exact ⟨⟨_,rfl⟩,.inl hJs⟩
theorem parts_stops (F:Fence) (hF:F = Fence.wide) (n Bk Bt n₀ k cap:Nat) (a:Option Addr) (zs:List Int) (hlen:zs.length≤30) (hk:k < zs.length)
 (hE:∀ (p:Nat) (W:World),k < p→p≤200→Ints n₀ W a zs→n₀≤W.heap.size→Calls Tryz.prog 69 #[.slice a zs.length cap,.int .i64 (p:Int)] W fun e W'=>e = .returned (.int .i64 (Tm.endAt zs p:Int))∧Below W.heap.size W W')
 (w:World) (hn₀:n₀≤w.heap.size) (hBk':Bk < w.heap.size) (hBt':Bt < w.heap.size)
 (hBk:w.cell? ⟨Bk,0,none⟩ = some (.int .i64 (k:Int))) (hBt:w.cell? ⟨Bt,0,none⟩ = some (.slice a zs.length cap)) (hI:Ints n₀ w a zs) :
 SeqStopsK F n Tryz.prog 123 #[.pointer (some ⟨Bk,0,none⟩),.pointer (some ⟨Bt,0,none⟩)] (fun x:Nat × Nat=>#[Value.int .i64 (x.1:Int),Value.int .i64 (x.2:Int)]) (Kept n₀ Bt)
  (fun ys=>ys = Tm.parts zs k (Tm.room (zs[k]?.getD 0))) (fun _=>True) (Tm.room (zs[k]?.getD 0)) w:=fun l J Jx W hW hJ _ hY h0 =>
 parts1_in F hF n l Bk Bt n₀ k cap a zs hlen hk hE J Jx W hJ hY (by have:=hW.size;omega) ((hW.cell (p:=⟨Bk,0,none⟩) hBk').trans hBk) ((hW.cell (p:=⟨Bt,0,none⟩) hBt').trans hBt) (by have:=hW.size;omega) (hI.below (hW.mono hn₀)) h0
end Go.Proofs.YtglohanbpjaieaaGreat
namespace Go.Proofs.YtglohanbpjaieaaGreat
open Go.Proofs Go.RowKit Go.Shelf
attribute [local go_sem] Oper.semAt_some
theorem kept_t {n B:Nat} {X Y Z:World} (h:Kept n B X Y) (k:Kept n B Y Z):Kept n B X Z:=⟨h.1.trans k.1,k.2.trans h.2⟩
theorem kept_b {n B:Nat} {w:World} (hn:n≤w.heap.size) (hB:B < w.heap.size) (W:World) (l:Nat) (o o':Obj) (hl:w.heap.size≤l) (h:W.heap[l]? = some o) (h1:o.isCells = false) (h2:o.isWalk = false):Kept n B W (W.putObj l o') :=
 ⟨belowK_b hn W l o o' hl h h1 h2,World.putObj_heap_other (by omega)⟩
set_option maxHeartbeats 400000 in
theorem end_out (a:Option Addr) (len cap k:Nat) (w:World) (hk:len≤k) (hk2:k≤200) :
 Calls Tryz.prog 69 #[.slice a len cap,.int .i64 (k:Int)] w fun e w'=>e = .returned (.int .i64 ((k:Int)+1))∧Below w.heap.size w w':=by
 have h1:(len:Int)≤(k:Int):=by omega
 have h2:(k:Int)≤200:=by omega
 have h3:(0:Int)≤(k:Int):=by omega
 go_enter Tryz.func69,Tryz.ntmps69
 go_wp2
 go_ret
 exact ⟨rfl,(Below.refl _ _).alloc (Nat.le_refl _) _⟩
set_option maxRecDepth 100000 in
set_option maxHeartbeats 1000000 in
theorem end_step (a:Option Addr) (cap k:Nat) (zs:List Int) (w:World) (hlen:zs.length≤30) (hk:k < zs.length) (hI:Ints w.heap.size w a zs)
 (hE:∀ (p:Nat) (W:World),k < p→p≤200→Ints w.heap.size W a zs→w.heap.size≤W.heap.size→Calls Tryz.prog 69 #[.slice a zs.length cap,.int .i64 (p:Int)] W fun e W'=>e = .returned (.int .i64 (Tm.endAt zs p:Int))∧Below W.heap.size W W') :
 Calls Tryz.prog 69 #[.slice a zs.length cap,.int .i64 (k:Int)] w fun e w'=>e = .returned (.int .i64 (Tm.endAt zs k:Int))∧Below w.heap.size w w':=by
 obtain ⟨F,hF⟩:∃ F,F = Fence.wide:=⟨_,rfl⟩
 refine (callsIn_wide (n:=3)).1 ?_
 rw [← hF]
 obtain ⟨hro,hfn,hdd,hcin⟩:=wide_facts hF
 have HF:Hid (F = Fence.wide):=hF
 have HE:=show Hid _ from hE
 clear hF hE
 have hf32:=hfn 69
 have hf49:=hfn 101
 have hf55:=hfn 123
 have hlt:(k:Int) < (zs.length:Int):=by omega
 have h30:(zs.length:Int)≤30:=by omega
 have hk0:(0:Int)≤(k:Int):=by omega
 rw [Tm.endAt_in zs k hk]
 refine callsIn_of_wp_marks Tryz.func69 rfl hf32 ?_ hro
 simp only [Tryz.ntmps69,List.size_toArray,List.length_cons,List.length_nil,Nat.reduceAdd,Nat.reduceSub,Array.replicate_succ,Array.replicate_zero,List.push_toArray,List.append_toArray,List.nil_append,List.cons_append]
 gi_wp2_with ((try refine ⟨hdd _,?_⟩);gi_at_call 101;refine (parts_in F HF.out _ _ _ _ _ _).mono ?_;rintro e w' ⟨rfl,rfl⟩)
 have bE:=Boxed.new w 3 (.int .i64 ((k:Int)+1))
 have bT:=Boxed.new (w.alloc (.cells #[.int .i64 ((k:Int)+1)] 3)) 35 (.slice a zs.length cap)
 have bK:=Boxed.new ((w.alloc (.cells #[.int .i64 ((k:Int)+1)] 3)).alloc (.cells #[.slice a zs.length cap] 35)) 3 (.int .i64 (k:Int))
 rw [World.size_alloc] at bT
 rw [World.size_alloc,World.size_alloc] at bK
 have hB0:Below w.heap.size w (((w.alloc (.cells #[.int .i64 ((k:Int)+1)] 3)).alloc (.cells #[.slice a zs.length cap] 35)).alloc (.cells #[.int .i64 (k:Int)] 3)):=(((Below.refl _ w).alloc (Nat.le_refl _) _).alloc (by simp) _).alloc (by simp;omega) _
 refine wpIn_rangeFunc_ownG hro (by omega) (gf:=123) (lb:=#[.pointer (some ⟨w.heap.size+1+1,0,none⟩),.pointer (some ⟨w.heap.size+1,0,none⟩)]) rfl hf55 (enters_of Tryz.func123 (by kernel_rfl) rfl)
  (parts_stops F HF.out _ (w.heap.size+1+1) (w.heap.size+1) w.heap.size k cap a zs hlen hk HE.out _ (by simp;omega) (by simp) (by simp) bK.cell (bT.alloc _).cell (hI.below hB0)) kept_t (kept_b (by simp;omega) (by simp)) (Below.refl _ _) (fun _=>rfl)
  (fun pre W=>(W.cell? ⟨w.heap.size,0,none⟩ = some (.int .i64 (Tm.lastEnd k pre:Int))∧W.frozen? ⟨w.heap.size,0,none⟩ = false)∧Below w.heap.size w W)
  (fun _ _ _=>False)
  (OwnFrom.and (Own.from (fun s X Y row hs hg hr=>⟨cell_kept hs.1 hg hr,(frozen_kept hs.1 hg hr).trans hs.2⟩) _) (ownFrom_below (Nat.le_refl _) (by simp;omega)))
  (fun _ _ _ _ _ hs _ _=>hs)
  ⟨⟨((bE.alloc _).alloc _).cell,((bE.alloc _).alloc _).frozen⟩,hB0⟩
  (fun x=>{ tmps:=#[.slice a zs.length cap,.int .i64 (k:Int),undef,undef,.int .i64 0,.pointer (some ⟨w.heap.size,0,none⟩),undef,.int .i64 (x.2:Int),.int .i64 (k:Int),.int .i64 ((k:Int)+1),.int .i64 (k:Int),.slice a zs.length cap,
    .int .i64 (zs.length:Int),.bool false,undef,.slice a zs.length cap,.int .i64 (k:Int),.func (.func 123) #[] #[.pointer (some ⟨w.heap.size+1+1,0,none⟩),.pointer (some ⟨w.heap.size+1,0,none⟩)],.int .i64 (x.1:Int),.int .i64 (x.2:Int),undef,undef],defers:=[] }) ?assign ?body ?done ?stop
 case assign =>
  intro l x W K hK
  gi_wp2
  exact hK
 case body =>
  rintro l pre x W ⟨⟨hc,hf⟩,hB⟩ _
  gi_wp2
  exact ⟨(KeepsOthers.setCell _ _ _).from _,⟨(Below.refl w.heap.size W).setCell (p:=⟨w.heap.size,0,none⟩) (Nat.le_refl _) _,Below.heap_setCell W ⟨w.heap.size,0,none⟩ _ _ (by simp)⟩,
   ⟨by rw [Tm.lastEnd_snoc];exact World.cell?_setCell_same' _ _ _ (by rw [hc];rfl),by rw [World.frozen?_setCell];exact hf⟩,hB.setCell (p:=⟨w.heap.size,0,none⟩) (Nat.le_refl _) _⟩
 case done =>
  rintro D ys W hD rfl ⟨⟨hc,_⟩,hB⟩ hK
  rw [Tm.lastEnd_parts] at hc
  gi_wp2
  refine ⟨by simp,.inl ⟨_,_,rfl,run_takeDeferred hK,?_⟩⟩
  exact ⟨_,results_tmp rfl _ _ _,by simp [hk],hB.trans (belowK_b (w:=w) (Nat.le_refl _) W D _ _ (by simp at hD;omega) hK rfl rfl)⟩
 case stop =>
  rintro D c pre W _ _ h _
  exact h.elim
theorem end_all (zs:List Int) (hlen:zs.length≤30) (a:Option Addr) (cap:Nat):∀ (m k:Nat),zs.length - k≤m→k≤200→∀ w:World,Ints w.heap.size w a zs →
 Calls Tryz.prog 69 #[.slice a zs.length cap,.int .i64 (k:Int)] w fun e w'=>e = .returned (.int .i64 (Tm.endAt zs k:Int))∧Below w.heap.size w w':=by
 intro m
 induction m with
 | zero =>
  intro k hm hk w hI
  rw [Tm.endAt_out zs k (by omega)]
  exact end_out a zs.length cap k w (by omega) hk
 | succ m ih =>
  intro k hm hk w hI
  by_cases hlt:k < zs.length
  ·exact end_step a cap k zs w hlen hlt hI (fun p W h1 h2 h3 h4=>ih p (by omega) h2 W (h3.mono h4))
  ·rw [Tm.endAt_out zs k (by omega)]
   exact end_out a zs.length cap k w (by omega) hk
theorem end_any (zs:List Int) (hlen:zs.length≤30) (a:Option Addr) (cap k:Nat) (hk:k≤200) (w:World) (hI:Ints w.heap.size w a zs) :
 Calls Tryz.prog 69 #[.slice a zs.length cap,.int .i64 (k:Int)] w fun e w'=>e = .returned (.int .i64 (Tm.endAt zs k:Int))∧Below w.heap.size w w' :=
 end_all zs hlen a cap _ k (Nat.le_refl _) hk w hI
end Go.Proofs.YtglohanbpjaieaaGreat
namespace Go.Proofs.YtglohanbpjaieaaGreat
open Go.Proofs Go.RowKit Go.Shelf
theorem Tm.err_many {zs:List Int} (h:30 < zs.length):Tm.err zs = 2:=by simp [Tm.err,h]
theorem Tm.err_range {zs:List Int} (h:zs.length≤30) {k:Nat} (hk:k < zs.length) (hs:Tm.known (zs[k]?.getD 0) = false):Tm.err zs = 3:=by
 have:zs.all Tm.known = false:=by
  rw [List.all_eq_false]
  exact ⟨zs[k],List.getElem_mem hk,by simpa [hk] using hs⟩
 simp only [Tm.err,this]
 rw [if_neg (by omega)]
 rfl
theorem Tm.err_ok {zs:List Int} (h:zs.length≤30) (ha:zs.all Tm.known = true) (hr:Tm.run zs 1 = zs.length):Tm.err zs = 0:=by
 simp only [Tm.err,ha,hr]
 rw [if_neg (by omega)]
 rfl
theorem Tm.err_form {zs:List Int} (h:zs.length≤30) (ha:zs.all Tm.known = true) (hr:Tm.run zs 1≠zs.length):Tm.err zs = 1:=by
 simp only [Tm.err,ha]
 rw [if_neg (by omega),if_neg (by simp),if_neg hr]
theorem Tm.all_snoc {zs:List Int} {k:Nat} (hk:k < zs.length) (h:(zs.take k).all Tm.known = true) (hs:Tm.known (zs[k]?.getD 0) = true):(zs.take (k+1)).all Tm.known = true:=by
 rw [List.take_succ_eq_append_getElem hk,List.all_append,h]
 simpa [hk] using hs
theorem Tm.endAt_zero (zs:List Int):Tm.endAt zs 0 = Tm.run zs 1:=by simp [Tm.endAt]
theorem end_zero (zs:List Int) (hlen:zs.length≤30) (a:Option Addr) (cap:Nat) (w:World) (hI:Ints w.heap.size w a zs) :
 Calls Tryz.prog 69 #[.slice a zs.length cap,.int .i64 0] w fun e w'=>e = .returned (.int .i64 (Tm.run zs 1:Int))∧Below w.heap.size w w':=by
 have h:=end_any zs hlen a cap 0 (by omega) w hI
 rw [Tm.endAt_zero] at h
 exact h
set_option maxHeartbeats 400000 in
theorem check_many (len:Nat) (a:Option Addr) (cap:Nat) (w:World) (hlen:30 < len) :
 Calls Tryz.prog 49 #[.slice a len cap] w fun e w'=>e = .returned (.int .i64 2)∧Below w.heap.size w w':=by
 have h1:(30:Int) < (len:Int):=by omega
 go_enter Tryz.func49,Tryz.ntmps49
 go_wp2
 go_ret
 exact ⟨rfl,Below.refl _ _⟩
set_option maxRecDepth 100000 in
set_option maxHeartbeats 1000000 in
theorem check_few (zs:List Int) (hlen:zs.length≤30) (a:Option Addr) (cap:Nat) (w:World) (hI:Ints w.heap.size w a zs) :
 Calls Tryz.prog 49 #[.slice a zs.length cap] w fun e w'=>e = .returned (.int .i64 (Tm.err zs))∧Below w.heap.size w w':=by
 have h1:(zs.length:Int)≤30:=by omega
 go_enter Tryz.func49,Tryz.ntmps49
 go_wp2
 go_loop [10] (fun i=>∃ k:Nat,k≤zs.length∧i = .int .i64 (k:Int)∧(zs.take k).all Tm.known = true) (fun i=>zs.length - (intOf i).toNat)
 case atStart=>exact ⟨0,Nat.zero_le _,rfl,by simp⟩
 case round =>
  obtain ⟨k,hk,rfl,hall⟩:=hrel
  by_cases hlt:k < zs.length
  ·have hlt':(k:Int) < (zs.length:Int):=by omega
   obtain ⟨b,off,rfl,hb,hc⟩:=hI.at (by omega)
   have hck:=hc k hlt
   have hsn:=Tm.all_snoc hlt hall
   have her:=Tm.err_range hlen hlt
   clear hc hI hall
   generalize zs[k]?.getD 0 = s at *
   cases hkn:Tm.known s with
   | true =>
    have hsn':=show Hid _ from hsn hkn
    clear hsn her
    go_wp2_with (go_at_call 68;refine (known_any _ _).mono ?_;rw [hkn];rintro e w ⟨rfl,rfl⟩)
    go_round
    case rel=>exact ⟨k+1,by omega,by go_num,hsn'.out⟩
    case measure=>simp [intOf];omega
   | false =>
    have her':=show Hid _ from her hkn
    clear hsn her
    go_wp2_with (go_at_call 68;refine (known_any _ _).mono ?_;rw [hkn];rintro e w ⟨rfl,rfl⟩)
    go_ret
    exact ⟨by rw [her'.out];rfl,Below.refl _ _⟩
  ·obtain rfl:k = zs.length:=by omega
   rw [List.take_length] at hall
   by_cases hr:Tm.run zs 1 = zs.length
   ·have he:=show Hid _ from Tm.err_ok hlen hall hr
    have hne:((Tm.run zs 1:Int) != (zs.length:Int)) = false:=by simp [hr]
    have hE:=end_zero zs hlen a cap w hI
    clear hall hr hI
    generalize Tm.run zs 1 = q at *
    go_wp2_with (go_at_call 69;refine hE.mono ?_;clear hE;rintro e w1 ⟨rfl,hB⟩)
    go_ret
    exact ⟨by rw [he.out];rfl,hB⟩
   ·have he:=show Hid _ from Tm.err_form hlen hall hr
    have hne:((Tm.run zs 1:Int) != (zs.length:Int)) = true:=by simp;omega
    have hE:=end_zero zs hlen a cap w hI
    clear hall hr hI
    generalize Tm.run zs 1 = q at *
    go_wp2_with (go_at_call 69;refine hE.mono ?_;clear hE;rintro e w1 ⟨rfl,hB⟩)
    go_ret
    exact ⟨by rw [he.out];rfl,hB⟩
theorem check_any (zs:List Int) (a:Option Addr) (cap:Nat) (w:World) (hI:Ints w.heap.size w a zs) :
 Calls Tryz.prog 49 #[.slice a zs.length cap] w fun e w'=>e = .returned (.int .i64 (Tm.err zs))∧Below w.heap.size w w':=by
 by_cases h:zs.length≤30
 ·exact check_few zs h a cap w hI
 ·rw [Tm.err_many (by omega)]
  exact check_many _ a cap w (by omega)
theorem inside_known (s:Int):insideB s (-8) 5 = Tm.known s:=by
 unfold insideB Tm.known
 congr 1
 simp only [decide_eq_decide]
 omega
theorem Tm.known_lt {s:Int} (h:Tm.known s = true):s < 6:=by simp [Tm.known] at h;omega
theorem Tm.known_ge {s:Int} (h:Tm.known s = true):-8≤s:=by simp [Tm.known] at h;omega
theorem Tm.all_at {zs:List Int} (h:zs.all Tm.known = true) {k:Nat} (hk:k < zs.length):Tm.known (zs[k]?.getD 0) = true:=by
 rw [List.all_eq_true] at h
 simpa [hk] using h zs[k] (List.getElem_mem hk)
theorem Tm.run_step {zs:List Int} {k o:Nat} (hk:k < zs.length):Tm.run (zs.drop k) (o+1) = 1+Tm.run (zs.drop (k+1)) (o+Tm.room (zs[k]?.getD 0)):=by
 rw [List.drop_eq_getElem_cons hk,Tm.run_cons]
 simp [hk]
set_option maxHeartbeats 400000 in
theorem termError_many (len:Nat) (a:Option Addr) (cap:Nat) (w:World) (hlen:30 < len) :
 Calls Tryz.prog 14 #[.slice a len cap] w fun e w'=>e = .returned (.int .i64 2)∧w' = w:=by
 have h1:(30:Int) < (len:Int):=by omega
 go_enter Tryz.func14,Tryz.ntmps14
 go_wp2
 go_ret
 exact ⟨rfl,rfl⟩
set_option maxRecDepth 100000 in
set_option maxHeartbeats 1000000 in
theorem termError_few (zs:List Int) (hlen:zs.length≤30) (a:Option Addr) (cap:Nat) (w:World) (hI:Ints w.heap.size w a zs) :
 Calls Tryz.prog 14 #[.slice a zs.length cap] w fun e w'=>e = .returned (.int .i64 (Tm.err zs))∧w' = w:=by
 have h1:(zs.length:Int)≤30:=by omega
 go_enter Tryz.func14,Tryz.ntmps14
 go_wp2
 go_loop [3] (fun i=>∃ k:Nat,k≤zs.length∧i = .int .i64 (k:Int)∧(zs.take k).all Tm.known = true) (fun i=>zs.length - (intOf i).toNat)
 case atStart=>exact ⟨0,Nat.zero_le _,rfl,by simp⟩
 case round =>
  obtain ⟨k,hk,rfl,hall⟩:=hrel
  by_cases hlt:k < zs.length
  ·have hlt':(k:Int) < (zs.length:Int):=by omega
   obtain ⟨b,off,rfl,hb,hc⟩:=hI.at (by omega)
   have hck:=hc k hlt
   have hsn:=Tm.all_snoc hlt hall
   have her:=Tm.err_range hlen hlt
   clear hc hI hall
   generalize zs[k]?.getD 0 = s at *
   cases hkn:Tm.known s with
   | true =>
    have hsn':=show Hid _ from hsn hkn
    clear hsn her
    go_wp2_with (go_at_call 42;refine (within_any _ _ _ _).mono ?_;rw [inside_known,hkn];rintro e w ⟨rfl,rfl⟩)
    go_round
    case rel=>exact ⟨k+1,by omega,by go_num,hsn'.out⟩
    case measure=>simp [intOf];omega
   | false =>
    have her':=show Hid _ from her hkn
    clear hsn her
    go_wp2_with (go_at_call 42;refine (within_any _ _ _ _).mono ?_;rw [inside_known,hkn];rintro e w ⟨rfl,rfl⟩)
    go_ret
    exact ⟨by rw [her'.out];rfl,rfl⟩
  ·obtain rfl:k = zs.length:=by omega
   rw [List.take_length] at hall
   have Hall:=show Hid _ from hall
   clear hall
   go_wp2
   go_loop [4,5] (fun o i=>∃ k n:Nat,k≤zs.length∧n≤k+1∧i = .int .i64 (k:Int)∧o = .int .i64 (n:Int)∧Tm.run zs 1 = k+Tm.run (zs.drop k) n) (fun _ i=>zs.length - (intOf i).toNat)
   case atStart=>exact ⟨0,1,Nat.zero_le _,by omega,rfl,rfl,by simp⟩
   case round =>
    obtain ⟨k,n,hk,hn,rfl,rfl,hrun⟩:=hrel
    have Hrun:=show Hid _ from hrun
    clear hrun
    by_cases hlt:k < zs.length
    ·have hlt':(k:Int) < (zs.length:Int):=by omega
     by_cases hn0:n = 0
     ·subst hn0
      have he:=show Hid _ from Tm.err_form hlen Hall.out (by rw [Hrun.out,Tm.run_zero];omega)
      clear hI
      go_wp2
      go_ret
      exact ⟨by rw [he.out];rfl,rfl⟩
     ·obtain ⟨m,rfl⟩:∃ m,n = m+1:=⟨n - 1,by omega⟩
      have hn0':(((m+1:Nat):Int) == 0) = false:=by simp;omega
      obtain ⟨b,off,rfl,hb,hc⟩:=hI.at (by omega)
      have hck:=hc k hlt
      have hs6:=Tm.known_lt (Tm.all_at Hall.out hlt)
      have hst:=show Hid _ from Tm.run_step (o:=m) hlt
      have hr2:=Tm.room_le (zs[k]?.getD 0)
      clear hc hI
      generalize zs[k]?.getD 0 = s at *
      have hsz:=size_any s w hs6
      generalize Tm.room s = r at *
      go_wp2_with (go_at_call 43;refine hsz.mono ?_;clear hsz;rintro e w ⟨rfl,rfl⟩)
      go_round
      case rel=>exact ⟨k+1,m+r,by omega,by omega,by go_num,by go_num,by rw [Hrun.out,hst.out];omega⟩
      case measure=>simp [intOf];omega
    ·obtain rfl:k = zs.length:=by omega
     have hrn:Tm.run zs 1 = zs.length+n:=by rw [Hrun.out,List.drop_length,Tm.run_nil]
     by_cases hn0:n = 0
     ·subst hn0
      have he:=show Hid _ from Tm.err_ok hlen Hall.out (by omega)
      clear hI hrn
      go_wp2
      go_ret
      exact ⟨by rw [he.out];rfl,rfl⟩
     ·have he:=show Hid _ from Tm.err_form hlen Hall.out (by omega)
      have hn0':((n:Int) != 0) = true:=by simp;omega
      clear hI hrn
      go_wp2
      go_ret
      exact ⟨by rw [he.out];rfl,rfl⟩
theorem termError_any (zs:List Int) (a:Option Addr) (cap:Nat) (w:World) (hI:Ints w.heap.size w a zs) :
 Calls Tryz.prog 14 #[.slice a zs.length cap] w fun e w'=>e = .returned (.int .i64 (Tm.err zs))∧w' = w:=by
 by_cases h:zs.length≤30
 ·exact termError_few zs h a cap w hI
 ·rw [Tm.err_many (by omega)]
  exact termError_many _ a cap w (by omega)
def sameB (xs ys:List Int):Bool:=decide (xs = ys)
theorem take_snoc {zs:List Int} {k:Nat} (h:k < zs.length):zs.take (k+1) = zs.take k++[zs[k]?.getD 0]:=by
 rw [List.take_succ_eq_append_getElem h];simp [h]
theorem same_step {xs ys:List Int} {k:Nat} (hx:k < xs.length) (hy:k < ys.length) (h:xs.take k = ys.take k) (he:xs[k]?.getD 0 = ys[k]?.getD 0):xs.take (k+1) = ys.take (k+1):=by
 rw [take_snoc hx,take_snoc hy,h,he]
theorem same_not {xs ys:List Int} {k:Nat} (he:xs[k]?.getD 0≠ys[k]?.getD 0):sameB xs ys = false:=by
 simp only [sameB,decide_eq_false_iff_not]
 rintro rfl
 exact he rfl
theorem same_len {xs ys:List Int} (h:xs.length≠ys.length):sameB xs ys = false:=by
 simp only [sameB,decide_eq_false_iff_not]
 rintro rfl
 exact h rfl
theorem same_yes {xs ys:List Int} (h:xs.take xs.length = ys.take xs.length) (hl:xs.length = ys.length):sameB xs ys = true:=by
 simp only [sameB,decide_eq_true_eq]
 rw [List.take_length,hl,List.take_length] at h
 exact h
set_option maxRecDepth 100000 in
set_option maxHeartbeats 1000000 in
theorem same_any (xs ys:List Int) (a b:Option Addr) (ca cb:Nat) (w:World) (hX:Ints w.heap.size w a xs) (hY:Ints w.heap.size w b ys) (hm:xs.length≤maxLen) :
 Calls Tryz.prog 25 #[.slice a xs.length ca,.slice b ys.length cb] w fun e w'=>e = .returned (.bool (sameB xs ys))∧Below w.heap.size w w':=by
 unfold maxLen at hm
 by_cases hl:xs.length = ys.length
 ·have hne:((xs.length:Int) != (ys.length:Int)) = false:=by simp [hl]
  have Hl:Hid (xs.length = ys.length):=hl
  clear hl
  go_enter Tryz.func25,Tryz.ntmps25
  go_wp2
  go_loopw [5] (fun i wr=>∃ k:Nat,k≤xs.length∧i = .int .i64 (k:Int)∧Hid (xs.take k = ys.take k)∧Below w.heap.size w wr) (fun i _=>xs.length - (intOf i).toNat)
  case atStart=>exact ⟨0,Nat.zero_le _,rfl,by simp [Hid],Below.refl _ _⟩
  case round =>
   obtain ⟨k,hk,rfl,hsame,hB⟩:=hrel
   by_cases hlt:k < xs.length
   ·have hlt':(k:Int) < (xs.length:Int):=by omega
    have hly:k < ys.length:=by have:=Hl.out;omega
    have hly':(k:Int) < (ys.length:Int):=by omega
    obtain ⟨b1,off1,rfl,hb1,hc1⟩:=(hX.below hB).at (by omega)
    obtain ⟨b2,off2,rfl,hb2,hc2⟩:=(hY.below hB).at (by omega)
    have hx:=hc1 k hlt
    have hy:=hc2 k hly
    have hst:=show Hid _ from @same_step xs ys k hlt hly hsame.out
    have hno:=show Hid _ from @same_not xs ys k
    clear hc1 hc2 hX hY hly
    generalize xs[k]?.getD 0 = s at *
    generalize ys[k]?.getD 0 = u at *
    by_cases he:s = u
    ·have hn:(s != u) = false:=by simp [he]
     have He:Hid (s = u):=he
     clear he hno
     go_wp2
     go_quiet (fail)
     go_wp2
     go_roundw
     case rel=>exact ⟨k+1,by omega,by go_num,hst.out He.out,below_drewN hB _⟩
     case measure=>simp [intOf];omega
    ·have hn:(s != u) = true:=by simp [he]
     have hf:=show Hid _ from hno.out he
     clear he hno hst
     go_wp2
     go_quiet (fail)
     go_wp2
     go_ret
     exact ⟨by rw [hf.out];rfl,below_drewN hB _⟩
   ·obtain rfl:k = xs.length:=by omega
    have hy:=show Hid _ from same_yes hsame.out Hl.out
    clear hX hY
    go_wp2
    go_ret
    exact ⟨by rw [hy.out];rfl,hB⟩
 ·have hne:((xs.length:Int) != (ys.length:Int)) = true:=by simp;omega
  rw [same_len hl]
  clear hl hX hY
  go_enter Tryz.func25,Tryz.ntmps25
  go_wp2
  go_ret
  exact ⟨rfl,Below.refl _ _⟩
theorem Tm.err_len {zs:List Int} (h:Tm.err zs = 0):zs.length≤30:=by
 by_cases h30:30 < zs.length
 ·rw [Tm.err_many h30] at h;omega
 ·omega
theorem Tm.err_all {zs:List Int} (h:Tm.err zs = 0):zs.all Tm.known = true:=by
 have hl:=Tm.err_len h
 unfold Tm.err at h
 rw [if_neg (by omega)] at h
 by_cases ha:zs.all Tm.known = false
 ·rw [if_pos ha] at h;omega
 ·simpa using ha
theorem Tm.err_run {zs:List Int} (h:Tm.err zs = 0):Tm.run zs 1 = zs.length:=by
 have hl:=Tm.err_len h
 have ha:=Tm.err_all h
 unfold Tm.err at h
 rw [if_neg (by omega),if_neg (by simp [ha])] at h
 by_cases hr:Tm.run zs 1 = zs.length
 ·exact hr
 ·rw [if_neg hr] at h;omega
theorem Tryz.info117:(Tryz.prog.info? 117).map (fun i=>(i.zero,i.size,i.bytes)) = some (some (.pointer none),1,8):=by kernel_rfl
def Node (W:World) (X:Nat) (s:Int) (v:Value):Prop:=W.heap[X]? = some (.cells #[.int .i64 s,v] 121 (0,0))
theorem Node.cell0 {W:World} {X:Nat} {s:Int} {v:Value} (h:Node W X s v):W.cell? ⟨X,0,none⟩ = some (.int .i64 s):=by simp [World.cell?,show W.heap[X]? = _ from h]
theorem Node.cell1 {W:World} {X:Nat} {s:Int} {v:Value} (h:Node W X s v):W.cell? ⟨X,1,none⟩ = some v:=by simp [World.cell?,show W.heap[X]? = _ from h]
theorem Node.frozen {W:World} {X:Nat} {s:Int} {v:Value} (h:Node W X s v):W.frozen? ⟨X,1,none⟩ = false:=by simp [World.frozen?,show W.heap[X]? = _ from h]
theorem Node.lt {W:World} {X:Nat} {s:Int} {v:Value} (h:Node W X s v):X < W.heap.size:=(Array.getElem?_eq_some_iff.1 h).1
theorem Node.kept {W W':World} {row:Option Nat} {X:Nat} {s:Int} {v:Value} (h:Node W X s v) (hg:W.grownBy W' row) (hne:some X≠row):Node W' X s v:=(hg.block X h.lt hne).trans h
theorem Node.set {W:World} {X:Nat} {s:Int} {v:Value} (v':Value) (h:Node W X s v):Node (W.setCell ⟨X,1,none⟩ v') X s v':=by
 obtain ⟨hlt,hk⟩:=Array.getElem?_eq_some_iff.1 h
 show (W.heap.modify X _)[X]? = _
 rw [Array.getElem?_eq_getElem (by rw [Array.size_modify];exact hlt),Array.getElem_modify_self,hk]
 rfl
theorem grownBy_setCell1 (W:World) (b o:Nat) (v:Value):W.grownBy (W.setCell ⟨b,o,none⟩ v) (some b) :=
 ⟨rfl,rfl,rfl,(KeepsWalks.setCell W _ v).size,fun k _ hk=>Below.heap_setCell _ _ _ k (fun e=>hk (by rw [e]))⟩
theorem Node.appended {W w2:World} {X:Nat} {s:Int} {v v':Value} {e:TypeId} {n m:Nat} {xs ys:List Value} {tmp:Obj}
 (hN:Node W X s v) (hrow:W.ownsRow (X+1) e 1 v n xs) (hown:w2.ownsRow (X+1) e 1 v' m ys) (hgrow:(W.alloc tmp).grownBy w2 v.ownBlock) :
 Node w2 X s v∧Node (w2.setCell ⟨X,1,none⟩ v') X s v'∧(w2.setCell ⟨X,1,none⟩ v').ownsRow (X+1) e 1 v' m ys∧Below X W (w2.setCell ⟨X,1,none⟩ v'):=by
 have h1:∀ k,v.ownBlock = some k→X+1≤k:=fun k h=>(hrow.lt k h).1
 have h2:∀ k,v'.ownBlock = some k→X+1≤k:=fun k h=>(hown.lt k h).1
 have hN2:Node w2 X s v:=(hN.kept (World.grownBy_alloc W tmp none) (by simp)).kept hgrow (fun e=>by have:=h1 X e.symm;omega)
 refine ⟨hN2,hN2.set v',hown.kept (grownBy_setCell1 w2 X 1 v') (.inr fun e=>by have:=h2 X e;omega),?_⟩
 have hX:=hN.lt
 exact (((Below.refl X W).alloc (by omega) tmp).grown hgrow (by simp;omega) (fun k e=>by have:=h1 k e;omega)).setCell (p:=⟨X,1,none⟩) (Nat.le_refl _) v'
theorem own_form {W:World} {base:Nat} {e:TypeId} {v:Value} {n:Nat} {xs:List Value} (h:W.ownsRow base e 1 v n xs):∃ ao c,v = .slice ao n c:=by
 rcases h.2 with ⟨rfl,rfl⟩ | ⟨g,cap,_,rfl,_⟩
 ·exact ⟨_,_,rfl⟩
 ·exact ⟨_,_,rfl⟩
theorem Tm.pos_mono (t:List Int) (k i j:Nat) (h:i≤j):Tm.pos t k i≤Tm.pos t k j:=by
 induction j with
 | zero=>have:i = 0:=by omega
         subst this;omega
 | succ j ih =>
  by_cases e:i = j+1
  ·subst e;omega
  ·have:=ih (by omega);rw [Tm.pos_succ];have:=Tm.endAt_gt t (Tm.pos t k j);omega
theorem Ints.drop {n:Nat} {W:World} {b off:Nat} {zs:List Int} (h:Ints n W (some ⟨b,off,none⟩) zs) (e:Nat):Ints n W (some ⟨b,off+e,none⟩) (zs.drop e):=fun j hj=>by
 rw [List.length_drop] at hj
 obtain ⟨b',off',he,hb,hc⟩:=h (e+j) (by omega)
 cases he
 refine ⟨b,off+e,rfl,hb,?_⟩
 rw [show off+e+j = off+(e+j) from by omega,hc]
 simp
theorem Ints.nil (n:Nat) (W:World) (a:Option Addr):Ints n W a []:=fun j hj=>by simp at hj
set_option maxRecDepth 100000 in
set_option maxHeartbeats 1000000 in
theorem grown_step (zs:List Int) (a:Option Addr) (cap:Nat) (w:World) (hlen:zs.length≤30) (h0:0 < zs.length) (hall:zs.all Tm.known = true) (hrun:Tm.run zs 1≤zs.length) (hcap:zs.length≤cap) (hcap2:cap≤maxLen)
 (hI:Ints w.heap.size w a zs)
 (ih:∀ (e:Nat) (a':Option Addr) (cap':Nat) (W:World),0 < e→e < zs.length→Tm.run (zs.drop e) 1≤zs.length - e→zs.length - e≤cap'→cap'≤maxLen→Ints W.heap.size W a' (zs.drop e) →
   Calls Tryz.prog 110 #[.slice a' (zs.length - e) cap'] W fun r w'=>∃ p a2 c2,r = .returned (.tuple #[.pointer p,.slice a2 (zs.length - Tm.endAt zs e) c2])∧Below W.heap.size W w'∧(∀ n X,Ints n X a' (zs.drop e)→Ints n X a2 (zs.drop (Tm.endAt zs e)))∧zs.length - Tm.endAt zs e≤c2∧c2≤maxLen) :
 Calls Tryz.prog 110 #[.slice a zs.length cap] w fun r w'=>∃ p a2 c2,r = .returned (.tuple #[.pointer p,.slice a2 (zs.length - Tm.run zs 1) c2])∧Below w.heap.size w w'∧(∀ n X,Ints n X a zs→Ints n X a2 (zs.drop (Tm.run zs 1)))∧zs.length - Tm.run zs 1≤c2∧c2≤maxLen:=by
 have hcap3:cap≤9223372036854775807:=hcap2
 obtain ⟨b,off,rfl,hb,hc⟩:=hI.at h0
 have hc0:=hc 0 h0
 rw [Nat.add_zero] at hc0
 have h1:(0:Int) < (zs.length:Int):=by omega
 have h30:(zs.length:Int)≤30:=by omega
 have h2:(zs.length:Int)≤(cap:Int):=by omega
 have hend:=Tm.endAt_in zs 0 h0
 rw [Tm.endAt_zero] at hend
 rw [hend] at hrun ⊢
 have hs6:=Tm.known_lt (Tm.all_at hall h0)
 have hr2:=Tm.room_le (zs[0]?.getD 0)
 have hI':=show Hid _ from hI
 have ih':=show Hid _ from ih
 clear hc hI hend hall ih
 generalize zs[0]?.getD 0 = s at *
 have hsz:∀ W,Calls Tryz.prog 43 #[.int .i64 s] W fun e w'=>e = .returned (.int .i64 (Tm.room s:Int))∧w' = W:=fun W=>size_any s W hs6
 clear hs6
 generalize Tm.room s = r at *
 obtain ⟨i0,hi,hz0,hz1,hz2⟩:=info_parts Tryz.info117
 have hNode:Node (w.alloc (.cells #[.int .i64 s,.slice none 0 0] 121)) w.heap.size s (.slice none 0 0):=World.alloc_heap_new w _
 have hB0:Below w.heap.size w (w.alloc (.cells #[.int .i64 s,.slice none 0 0] 121)):=(Below.refl _ w).alloc (Nat.le_refl _) _
 obtain ⟨W0,hW0⟩:∃ W0,w.alloc (.cells #[.int .i64 s,.slice none 0 0] 121) = W0:=⟨_,rfl⟩
 rw [hW0] at hNode hB0
 have HW0:Hid (w.alloc (.cells #[.int .i64 s,.slice none 0 0] 121) = W0):=hW0
 clear hW0
 by_cases hc1:cap = 1
 ·subst hc1
  have hl1:zs.length = 1:=by omega
  have hr0:r = 0:=by have:=Tm.pos_mono zs 0 1 r;have h:=Tm.pos_succ zs 0 0;rw [Nat.zero_add] at h;have:=Tm.endAt_gt zs (Tm.pos zs 0 0);have:=Tm.pos_zero zs 0;omega
  subst hr0
  rw [Tm.pos_zero]
  go_enter Tryz.func110,Tryz.ntmps110
  go_wp2
  rw [HW0.out]
  have hn0:=hNode.cell0
  have HN:=show Hid _ from hNode
  clear hNode hl1
  refine wp_loop_rounds 1 ?_
  rw [rounds_succ]
  go_wp2_with (go_at_call 43;refine (hsz _).mono ?_;rintro e wr ⟨rfl,rfl⟩)
  go_ret2
  refine ⟨some ⟨w.heap.size,0,none⟩,some ⟨b,off,none⟩,0,?_,hB0,fun n X hX=>by rw [List.drop_of_length_le (by omega)];exact Ints.nil _ _ _,by omega,by unfold maxLen;omega⟩
  rw [show zs.length - (0+1) = 0 from by omega];rfl
 ·have Hc1:Hid (¬ cap = 1):=hc1
  go_enter Tryz.func110,Tryz.ntmps110
  go_wp2
  rw [HW0.out]
  go_loopw [5,6] (fun q i wr=>∃ (m:Nat) (a':Option Addr) (c':Nat) (v:Value) (xs:List Value),m≤r∧i = .int .i64 (m:Int)∧q = .slice a' (zs.length - Tm.pos zs 0 m) c'∧Hid (∀ n X,Ints n X (some ⟨b,off,none⟩) zs→Ints n X a' (zs.drop (Tm.pos zs 0 m)))∧zs.length - Tm.pos zs 0 m≤c'∧c'≤maxLen ∧
   Node wr w.heap.size s v∧wr.ownsRow (w.heap.size+1) 117 1 v m xs∧Below w.heap.size w wr) (fun _ i _=>r - (intOf i).toNat)
  case atStart=>exact ⟨0,_,_,_,[],Nat.zero_le _,rfl,by rw [Tm.pos_zero],fun n X hX=>by rw [Tm.pos_zero];exact hX.drop 1,by rw [Tm.pos_zero];omega,by unfold maxLen;omega,hNode,World.ownsRow_nil _ _ _ _,hB0⟩
  case round =>
   obtain ⟨m,a',c',v,xs,hm,rfl,rfl,hIa,hca,hca2,hN,hown,hB⟩:=hrel
   have hn0:=hN.cell0
   by_cases hlt:m < r
   ·have hlt':(m:Int) < (r:Int):=by omega
    have hp1:=Tm.pos_gt zs 0 m
    have hp2:=Tm.pos_succ zs 0 m
    have hp3:=Tm.pos_mono zs 0 (m+1) r (by omega)
    have hp4:=Tm.endAt_gt zs (Tm.pos zs 0 m)
    have hg:=ih'.out (Tm.pos zs 0 m) a' c' wr hp1 (by omega) (by unfold Tm.endAt at hp2;omega) hca hca2 ((hIa.out _ _ (Ints.below hB hI'.out)).mono hB.size)
    rw [← hp2] at hg
    have hX:=hN.lt
    have hca3:c'≤9223372036854775807:=hca2
    have Hp3:=show Hid _ from hp3
    clear hp1 hp2 hp3 hp4 hca2 hNode hB0 hcap2
    go_wp2_with (first
     | (go_at_call 43;refine (hsz _).mono ?_;rintro e wr ⟨rfl,rfl⟩)
     | (go_at_call 110;refine hg.mono ?_;clear hg;rintro e W1 ⟨p,a2,c2,rfl,hB1,hI2,hc2,hc22⟩;have hN1:=hN.kept (grown_of_below hB1) (by simp);have hown1:=hown.kept (grown_of_below hB1) (by cases h:v.ownBlock with | none=>exact .inl rfl | some k=>exact .inr (by simp));obtain ⟨ao,co,rfl⟩:=own_form hown1;have hn1:=hN1.cell1;have hf1:=hN1.frozen;have HI2:=show Hid _ from hI2;clear hI2;have Hc22:=show Hid _ from hc22;clear hc22)
     | (at_builtin;go_loud (refine wpList_append_own _ rfl _ _ 113 rfl (w.heap.size+1) 117 i0 (.pointer none) 1 8 Tryz.underlying113 hi hz0 hz1 hz2 rfl (by decide) _ _ _ rfl (hown1.alloc _) ⟨W1.heap.size,0,none⟩ 1 1 [.pointer p] rfl rfl (cell_one_new _ _ _) (by simp [Value.oneCell']) (by unfold maxLen;omega) (by omega) (by have:=hB1.size;simp;omega) ?_);intro v' w2 hown' hgrow _;obtain ⟨g',cap',rfl⟩:=ownsRow_succ hown';have R:=hN1.appended hown1 hown' hgrow;have hn2:=R.1.cell1;have hf2:=R.1.frozen;have HR:=show Hid _ from R;clear R hown' hgrow))
    exact ⟨⟨m+1,a2,c2,_,_,by omega,by go_num,rfl,fun n X hX=>HI2.out n X (hIa.out n X hX),hc2,Hc22.out,HR.out.2.1,HR.out.2.2.1,(hB.trans (hB1.mono hB.size)).trans HR.out.2.2.2⟩,by simp [intOf];omega⟩
   ·obtain rfl:m = r:=by omega
    go_wp2_with (go_at_call 43;refine (hsz _).mono ?_;rintro e wr ⟨rfl,rfl⟩)
    go_ret2
    exact ⟨_,_,_,rfl,hB,hIa,hca,hca2⟩
theorem Tm.endAt_drop (zs:List Int) (e:Nat):Tm.endAt zs e = e+Tm.run (zs.drop e) 1:=rfl
theorem grown_any:∀ (m:Nat) (zs:List Int) (a:Option Addr) (cap:Nat) (w:World),zs.length≤m→zs.length≤30→0 < zs.length→zs.all Tm.known = true→Tm.run zs 1≤zs.length→zs.length≤cap→cap≤maxLen→Ints w.heap.size w a zs →
 Calls Tryz.prog 110 #[.slice a zs.length cap] w fun r w'=>∃ p a2 c2,r = .returned (.tuple #[.pointer p,.slice a2 (zs.length - Tm.run zs 1) c2])∧Below w.heap.size w w'∧(∀ n X,Ints n X a zs→Ints n X a2 (zs.drop (Tm.run zs 1)))∧zs.length - Tm.run zs 1≤c2∧c2≤maxLen:=by
 intro m
 induction m with
 | zero=>intro zs a cap w h1 _ h2;omega
 | succ m ih =>
  intro zs a cap w hm h30 h0 hall hrun hcap hcap2 hI
  refine grown_step zs a cap w h30 h0 hall hrun hcap hcap2 hI ?_
  intro e a' cap' W he1 he2 hr hc hc2 hIe
  have h:=ih (zs.drop e) a' cap' W (by rw [List.length_drop];omega) (by rw [List.length_drop];omega) (by rw [List.length_drop];omega)
   (by rw [List.all_eq_true] at hall ⊢;exact fun x hx=>hall x (List.mem_of_mem_drop hx)) (by rw [List.length_drop];exact hr) (by rw [List.length_drop];exact hc) hc2 hIe
  simp only [List.length_drop,List.drop_drop] at h
  rw [Tm.endAt_drop,show zs.length - (e+Tm.run (zs.drop e) 1) = zs.length - e - Tm.run (zs.drop e) 1 from by omega]
  exact h
theorem Tm.run_mono (l:List Int) {n m:Nat} (h:n≤m):Tm.run l n≤Tm.run l m:=by
 obtain ⟨d,rfl⟩:∃ d,m = n+d:=⟨m - n,by omega⟩
 rw [Tm.run_add];omega
theorem Tm.endAt_in_run:∀ (l:List Int) (n k:Nat),k < Tm.run l n→Tm.endAt l k≤Tm.run l n:=by
 intro l
 induction l with
 | nil=>intro n k h;rw [Tm.run_nil] at *;rw [Tm.endAt_out _ _ (by simp)];omega
 | cons s l ih =>
  intro n k h
  cases n with
  | zero=>rw [Tm.run_zero] at h;omega
  | succ n =>
   rw [Tm.run_cons] at h ⊢
   cases k with
   | zero =>
    rw [Tm.endAt_zero,show (1:Nat) = 0+1 from rfl,Tm.run_cons]
    have:=Tm.run_mono l (n:=0+Tm.room s) (m:=n+Tm.room s) (by omega)
    omega
   | succ k =>
    have:=ih (n+Tm.room s) k (by omega)
    unfold Tm.endAt at this ⊢
    rw [List.drop_succ_cons]
    omega
theorem Tm.end_in {zs:List Int} (he:Tm.err zs = 0) {k:Nat} (hk:k < zs.length):Tm.endAt zs k≤zs.length:=by
 have hr:=Tm.err_run he
 have:=Tm.endAt_in_run zs 1 k (by omega)
 omega
def Tm.part (zs:List Int) (k:Nat):List Int:=(zs.drop k).take (Tm.endAt zs k - k)
theorem Tm.part_length {zs:List Int} (he:Tm.err zs = 0) {k:Nat} (hk:k < zs.length):(Tm.part zs k).length = Tm.endAt zs k - k:=by
 have:=Tm.end_in he hk
 simp only [Tm.part,List.length_take,List.length_drop]
 omega
theorem Tryz.info3:(Tryz.prog.info? 3).map (fun i=>(i.zero,i.size,i.bytes)) = some (some (.int .i64 0),1,8):=by kernel_rfl
def New (base:Nat) (W:World) (v:Value) (zs:List Int):Prop:=W.ownsRow base 3 1 v zs.length (zs.map (Value.int .i64))
theorem New.ints {base:Nat} {W:World} {v:Value} {zs:List Int} (h:New base W v zs):∃ a cap,v = .slice a zs.length cap∧Ints W.heap.size W a zs∧zs.length≤cap∧cap≤maxLen:=by
 rcases h.2 with ⟨rfl,hn⟩ | ⟨g,cap,cur,rfl,hb,hg,h1,h2,h3,h4⟩
 ·exact ⟨none,0,by rw [hn],fun j hj=>by omega,by omega,by omega⟩
 ·refine ⟨_,_,rfl,fun j hj=>⟨g,0,rfl,(Array.getElem?_eq_some_iff.1 hg).1,?_⟩,h1,h2⟩
  have h5:=World.ownsRow.cellAt (show W.ownsRow base 3 1 (.slice (some ⟨g,0,none⟩) zs.length cap) zs.length (zs.map (Value.int .i64)) from h) j (by omega)
  rw [Nat.zero_add,h5]
  simp [hj]
theorem New.below {base:Nat} {W W':World} {v:Value} {zs:List Int} (h:New base W v zs) (hB:Below W.heap.size W W'):New base W' v zs :=
 World.ownsRow.kept h (grown_of_below hB) (by cases h:v.ownBlock with | none=>exact .inl rfl | some k=>exact .inr (by simp))
theorem New.mono {base base':Nat} {W:World} {v:Value} {zs:List Int} (h:New base W v zs) (hb:base'≤base):New base' W v zs :=
 ⟨h.1,h.2.elim .inl (fun ⟨g,cap,cur,h1,h2,h3⟩=>.inr ⟨g,cap,cur,h1,Nat.le_trans hb h2,h3⟩)⟩
theorem New.nil (base:Nat) (W:World):New base W (.slice none 0 0) []:=World.ownsRow_nil _ _ _ _
theorem New.lit (base:Nat) (W:World) (zs:List Int) (hb:base≤W.heap.size) (hm:zs.length≤maxLen):New base (W.alloc (.cells (zs.map (Value.int .i64)).toArray 3)) (.slice (some ⟨W.heap.size,0,none⟩) zs.length zs.length) zs:=by
 have h:=World.ownsRow_lit (base:=base) (e:=3) (size:=1) W (zs.map (Value.int .i64)).toArray zs.length hb hm (by simp)
 simpa [New] using h
theorem Ints.news {n:Nat} {W:World} {ad:Addr} {zs:List Int} (h:Ints n W (some ad) zs):∀ j u,(zs.map (Value.int .i64))[j]? = some u→W.cell? (ad.add j) = some u:=by
 intro j u hj
 have hlt:j < zs.length:=by
  have:=(List.getElem?_eq_some_iff.1 hj).1
  simpa using this
 obtain ⟨b,off,e,_,hc⟩:=h j hlt
 cases e
 rw [Go.WideShapes.add_plain,hc]
 simpa [hlt] using hj
theorem wp_append_ints {ops:Array Oper} {rest:List Oper} {o:Oper} {a:Act} {Q:Exit→Act→World→Prop} (w:World) (hgd:o.guard = none) (s x:Operand)
 (ho:o.op = .call { callee:=.builtin .append,args:=#[s,x],argTypes:=#[35,35] }) (base:Nat) (v:Value) (xs:List Int) (hs:a.eval s = v) (hN:New base w v xs)
 (ao:Option Addr) (ys:List Int) (c:Nat) (hx:a.eval x = .slice ao ys.length c) (hn:ao = none→ys.length = 0∧c = 0) (hI:Ints w.heap.size w ao ys) (hlen:xs.length+ys.length≤1000000) (hbase:base≤w.heap.size)
 (h:∀ v' w',New base w' v' (xs++ys)→Below base w w'→wpList Tryz.prog ops Q rest (a.put o.dst v') w'):wpList Tryz.prog ops Q (o :: rest) a w:=by
 obtain ⟨i0,hi,hz0,hz1,hz2⟩:=info_parts Tryz.info3
 cases ao with
 | none =>
  obtain ⟨h0,rfl⟩:=hn rfl
  obtain rfl:ys = []:=List.eq_nil_of_length_eq_zero h0
  refine wpList_append_own_none hgd s x 35 ho base 3 i0 1 Tryz.underlying35 hi v xs.length (xs.map (Value.int .i64)) hs hN hx (h v w (by simpa using hN) (Below.refl _ _))
 | some ad =>
  refine wpList_append_own w hgd s x 35 ho base 3 i0 (.int .i64 0) 1 8 Tryz.underlying35 hi hz0 hz1 hz2 rfl (by decide) v xs.length (xs.map (Value.int .i64)) hs hN ad ys.length c (ys.map (Value.int .i64)) hx (by simp) hI.news
   (by intro u hu;simp at hu;obtain ⟨z,_,rfl⟩:=hu;rfl) (by unfold maxLen;omega) (by omega) hbase ?_
  intro v' w' hown hg _
  refine h v' w' (by simpa [New] using hown) ((Below.refl base w).grown hg hbase (fun k e=>(World.ownsRow.lt hN k e).1))
set_option maxRecDepth 100000 in
set_option maxHeartbeats 400000 in
theorem clone_any (zs:List Int) (b off cap:Nat) (w:World) (h30:zs.length≤30) (hI:Ints w.heap.size w (some ⟨b,off,none⟩) zs) :
 Calls Tryz.prog 47 #[.slice (some ⟨b,off,none⟩) zs.length cap] w fun e w'=>∃ v,e = .returned v∧New w.heap.size w' v zs∧Below w.heap.size w w':=by
 have he:∀ (w:World) (n c:Nat),(binOp .eql 35 (.slice (some ⟨b,off,none⟩) n c) (.slice none 0 0)).run Tryz.prog w = .ok (.bool false) w:=fun _ _ _=>rfl
 have hl:New w.heap.size (w.alloc (.cells #[] 3)) (.slice (some ⟨w.heap.size,0,none⟩) 0 0) []:=New.lit w.heap.size w [] (Nat.le_refl _) (by unfold maxLen;simp)
 have hB:Below w.heap.size w (w.alloc (.cells #[] 3)):=(Below.refl _ _).alloc (Nat.le_refl _) _
 have hI2:=(hI.below hB).mono hB.size
 go_enter Tryz.func47,Tryz.ntmps47
 go_wp2_with (at_builtin;go_loud (refine wp_append_ints _ rfl _ _ rfl w.heap.size _ [] rfl hl _ zs cap rfl (fun h=>by cases h) hI2 (by simp;omega) (by simp) ?_);intro v' w2 hN hB2)
 obtain ⟨a',c',rfl,_⟩:=New.ints hN
 go_ret
 exact ⟨_,rfl,hN,hB.trans hB2⟩
theorem Ints.sub {n:Nat} {W:World} {b off:Nat} {zs:List Int} (h:Ints n W (some ⟨b,off,none⟩) zs) (k m:Nat):Ints n W (some ⟨b,off+k,none⟩) ((zs.drop k).take m):=fun j hj=>by
 have hj':j < m∧j < zs.length - k:=by
  simp only [List.length_take,List.length_drop] at hj
  omega
 obtain ⟨b',off',he,hb,hc⟩:=(h.drop k) j (by rw [List.length_drop];omega)
 cases he
 refine ⟨b,off+k,rfl,hb,?_⟩
 rw [hc]
 simp [hj'.1]
set_option maxRecDepth 100000 in
set_option maxHeartbeats 400000 in
theorem endOf_any (zs:List Int) (a:Option Addr) (cap j:Nat) (w:World) (hI:Ints w.heap.size w a zs) (hcap:zs.length≤cap) (hcap2:cap≤maxLen) (he:Tm.err zs = 0) (hj:j < zs.length) :
 Calls Tryz.prog 120 #[.slice a zs.length cap,.int .i64 (j:Int)] w fun e w'=>e = .returned (.int .i64 (Tm.endAt zs j:Int))∧Below w.heap.size w w':=by
 have h30:=Tm.err_len he
 have hei:=Tm.end_in he hj
 have heg:=Tm.endAt_gt zs j
 have hall:=Tm.err_all he
 obtain ⟨b,off,rfl,hb,hc⟩:=hI.at (by omega)
 have hg:Calls Tryz.prog 110 #[.slice (some ⟨b,off+j,none⟩) (zs.length - j) (cap - j)] w fun r w'=>∃ p a2 c2,r = .returned (.tuple #[.pointer p,.slice a2 (zs.length - Tm.endAt zs j) c2])∧Below w.heap.size w w':=by
  have h:=grown_any (zs.drop j).length (zs.drop j) (some ⟨b,off+j,none⟩) (cap - j) w (Nat.le_refl _) (by rw [List.length_drop];omega) (by rw [List.length_drop];omega)
   (by rw [List.all_eq_true] at hall ⊢;exact fun x hx=>hall x (List.mem_of_mem_drop hx)) (by rw [List.length_drop];unfold Tm.endAt at hei;omega) (by rw [List.length_drop];omega) (by omega) (hI.drop j)
  rw [List.length_drop] at h
  refine h.mono ?_
  rintro e w' ⟨p,a2,c2,rfl,hB,_⟩
  exact ⟨p,a2,c2,by rw [Tm.endAt_drop,show zs.length - (j+Tm.run (zs.drop j) 1) = zs.length - j - Tm.run (zs.drop j) 1 from by omega],hB⟩
 unfold maxLen at hcap2
 clear hall hc hI he
 generalize Tm.endAt zs j = q at *
 have h1:(j:Int) < (zs.length:Int):=by omega
 have h2:(zs.length:Int)≤30:=by omega
 have h3:¬ cap - j = 0:=by omega
 have h4:(zs.length:Int)≤(cap:Int):=by omega
 have h5:((zs.length - q:Nat):Int)≤30:=by omega
 go_enter Tryz.func120,Tryz.ntmps120
 go_wp2_with (go_at_call 110;refine hg.mono ?_;clear hg;rintro e w1 ⟨p,a2,c2,rfl,hB1⟩)
 go_ret
 exact ⟨ret_int (by omega),hB1⟩
set_option maxRecDepth 100000 in
set_option maxHeartbeats 400000 in
theorem partOf_any (zs:List Int) (a:Option Addr) (cap j:Nat) (w:World) (hI:Ints w.heap.size w a zs) (hcap:zs.length≤cap) (hcap2:cap≤maxLen) (he:Tm.err zs = 0) (hj:j < zs.length) :
 Calls Tryz.prog 94 #[.slice a zs.length cap,.int .i64 (j:Int)] w fun e w'=>∃ v,e = .returned v∧New w.heap.size w' v (Tm.part zs j)∧Below w.heap.size w w':=by
 have h30:=Tm.err_len he
 have hei:=Tm.end_in he hj
 have heg:=Tm.endAt_gt zs j
 have hpl:=Tm.part_length he hj
 obtain ⟨b,off,rfl,hb,hc⟩:=hI.at (by omega)
 have hB0:Below w.heap.size w (w.alloc (.cells #[] 3)):=(Below.refl _ _).alloc (Nat.le_refl _) _
 have hl:New w.heap.size (w.alloc (.cells #[] 3)) (.slice (some ⟨w.heap.size,0,none⟩) 0 0) []:=New.lit w.heap.size w [] (Nat.le_refl _) (by unfold maxLen;simp)
 have hE:=endOf_any zs (some ⟨b,off,none⟩) cap j (w.alloc (.cells #[] 3)) ((hI.below hB0).mono hB0.size) hcap hcap2 he hj
 have hIs:=hI.sub j (Tm.endAt zs j - j)
 unfold maxLen at hcap2
 clear hc hI he
 have Hpl:Hid ((Tm.part zs j).length = Tm.endAt zs j - j):=hpl
 have HIs:Hid (Ints w.heap.size w (some ⟨b,off+j,none⟩) (Tm.part zs j)):=hIs
 clear hpl hIs
 generalize Tm.part zs j = pt at *
 generalize Tm.endAt zs j = q at *
 have h1:(j:Int)≤(q:Int):=by omega
 have h2:(q:Int)≤(cap:Int):=by omega
 have h3:¬ cap - j = 0:=by omega
 go_enter Tryz.func94,Tryz.ntmps94
 go_wp2_with (first
  | (go_at_call 120;refine hE.mono ?_;clear hE;rintro e w1 ⟨rfl,hB1⟩;have hl1:=New.below hl hB1;have hB2:=hB0.trans (hB1.mono hB0.size))
  | (at_builtin;go_loud (refine wp_append_ints _ rfl _ _ rfl w.heap.size _ [] rfl hl1 (some ⟨b,off+j,none⟩) pt (cap - j) (by rw [Hpl.out];rfl) (fun h=>by cases h) ((HIs.out.below hB2).mono hB2.size) (by simp [Hpl.out];omega) hB2.size ?_);intro v' w2 hN hB3))
 obtain ⟨a',c',rfl,_⟩:=New.ints hN
 go_ret
 exact ⟨_,rfl,hN,hB2.trans hB3⟩
set_option maxRecDepth 100000 in
set_option maxHeartbeats 400000 in
theorem grow_nil (n:Nat) (w:World) (h1:1≤n) (h2:n≤100000) :
 Calls Tryz.prog 126 #[.slice none 0 0,.int .i64 (n:Int)] w fun e w'=>∃ v,e = .returned v∧New w.heap.size w' v []∧Below w.heap.size w w':=by
 obtain ⟨i0,hi,hz0,hz1,hz2⟩:=info_parts Tryz.info3
 have happ:=Lib.run_append_nil_zeros (P:=Tryz.prog) w 35 3 35 3 i0 (.int .i64 0) .i64 .i64 Tryz.underlying35 Tryz.underlying3 hi hz0 n (by omega) (by omega) (by omega) (by rw [hz2];omega)
 generalize hcap:grownCap w n 0 3 = cap2 at happ
 have hcapge:n≤cap2:=by rw [← hcap];exact grownCap_ge w _ 0 3
 have hcaple:cap2≤maxLen:=by rw [← hcap];exact grownCap_le_maxLen w _ 0 3 (by unfold maxLen;omega)
 generalize hZ:(Builtin.zeroCells (Value.int .i64 0).cells n++Builtin.zeroCells (Value.int .i64 0).cells (cap2 - n)) = Z at happ
 have hZs:Z.size = cap2:=by rw [← hZ];simp [size_zeroCells,Value.cells];omega
 clear hcap hZ
 have hp:(0:Int) < (n:Int):=by omega
 have hq:(n:Int)≤100000:=by omega
 have hcz:¬ cap2 = 0:=by omega
 go_enter Tryz.func126,Tryz.ntmps126
 go_wp2_with (at_builtin;go_loud (refine Lib.wpList_append_run _ rfl _ _ _ _ rfl _ _ rfl rfl _ _ happ ?_))
 go_ret
 exact ⟨_,rfl,⟨by simp,.inr ⟨w.heap.size,cap2,Z,rfl,Nat.le_refl _,World.alloc_heap_new w _,Nat.zero_le _,hcaple,by omega,by simp⟩⟩,((Below.refl _ _).alloc (Nat.le_refl _) _).drew⟩
def lens (l:List (List Int)):Nat:=(l.map List.length).sum
theorem lens_snoc {l:List (List Int)} {k:Nat} (h:k < l.length):lens (l.take (k+1)) = lens (l.take k)+(l[k]?.getD []).length:=by
 have e:l[k]?.getD [] = l[k]:=by simp [h]
 rw [List.take_succ_eq_append_getElem h,e]
 unfold lens
 rw [List.map_append,List.sum_append]
 simp only [List.map_cons,List.map_nil,List.sum_cons,List.sum_nil,Nat.add_zero]
theorem lens_le (l:List (List Int)) (k:Nat):lens (l.take k)≤lens l:=by
 have h:lens l = lens (l.take k)+lens (l.drop k):=by
  unfold lens
  rw [← List.sum_append,← List.map_append,List.take_append_drop]
 omega
theorem flat_snoc {l:List (List Int)} {k:Nat} (h:k < l.length):(l.take (k+1)).flatten = (l.take k).flatten++(l[k]?.getD []):=by
 have e:l[k]?.getD [] = l[k]:=by simp [h]
 rw [List.take_succ_eq_append_getElem h,e,List.flatten_append]
 simp only [List.flatten_cons,List.flatten_nil,List.append_nil]
theorem flat_len (l:List (List Int)):l.flatten.length = lens l:=by simp [lens,List.length_flatten]
set_option maxRecDepth 100000 in
set_option maxHeartbeats 1000000 in
theorem concat_any (zss:List (List Int)) (fa:Nat→Option Addr) (fc:Nat→Nat) (B cap:Nat) (w:World) (hl:zss.length≤1000) (hsum:lens zss≤1000) (hpos:0 < lens zss) (hB:B < w.heap.size)
 (hcell:∀ j,j < zss.length→w.cell? ⟨B,j,none⟩ = some (.slice (fa j) (zss[j]?.getD []).length (fc j))) (hI:∀ j,j < zss.length→Ints w.heap.size w (fa j) (zss[j]?.getD []))
 (hn:∀ j,j < zss.length→fa j = none→(zss[j]?.getD []).length = 0∧fc j = 0) :
 Calls Tryz.prog 105 #[.slice (some ⟨B,0,none⟩) zss.length cap] w fun e w'=>∃ v,e = .returned v∧New w.heap.size w' v zss.flatten∧Below w.heap.size w w':=by
 have h1:(zss.length:Int)≤1000:=by omega
 have Hcell:=show Hid _ from hcell
 have HI:=show Hid _ from hI
 have Hn:=show Hid _ from hn
 clear hcell hI hn
 go_enter Tryz.func105,Tryz.ntmps105
 go_wp2
 go_loop [3,11] (fun q i=>∃ k:Nat,k≤zss.length∧i = .int .i64 (k:Int)∧q = .int .i64 (lens (zss.take k):Int)) (fun _ i=>zss.length - (intOf i).toNat)
 case atStart=>exact ⟨0,Nat.zero_le _,rfl,rfl⟩
 case round =>
  obtain ⟨k,hk,rfl,rfl⟩:=hrel
  have hle:=lens_le zss k
  by_cases hlt:k < zss.length
  ·have hlt':(k:Int) < (zss.length:Int):=by omega
   have hck:=Hcell.out k hlt
   have hsn:=lens_snoc hlt
   have hle2:=lens_le zss (k+1)
   have Hsn:=show Hid _ from hsn
   rw [hsn] at hle2
   clear hsn
   generalize (zss[k]?.getD []).length = m at *
   generalize lens (zss.take k) = q at *
   have hq0:(0:Int)≤(q:Int)+(m:Int):=by omega
   have hq1:(q:Int)+(m:Int)≤1000:=by omega
   go_wp2
   go_round
   case rel=>exact ⟨k+1,by omega,by go_num,by rw [Hsn.out];go_num⟩
   case measure=>simp [intOf];omega
  ·obtain rfl:k = zss.length:=by omega
   rw [List.take_length] at *
   go_wp2_with fail
   refine (grow_nil (lens zss) _ (by omega) (by omega)).mono ?_
   rintro e w1 ⟨v0,rfl,hN0,hB1⟩
   obtain ⟨a0,c0,rfl,_⟩:=New.ints hN0
   go_wp2
   go_loopw [6,27] (fun v i wr=>∃ k:Nat,k≤zss.length∧i = .int .i64 (k:Int)∧New w.heap.size wr v (zss.take k).flatten∧Below w.heap.size w wr) (fun _ i _=>zss.length - (intOf i).toNat)
   case atStart=>exact ⟨0,Nat.zero_le _,rfl,hN0,hB1⟩
   case round =>
    clear hN0 hB1
    obtain ⟨k,hk,rfl,hN,hBr⟩:=hrel
    by_cases hlt:k < zss.length
    ·have hlt':(k:Int) < (zss.length:Int):=by omega
     have hck:=(hBr.cell (p:=⟨B,k,none⟩) hB).trans (Hcell.out k hlt)
     have hIk:=((HI.out k hlt).below hBr).mono hBr.size
     have hnk:=show Hid _ from Hn.out k hlt
     have hfs:=show Hid _ from flat_snoc hlt
     have hll:(zss.take k).flatten.length+(zss[k]?.getD []).length≤1000:=by
      rw [flat_len];have:=lens_snoc hlt;have:=lens_le zss (k+1);omega
     generalize zss[k]?.getD [] = ys at *
     generalize (zss.take k).flatten = xs at *
     go_wp2_with (at_builtin;go_loud (refine wp_append_ints _ rfl _ _ rfl w.heap.size _ xs rfl hN _ ys _ rfl hnk.out hIk (by omega) hBr.size ?_);intro v' w2 hN2 hB2;obtain ⟨a2,c2,rfl,_⟩:=New.ints hN2)
     go_roundw
     case rel=>exact ⟨k+1,by omega,by go_num,by rw [hfs.out];simpa using hN2,hBr.trans hB2⟩
     case measure=>simp [intOf];omega
    ·obtain rfl:k = zss.length:=by omega
     rw [List.take_length] at hN
     obtain ⟨a2,c2,rfl,_⟩:=New.ints hN
     go_wp2
     go_ret
     exact ⟨_,rfl,hN,hBr⟩
end Go.Proofs.YtglohanbpjaieaaGreat
