/-
  Parts of the proof: Rul1, Rul2, RulA, Rul3, RowR, Prs1, Prs1b, Web1, Web2, Web3.
-/
import Derived.Test.YtglohanbpjaieaaGreatBrt9
import Derived.Test.YtglohanbpjaieaaGreatBrt2
import Derived.Deep.SlicePairs
import Derived.ChangeOld
import Derived.Test.YtglohanbpjaieaaGreatBrt3
import Derived.Test.YtglohanbpjaieaaGreatBrt6
namespace Go.Proofs.YtglohanbpjaieaaGreat
open Go.Proofs Go.RowKit Go.Shelf Go.Maps
set_option maxRecDepth 100000 in
set_option maxHeartbeats 400000 in
theorem indexT_any (zs:List Int) (x:Int) (a:Option Addr) (cap:Nat) (w:World) (hI:Ints w.heap.size w a zs) (hm:zs.length≤maxLen) :
 Calls Tryz.prog 122 #[.slice a zs.length cap,.int .i64 x] w fun e w'=>∃ k:Int,e = .returned (.int .i64 k)∧decide (0≤k) = Tm.hasB zs x∧w' = w:=by
 unfold maxLen at hm
 go_enter Tryz.func122,Tryz.ntmps122
 go_wp2
 go_loop [8] (fun i=>∃ k:Nat,k≤zs.length∧i = .int .i64 (k:Int)∧∀ j,j < k→zs[j]?.getD 0≠x) (fun i=>zs.length - (intOf i).toNat)
 case atStart=>exact ⟨0,Nat.zero_le _,rfl,fun j hj=>by omega⟩
 case round =>
  obtain ⟨k,hk,rfl,hno⟩:=hrel
  by_cases hlt:k < zs.length
  ·have hlt':(k:Int) < (zs.length:Int):=by omega
   obtain ⟨b,off,rfl,hb,hc⟩:=hI.at (by omega)
   have hck:=hc k hlt
   have hsn:=hid (has_no hno)
   have hye:=hid (@has_yes zs x k hlt)
   clear hc hI hno
   generalize zs[k]?.getD 0 = s at *
   by_cases he:s = x
   ·have hb1:(x == s) = true:=by simp [he]
    have He:=hid he
    clear he
    go_wp2
    go_ret
    exact ⟨_,rfl,by rw [hye.out He.out];simp,rfl⟩
   ·have hb1:(x == s) = false:=by simp;exact fun e=>he e.symm
    have He:=hid he
    clear he
    go_wp2
    go_round
    case rel=>exact ⟨k+1,by omega,by go_num,hsn.out He.out⟩
    case measure=>simp [intOf];omega
  ·obtain rfl:k = zs.length:=by omega
   have hn:=hid (has_none hno)
   clear hno
   go_wp2
   go_ret
   exact ⟨-1,rfl,by rw [hn.out];rfl,rfl⟩
set_option maxHeartbeats 400000 in
theorem containsT_any (zs:List Int) (x:Int) (a:Option Addr) (cap:Nat) (w:World) (hI:Ints w.heap.size w a zs) (hm:zs.length≤maxLen) :
 Calls Tryz.prog 100 #[.slice a zs.length cap,.int .i64 x] w fun e w'=>e = .returned (.bool (Tm.hasB zs x))∧w' = w:=by
 have hC:=indexT_any zs x a cap w hI hm
 go_enter Tryz.func100,Tryz.ntmps100
 go_wp2_with fail
 refine hC.mono ?_
 rintro e w ⟨k,rfl,hk,rfl⟩
 have Hk:=hid hk
 clear hk hC
 go_wp2
 go_ret
 exact ⟨ret_bool Hk.out,rfl⟩
theorem any_snoc {zs:List Int} {p:Int→Bool} {k:Nat} (hk:k < zs.length) (h:(zs.take k).any p = false) (hs:p (zs[k]?.getD 0) = false):(zs.take (k+1)).any p = false:=by
 rw [take_snoc hk,List.any_append,h]
 simpa using hs
theorem any_yes {zs:List Int} {p:Int→Bool} {k:Nat} (hk:k < zs.length) (hs:p (zs[k]?.getD 0) = true):zs.any p = true:=by
 rw [List.any_eq_true]
 exact ⟨zs[k],List.getElem_mem hk,by simpa [hk] using hs⟩
def foreignB (s:Int):Bool:=decide (s < -4)
def freeIn (L:List Int) (s:Int):Bool:=decide (s < 0) && !Tm.hasB L s
set_option maxHeartbeats 400000 in
theorem foreign_any (s:Int) (w:World):Calls Tryz.prog 98 #[.int .i64 s] w fun e w'=>e = .returned (.bool (foreignB s))∧w' = w:=by
 go_enter Tryz.func98,Tryz.ntmps98
 go_wp2
 go_ret
 exact ⟨rfl,rfl⟩
set_option maxHeartbeats 400000 in
theorem free_any (L:List Int) (s:Int) (B:Nat) (aL:Option Addr) (cL:Nat) (w:World) (hB:w.cell? ⟨B,0,none⟩ = some (.slice aL L.length cL)) (hI:Ints w.heap.size w aL L) (hm:L.length≤maxLen) :
 Calls Tryz.prog 99 #[.int .i64 s,.pointer (some ⟨B,0,none⟩)] w fun e w'=>e = .returned (.bool (freeIn L s))∧w' = w:=by
 have hC:=containsT_any L s aL cL w hI hm
 by_cases h0:s < 0
 ·have hv:freeIn L s = !Tm.hasB L s:=by unfold freeIn;rw [decide_eq_true h0];rfl
  rw [hv]
  clear hv
  generalize Tm.hasB L s = q at *
  go_enter Tryz.func99,Tryz.ntmps99
  go_wp2_with (first
   | (go_at_call 100;refine hC.mono ?_;rintro e w ⟨rfl,rfl⟩))
  go_ret
  exact ⟨rfl,rfl⟩
 ·have hv:freeIn L s = false:=by unfold freeIn;rw [decide_eq_false h0];rfl
  have h0':decide (s < 0) = false:=by simpa using h0
  rw [hv]
  clear hv
  go_enter Tryz.func99,Tryz.ntmps99
  go_wp2
  go_ret
  exact ⟨rfl,rfl⟩
set_option maxRecDepth 100000 in
set_option maxHeartbeats 400000 in
theorem indexF1_any (zs:List Int) (a:Option Addr) (cap:Nat) (w:World) (hI:Ints w.heap.size w a zs) (hm:zs.length≤maxLen) :
 Calls Tryz.prog 119 #[.slice a zs.length cap,.func (.func 98) #[] #[]] w fun e w'=>∃ k:Int,e = .returned (.int .i64 k)∧decide (0≤k) = zs.any (fun s=>foreignB s)∧w' = w:=by
 unfold maxLen at hm
 have hF:=fun s=>foreign_any s w
 go_enter Tryz.func119,Tryz.ntmps119
 go_wp2
 go_loop [8] (fun i=>∃ k:Nat,k≤zs.length∧i = .int .i64 (k:Int)∧(zs.take k).any (fun s=>foreignB s) = false) (fun i=>zs.length - (intOf i).toNat)
 case atStart=>exact ⟨0,Nat.zero_le _,rfl,by simp⟩
 case round =>
  obtain ⟨k,hk,rfl,hno⟩:=hrel
  by_cases hlt:k < zs.length
  ·have hlt':(k:Int) < (zs.length:Int):=by omega
   obtain ⟨b,off,rfl,hb,hc⟩:=hI.at (by omega)
   have hck:=hc k hlt
   have hsn:=hid (any_snoc (p:=fun s=>foreignB s) hlt hno)
   have hye:=hid (any_yes (p:=fun s=>foreignB s) hlt)
   have hCk:=hid (hF (zs[k]?.getD 0))
   clear hc hI hno
   generalize zs[k]?.getD 0 = s at *
   cases hq:(foreignB s) with
   | true =>
    rw [hq] at hCk
    have Hy:=hid (hye.out hq)
    clear hq hsn
    go_wp2_with (go_at_call 98;refine hCk.out.mono ?_;rintro e w ⟨rfl,rfl⟩)
    go_ret
    exact ⟨_,rfl,by rw [Hy.out];simp,rfl⟩
   | false =>
    rw [hq] at hCk
    have Hn:=hid (hsn.out hq)
    clear hq hye
    go_wp2_with (go_at_call 98;refine hCk.out.mono ?_;rintro e w ⟨rfl,rfl⟩)
    go_round
    case rel=>exact ⟨k+1,by omega,by go_num,Hn.out⟩
    case measure=>simp [intOf];omega
  ·obtain rfl:k = zs.length:=by omega
   rw [List.take_length] at hno
   have hn:=hid hno
   clear hno
   go_wp2
   go_ret
   exact ⟨-1,rfl,by rw [hn.out];rfl,rfl⟩
set_option maxHeartbeats 400000 in
theorem containsF1_any (zs:List Int) (a:Option Addr) (cap:Nat) (w:World) (hI:Ints w.heap.size w a zs) (hm:zs.length≤maxLen) :
 Calls Tryz.prog 92 #[.slice a zs.length cap,.func (.func 98) #[] #[]] w fun e w'=>e = .returned (.bool (zs.any (fun s=>foreignB s)))∧w' = w:=by
 have hC:=indexF1_any zs a cap w hI hm
 go_enter Tryz.func92,Tryz.ntmps92
 go_wp2_with fail
 refine hC.mono ?_
 rintro e w ⟨k,rfl,hk,rfl⟩
 have Hk:=hid hk
 clear hk hC
 go_wp2
 go_ret
 exact ⟨ret_bool Hk.out,rfl⟩
set_option maxRecDepth 100000 in
set_option maxHeartbeats 400000 in
theorem indexF2_any (zs:List Int) (L:List Int) (B:Nat) (aL:Option Addr) (cL:Nat) (a:Option Addr) (cap:Nat) (w:World) (hI:Ints w.heap.size w a zs) (hm:zs.length≤maxLen) (hB:w.cell? ⟨B,0,none⟩ = some (.slice aL L.length cL)) (hL:Ints w.heap.size w aL L) (hmL:L.length≤maxLen) :
 Calls Tryz.prog 119 #[.slice a zs.length cap,.func (.func 99) #[] #[.pointer (some ⟨B,0,none⟩)]] w fun e w'=>∃ k:Int,e = .returned (.int .i64 k)∧decide (0≤k) = zs.any (fun s=>freeIn L s)∧w' = w:=by
 unfold maxLen at hm
 have hF:=fun s=>free_any L s B aL cL w hB hL hmL
 clear hB hL hmL
 go_enter Tryz.func119,Tryz.ntmps119
 go_wp2
 go_loop [8] (fun i=>∃ k:Nat,k≤zs.length∧i = .int .i64 (k:Int)∧(zs.take k).any (fun s=>freeIn L s) = false) (fun i=>zs.length - (intOf i).toNat)
 case atStart=>exact ⟨0,Nat.zero_le _,rfl,by simp⟩
 case round =>
  obtain ⟨k,hk,rfl,hno⟩:=hrel
  by_cases hlt:k < zs.length
  ·have hlt':(k:Int) < (zs.length:Int):=by omega
   obtain ⟨b,off,rfl,hb,hc⟩:=hI.at (by omega)
   have hck:=hc k hlt
   have hsn:=hid (any_snoc (p:=fun s=>freeIn L s) hlt hno)
   have hye:=hid (any_yes (p:=fun s=>freeIn L s) hlt)
   have hCk:=hid (hF (zs[k]?.getD 0))
   clear hc hI hno
   generalize zs[k]?.getD 0 = s at *
   cases hq:(freeIn L s) with
   | true =>
    rw [hq] at hCk
    have Hy:=hid (hye.out hq)
    clear hq hsn
    go_wp2_with (go_at_call 99;refine hCk.out.mono ?_;rintro e w ⟨rfl,rfl⟩)
    go_ret
    exact ⟨_,rfl,by rw [Hy.out];simp,rfl⟩
   | false =>
    rw [hq] at hCk
    have Hn:=hid (hsn.out hq)
    clear hq hye
    go_wp2_with (go_at_call 99;refine hCk.out.mono ?_;rintro e w ⟨rfl,rfl⟩)
    go_round
    case rel=>exact ⟨k+1,by omega,by go_num,Hn.out⟩
    case measure=>simp [intOf];omega
  ·obtain rfl:k = zs.length:=by omega
   rw [List.take_length] at hno
   have hn:=hid hno
   clear hno
   go_wp2
   go_ret
   exact ⟨-1,rfl,by rw [hn.out];rfl,rfl⟩
set_option maxHeartbeats 400000 in
theorem containsF2_any (zs:List Int) (L:List Int) (B:Nat) (aL:Option Addr) (cL:Nat) (a:Option Addr) (cap:Nat) (w:World) (hI:Ints w.heap.size w a zs) (hm:zs.length≤maxLen) (hB:w.cell? ⟨B,0,none⟩ = some (.slice aL L.length cL)) (hL:Ints w.heap.size w aL L) (hmL:L.length≤maxLen) :
 Calls Tryz.prog 92 #[.slice a zs.length cap,.func (.func 99) #[] #[.pointer (some ⟨B,0,none⟩)]] w fun e w'=>e = .returned (.bool (zs.any (fun s=>freeIn L s)))∧w' = w:=by
 have hC:=indexF2_any zs L B aL cL a cap w hI hm hB hL hmL
 go_enter Tryz.func92,Tryz.ntmps92
 go_wp2_with fail
 refine hC.mono ?_
 rintro e w ⟨k,rfl,hk,rfl⟩
 have Hk:=hid hk
 clear hk hC
 go_wp2
 go_ret
 exact ⟨ret_bool Hk.out,rfl⟩
def Tm.ruleErr (L R:List Int):Int :=
 if Tm.err L = 0 then (if Tm.err R = 0 then (if L.any foreignB = true then 3 else if R.any foreignB = true then 3 else if L[0]?.getD 0 < 0 then 1 else if R.any (freeIn L) = true then 4 else 0) else Tm.err R) else Tm.err L
set_option maxRecDepth 100000 in
set_option maxHeartbeats 1000000 in
theorem checkOne_any (L R:List Int) (aL aR:Option Addr) (cL cR:Nat) (w:World) (hL:Ints w.heap.size w aL L) (hR:Ints w.heap.size w aR R) :
 Calls Tryz.prog 67 #[.agg #[.slice aL L.length cL,.slice aR R.length cR]] w fun e w'=>e = .returned (.int .i64 (Tm.ruleErr L R))∧Below w.heap.size w w':=by
 have hB0:Below w.heap.size w (w.alloc (.cells #[.slice aL L.length cL,.slice aR R.length cR] 54)):=(Below.refl _ w).alloc (Nat.le_refl _) _
 have hblk:=World.alloc_heap_new w (.cells #[.slice aL L.length cL,.slice aR R.length cR] 54)
 obtain ⟨w1,hw1⟩:∃ w1,w.alloc (.cells #[.slice aL L.length cL,.slice aR R.length cR] 54) = w1:=⟨_,rfl⟩
 rw [hw1] at hB0 hblk
 have HW:=hid hw1
 clear hw1
 have d0:w1.cell? ⟨w.heap.size,0,none⟩ = some (.slice aL L.length cL):=by simp [World.cell?,hblk]
 have d1:w1.cell? ⟨w.heap.size,1,none⟩ = some (.slice aR R.length cR):=by simp [World.cell?,hblk]
 have hlt:w.heap.size < w1.heap.size:=(Array.getElem?_eq_some_iff.1 hblk).1
 have hL1:=(hL.below hB0).mono hB0.size
 have hR1:=(hR.below hB0).mono hB0.size
 have C1:=check_any L aL cL w1 hL1
 have C2:=hid (fun W (hW:Below w1.heap.size w1 W)=>check_any R aR cR W ((hR1.below hW).mono hW.size))
 have D0:=hid (fun W (hW:Below w1.heap.size w1 W)=>(hW.cell (p:=⟨w.heap.size,0,none⟩) hlt).trans d0)
 have D1:=hid (fun W (hW:Below w1.heap.size w1 W)=>(hW.cell (p:=⟨w.heap.size,1,none⟩) hlt).trans d1)
 have d0e:(w.alloc (.cells #[.slice aL L.length cL,.slice aR R.length cR] 54)).cell? ⟨w.heap.size,0,none⟩ = some (.slice aL L.length cL):=by rw [HW.out];exact d0
 have hmf:∀ (fn:Fn) (first cap:Array Value) (w:World),(Instr.makeFunc fn first cap).run Tryz.prog w = .ok (.func fn first cap) w:=fun _ _ _ _=>rfl
 have HB0:=hid hB0
 clear hblk hB0
 by_cases h1:Tm.err L = 0
 ·by_cases h2:Tm.err R = 0
  ·have lL:=Tm.err_len h1
   have lR:=Tm.err_len h2
   have pL:=Tm.err_pos h1
   have pL':(0:Int) < (L.length:Int):=by omega
   have C3:=hid (fun W (hW:Below w1.heap.size w1 W)=>containsF1_any L aL cL W ((hL1.below hW).mono hW.size) (by unfold maxLen;omega))
   have C4:=hid (fun W (hW:Below w1.heap.size w1 W)=>containsF1_any R aR cR W ((hR1.below hW).mono hW.size) (by unfold maxLen;omega))
   have C5:=hid (fun W (hW:Below w1.heap.size w1 W)=>containsF2_any R L w.heap.size aL cL aR cR W ((hR1.below hW).mono hW.size) (by unfold maxLen;omega) (D0.out W hW) ((hL1.below hW).mono hW.size) (by unfold maxLen;omega))
   obtain ⟨b,off,rfl,_,_⟩:=hL1.at pL
   have C6:=hid (fun W (hW:Below w1.heap.size w1 W)=>show W.cell? ⟨b,off+0,none⟩ = some (.int .i64 (L[0]?.getD 0)) by
    obtain ⟨_,_,e,_,hc⟩:=((hL1.below hW).mono hW.size) 0 pL
    cases e;exact hc)
   simp only [Nat.add_zero] at C6
   have hv:Tm.ruleErr L R = (if L.any foreignB = true then 3 else if R.any foreignB = true then 3 else if L[0]?.getD 0 < 0 then 1 else if R.any (freeIn L) = true then 4 else 0):=by unfold Tm.ruleErr;rw [if_pos h1,if_pos h2]
   rw [hv]
   rw [h1] at C1
   rw [h2] at C2
   clear h1 h2 hv hL hR hL1 hR1
   generalize L[0]?.getD 0 = s at *
   change Hid (∀ W,Below w1.heap.size w1 W→Calls _ _ _ W fun e w'=>e = .returned (.bool (R.any (freeIn L)))∧w' = W) at C5
   change Hid (∀ W,Below w1.heap.size w1 W→Calls _ _ _ W fun e w'=>e = .returned (.bool (L.any foreignB))∧w' = W) at C3
   change Hid (∀ W,Below w1.heap.size w1 W→Calls _ _ _ W fun e w'=>e = .returned (.bool (R.any foreignB))∧w' = W) at C4
   generalize R.any (freeIn L) = q3 at *
   generalize L.any foreignB = q1 at *
   generalize R.any foreignB = q2 at *
   cases q1 with
   | true =>
    rw [if_pos rfl]
    go_enter Tryz.func67,Tryz.ntmps67
    go_wp2_with (first
     | (go_at_call_of 49 (Value.slice (some ⟨b,off,none⟩) L.length cL);rw [HW.out];refine C1.mono ?_;clear C1;rintro e w2 ⟨rfl,b2⟩;have e2:=D1.out w2 b2)
     | (go_at_call_of 49 (Value.slice aR R.length cR);refine (C2.out w2 b2).mono ?_;clear C2;rintro e w3 ⟨rfl,b3'⟩;have b3:=b2.trans (b3'.mono b2.size);have f0:=D0.out w3 b3;have f1:=D1.out w3 b3)
     | (go_at_call_of 92 (Value.slice (some ⟨b,off,none⟩) L.length cL);refine (C3.out w3 b3).mono ?_;rintro e w3 ⟨rfl,rfl⟩))
    go_ret
    exact ⟨rfl,HB0.out.trans (b3.mono HB0.out.size)⟩
   | false =>
    rw [if_neg (by decide)]
    cases q2 with
    | true =>
     rw [if_pos rfl]
     go_enter Tryz.func67,Tryz.ntmps67
     go_wp2_with (first
      | (go_at_call_of 49 (Value.slice (some ⟨b,off,none⟩) L.length cL);rw [HW.out];refine C1.mono ?_;clear C1;rintro e w2 ⟨rfl,b2⟩;have e2:=D1.out w2 b2)
      | (go_at_call_of 49 (Value.slice aR R.length cR);refine (C2.out w2 b2).mono ?_;clear C2;rintro e w3 ⟨rfl,b3'⟩;have b3:=b2.trans (b3'.mono b2.size);have f0:=D0.out w3 b3;have f1:=D1.out w3 b3)
      | (go_at_call_of 92 (Value.slice (some ⟨b,off,none⟩) L.length cL);refine (C3.out w3 b3).mono ?_;rintro e w3 ⟨rfl,rfl⟩)
      | (go_at_call_of 92 (Value.slice aR R.length cR);refine (C4.out w3 b3).mono ?_;clear C4;rintro e w3 ⟨rfl,rfl⟩;have c6:=C6.out w3 b3))
     go_ret
     exact ⟨rfl,HB0.out.trans (b3.mono HB0.out.size)⟩
    | false =>
     rw [if_neg (by decide)]
     by_cases hs:s < 0
     ·rw [if_pos hs]
      go_enter Tryz.func67,Tryz.ntmps67
      go_wp2_with (first
       | (go_at_call_of 49 (Value.slice (some ⟨b,off,none⟩) L.length cL);rw [HW.out];refine C1.mono ?_;clear C1;rintro e w2 ⟨rfl,b2⟩;have e2:=D1.out w2 b2)
       | (go_at_call_of 49 (Value.slice aR R.length cR);refine (C2.out w2 b2).mono ?_;clear C2;rintro e w3 ⟨rfl,b3'⟩;have b3:=b2.trans (b3'.mono b2.size);have f0:=D0.out w3 b3;have f1:=D1.out w3 b3)
       | (go_at_call_of 92 (Value.slice (some ⟨b,off,none⟩) L.length cL);refine (C3.out w3 b3).mono ?_;rintro e w3 ⟨rfl,rfl⟩)
       | (go_at_call_of 92 (Value.slice aR R.length cR);refine (C4.out w3 b3).mono ?_;clear C4;rintro e w3 ⟨rfl,rfl⟩;have c6:=C6.out w3 b3))
      go_ret
      exact ⟨rfl,HB0.out.trans (b3.mono HB0.out.size)⟩
     ·rw [if_neg hs]
      have hs':decide (s < 0) = false:=by simpa using hs
      clear hs
      cases q3 with
      | true =>
       rw [if_pos rfl]
       go_enter Tryz.func67,Tryz.ntmps67
       go_wp2_with (first
        | (go_at_call_of 49 (Value.slice (some ⟨b,off,none⟩) L.length cL);rw [HW.out];refine C1.mono ?_;clear C1;rintro e w2 ⟨rfl,b2⟩;have e2:=D1.out w2 b2)
        | (go_at_call_of 49 (Value.slice aR R.length cR);refine (C2.out w2 b2).mono ?_;clear C2;rintro e w3 ⟨rfl,b3'⟩;have b3:=b2.trans (b3'.mono b2.size);have f0:=D0.out w3 b3;have f1:=D1.out w3 b3)
        | (go_at_call_of 92 (Value.slice (some ⟨b,off,none⟩) L.length cL);refine (C3.out w3 b3).mono ?_;rintro e w3 ⟨rfl,rfl⟩)
        | (go_at_call_of 92 (Value.slice aR R.length cR);refine (C4.out w3 b3).mono ?_;clear C4;rintro e w3 ⟨rfl,rfl⟩;have c6:=C6.out w3 b3)
        | (go_at_call_of 92 (Value.slice aR R.length cR);refine (C5.out w3 b3).mono ?_;rintro e w3 ⟨rfl,rfl⟩))
       go_ret
       exact ⟨rfl,HB0.out.trans (b3.mono HB0.out.size)⟩
      | false =>
       rw [if_neg (by decide)]
       go_enter Tryz.func67,Tryz.ntmps67
       go_wp2_with (first
        | (go_at_call_of 49 (Value.slice (some ⟨b,off,none⟩) L.length cL);rw [HW.out];refine C1.mono ?_;clear C1;rintro e w2 ⟨rfl,b2⟩;have e2:=D1.out w2 b2)
        | (go_at_call_of 49 (Value.slice aR R.length cR);refine (C2.out w2 b2).mono ?_;clear C2;rintro e w3 ⟨rfl,b3'⟩;have b3:=b2.trans (b3'.mono b2.size);have f0:=D0.out w3 b3;have f1:=D1.out w3 b3)
        | (go_at_call_of 92 (Value.slice (some ⟨b,off,none⟩) L.length cL);refine (C3.out w3 b3).mono ?_;rintro e w3 ⟨rfl,rfl⟩)
        | (go_at_call_of 92 (Value.slice aR R.length cR);refine (C4.out w3 b3).mono ?_;clear C4;rintro e w3 ⟨rfl,rfl⟩;have c6:=C6.out w3 b3)
        | (go_at_call_of 92 (Value.slice aR R.length cR);refine (C5.out w3 b3).mono ?_;rintro e w3 ⟨rfl,rfl⟩))
       go_ret
       exact ⟨rfl,HB0.out.trans (b3.mono HB0.out.size)⟩
  ·have hv:Tm.ruleErr L R = Tm.err R:=by unfold Tm.ruleErr;rw [if_pos h1,if_neg h2]
   have hn:(Tm.err R != 0) = true:=by simpa using h2
   rw [hv]
   rw [h1] at C1
   clear h1 h2 hv hL hR hL1 hR1
   generalize Tm.err R = q at *
   go_enter Tryz.func67,Tryz.ntmps67
   go_wp2_with (first
    | (go_at_call_of 49 (Value.slice aL L.length cL);rw [HW.out];refine C1.mono ?_;clear C1;rintro e w2 ⟨rfl,b2⟩;have e2:=D1.out w2 b2)
    | (go_at_call_of 49 (Value.slice aR R.length cR);refine (C2.out w2 b2).mono ?_;clear C2;rintro e w3 ⟨rfl,b3'⟩;have b3:=b2.trans (b3'.mono b2.size);have f0:=D0.out w3 b3;have f1:=D1.out w3 b3))
   go_ret
   exact ⟨rfl,HB0.out.trans (b3.mono HB0.out.size)⟩
 ·have hv:Tm.ruleErr L R = Tm.err L:=by unfold Tm.ruleErr;rw [if_neg h1]
  have hn:(Tm.err L != 0) = true:=by simpa using h1
  rw [hv]
  clear h1 hv hL hR hL1 hR1
  generalize Tm.err L = q at *
  go_enter Tryz.func67,Tryz.ntmps67
  go_wp2_with (first
   | (go_at_call_of 49 (Value.slice aL L.length cL);rw [HW.out];refine C1.mono ?_;clear C1;rintro e w2 ⟨rfl,b2⟩;have e2:=D1.out w2 b2))
  go_ret
  exact ⟨rfl,HB0.out.trans (b2.mono HB0.out.size)⟩
abbrev RuleL:=List (List Int × List Int)
def RulesAt (n:Nat) (W:World) (a:Option Addr) (rs:RuleL):Prop :=
 ∀ k,k < rs.length→∃ b off,a = some ⟨b,off,none⟩∧b < n∧∃ aL cL aR cR,W.cell? ⟨b,off+k * 2,none⟩ = some (.slice aL (rs[k]?.getD ([],[])).1.length cL)∧W.cell? ⟨b,off+k * 2+1,none⟩ = some (.slice aR (rs[k]?.getD ([],[])).2.length cR) ∧
  Ints n W aL (rs[k]?.getD ([],[])).1∧Ints n W aR (rs[k]?.getD ([],[])).2∧(rs[k]?.getD ([],[])).1.length≤cL∧cL≤maxLen∧(rs[k]?.getD ([],[])).2.length≤cR∧cR≤maxLen
theorem RulesAt.below {n:Nat} {A B:World} (h:Below n A B) {a:Option Addr} {rs:RuleL} (hi:RulesAt n A a rs):RulesAt n B a rs:=fun k hk=>by
 obtain ⟨b,off,e,hb,aL,cL,aR,cR,h1,h2,h3,h4,r⟩:=hi k hk
 exact ⟨b,off,e,hb,aL,cL,aR,cR,(h.cell (p:=⟨b,off+k * 2,none⟩) hb).trans h1,(h.cell (p:=⟨b,off+k * 2+1,none⟩) hb).trans h2,h3.below h,h4.below h,r⟩
theorem RulesAt.mono {n m:Nat} (h:n≤m) {W:World} {a:Option Addr} {rs:RuleL} (hi:RulesAt n W a rs):RulesAt m W a rs:=fun k hk=>by
 obtain ⟨b,off,e,hb,aL,cL,aR,cR,h1,h2,h3,h4,r⟩:=hi k hk
 exact ⟨b,off,e,by omega,aL,cL,aR,cR,h1,h2,h3.mono h,h4.mono h,r⟩
def Tm.firstRule:RuleL→Int
 | []=>0
 | r :: l=>if Tm.ruleErr r.1 r.2 = 0 then Tm.firstRule l else Tm.ruleErr r.1 r.2
def Tm.rulesErr (rs:RuleL):Int:=if 8 < rs.length then 2 else Tm.firstRule rs
theorem Tm.firstRule_step {rs:RuleL} {k:Nat} (hk:k < rs.length) (he:Tm.ruleErr (rs[k]?.getD ([],[])).1 (rs[k]?.getD ([],[])).2 = 0):Tm.firstRule (rs.drop k) = Tm.firstRule (rs.drop (k+1)):=by
 rw [List.drop_eq_getElem_cons hk,Tm.firstRule]
 simp only [hk,List.getElem?_eq_getElem,Option.getD_some] at he
 rw [if_pos he]
theorem Tm.firstRule_at {rs:RuleL} {k:Nat} (hk:k < rs.length) (he:Tm.ruleErr (rs[k]?.getD ([],[])).1 (rs[k]?.getD ([],[])).2≠0):Tm.firstRule (rs.drop k) = Tm.ruleErr (rs[k]?.getD ([],[])).1 (rs[k]?.getD ([],[])).2:=by
 rw [List.drop_eq_getElem_cons hk,Tm.firstRule]
 simp only [hk,List.getElem?_eq_getElem,Option.getD_some] at he ⊢
 rw [if_neg he]
set_option maxRecDepth 100000 in
set_option maxHeartbeats 1000000 in
theorem rulesCheck_any (rs:RuleL) (a:Option Addr) (cap:Nat) (w:World) (hI:RulesAt w.heap.size w a rs) :
 Calls Tryz.prog 48 #[.slice a rs.length cap] w fun e w'=>e = .returned (.int .i64 (Tm.rulesErr rs))∧Below w.heap.size w w':=by
 by_cases h8:8 < rs.length
 ·have h8':(8:Int) < (rs.length:Int):=by omega
  have hv:Tm.rulesErr rs = 2:=by unfold Tm.rulesErr;rw [if_pos h8]
  rw [hv]
  clear h8 hv hI
  go_enter Tryz.func48,Tryz.ntmps48
  go_wp2
  go_ret
  exact ⟨rfl,Below.refl _ _⟩
 ·have h8':(rs.length:Int)≤8:=by omega
  have hv:Tm.rulesErr rs = Tm.firstRule rs:=by unfold Tm.rulesErr;rw [if_neg h8]
  rw [hv]
  clear hv h8
  go_enter Tryz.func48,Tryz.ntmps48
  go_wp2
  go_loopw [11] (fun v wr=>∃ k:Nat,k≤rs.length∧v = .int .i64 (k:Int)∧Hid (Tm.firstRule rs = Tm.firstRule (rs.drop k))∧Below w.heap.size w wr) (fun v _=>rs.length - (intOf v).toNat)
  case atStart=>exact ⟨0,Nat.zero_le _,rfl,hid rfl,Below.refl _ _⟩
  case round =>
   obtain ⟨k,hk,rfl,hst,hB⟩:=hrel
   by_cases hlt:k < rs.length
   ·have hlt':(k:Int) < (rs.length:Int):=by omega
    obtain ⟨b,off,rfl,hb,aL,cL,aR,cR,h1,h2,h3,h4,_⟩:=(hI.below hB) k hlt
    have hs1:=hid (Tm.firstRule_step hlt)
    have hs2:=hid (Tm.firstRule_at hlt)
    obtain ⟨L,hL⟩:∃ L,(rs[k]?.getD ([],[])).1 = L:=⟨_,rfl⟩
    obtain ⟨R,hR⟩:∃ R,(rs[k]?.getD ([],[])).2 = R:=⟨_,rfl⟩
    rw [hL] at h1 h3 hs1 hs2
    rw [hR] at h2 h4 hs1 hs2
    have hBa:Below wr.heap.size wr (wr.alloc (.cells #[.slice aL L.length cL,.slice aR R.length cR] 54)):=(Below.refl _ wr).alloc (Nat.le_refl _) _
    have hC:=hid (checkOne_any L R aL aR cL cR (wr.alloc (.cells #[.slice aL L.length cL,.slice aR R.length cR] 54)) (((h3.mono hB.size).below hBa).mono hBa.size) (((h4.mono hB.size).below hBa).mono hBa.size))
    have hBw:=hB.trans (hBa.mono hB.size)
    clear hL hR h3 h4 hI
    by_cases he:Tm.ruleErr L R = 0
    ·rw [he] at hC
     have Hs:=hid (hs1.out he)
     clear he hs1 hs2
     go_wp2_with (first
      | (go_at_call 67;refine hC.out.mono ?_;clear hC;rintro e w2 ⟨rfl,b2⟩))
     go_roundw
     case rel=>exact ⟨k+1,by omega,by go_num,hid (hst.out.trans Hs.out),hBw.trans (b2.mono hBw.size)⟩
     case measure=>simp [intOf];omega
    ·have hn:(Tm.ruleErr L R != 0) = true:=by simpa using he
     have Hs:=hid (hs2.out he)
     clear he hs1 hs2
     generalize Tm.ruleErr L R = q at *
     go_wp2_with (first
      | (go_at_call 67;refine hC.out.mono ?_;clear hC;rintro e w2 ⟨rfl,b2⟩))
     go_ret
     exact ⟨ret_int (hst.out.trans Hs.out).symm,hBw.trans (b2.mono hBw.size)⟩
   ·obtain rfl:k = rs.length:=by omega
    go_wp2
    go_ret
    exact ⟨by rw [hst.out,List.drop_length];rfl,hB⟩
end Go.Proofs.YtglohanbpjaieaaGreat
namespace Go.Proofs.YtglohanbpjaieaaGreat
open Go.Proofs Go.RowKit Go.Shelf Go.Deep Go.ChangeShapes Go.WideShapes
def RulesIn (w:World) (a:Option Addr) (len cap:Nat):Prop:=∃ rs:RuleL,rs.length = len∧RulesAt w.heap.size w a rs∧len≤cap∧cap≤maxLen
theorem term_open {H:Type} {enc:TypeId × Value→H} {w:World} {fuel:Nat} {v:Value} {x:DataW H × List MemPlace} (h:DataW.trod enc Tryz.prog w 0 (fun _=>true) true fuel 35 [v] = some x) :
 ∃ y:List Int × Option Addr × Nat,v = .slice y.2.1 y.1.length y.2.2∧Ints w.heap.size w y.2.1 y.1∧y.1.length≤y.2.2∧y.2.2≤maxLen:=by
 rcases open_ints Tryz.underlying35 Tryz.underlying3 (by kernel_rfl) h with ⟨hcs,_⟩ | ⟨a,l,c,zs,hcs,_,hl,hm,hz,_,hcell,hwz⟩
 ·simp only [List.cons.injEq,and_true] at hcs
  subst hcs
  exact ⟨([],none,0),rfl,Ints.nil _ _ _,Nat.le_refl _,Nat.zero_le _⟩
 ·simp only [List.cons.injEq,and_true] at hcs
  subst hcs
  simp only [if_true] at hz
  have hI:=ints_of_cells (w:=w) (a:=some a) (L:=l) (C:=c) (Z:=zs) hl hz (fun y hy k hk=>by cases hy;exact hcell k (by omega)) (fun e=>by cases e)
  have hlen:(zs.take l).length = l:=by rw [List.length_take];omega
  exact ⟨(zs.take l,some a,c),by rw [hlen],hI,by rw [hlen];exact hl,hm⟩
theorem rulesIn_open {H:Type} {enc:TypeId × Value→H} {w:World} {fuel:Nat} {a:Option Addr} {len cap:Nat} {cs:List Value} {x:DataW H × List MemPlace} {t e:TypeId} {f0 f1:Field} (ht:Tryz.prog.underlying t = some (.slice e)) (he:Tryz.prog.underlying e = some (.struct #[f0,f1]))
 (ce:Tryz.prog.cellsOf e = 2) (o0:f0.offset = 0) (o1:f1.offset = 1) (t0:f0.type = 35) (t1:f1.type = 35) (hcs:cs = [.slice a len cap]) (h:DataW.trod enc Tryz.prog w 0 (fun _=>true) true fuel t cs = some x):RulesIn w a len cap:=by
 have c1:Tryz.prog.cellsOf 35 = 1:=by kernel_rfl
 rcases open_slice_pairs ht he ce o0 o1 (by rw [t0];exact c1) (by rw [t1];exact c1) h with ⟨hc,_⟩ | ⟨ad,l,c,m,n,V0,V1,D0,D1,P0,P1,hc,_,hl,hm,hmm,_,hrow⟩
 ·rw [hcs] at hc
  simp only [List.cons.injEq,Value.slice.injEq,and_true] at hc
  obtain ⟨rfl,rfl,rfl⟩:=hc
  exact ⟨[],rfl,fun k hk=>by simp at hk,Nat.le_refl _,Nat.zero_le _⟩
 ·rw [hcs] at hc
  simp only [List.cons.injEq,Value.slice.injEq,and_true] at hc
  obtain ⟨rfl,rfl,rfl⟩:=hc
  simp only [if_true] at hmm
  rw [t0,t1] at hrow
  have each:∀ i,i < m→∃ y:(List Int × Option Addr × Nat) × (List Int × Option Addr × Nat),(V0 i = .slice y.1.2.1 y.1.1.length y.1.2.2∧Ints w.heap.size w y.1.2.1 y.1.1∧y.1.1.length≤y.1.2.2∧y.1.2.2≤maxLen)∧(V1 i = .slice y.2.2.1 y.2.1.length y.2.2.2∧Ints w.heap.size w y.2.2.1 y.2.1∧y.2.1.length≤y.2.2.2∧y.2.2.2≤maxLen):=fun i hi=>by
   obtain ⟨_,_,h0,h1⟩:=hrow i hi
   obtain ⟨y0,hy0⟩:=term_open h0
   obtain ⟨y1,hy1⟩:=term_open h1
   exact ⟨(y0,y1),hy0,hy1⟩
  obtain ⟨y,hy⟩:=choose_lt each
  refine ⟨(List.range len).map fun i=>((y i).1.1,(y i).2.1),by simp,fun k hk=>?_,hl,hm⟩
  have hk':k < len:=by simpa using hk
  obtain ⟨c0,c1',_,_⟩:=hrow k (by omega)
  obtain ⟨⟨e0,i0,q0,r0⟩,⟨e1,i1,q1,r1⟩⟩:=hy k (by omega)
  have hsp:=World.cell?_spot (hrow 0 (by omega)).1
  obtain ⟨b,off,spot⟩:=ad
  have hspot:spot = none:=by simpa [Addr.add] using hsp
  subst hspot
  rw [add_plain] at c0 c1'
  have e:((List.range len).map fun i=>((y i).1.1,(y i).2.1))[k]?.getD ([],[]) = ((y k).1.1,(y k).2.1):=by simp [hk']
  rw [e]
  exact ⟨b,off,rfl,by simpa using lt_of_cell c0,_,_,_,_,by rw [← e0];exact c0,by rw [← e1,Nat.add_assoc];exact c1',i0,i1,q0,r0,q1,r1⟩
end Go.Proofs.YtglohanbpjaieaaGreat
namespace Go.Proofs.YtglohanbpjaieaaGreat
open Go.Proofs Go.RowKit Go.Shelf Go.Maps
def Tm.oth (s:Int):Int:=if s < 0 then s - 4 else s
def Tm.others (t:List Int):List Int:=t.map Tm.oth
theorem Tm.others_length (t:List Int):(Tm.others t).length = t.length:=by simp [Tm.others]
theorem Tm.others_snoc {t:List Int} {k:Nat} (h:k < t.length):Tm.others (t.take (k+1)) = Tm.others (t.take k)++[Tm.oth (t[k]?.getD 0)]:=by
 rw [take_snoc h]
 simp [Tm.others]
set_option maxRecDepth 100000 in
theorem apart1_any (s:Int) (h8:-100≤s) (w:World) :
 Calls Tryz.prog 108 #[.int .i64 s] w fun e w'=>∃ b,e = .returned (.slice (some b) 1 1)∧Ints w'.heap.size w' (some b) [Tm.oth s]∧Below w.heap.size w w':=by
 by_cases hs:s < 0
 ·have ho:Hid (Tm.oth s = s - 4):=by show _ = _;unfold Tm.oth;rw [if_pos hs]
  have h:=ints_lit w [s - 4] _ rfl
  simp only [List.map_cons,List.map_nil] at h
  go_enter Tryz.func108,Tryz.ntmps108
  go_wp2
  go_ret
  exact ⟨_,rfl,by rw [ho.out];simpa using h,(Below.refl _ _).alloc (Nat.le_refl _) _⟩
 ·have ho:Hid (Tm.oth s = s):=by show _ = _;unfold Tm.oth;rw [if_neg hs]
  have h:=ints_lit w [s] _ rfl
  simp only [List.map_cons,List.map_nil] at h
  go_enter Tryz.func108,Tryz.ntmps108
  go_wp2
  go_ret
  exact ⟨_,rfl,by rw [ho.out];simpa using h,(Below.refl _ _).alloc (Nat.le_refl _) _⟩
set_option maxRecDepth 100000 in
set_option maxHeartbeats 400000 in
theorem change_apart (t:List Int) (at':Option Addr) (ct:Nat) (ht:t.length≤1000) (h8:∀ k,k < t.length→-100≤t[k]?.getD 0) (w:World) (hT:Ints w.heap.size w at' t) :
 Calls Tryz.prog 109 #[.slice at' t.length ct,.func (.func 108) #[] #[]] w fun e w'=>∃ v,e = .returned v∧New w.heap.size w' v (Tm.others t)∧Below w.heap.size w w':=by
 have hlen:(t.length:Int)≤1000:=by omega
 have HT:=hid hT
 have H8:=hid h8
 clear hT h8
 go_enter Tryz.func109,Tryz.ntmps109
 go_wp2
 go_loopw [5,10] (fun v i wr=>∃ k:Nat,k≤t.length∧i = .int .i64 (k:Int)∧New w.heap.size wr v (Tm.others (t.take k))∧Below w.heap.size w wr) (fun _ i _=>t.length - (intOf i).toNat)
 case atStart=>exact ⟨0,Nat.zero_le _,rfl,New.nil _ _,Below.refl _ _⟩
 case round =>
  obtain ⟨k,hk,rfl,hN,hBr⟩:=hrel
  by_cases hlt:k < t.length
  ·have hlt':(k:Int) < (t.length:Int):=by omega
   obtain ⟨b,off,rfl,hb,hc⟩:=HT.out.at (by omega)
   have hck:=(hBr.cell (p:=⟨b,off+k,none⟩) hb).trans (hc k hlt)
   have hf:=apart1_any (t[k]?.getD 0) (H8.out k hlt) wr
   have hsn:=hid (Tm.others_snoc hlt)
   have hle:=Tm.others_length (t.take k)
   rw [List.length_take] at hle
   have hle2:(Tm.others (t.take k)).length≤1000:=by omega
   clear hc hle
   generalize Tm.oth (t[k]?.getD 0) = pc at *
   generalize t[k]?.getD 0 = s at *
   generalize Tm.others (t.take k) = xs at *
   obtain ⟨a0,c0,rfl,_⟩:=New.ints hN
   go_wp2_with (first
    | (go_at_call 108;refine hf.mono ?_;clear hf;rintro e w1 ⟨b1,rfl,hI1,hB1⟩;have hN1:=New.below hN hB1;have hB2:=hBr.trans (hB1.mono hBr.size))
    | (at_builtin;go_loud (refine wp_append_ints _ rfl _ _ rfl w.heap.size _ xs rfl hN1 (some b1) [pc] 1 rfl (fun e=>by cases e) hI1 (by simp;omega) hB2.size ?_);intro v' w2 hN2 hB3;obtain ⟨a2,c2,rfl,_⟩:=New.ints hN2))
   go_roundw
   case rel=>exact ⟨k+1,by omega,by go_num,by rw [hsn.out];simpa using hN2,hB2.trans hB3⟩
   case measure=>simp [intOf];omega
  ·obtain rfl:k = t.length:=by omega
   rw [List.take_length] at hN
   obtain ⟨a2,c2,rfl,_⟩:=New.ints hN
   go_wp2
   go_ret
   exact ⟨_,rfl,hN,hBr⟩
def Box2 (W:World) (B:Nat) (t:TypeId) (x y:Value):Prop:=W.heap[B]? = some (.cells #[x,y] t (0,0))
theorem Box2.lt {W:World} {B:Nat} {t:TypeId} {x y:Value} (h:Box2 W B t x y):B < W.heap.size:=(Array.getElem?_eq_some_iff.1 h).1
theorem Box2.cell0 {W:World} {B:Nat} {t:TypeId} {x y:Value} (h:Box2 W B t x y):W.cell? ⟨B,0,none⟩ = some x:=by simp [World.cell?,show W.heap[B]? = _ from h]
theorem Box2.cell1 {W:World} {B:Nat} {t:TypeId} {x y:Value} (h:Box2 W B t x y):W.cell? ⟨B,1,none⟩ = some y:=by simp [World.cell?,show W.heap[B]? = _ from h]
theorem Box2.frozen {W:World} {B:Nat} {t:TypeId} {x y:Value} (h:Box2 W B t x y) (i:Nat):W.frozen? ⟨B,i,none⟩ = false:=by simp [World.frozen?,show W.heap[B]? = _ from h]
theorem Box2.new (W:World) (t:TypeId) (x y:Value):Box2 (W.alloc (.cells #[x,y] t)) W.heap.size t x y:=World.alloc_heap_new W _
theorem Box2.kept {W W':World} {row:Option Nat} {B:Nat} {t:TypeId} {x y:Value} (h:Box2 W B t x y) (hg:W.grownBy W' row) (hne:some B≠row):Box2 W' B t x y:=(hg.block B h.lt hne).trans h
theorem Box2.below {W W':World} {n B:Nat} {t:TypeId} {x y:Value} (h:Box2 W B t x y) (hb:Below n W W') (hn:B < n):Box2 W' B t x y:=(hb.block B hn).trans h
theorem Box2.alloc {W:World} {B:Nat} {t:TypeId} {x y:Value} (h:Box2 W B t x y) (o:Obj):Box2 (W.alloc o) B t x y:=h.kept (World.grownBy_alloc W o none) (by simp)
theorem Box2.set0 {W:World} {B:Nat} {t:TypeId} {x y:Value} (h:Box2 W B t x y) (u:Value):Box2 (W.setCell ⟨B,0,none⟩ u) B t u y:=by
 obtain ⟨hlt,hk⟩:=Array.getElem?_eq_some_iff.1 h
 show (W.heap.modify B _)[B]? = _
 rw [Array.getElem?_eq_getElem (by rw [Array.size_modify];exact hlt),Array.getElem_modify_self,hk]
 rfl
theorem Box2.set1 {W:World} {B:Nat} {t:TypeId} {x y:Value} (h:Box2 W B t x y) (u:Value):Box2 (W.setCell ⟨B,1,none⟩ u) B t x u:=by
 obtain ⟨hlt,hk⟩:=Array.getElem?_eq_some_iff.1 h
 show (W.heap.modify B _)[B]? = _
 rw [Array.getElem?_eq_getElem (by rw [Array.size_modify];exact hlt),Array.getElem_modify_self,hk]
 rfl
theorem New.keepQ {base:Nat} {W W':World} {v:Value} {xs:List Int} (h:New base W v xs) (hk:∀ q,base≤q→q < W.heap.size→W'.heap[q]? = W.heap[q]?):New base W' v xs :=
 ⟨h.1,h.2.elim .inl fun ⟨g,c,cur,e,hb,hg,r⟩=>.inr ⟨g,c,cur,e,hb,(hk g hb (Array.getElem?_eq_some_iff.1 hg).1).trans hg,r⟩⟩
def ApR (w:World) (L R:List Int) (F:Value→Value→Act) (e:Exit) (a':Act) (w4:World):Prop :=
 e = .normal∧∃ v u,a' = F v u∧New w.heap.size w4 v (Tm.others L)∧New w.heap.size w4 u (Tm.others R)∧Below w.heap.size w w4∧Box2 w4 (w.heap.size+1) 54 v u
theorem ApR.panic {w:World} {L R:List Int} {F:Value→Value→Act} {c:_} {a':Act} {w4:World} {G:Prop} (H:ApR w L R F (.panic c) a' w4):G:=by
 cases H.1
theorem results_agg {fn:Func} {tmps:Array Value} {w:World} {a B:Nat} {x y:Value} (h:fn.results = #[.cell a 54]) (ha:tmps.getD a undef = .pointer (some ⟨B,0,none⟩)) (hb:Box2 w B 54 x y):(results fn tmps).run Tryz.prog w = .ok (.agg #[x,y]) w:=by
 have ha':tmps[a]?.getD undef = .pointer (some ⟨B,0,none⟩):=by rw [← ha];simp
 simp only [results,h]
 simp [go_sem,ha',hb.cell0,hb.cell1]
set_option maxRecDepth 100000 in
set_option maxHeartbeats 4000000 in
theorem apart_any (L R:List Int) (aL aR:Option Addr) (cL cR:Nat) (w:World) (hL:Ints w.heap.size w aL L) (hR:Ints w.heap.size w aR R) (kL:L.length≤1000) (kR:R.length≤1000) (h8:∀ k,k < L.length→-100≤L[k]?.getD 0) (g8:∀ k,k < R.length→-100≤R[k]?.getD 0) :
 Calls Tryz.prog 79 #[.agg #[.slice aL L.length cL,.slice aR R.length cR]] w fun e w'=>∃ v u,e = .returned (.agg #[v,u])∧New w.heap.size w' v (Tm.others L)∧New w.heap.size w' u (Tm.others R)∧Below w.heap.size w w':=by
 have hmf:∀ (fn:Fn) (first cap:Array Value) (w:World),(Instr.makeFunc fn first cap).run Tryz.prog w = .ok (.func fn first cap) w:=fun _ _ _ _=>rfl
 obtain ⟨W2,hW2⟩:∃ W2,(w.alloc (.cells #[.slice aL L.length cL,.slice aR R.length cR] 54)).alloc (.cells #[.slice none 0 0,.slice none 0 0] 54) = W2:=⟨_,rfl⟩
 have hs2:W2.heap.size = w.heap.size+2:=by rw [← hW2];simp
 have hB2:Below w.heap.size w W2:=by rw [← hW2];exact ((Below.refl _ w).alloc (Nat.le_refl _) _).alloc (by simp) _
 have bx:Box2 W2 w.heap.size 54 (.slice aL L.length cL) (.slice aR R.length cR):=by rw [← hW2];exact (Box2.new w 54 _ _).alloc _
 have by':Box2 W2 (w.heap.size+1) 54 (.slice none 0 0) (.slice none 0 0):=by
  rw [← hW2]
  have h:=Box2.new (w.alloc (.cells #[.slice aL L.length cL,.slice aR R.length cR] 54)) 54 (.slice none 0 0) (.slice none 0 0)
  rwa [World.size_alloc] at h
 have hBd:Below W2.heap.size W2 W2.drew:=below_drewN (Below.refl _ W2) 1
 have hC1:=hid (change_apart L aL cL kL h8 W2.drew ((hL.below hB2).mono hB2.size))
 have hC2:=hid (fun w3 (hB3:Below W2.drew.heap.size W2.drew w3)=>change_apart R aR cR kR g8 w3 ((((hR.below hB2).mono hB2.size).below (hBd.trans (hB3.mono (Nat.le_refl _)))).mono hB3.size))
 have hbL:Hid (∀ w3,Below W2.drew.heap.size W2.drew w3→Box2 w3 w.heap.size 54 (.slice aL L.length cL) (.slice aR R.length cR)∧Box2 w3 (w.heap.size+1) 54 (.slice none 0 0) (.slice none 0 0)):=fun w3 hB3=>⟨(hB3.block _ (show w.heap.size < W2.heap.size by omega)).trans bx,(hB3.block _ (show w.heap.size+1 < W2.heap.size by omega)).trans by'⟩
 have hbR:Hid (∀ w3 w4,Below W2.drew.heap.size W2.drew w3→Below w3.heap.size w3 w4→Box2 w4 w.heap.size 54 (.slice aL L.length cL) (.slice aR R.length cR)∧Box2 w4 (w.heap.size+1) 54 (.slice none 0 0) (.slice none 0 0)):=fun w3 w4 hB3 hB4=>by
  obtain ⟨p,q⟩:=hbL.out w3 hB3
  exact ⟨(hB4.block _ p.lt).trans p,(hB4.block _ q.lt).trans q⟩
 have c20:=bx.cell0
 have c21:=bx.cell1
 have c20':W2.drew.cell? ⟨w.heap.size,0,none⟩ = some (.slice aL L.length cL):=c20
 have c21':W2.drew.cell? ⟨w.heap.size,1,none⟩ = some (.slice aR R.length cR):=c21
 have hfin:Hid (∀ w3 w4 v u,Below W2.drew.heap.size W2.drew w3→Below w3.heap.size w3 w4→New W2.drew.heap.size w3 v (Tm.others L)→New w3.heap.size w4 u (Tm.others R) →
  ApR w L R (fun v u=>{ tmps:=#[.agg #[.slice aL L.length cL,.slice aR R.length cR],.pointer (some ⟨w.heap.size,0,none⟩),.pointer (some ⟨w.heap.size+1,0,none⟩),.func (.func 108) #[] #[],.pointer (some ⟨w.heap.size,0,none⟩),.slice aL L.length cL,.func (.func 108) #[] #[],v,.pointer (some ⟨w.heap.size,1,none⟩),.slice aR R.length cR,.func (.func 108) #[] #[],u,.agg #[v,u]],defers:=[] }) .normal
   { tmps:=#[.agg #[.slice aL L.length cL,.slice aR R.length cR],.pointer (some ⟨w.heap.size,0,none⟩),.pointer (some ⟨w.heap.size+1,0,none⟩),.func (.func 108) #[] #[],.pointer (some ⟨w.heap.size,0,none⟩),.slice aL L.length cL,.func (.func 108) #[] #[],v,.pointer (some ⟨w.heap.size,1,none⟩),.slice aR R.length cR,.func (.func 108) #[] #[],u,.agg #[v,u]],defers:=[] }
   ((w4.setCell ⟨w.heap.size+1,0,none⟩ v).setCell ⟨w.heap.size+1,1,none⟩ u)):=fun w3 w4 v u hB3 hB4 hN3 hN4=>by
  have h23:W2.heap.size≤w3.heap.size:=hB3.size
  have hB:=hB2.trans (((hBd.trans (hB3.mono (Nat.le_refl _))).trans (hB4.mono h23)).mono hB2.size)
  have hk:∀ q,w.heap.size+2≤q→((w4.setCell ⟨w.heap.size+1,0,none⟩ v).setCell ⟨w.heap.size+1,1,none⟩ u).heap[q]? = w4.heap[q]?:=fun q hq=>(Below.heap_setCell _ _ _ q (show q≠w.heap.size+1 by omega)).trans (Below.heap_setCell _ _ _ q (show q≠w.heap.size+1 by omega))
  have n3:New (w.heap.size+2) w4 v (Tm.others L):=(hN3.mono (show w.heap.size+2≤W2.heap.size by omega)).below hB4
  have n4:New (w.heap.size+2) w4 u (Tm.others R):=hN4.mono (by omega)
  refine ⟨rfl,v,u,rfl,(n3.keepQ (fun q h1 _=>hk q h1)).mono (by omega),(n4.keepQ (fun q h1 _=>hk q h1)).mono (by omega),?_,?_⟩
  ·exact (hB.setCell (p:=⟨w.heap.size+1,0,none⟩) (by show w.heap.size≤w.heap.size+1;omega) v).setCell (p:=⟨w.heap.size+1,1,none⟩) (by show w.heap.size≤w.heap.size+1;omega) u
  ·exact ((hbR.out w3 w4 hB3 hB4).2.set0 v).set1 u
 have HW2:=hid hW2
 have mixed:Tryz.prog.follows .mixedOrders = true:=by kernel_rfl
 clear hW2 hL hR h8 g8 kL kR bx by' hB2 hBd
 go_enter Tryz.func79,Tryz.ntmps79
 go_wp2_with fail
 rw [HW2.out]
 refine wp_mono (Q:=ApR w L R (fun v u=>{ tmps:=#[.agg #[.slice aL L.length cL,.slice aR R.length cR],.pointer (some ⟨w.heap.size,0,none⟩),.pointer (some ⟨w.heap.size+1,0,none⟩),.func (.func 108) #[] #[],.pointer (some ⟨w.heap.size,0,none⟩),.slice aL L.length cL,.func (.func 108) #[] #[],v,.pointer (some ⟨w.heap.size,1,none⟩),.slice aR R.length cR,.func (.func 108) #[] #[],u,.agg #[v,u]],defers:=[] })) ?reg ?aft
 case reg =>
  refine wp_region_any mixed ?_
  change wpAny _ _ _ _ _ _ _ (World.drew _)
  show wpAny _ _ _ _ 10 (Array.replicate 10 false) _ _
  refine wpAny_take (i:=0) (v:=.pointer (some ⟨w.heap.size,0,none⟩)) rfl (by kernel_rfl) (by kernel_rfl) (by kernel_rfl) (fun _ _ _ h=>h.panic) (Or.inl ⟨by rfl,fun w=>by go_simp⟩) ?_
  refine wpAny_take (i:=2) (v:=.func (.func 108) #[] #[]) rfl (by kernel_rfl) (by kernel_rfl) (by kernel_rfl) (fun _ _ _ h=>h.panic) (Or.inl ⟨by rfl,fun w=>by go_simp⟩) ?_
  refine wpAny_take (i:=4) (v:=.pointer (some ⟨w.heap.size,1,none⟩)) rfl (by kernel_rfl) (by kernel_rfl) (by kernel_rfl) (fun _ _ _ h=>h.panic) (Or.inl ⟨by rfl,fun w=>by go_simp⟩) ?_
  refine wpAny_take (i:=6) (v:=.func (.func 108) #[] #[]) rfl (by kernel_rfl) (by kernel_rfl) (by kernel_rfl) (fun _ _ _ h=>h.panic) (Or.inl ⟨by rfl,fun w=>by go_simp⟩) ?_
  refine wpAny_ready (rs:=[1,5]) (by kernel_rfl) (by simp) ?_
  refine AllReady.cons rfl (fun K hK=>?_) (AllReady.cons rfl (fun K hK=>?_) AllReady.nil)
  ·go_simp
   refine hK _ _ ?_
   clear hK K
   refine wpAny_ready (rs:=[3,5]) (by kernel_rfl) (by simp) ?_
   refine AllReady.cons rfl (fun K hK=>?_) (AllReady.cons rfl (fun K hK=>?_) AllReady.nil)
   ·go_simp
    refine (hC1.out).mono ?_
    rintro e w3 ⟨v,rfl,hN3,hB3⟩;obtain ⟨x3,c3,rfl,_⟩:=New.ints hN3
    have b3:=hbL.out w3 hB3
    have c31:=b3.1.cell1
    refine hK _ _ ?_
    clear hK K
    refine wpAny_ready (rs:=[5]) (by kernel_rfl) (by simp) ?_
    refine AllReady.cons rfl (fun K hK=>?_) AllReady.nil
    go_simp
    refine hK _ _ ?_
    clear hK K
    refine wpAny_ready (rs:=[7]) (by kernel_rfl) (by simp) ?_
    refine AllReady.cons rfl (fun K hK=>?_) AllReady.nil
    go_simp
    refine (hC2.out w3 hB3).mono ?_
    rintro e w4 ⟨u,rfl,hN4,hB4⟩;obtain ⟨x4,c4,rfl,_⟩:=New.ints hN4
    have b4:=hbR.out w3 w4 hB3 hB4
    have c40:=b4.2.cell0
    have c41:=b4.2.cell1
    have f40:=b4.2.frozen 0
    have f41:=b4.2.frozen 1
    have c41':=(b4.2.set0 (.slice x3 (Tm.others L).length c3)).cell1
    have f41':=(b4.2.set0 (.slice x3 (Tm.others L).length c3)).frozen 1
    refine hK _ _ ?_
    clear hK K
    refine wpAny_take (i:=8) (v:=.agg #[.slice x3 (Tm.others L).length c3,.slice x4 (Tm.others R).length c4]) rfl (by kernel_rfl) (by kernel_rfl) (by kernel_rfl) (fun _ _ _ h=>h.panic) (Or.inl ⟨by rfl,fun w=>by go_simp⟩) ?_
    refine wpAny_ready (rs:=[9]) (by kernel_rfl) (by simp) ?_
    refine AllReady.cons rfl (fun K hK=>?_) AllReady.nil
    go_simp
    refine hK _ _ ?_
    clear hK K
    refine wpAny_done (by kernel_rfl) ?_ _
    exact hfin.out w3 w4 (.slice x3 (Tm.others L).length c3) (.slice x4 (Tm.others R).length c4) hB3 hB4 hN3 hN4
   ·go_simp
    refine hK _ _ ?_
    clear hK K
    refine wpAny_ready (rs:=[3]) (by kernel_rfl) (by simp) ?_
    refine AllReady.cons rfl (fun K hK=>?_) AllReady.nil
    go_simp
    refine (hC1.out).mono ?_
    rintro e w3 ⟨v,rfl,hN3,hB3⟩;obtain ⟨x3,c3,rfl,_⟩:=New.ints hN3
    have b3:=hbL.out w3 hB3
    have c31:=b3.1.cell1
    refine hK _ _ ?_
    clear hK K
    refine wpAny_ready (rs:=[7]) (by kernel_rfl) (by simp) ?_
    refine AllReady.cons rfl (fun K hK=>?_) AllReady.nil
    go_simp
    refine (hC2.out w3 hB3).mono ?_
    rintro e w4 ⟨u,rfl,hN4,hB4⟩;obtain ⟨x4,c4,rfl,_⟩:=New.ints hN4
    have b4:=hbR.out w3 w4 hB3 hB4
    have c40:=b4.2.cell0
    have c41:=b4.2.cell1
    have f40:=b4.2.frozen 0
    have f41:=b4.2.frozen 1
    have c41':=(b4.2.set0 (.slice x3 (Tm.others L).length c3)).cell1
    have f41':=(b4.2.set0 (.slice x3 (Tm.others L).length c3)).frozen 1
    refine hK _ _ ?_
    clear hK K
    refine wpAny_take (i:=8) (v:=.agg #[.slice x3 (Tm.others L).length c3,.slice x4 (Tm.others R).length c4]) rfl (by kernel_rfl) (by kernel_rfl) (by kernel_rfl) (fun _ _ _ h=>h.panic) (Or.inl ⟨by rfl,fun w=>by go_simp⟩) ?_
    refine wpAny_ready (rs:=[9]) (by kernel_rfl) (by simp) ?_
    refine AllReady.cons rfl (fun K hK=>?_) AllReady.nil
    go_simp
    refine hK _ _ ?_
    clear hK K
    refine wpAny_done (by kernel_rfl) ?_ _
    exact hfin.out w3 w4 (.slice x3 (Tm.others L).length c3) (.slice x4 (Tm.others R).length c4) hB3 hB4 hN3 hN4
  ·go_simp
   refine hK _ _ ?_
   clear hK K
   refine wpAny_ready (rs:=[1]) (by kernel_rfl) (by simp) ?_
   refine AllReady.cons rfl (fun K hK=>?_) AllReady.nil
   go_simp
   refine hK _ _ ?_
   clear hK K
   refine wpAny_ready (rs:=[3]) (by kernel_rfl) (by simp) ?_
   refine AllReady.cons rfl (fun K hK=>?_) AllReady.nil
   go_simp
   refine (hC1.out).mono ?_
   rintro e w3 ⟨v,rfl,hN3,hB3⟩;obtain ⟨x3,c3,rfl,_⟩:=New.ints hN3
   have b3:=hbL.out w3 hB3
   have c31:=b3.1.cell1
   refine hK _ _ ?_
   clear hK K
   refine wpAny_ready (rs:=[7]) (by kernel_rfl) (by simp) ?_
   refine AllReady.cons rfl (fun K hK=>?_) AllReady.nil
   go_simp
   refine (hC2.out w3 hB3).mono ?_
   rintro e w4 ⟨u,rfl,hN4,hB4⟩;obtain ⟨x4,c4,rfl,_⟩:=New.ints hN4
   have b4:=hbR.out w3 w4 hB3 hB4
   have c40:=b4.2.cell0
   have c41:=b4.2.cell1
   have f40:=b4.2.frozen 0
   have f41:=b4.2.frozen 1
   have c41':=(b4.2.set0 (.slice x3 (Tm.others L).length c3)).cell1
   have f41':=(b4.2.set0 (.slice x3 (Tm.others L).length c3)).frozen 1
   refine hK _ _ ?_
   clear hK K
   refine wpAny_take (i:=8) (v:=.agg #[.slice x3 (Tm.others L).length c3,.slice x4 (Tm.others R).length c4]) rfl (by kernel_rfl) (by kernel_rfl) (by kernel_rfl) (fun _ _ _ h=>h.panic) (Or.inl ⟨by rfl,fun w=>by go_simp⟩) ?_
   refine wpAny_ready (rs:=[9]) (by kernel_rfl) (by simp) ?_
   refine AllReady.cons rfl (fun K hK=>?_) AllReady.nil
   go_simp
   refine hK _ _ ?_
   clear hK K
   refine wpAny_done (by kernel_rfl) ?_ _
   exact hfin.out w3 w4 (.slice x3 (Tm.others L).length c3) (.slice x4 (Tm.others R).length c4) hB3 hB4 hN3 hN4
 case aft =>
  rintro e a' w5 ⟨rfl,v,u,rfl,hv,hu,hB,hbx⟩
  have k0:=hbx.cell0
  have k1:=hbx.cell1
  clear hC1 hC2 hbL hbR hfin
  go_wp2
  refine bodyPost_ret (results_agg rfl rfl hbx) rfl ?_
  exact ⟨v,u,rfl,hv,hu,hB⟩
end Go.Proofs.YtglohanbpjaieaaGreat
namespace Go.Proofs.YtglohanbpjaieaaGreat
open Go.Proofs Go.RowKit Go.Shelf
namespace Wb
def sg (zs:List Int) (p:Nat):Int:=zs[p]?.getD 0
structure Good (zs:List Int):Prop where
 len:zs.length≤5000
 eight:8≤zs.length
 known:∀ p,p < zs.length→-8≤sg zs p∧sg zs p < 6
 vars:∀ i,i < 8→sg zs i = -1 - (i:Int)
 ends:∀ p,p < zs.length→Tm.endAt zs p≤zs.length
def can (zs:List Int) (p:Nat):Nat:=if sg zs p < 0 then (-1 - sg zs p).toNat else p
theorem can_pos {zs:List Int} {p:Nat} (h:0≤sg zs p):can zs p = p:=by unfold can;rw [if_neg (by omega)]
theorem can_lt {zs:List Int} (G:Good zs) {p:Nat} (h:p < zs.length):can zs p < zs.length:=by
 have:=G.known p h
 have:=G.eight
 unfold can
 split <;> omega
theorem sg_can {zs:List Int} (G:Good zs) {p:Nat} (h:p < zs.length):sg zs (can zs p) = sg zs p:=by
 by_cases hs:sg zs p < 0
 ·unfold can
  rw [if_pos hs]
  have:=G.known p h
  rw [G.vars _ (by omega)]
  omega
 ·rw [can_pos (by omega)]
theorem can_can {zs:List Int} (G:Good zs) {p:Nat} (h:p < zs.length):can zs (can zs p) = can zs p:=by
 have e:=sg_can G h
 by_cases hs:sg zs p < 0
 ·rw [show can zs (can zs p) = (-1 - sg zs (can zs p)).toNat from by conv=>lhs;rw [can]
                                                                     rw [if_pos (by rw [e];exact hs)],e]
  unfold can;rw [if_pos hs]
 ·rw [can_pos (p:=can zs p) (by rw [e];omega)]
structure St (zs:List Int) (T:Nat→Option Nat) (h:Nat→Nat):Prop where
 root:∀ p,p < zs.length→can zs p = p→h p < zs.length∧can zs (h p) = h p∧h (h p) = h p
 free:∀ p,p < zs.length→can zs p = p→(T p = none ↔ h p = p)
 next:∀ p q,p < zs.length→can zs p = p→T p = some q→q < zs.length∧can zs q = q∧h q = h p
 down:∃ st:Nat→Nat,∀ p q,p < zs.length→can zs p = p→T p = some q→st q < st p
 up:∀ p,p < zs.length→can zs p = p→sg zs p≤sg zs (h p)
 out:∀ p,zs.length≤p→h p = p∧T p = none
theorem St.start (zs:List Int):St zs (fun _=>none) (fun p=>p) :=
 ⟨fun p h1 h2=>⟨h1,h2,rfl⟩,fun p _ _=>by simp,fun p q _ _ h=>by simp at h,⟨fun _=>0,fun p q _ _ h=>by simp at h⟩,fun p _ _=>Int.le_refl _,fun _ _=>⟨rfl,rfl⟩⟩
def updN (T:Nat→Option Nat) (o n:Nat):Nat→Option Nat:=fun p=>if p = o then some n else T p
def mg (h:Nat→Nat) (o n:Nat):Nat→Nat:=fun p=>if h p = o then n else h p
theorem St.merge {zs:List Int} {T:Nat→Option Nat} {h:Nat→Nat} (S:St zs T h) {o n:Nat} (ho:o < zs.length) (hn:n < zs.length) (co:can zs o = o) (cn:can zs n = n) (ro:h o = o) (rn:h n = n) (hne:o≠n) (hs:sg zs o≤sg zs n) :
 St zs (updN T o n) (mg h o n):=by
 have hmn:mg h o n n = n:=by unfold mg;rw [rn,if_neg (fun e=>hne e.symm)]
 have hmo:mg h o n o = n:=by unfold mg;rw [if_pos ro]
 refine ⟨fun p h1 h2=>?_,fun p h1 h2=>?_,fun p q h1 h2 h3=>?_,?_,fun p h1 h2=>?_,fun p hp=>?_⟩
 ·obtain ⟨a,b,c⟩:=S.root p h1 h2
  by_cases e:h p = o
  ·have:mg h o n p = n:=by unfold mg;rw [if_pos e]
   rw [this];exact ⟨hn,cn,hmn⟩
  ·have:mg h o n p = h p:=by unfold mg;rw [if_neg e]
   rw [this]
   refine ⟨a,b,?_⟩
   unfold mg;rw [c,if_neg e]
 ·by_cases e:p = o
  ·subst e
   rw [hmo]
   simp [updN]
   exact fun e=>hne e.symm
  ·have hT:updN T o n p = T p:=by simp [updN,e]
   rw [hT,S.free p h1 h2]
   unfold mg
   by_cases e2:h p = o
   ·rw [if_pos e2]
    constructor
    ·intro e3;exact absurd (e3.symm.trans e2) e
    ·intro e3;subst e3;rw [rn] at e2;exact absurd e2.symm hne
   ·rw [if_neg e2]
 ·by_cases e:p = o
  ·subst e
   simp [updN] at h3
   subst h3
   exact ⟨hn,cn,by rw [hmn,hmo]⟩
  ·have hT:updN T o n p = T p:=by simp [updN,e]
   rw [hT] at h3
   obtain ⟨a,b,c⟩:=S.next p q h1 h2 h3
   exact ⟨a,b,by unfold mg;rw [c]⟩
 ·obtain ⟨st,hst⟩:=S.down
  refine ⟨fun p=>if h p = o then st p+(st n+1) else st p,fun p q h1 h2 h3=>?_⟩
  show (if h q = o then st q+(st n+1) else st q) < (if h p = o then st p+(st n+1) else st p)
  by_cases e:p = o
  ·subst e
   simp [updN] at h3
   subst h3
   rw [if_neg (by rw [rn];exact fun e=>hne e.symm),if_pos ro]
   omega
  ·have hT:updN T o n p = T p:=by simp [updN,e]
   rw [hT] at h3
   have hc:=(S.next p q h1 h2 h3).2.2
   have hl:=hst p q h1 h2 h3
   rw [hc]
   by_cases e2:h p = o
   ·rw [if_pos e2,if_pos e2];omega
   ·rw [if_neg e2,if_neg e2];exact hl
 ·have:=S.up p h1 h2
  unfold mg
  by_cases e:h p = o
  ·rw [if_pos e];rw [e] at this;omega
  ·rw [if_neg e];exact this
 ·obtain ⟨e1,e2⟩:=S.out p hp
  refine ⟨by unfold mg;rw [e1,if_neg (by omega)],?_⟩
  unfold updN
  rw [if_neg (by omega)]
  exact e2
def rt (zs:List Int) (h:Nat→Nat):Nat:=((List.range zs.length).filter fun p=>decide (can zs p = p∧h p = p)).length
theorem filter_lt {α:Type} (l:List α) (f g:α→Bool) (hle:∀ x∈l,f x = true→g x = true) (x:α) (hx:x∈l) (h1:f x = false) (h2:g x = true):(l.filter f).length < (l.filter g).length:=by
 have hmono:∀ (l:List α),(∀ x∈l,f x = true→g x = true)→(l.filter f).length≤(l.filter g).length:=by
  intro l
  induction l with
  | nil=>intro _;simp
  | cons y l ih =>
   intro h
   have:=ih (fun x hx=>h x (by simp [hx]))
   rw [List.filter_cons,List.filter_cons]
   by_cases hf:f y = true
   ·rw [if_pos hf,if_pos (h y (by simp) hf)];simp;omega
   ·rw [if_neg hf];split <;> (try simp) <;> omega
 induction l with
 | nil=>simp at hx
 | cons y l ih =>
  rw [List.filter_cons,List.filter_cons]
  rcases List.mem_cons.1 hx with e | hm
  ·subst e
   have:=hmono l (fun x hx=>hle x (by simp [hx]))
   rw [if_neg (by rw [h1];decide),if_pos h2]
   simp;omega
  ·have:=ih (fun x hx=>hle x (by simp [hx])) hm
   by_cases hf:f y = true
   ·rw [if_pos hf,if_pos (hle y (by simp) hf)];simp;omega
   ·rw [if_neg hf];split <;> (try simp) <;> omega
theorem rt_merge {zs:List Int} {h:Nat→Nat} {o n:Nat} (ho:o < zs.length) (co:can zs o = o) (ro:h o = o) (rn:h n = n) (hne:o≠n):rt zs (mg h o n) < rt zs h:=by
 refine filter_lt _ _ _ (fun p _ hp=>?_) o (List.mem_range.2 ho) ?_ ?_
 ·simp only [decide_eq_true_eq] at hp ⊢
  refine ⟨hp.1,?_⟩
  have h2:=hp.2
  unfold mg at h2
  by_cases e:h p = o
  ·rw [if_pos e] at h2;subst h2;exact rn
  ·rw [if_neg e] at h2;exact h2
 ·simp only [decide_eq_false_iff_not]
  rintro ⟨_,h2⟩
  unfold mg at h2
  rw [if_pos ro] at h2
  exact hne h2.symm
 ·simp [co,ro]
def hd (zs:List Int) (h:Nat→Nat) (p:Nat):Nat:=h (can zs p)
theorem hd_lt {zs:List Int} (G:Good zs) {T:Nat→Option Nat} {h:Nat→Nat} (S:St zs T h) {p:Nat} (hp:p < zs.length):hd zs h p < zs.length∧can zs (hd zs h p) = hd zs h p∧h (hd zs h p) = hd zs h p :=
 S.root _ (can_lt G hp) (can_can G hp)
theorem hd_up {zs:List Int} (G:Good zs) {T:Nat→Option Nat} {h:Nat→Nat} (S:St zs T h) {p:Nat} (hp:p < zs.length):sg zs p≤sg zs (hd zs h p):=by
 have:=S.up _ (can_lt G hp) (can_can G hp)
 rw [sg_can G hp] at this
 exact this
end Wb
end Go.Proofs.YtglohanbpjaieaaGreat
namespace Go.Proofs.YtglohanbpjaieaaGreat
open Go.Proofs Go.RowKit Go.Shelf Go.Maps
section
variable {F:Fence} {nF:Nat} (w:World) {ops:Array Oper} {rest:List Oper} {o:Oper} {a:Act} {Q:Exit→Act→World→Prop}
theorem wpi_look_ok (hg:o.guard = none) (m x:Operand) (t:TypeId) (hop:o.op = Op.lookup t m x true) (e:TypeId) (ht:Tryz.prog.underlying t = some (.map 3 e)) {z:Value} (hz:(zeroValue e).run Tryz.prog w = .ok z w) (b n:Nat) (M:Int→Option Value)
 (hm:a.eval m = .map (some b)) (hI:IntMap w b n M) (key:Int) (hx:a.eval x = .int .i64 key) (hwf:(Lit.int .i64 key).wf = true) (v:Value) (q:Bool) (hv:(M key).getD z = v) (hq:(M key).isSome = q)
 (hK:wpListIn F nF Tryz.prog ops Q rest (a.put o.dst (.tuple #[v,.bool q])) w):wpListIn F nF Tryz.prog ops Q (o :: rest) a w:=by
 refine wpListIn_plain hg fun K' hK'=>?_
 have hrun:=(hI.look ht hz hwf).1
 rw [hv,hq] at hrun
 unfold Oper.wpIn
 refine ⟨by simp [Oper.about,hop],?_⟩
 rw [Oper.semAt_plain F _ _ (by rw [hop];intro c hc';cases hc')]
 simp [execOp,hop,hm,hx,hrun,Result.andThen]
 exact hK' _ _ hK
end
structure WebAt (W:World) (Bw Bm:Nat) (a:Option Addr) (cap:Nat) (zs:List Int) (N:Nat) (T:Nat→Option Nat):Prop where
 web:W.heap[Bw]? = some (.cells #[.slice a zs.length cap,.map (some Bm)] 168 (0,0))
 ints:Ints W.heap.size W a zs
 ties:∃ M,IntMap W Bm N M∧∀ p:Nat,M (p:Int) = (T p).map fun q=>.int .i64 (q:Int)
theorem WebAt.cell0 {W:World} {Bw Bm:Nat} {a:Option Addr} {cap:Nat} {zs:List Int} {N:Nat} {T:Nat→Option Nat} (h:WebAt W Bw Bm a cap zs N T):W.cell? ⟨Bw,0,none⟩ = some (.slice a zs.length cap):=(cell_at h.web 0).trans rfl
theorem WebAt.cell1 {W:World} {Bw Bm:Nat} {a:Option Addr} {cap:Nat} {zs:List Int} {N:Nat} {T:Nat→Option Nat} (h:WebAt W Bw Bm a cap zs N T):W.cell? ⟨Bw,1,none⟩ = some (.map (some Bm)):=(cell_at h.web 1).trans rfl
theorem WebAt.below {W W':World} {Bw Bm:Nat} {a:Option Addr} {cap:Nat} {zs:List Int} {N:Nat} {T:Nat→Option Nat} (h:WebAt W Bw Bm a cap zs N T) (hB:Below W.heap.size W W'):WebAt W' Bw Bm a cap zs N T:=by
 refine ⟨(hB.block Bw (Array.getElem?_eq_some_iff.1 h.web).1).trans h.web,(h.ints.below hB).mono hB.size,?_⟩
 obtain ⟨M,hM,hT⟩:=h.ties
 exact ⟨M,hM.keep (hB.block Bm hM.lt),hT⟩
theorem WebAt.lt {W:World} {Bw Bm:Nat} {a:Option Addr} {cap:Nat} {zs:List Int} {N:Nat} {T:Nat→Option Nat} (h:WebAt W Bw Bm a cap zs N T):Bw < W.heap.size∧Bm < W.heap.size:=by
 obtain ⟨M,hM,hT⟩:=h.ties
 exact ⟨(Array.getElem?_eq_some_iff.1 h.web).1,hM.lt⟩
theorem wfN {n:Nat} (h:n≤100000):(Lit.int .i64 (n:Int)).wf = true:=by
 simp [Lit.wf,IntKind.min,IntKind.max,IntKind.signed,IntKind.bits]
 omega
attribute [local go_sem] Oper.semAt_some
set_option maxRecDepth 100000 in
set_option maxHeartbeats 1000000 in
theorem head_in (F:Fence) (hF:Pl F) (n:Nat) (zs:List Int) (T:Nat→Option Nat) (h:Nat→Nat) (G:Wb.Good zs) (S:Wb.St zs T h) (Bw Bm:Nat) (a:Option Addr) (cap N p:Nat) (hp:p < zs.length) (w:World) (hW:WebAt w Bw Bm a cap zs N T) :
 CallsIn F n Tryz.prog 137 #[.pointer (some ⟨Bw,0,none⟩),.int .i64 (p:Int)] w fun e w'=>e = .returned (.int .i64 (Wb.hd zs h p:Int))∧w' = w:=by
 obtain ⟨hro,hfn,hdd⟩:=fx_facts hF
 have hf:=hfn _ _ Tryz.func137
 clear hF hfn
 have hl5:=G.len
 have hl5':(zs.length:Int)≤5000:=by omega
 have hp':(p:Int) < (zs.length:Int):=by omega
 have hw0:=hW.cell0
 have hw1:=hW.cell1
 obtain ⟨M,hM,hT⟩:=hW.ties
 obtain ⟨b,off,rfl,hb,hc⟩:=hW.ints.at (by omega)
 have hcp:w.cell? ⟨b,off+p,none⟩ = some (.int .i64 (Wb.sg zs p)):=hc p hp
 obtain ⟨st,hst⟩:=S.down
 have hcl:=Wb.can_lt G hp
 have hcc:=Wb.can_can G hp
 have hkn:=G.known p hp
 have HS:=hid S
 have Hst:=hid hst
 have HM:=hid hM
 have HT:=hid hT
 have hcan:Hid (Wb.can zs p = if Wb.sg zs p < 0 then (-1 - Wb.sg zs p).toNat else p):=rfl
 have hhd:Hid (Wb.hd zs h p = h (Wb.can zs p)):=rfl
 clear S hst hM hT hc hW G
 generalize Wb.hd zs h p = r at *
 generalize Wb.sg zs p = s at *
 generalize Wb.can zs p = c at *
 by_cases hs:s < 0
 ·have hce:(-1:Int) - s = (c:Int):=by rw [hcan.out,if_pos hs];omega
  refine callsIn_of_wp Tryz.func137 rfl hf ?_ hro
  simp only [Tryz.ntmps137,List.size_toArray,List.length_cons,List.length_nil,Nat.reduceAdd,Nat.reduceSub,Array.replicate_succ,Array.replicate_zero,List.push_toArray,List.append_toArray,List.nil_append,List.cons_append]
  gi_wp2
  gi_loopw [1] (fun x wr=>∃ q:Nat,x = .int .i64 (q:Int)∧q < zs.length∧Wb.can zs q = q∧Hid (h q = h c)∧wr = w) (fun x _=>st (intOf x).toNat)
  case atStart=>exact ⟨c,by rw [← hce],hcl,hcc,rfl,rfl⟩
  case round =>
   obtain ⟨q,rfl,hq,hcq,hhq,rfl⟩:=hrel
   have hwf:=wfN (n:=q) (by omega)
   cases hTq:T q with
   | none =>
    have hMq:(M (q:Int)) = none:=by rw [HT.out,hTq];rfl
    have hroot:=hid ((HS.out.free q hq hcq).1 hTq)
    clear hTq
    gi_wp2_with (gi_at_lookup;(refine wpi_look_ok _ rfl _ _ 154 rfl 3 Tryz.underlying154 (zeroInt _) Bm N M rfl HM.out (q:Int) rfl hwf (.int .i64 0) false (by rw [hMq];rfl) (by rw [hMq];rfl) ?_))
    go_ret
    exact ⟨by rw [hhd.out,← hhq.out,hroot.out];rfl,rfl⟩
   | some q2 =>
    have hMq:(M (q:Int)) = some (.int .i64 (q2:Int)):=by rw [HT.out,hTq];rfl
    obtain ⟨g1,g2,g3⟩:=HS.out.next q q2 hq hcq hTq
    have hlt:=Hst.out q q2 hq hcq hTq
    have g3':=hid (g3.trans hhq.out)
    clear hTq g3
    gi_wp2_with (gi_at_lookup;(refine wpi_look_ok _ rfl _ _ 154 rfl 3 Tryz.underlying154 (zeroInt _) Bm N M rfl HM.out (q:Int) rfl hwf (.int .i64 (q2:Int)) true (by rw [hMq];rfl) (by rw [hMq];rfl) ?_))
    exact ⟨⟨q2,rfl,g1,g2,g3',by first | rfl | trivial⟩,by simpa [intOf] using hlt⟩
 ·have hce:Hid ((p:Int) = (c:Int)):=by show _ = _;rw [hcan.out,if_neg hs]
  have hs0:(0:Int)≤s:=by omega
  have hsd:decide (s < 0) = false:=by simpa using hs
  clear hs
  refine callsIn_of_wp Tryz.func137 rfl hf ?_ hro
  simp only [Tryz.ntmps137,List.size_toArray,List.length_cons,List.length_nil,Nat.reduceAdd,Nat.reduceSub,Array.replicate_succ,Array.replicate_zero,List.push_toArray,List.append_toArray,List.nil_append,List.cons_append]
  gi_wp2
  gi_loopw [1] (fun x wr=>∃ q:Nat,x = .int .i64 (q:Int)∧q < zs.length∧Wb.can zs q = q∧Hid (h q = h c)∧wr = w) (fun x _=>st (intOf x).toNat)
  case atStart=>exact ⟨c,by rw [← hce.out],hcl,hcc,rfl,rfl⟩
  case round =>
   obtain ⟨q,rfl,hq,hcq,hhq,rfl⟩:=hrel
   have hwf:=wfN (n:=q) (by omega)
   cases hTq:T q with
   | none =>
    have hMq:(M (q:Int)) = none:=by rw [HT.out,hTq];rfl
    have hroot:=hid ((HS.out.free q hq hcq).1 hTq)
    clear hTq
    gi_wp2_with (gi_at_lookup;(refine wpi_look_ok _ rfl _ _ 154 rfl 3 Tryz.underlying154 (zeroInt _) Bm N M rfl HM.out (q:Int) rfl hwf (.int .i64 0) false (by rw [hMq];rfl) (by rw [hMq];rfl) ?_))
    go_ret
    exact ⟨by rw [hhd.out,← hhq.out,hroot.out];rfl,rfl⟩
   | some q2 =>
    have hMq:(M (q:Int)) = some (.int .i64 (q2:Int)):=by rw [HT.out,hTq];rfl
    obtain ⟨g1,g2,g3⟩:=HS.out.next q q2 hq hcq hTq
    have hlt:=Hst.out q q2 hq hcq hTq
    have g3':=hid (g3.trans hhq.out)
    clear hTq g3
    gi_wp2_with (gi_at_lookup;(refine wpi_look_ok _ rfl _ _ 154 rfl 3 Tryz.underlying154 (zeroInt _) Bm N M rfl HM.out (q:Int) rfl hwf (.int .i64 (q2:Int)) true (by rw [hMq];rfl) (by rw [hMq];rfl) ?_))
    exact ⟨⟨q2,rfl,g1,g2,g3',by first | rfl | trivial⟩,by simpa [intOf] using hlt⟩
end Go.Proofs.YtglohanbpjaieaaGreat
namespace Go.Proofs.YtglohanbpjaieaaGreat
open Go.Proofs Go.RowKit Go.Shelf
namespace Wb
abbrev Sb:=Int→List Int
def App (θ:Sb) (t:List Int):List Int:=t.flatMap fun s=>if s < 0 then θ s else [s]
def TermSb (θ:Sb):Prop:=∀ s,s < 0→Tm.run (θ s) 1 = (θ s).length
theorem App_nil (θ:Sb):App θ [] = []:=rfl
theorem App_cons (θ:Sb) (s:Int) (l:List Int):App θ (s :: l) = (if s < 0 then θ s else [s])++App θ l:=by simp [App]
theorem App_append (θ:Sb) (l r:List Int):App θ (l++r) = App θ l++App θ r:=by simp [App]
theorem App_flatten (θ:Sb) (l:List (List Int)):App θ l.flatten = (l.map (App θ)).flatten:=by
 induction l with
 | nil=>rfl
 | cons x l ih=>rw [List.flatten_cons,App_append,ih,List.map_cons,List.flatten_cons]
theorem room_var {s:Int} (h:s < 0):Tm.room s = 0:=by unfold Tm.room;rw [if_neg (by omega),if_neg (by omega)]
theorem App_run {θ:Sb} (hθ:TermSb θ):∀ (t:List Int) (n:Nat),Tm.run t n = t.length→Tm.run (App θ t) n = (App θ t).length:=by
 intro t
 induction t with
 | nil=>intro n hr;rw [Tm.run_nil] at hr;subst hr;rw [List.length_nil,Tm.run_zero];rfl
 | cons s l ih =>
  intro n hr
  cases n with
  | zero=>rw [Tm.run_zero,List.length_cons] at hr;omega
  | succ n =>
   rw [Tm.run_cons,List.length_cons] at hr
   rw [App_cons]
   by_cases hs:s < 0
   ·rw [room_var hs,Nat.add_zero] at hr
    rw [if_pos hs,show n+1 = 1+n from by omega,Tm.run_add,Tm.run_app _ _ 1 (by rw [hθ s hs];omega),hθ s hs,List.drop_left,ih n (by omega),List.length_append]
   ·rw [if_neg hs,List.singleton_append,Tm.run_cons,List.length_cons,ih _ (by omega)]
    omega
def cont (zs:List Int) (p:Nat):List Int:=Tm.part zs p
def kids (zs:List Int) (p:Nat):List Nat:=(List.range (Tm.room (sg zs p))).map (Tm.pos zs p)
theorem kids_length (zs:List Int) (p:Nat):(kids zs p).length = Tm.room (sg zs p):=by simp [kids]
theorem pos_end {zs:List Int} {p:Nat} (hp:p < zs.length):Tm.endAt zs p = Tm.pos zs p (Tm.room (sg zs p)):=Tm.endAt_in zs p hp
theorem pos_lt {zs:List Int} (k:Nat) {i j:Nat} (h:i < j):Tm.pos zs k i < Tm.pos zs k j:=by
 have h1:=Tm.pos_mono zs k (i+1) j h
 have h2:=Tm.pos_succ zs k i
 have h3:=Tm.endAt_gt zs (Tm.pos zs k i)
 omega
theorem kid_lt {zs:List Int} (G:Good zs) {p i:Nat} (hp:p < zs.length) (hi:i < Tm.room (sg zs p)):Tm.pos zs p i < zs.length:=by
 have h1:=G.ends p hp
 rw [pos_end hp] at h1
 have:=pos_lt (zs:=zs) p hi
 omega
theorem kids_flat {zs:List Int} {p:Nat}:∀ m,Tm.pos zs p m≤zs.length→(zs.drop (p+1)).take (Tm.pos zs p m - (p+1)) = (((List.range m).map (Tm.pos zs p)).map (cont zs)).flatten:=by
 intro m
 induction m with
 | zero=>intro _;rw [Tm.pos_zero];simp
 | succ m ih =>
  intro h
  have h1:=Tm.pos_succ zs p m
  have h2:=Tm.pos_gt zs p m
  have h3:=Tm.endAt_gt zs (Tm.pos zs p m)
  rw [List.range_succ,List.map_append,List.map_append,List.flatten_append,← ih (by omega)]
  simp only [List.map_cons,List.map_nil,List.flatten_cons,List.flatten_nil,List.append_nil]
  unfold cont Tm.part
  rw [h1,show Tm.endAt zs (Tm.pos zs p m) - (p+1) = (Tm.pos zs p m - (p+1))+(Tm.endAt zs (Tm.pos zs p m) - Tm.pos zs p m) from by omega,List.take_add,List.drop_drop,show p+1+(Tm.pos zs p m - (p+1)) = Tm.pos zs p m from by omega]
theorem cont_eq {zs:List Int} (G:Good zs) {p:Nat} (hp:p < zs.length):cont zs p = sg zs p :: ((kids zs p).map (cont zs)).flatten:=by
 have h1:=G.ends p hp
 have h2:=Tm.endAt_gt zs p
 rw [show ((kids zs p).map (cont zs)).flatten = (zs.drop (p+1)).take (Tm.pos zs p (Tm.room (sg zs p)) - (p+1)) from (kids_flat _ (by rw [← pos_end hp];exact h1)).symm,← pos_end hp]
 unfold cont Tm.part
 rw [show Tm.endAt zs p - p = (Tm.endAt zs p - (p+1))+1 from by omega,List.drop_eq_getElem_cons hp,List.take_succ_cons]
 congr 1
 simp [sg,hp]
theorem cont_run {zs:List Int} (G:Good zs) {p:Nat} (hp:p < zs.length):Tm.run (cont zs p) 1 = (cont zs p).length:=by
 have h1:=G.ends p hp
 unfold Tm.endAt at h1
 have hl:Tm.run (zs.drop p) 1≤(zs.drop p).length:=by rw [List.length_drop];omega
 have:=Tm.run_take (zs.drop p) 1 hl
 unfold cont Tm.part Tm.endAt
 rw [show p+Tm.run (zs.drop p) 1 - p = Tm.run (zs.drop p) 1 from by omega,this,List.length_take]
 omega
theorem cont_var {zs:List Int} (G:Good zs) {p:Nat} (hp:p < zs.length) (hs:sg zs p < 0):cont zs p = [sg zs p]:=by
 rw [cont_eq G hp,show kids zs p = [] from by unfold kids;rw [room_var hs];rfl];rfl
theorem cont_can {zs:List Int} (G:Good zs) {p:Nat} (hp:p < zs.length):cont zs (can zs p) = cont zs p:=by
 by_cases hs:sg zs p < 0
 ·rw [cont_var G hp hs,cont_var G (can_lt G hp) (by rw [sg_can G hp];exact hs),sg_can G hp]
 ·rw [can_pos (by omega)]
theorem flatten_inj:∀ (l l':List (List Int)),(∀ x∈l,Tm.run x 1 = x.length)→(∀ x∈l',Tm.run x 1 = x.length)→l.length = l'.length→l.flatten = l'.flatten→l = l':=by
 intro l
 induction l with
 | nil=>intro l' _ _ h _;cases l' with
  | nil=>rfl
  | cons x l'=>simp at h
 | cons x l ih =>
  intro l' h1 h2 h3 h4
  cases l' with
  | nil=>simp at h3
  | cons y l' =>
   rw [List.flatten_cons,List.flatten_cons] at h4
   have hx:=h1 x (by simp)
   have hy:=h2 y (by simp)
   have e1:=Tm.run_app x l.flatten 1 (by omega)
   have e2:=Tm.run_app y l'.flatten 1 (by omega)
   rw [h4,e2] at e1
   obtain ⟨a,b⟩:=List.append_inj h4 (by omega)
   subst a
   rw [ih l' (fun z hz=>h1 z (by simp [hz])) (fun z hz=>h2 z (by simp [hz])) (by simpa using h3) b]
theorem App_cont {zs:List Int} (G:Good zs) (θ:Sb) {p:Nat} (hp:p < zs.length) (hs:0≤sg zs p):App θ (cont zs p) = sg zs p :: ((kids zs p).map fun k=>App θ (cont zs k)).flatten:=by
 rw [cont_eq G hp,App_cons,if_neg (by omega),App_flatten,List.map_map]
 rfl
theorem kids_get {zs:List Int} {p i:Nat} (hi:i < Tm.room (sg zs p)):(kids zs p)[i]? = some (Tm.pos zs p i):=by simp [kids,hi]
theorem kids_eq {zs:List Int} (G:Good zs) {θ:Sb} (hθ:TermSb θ) {p q:Nat} (hp:p < zs.length) (hq:q < zs.length) (sp:0≤sg zs p) (sq:0≤sg zs q) (h:App θ (cont zs p) = App θ (cont zs q)) :
 sg zs p = sg zs q∧∀ i,i < Tm.room (sg zs p)→App θ (cont zs (Tm.pos zs p i)) = App θ (cont zs (Tm.pos zs q i)):=by
 rw [App_cont G θ hp sp,App_cont G θ hq sq] at h
 obtain ⟨e,h2⟩:=List.cons.inj h
 have hrun:∀ r,r < zs.length→∀ x∈(kids zs r).map (fun k=>App θ (cont zs k)),Tm.run x 1 = x.length:=fun r hr x hx=>by
  rw [List.mem_map] at hx
  obtain ⟨k,hk,rfl⟩:=hx
  unfold kids at hk
  rw [List.mem_map] at hk
  obtain ⟨i,hi,rfl⟩:=hk
  exact App_run hθ _ 1 (cont_run G (kid_lt G hr (List.mem_range.1 hi)))
 have h3:=flatten_inj _ _ (hrun p hp) (hrun q hq) (by simp [kids,e]) h2
 refine ⟨e,fun i hi=>?_⟩
 have h4:=congrArg (fun l=>l[i]?) h3
 simp only [List.getElem?_map] at h4
 rw [kids_get hi,kids_get (by rw [← e];exact hi)] at h4
 simpa using h4
def Resp (zs:List Int) (h:Nat→Nat) (θ:Sb):Prop:=∀ p,p < zs.length→can zs p = p→App θ (cont zs p) = App θ (cont zs (h p))
theorem Resp.hd {zs:List Int} (G:Good zs) {h:Nat→Nat} {θ:Sb} (R:Resp zs h θ) {p:Nat} (hp:p < zs.length):App θ (cont zs p) = App θ (cont zs (hd zs h p)):=by
 rw [← cont_can G hp]
 exact R _ (can_lt G hp) (can_can G hp)
inductive Eqv (zs:List Int) (h:Nat→Nat) (P:List (Nat × Nat)):Nat→Nat→Prop
 | base (p q:Nat):p < zs.length→q < zs.length→hd zs h p = hd zs h q→Eqv zs h P p q
 | pair (p q:Nat):(p,q)∈P→Eqv zs h P p q
 | symm (p q:Nat):Eqv zs h P p q→Eqv zs h P q p
 | trans (p q r:Nat):Eqv zs h P p q→Eqv zs h P q r→Eqv zs h P p r
def Closed (zs:List Int) (h:Nat→Nat) (P:List (Nat × Nat)):Prop :=
 ∀ p q,p < zs.length→q < zs.length→0≤sg zs p→0≤sg zs q→h p = h q→sg zs p = sg zs q∧∀ i,i < Tm.room (sg zs p)→Eqv zs h P (Tm.pos zs p i) (Tm.pos zs q i)
theorem Eqv.move {zs:List Int} {h h':Nat→Nat} {P P':List (Nat × Nat)} (hc:∀ p q,p < zs.length→q < zs.length→hd zs h p = hd zs h q→hd zs h' p = hd zs h' q) (hP:∀ p q,(p,q)∈P→Eqv zs h' P' p q) {p q:Nat} (e:Eqv zs h P p q):Eqv zs h' P' p q:=by
 induction e with
 | base p q h1 h2 h3=>exact .base p q h1 h2 (hc p q h1 h2 h3)
 | pair p q h1=>exact hP p q h1
 | symm p q _ ih=>exact .symm _ _ ih
 | trans p q r _ _ i1 i2=>exact .trans _ _ _ i1 i2
structure TieL (zs:List Int) (h h':Nat→Nat) (ps:List (Nat × Nat)):Prop where
 coarse:∀ p q,p < zs.length→q < zs.length→hd zs h p = hd zs h q→hd zs h' p = hd zs h' q
 sound:∀ θ,TermSb θ→Resp zs h θ→(∀ p q,(p,q)∈ps→App θ (cont zs p) = App θ (cont zs q))→Resp zs h' θ
 tied:∀ p q,(p,q)∈ps→hd zs h' p = hd zs h' q
 close:∀ P,Closed zs h (ps++P)→Closed zs h' P
theorem TieL.nil (zs:List Int) (h:Nat→Nat):TieL zs h h []:=⟨fun _ _ _ _ h=>h,fun _ _ R _=>R,fun p q h=>by simp at h,fun _ h=>h⟩
theorem TieL.snoc {zs:List Int} {h h1 h2:Nat→Nat} {ps:List (Nat × Nat)} {a b:Nat} (A:TieL zs h h1 ps) (B:TieL zs h1 h2 [(a,b)]) (hps:∀ p q,(p,q)∈ps→p < zs.length∧q < zs.length):TieL zs h h2 (ps++[(a,b)]):=by
 refine ⟨fun p q hp hq e=>B.coarse p q hp hq (A.coarse p q hp hq e),fun θ hθ R hq=>?_,fun p q hm=>?_,fun P hC=>?_⟩
 ·exact B.sound θ hθ (A.sound θ hθ R fun p q hm=>hq p q (List.mem_append_left _ hm)) fun p q hm=>hq p q (List.mem_append_right _ hm)
 ·rcases List.mem_append.1 hm with hm | hm
  ·exact B.coarse p q (hps p q hm).1 (hps p q hm).2 (A.tied p q hm)
  ·exact B.tied p q hm
 ·exact B.close P (A.close ([(a,b)]++P) (by rw [← List.append_assoc];exact hC))
theorem TieL.same {zs:List Int} {h:Nat→Nat} {a b:Nat} (ha:a < zs.length) (hb:b < zs.length) (e:hd zs h a = hd zs h b):TieL zs h h [(a,b)]:=by
 refine ⟨fun _ _ _ _ h=>h,fun _ _ R _=>R,fun p q hm=>by simp at hm;obtain ⟨rfl,rfl⟩:=hm;exact e,fun P hC p q hp hq sp sq ep=>?_⟩
 obtain ⟨e1,e2⟩:=hC p q hp hq sp sq ep
 refine ⟨e1,fun i hi=>(e2 i hi).move (fun _ _ _ _ h=>h) fun x y hm=>?_⟩
 simp at hm
 rcases hm with ⟨rfl,rfl⟩ | hm
 ·exact .base _ _ ha hb e
 ·exact .pair _ _ hm
end Wb
end Go.Proofs.YtglohanbpjaieaaGreat
