/-
  Parts of the proof: Rul1, Rul2, RulA, Rul3, RowR, Prs1, Prs1b, Web1, Web2, Web3.
-/
import Derived.Test.YtglohanbpjaieaaGreatBru9
import Derived.Deep.SlicePairs
set_option maxHeartbeats 4000000
set_option maxRecDepth 100000
namespace Go.Proofs.YtglohanbpjaieaaGreat
open Go.Proofs Go.RowKit Go.Shelf Go.Maps
theorem Ls (zs:List Int) (x:Int) (a:Option Addr) (cap:Nat) (w:World) (hI:Ints w.heap.size w a zs) (hm:zs.length≤maxLen) :
 Calls Tryz.prog 122 #[.slice a zs.length cap,.int .i64 x] w fun e w'=>∃ k:Int,e = .returned (.int .i64 k)∧decide (0≤k) = Tm.hasB zs x∧w' = w:=by
 unfold maxLen at hm;go_enter Tryz.func122,Tryz.ntmps122;go_wp2;go_loop [8] (fun i=>∃ k:Nat,k≤zs.length∧i = .int .i64 (k:Int)∧∀ j,j < k→zs[j]?.getD 0≠x) (fun i=>zs.length - (intOf i).toNat)
 case atStart=>exact ⟨0,Nat.zero_le _,rfl,fun j hj=>by omega⟩
 case round =>
  obtain ⟨k,hk,rfl,hno⟩:=hrel;by_cases hlt:k < zs.length
  ·have hlt':(k:Int) < (zs.length:Int):=by omega
   obtain ⟨b,off,rfl,hb,hc⟩:=hI.at (by omega);have hck:=hc k hlt;have hsn:=hid (Lt hno);have hye:=hid (@GV zs x k hlt);clear hc hI hno;generalize zs[k]?.getD 0 = s at *;by_cases he:s = x
   ·have hb1:(x == s) = true:=by simp [he]
    have He:=hid he;clear he;go_wp2;go_ret;exact ⟨_,rfl,by rw [hye.out He.out];simp,rfl⟩
   ·have hb1:(x == s) = false:=by simp;exact fun e=>he e.symm
    have He:=hid he;clear he;go_wp2;go_round
    case rel=>exact ⟨k+1,by omega,by go_num,hsn.out He.out⟩
    case measure=>simp [intOf];omega
  ·obtain rfl:k = zs.length:=by omega
   have hn:=hid (DK hno);clear hno;go_wp2;go_ret;exact ⟨-1,rfl,by rw [hn.out];rfl,rfl⟩
theorem Fs (zs:List Int) (x:Int) (a:Option Addr) (cap:Nat) (w:World) (hI:Ints w.heap.size w a zs) (hm:zs.length≤maxLen) :
 Calls Tryz.prog 100 #[.slice a zs.length cap,.int .i64 x] w fun e w'=>e = .returned (.bool (Tm.hasB zs x))∧w' = w:=by
 have hC:=Ls zs x a cap w hI hm;go_enter Tryz.func100,Tryz.ntmps100;go_wp2_with fail;refine hC.mono ?_;rintro e w ⟨k,rfl,hk,rfl⟩;have Hk:=hid hk;clear hk hC;go_wp2;go_ret;exact ⟨fG Hk.out,rfl⟩
theorem qj {zs:List Int} {p:Int→Bool} {k:Nat} (hk:k < zs.length) (h:(zs.take k).any p = false) (hs:p (zs[k]?.getD 0) = false):(zs.take (k+1)).any p = false:=by
 rw [j3 hk,List.any_append,h];simpa using hs
theorem yL {zs:List Int} {p:Int→Bool} {k:Nat} (hk:k < zs.length) (hs:p (zs[k]?.getD 0) = true):zs.any p = true:=by
 rw [List.any_eq_true];exact ⟨zs[k],List.getElem_mem hk,by simpa [hk] using hs⟩
def aV (s:Int):Bool:=decide (s < -4)
def eu (L:List Int) (s:Int):Bool:=decide (s < 0) && !Tm.hasB L s
theorem Jz (s:Int) (w:World):Calls Tryz.prog 98 #[.int .i64 s] w fun e w'=>e = .returned (.bool (aV s))∧w' = w:=by
 go_enter Tryz.func98,Tryz.ntmps98;go_wp2;go_ret;exact ⟨rfl,rfl⟩
theorem RQ (L:List Int) (s:Int) (B:Nat) (aL:Option Addr) (cL:Nat) (w:World) (hB:w.cell? ⟨B,0,none⟩ = some (.slice aL L.length cL)) (hI:Ints w.heap.size w aL L) (hm:L.length≤maxLen) :
 Calls Tryz.prog 99 #[.int .i64 s,.pointer (some ⟨B,0,none⟩)] w fun e w'=>e = .returned (.bool (eu L s))∧w' = w:=by
 have hC:=Fs L s aL cL w hI hm;by_cases h0:s < 0
 ·have hv:eu L s = !Tm.hasB L s:=by unfold eu;rw [decide_eq_true h0];rfl
  rw [hv];clear hv;generalize Tm.hasB L s = q at *;go_enter Tryz.func99,Tryz.ntmps99;go_wp2_with (first
   | (go_at_call 100;refine hC.mono ?_;rintro e w ⟨rfl,rfl⟩))
  go_ret;exact ⟨rfl,rfl⟩
 ·have hv:eu L s = false:=by unfold eu;rw [decide_eq_false h0];rfl
  have h0':decide (s < 0) = false:=by simpa using h0
  rw [hv];clear hv;go_enter Tryz.func99,Tryz.ntmps99;go_wp2;go_ret;exact ⟨rfl,rfl⟩
theorem JA (zs:List Int) (a:Option Addr) (cap:Nat) (w:World) (hI:Ints w.heap.size w a zs) (hm:zs.length≤maxLen) :
 Calls Tryz.prog 119 #[.slice a zs.length cap,.func (.func 98) #[] #[]] w fun e w'=>∃ k:Int,e = .returned (.int .i64 k)∧decide (0≤k) = zs.any (fun s=>aV s)∧w' = w:=by
 unfold maxLen at hm;have hF:=fun s=>Jz s w
 go_enter Tryz.func119,Tryz.ntmps119;go_wp2;go_loop [8] (fun i=>∃ k:Nat,k≤zs.length∧i = .int .i64 (k:Int)∧(zs.take k).any (fun s=>aV s) = false) (fun i=>zs.length - (intOf i).toNat)
 case atStart=>exact ⟨0,Nat.zero_le _,rfl,by simp⟩
 case round =>
  obtain ⟨k,hk,rfl,hno⟩:=hrel;by_cases hlt:k < zs.length
  ·have hlt':(k:Int) < (zs.length:Int):=by omega
   obtain ⟨b,off,rfl,hb,hc⟩:=hI.at (by omega);have hck:=hc k hlt;have hsn:=hid (qj (p:=fun s=>aV s) hlt hno);have hye:=hid (yL (p:=fun s=>aV s) hlt);have GX:=hid (hF (zs[k]?.getD 0));clear hc hI hno;generalize zs[k]?.getD 0 = s at *;cases hq:(aV s) with
   | true =>
    rw [hq] at GX;have Hy:=hid (hye.out hq);clear hq hsn;go_wp2_with (go_at_call 98;refine GX.out.mono ?_;rintro e w ⟨rfl,rfl⟩)
    go_ret;exact ⟨_,rfl,by rw [Hy.out];simp,rfl⟩
   | false =>
    rw [hq] at GX;have Hn:=hid (hsn.out hq);clear hq hye;go_wp2_with (go_at_call 98;refine GX.out.mono ?_;rintro e w ⟨rfl,rfl⟩)
    go_round
    case rel=>exact ⟨k+1,by omega,by go_num,Hn.out⟩
    case measure=>simp [intOf];omega
  ·obtain rfl:k = zs.length:=by omega
   rw [List.take_length] at hno;have hn:=hid hno;clear hno;go_wp2;go_ret;exact ⟨-1,rfl,by rw [hn.out];rfl,rfl⟩
theorem ql (zs:List Int) (a:Option Addr) (cap:Nat) (w:World) (hI:Ints w.heap.size w a zs) (hm:zs.length≤maxLen) :
 Calls Tryz.prog 92 #[.slice a zs.length cap,.func (.func 98) #[] #[]] w fun e w'=>e = .returned (.bool (zs.any (fun s=>aV s)))∧w' = w:=by
 have hC:=JA zs a cap w hI hm;go_enter Tryz.func92,Tryz.ntmps92;go_wp2_with fail;refine hC.mono ?_;rintro e w ⟨k,rfl,hk,rfl⟩;have Hk:=hid hk;clear hk hC;go_wp2;go_ret;exact ⟨fG Hk.out,rfl⟩
theorem JB (zs:List Int) (L:List Int) (B:Nat) (aL:Option Addr) (cL:Nat) (a:Option Addr) (cap:Nat) (w:World) (hI:Ints w.heap.size w a zs) (hm:zs.length≤maxLen) (hB:w.cell? ⟨B,0,none⟩ = some (.slice aL L.length cL)) (hL:Ints w.heap.size w aL L) (hmL:L.length≤maxLen) :
 Calls Tryz.prog 119 #[.slice a zs.length cap,.func (.func 99) #[] #[.pointer (some ⟨B,0,none⟩)]] w fun e w'=>∃ k:Int,e = .returned (.int .i64 k)∧decide (0≤k) = zs.any (fun s=>eu L s)∧w' = w:=by
 unfold maxLen at hm;have hF:=fun s=>RQ L s B aL cL w hB hL hmL
 clear hB hL hmL;go_enter Tryz.func119,Tryz.ntmps119;go_wp2;go_loop [8] (fun i=>∃ k:Nat,k≤zs.length∧i = .int .i64 (k:Int)∧(zs.take k).any (fun s=>eu L s) = false) (fun i=>zs.length - (intOf i).toNat)
 case atStart=>exact ⟨0,Nat.zero_le _,rfl,by simp⟩
 case round =>
  obtain ⟨k,hk,rfl,hno⟩:=hrel;by_cases hlt:k < zs.length
  ·have hlt':(k:Int) < (zs.length:Int):=by omega
   obtain ⟨b,off,rfl,hb,hc⟩:=hI.at (by omega);have hck:=hc k hlt;have hsn:=hid (qj (p:=fun s=>eu L s) hlt hno);have hye:=hid (yL (p:=fun s=>eu L s) hlt);have GX:=hid (hF (zs[k]?.getD 0));clear hc hI hno;generalize zs[k]?.getD 0 = s at *;cases hq:(eu L s) with
   | true =>
    rw [hq] at GX;have Hy:=hid (hye.out hq);clear hq hsn;go_wp2_with (go_at_call 99;refine GX.out.mono ?_;rintro e w ⟨rfl,rfl⟩)
    go_ret;exact ⟨_,rfl,by rw [Hy.out];simp,rfl⟩
   | false =>
    rw [hq] at GX;have Hn:=hid (hsn.out hq);clear hq hye;go_wp2_with (go_at_call 99;refine GX.out.mono ?_;rintro e w ⟨rfl,rfl⟩)
    go_round
    case rel=>exact ⟨k+1,by omega,by go_num,Hn.out⟩
    case measure=>simp [intOf];omega
  ·obtain rfl:k = zs.length:=by omega
   rw [List.take_length] at hno;have hn:=hid hno;clear hno;go_wp2;go_ret;exact ⟨-1,rfl,by rw [hn.out];rfl,rfl⟩
theorem DL (zs:List Int) (L:List Int) (B:Nat) (aL:Option Addr) (cL:Nat) (a:Option Addr) (cap:Nat) (w:World) (hI:Ints w.heap.size w a zs) (hm:zs.length≤maxLen) (hB:w.cell? ⟨B,0,none⟩ = some (.slice aL L.length cL)) (hL:Ints w.heap.size w aL L) (hmL:L.length≤maxLen) :
 Calls Tryz.prog 92 #[.slice a zs.length cap,.func (.func 99) #[] #[.pointer (some ⟨B,0,none⟩)]] w fun e w'=>e = .returned (.bool (zs.any (fun s=>eu L s)))∧w' = w:=by
 have hC:=JB zs L B aL cL a cap w hI hm hB hL hmL;go_enter Tryz.func92,Tryz.ntmps92;go_wp2_with fail;refine hC.mono ?_;rintro e w ⟨k,rfl,hk,rfl⟩;have Hk:=hid hk;clear hk hC;go_wp2;go_ret;exact ⟨fG Hk.out,rfl⟩
def Tm.dI (L R:List Int):Int :=
 if Tm.err L = 0 then (if Tm.err R = 0 then (if L.any aV = true then 3 else if R.any aV = true then 3 else if L[0]?.getD 0 < 0 then 1 else if R.any (eu L) = true then 4 else 0) else Tm.err R) else Tm.err L
theorem GY (L R:List Int) (aL aR:Option Addr) (cL cR:Nat) (w:World) (hL:Ints w.heap.size w aL L) (hR:Ints w.heap.size w aR R) :
 Calls Tryz.prog 67 #[.agg #[.slice aL L.length cL,.slice aR R.length cR]] w fun e w'=>e = .returned (.int .i64 (Tm.dI L R))∧Below w.heap.size w w':=by
 have hB0:Below w.heap.size w (w.alloc (.cells #[.slice aL L.length cL,.slice aR R.length cR] 54)):=(Below.refl _ w).alloc (Nat.le_refl _) _;have hblk:=World.alloc_heap_new w (.cells #[.slice aL L.length cL,.slice aR R.length cR] 54);obtain ⟨w1,hw1⟩:∃ w1,w.alloc (.cells #[.slice aL L.length cL,.slice aR R.length cR] 54) = w1:=⟨_,rfl⟩;rw [hw1] at hB0 hblk;have HW:=hid hw1;clear hw1;have d0:w1.cell? ⟨w.heap.size,0,none⟩ = some (.slice aL L.length cL):=by simp [World.cell?,hblk]
 have d1:w1.cell? ⟨w.heap.size,1,none⟩ = some (.slice aR R.length cR):=by simp [World.cell?,hblk]
 have hlt:w.heap.size < w1.heap.size:=(Array.getElem?_eq_some_iff.1 hblk).1;have hL1:=(hL.below hB0).mono hB0.size;have Rl:=(hR.below hB0).mono hB0.size;have C1:=dZ L aL cL w1 hL1;have C2:=hid (fun W (hW:Below w1.heap.size w1 W)=>dZ R aR cR W ((Rl.below hW).mono hW.size));have D0:=hid (fun W (hW:Below w1.heap.size w1 W)=>(hW.cell (p:=⟨w.heap.size,0,none⟩) hlt).trans d0);have D1:=hid (fun W (hW:Below w1.heap.size w1 W)=>(hW.cell (p:=⟨w.heap.size,1,none⟩) hlt).trans d1);have d0e:(w.alloc (.cells #[.slice aL L.length cL,.slice aR R.length cR] 54)).cell? ⟨w.heap.size,0,none⟩ = some (.slice aL L.length cL):=by rw [HW.out];exact d0
 have hmf:∀ (fn:Fn) (first cap:Array Value) (w:World),(Instr.makeFunc fn first cap).run Tryz.prog w = .ok (.func fn first cap) w:=fun _ _ _ _=>rfl
 have HB0:=hid hB0;clear hblk hB0;by_cases h1:Tm.err L = 0
 ·by_cases h2:Tm.err R = 0
  ·have lL:=Tm.aI h1
   have lR:=Tm.aI h2;have pL:=Tm.bM h1;have pL':(0:Int) < (L.length:Int):=by omega
   have C3:=hid (fun W (hW:Below w1.heap.size w1 W)=>ql L aL cL W ((hL1.below hW).mono hW.size) (by unfold maxLen;omega));have C4:=hid (fun W (hW:Below w1.heap.size w1 W)=>ql R aR cR W ((Rl.below hW).mono hW.size) (by unfold maxLen;omega));have C5:=hid (fun W (hW:Below w1.heap.size w1 W)=>DL R L w.heap.size aL cL aR cR W ((Rl.below hW).mono hW.size) (by unfold maxLen;omega) (D0.out W hW) ((hL1.below hW).mono hW.size) (by unfold maxLen;omega));obtain ⟨b,off,rfl,_,_⟩:=hL1.at pL;have C6:=hid (fun W (hW:Below w1.heap.size w1 W)=>show W.cell? ⟨b,off+0,none⟩ = some (.int .i64 (L[0]?.getD 0)) by
    obtain ⟨_,_,e,_,hc⟩:=((hL1.below hW).mono hW.size) 0 pL;cases e;exact hc)
   simp only [Nat.add_zero] at C6;have hv:Tm.dI L R = (if L.any aV = true then 3 else if R.any aV = true then 3 else if L[0]?.getD 0 < 0 then 1 else if R.any (eu L) = true then 4 else 0):=by unfold Tm.dI;rw [if_pos h1,if_pos h2]
   rw [hv];rw [h1] at C1;rw [h2] at C2;clear h1 h2 hv hL hR hL1 Rl;generalize L[0]?.getD 0 = s at *;change Hid (∀ W,Below w1.heap.size w1 W→Calls _ _ _ W fun e w'=>e = .returned (.bool (R.any (eu L)))∧w' = W) at C5;change Hid (∀ W,Below w1.heap.size w1 W→Calls _ _ _ W fun e w'=>e = .returned (.bool (L.any aV))∧w' = W) at C3;change Hid (∀ W,Below w1.heap.size w1 W→Calls _ _ _ W fun e w'=>e = .returned (.bool (R.any aV))∧w' = W) at C4;generalize R.any (eu L) = q3 at *;generalize L.any aV = q1 at *;generalize R.any aV = q2 at *;cases q1 with
   | true =>
    rw [if_pos rfl];go_enter Tryz.func67,Tryz.ntmps67;go_wp2_with (first
     | (go_at_call_of 49 (Value.slice (some ⟨b,off,none⟩) L.length cL);rw [HW.out];refine C1.mono ?_;clear C1;rintro e w2 ⟨rfl,b2⟩;have e2:=D1.out w2 b2)
     | (go_at_call_of 49 (Value.slice aR R.length cR);refine (C2.out w2 b2).mono ?_;clear C2;rintro e w3 ⟨rfl,b3'⟩;have b3:=b2.trans (b3'.mono b2.size);have f0:=D0.out w3 b3;have f1:=D1.out w3 b3)
     | (go_at_call_of 92 (Value.slice (some ⟨b,off,none⟩) L.length cL);refine (C3.out w3 b3).mono ?_;rintro e w3 ⟨rfl,rfl⟩))
    go_ret;exact ⟨rfl,HB0.out.trans (b3.mono HB0.out.size)⟩
   | false =>
    rw [if_neg (by decide)];cases q2 with
    | true =>
     rw [if_pos rfl];go_enter Tryz.func67,Tryz.ntmps67;go_wp2_with (first
      | (go_at_call_of 49 (Value.slice (some ⟨b,off,none⟩) L.length cL);rw [HW.out];refine C1.mono ?_;clear C1;rintro e w2 ⟨rfl,b2⟩;have e2:=D1.out w2 b2)
      | (go_at_call_of 49 (Value.slice aR R.length cR);refine (C2.out w2 b2).mono ?_;clear C2;rintro e w3 ⟨rfl,b3'⟩;have b3:=b2.trans (b3'.mono b2.size);have f0:=D0.out w3 b3;have f1:=D1.out w3 b3)
      | (go_at_call_of 92 (Value.slice (some ⟨b,off,none⟩) L.length cL);refine (C3.out w3 b3).mono ?_;rintro e w3 ⟨rfl,rfl⟩)
      | (go_at_call_of 92 (Value.slice aR R.length cR);refine (C4.out w3 b3).mono ?_;clear C4;rintro e w3 ⟨rfl,rfl⟩;have c6:=C6.out w3 b3))
     go_ret;exact ⟨rfl,HB0.out.trans (b3.mono HB0.out.size)⟩
    | false =>
     rw [if_neg (by decide)];by_cases hs:s < 0
     ·rw [if_pos hs]
      go_enter Tryz.func67,Tryz.ntmps67;go_wp2_with (first
       | (go_at_call_of 49 (Value.slice (some ⟨b,off,none⟩) L.length cL);rw [HW.out];refine C1.mono ?_;clear C1;rintro e w2 ⟨rfl,b2⟩;have e2:=D1.out w2 b2)
       | (go_at_call_of 49 (Value.slice aR R.length cR);refine (C2.out w2 b2).mono ?_;clear C2;rintro e w3 ⟨rfl,b3'⟩;have b3:=b2.trans (b3'.mono b2.size);have f0:=D0.out w3 b3;have f1:=D1.out w3 b3)
       | (go_at_call_of 92 (Value.slice (some ⟨b,off,none⟩) L.length cL);refine (C3.out w3 b3).mono ?_;rintro e w3 ⟨rfl,rfl⟩)
       | (go_at_call_of 92 (Value.slice aR R.length cR);refine (C4.out w3 b3).mono ?_;clear C4;rintro e w3 ⟨rfl,rfl⟩;have c6:=C6.out w3 b3))
      go_ret;exact ⟨rfl,HB0.out.trans (b3.mono HB0.out.size)⟩
     ·rw [if_neg hs]
      have hs':decide (s < 0) = false:=by simpa using hs
      clear hs;cases q3 with
      | true =>
       rw [if_pos rfl];go_enter Tryz.func67,Tryz.ntmps67;go_wp2_with (first
        | (go_at_call_of 49 (Value.slice (some ⟨b,off,none⟩) L.length cL);rw [HW.out];refine C1.mono ?_;clear C1;rintro e w2 ⟨rfl,b2⟩;have e2:=D1.out w2 b2)
        | (go_at_call_of 49 (Value.slice aR R.length cR);refine (C2.out w2 b2).mono ?_;clear C2;rintro e w3 ⟨rfl,b3'⟩;have b3:=b2.trans (b3'.mono b2.size);have f0:=D0.out w3 b3;have f1:=D1.out w3 b3)
        | (go_at_call_of 92 (Value.slice (some ⟨b,off,none⟩) L.length cL);refine (C3.out w3 b3).mono ?_;rintro e w3 ⟨rfl,rfl⟩)
        | (go_at_call_of 92 (Value.slice aR R.length cR);refine (C4.out w3 b3).mono ?_;clear C4;rintro e w3 ⟨rfl,rfl⟩;have c6:=C6.out w3 b3)
        | (go_at_call_of 92 (Value.slice aR R.length cR);refine (C5.out w3 b3).mono ?_;rintro e w3 ⟨rfl,rfl⟩))
       go_ret;exact ⟨rfl,HB0.out.trans (b3.mono HB0.out.size)⟩
      | false =>
       rw [if_neg (by decide)];go_enter Tryz.func67,Tryz.ntmps67;go_wp2_with (first
        | (go_at_call_of 49 (Value.slice (some ⟨b,off,none⟩) L.length cL);rw [HW.out];refine C1.mono ?_;clear C1;rintro e w2 ⟨rfl,b2⟩;have e2:=D1.out w2 b2)
        | (go_at_call_of 49 (Value.slice aR R.length cR);refine (C2.out w2 b2).mono ?_;clear C2;rintro e w3 ⟨rfl,b3'⟩;have b3:=b2.trans (b3'.mono b2.size);have f0:=D0.out w3 b3;have f1:=D1.out w3 b3)
        | (go_at_call_of 92 (Value.slice (some ⟨b,off,none⟩) L.length cL);refine (C3.out w3 b3).mono ?_;rintro e w3 ⟨rfl,rfl⟩)
        | (go_at_call_of 92 (Value.slice aR R.length cR);refine (C4.out w3 b3).mono ?_;clear C4;rintro e w3 ⟨rfl,rfl⟩;have c6:=C6.out w3 b3)
        | (go_at_call_of 92 (Value.slice aR R.length cR);refine (C5.out w3 b3).mono ?_;rintro e w3 ⟨rfl,rfl⟩))
       go_ret;exact ⟨rfl,HB0.out.trans (b3.mono HB0.out.size)⟩
  ·have hv:Tm.dI L R = Tm.err R:=by unfold Tm.dI;rw [if_pos h1,if_neg h2]
   have hn:(Tm.err R != 0) = true:=by simpa using h2
   rw [hv];rw [h1] at C1;clear h1 h2 hv hL hR hL1 Rl;generalize Tm.err R = q at *;go_enter Tryz.func67,Tryz.ntmps67;go_wp2_with (first
    | (go_at_call_of 49 (Value.slice aL L.length cL);rw [HW.out];refine C1.mono ?_;clear C1;rintro e w2 ⟨rfl,b2⟩;have e2:=D1.out w2 b2)
    | (go_at_call_of 49 (Value.slice aR R.length cR);refine (C2.out w2 b2).mono ?_;clear C2;rintro e w3 ⟨rfl,b3'⟩;have b3:=b2.trans (b3'.mono b2.size);have f0:=D0.out w3 b3;have f1:=D1.out w3 b3))
   go_ret;exact ⟨rfl,HB0.out.trans (b3.mono HB0.out.size)⟩
 ·have hv:Tm.dI L R = Tm.err L:=by unfold Tm.dI;rw [if_neg h1]
  have hn:(Tm.err L != 0) = true:=by simpa using h1
  rw [hv];clear h1 hv hL hR hL1 Rl;generalize Tm.err L = q at *;go_enter Tryz.func67,Tryz.ntmps67;go_wp2_with (first
   | (go_at_call_of 49 (Value.slice aL L.length cL);rw [HW.out];refine C1.mono ?_;clear C1;rintro e w2 ⟨rfl,b2⟩;have e2:=D1.out w2 b2))
  go_ret;exact ⟨rfl,HB0.out.trans (b2.mono HB0.out.size)⟩
abbrev aH:=List (List Int × List Int)
def aJ (n:Nat) (W:World) (a:Option Addr) (rs:aH):Prop :=
 ∀ k,k < rs.length→∃ b off,a = some ⟨b,off,none⟩∧b < n∧∃ aL cL aR cR,W.cell? ⟨b,off+k * 2,none⟩ = some (.slice aL (rs[k]?.getD ([],[])).1.length cL)∧W.cell? ⟨b,off+k * 2+1,none⟩ = some (.slice aR (rs[k]?.getD ([],[])).2.length cR) ∧
  Ints n W aL (rs[k]?.getD ([],[])).1∧Ints n W aR (rs[k]?.getD ([],[])).2∧(rs[k]?.getD ([],[])).1.length≤cL∧cL≤maxLen∧(rs[k]?.getD ([],[])).2.length≤cR∧cR≤maxLen
theorem aJ.below {n:Nat} {A B:World} (h:Below n A B) {a:Option Addr} {rs:aH} (hi:aJ n A a rs):aJ n B a rs:=fun k hk=>by
 obtain ⟨b,off,e,hb,aL,cL,aR,cR,h1,h2,h3,h4,r⟩:=hi k hk;exact ⟨b,off,e,hb,aL,cL,aR,cR,(h.cell (p:=⟨b,off+k * 2,none⟩) hb).trans h1,(h.cell (p:=⟨b,off+k * 2+1,none⟩) hb).trans h2,h3.below h,h4.below h,r⟩
theorem aJ.mono {n m:Nat} (h:n≤m) {W:World} {a:Option Addr} {rs:aH} (hi:aJ n W a rs):aJ m W a rs:=fun k hk=>by
 obtain ⟨b,off,e,hb,aL,cL,aR,cR,h1,h2,h3,h4,r⟩:=hi k hk;exact ⟨b,off,e,by omega,aL,cL,aR,cR,h1,h2,h3.mono h,h4.mono h,r⟩
def Tm.firstRule:aH→Int
 | []=>0
 | r :: l=>if Tm.dI r.1 r.2 = 0 then Tm.firstRule l else Tm.dI r.1 r.2
def Tm.aO (rs:aH):Int:=if 8 < rs.length then 2 else Tm.firstRule rs
theorem Tm.qm {rs:aH} {k:Nat} (hk:k < rs.length) (he:Tm.dI (rs[k]?.getD ([],[])).1 (rs[k]?.getD ([],[])).2 = 0):Tm.firstRule (rs.drop k) = Tm.firstRule (rs.drop (k+1)):=by
 rw [List.drop_eq_getElem_cons hk,Tm.firstRule];simp only [hk,List.getElem?_eq_getElem,Option.getD_some] at he;rw [if_pos he]
theorem Tm.yM {rs:aH} {k:Nat} (hk:k < rs.length) (he:Tm.dI (rs[k]?.getD ([],[])).1 (rs[k]?.getD ([],[])).2≠0):Tm.firstRule (rs.drop k) = Tm.dI (rs[k]?.getD ([],[])).1 (rs[k]?.getD ([],[])).2:=by
 rw [List.drop_eq_getElem_cons hk,Tm.firstRule];simp only [hk,List.getElem?_eq_getElem,Option.getD_some] at he ⊢;rw [if_neg he]
theorem gL (rs:aH) (a:Option Addr) (cap:Nat) (w:World) (hI:aJ w.heap.size w a rs) :
 Calls Tryz.prog 48 #[.slice a rs.length cap] w fun e w'=>e = .returned (.int .i64 (Tm.aO rs))∧Below w.heap.size w w':=by
 by_cases h8:8 < rs.length
 ·have h8':(8:Int) < (rs.length:Int):=by omega
  have hv:Tm.aO rs = 2:=by unfold Tm.aO;rw [if_pos h8]
  rw [hv];clear h8 hv hI;go_enter Tryz.func48,Tryz.ntmps48;go_wp2;go_ret;exact ⟨rfl,Below.refl _ _⟩
 ·have h8':(rs.length:Int)≤8:=by omega
  have hv:Tm.aO rs = Tm.firstRule rs:=by unfold Tm.aO;rw [if_neg h8]
  rw [hv];clear hv h8;go_enter Tryz.func48,Tryz.ntmps48;go_wp2;go_loopw [11] (fun v wr=>∃ k:Nat,k≤rs.length∧v = .int .i64 (k:Int)∧Hid (Tm.firstRule rs = Tm.firstRule (rs.drop k))∧Below w.heap.size w wr) (fun v _=>rs.length - (intOf v).toNat)
  case atStart=>exact ⟨0,Nat.zero_le _,rfl,hid rfl,Below.refl _ _⟩
  case round =>
   obtain ⟨k,hk,rfl,hst,hB⟩:=hrel;by_cases hlt:k < rs.length
   ·have hlt':(k:Int) < (rs.length:Int):=by omega
    obtain ⟨b,off,rfl,hb,aL,cL,aR,cR,h1,h2,h3,h4,_⟩:=(hI.below hB) k hlt;have hs1:=hid (Tm.qm hlt);have hs2:=hid (Tm.yM hlt);obtain ⟨L,hL⟩:∃ L,(rs[k]?.getD ([],[])).1 = L:=⟨_,rfl⟩;obtain ⟨R,hR⟩:∃ R,(rs[k]?.getD ([],[])).2 = R:=⟨_,rfl⟩;rw [hL] at h1 h3 hs1 hs2;rw [hR] at h2 h4 hs1 hs2;have hBa:Below wr.heap.size wr (wr.alloc (.cells #[.slice aL L.length cL,.slice aR R.length cR] 54)):=(Below.refl _ wr).alloc (Nat.le_refl _) _;have hC:=hid (GY L R aL aR cL cR (wr.alloc (.cells #[.slice aL L.length cL,.slice aR R.length cR] 54)) (((h3.mono hB.size).below hBa).mono hBa.size) (((h4.mono hB.size).below hBa).mono hBa.size));have hBw:=hB.trans (hBa.mono hB.size);clear hL hR h3 h4 hI;by_cases he:Tm.dI L R = 0
    ·rw [he] at hC
     have Hs:=hid (hs1.out he);clear he hs1 hs2;go_wp2_with (first
      | (go_at_call 67;refine hC.out.mono ?_;clear hC;rintro e w2 ⟨rfl,b2⟩))
     go_roundw
     case rel=>exact ⟨k+1,by omega,by go_num,hid (hst.out.trans Hs.out),hBw.trans (b2.mono hBw.size)⟩
     case measure=>simp [intOf];omega
    ·have hn:(Tm.dI L R != 0) = true:=by simpa using he
     have Hs:=hid (hs2.out he);clear he hs1 hs2;generalize Tm.dI L R = q at *;go_wp2_with (first
      | (go_at_call 67;refine hC.out.mono ?_;clear hC;rintro e w2 ⟨rfl,b2⟩))
     go_ret;exact ⟨lW (hst.out.trans Hs.out).symm,hBw.trans (b2.mono hBw.size)⟩
   ·obtain rfl:k = rs.length:=by omega
    go_wp2;go_ret;exact ⟨by rw [hst.out,List.drop_length];rfl,hB⟩
end Go.Proofs.YtglohanbpjaieaaGreat
namespace Go.Proofs.YtglohanbpjaieaaGreat
open Go.Proofs Go.RowKit Go.Shelf Go.Deep Go.ChangeShapes Go.WideShapes
def Oz (w:World) (a:Option Addr) (len cap:Nat):Prop:=∃ rs:aH,rs.length = len∧aJ w.heap.size w a rs∧len≤cap∧cap≤maxLen
theorem FZ {H:Type} {enc:TypeId × Value→H} {w:World} {fuel:Nat} {v:Value} {x:DataW H × List MemPlace} (h:DataW.trod enc Tryz.prog w 0 (fun _=>true) true fuel 35 [v] = some x) :
 ∃ y:List Int × Option Addr × Nat,v = .slice y.2.1 y.1.length y.2.2∧Ints w.heap.size w y.2.1 y.1∧y.1.length≤y.2.2∧y.2.2≤maxLen:=by
 rcases open_ints Tryz.underlying35 Tryz.underlying3 (by kernel_rfl) h with ⟨hcs,_⟩ | ⟨a,l,c,zs,hcs,_,hl,hm,hz,_,hcell,hwz⟩
 ·simp only [List.cons.injEq,and_true] at hcs
  subst hcs;exact ⟨([],none,0),rfl,Ints.nil _ _ _,Nat.le_refl _,Nat.zero_le _⟩
 ·simp only [List.cons.injEq,and_true] at hcs
  subst hcs;simp only [if_true] at hz;have hI:=Fu (w:=w) (a:=some a) (L:=l) (C:=c) (Z:=zs) hl hz (fun y hy k hk=>by cases hy;exact hcell k (by omega)) (fun e=>by cases e);have hlen:(zs.take l).length = l:=by rw [List.length_take];omega
  exact ⟨(zs.take l,some a,c),by rw [hlen],hI,by rw [hlen];exact hl,hm⟩
theorem GZ {H:Type} {enc:TypeId × Value→H} {w:World} {fuel:Nat} {a:Option Addr} {len cap:Nat} {cs:List Value} {x:DataW H × List MemPlace} {t e:TypeId} {f0 f1:Field} (ht:Tryz.prog.underlying t = some (.slice e)) (he:Tryz.prog.underlying e = some (.struct #[f0,f1]))
 (ce:Tryz.prog.cellsOf e = 2) (o0:f0.offset = 0) (o1:f1.offset = 1) (t0:f0.type = 35) (t1:f1.type = 35) (hcs:cs = [.slice a len cap]) (h:DataW.trod enc Tryz.prog w 0 (fun _=>true) true fuel t cs = some x):Oz w a len cap:=by
 have c1:Tryz.prog.cellsOf 35 = 1:=by kernel_rfl
 rcases open_slice_pairs ht he ce o0 o1 (by rw [t0];exact c1) (by rw [t1];exact c1) h with ⟨hc,_⟩ | ⟨ad,l,c,m,n,V0,V1,D0,D1,P0,P1,hc,_,hl,hm,hmm,_,hrow⟩
 ·rw [hcs] at hc
  simp only [List.cons.injEq,Value.slice.injEq,and_true] at hc;obtain ⟨rfl,rfl,rfl⟩:=hc;exact ⟨[],rfl,fun k hk=>by simp at hk,Nat.le_refl _,Nat.zero_le _⟩
 ·rw [hcs] at hc
  simp only [List.cons.injEq,Value.slice.injEq,and_true] at hc;obtain ⟨rfl,rfl,rfl⟩:=hc;simp only [if_true] at hmm;rw [t0,t1] at hrow;have each:∀ i,i < m→∃ y:(List Int × Option Addr × Nat) × (List Int × Option Addr × Nat),(V0 i = .slice y.1.2.1 y.1.1.length y.1.2.2∧Ints w.heap.size w y.1.2.1 y.1.1∧y.1.1.length≤y.1.2.2∧y.1.2.2≤maxLen)∧(V1 i = .slice y.2.2.1 y.2.1.length y.2.2.2∧Ints w.heap.size w y.2.2.1 y.2.1∧y.2.1.length≤y.2.2.2∧y.2.2.2≤maxLen):=fun i hi=>by
   obtain ⟨_,_,h0,h1⟩:=hrow i hi;obtain ⟨y0,hy0⟩:=FZ h0;obtain ⟨y1,hy1⟩:=FZ h1;exact ⟨(y0,y1),hy0,hy1⟩
  obtain ⟨y,hy⟩:=choose_lt each;refine ⟨(List.range len).map fun i=>((y i).1.1,(y i).2.1),by simp,fun k hk=>?_,hl,hm⟩;have hk':k < len:=by simpa using hk
  obtain ⟨c0,c1',_,_⟩:=hrow k (by omega);obtain ⟨⟨e0,i0,q0,r0⟩,⟨e1,i1,q1,r1⟩⟩:=hy k (by omega);have hsp:=World.cell?_spot (hrow 0 (by omega)).1;obtain ⟨b,off,spot⟩:=ad;have hspot:spot = none:=by simpa [Addr.add] using hsp
  subst hspot;rw [add_plain] at c0 c1';have e:((List.range len).map fun i=>((y i).1.1,(y i).2.1))[k]?.getD ([],[]) = ((y k).1.1,(y k).2.1):=by simp [hk']
  rw [e];exact ⟨b,off,rfl,by simpa using lt_of_cell c0,_,_,_,_,by rw [← e0];exact c0,by rw [← e1,Nat.add_assoc];exact c1',i0,i1,q0,r0,q1,r1⟩
end Go.Proofs.YtglohanbpjaieaaGreat
namespace Go.Proofs.YtglohanbpjaieaaGreat
open Go.Proofs Go.RowKit Go.Shelf Go.Maps
def Tm.JC (s:Int):Int:=if s < 0 then s - 4 else s
def Tm.others (t:List Int):List Int:=t.map Tm.JC
theorem Tm.iI (t:List Int):(Tm.others t).length = t.length:=by simp [Tm.others]
theorem Tm.qo {t:List Int} {k:Nat} (h:k < t.length):Tm.others (t.take (k+1)) = Tm.others (t.take k)++[Tm.JC (t[k]?.getD 0)]:=by
 rw [j3 h];simp [Tm.others]
theorem Lu (s:Int) (h8:-100≤s) (w:World) :
 Calls Tryz.prog 108 #[.int .i64 s] w fun e w'=>∃ b,e = .returned (.slice (some b) 1 1)∧Ints w'.heap.size w' (some b) [Tm.JC s]∧Below w.heap.size w w':=by
 by_cases hs:s < 0
 ·have ho:Hid (Tm.JC s = s - 4):=by show _ = _;unfold Tm.JC;rw [if_pos hs]
  have h:=fH w [s - 4] _ rfl;simp only [List.map_cons,List.map_nil] at h;go_enter Tryz.func108,Tryz.ntmps108;go_wp2;go_ret;exact ⟨_,rfl,by rw [ho.out];simpa using h,(Below.refl _ _).alloc (Nat.le_refl _) _⟩
 ·have ho:Hid (Tm.JC s = s):=by show _ = _;unfold Tm.JC;rw [if_neg hs]
  have h:=fH w [s] _ rfl;simp only [List.map_cons,List.map_nil] at h;go_enter Tryz.func108,Tryz.ntmps108;go_wp2;go_ret;exact ⟨_,rfl,by rw [ho.out];simpa using h,(Below.refl _ _).alloc (Nat.le_refl _) _⟩
theorem yN (t:List Int) (at':Option Addr) (ct:Nat) (ht:t.length≤1000) (h8:∀ k,k < t.length→-100≤t[k]?.getD 0) (w:World) (hT:Ints w.heap.size w at' t) :
 Calls Tryz.prog 109 #[.slice at' t.length ct,.func (.func 108) #[] #[]] w fun e w'=>∃ v,e = .returned v∧New w.heap.size w' v (Tm.others t)∧Below w.heap.size w w':=by
 have hlen:(t.length:Int)≤1000:=by omega
 have HT:=hid hT;have H8:=hid h8;clear hT h8;go_enter Tryz.func109,Tryz.ntmps109;go_wp2;go_loopw [5,10] (fun v i wr=>∃ k:Nat,k≤t.length∧i = .int .i64 (k:Int)∧New w.heap.size wr v (Tm.others (t.take k))∧Below w.heap.size w wr) (fun _ i _=>t.length - (intOf i).toNat)
 case atStart=>exact ⟨0,Nat.zero_le _,rfl,New.nil _ _,Below.refl _ _⟩
 case round =>
  obtain ⟨k,hk,rfl,hN,hBr⟩:=hrel;by_cases hlt:k < t.length
  ·have hlt':(k:Int) < (t.length:Int):=by omega
   obtain ⟨b,off,rfl,hb,hc⟩:=HT.out.at (by omega);have hck:=(hBr.cell (p:=⟨b,off+k,none⟩) hb).trans (hc k hlt);have hf:=Lu (t[k]?.getD 0) (H8.out k hlt) wr;have hsn:=hid (Tm.qo hlt);have hle:=Tm.iI (t.take k);rw [List.length_take] at hle;have hle2:(Tm.others (t.take k)).length≤1000:=by omega
   clear hc hle;generalize Tm.JC (t[k]?.getD 0) = pc at *;generalize t[k]?.getD 0 = s at *;generalize Tm.others (t.take k) = xs at *;obtain ⟨a0,c0,rfl,_⟩:=New.ints hN;go_wp2_with (first
    | (go_at_call 108;refine hf.mono ?_;clear hf;rintro e w1 ⟨b1,rfl,hI1,hB1⟩;have hN1:=New.below hN hB1;have hB2:=hBr.trans (hB1.mono hBr.size))
    | (at_builtin;go_loud (refine aK _ rfl _ _ rfl w.heap.size _ xs rfl hN1 (some b1) [pc] 1 rfl (fun e=>by cases e) hI1 (by simp;omega) hB2.size ?_);intro v' w2 eH hB3;obtain ⟨a2,c2,rfl,_⟩:=New.ints eH))
   go_roundw
   case rel=>exact ⟨k+1,by omega,by go_num,by rw [hsn.out];simpa using eH,hB2.trans hB3⟩
   case measure=>simp [intOf];omega
  ·obtain rfl:k = t.length:=by omega
   rw [List.take_length] at hN;obtain ⟨a2,c2,rfl,_⟩:=New.ints hN;go_wp2;go_ret;exact ⟨_,rfl,hN,hBr⟩
def bZ (W:World) (B:Nat) (t:TypeId) (x y:Value):Prop:=W.heap[B]? = some (.cells #[x,y] t (0,0))
theorem bZ.lt {W:World} {B:Nat} {t:TypeId} {x y:Value} (h:bZ W B t x y):B < W.heap.size:=(Array.getElem?_eq_some_iff.1 h).1
theorem bZ.cell0 {W:World} {B:Nat} {t:TypeId} {x y:Value} (h:bZ W B t x y):W.cell? ⟨B,0,none⟩ = some x:=by simp [World.cell?,show W.heap[B]? = _ from h]
theorem bZ.cell1 {W:World} {B:Nat} {t:TypeId} {x y:Value} (h:bZ W B t x y):W.cell? ⟨B,1,none⟩ = some y:=by simp [World.cell?,show W.heap[B]? = _ from h]
theorem bZ.frozen {W:World} {B:Nat} {t:TypeId} {x y:Value} (h:bZ W B t x y) (i:Nat):W.frozen? ⟨B,i,none⟩ = false:=by simp [World.frozen?,show W.heap[B]? = _ from h]
theorem bZ.new (W:World) (t:TypeId) (x y:Value):bZ (W.alloc (.cells #[x,y] t)) W.heap.size t x y:=World.alloc_heap_new W _
theorem bZ.kept {W W':World} {row:Option Nat} {B:Nat} {t:TypeId} {x y:Value} (h:bZ W B t x y) (hg:W.grownBy W' row) (hne:some B≠row):bZ W' B t x y:=(hg.block B h.lt hne).trans h
theorem bZ.below {W W':World} {n B:Nat} {t:TypeId} {x y:Value} (h:bZ W B t x y) (hb:Below n W W') (hn:B < n):bZ W' B t x y:=(hb.block B hn).trans h
theorem bZ.alloc {W:World} {B:Nat} {t:TypeId} {x y:Value} (h:bZ W B t x y) (o:Obj):bZ (W.alloc o) B t x y:=h.kept (World.grownBy_alloc W o none) (by simp)
theorem bZ.set0 {W:World} {B:Nat} {t:TypeId} {x y:Value} (h:bZ W B t x y) (u:Value):bZ (W.setCell ⟨B,0,none⟩ u) B t u y:=by
 obtain ⟨hlt,hk⟩:=Array.getElem?_eq_some_iff.1 h;show (W.heap.modify B _)[B]? = _;rw [Array.getElem?_eq_getElem (by rw [Array.size_modify];exact hlt),Array.getElem_modify_self,hk];rfl
theorem bZ.set1 {W:World} {B:Nat} {t:TypeId} {x y:Value} (h:bZ W B t x y) (u:Value):bZ (W.setCell ⟨B,1,none⟩ u) B t x u:=by
 obtain ⟨hlt,hk⟩:=Array.getElem?_eq_some_iff.1 h;show (W.heap.modify B _)[B]? = _;rw [Array.getElem?_eq_getElem (by rw [Array.size_modify];exact hlt),Array.getElem_modify_self,hk];rfl
theorem New.OA {base:Nat} {W W':World} {v:Value} {xs:List Int} (h:New base W v xs) (hk:∀ q,base≤q→q < W.heap.size→W'.heap[q]? = W.heap[q]?):New base W' v xs :=
 ⟨h.1,h.2.elim .inl fun ⟨g,c,cur,e,hb,hg,r⟩=>.inr ⟨g,c,cur,e,hb,(hk g hb (Array.getElem?_eq_some_iff.1 hg).1).trans hg,r⟩⟩
def ApR (w:World) (L R:List Int) (F:Value→Value→Act) (e:Exit) (a':Act) (w4:World):Prop :=
 e = .normal∧∃ v u,a' = F v u∧New w.heap.size w4 v (Tm.others L)∧New w.heap.size w4 u (Tm.others R)∧Below w.heap.size w w4∧bZ w4 (w.heap.size+1) 54 v u
theorem ApR.panic {w:World} {L R:List Int} {F:Value→Value→Act} {c:_} {a':Act} {w4:World} {G:Prop} (H:ApR w L R F (.panic c) a' w4):G:=by
 cases H.1
theorem JD {fn:Func} {tmps:Array Value} {w:World} {a B:Nat} {x y:Value} (h:fn.results = #[.cell a 54]) (ha:tmps.getD a undef = .pointer (some ⟨B,0,none⟩)) (hb:bZ w B 54 x y):(results fn tmps).run Tryz.prog w = .ok (.agg #[x,y]) w:=by
 have ha':tmps[a]?.getD undef = .pointer (some ⟨B,0,none⟩):=by rw [← ha];simp
 simp only [results,h];simp [go_sem,ha',hb.cell0,hb.cell1]
theorem PS (L R:List Int) (aL aR:Option Addr) (cL cR:Nat) (w:World) (hL:Ints w.heap.size w aL L) (hR:Ints w.heap.size w aR R) (kL:L.length≤1000) (kR:R.length≤1000) (h8:∀ k,k < L.length→-100≤L[k]?.getD 0) (g8:∀ k,k < R.length→-100≤R[k]?.getD 0) :
 Calls Tryz.prog 79 #[.agg #[.slice aL L.length cL,.slice aR R.length cR]] w fun e w'=>∃ v u,e = .returned (.agg #[v,u])∧New w.heap.size w' v (Tm.others L)∧New w.heap.size w' u (Tm.others R)∧Below w.heap.size w w':=by
 have hmf:∀ (fn:Fn) (first cap:Array Value) (w:World),(Instr.makeFunc fn first cap).run Tryz.prog w = .ok (.func fn first cap) w:=fun _ _ _ _=>rfl
 obtain ⟨W2,hW2⟩:∃ W2,(w.alloc (.cells #[.slice aL L.length cL,.slice aR R.length cR] 54)).alloc (.cells #[.slice none 0 0,.slice none 0 0] 54) = W2:=⟨_,rfl⟩;have hs2:W2.heap.size = w.heap.size+2:=by rw [← hW2];simp
 have hB2:Below w.heap.size w W2:=by rw [← hW2];exact ((Below.refl _ w).alloc (Nat.le_refl _) _).alloc (by simp) _
 have bx:bZ W2 w.heap.size 54 (.slice aL L.length cL) (.slice aR R.length cR):=by rw [← hW2];exact (bZ.new w 54 _ _).alloc _
 have by':bZ W2 (w.heap.size+1) 54 (.slice none 0 0) (.slice none 0 0):=by
  rw [← hW2];have h:=bZ.new (w.alloc (.cells #[.slice aL L.length cL,.slice aR R.length cR] 54)) 54 (.slice none 0 0) (.slice none 0 0);rwa [World.size_alloc] at h
 have hBd:Below W2.heap.size W2 W2.drew:=below_drewN (Below.refl _ W2) 1;have jw:=hid (yN L aL cL kL h8 W2.drew ((hL.below hB2).mono hB2.size));have hC2:=hid (fun w3 (hB3:Below W2.drew.heap.size W2.drew w3)=>yN R aR cR kR g8 w3 ((((hR.below hB2).mono hB2.size).below (hBd.trans (hB3.mono (Nat.le_refl _)))).mono hB3.size));have hbL:Hid (∀ w3,Below W2.drew.heap.size W2.drew w3→bZ w3 w.heap.size 54 (.slice aL L.length cL) (.slice aR R.length cR)∧bZ w3 (w.heap.size+1) 54 (.slice none 0 0) (.slice none 0 0)):=fun w3 hB3=>⟨(hB3.block _ (show w.heap.size < W2.heap.size by omega)).trans bx,(hB3.block _ (show w.heap.size+1 < W2.heap.size by omega)).trans by'⟩
 have hbR:Hid (∀ w3 w4,Below W2.drew.heap.size W2.drew w3→Below w3.heap.size w3 w4→bZ w4 w.heap.size 54 (.slice aL L.length cL) (.slice aR R.length cR)∧bZ w4 (w.heap.size+1) 54 (.slice none 0 0) (.slice none 0 0)):=fun w3 w4 hB3 hB4=>by
  obtain ⟨p,q⟩:=hbL.out w3 hB3;exact ⟨(hB4.block _ p.lt).trans p,(hB4.block _ q.lt).trans q⟩
 have c20:=bx.cell0;have c21:=bx.cell1;have aj5:W2.drew.cell? ⟨w.heap.size,0,none⟩ = some (.slice aL L.length cL):=c20;have aj6:W2.drew.cell? ⟨w.heap.size,1,none⟩ = some (.slice aR R.length cR):=c21;have hfin:Hid (∀ w3 w4 v u,Below W2.drew.heap.size W2.drew w3→Below w3.heap.size w3 w4→New W2.drew.heap.size w3 v (Tm.others L)→New w3.heap.size w4 u (Tm.others R) →
  ApR w L R (fun v u=>{ tmps:=#[.agg #[.slice aL L.length cL,.slice aR R.length cR],.pointer (some ⟨w.heap.size,0,none⟩),.pointer (some ⟨w.heap.size+1,0,none⟩),.func (.func 108) #[] #[],.pointer (some ⟨w.heap.size,0,none⟩),.slice aL L.length cL,.func (.func 108) #[] #[],v,.pointer (some ⟨w.heap.size,1,none⟩),.slice aR R.length cR,.func (.func 108) #[] #[],u,.agg #[v,u]],defers:=[] }) .normal
   { tmps:=#[.agg #[.slice aL L.length cL,.slice aR R.length cR],.pointer (some ⟨w.heap.size,0,none⟩),.pointer (some ⟨w.heap.size+1,0,none⟩),.func (.func 108) #[] #[],.pointer (some ⟨w.heap.size,0,none⟩),.slice aL L.length cL,.func (.func 108) #[] #[],v,.pointer (some ⟨w.heap.size,1,none⟩),.slice aR R.length cR,.func (.func 108) #[] #[],u,.agg #[v,u]],defers:=[] }
   ((w4.setCell ⟨w.heap.size+1,0,none⟩ v).setCell ⟨w.heap.size+1,1,none⟩ u)):=fun w3 w4 v u hB3 hB4 iD gI=>by
  have h23:W2.heap.size≤w3.heap.size:=hB3.size;have hB:=hB2.trans (((hBd.trans (hB3.mono (Nat.le_refl _))).trans (hB4.mono h23)).mono hB2.size);have hk:∀ q,w.heap.size+2≤q→((w4.setCell ⟨w.heap.size+1,0,none⟩ v).setCell ⟨w.heap.size+1,1,none⟩ u).heap[q]? = w4.heap[q]?:=fun q hq=>(Below.heap_setCell _ _ _ q (show q≠w.heap.size+1 by omega)).trans (Below.heap_setCell _ _ _ q (show q≠w.heap.size+1 by omega))
  have n3:New (w.heap.size+2) w4 v (Tm.others L):=(iD.mono (show w.heap.size+2≤W2.heap.size by omega)).below hB4;have n4:New (w.heap.size+2) w4 u (Tm.others R):=gI.mono (by omega);refine ⟨rfl,v,u,rfl,(n3.OA (fun q h1 _=>hk q h1)).mono (by omega),(n4.OA (fun q h1 _=>hk q h1)).mono (by omega),?_,?_⟩
  ·exact (hB.setCell (p:=⟨w.heap.size+1,0,none⟩) (by show w.heap.size≤w.heap.size+1;omega) v).setCell (p:=⟨w.heap.size+1,1,none⟩) (by show w.heap.size≤w.heap.size+1;omega) u
  ·exact ((hbR.out w3 w4 hB3 hB4).2.set0 v).set1 u
 have HW2:=hid hW2;have mixed:Tryz.prog.follows .mixedOrders = true:=by kernel_rfl
 clear hW2 hL hR h8 g8 kL kR bx by' hB2 hBd
 go_enter Tryz.func79,Tryz.ntmps79;go_wp2_with fail;rw [HW2.out];refine wp_mono (Q:=ApR w L R (fun v u=>{ tmps:=#[.agg #[.slice aL L.length cL,.slice aR R.length cR],.pointer (some ⟨w.heap.size,0,none⟩),.pointer (some ⟨w.heap.size+1,0,none⟩),.func (.func 108) #[] #[],.pointer (some ⟨w.heap.size,0,none⟩),.slice aL L.length cL,.func (.func 108) #[] #[],v,.pointer (some ⟨w.heap.size,1,none⟩),.slice aR R.length cR,.func (.func 108) #[] #[],u,.agg #[v,u]],defers:=[] })) ?reg ?aft
 case reg =>
  refine wp_region_any mixed ?_;change wpAny _ _ _ _ _ _ _ (World.drew _);show wpAny _ _ _ _ 10 (Array.replicate 10 false) _ _;refine wpAny_take (i:=0) (v:=.pointer (some ⟨w.heap.size,0,none⟩)) rfl (by kernel_rfl) (by kernel_rfl) (by kernel_rfl) (fun _ _ _ h=>h.panic) (Or.inl ⟨by rfl,fun w=>by go_simp⟩) ?_;refine wpAny_take (i:=2) (v:=.func (.func 108) #[] #[]) rfl (by kernel_rfl) (by kernel_rfl) (by kernel_rfl) (fun _ _ _ h=>h.panic) (Or.inl ⟨by rfl,fun w=>by go_simp⟩) ?_;refine wpAny_take (i:=4) (v:=.pointer (some ⟨w.heap.size,1,none⟩)) rfl (by kernel_rfl) (by kernel_rfl) (by kernel_rfl) (fun _ _ _ h=>h.panic) (Or.inl ⟨by rfl,fun w=>by go_simp⟩) ?_;refine wpAny_take (i:=6) (v:=.func (.func 108) #[] #[]) rfl (by kernel_rfl) (by kernel_rfl) (by kernel_rfl) (fun _ _ _ h=>h.panic) (Or.inl ⟨by rfl,fun w=>by go_simp⟩) ?_;refine wpAny_ready (rs:=[1,5]) (by kernel_rfl) (by simp) ?_;refine AllReady.cons rfl (fun K hK=>?_) (AllReady.cons rfl (fun K hK=>?_) AllReady.nil)
  ·go_simp
   refine hK _ _ ?_;clear hK K;refine wpAny_ready (rs:=[3,5]) (by kernel_rfl) (by simp) ?_;refine AllReady.cons rfl (fun K hK=>?_) (AllReady.cons rfl (fun K hK=>?_) AllReady.nil)
   ·go_simp
    refine (jw.out).mono ?_;rintro e w3 ⟨v,rfl,iD,hB3⟩;obtain ⟨x3,c3,rfl,_⟩:=New.ints iD;have b3:=hbL.out w3 hB3;have c31:=b3.1.cell1;refine hK _ _ ?_;clear hK K;refine wpAny_ready (rs:=[5]) (by kernel_rfl) (by simp) ?_;refine AllReady.cons rfl (fun K hK=>?_) AllReady.nil;go_simp;refine hK _ _ ?_;clear hK K;refine wpAny_ready (rs:=[7]) (by kernel_rfl) (by simp) ?_;refine AllReady.cons rfl (fun K hK=>?_) AllReady.nil;go_simp;refine (hC2.out w3 hB3).mono ?_;rintro e w4 ⟨u,rfl,gI,hB4⟩;obtain ⟨x4,c4,rfl,_⟩:=New.ints gI;have b4:=hbR.out w3 w4 hB3 hB4;have c40:=b4.2.cell0;have Jl:=b4.2.cell1;have f40:=b4.2.frozen 0;have f41:=b4.2.frozen 1;have abv:=(b4.2.set0 (.slice x3 (Tm.others L).length c3)).cell1;have abw:=(b4.2.set0 (.slice x3 (Tm.others L).length c3)).frozen 1;refine hK _ _ ?_;clear hK K;refine wpAny_take (i:=8) (v:=.agg #[.slice x3 (Tm.others L).length c3,.slice x4 (Tm.others R).length c4]) rfl (by kernel_rfl) (by kernel_rfl) (by kernel_rfl) (fun _ _ _ h=>h.panic) (Or.inl ⟨by rfl,fun w=>by go_simp⟩) ?_;refine wpAny_ready (rs:=[9]) (by kernel_rfl) (by simp) ?_;refine AllReady.cons rfl (fun K hK=>?_) AllReady.nil;go_simp;refine hK _ _ ?_;clear hK K;refine wpAny_done (by kernel_rfl) ?_ _;exact hfin.out w3 w4 (.slice x3 (Tm.others L).length c3) (.slice x4 (Tm.others R).length c4) hB3 hB4 iD gI
   ·go_simp
    refine hK _ _ ?_;clear hK K;refine wpAny_ready (rs:=[3]) (by kernel_rfl) (by simp) ?_;refine AllReady.cons rfl (fun K hK=>?_) AllReady.nil;go_simp;refine (jw.out).mono ?_;rintro e w3 ⟨v,rfl,iD,hB3⟩;obtain ⟨x3,c3,rfl,_⟩:=New.ints iD;have b3:=hbL.out w3 hB3;have c31:=b3.1.cell1;refine hK _ _ ?_;clear hK K;refine wpAny_ready (rs:=[7]) (by kernel_rfl) (by simp) ?_;refine AllReady.cons rfl (fun K hK=>?_) AllReady.nil;go_simp;refine (hC2.out w3 hB3).mono ?_;rintro e w4 ⟨u,rfl,gI,hB4⟩;obtain ⟨x4,c4,rfl,_⟩:=New.ints gI;have b4:=hbR.out w3 w4 hB3 hB4;have c40:=b4.2.cell0;have Jl:=b4.2.cell1;have f40:=b4.2.frozen 0;have f41:=b4.2.frozen 1;have abv:=(b4.2.set0 (.slice x3 (Tm.others L).length c3)).cell1;have abw:=(b4.2.set0 (.slice x3 (Tm.others L).length c3)).frozen 1;refine hK _ _ ?_;clear hK K;refine wpAny_take (i:=8) (v:=.agg #[.slice x3 (Tm.others L).length c3,.slice x4 (Tm.others R).length c4]) rfl (by kernel_rfl) (by kernel_rfl) (by kernel_rfl) (fun _ _ _ h=>h.panic) (Or.inl ⟨by rfl,fun w=>by go_simp⟩) ?_;refine wpAny_ready (rs:=[9]) (by kernel_rfl) (by simp) ?_;refine AllReady.cons rfl (fun K hK=>?_) AllReady.nil;go_simp;refine hK _ _ ?_;clear hK K;refine wpAny_done (by kernel_rfl) ?_ _;exact hfin.out w3 w4 (.slice x3 (Tm.others L).length c3) (.slice x4 (Tm.others R).length c4) hB3 hB4 iD gI
  ·go_simp
   refine hK _ _ ?_;clear hK K;refine wpAny_ready (rs:=[1]) (by kernel_rfl) (by simp) ?_;refine AllReady.cons rfl (fun K hK=>?_) AllReady.nil;go_simp;refine hK _ _ ?_;clear hK K;refine wpAny_ready (rs:=[3]) (by kernel_rfl) (by simp) ?_;refine AllReady.cons rfl (fun K hK=>?_) AllReady.nil;go_simp;refine (jw.out).mono ?_;rintro e w3 ⟨v,rfl,iD,hB3⟩;obtain ⟨x3,c3,rfl,_⟩:=New.ints iD;have b3:=hbL.out w3 hB3;have c31:=b3.1.cell1;refine hK _ _ ?_;clear hK K;refine wpAny_ready (rs:=[7]) (by kernel_rfl) (by simp) ?_;refine AllReady.cons rfl (fun K hK=>?_) AllReady.nil;go_simp;refine (hC2.out w3 hB3).mono ?_;rintro e w4 ⟨u,rfl,gI,hB4⟩;obtain ⟨x4,c4,rfl,_⟩:=New.ints gI;have b4:=hbR.out w3 w4 hB3 hB4;have c40:=b4.2.cell0;have Jl:=b4.2.cell1;have f40:=b4.2.frozen 0;have f41:=b4.2.frozen 1;have abv:=(b4.2.set0 (.slice x3 (Tm.others L).length c3)).cell1;have abw:=(b4.2.set0 (.slice x3 (Tm.others L).length c3)).frozen 1;refine hK _ _ ?_;clear hK K;refine wpAny_take (i:=8) (v:=.agg #[.slice x3 (Tm.others L).length c3,.slice x4 (Tm.others R).length c4]) rfl (by kernel_rfl) (by kernel_rfl) (by kernel_rfl) (fun _ _ _ h=>h.panic) (Or.inl ⟨by rfl,fun w=>by go_simp⟩) ?_;refine wpAny_ready (rs:=[9]) (by kernel_rfl) (by simp) ?_;refine AllReady.cons rfl (fun K hK=>?_) AllReady.nil;go_simp;refine hK _ _ ?_;clear hK K;refine wpAny_done (by kernel_rfl) ?_ _;exact hfin.out w3 w4 (.slice x3 (Tm.others L).length c3) (.slice x4 (Tm.others R).length c4) hB3 hB4 iD gI
 case aft =>
  rintro e a' w5 ⟨rfl,v,u,rfl,hv,hu,hB,hbx⟩;have k0:=hbx.cell0;have k1:=hbx.cell1;clear jw hC2 hbL hbR hfin;go_wp2;refine bodyPost_ret (JD rfl rfl hbx) rfl ?_;exact ⟨v,u,rfl,hv,hu,hB⟩
end Go.Proofs.YtglohanbpjaieaaGreat
namespace Go.Proofs.YtglohanbpjaieaaGreat
open Go.Proofs Go.RowKit Go.Shelf
namespace Wb
def sg (zs:List Int) (p:Nat):Int:=zs[p]?.getD 0
structure Good (zs:List Int):Prop where
 len:zs.length≤5000
 eight:8≤zs.length
 known:∀ p,p < zs.length→-8≤sg zs p∧sg zs p < 6
 vars:∀ i,i < 8→sg zs i = -1 - (i:Int)
 ends:∀ p,p < zs.length→Tm.ai zs p≤zs.length
def can (zs:List Int) (p:Nat):Nat:=if sg zs p < 0 then (-1 - sg zs p).toNat else p
theorem oM {zs:List Int} {p:Nat} (h:0≤sg zs p):can zs p = p:=by unfold can;rw [if_neg (by omega)]
theorem DN {zs:List Int} (G:Good zs) {p:Nat} (h:p < zs.length):can zs p < zs.length:=by
 have:=G.known p h
 have:=G.eight
 unfold can;split <;> omega
theorem G5 {zs:List Int} (G:Good zs) {p:Nat} (h:p < zs.length):sg zs (can zs p) = sg zs p:=by
 by_cases hs:sg zs p < 0
 ·unfold can
  rw [if_pos hs];have:=G.known p h
  rw [G.vars _ (by omega)];omega
 ·rw [oM (by omega)]
theorem yO {zs:List Int} (G:Good zs) {p:Nat} (h:p < zs.length):can zs (can zs p) = can zs p:=by
 have e:=G5 G h;by_cases hs:sg zs p < 0
 ·rw [show can zs (can zs p) = (-1 - sg zs (can zs p)).toNat from by conv=>lhs;rw [can]
                                                                     rw [if_pos (by rw [e];exact hs)],e]
  unfold can;rw [if_pos hs]
 ·rw [oM (p:=can zs p) (by rw [e];omega)]
structure St (zs:List Int) (T:Nat→Option Nat) (h:Nat→Nat):Prop where
 root:∀ p,p < zs.length→can zs p = p→h p < zs.length∧can zs (h p) = h p∧h (h p) = h p
 free:∀ p,p < zs.length→can zs p = p→(T p = none ↔ h p = p)
 next:∀ p q,p < zs.length→can zs p = p→T p = some q→q < zs.length∧can zs q = q∧h q = h p
 down:∃ st:Nat→Nat,∀ p q,p < zs.length→can zs p = p→T p = some q→st q < st p
 up:∀ p,p < zs.length→can zs p = p→sg zs p≤sg zs (h p)
 out:∀ p,zs.length≤p→h p = p∧T p = none
theorem St.start (zs:List Int):St zs (fun _=>none) (fun p=>p) :=
 ⟨fun p h1 h2=>⟨h1,h2,rfl⟩,fun p _ _=>by simp,fun p q _ _ h=>by simp at h,⟨fun _=>0,fun p q _ _ h=>by simp at h⟩,fun p _ _=>Int.le_refl _,fun _ _=>⟨rfl,rfl⟩⟩
def qc (T:Nat→Option Nat) (o n:Nat):Nat→Option Nat:=fun p=>if p = o then some n else T p
def mg (h:Nat→Nat) (o n:Nat):Nat→Nat:=fun p=>if h p = o then n else h p
theorem St.merge {zs:List Int} {T:Nat→Option Nat} {h:Nat→Nat} (S:St zs T h) {o n:Nat} (ho:o < zs.length) (hn:n < zs.length) (co:can zs o = o) (cn:can zs n = n) (ro:h o = o) (rn:h n = n) (hne:o≠n) (hs:sg zs o≤sg zs n) :
 St zs (qc T o n) (mg h o n):=by
 have X7:mg h o n n = n:=by unfold mg;rw [rn,if_neg (fun e=>hne e.symm)]
 have hmo:mg h o n o = n:=by unfold mg;rw [if_pos ro]
 refine ⟨fun p h1 h2=>?_,fun p h1 h2=>?_,fun p q h1 h2 h3=>?_,?_,fun p h1 h2=>?_,fun p hp=>?_⟩
 ·obtain ⟨a,b,c⟩:=S.root p h1 h2
  by_cases e:h p = o
  ·have:mg h o n p = n:=by unfold mg;rw [if_pos e]
   rw [this];exact ⟨hn,cn,X7⟩
  ·have:mg h o n p = h p:=by unfold mg;rw [if_neg e]
   rw [this];refine ⟨a,b,?_⟩;unfold mg;rw [c,if_neg e]
 ·by_cases e:p = o
  ·subst e
   rw [hmo];simp [qc];exact fun e=>hne e.symm
  ·have hT:qc T o n p = T p:=by simp [qc,e]
   rw [hT,S.free p h1 h2];unfold mg;by_cases e2:h p = o
   ·rw [if_pos e2]
    constructor
    ·intro e3;exact absurd (e3.symm.trans e2) e
    ·intro e3;subst e3;rw [rn] at e2;exact absurd e2.symm hne
   ·rw [if_neg e2]
 ·by_cases e:p = o
  ·subst e
   simp [qc] at h3;subst h3;exact ⟨hn,cn,by rw [X7,hmo]⟩
  ·have hT:qc T o n p = T p:=by simp [qc,e]
   rw [hT] at h3;obtain ⟨a,b,c⟩:=S.next p q h1 h2 h3;exact ⟨a,b,by unfold mg;rw [c]⟩
 ·obtain ⟨st,hst⟩:=S.down
  refine ⟨fun p=>if h p = o then st p+(st n+1) else st p,fun p q h1 h2 h3=>?_⟩;show (if h q = o then st q+(st n+1) else st q) < (if h p = o then st p+(st n+1) else st p);by_cases e:p = o
  ·subst e
   simp [qc] at h3;subst h3;rw [if_neg (by rw [rn];exact fun e=>hne e.symm),if_pos ro];omega
  ·have hT:qc T o n p = T p:=by simp [qc,e]
   rw [hT] at h3;have hc:=(S.next p q h1 h2 h3).2.2;have hl:=hst p q h1 h2 h3;rw [hc];by_cases e2:h p = o
   ·rw [if_pos e2,if_pos e2];omega
   ·rw [if_neg e2,if_neg e2];exact hl
 ·have:=S.up p h1 h2
  unfold mg;by_cases e:h p = o
  ·rw [if_pos e];rw [e] at this;omega
  ·rw [if_neg e];exact this
 ·obtain ⟨e1,e2⟩:=S.out p hp
  refine ⟨by unfold mg;rw [e1,if_neg (by omega)],?_⟩;unfold qc;rw [if_neg (by omega)];exact e2
def rt (zs:List Int) (h:Nat→Nat):Nat:=((List.range zs.length).filter fun p=>decide (can zs p = p∧h p = p)).length
theorem filter_lt {α:Type} (l:List α) (f g:α→Bool) (hle:∀ x∈l,f x = true→g x = true) (x:α) (hx:x∈l) (h1:f x = false) (h2:g x = true):(l.filter f).length < (l.filter g).length:=by
 have hmono:∀ (l:List α),(∀ x∈l,f x = true→g x = true)→(l.filter f).length≤(l.filter g).length:=by
  intro l;induction l with
  | nil=>intro _;simp
  | cons y l ih =>
   intro h;have:=ih (fun x hx=>h x (by simp [hx]))
   rw [List.filter_cons,List.filter_cons];by_cases hf:f y = true
   ·rw [if_pos hf,if_pos (h y (by simp) hf)];simp;omega
   ·rw [if_neg hf];split <;> (try simp) <;> omega
 induction l with
 | nil=>simp at hx
 | cons y l ih =>
  rw [List.filter_cons,List.filter_cons];rcases List.mem_cons.1 hx with e | hm
  ·subst e
   have:=hmono l (fun x hx=>hle x (by simp [hx]))
   rw [if_neg (by rw [h1];decide),if_pos h2];simp;omega
  ·have:=ih (fun x hx=>hle x (by simp [hx])) hm
   by_cases hf:f y = true
   ·rw [if_pos hf,if_pos (hle y (by simp) hf)];simp;omega
   ·rw [if_neg hf];split <;> (try simp) <;> omega
theorem JE {zs:List Int} {h:Nat→Nat} {o n:Nat} (ho:o < zs.length) (co:can zs o = o) (ro:h o = o) (rn:h n = n) (hne:o≠n):rt zs (mg h o n) < rt zs h:=by
 refine filter_lt _ _ _ (fun p _ hp=>?_) o (List.mem_range.2 ho) ?_ ?_
 ·simp only [decide_eq_true_eq] at hp ⊢
  refine ⟨hp.1,?_⟩;have h2:=hp.2;unfold mg at h2;by_cases e:h p = o
  ·rw [if_pos e] at h2;subst h2;exact rn
  ·rw [if_neg e] at h2;exact h2
 ·simp only [decide_eq_false_iff_not]
  rintro ⟨_,h2⟩;unfold mg at h2;rw [if_pos ro] at h2;exact hne h2.symm
 ·simp [co,ro]
def hd (zs:List Int) (h:Nat→Nat) (p:Nat):Nat:=h (can zs p)
theorem nQ {zs:List Int} (G:Good zs) {T:Nat→Option Nat} {h:Nat→Nat} (S:St zs T h) {p:Nat} (hp:p < zs.length):hd zs h p < zs.length∧can zs (hd zs h p) = hd zs h p∧h (hd zs h p) = hd zs h p :=
 S.root _ (DN G hp) (yO G hp)
theorem Xi {zs:List Int} (G:Good zs) {T:Nat→Option Nat} {h:Nat→Nat} (S:St zs T h) {p:Nat} (hp:p < zs.length):sg zs p≤sg zs (hd zs h p):=by
 have:=S.up _ (DN G hp) (yO G hp)
 rw [G5 G hp] at this;exact this
end Wb
end Go.Proofs.YtglohanbpjaieaaGreat
namespace Go.Proofs.YtglohanbpjaieaaGreat
open Go.Proofs Go.RowKit Go.Shelf Go.Maps
section
section
variable {F:Fence} {nF:Nat} (w:World) {ops:Array Oper} {rest:List Oper} {o:Oper} {a:Act} {Q:Exit→Act→World→Prop}
theorem mZ (hg:o.guard = none) (m x:Operand) (t:TypeId) (hop:o.op = Op.lookup t m x true) (e:TypeId) (ht:Tryz.prog.underlying t = some (.map 3 e)) {z:Value} (hz:(zeroValue e).run Tryz.prog w = .ok z w) (b n:Nat) (M:Int→Option Value)
 (hm:a.eval m = .map (some b)) (hI:dh w b n M) (key:Int) (hx:a.eval x = .int .i64 key) (hwf:(Lit.int .i64 key).wf = true) (v:Value) (q:Bool) (hv:(M key).getD z = v) (hq:(M key).isSome = q)
 (hK:wpListIn F nF Tryz.prog ops Q rest (a.put o.dst (.tuple #[v,.bool q])) w):wpListIn F nF Tryz.prog ops Q (o :: rest) a w:=by
 refine wpListIn_plain hg fun K' hK'=>?_
 have hrun:=(hI.look ht hz hwf).1;rw [hv,hq] at hrun;unfold Oper.wpIn;refine ⟨by simp [Oper.about,hop],?_⟩;rw [Oper.semAt_plain F _ _ (by rw [hop];intro c hc';cases hc')];simp [execOp,hop,hm,hx,hrun,Result.andThen];exact hK' _ _ hK
end
structure dE (W:World) (Bw Bm:Nat) (a:Option Addr) (cap:Nat) (zs:List Int) (N:Nat) (T:Nat→Option Nat):Prop where
 JF:W.heap[Bw]? = some (.cells #[.slice a zs.length cap,.map (some Bm)] 168 (0,0))
 ints:Ints W.heap.size W a zs
 ties:∃ M,dh W Bm N M∧∀ p:Nat,M (p:Int) = (T p).map fun q=>.int .i64 (q:Int)
theorem dE.cell0 {W:World} {Bw Bm:Nat} {a:Option Addr} {cap:Nat} {zs:List Int} {N:Nat} {T:Nat→Option Nat} (h:dE W Bw Bm a cap zs N T):W.cell? ⟨Bw,0,none⟩ = some (.slice a zs.length cap):=(aM h.JF 0).trans rfl
theorem dE.cell1 {W:World} {Bw Bm:Nat} {a:Option Addr} {cap:Nat} {zs:List Int} {N:Nat} {T:Nat→Option Nat} (h:dE W Bw Bm a cap zs N T):W.cell? ⟨Bw,1,none⟩ = some (.map (some Bm)):=(aM h.JF 1).trans rfl
theorem dE.below {W W':World} {Bw Bm:Nat} {a:Option Addr} {cap:Nat} {zs:List Int} {N:Nat} {T:Nat→Option Nat} (h:dE W Bw Bm a cap zs N T) (hB:Below W.heap.size W W'):dE W' Bw Bm a cap zs N T:=by
 refine ⟨(hB.block Bw (Array.getElem?_eq_some_iff.1 h.JF).1).trans h.JF,(h.ints.below hB).mono hB.size,?_⟩;obtain ⟨M,hM,hT⟩:=h.ties;exact ⟨M,hM.keep (hB.block Bm hM.lt),hT⟩
theorem dE.lt {W:World} {Bw Bm:Nat} {a:Option Addr} {cap:Nat} {zs:List Int} {N:Nat} {T:Nat→Option Nat} (h:dE W Bw Bm a cap zs N T):Bw < W.heap.size∧Bm < W.heap.size:=by
 obtain ⟨M,hM,hT⟩:=h.ties;exact ⟨(Array.getElem?_eq_some_iff.1 h.JF).1,hM.lt⟩
theorem wfN {n:Nat} (h:n≤100000):(Lit.int .i64 (n:Int)).wf = true:=by
 simp [Lit.wf,IntKind.min,IntKind.max,IntKind.signed,IntKind.bits];omega
attribute [local go_sem] Oper.semAt_some
theorem yQ (F:Fence) (hF:Pl F) (n:Nat) (zs:List Int) (T:Nat→Option Nat) (h:Nat→Nat) (G:Wb.Good zs) (S:Wb.St zs T h) (Bw Bm:Nat) (a:Option Addr) (cap N p:Nat) (hp:p < zs.length) (w:World) (hW:dE w Bw Bm a cap zs N T) :
 CallsIn F n Tryz.prog 137 #[.pointer (some ⟨Bw,0,none⟩),.int .i64 (p:Int)] w fun e w'=>e = .returned (.int .i64 (Wb.hd zs h p:Int))∧w' = w:=by
 obtain ⟨hro,hfn,hdd⟩:=jf hF;have hf:=hfn _ _ Tryz.func137;clear hF hfn;have hl5:=G.len;have Vp:(zs.length:Int)≤5000:=by omega
 have hp':(p:Int) < (zs.length:Int):=by omega
 have hw0:=hW.cell0;have hw1:=hW.cell1;obtain ⟨M,hM,hT⟩:=hW.ties;obtain ⟨b,off,rfl,hb,hc⟩:=hW.ints.at (by omega);have hcp:w.cell? ⟨b,off+p,none⟩ = some (.int .i64 (Wb.sg zs p)):=hc p hp;obtain ⟨st,hst⟩:=S.down;have hcl:=Wb.DN G hp;have hcc:=Wb.yO G hp;have hkn:=G.known p hp;have HS:=hid S;have Xj:=hid hst;have HM:=hid hM;have HT:=hid hT;have abx:Hid (Wb.can zs p = if Wb.sg zs p < 0 then (-1 - Wb.sg zs p).toNat else p):=rfl;have hhd:Hid (Wb.hd zs h p = h (Wb.can zs p)):=rfl;clear S hst hM hT hc hW G;generalize Wb.hd zs h p = r at *;generalize Wb.sg zs p = s at *;generalize Wb.can zs p = c at *;by_cases hs:s < 0
 ·have hce:(-1:Int) - s = (c:Int):=by rw [abx.out,if_pos hs];omega
  refine callsIn_of_wp Tryz.func137 rfl hf ?_ hro;simp only [Tryz.ntmps137,List.size_toArray,List.length_cons,List.length_nil,Nat.reduceAdd,Nat.reduceSub,Array.replicate_succ,Array.replicate_zero,List.push_toArray,List.append_toArray,List.nil_append,List.cons_append];gi_wp2
  gi_loopw [1] (fun x wr=>∃ q:Nat,x = .int .i64 (q:Int)∧q < zs.length∧Wb.can zs q = q∧Hid (h q = h c)∧wr = w) (fun x _=>st (intOf x).toNat)
  case atStart=>exact ⟨c,by rw [← hce],hcl,hcc,rfl,rfl⟩
  case round =>
   obtain ⟨q,rfl,hq,hcq,hhq,rfl⟩:=hrel;have hwf:=wfN (n:=q) (by omega);cases De:T q with
   | none =>
    have RS:(M (q:Int)) = none:=by rw [HT.out,De];rfl
    have hroot:=hid ((HS.out.free q hq hcq).1 De);clear De;gi_wp2_with (gi_at_lookup;(refine mZ _ rfl _ _ 154 rfl 3 Tryz.underlying154 (lZ _) Bm N M rfl HM.out (q:Int) rfl hwf (.int .i64 0) false (by rw [RS];rfl) (by rw [RS];rfl) ?_))
    go_ret;exact ⟨by rw [hhd.out,← hhq.out,hroot.out];rfl,rfl⟩
   | some q2 =>
    have RS:(M (q:Int)) = some (.int .i64 (q2:Int)):=by rw [HT.out,De];rfl
    obtain ⟨g1,g2,g3⟩:=HS.out.next q q2 hq hcq De;have hlt:=Xj.out q q2 hq hcq De;have g3':=hid (g3.trans hhq.out);clear De g3;gi_wp2_with (gi_at_lookup;(refine mZ _ rfl _ _ 154 rfl 3 Tryz.underlying154 (lZ _) Bm N M rfl HM.out (q:Int) rfl hwf (.int .i64 (q2:Int)) true (by rw [RS];rfl) (by rw [RS];rfl) ?_))
    exact ⟨⟨q2,rfl,g1,g2,g3',by first | rfl | trivial⟩,by simpa [intOf] using hlt⟩
 ·have hce:Hid ((p:Int) = (c:Int)):=by show _ = _;rw [abx.out,if_neg hs]
  have hs0:(0:Int)≤s:=by omega
  have hsd:decide (s < 0) = false:=by simpa using hs
  clear hs;refine callsIn_of_wp Tryz.func137 rfl hf ?_ hro;simp only [Tryz.ntmps137,List.size_toArray,List.length_cons,List.length_nil,Nat.reduceAdd,Nat.reduceSub,Array.replicate_succ,Array.replicate_zero,List.push_toArray,List.append_toArray,List.nil_append,List.cons_append];gi_wp2
  gi_loopw [1] (fun x wr=>∃ q:Nat,x = .int .i64 (q:Int)∧q < zs.length∧Wb.can zs q = q∧Hid (h q = h c)∧wr = w) (fun x _=>st (intOf x).toNat)
  case atStart=>exact ⟨c,by rw [← hce.out],hcl,hcc,rfl,rfl⟩
  case round =>
   obtain ⟨q,rfl,hq,hcq,hhq,rfl⟩:=hrel;have hwf:=wfN (n:=q) (by omega);cases De:T q with
   | none =>
    have RS:(M (q:Int)) = none:=by rw [HT.out,De];rfl
    have hroot:=hid ((HS.out.free q hq hcq).1 De);clear De;gi_wp2_with (gi_at_lookup;(refine mZ _ rfl _ _ 154 rfl 3 Tryz.underlying154 (lZ _) Bm N M rfl HM.out (q:Int) rfl hwf (.int .i64 0) false (by rw [RS];rfl) (by rw [RS];rfl) ?_))
    go_ret;exact ⟨by rw [hhd.out,← hhq.out,hroot.out];rfl,rfl⟩
   | some q2 =>
    have RS:(M (q:Int)) = some (.int .i64 (q2:Int)):=by rw [HT.out,De];rfl
    obtain ⟨g1,g2,g3⟩:=HS.out.next q q2 hq hcq De;have hlt:=Xj.out q q2 hq hcq De;have g3':=hid (g3.trans hhq.out);clear De g3;gi_wp2_with (gi_at_lookup;(refine mZ _ rfl _ _ 154 rfl 3 Tryz.underlying154 (lZ _) Bm N M rfl HM.out (q:Int) rfl hwf (.int .i64 (q2:Int)) true (by rw [RS];rfl) (by rw [RS];rfl) ?_))
    exact ⟨⟨q2,rfl,g1,g2,g3',by first | rfl | trivial⟩,by simpa [intOf] using hlt⟩
end
end Go.Proofs.YtglohanbpjaieaaGreat
namespace Go.Proofs.YtglohanbpjaieaaGreat
open Go.Proofs Go.RowKit Go.Shelf
namespace Wb
abbrev Sb:=Int→List Int
def App (θ:Sb) (t:List Int):List Int:=t.flatMap fun s=>if s < 0 then θ s else [s]
def TermSb (θ:Sb):Prop:=∀ s,s < 0→Tm.run (θ s) 1 = (θ s).length
theorem oO (θ:Sb):App θ [] = []:=rfl
theorem App_cons (θ:Sb) (s:Int) (l:List Int):App θ (s :: l) = (if s < 0 then θ s else [s])++App θ l:=by simp [App]
theorem Lv (θ:Sb) (l r:List Int):App θ (l++r) = App θ l++App θ r:=by simp [App]
theorem App_flatten (θ:Sb) (l:List (List Int)):App θ l.flatten = (l.map (App θ)).flatten:=by
 induction l with
 | nil=>rfl
 | cons x l ih=>rw [List.flatten_cons,Lv,ih,List.map_cons,List.flatten_cons]
theorem gM {s:Int} (h:s < 0):Tm.room s = 0:=by unfold Tm.room;rw [if_neg (by omega),if_neg (by omega)]
theorem OB {θ:Sb} (hθ:TermSb θ):∀ (t:List Int) (n:Nat),Tm.run t n = t.length→Tm.run (App θ t) n = (App θ t).length:=by
 intro t;induction t with
 | nil=>intro n hr;rw [Tm.jJ] at hr;subst hr;rw [List.length_nil,Tm.cZ];rfl
 | cons s l ih =>
  intro n hr;cases n with
  | zero=>rw [Tm.cZ,List.length_cons] at hr;omega
  | succ n =>
   rw [Tm.bU,List.length_cons] at hr;rw [App_cons];by_cases hs:s < 0
   ·rw [gM hs,Nat.add_zero] at hr
    rw [if_pos hs,show n+1 = 1+n from by omega,Tm.lV,Tm.kF _ _ 1 (by rw [hθ s hs];omega),hθ s hs,List.drop_left,ih n (by omega),List.length_append]
   ·rw [if_neg hs,List.singleton_append,Tm.bU,List.length_cons,ih _ (by omega)]
    omega
def cont (zs:List Int) (p:Nat):List Int:=Tm.part zs p
def kids (zs:List Int) (p:Nat):List Nat:=(List.range (Tm.room (sg zs p))).map (Tm.pos zs p)
theorem JG (zs:List Int) (p:Nat):(kids zs p).length = Tm.room (sg zs p):=by simp [kids]
theorem G7 {zs:List Int} {p:Nat} (hp:p < zs.length):Tm.ai zs p = Tm.pos zs p (Tm.room (sg zs p)):=Tm.nN zs p hp
theorem BC {zs:List Int} (k:Nat) {i j:Nat} (h:i < j):Tm.pos zs k i < Tm.pos zs k j:=by
 have h1:=Tm.mD zs k (i+1) j h;have h2:=Tm.ed zs k i;have h3:=Tm.dw zs (Tm.pos zs k i);omega
theorem jL {zs:List Int} (G:Good zs) {p i:Nat} (hp:p < zs.length) (hi:i < Tm.room (sg zs p)):Tm.pos zs p i < zs.length:=by
 have h1:=G.ends p hp;rw [G7 hp] at h1;have:=BC (zs:=zs) p hi
 omega
theorem PT {zs:List Int} {p:Nat}:∀ m,Tm.pos zs p m≤zs.length→(zs.drop (p+1)).take (Tm.pos zs p m - (p+1)) = (((List.range m).map (Tm.pos zs p)).map (cont zs)).flatten:=by
 intro m;induction m with
 | zero=>intro _;rw [Tm.dB];simp
 | succ m ih =>
  intro h;have h1:=Tm.ed zs p m;have h2:=Tm.jr zs p m;have h3:=Tm.dw zs (Tm.pos zs p m);rw [List.range_succ,List.map_append,List.map_append,List.flatten_append,← ih (by omega)];simp only [List.map_cons,List.map_nil,List.flatten_cons,List.flatten_nil,List.append_nil];unfold cont Tm.part;rw [h1,show Tm.ai zs (Tm.pos zs p m) - (p+1) = (Tm.pos zs p m - (p+1))+(Tm.ai zs (Tm.pos zs p m) - Tm.pos zs p m) from by omega,List.take_add,List.drop_drop,show p+1+(Tm.pos zs p m - (p+1)) = Tm.pos zs p m from by omega]
theorem Df {zs:List Int} (G:Good zs) {p:Nat} (hp:p < zs.length):cont zs p = sg zs p :: ((kids zs p).map (cont zs)).flatten:=by
 have h1:=G.ends p hp;have h2:=Tm.dw zs p;rw [show ((kids zs p).map (cont zs)).flatten = (zs.drop (p+1)).take (Tm.pos zs p (Tm.room (sg zs p)) - (p+1)) from (PT _ (by rw [← G7 hp];exact h1)).symm,← G7 hp];unfold cont Tm.part;rw [show Tm.ai zs p - p = (Tm.ai zs p - (p+1))+1 from by omega,List.drop_eq_getElem_cons hp,List.take_succ_cons];congr 1;simp [sg,hp]
theorem RU {zs:List Int} (G:Good zs) {p:Nat} (hp:p < zs.length):Tm.run (cont zs p) 1 = (cont zs p).length:=by
 have h1:=G.ends p hp;unfold Tm.ai at h1;have hl:Tm.run (zs.drop p) 1≤(zs.drop p).length:=by rw [List.length_drop];omega
 have:=Tm.JH (zs.drop p) 1 hl
 unfold cont Tm.part Tm.ai;rw [show p+Tm.run (zs.drop p) 1 - p = Tm.run (zs.drop p) 1 from by omega,this,List.length_take];omega
theorem qp {zs:List Int} (G:Good zs) {p:Nat} (hp:p < zs.length) (hs:sg zs p < 0):cont zs p = [sg zs p]:=by
 rw [Df G hp,show kids zs p = [] from by unfold kids;rw [gM hs];rfl];rfl
theorem RV {zs:List Int} (G:Good zs) {p:Nat} (hp:p < zs.length):cont zs (can zs p) = cont zs p:=by
 by_cases hs:sg zs p < 0
 ·rw [qp G hp hs,qp G (DN G hp) (by rw [G5 G hp];exact hs),G5 G hp]
 ·rw [oM (by omega)]
theorem Cm:∀ (l l':List (List Int)),(∀ x∈l,Tm.run x 1 = x.length)→(∀ x∈l',Tm.run x 1 = x.length)→l.length = l'.length→l.flatten = l'.flatten→l = l':=by
 intro l;induction l with
 | nil=>intro l' _ _ h _;cases l' with
  | nil=>rfl
  | cons x l'=>simp at h
 | cons x l ih =>
  intro l' h1 h2 h3 h4;cases l' with
  | nil=>simp at h3
  | cons y l' =>
   rw [List.flatten_cons,List.flatten_cons] at h4;have hx:=h1 x (by simp);have hy:=h2 y (by simp);have e1:=Tm.kF x l.flatten 1 (by omega);have e2:=Tm.kF y l'.flatten 1 (by omega);rw [h4,e2] at e1;obtain ⟨a,b⟩:=List.append_inj h4 (by omega);subst a;rw [ih l' (fun z hz=>h1 z (by simp [hz])) (fun z hz=>h2 z (by simp [hz])) (by simpa using h3) b]
theorem qw {zs:List Int} (G:Good zs) (θ:Sb) {p:Nat} (hp:p < zs.length) (hs:0≤sg zs p):App θ (cont zs p) = sg zs p :: ((kids zs p).map fun k=>App θ (cont zs k)).flatten:=by
 rw [Df G hp,App_cons,if_neg (by omega),App_flatten,List.map_map];rfl
theorem DR {zs:List Int} {p i:Nat} (hi:i < Tm.room (sg zs p)):(kids zs p)[i]? = some (Tm.pos zs p i):=by simp [kids,hi]
theorem G9 {zs:List Int} (G:Good zs) {θ:Sb} (hθ:TermSb θ) {p q:Nat} (hp:p < zs.length) (hq:q < zs.length) (sp:0≤sg zs p) (sq:0≤sg zs q) (h:App θ (cont zs p) = App θ (cont zs q)) :
 sg zs p = sg zs q∧∀ i,i < Tm.room (sg zs p)→App θ (cont zs (Tm.pos zs p i)) = App θ (cont zs (Tm.pos zs q i)):=by
 rw [qw G θ hp sp,qw G θ hq sq] at h;obtain ⟨e,h2⟩:=List.cons.inj h;have hrun:∀ r,r < zs.length→∀ x∈(kids zs r).map (fun k=>App θ (cont zs k)),Tm.run x 1 = x.length:=fun r hr x hx=>by
  rw [List.mem_map] at hx;obtain ⟨k,hk,rfl⟩:=hx;unfold kids at hk;rw [List.mem_map] at hk;obtain ⟨i,hi,rfl⟩:=hk;exact OB hθ _ 1 (RU G (jL G hr (List.mem_range.1 hi)))
 have h3:=Cm _ _ (hrun p hp) (hrun q hq) (by simp [kids,e]) h2;refine ⟨e,fun i hi=>?_⟩;have h4:=congrArg (fun l=>l[i]?) h3;simp only [List.getElem?_map] at h4;rw [DR hi,DR (by rw [← e];exact hi)] at h4;simpa using h4
def iY (zs:List Int) (h:Nat→Nat) (θ:Sb):Prop:=∀ p,p < zs.length→can zs p = p→App θ (cont zs p) = App θ (cont zs (h p))
theorem iY.hd {zs:List Int} (G:Good zs) {h:Nat→Nat} {θ:Sb} (R:iY zs h θ) {p:Nat} (hp:p < zs.length):App θ (cont zs p) = App θ (cont zs (hd zs h p)):=by
 rw [← RV G hp];exact R _ (DN G hp) (yO G hp)
inductive Jm (zs:List Int) (h:Nat→Nat) (P:List (Nat × Nat)):Nat→Nat→Prop
 | base (p q:Nat):p < zs.length→q < zs.length→hd zs h p = hd zs h q→Jm zs h P p q
 | pair (p q:Nat):(p,q)∈P→Jm zs h P p q
 | symm (p q:Nat):Jm zs h P p q→Jm zs h P q p
 | trans (p q r:Nat):Jm zs h P p q→Jm zs h P q r→Jm zs h P p r
def Closed (zs:List Int) (h:Nat→Nat) (P:List (Nat × Nat)):Prop :=
 ∀ p q,p < zs.length→q < zs.length→0≤sg zs p→0≤sg zs q→h p = h q→sg zs p = sg zs q∧∀ i,i < Tm.room (sg zs p)→Jm zs h P (Tm.pos zs p i) (Tm.pos zs q i)
theorem Jm.move {zs:List Int} {h h':Nat→Nat} {P P':List (Nat × Nat)} (hc:∀ p q,p < zs.length→q < zs.length→hd zs h p = hd zs h q→hd zs h' p = hd zs h' q) (hP:∀ p q,(p,q)∈P→Jm zs h' P' p q) {p q:Nat} (e:Jm zs h P p q):Jm zs h' P' p q:=by
 induction e with
 | base p q h1 h2 h3=>exact .base p q h1 h2 (hc p q h1 h2 h3)
 | pair p q h1=>exact hP p q h1
 | symm p q _ ih=>exact .symm _ _ ih
 | trans p q r _ _ i1 i2=>exact .trans _ _ _ i1 i2
structure kN (zs:List Int) (h h':Nat→Nat) (ps:List (Nat × Nat)):Prop where
 coarse:∀ p q,p < zs.length→q < zs.length→hd zs h p = hd zs h q→hd zs h' p = hd zs h' q
 sound:∀ θ,TermSb θ→iY zs h θ→(∀ p q,(p,q)∈ps→App θ (cont zs p) = App θ (cont zs q))→iY zs h' θ
 tied:∀ p q,(p,q)∈ps→hd zs h' p = hd zs h' q
 close:∀ P,Closed zs h (ps++P)→Closed zs h' P
theorem kN.nil (zs:List Int) (h:Nat→Nat):kN zs h h []:=⟨fun _ _ _ _ h=>h,fun _ _ R _=>R,fun p q h=>by simp at h,fun _ h=>h⟩
theorem kN.snoc {zs:List Int} {h h1 h2:Nat→Nat} {ps:List (Nat × Nat)} {a b:Nat} (A:kN zs h h1 ps) (B:kN zs h1 h2 [(a,b)]) (hps:∀ p q,(p,q)∈ps→p < zs.length∧q < zs.length):kN zs h h2 (ps++[(a,b)]):=by
 refine ⟨fun p q hp hq e=>B.coarse p q hp hq (A.coarse p q hp hq e),fun θ hθ R hq=>?_,fun p q hm=>?_,fun P hC=>?_⟩
 ·exact B.sound θ hθ (A.sound θ hθ R fun p q hm=>hq p q (List.mem_append_left _ hm)) fun p q hm=>hq p q (List.mem_append_right _ hm)
 ·rcases List.mem_append.1 hm with hm | hm
  ·exact B.coarse p q (hps p q hm).1 (hps p q hm).2 (A.tied p q hm)
  ·exact B.tied p q hm
 ·exact B.close P (A.close ([(a,b)]++P) (by rw [← List.append_assoc];exact hC))
theorem kN.same {zs:List Int} {h:Nat→Nat} {a b:Nat} (ha:a < zs.length) (hb:b < zs.length) (e:hd zs h a = hd zs h b):kN zs h h [(a,b)]:=by
 refine ⟨fun _ _ _ _ h=>h,fun _ _ R _=>R,fun p q hm=>by simp at hm;obtain ⟨rfl,rfl⟩:=hm;exact e,fun P hC p q hp hq sp sq ep=>?_⟩;obtain ⟨e1,e2⟩:=hC p q hp hq sp sq ep;refine ⟨e1,fun i hi=>(e2 i hi).move (fun _ _ _ _ h=>h) fun x y hm=>?_⟩;simp at hm;rcases hm with ⟨rfl,rfl⟩ | hm
 ·exact .base _ _ ha hb e
 ·exact .pair _ _ hm
end Wb
end Go.Proofs.YtglohanbpjaieaaGreat
